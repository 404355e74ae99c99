/- What a literal denotes: the reference model's hexadecimal digit, end of a literal, and reading of one. No conditions. -/
import Derived.Test.YtjgnigalodebkaaDoorJ3
import Derived.Deep.RegionLaw
namespace Go.Proofs.YtjgnigalodebkaaDoor
open Go.RowKit
set_option linter.unusedVariables false

theorem Lt.hex_peel {d c : UInt8} {x : Nat} (hd : d = 34 ∨ d = 39) (hc : Lt.hexN c = some x) : c ≠ d ∧ Lt.plain c = true ∧ c ≠ 92 := by
  rcases Lt.hexN_cases c with ⟨q1, q2, q3⟩ | ⟨q1, q2, q3⟩ | ⟨q1, q3⟩ | ⟨q1, q2, q3⟩ | ⟨q1, q3⟩
  · refine ⟨?_, (Lt.plain_iff c).2 (by omega), ?_⟩
    · rintro rfl; rcases hd with rfl | rfl <;> simp at q1
    · rintro rfl; simp at q2
  · refine ⟨?_, (Lt.plain_iff c).2 (by omega), ?_⟩
    · rintro rfl; rcases hd with rfl | rfl <;> simp at q1
    · rintro rfl; simp at q1
  all_goals (rw [q3] at hc; cases hc)
theorem Lt.ends_last {d : UInt8} (hd : d = 34 ∨ d = 39) (S : List UInt8) : ∀ m k n, S.length - k ≤ m → Lt.ends d S k = some n → ∃ h : n - 1 < S.length, 1 ≤ n ∧ S[n - 1] = d := by
  have hd1 : (92 : UInt8) ≠ d := by rcases hd with rfl | rfl <;> decide
  intro m
  induction m with
  | zero =>
    intro k n hm h
    have := (Lt.ends_lt h).1
    omega
  | succ m ih =>
    intro k n hm h
    have hk := (Lt.ends_lt h).1
    by_cases e : S[k] = d
    · rw [Lt.ends_hit hk e] at h
      cases h
      exact ⟨by omega, by omega, by simpa using e⟩
    · cases hp : Lt.plain S[k]
      · rw [Lt.ends_bad hk e hp] at h; cases h
      · by_cases h92 : S[k] = 92
        · rw [Lt.ends_back hk hd1 h92] at h
          exact ih (k + 2) n (by omega) h
        · rw [Lt.ends_one hk e hp h92] at h
          exact ih (k + 1) n (by omega) h

theorem ret_i64 {a b : Int} (h : a = b) : Ending.returned (.int .i64 a) = .returned (.int .i64 b) := by rw [h]
theorem hexv_any (b : UInt8) (w : World) : Calls Tryd.prog 47 #[.int .u8 (b.toNat : Int)] w fun e w' => e = .returned (.int .i64 (hexI b)) ∧ w = w' := by
  have hb := UInt8.toNat_lt b
  rcases Lt.hexN_cases b with ⟨h1, h2, e⟩ | ⟨h1, h2, e⟩ | ⟨h1, e⟩ | ⟨h1, h2, e⟩ | ⟨h1, e⟩
  · rw [hexI_some e]
    have t1 : (48 : Int) ≤ b.toNat := by omega
    have t2 : (b.toNat : Int) ≤ 57 := by omega
    have HV : Hid (((b.toNat - 48 : Nat) : Int) = (b.toNat : Int) - 48) := by show _ = _; omega
    clear e h1 h2
    go_enter Tryd.func47, Tryd.ntmps47
    go_wp2
    go_ret
    exact ⟨ret_i64 HV.out.symm, rfl⟩
  · rw [hexI_some e]
    have t1 : (97 : Int) ≤ b.toNat := by omega
    have t2 : (b.toNat : Int) ≤ 102 := by omega
    have t3 : (48 : Int) ≤ b.toNat := by omega
    have t4 : ¬ (b.toNat : Int) ≤ 57 := by omega
    have HV : Hid (((b.toNat - 87 : Nat) : Int) = (b.toNat : Int) - 87) := by show _ = _; omega
    clear e h1 h2
    go_enter Tryd.func47, Tryd.ntmps47
    go_wp2
    go_ret
    exact ⟨ret_i64 HV.out.symm, rfl⟩
  · rw [hexI_none e]
    have t1 : (b.toNat : Int) < 48 := by omega
    have t2 : (b.toNat : Int) < 97 := by omega
    clear e h1
    go_enter Tryd.func47, Tryd.ntmps47
    go_wp2
    go_ret
    exact ⟨rfl, rfl⟩
  · rw [hexI_none e]
    have t1 : (48 : Int) ≤ b.toNat := by omega
    have t2 : (57 : Int) < b.toNat := by omega
    have t3 : (b.toNat : Int) < 97 := by omega
    clear e h1 h2
    go_enter Tryd.func47, Tryd.ntmps47
    go_wp2
    go_ret
    exact ⟨rfl, rfl⟩
  · rw [hexI_none e]
    have t1 : (48 : Int) ≤ b.toNat := by omega
    have t2 : (57 : Int) < b.toNat := by omega
    have t3 : (97 : Int) ≤ b.toNat := by omega
    have t4 : (102 : Int) < b.toNat := by omega
    clear e h1
    go_enter Tryd.func47, Tryd.ntmps47
    go_wp2
    go_ret
    exact ⟨rfl, rfl⟩

/-- Where a literal ends, as the model answers it. -/
def endV : Option Nat → Int
  | some n => n
  | none => -1
def RetEnd (w : World) (o : Option Nat) (e : Ending) (w' : World) : Prop := e = .returned (.int .i64 (endV o)) ∧ Below w.heap.size w w'
theorem ret_end {z : Int} {o o' : Option Nat} (h : o = o') (hz : endV o' = z) : Ending.returned (.int .i64 z) = .returned (.int .i64 (endV o)) := by rw [h, hz]

set_option maxHeartbeats 1600000 in
theorem spec_end (s : ByteArray) (p : Nat) (w : World) (hs : (s.size : Int) ≤ 1048576) (hp : p < s.size) :
    Calls Tryd.prog 46 #[.string s, .int .i64 (p : Int)] w (RetEnd w (Lt.ends s[p] s.data.toList (p + 1))) := by
  unfold RetEnd
  generalize hE : Lt.ends s[p] s.data.toList (p + 1) = E
  have HE := Lib.hid hE
  have HL := Lib.hid (len8 s)
  have hpi : (p : Int) < s.size := by omega
  have hp0 : (0 : Int) ≤ p := by omega
  clear hE
  go_enter Tryd.func46, Tryd.ntmps46
  go_wp2
  go_loopw [4, 5] (fun _ i wr => ∃ k q : Nat, i = .int .i64 k ∧ k ≤ s.size + 1 ∧ Lt.ends s[p] s.data.toList k = E ∧ wr = w.drewN q) (fun _ i _ => s.size + 1 - (intOf i).toNat)
  case atStart => exact ⟨p + 1, 0, by go_num, by omega, HE.out, rfl⟩
  case round =>
    clear HE
    obtain ⟨k, q, rfl, hk, he, rfl⟩ := hrel
    have HE := Lib.hid he
    clear he
    have k0 : (0 : Int) ≤ k := by omega
    by_cases hlt : k < s.size
    · have ki : (k : Int) < s.size := by omega
      have hkl : k < s.data.toList.length := by rw [HL.out]; exact hlt
      by_cases hh : s[k] = s[p]
      · have t1 : ((s[k].toNat : Int) == (s[p].toNat : Int)) = true := by rw [hh]; simp
        have HH := Lib.hid (Lt.ends_hit (d := s[p]) hkl hh)
        clear hh
        go_wp2_with fail
        go_quiet (fail)
        go_wp2
        go_ret
        exact ⟨ret_end (HE.out.symm.trans HH.out) (by simp [endV]), drewN8 (Below.refl _ _) _⟩
      · have t1 := ne_int hh
        cases hpl : Lt.plain s[k]
        · have HB := Lib.hid (Lt.ends_bad (d := s[p]) hkl hh hpl)
          rcases (Lt.plain_no _).1 hpl with h | h
          · have u1 : (s[k].toNat : Int) < 32 := by omega
            clear hh hpl h
            go_wp2_with fail
            go_quiet (fail)
            go_wp2
            go_ret
            exact ⟨ret_end (HE.out.symm.trans HB.out) rfl, drewN8 (Below.refl _ _) _⟩
          · have u1 : ¬ (s[k].toNat : Int) < 32 := by omega
            have u2 : (126 : Int) < s[k].toNat := by omega
            clear hh hpl h
            go_wp2_with fail
            go_quiet (fail)
            go_wp2
            go_ret
            exact ⟨ret_end (HE.out.symm.trans HB.out) rfl, drewN8 (Below.refl _ _) _⟩
        · obtain ⟨g1, g2⟩ := (Lt.plain_iff _).1 hpl
          have u1 : ¬ (s[k].toNat : Int) < 32 := by omega
          have u2 : ¬ (126 : Int) < s[k].toNat := by omega
          by_cases h92 : s[k] = 92
          · have u3 : ((s[k].toNat : Int) == 92) = true := by rw [h92]; rfl
            have HB := Lib.hid (Lt.ends_back (d := s[p]) hkl (fun e => hh (h92.trans e)) h92)
            clear hh hpl h92 g1 g2
            go_wp2_with fail
            go_quiet (fail)
            go_wp2
            go_roundw
            case rel => exact ⟨k + 2, _, by first | rfl | go_num | (congr 1; omega), by omega, HB.out.symm.trans HE.out, rfl⟩
            case measure => first | (simp [intOf]; done) | (simp [intOf]; omega)
          · have u3 : ((s[k].toNat : Int) == 92) = false := ne_int (b := 92) h92
            have HB := Lib.hid (Lt.ends_one (d := s[p]) hkl hh hpl h92)
            clear hh hpl h92 g1 g2
            go_wp2_with fail
            go_quiet (fail)
            go_wp2
            go_roundw
            case rel => exact ⟨k + 1, _, by first | rfl | go_num, by omega, HB.out.symm.trans HE.out, rfl⟩
            case measure => first | (simp [intOf]; done) | (simp [intOf]; omega)
    · have HO := Lib.hid (Lt.ends_over (d := s[p]) (S := s.data.toList) (k := k) (by rw [HL.out]; omega))
      have ki : ¬ (k : Int) < s.size := by omega
      go_wp2
      go_ret
      exact ⟨ret_end (HE.out.symm.trans HO.out) rfl, drewN8 (Below.refl _ _) _⟩
end Go.Proofs.YtjgnigalodebkaaDoor
