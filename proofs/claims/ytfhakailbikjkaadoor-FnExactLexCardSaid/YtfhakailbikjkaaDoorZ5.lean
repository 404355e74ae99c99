/- Joined texts: J4, J6, J8, J7, C3, C4. No conditions besides those that each states. -/
import Derived.Deep.RegionLaw
import Derived.Deep.RegionHeld3
import Derived.Deep.DrawnRows
import Derived.Deep.DeepCutAuto
import Derived.Test.YtfhakailbikjkaaDoorZ3
import Derived.Test.YtfhakailbikjkaaDoorZ4
/- What a literal denotes: the program's unquote, its loop. No conditions beside what the variable holds. -/
namespace Go.Proofs.YtfhakailbikjkaaDoor
open Go.RowKit
set_option linter.unusedVariables false

def sizeV : Value → Nat
  | .string s => s.size
  | _ => 0
set_option maxRecDepth 100000 in
set_option maxHeartbeats 1600000 in
theorem unq_yes (a : Addr) (d : UInt8) (s : ByteArray) (w : World) (hS : SentAt a w) (hs : (s.size : Int) ≤ 1048576) (n : Nat) (hn : s.size = n + 1) (h1 : 1 ≤ n) (h2 : s[0] = d) (h3 : s[n] = d) (hlit : Lt.lit d s.data.toList = Lt.uq d (s.data.toList.drop 1).dropLast) :
    Calls Tryd.prog 62 #[.string s, .int .u8 (d.toNat : Int)] w (RetLit w d s.data.toList) := by
  unfold RetLit
  have hxc := cut_mid s n hn
  have hll : (s.data.toList.drop 1).dropLast.length ≤ 1048576 := by rw [List.length_dropLast, List.length_drop, len8]; omega
  generalize hL : (s.data.toList.drop 1).dropLast = L at *
  obtain ⟨i0, hi, hz0, hz1, hz2⟩ := info_parts info8
  obtain ⟨w0, hmk0, hown0, hgr0⟩ := run_make_own (P := Tryd.prog) w w.heap.size 55 5 i0 (.int .u8 0) 1 Tryd.underlying55 hi hz0 hz1 .i64 .i64 L.length (by rw [hz2]; omega) (max8b (by omega)) (Nat.le_refl _)
  have hbel0 : Below w.heap.size w w0 := (Below.refl _ _).grown hgr0 (Nat.le_refl _) (fun k hk => by cases hk)
  have HU : Hid (UAt w d L L [] (.slice (some ⟨w.heap.size, 0, none⟩) 0 L.length) w0) := ⟨hown0, Lt.rd_start d L, by simp, hbel0⟩
  have hzl := str8_size L
  have HLIT := Lib.hid hlit
  have HS := Lib.hid hS
  clear hown0 hgr0 hbel0 hi hz0 hz1 hz2 hlit hL hS
  have t1 : ¬ ((n : Int) + 1) < 2 := by omega
  have t2 : ((s[0].toNat : Int) == (d.toNat : Int)) = true := by rw [h2]; simp
  have t3 : ((s[0].toNat : Int) != (d.toNat : Int)) = false := by simp only [bne, t2]; rfl
  have t4 : ((s[n].toNat : Int) == (d.toNat : Int)) = true := by rw [h3]; simp
  have t5 : ((s[n].toNat : Int) != (d.toNat : Int)) = false := by simp only [bne, t4]; rfl
  clear h2 h3
  generalize s.data.toList = S at *
  go_enter Tryd.func62, Tryd.ntmps62
  go_wp2
  go_loopw [4, 5, 6, 7, 8, 9, 10, 53] (fun _ _ x v _ _ _ _ wr => ∃ R A : List UInt8, x = .string (str8 R) ∧ UAt w d L R A v wr) (fun _ _ x _ _ _ _ _ _ => sizeV x)
  case atStart => exact ⟨L, [], rfl, HU.out⟩
  case round =>
    clear hmk0 HU hzl hxc t1 t2 t3 t4 t5
    obtain ⟨R, A, rfl, hu⟩ := hrel
    have HU := Lib.hid hu
    have HO := Lib.hid hu.1
    have hsz := hu.2.2.2.size
    have hlen := hu.2.2.1
    clear hu
    rcases R with _ | ⟨b, r⟩
    · have c1 : (str8 []).toList = [] := by rw [ByteArray.toList_eq]; rfl
      have c2 : (str8 []).toList.isEmpty = true := by rw [c1]; rfl
      have hcv := conv8 HO.out
      have HY := Lib.hid (lit_yes (HLIT.out.trans (Lt.rd_end HU.out.2.1)))
      go_wp2
      go_ret2
      exact ⟨HY.out, HU.out.2.2.2⟩
    · have hstep := step_eq d b r
      have HSZ : Hid ((str8 (b :: r)).size = r.length + 1) := by show _ = _; rw [str8_size]; rfl
      generalize hx : str8 (b :: r) = x at HSZ
      have hz : x.size = r.length + 1 := HSZ.out
      have j0 : 0 < x.size := by rw [hz]; omega
      have i0 : (0 : Int) < x.size := by omega
      have i1 : (1 : Int) ≤ x.size := by omega
      have c1 : ¬ x.toList = [] := by rw [ByteArray.toList_eq]; intro h; have h3 : x.data.toList.length = x.size := rfl; rw [h, List.length_nil] at h3; omega
      have c2 : x.toList.isEmpty = false := by simpa using c1
      have x0 : x[0] = b := str_at hx.symm 0 j0 (by simp)
      have xc : x.extract 1 x.size = str8 r := str_cut hx.symm 1
      have hrl : (r.length : Int) ≤ 10000000 := by simp at hlen; omega
      have hal : (A.length : Int) ≤ 10000000 := by simp at hlen; omega
      clear hz hlen
      clear hx
      by_cases hbad : b = d ∨ Lt.plain b = false
      · rw [if_pos hbad] at hstep
        have HNO := Lib.hid (lit_no (HLIT.out.trans (Lt.rd_bad HU.out.2.1 (by simp) hstep)))
        clear hstep
        by_cases hbd : b = d
        · have u1 : ((b.toNat : Int) == (d.toNat : Int)) = true := by rw [hbd]; simp
          clear hbd hbad
          go_wp2_with fail
          go_quiet (fail)
          go_wp2
          go_ret2
          exact ⟨HNO.out, drewN8 HU.out.2.2.2 _⟩
        · have u1 := ne_int hbd
          have HP := Lib.hid (fun W => plain_any b W)
          rw [show Lt.plain b = false by rcases hbad with h | h; exact absurd h hbd; exact h] at HP
          clear hbd hbad
          go_wp2_with fail
          go_quiet (fail)
          go_wp2_with (go_at_call 66; refine (HP.out _).mono ?_; rintro e w1 ⟨rfl, rfl⟩)
          go_ret2
          exact ⟨HNO.out, drewN8 HU.out.2.2.2 _⟩
      · rw [if_neg hbad] at hstep
        have u1 := ne_int (fun h => hbad (.inl h) : b ≠ d)
        have HP := Lib.hid (fun W => plain_any b W)
        rw [show Lt.plain b = true by cases hp : Lt.plain b; exact absurd (.inr hp) hbad; rfl] at HP
        clear hbad
        by_cases h92 : b = 92
        · rw [if_pos h92] at hstep
          have u2 : ((b.toNat : Int) == 92) = true := by rw [h92]; rfl
          clear h92
          have HR := Lib.hid (fun W hW => read_esc a r W hW hrl)
          unfold RetEsc at HR
          cases ho : Lt.esc r with
          | none =>
            rw [ho] at hstep HR
            have HNO := Lib.hid (lit_no (HLIT.out.trans (Lt.rd_bad HU.out.2.1 (by simp) hstep)))
            clear hstep ho
            unfold escE at HR
            go_wp2_with fail
            go_quiet (fail)
            go_wp2_with (first | (go_at_call 66; refine (HP.out _).mono ?_; rintro e w1 ⟨rfl, rfl⟩) | fail)
            refine (HR.out _ ?k1).mono ?_
            case k1 => exact sentAt_below HS.out (drewN8 HU.out.2.2.2 _)
            rintro e w2 ⟨rfl, hb2⟩
            have HB2 := Lib.hid (HU.out.2.2.2.trans ((drewN8 (Below.refl w.heap.size wr) nq).trans (hb2.mono hsz)))
            have hS2 := sentAt_below HS.out HB2.out
            unfold SentAt at hS2
            clear hb2
            go_wp2_with fail
            refine (is_same a _).mono ?_
            rintro e w3 ⟨rfl, rfl⟩
            go_wp2
            go_ret2
            exact ⟨HNO.out, HB2.out⟩
          | some y =>
            obtain ⟨c, q⟩ := y
            rw [ho] at hstep HR
            have HST := Lib.hid hstep
            have HQ := Lib.hid (Lt.esc_len ho)
            clear hstep ho
            unfold escE at HR
            go_wp2_with fail
            go_quiet (fail)
            go_wp2_with (first | (go_at_call 66; refine (HP.out _).mono ?_; rintro e w1 ⟨rfl, rfl⟩) | fail)
            refine (HR.out _ ?k2).mono ?_
            case k2 => exact sentAt_below HS.out (drewN8 HU.out.2.2.2 _)
            rintro e w2 ⟨rfl, hb2⟩
            have HB1 := Lib.hid ((drewN8 (Below.refl w.heap.size wr) nq).trans (hb2.mono hsz))
            have HB2 := Lib.hid (HU.out.2.2.2.trans HB1.out)
            have HO2 := Lib.hid (own8_below (own8_drewN HO.out nq) hb2)
            have hS2 := sentAt_below HS.out HB2.out
            have hsz2 := HB2.out.size
            unfold SentAt at hS2
            clear hb2
            go_wp2_with fail
            refine (is_nil a _).mono ?_
            rintro e w3 ⟨rfl, rfl⟩
            go_wp2_with (at_builtin; refine wpList_app8 rfl _ _ rfl w.heap.size _ A [c] rfl HO2.out hsz2 1 rfl rfl (by omega) _ _ rfl ?_)
            intro v3 w3 HO3 HB3
            have HN := Lib.hid (UAt.next HU HST.out HO3 (Lib.hid (HB1.out.trans HB3.out)))
            clear HO3 HB3 hS2
            go_wp2
            go_roundw
            case rel => exact ⟨q, A ++ [c], rfl, HN.out⟩
            case measure => first | (simp [sizeV, str8_size]; have := HQ.out; have := HSZ.out; omega) | trace_state
        · rw [if_neg h92] at hstep
          have u2 : ((b.toNat : Int) == 92) = false := ne_int (b := 92) h92
          have HST := Lib.hid hstep
          clear h92 hstep
          have HOq := Lib.hid (fun k => own8_drewN HO.out k)
          go_wp2_with fail
          go_quiet (fail)
          have HO1 := Lib.hid (HOq.out nq)
          have HB1 := Lib.hid (drewN8 (Below.refl w.heap.size wr) nq)
          have hsz1 := Nat.le_trans hsz HB1.out.size
          clear HOq
          generalize wr.drewN nq = wq at *
          go_wp2_with (first | (go_at_call 66; refine (HP.out _).mono ?_; rintro e w1 ⟨rfl, rfl⟩) | (at_builtin; refine wpList_app8 rfl _ _ rfl w.heap.size _ A [b] rfl HO1.out hsz1 1 rfl rfl (by omega) _ _ rfl ?_))
          intro v3 w3 HO3 HB3
          have HN := Lib.hid (UAt.next HU HST.out HO3 (Lib.hid (HB1.out.trans HB3.out)))
          clear HO3 HB3
          go_wp2
          go_roundw
          case rel => exact ⟨r, A ++ [b], rfl, HN.out⟩
          case measure => first | (simp [sizeV, str8_size]; have := HSZ.out; omega) | trace_state
end Go.Proofs.YtfhakailbikjkaaDoor
/- What a literal denotes: the reference model's hexadecimal digit, end of a literal, and reading of one. No conditions. -/
namespace Go.Proofs.YtfhakailbikjkaaDoor
open Go.RowKit
set_option linter.unusedVariables false

theorem Lt.hex_peel {d c : UInt8} {x : Nat} (hd : d = 34 ∨ d = 39) (hc : Lt.hexN c = some x) : c ≠ d ∧ Lt.plain c = true ∧ c ≠ 92 := by
  rcases Lt.hexN_cases c with ⟨q1, q2, q3⟩ | ⟨q1, q2, q3⟩ | ⟨q1, q3⟩ | ⟨q1, q2, q3⟩ | ⟨q1, q3⟩
  · refine ⟨?_, (Lt.plain_iff c).2 (by omega), ?_⟩
    · rintro rfl; rcases hd with rfl | rfl <;> simp at q1
    · rintro rfl; simp at q2
  · refine ⟨?_, (Lt.plain_iff c).2 (by omega), ?_⟩
    · rintro rfl; rcases hd with rfl | rfl <;> simp at q1
    · rintro rfl; simp at q1
  all_goals (rw [q3] at hc; cases hc)
theorem Lt.ends_last {d : UInt8} (hd : d = 34 ∨ d = 39) (S : List UInt8) : ∀ m k n, S.length - k ≤ m → Lt.ends d S k = some n → ∃ h : n - 1 < S.length, 1 ≤ n ∧ S[n - 1] = d := by
  have hd1 : (92 : UInt8) ≠ d := by rcases hd with rfl | rfl <;> decide
  intro m
  induction m with
  | zero =>
    intro k n hm h
    have := (Lt.ends_lt h).1
    omega
  | succ m ih =>
    intro k n hm h
    have hk := (Lt.ends_lt h).1
    by_cases e : S[k] = d
    · rw [Lt.ends_hit hk e] at h
      cases h
      exact ⟨by omega, by omega, by simpa using e⟩
    · cases hp : Lt.plain S[k]
      · rw [Lt.ends_bad hk e hp] at h; cases h
      · by_cases h92 : S[k] = 92
        · rw [Lt.ends_back hk hd1 h92] at h
          exact ih (k + 2) n (by omega) h
        · rw [Lt.ends_one hk e hp h92] at h
          exact ih (k + 1) n (by omega) h

theorem ret_i64 {a b : Int} (h : a = b) : Ending.returned (.int .i64 a) = .returned (.int .i64 b) := by rw [h]
theorem hexv_any (b : UInt8) (w : World) : Calls Tryd.prog 46 #[.int .u8 (b.toNat : Int)] w fun e w' => e = .returned (.int .i64 (hexI b)) ∧ w = w' := by
  have hb := UInt8.toNat_lt b
  rcases Lt.hexN_cases b with ⟨h1, h2, e⟩ | ⟨h1, h2, e⟩ | ⟨h1, e⟩ | ⟨h1, h2, e⟩ | ⟨h1, e⟩
  · rw [hexI_some e]
    have t1 : (48 : Int) ≤ b.toNat := by omega
    have t2 : (b.toNat : Int) ≤ 57 := by omega
    have HV : Hid (((b.toNat - 48 : Nat) : Int) = (b.toNat : Int) - 48) := by show _ = _; omega
    clear e h1 h2
    go_enter Tryd.func46, Tryd.ntmps46
    go_wp2
    go_ret
    exact ⟨ret_i64 HV.out.symm, rfl⟩
  · rw [hexI_some e]
    have t1 : (97 : Int) ≤ b.toNat := by omega
    have t2 : (b.toNat : Int) ≤ 102 := by omega
    have t3 : (48 : Int) ≤ b.toNat := by omega
    have t4 : ¬ (b.toNat : Int) ≤ 57 := by omega
    have HV : Hid (((b.toNat - 87 : Nat) : Int) = (b.toNat : Int) - 87) := by show _ = _; omega
    clear e h1 h2
    go_enter Tryd.func46, Tryd.ntmps46
    go_wp2
    go_ret
    exact ⟨ret_i64 HV.out.symm, rfl⟩
  · rw [hexI_none e]
    have t1 : (b.toNat : Int) < 48 := by omega
    have t2 : (b.toNat : Int) < 97 := by omega
    clear e h1
    go_enter Tryd.func46, Tryd.ntmps46
    go_wp2
    go_ret
    exact ⟨rfl, rfl⟩
  · rw [hexI_none e]
    have t1 : (48 : Int) ≤ b.toNat := by omega
    have t2 : (57 : Int) < b.toNat := by omega
    have t3 : (b.toNat : Int) < 97 := by omega
    clear e h1 h2
    go_enter Tryd.func46, Tryd.ntmps46
    go_wp2
    go_ret
    exact ⟨rfl, rfl⟩
  · rw [hexI_none e]
    have t1 : (48 : Int) ≤ b.toNat := by omega
    have t2 : (57 : Int) < b.toNat := by omega
    have t3 : (97 : Int) ≤ b.toNat := by omega
    have t4 : (102 : Int) < b.toNat := by omega
    clear e h1
    go_enter Tryd.func46, Tryd.ntmps46
    go_wp2
    go_ret
    exact ⟨rfl, rfl⟩

/-- Where a literal ends, as the model answers it. -/
def endV : Option Nat → Int
  | some n => n
  | none => -1
def RetEnd (w : World) (o : Option Nat) (e : Ending) (w' : World) : Prop := e = .returned (.int .i64 (endV o)) ∧ Below w.heap.size w w'
theorem ret_end {z : Int} {o o' : Option Nat} (h : o = o') (hz : endV o' = z) : Ending.returned (.int .i64 z) = .returned (.int .i64 (endV o)) := by rw [h, hz]

set_option maxHeartbeats 1600000 in
theorem spec_end (s : ByteArray) (p : Nat) (w : World) (hs : (s.size : Int) ≤ 1048576) (hp : p < s.size) :
    Calls Tryd.prog 22 #[.string s, .int .i64 (p : Int)] w (RetEnd w (Lt.ends s[p] s.data.toList (p + 1))) := by
  unfold RetEnd
  generalize hE : Lt.ends s[p] s.data.toList (p + 1) = E
  have HE := Lib.hid hE
  have HL := Lib.hid (len8 s)
  have hpi : (p : Int) < s.size := by omega
  have hp0 : (0 : Int) ≤ p := by omega
  clear hE
  go_enter Tryd.func22, Tryd.ntmps22
  go_wp2
  go_loopw [4, 5] (fun _ i wr => ∃ k q : Nat, i = .int .i64 k ∧ k ≤ s.size + 1 ∧ Lt.ends s[p] s.data.toList k = E ∧ wr = w.drewN q) (fun _ i _ => s.size + 1 - (intOf i).toNat)
  case atStart => exact ⟨p + 1, 0, by go_num, by omega, HE.out, rfl⟩
  case round =>
    clear HE
    obtain ⟨k, q, rfl, hk, he, rfl⟩ := hrel
    have HE := Lib.hid he
    clear he
    have k0 : (0 : Int) ≤ k := by omega
    by_cases hlt : k < s.size
    · have ki : (k : Int) < s.size := by omega
      have hkl : k < s.data.toList.length := by rw [HL.out]; exact hlt
      by_cases hh : s[k] = s[p]
      · have t1 : ((s[k].toNat : Int) == (s[p].toNat : Int)) = true := by rw [hh]; simp
        have HH := Lib.hid (Lt.ends_hit (d := s[p]) hkl hh)
        clear hh
        go_wp2_with fail
        go_quiet (fail)
        go_wp2
        go_ret
        exact ⟨ret_end (HE.out.symm.trans HH.out) (by simp [endV]), drewN8 (Below.refl _ _) _⟩
      · have t1 := ne_int hh
        cases hpl : Lt.plain s[k]
        · have HB := Lib.hid (Lt.ends_bad (d := s[p]) hkl hh hpl)
          rcases (Lt.plain_no _).1 hpl with h | h
          · have u1 : (s[k].toNat : Int) < 32 := by omega
            clear hh hpl h
            go_wp2_with fail
            go_quiet (fail)
            go_wp2
            go_ret
            exact ⟨ret_end (HE.out.symm.trans HB.out) rfl, drewN8 (Below.refl _ _) _⟩
          · have u1 : ¬ (s[k].toNat : Int) < 32 := by omega
            have u2 : (126 : Int) < s[k].toNat := by omega
            clear hh hpl h
            go_wp2_with fail
            go_quiet (fail)
            go_wp2
            go_ret
            exact ⟨ret_end (HE.out.symm.trans HB.out) rfl, drewN8 (Below.refl _ _) _⟩
        · obtain ⟨g1, g2⟩ := (Lt.plain_iff _).1 hpl
          have u1 : ¬ (s[k].toNat : Int) < 32 := by omega
          have u2 : ¬ (126 : Int) < s[k].toNat := by omega
          by_cases h92 : s[k] = 92
          · have u3 : ((s[k].toNat : Int) == 92) = true := by rw [h92]; rfl
            have HB := Lib.hid (Lt.ends_back (d := s[p]) hkl (fun e => hh (h92.trans e)) h92)
            clear hh hpl h92 g1 g2
            go_wp2_with fail
            go_quiet (fail)
            go_wp2
            go_roundw
            case rel => exact ⟨k + 2, _, by first | rfl | go_num | (congr 1; omega), by omega, HB.out.symm.trans HE.out, rfl⟩
            case measure => first | (simp [intOf]; done) | (simp [intOf]; omega)
          · have u3 : ((s[k].toNat : Int) == 92) = false := ne_int (b := 92) h92
            have HB := Lib.hid (Lt.ends_one (d := s[p]) hkl hh hpl h92)
            clear hh hpl h92 g1 g2
            go_wp2_with fail
            go_quiet (fail)
            go_wp2
            go_roundw
            case rel => exact ⟨k + 1, _, by first | rfl | go_num, by omega, HB.out.symm.trans HE.out, rfl⟩
            case measure => first | (simp [intOf]; done) | (simp [intOf]; omega)
    · have HO := Lib.hid (Lt.ends_over (d := s[p]) (S := s.data.toList) (k := k) (by rw [HL.out]; omega))
      have ki : ¬ (k : Int) < s.size := by omega
      go_wp2
      go_ret
      exact ⟨ret_end (HE.out.symm.trans HO.out) rfl, drewN8 (Below.refl _ _) _⟩
end Go.Proofs.YtfhakailbikjkaaDoor
/- A call that only answers, as a step of a region that draws its order. -/
namespace Go.Proofs.YtfhakailbikjkaaDoor
open Go.RowKit
set_option linter.unusedVariables false
theorem step_hexv {w : World} {ops : Array Oper} {o : Oper} {a : Act} {K : Act → World → Prop} {Q : Exit → Act → World → Prop} {E : Prop} (hgd : o.guard = none) (x : Operand)
    (ho : o.op = .call { callee := .value (.func 46), args := #[x], argTypes := #[5] }) (b : UInt8) (z : Int) (hx : a.eval x = .int .u8 (b.toNat : Int)) (hc : Calls Tryd.prog 46 #[.int .u8 (b.toNat : Int)] w fun e w' => e = .returned (.int .i64 z) ∧ w = w')
    (h : K (a.put o.dst (.int .i64 z)) w) : if Region.wanted o (yielded ops a.tmps) = true then Oper.wp Tryd.prog o a w K Q else E := by
  have hw : Region.wanted o (yielded ops a.tmps) = true := by simp [Region.wanted, hgd]
  rw [if_pos hw]
  have hen : (execOp a.eval o).run Tryd.prog w = .ok (.enter 46 #[.int .u8 (b.toNat : Int)]) w := by
    unfold execOp
    rw [ho]
    have hx2 : a.eval x = .int .u8 (b.toNat : Int) := hx
    unfold Act.eval at hx2
    go_simp
    simpa using hx2
  unfold Oper.wp
  rw [hen, Oper.upon_enter]
  exact hc.mono fun e w' ⟨h1, h2⟩ => by subst h1; subst h2; exact h
end Go.Proofs.YtfhakailbikjkaaDoor
/- What a literal denotes: the reference model's reading of one. No conditions. -/
namespace Go.Proofs.YtfhakailbikjkaaDoor
open Go.RowKit
set_option linter.unusedVariables false

theorem end_zero (d : UInt8) (s : ByteArray) (w : World) (hs : (s.size : Int) ≤ 1048576) (h0 : 0 < s.size) (hd : s[0] = d) : Calls Tryd.prog 22 #[.string s, .int .i64 0] w (RetEnd w (Lt.ends d s.data.toList 1)) := by
  have h := spec_end s 0 w hs h0
  rw [hd] at h
  exact h
/-- The three ways in which a text is no literal for the model, and the one in which it goes on. -/
theorem slit_cases (d : UInt8) (hd : d = 34 ∨ d = 39) (s : ByteArray) : (s.size < 2 ∧ Lt.lit d s.data.toList = none)
    ∨ (∃ h : 2 ≤ s.size, (s[0] ≠ d ∧ Lt.lit d s.data.toList = none) ∨ (s[0] = d ∧ Lt.ends d s.data.toList 1 ≠ some s.size ∧ Lt.lit d s.data.toList = none)
      ∨ (s[0] = d ∧ Lt.ends d s.data.toList 1 = some s.size ∧ Lt.lit d s.data.toList = Lt.uq d (s.data.toList.dropLast.drop 1))) := by
  have hl := len8 s
  have hdd : (s.data.toList.drop 1).dropLast = s.data.toList.dropLast.drop 1 := by
    rw [List.dropLast_eq_take, List.dropLast_eq_take, List.drop_take, List.length_drop]
  rcases lit_cases d s with h | ⟨n, hn, h1, ⟨h2, e⟩ | ⟨h2, h3, e⟩ | ⟨h2, h3, h4, e⟩⟩
  · exact .inl h
  · exact .inr ⟨by omega, .inl ⟨h2, e⟩⟩
  · refine .inr ⟨by omega, .inr (.inl ⟨h2, ?_, e⟩)⟩
    intro h5
    obtain ⟨q1, q2, q3⟩ := Lt.ends_last hd s.data.toList _ 1 s.size (Nat.le_refl _) h5
    apply h3
    have e2 : s.size - 1 = n := by omega
    have q4 : s.data.toList[s.size - 1]'q1 = s[n] := by congr 1
    rw [← q4]; exact q3
  · by_cases h5 : Lt.ends d s.data.toList 1 = some s.size
    · exact .inr ⟨by omega, .inr (.inr ⟨h2, h5, by rw [e, hdd]⟩)⟩
    · refine .inr ⟨by omega, .inr (.inl ⟨h2, h5, ?_⟩)⟩
      rw [e, hdd]
      exact Lt.ends_no hd s.data.toList h4 _ 1 (Nat.le_refl _) (by omega) (by rw [hl]; exact h5)
theorem end_ne {o : Option Nat} {n : Nat} (h : o ≠ some n) : (endV o == (n : Int)) = false := by
  cases o with
  | none => simp [endV]
  | some m =>
    have : m ≠ n := fun e => h (by rw [e])
    simp [endV]; omega
theorem sunq_no (d : UInt8) (s : ByteArray) (w : World) (hs : (s.size : Int) ≤ 1048576) (h : (s.size < 2 ∧ Lt.lit d s.data.toList = none) ∨ (∃ h : 2 ≤ s.size, (s[0] ≠ d ∧ Lt.lit d s.data.toList = none) ∨ (s[0] = d ∧ Lt.ends d s.data.toList 1 ≠ some s.size ∧ Lt.lit d s.data.toList = none))) :
    Calls Tryd.prog 35 #[.string s, .int .u8 (d.toNat : Int)] w (RetLit w d s.data.toList) := by
  unfold RetLit
  rcases h with ⟨h2, e⟩ | ⟨h1, ⟨h2, e⟩ | ⟨h2, h3, e⟩⟩
  · have HL := Lib.hid (lit_no e)
    have t1 : (s.size : Int) < 2 := by omega
    clear e h2
    go_enter Tryd.func35, Tryd.ntmps35
    go_wp2
    go_ret2
    exact ⟨HL.out, Below.refl _ _⟩
  · have HL := Lib.hid (lit_no e)
    have t1 : ¬ (s.size : Int) < 2 := by omega
    have t0 : (0 : Int) < s.size := by omega
    have t2 : ((s[0].toNat : Int) == (d.toNat : Int)) = false := ne_int h2
    have t3 : ((s[0].toNat : Int) != (d.toNat : Int)) = true := by simp only [bne, t2]; rfl
    clear e h2
    go_enter Tryd.func35, Tryd.ntmps35
    go_wp2
    go_ret2
    exact ⟨HL.out, Below.refl _ _⟩
  · have HL := Lib.hid (lit_no e)
    have t1 : ¬ (s.size : Int) < 2 := by omega
    have t0 : (0 : Int) < s.size := by omega
    have t2 : ((s[0].toNat : Int) == (d.toNat : Int)) = true := by rw [h2]; simp
    have t3 : ((s[0].toNat : Int) != (d.toNat : Int)) = false := by simp only [bne, t2]; rfl
    have HE := Lib.hid (fun W => end_zero d s W hs (by omega) h2)
    have t4 := end_ne h3
    have t5 : (endV (Lt.ends d s.data.toList 1) != (s.size : Int)) = true := by simp only [bne, t4]; rfl
    unfold RetEnd at HE
    generalize endV (Lt.ends d s.data.toList 1) = z at HE t4 t5
    clear e h2 h3
    go_enter Tryd.func35, Tryd.ntmps35
    go_wp2_with (go_at_call 22; refine (HE.out _).mono ?_; rintro e w1 ⟨rfl, hb1⟩; have HB1 := Lib.hid hb1; clear hb1)
    go_ret2
    exact ⟨HL.out, HB1.out⟩

/-- The state of the loop: places. -/
def VAt (w : World) (d : UInt8) (S A : List UInt8) (k : Nat) (v : Value) (wr : World) : Prop := Own8 wr w.heap.size v A ∧ Lt.Rd d (S.dropLast.drop 1) A (S.dropLast.drop k) ∧ Lt.ends d S k = some S.length ∧ A.length ≤ k ∧ Below w.heap.size w wr
theorem VAt.next {w wr w2 : World} {d b : UInt8} {S A : List UInt8} {k k2 : Nat} {v v2 : Value} (h : Hid (VAt w d S A k v wr)) (hs : Hid (Lt.step d (S.dropLast.drop k) = some (b, S.dropLast.drop k2))) (he : Hid (Lt.ends d S k2 = some S.length)) (hk : k < k2) (ho : Hid (Own8 w2 w.heap.size v2 (A ++ [b]))) (h2 : Hid (Below w.heap.size wr w2)) : VAt w d S (A ++ [b]) k2 v2 w2 := by
  have h4 := h.out.2.2.2.1
  refine ⟨ho.out, Lt.rd_next h.out.2.1 hs.out, he.out, ?_, h.out.2.2.2.2.trans h2.out⟩
  rw [List.length_append, List.length_singleton]; omega
theorem VAt.bad {w wr : World} {d : UInt8} {S A : List UInt8} {k : Nat} {v : Value} (h : Hid (VAt w d S A k v wr)) (hk : k + 1 < S.length) (hs : Lt.step d (S.dropLast.drop k) = none) (hl : Hid (Lt.lit d S = Lt.uq d (S.dropLast.drop 1))) : Lt.lit d S = none :=
  hl.out.trans (Lt.rd_bad h.out.2.1 (by intro e; have := congrArg List.length e; simp at this; omega) hs)
theorem drop_mid {S : List UInt8} {k : Nat} (h : k + 1 < S.length) : S.dropLast.drop k = S[k] :: S.dropLast.drop (k + 1) := by
  have hT : k < S.dropLast.length := by rw [List.length_dropLast]; omega
  rw [List.drop_eq_getElem_cons hT, List.getElem_dropLast]
theorem esc_short {S : List UInt8} {k : Nat} (h : S.length ≤ k + 2) : Lt.esc (120 :: S.dropLast.drop k) = none := by
  have hl : (S.dropLast.drop k).length < 2 := by rw [List.length_drop, List.length_dropLast]; omega
  generalize S.dropLast.drop k = R at hl
  rcases R with _ | ⟨b, _ | ⟨c, R⟩⟩
  · simp [Lt.esc]
  · simp [Lt.esc]
  · simp at hl; omega

set_option maxRecDepth 100000 in
set_option maxHeartbeats 3200000 in
theorem sunq_yes (d : UInt8) (hd : d = 34 ∨ d = 39) (s : ByteArray) (w : World) (hs : (s.size : Int) ≤ 1048576) (h1 : 2 ≤ s.size) (h2 : s[0] = d) (h3 : Lt.ends d s.data.toList 1 = some s.size) (hlit : Lt.lit d s.data.toList = Lt.uq d (s.data.toList.dropLast.drop 1)) :
    Calls Tryd.prog 35 #[.string s, .int .u8 (d.toNat : Int)] w (RetLit w d s.data.toList) := by
  unfold RetLit
  have HL := Lib.hid (len8 s)
  have HLIT := Lib.hid hlit
  have t1 : ¬ (s.size : Int) < 2 := by omega
  have t0 : (0 : Int) < s.size := by omega
  have t2 : ((s[0].toNat : Int) == (d.toNat : Int)) = true := by rw [h2]; simp
  have t3 : ((s[0].toNat : Int) != (d.toNat : Int)) = false := by simp only [bne, t2]; rfl
  have HE : Hid (∀ W, Calls Tryd.prog 22 #[.string s, .int .i64 0] W fun e w' => e = .returned (.int .i64 s.size) ∧ Below W.heap.size W w') := by
    intro W
    have h := end_zero d s W hs (by omega) h2
    rw [h3] at h
    exact h
  have HV : Hid (∀ W, Below w.heap.size w W → VAt w d s.data.toList [] 1 (.slice (some ⟨W.heap.size, 0, none⟩) 0 0) (W.alloc (.cells #[] 5))) := fun W hb => by
    refine ⟨?_, Lt.rd_start d _, by rw [HL.out]; exact h3, by simp, hb.alloc hb.size _⟩
    have h := own8_lit W w.heap.size [] 0 hb.size rfl (by decide)
    exact h
  clear h3 hlit h2
  go_enter Tryd.func35, Tryd.ntmps35
  go_wp2_with (go_at_call 22; refine (HE.out _).mono ?_; rintro e w1 ⟨rfl, hb1⟩; have HV1 := Lib.hid (HV.out _ hb1); clear hb1)
  go_loopw [4, 5, 6, 7, 8, 9] (fun _ _ v i _ _ wr => ∃ (k : Nat) (A : List UInt8), i = .int .i64 k ∧ k ≤ s.size ∧ VAt w d s.data.toList A k v wr) (fun _ _ _ i _ _ _ => s.size - (intOf i).toNat)
  case atStart => exact ⟨1, [], rfl, by omega, HV1.out⟩
  case round =>
    clear HE HV HV1 t1 t2 t3
    obtain ⟨k, A, rfl, hk, hv⟩ := hrel
    have HVA := Lib.hid hv
    have HO := Lib.hid hv.1
    have hsz := hv.2.2.2.2.size
    have hal := hv.2.2.2.1
    have hkl := (Lt.ends_lt hv.2.2.1).1
    have hen := hv.2.2.1
    clear hv
    rw [HL.out] at hkl
    have HEN := Lib.hid hen
    clear hen
    by_cases hlt : k + 1 < s.size
    · have hks : k < s.size := by omega
      have hklt : (k : Int) < (s.size : Int) - 1 := by omega
      have hk1 : k + 1 < s.data.toList.length := by rw [HL.out]; exact hlt
      rcases Lt.round_cases hd hk1 HEN.out with ⟨g1, g2, g3⟩ | ⟨g1, g2, g3, g4⟩
      · have u1 : ((s[k].toNat : Int) == 92) = false := ne_int (b := 92) g1
        have u2 : ((s[k].toNat : Int) != 92) = true := by simp only [bne, u1]; rfl
        have G2 := Lib.hid g2
        have G3 := Lib.hid g3
        clear g1 g2 g3
        go_wp2_with (at_builtin; refine wpList_app8 rfl _ _ rfl w.heap.size _ A [s[k]] rfl HO.out hsz 1 rfl rfl (by omega) _ _ rfl ?_)
        intro v3 w3 HO3 HB3
        have HN := Lib.hid (VAt.next HVA G3 G2 (Nat.lt_succ_self _) HO3 HB3)
        clear HO3 HB3
        go_wp2
        go_roundw
        case rel => exact ⟨k + 1, _, by go_num, by omega, HN.out⟩
        case measure => first | (simp [intOf]; done) | (simp [intOf]; omega)
      · have u1 : ((s[k].toNat : Int) == 92) = true := by rw [show s[k] = 92 from g1]; rfl
        have u2 : ((s[k].toNat : Int) != 92) = false := by simp only [bne, u1]; rfl
        rw [HL.out] at g2
        have hk2 : k + 2 < s.data.toList.length := by rw [HL.out]; exact g2
        have hks1 : k + 1 < s.size := by omega
        have hki : (k : Int) + 1 < s.size := by omega
        have hki0 : (0 : Int) ≤ (k : Int) + 1 := by omega
        have hkn : ((k : Int) + 1).toNat = k + 1 := by omega
        rw [drop_mid (k := k + 1) hk2] at g4
        have hcc : s.data.toList[k + 1] = s[k + 1] := rfl
        rw [hcc] at g4
        have G3 := Lib.hid g3
        have G4 := Lib.hid g4
        clear g1 g3 g4 hcc
        rcases esc_cases (s[k + 1] :: s.data.toList.dropLast.drop (k + 1 + 1)) with ⟨h, _⟩ | ⟨c, r, hcr, hc⟩
        · cases h
        · obtain ⟨hc0, hr0⟩ := List.cons.inj hcr
          subst hr0
          rw [hc0] at G4 hc
          clear hcr
          rcases hc with ⟨h, e⟩ | ⟨h, e⟩ | ⟨h, e⟩ | ⟨h, e⟩ | ⟨h, e⟩ | h | ⟨h1', h2', h3', h4', h5', h6', e⟩
          · have G5 : Hid (Lt.step d (s.data.toList.dropLast.drop k) = some (10, s.data.toList.dropLast.drop (k + 2))) := G4.out.trans e
            have v110 : ((c.toNat : Int) == 110) = true := by rw [h]; rfl
            clear h e G4
            go_wp2_with (at_builtin; refine wpList_app8 rfl _ _ rfl w.heap.size _ A [10] rfl HO.out hsz 1 rfl rfl (by omega) _ _ rfl ?_)
            intro v3 w3 HO3 HB3
            have HN := Lib.hid (VAt.next HVA G5 G3 (by omega) HO3 HB3)
            clear HO3 HB3
            go_wp2
            go_roundw
            case rel => exact ⟨k + 2, _, by first | rfl | go_num | (congr 1; omega), by omega, HN.out⟩
            case measure => first | (simp [intOf]; done) | (simp [intOf]; omega)
          · have G5 : Hid (Lt.step d (s.data.toList.dropLast.drop k) = some (9, s.data.toList.dropLast.drop (k + 2))) := G4.out.trans e
            have v110 : ((c.toNat : Int) == 110) = false := by rw [h]; rfl
            have v116 : ((c.toNat : Int) == 116) = true := by rw [h]; rfl
            clear h e G4
            go_wp2_with (at_builtin; refine wpList_app8 rfl _ _ rfl w.heap.size _ A [9] rfl HO.out hsz 1 rfl rfl (by omega) _ _ rfl ?_)
            intro v3 w3 HO3 HB3
            have HN := Lib.hid (VAt.next HVA G5 G3 (by omega) HO3 HB3)
            clear HO3 HB3
            go_wp2
            go_roundw
            case rel => exact ⟨k + 2, _, by first | rfl | go_num | (congr 1; omega), by omega, HN.out⟩
            case measure => first | (simp [intOf]; done) | (simp [intOf]; omega)
          · have G5 : Hid (Lt.step d (s.data.toList.dropLast.drop k) = some (c, s.data.toList.dropLast.drop (k + 2))) := G4.out.trans e
            have v110 : ((c.toNat : Int) == 110) = false := by rw [h]; rfl
            have v116 : ((c.toNat : Int) == 116) = false := by rw [h]; rfl
            have v92 : ((c.toNat : Int) == 92) = true := by rw [h]; rfl
            clear h e G4
            go_wp2_with (at_builtin; refine wpList_app8 rfl _ _ rfl w.heap.size _ A [c] rfl HO.out hsz 1 rfl rfl (by omega) _ _ rfl ?_)
            intro v3 w3 HO3 HB3
            have HN := Lib.hid (VAt.next HVA G5 G3 (by omega) HO3 HB3)
            clear HO3 HB3
            go_wp2
            go_roundw
            case rel => exact ⟨k + 2, _, by first | rfl | go_num | (congr 1; omega), by omega, HN.out⟩
            case measure => first | (simp [intOf]; done) | (simp [intOf]; omega)
          · have G5 : Hid (Lt.step d (s.data.toList.dropLast.drop k) = some (c, s.data.toList.dropLast.drop (k + 2))) := G4.out.trans e
            have v110 : ((c.toNat : Int) == 110) = false := by rw [h]; rfl
            have v116 : ((c.toNat : Int) == 116) = false := by rw [h]; rfl
            have v92 : ((c.toNat : Int) == 92) = false := by rw [h]; rfl
            have v34 : ((c.toNat : Int) == 34) = true := by rw [h]; rfl
            clear h e G4
            go_wp2_with (at_builtin; refine wpList_app8 rfl _ _ rfl w.heap.size _ A [c] rfl HO.out hsz 1 rfl rfl (by omega) _ _ rfl ?_)
            intro v3 w3 HO3 HB3
            have HN := Lib.hid (VAt.next HVA G5 G3 (by omega) HO3 HB3)
            clear HO3 HB3
            go_wp2
            go_roundw
            case rel => exact ⟨k + 2, _, by first | rfl | go_num | (congr 1; omega), by omega, HN.out⟩
            case measure => first | (simp [intOf]; done) | (simp [intOf]; omega)
          · have G5 : Hid (Lt.step d (s.data.toList.dropLast.drop k) = some (c, s.data.toList.dropLast.drop (k + 2))) := G4.out.trans e
            have v110 : ((c.toNat : Int) == 110) = false := by rw [h]; rfl
            have v116 : ((c.toNat : Int) == 116) = false := by rw [h]; rfl
            have v92 : ((c.toNat : Int) == 92) = false := by rw [h]; rfl
            have v34 : ((c.toNat : Int) == 34) = false := by rw [h]; rfl
            have v39 : ((c.toNat : Int) == 39) = true := by rw [h]; rfl
            clear h e G4
            go_wp2_with (at_builtin; refine wpList_app8 rfl _ _ rfl w.heap.size _ A [c] rfl HO.out hsz 1 rfl rfl (by omega) _ _ rfl ?_)
            intro v3 w3 HO3 HB3
            have HN := Lib.hid (VAt.next HVA G5 G3 (by omega) HO3 HB3)
            clear HO3 HB3
            go_wp2
            go_roundw
            case rel => exact ⟨k + 2, _, by first | rfl | go_num | (congr 1; omega), by omega, HN.out⟩
            case measure => first | (simp [intOf]; done) | (simp [intOf]; omega)
          · subst h
            by_cases hlen : k + 4 < s.size
            · have hk4 : k + 3 + 1 < s.data.toList.length := by rw [HL.out]; omega
              have hks2 : k + 2 < s.size := by omega
              have hks3 : k + 3 < s.size := by omega
              have m1 : (k : Int) + 3 < (s.size : Int) - 1 := by omega
              have m2 : (k : Int) + 2 < s.size := by omega
              have m3 : (k : Int) + 3 < s.size := by omega
              have m4 : (0 : Int) ≤ (k : Int) + 2 := by omega
              have m5 : (0 : Int) ≤ (k : Int) + 3 := by omega
              have m6 : ((k : Int) + 2).toNat = k + 2 := by omega
              have m7 : ((k : Int) + 3).toNat = k + 3 := by omega
              have g4 := G4.out
              rw [drop_mid (k := k + 1 + 1) (by rw [HL.out]; omega), drop_mid (k := k + 1 + 1 + 1) hk4] at g4
              have hx0 : s.data.toList[k + 1 + 1]'(by rw [HL.out]; omega) = s[k + 2] := rfl
              have hy0 : s.data.toList[k + 1 + 1 + 1]'(by rw [HL.out]; omega) = s[k + 3] := rfl
              rw [hx0, hy0] at g4
              clear hx0 hy0 G4
              have HX := Lib.hid (fun W => hexv_any s[k + 2] W)
              have HY := Lib.hid (fun W => hexv_any s[k + 3] W)
              cases ex : Lt.hexN s[k + 2] with
              | none =>
                rw [hexI_none ex] at HX
                have HNO := Lib.hid (lit_no (VAt.bad HVA hk1 (g4.trans (by simp [Lt.esc, ex])) HLIT))
                clear g4 ex G3
                go_wp2_with ((go_at_call 46; refine (HX.out _).mono ?_; rintro e w5 ⟨rfl, rfl⟩))
                go_ret2
                exact ⟨HNO.out, HVA.out.2.2.2.2⟩
              | some x =>
                have x16 := Lt.hexN_lt ex
                rw [hexI_some ex] at HX
                have x0 : (0 : Int) ≤ x := by omega
                cases ey : Lt.hexN s[k + 3] with
                | none =>
                  rw [hexI_none ey] at HY
                  have HNO := Lib.hid (lit_no (VAt.bad HVA hk1 (g4.trans (by simp [Lt.esc, ex, ey])) HLIT))
                  clear g4 ex ey G3
                  go_wp2_with (first | ((go_at_call 46; with_reducible refine (HX.out _).mono ?_); rintro e w5 ⟨rfl, rfl⟩) | ((go_at_call 46; with_reducible refine (HY.out _).mono ?_); rintro e w6 ⟨rfl, rfl⟩))
                  go_ret2
                  exact ⟨HNO.out, HVA.out.2.2.2.2⟩
                | some y =>
                  have y16 := Lt.hexN_lt ey
                  rw [hexI_some ey] at HY
                  have y0 : (0 : Int) ≤ y := by omega
                  have G5 : Hid (Lt.step d (s.data.toList.dropLast.drop k) = some (UInt8.ofNat (16 * x + y), s.data.toList.dropLast.drop (k + 4))) := g4.trans (by simp [Lt.esc, ex, ey])
                  have G6 : Hid (Lt.ends d s.data.toList (k + 4) = some s.data.toList.length) := by
                    obtain ⟨p1, p2, p3⟩ := Lt.hex_peel hd ex
                    obtain ⟨p4, p5, p6⟩ := Lt.hex_peel hd ey
                    have q := G3.out
                    rw [Lt.ends_one hk2 p1 p2 p3, Lt.ends_one (by rw [HL.out]; omega) p4 p5 p6] at q
                    exact q
                  obtain ⟨b, hb⟩ : ∃ b, b = UInt8.ofNat (16 * x + y) := ⟨_, rfl⟩
                  have hbn : b.toNat = 16 * x + y := by rw [hb, UInt8.toNat_ofNat']; omega
                  rw [← hb] at G5
                  have HBN := Lib.hid (show 16 * (x : Int) + y = (b.toNat : Int) by omega)
                  have e1 : IntKind.i64.wrap (16 * (x : Int)) = 16 * (x : Int) := IntWalk.i64_in _ (by omega)
                  have e2 : IntKind.i64.wrap (16 * (x : Int) + y) = (b.toNat : Int) := by rw [HBN.out]; exact IntWalk.i64_in _ (by have := UInt8.toNat_lt b; omega)
                  have e3 : IntKind.u8.wrap (b.toNat : Int) = b.toNat := by have := UInt8.toNat_lt b; simp [IntKind.wrap, IntKind.signed, IntKind.bits]; omega
                  have e4 : IntKind.i64.wrap ((k : Int) + 2) = (k : Int) + 2 := IntWalk.i64_in _ (by omega)
                  have e5 : IntKind.i64.wrap ((k : Int) + 3) = (k : Int) + 3 := IntWalk.i64_in _ (by omega)
                  clear g4 ex ey G3 hb hbn
                  go_wp2_with (first | ((go_at_call 46; with_reducible refine (HX.out _).mono ?_); rintro e w5 ⟨rfl, rfl⟩) | ((go_at_call 46; with_reducible refine (HY.out _).mono ?_); rintro e w6 ⟨rfl, rfl⟩))
                  go_region_law (first
                    | (refine step_hexv rfl (.tmp 101) rfl s[k + 2] x (by first | (simp [Act.eval]; done) | simp [Act.eval, Act.put]) (HX.out _) ?_)
                    | (refine step_hexv rfl (.tmp 107) rfl s[k + 3] y (by first | (simp [Act.eval]; done) | simp [Act.eval, Act.put]) (HY.out _) ?_)
                    | (refine step_app8d rfl (.tmp 97) (.tmp 111) rfl w.heap.size _ A [b] (by first | (simp [Act.eval]; done) | simp [Act.eval, Act.put]) HO.out hsz 1 rfl (by first | (simp [Act.eval]; done) | simp [Act.eval, Act.put]) (by omega) _ _ rfl ?_; intro v' w2 HO2 HB2))
                  all_goals
                    have HN := Lib.hid (VAt.next HVA G5 G6 (by omega) HO2 HB2)
                    clear HO2 HB2 e1 e2 e3 e4 e5
                    simp only [List.getElem_toArray, List.getElem_cons_succ, List.getElem_cons_zero, Act.put, List.setIfInBounds_toArray, List.set_cons_succ, List.set_cons_zero]
                    go_wp2
                    go_roundw
                    case rel => exact ⟨k + 4, _, by first | rfl | go_num | (congr 1; omega), by omega, HN.out⟩
                    case measure => first | (simp [intOf]; done) | (simp [intOf]; omega)
            · have m1 : ¬ ((k : Int) + 3 < (s.size : Int) - 1) := by omega
              have HNO := Lib.hid (lit_no (VAt.bad HVA hk1 (G4.out.trans (esc_short (by rw [HL.out]; omega))) HLIT))
              clear G4 G3
              go_wp2
              go_ret2
              exact ⟨HNO.out, HVA.out.2.2.2.2⟩
          · have HNO := Lib.hid (lit_no (VAt.bad HVA hk1 (G4.out.trans e) HLIT))
            have v110 : ((c.toNat : Int) == 110) = false := ne_int (b := 110) h1'
            have v116 : ((c.toNat : Int) == 116) = false := ne_int (b := 116) h2'
            have v92 : ((c.toNat : Int) == 92) = false := ne_int (b := 92) h3'
            have v34 : ((c.toNat : Int) == 34) = false := ne_int (b := 34) h4'
            have v39 : ((c.toNat : Int) == 39) = false := ne_int (b := 39) h5'
            have v120 : ((c.toNat : Int) == 120) = false := ne_int (b := 120) h6'
            clear h1' h2' h3' h4' h5' h6' e G4 G3
            go_wp2
            go_ret2
            exact ⟨HNO.out, HVA.out.2.2.2.2⟩
    · have hkend : ¬ (k : Int) < (s.size : Int) - 1 := by omega
      have hcv := conv8 HO.out
      have HY : Hid (Ending.returned (.tuple #[.string (str8 A), .bool true]) = .returned (.tuple #[.string (str8 (Lt.litL d s.data.toList)), .bool (Lt.litB d s.data.toList)])) := by
        refine lit_yes (HLIT.out.trans (Lt.rd_end ?_))
        have h := HVA.out.2.1
        rwa [List.drop_eq_nil_of_le (i := k) (by rw [List.length_dropLast, HL.out]; omega)] at h
      go_wp2
      go_ret2
      exact ⟨HY.out, HVA.out.2.2.2.2⟩
end Go.Proofs.YtfhakailbikjkaaDoor
/- HasByte of the program, and the walks of the laws on HasByte and on the four set operations. No conditions. -/
namespace Go.Proofs.YtfhakailbikjkaaDoor
open Go.RowKit
attribute [local go_sem ↓] Go.wp_at_zero Go.wp_at_succ
set_option linter.unusedVariables false

theorem Cs.has_one (a b x : Int) (h0 : 0 ≤ x) (h1 : x ≤ 255) : (!(bits .and .i64 a (Cs.oneL x) == 0) || !(bits .and .i64 b (Cs.oneH x) == 0)) = Cs.mem a b x.toNat := by
  unfold Cs.oneL Cs.oneH
  by_cases ha : x < 64
  · rw [if_pos ha, if_pos ha, Cs.mem_low (by omega), Cs.and_zero, ← Cs.test_bit a x.toNat (by omega)]
    simp [bne]
  · rw [if_neg ha, if_neg ha, Cs.and_zero]
    by_cases hb : x < 128
    · have e0 : x.toNat - 64 = (x - 64).toNat := by omega
      rw [if_pos hb, Cs.mem_high (by omega) (by omega), e0, ← Cs.test_bit b (x - 64).toNat (by omega)]
      simp [bne]
    · rw [if_neg hb, Cs.mem_out (by omega), Cs.and_zero]; rfl

theorem below_step {w wa wb : World} (h : Below w.heap.size w wa) (hb : Below wa.heap.size wa wb) : Below w.heap.size w wb := h.trans (hb.mono h.size)
theorem keep_cells {B : Nat} {w0 w1 w2 : World} {cs : Array Value} {T : TypeId} {fr : Nat × Nat} (h : w1.heap[B]? = some (.cells cs T fr)) (hb : Below w1.heap.size w1 w2) : w2.heap[B]? = some (.cells cs T fr) := by
  rw [hb.block B (Array.getElem?_eq_some_iff.1 h).1]; exact h

/-- What HasByte returns, by the two words of the intersection. -/
theorem has_by (a b x p q : Int) (w : World) (h0 : 0 ≤ x) (h1 : x ≤ 255) (HI : Hid (∀ W, Calls Tryd.prog 72 #[.agg #[.int .i64 a, .int .i64 b], .agg #[.int .i64 (Cs.oneL x), .int .i64 (Cs.oneH x)]] W (RetSet W p q))) (r : Bool)
    (hr : (p ≠ 0 ∧ r = true) ∨ (p = 0 ∧ q ≠ 0 ∧ r = true) ∨ (p = 0 ∧ q = 0 ∧ r = false)) : Calls Tryd.prog 65 #[.agg #[.int .i64 a, .int .i64 b], .int .u8 x] w (RetBool w r) := by
  rcases hr with ⟨hp, rfl⟩ | ⟨rfl, hq, rfl⟩ | ⟨rfl, rfl, rfl⟩
  · have hp2 : (p == 0) = false := by simpa using hp
    clear hp
    go_enter Tryd.func65, Tryd.ntmps65
    go_wp2
    go_region_held3 (fun w' => w'.cell? ⟨w.heap.size, 0, none⟩ = some (.int .i64 a) ∧ w'.cell? ⟨w.heap.size, 1, none⟩ = some (.int .i64 b) ∧ Below w.heap.size w w')
      (first | ((refine ⟨?_, ?_, (bl1 _ _).drew⟩) <;> go_keep) | (go_split_ands; exact ⟨cell_later (by assumption) (by assumption), cell_later (by assumption) (by assumption), below_step (by assumption) (by assumption)⟩))
      (first | (go_at_call 70; refine (impl_one x _ h0 h1).mono ?_; rintro e w1 ⟨rfl, hb1⟩) | (go_at_call 72; refine (HI.out _).mono ?_; rintro e w2 ⟨rfl, hb2⟩))
    have hB : Below w.heap.size w w2 := by
      have hh := ‹w2.cell? ⟨w.heap.size, 0, none⟩ = some (.int .i64 a) ∧ w2.cell? ⟨w.heap.size, 1, none⟩ = some (.int .i64 b) ∧ Below w.heap.size w w2›
      exact hh.2.2
    go_wp2
    go_ret
    exact ⟨rfl, hB⟩
  · have hq2 : (q == 0) = false := by simpa using hq
    clear hq
    go_enter Tryd.func65, Tryd.ntmps65
    go_wp2
    go_region_held3 (fun w' => w'.cell? ⟨w.heap.size, 0, none⟩ = some (.int .i64 a) ∧ w'.cell? ⟨w.heap.size, 1, none⟩ = some (.int .i64 b) ∧ Below w.heap.size w w')
      (first | ((refine ⟨?_, ?_, (bl1 _ _).drew⟩) <;> go_keep) | (go_split_ands; exact ⟨cell_later (by assumption) (by assumption), cell_later (by assumption) (by assumption), below_step (by assumption) (by assumption)⟩))
      (first | (go_at_call 70; refine (impl_one x _ h0 h1).mono ?_; rintro e w1 ⟨rfl, hb1⟩) | (go_at_call 72; refine (HI.out _).mono ?_; rintro e w2 ⟨rfl, hb2⟩))
    have hB : Below w.heap.size w w2 := by
      have hh := ‹w2.cell? ⟨w.heap.size, 0, none⟩ = some (.int .i64 a) ∧ w2.cell? ⟨w.heap.size, 1, none⟩ = some (.int .i64 b) ∧ Below w.heap.size w w2›
      exact hh.2.2
    go_wp2
    go_ret
    exact ⟨rfl, hB⟩
  · go_enter Tryd.func65, Tryd.ntmps65
    go_wp2
    go_region_held3 (fun w' => w'.cell? ⟨w.heap.size, 0, none⟩ = some (.int .i64 a) ∧ w'.cell? ⟨w.heap.size, 1, none⟩ = some (.int .i64 b) ∧ Below w.heap.size w w')
      (first | ((refine ⟨?_, ?_, (bl1 _ _).drew⟩) <;> go_keep) | (go_split_ands; exact ⟨cell_later (by assumption) (by assumption), cell_later (by assumption) (by assumption), below_step (by assumption) (by assumption)⟩))
      (first | (go_at_call 70; refine (impl_one x _ h0 h1).mono ?_; rintro e w1 ⟨rfl, hb1⟩) | (go_at_call 72; refine (HI.out _).mono ?_; rintro e w2 ⟨rfl, hb2⟩))
    have hB : Below w.heap.size w w2 := by
      have hh := ‹w2.cell? ⟨w.heap.size, 0, none⟩ = some (.int .i64 a) ∧ w2.cell? ⟨w.heap.size, 1, none⟩ = some (.int .i64 b) ∧ Below w.heap.size w w2›
      exact hh.2.2
    go_wp2
    go_ret
    exact ⟨rfl, hB⟩

theorem impl_has (a b x : Int) (w : World) (h0 : 0 ≤ x) (h1 : x ≤ 255) : Calls Tryd.prog 65 #[.agg #[.int .i64 a, .int .i64 b], .int .u8 x] w (RetBool w (Cs.mem a b x.toNat)) := by
  rw [← Cs.has_one a b x h0 h1]
  refine has_by a b x _ _ w h0 h1 (fun W => impl_and _ _ _ _ W) _ ?_
  generalize bits .and .i64 a (Cs.oneL x) = p
  generalize bits .and .i64 b (Cs.oneH x) = q
  by_cases hp : p = 0
  · by_cases hq : q = 0
    · exact .inr (.inr ⟨hp, hq, by simp [hp, hq]⟩)
    · exact .inr (.inl ⟨hp, hq, by simp [hp, hq]⟩)
  · exact .inl ⟨hp, by simp [hp]⟩

end Go.Proofs.YtfhakailbikjkaaDoor
/- Sets in memory, and the walks of the laws on HasByte and ComplementCset. No conditions. -/
namespace Go.Proofs.YtfhakailbikjkaaDoor
open Go.RowKit
attribute [local go_sem ↓] Go.wp_at_zero Go.wp_at_succ
set_option linter.unusedVariables false

/-- A set lies in memory. -/
abbrev SetAt (w : World) (b : Nat) (l h : Int) : Prop := w.cell? ⟨b, 0, none⟩ = some (.int .i64 l) ∧ w.cell? ⟨b, 1, none⟩ = some (.int .i64 h)
theorem SetAt.later {w wx : World} {b : Nat} {l h : Int} (s : SetAt w b l h) (hb : Below w.heap.size w wx) : SetAt wx b l h := ⟨cell_later hb s.1, cell_later hb s.2⟩
theorem SetAt.lt {w : World} {b : Nat} {l h : Int} (s : SetAt w b l h) : b < w.heap.size := World.block_lt_of_cell? _ _ s.1
theorem SetAt.drew {w : World} {b : Nat} {l h : Int} (s : SetAt w b l h) : SetAt w.drew b l h := s
theorem SetAt.new (w : World) (l h : Int) (T : TypeId) : SetAt (w.alloc (.cells #[.int .i64 l, .int .i64 h] T)) w.heap.size l h := by
  refine ⟨?_, ?_⟩ <;> go_simp
theorem SetAt.far {w : World} {b g : Nat} {l h : Int} (s : SetAt w b l h) (hne : b ≠ g) (x y : Value) : SetAt ((w.setCell ⟨g, 0, none⟩ x).setCell ⟨g, 1, none⟩ y) b l h := by
  obtain ⟨s0, s1⟩ := s
  exact ⟨by rw [World.cell?_setCell_far _ _ _ _ (by simpa using Ne.symm hne), World.cell?_setCell_far _ _ _ _ (by simpa using Ne.symm hne)]; exact s0, by rw [World.cell?_setCell_far _ _ _ _ (by simpa using Ne.symm hne), World.cell?_setCell_far _ _ _ _ (by simpa using Ne.symm hne)]; exact s1⟩
/-- A new variable for a set. -/
def VarAt (wx : World) (g : Nat) : Prop := SetAt wx g 0 0 ∧ wx.frozen? ⟨g, 0, none⟩ = false ∧ wx.frozen? ⟨g, 1, none⟩ = false
theorem free_later {w wx : World} {g o : Nat} (hb : Below w.heap.size w wx) (hl : g < w.heap.size) (h : w.frozen? ⟨g, o, none⟩ = false) : wx.frozen? ⟨g, o, none⟩ = false := (hb.frozen (p := ⟨g, o, none⟩) hl).trans h
theorem VarAt.later {wa wb : World} {g : Nat} (h : VarAt wa g) (hb : Below wa.heap.size wa wb) : VarAt wb g :=
  ⟨h.1.later hb, free_later hb h.1.lt h.2.1, free_later hb h.1.lt h.2.2⟩
theorem var_new {W : World} {T : TypeId} : VarAt (W.alloc (.cells #[.int .i64 0, .int .i64 0] T)) W.heap.size := by
  refine ⟨SetAt.new _ _ _ _, ?_, ?_⟩ <;> go_simp
theorem var_newd {W : World} {T : TypeId} : VarAt (W.alloc (.cells #[.int .i64 0, .int .i64 0] T)).drew W.heap.size := by
  refine ⟨SetAt.new _ _ _ _, ?_, ?_⟩ <;> go_simp
theorem SetAt.stored {w : World} {g : Nat} (h : VarAt w g) (l k : Int) : SetAt ((w.setCell ⟨g, 0, none⟩ (.int .i64 l)).setCell ⟨g, 1, none⟩ (.int .i64 k)) g l k := by
  obtain ⟨⟨h0, h1⟩, h2, h3⟩ := h
  refine ⟨?_, ?_⟩ <;> go_simp
theorem below_store {B g : Nat} {w wa : World} (h : Below B w wa) (hg : B ≤ g) (x y : Value) : Below B w ((wa.setCell ⟨g, 0, none⟩ x).setCell ⟨g, 1, none⟩ y) := (h.setCell hg _).setCell hg _

/-- Two sets lie in memory, and what was there before is as it was. -/
abbrev Sets2 (w : World) (x y : Nat) (a0 b0 a1 b1 : Int) (w' : World) : Prop := (SetAt w' x a0 b0 ∧ SetAt w' y a1 b1) ∧ Below w.heap.size w w'
theorem Sets2.later {w : World} {x y : Nat} {a0 b0 a1 b1 : Int} {wa wb : World} (h : Sets2 w x y a0 b0 a1 b1 wa) (hb : Below wa.heap.size wa wb) : Sets2 w x y a0 b0 a1 b1 wb :=
  ⟨⟨h.1.1.later hb, h.1.2.later hb⟩, below_step h.2 hb⟩
theorem Sets2.far {w : World} {x y g : Nat} {a0 b0 a1 b1 : Int} {wa : World} (h : Sets2 w x y a0 b0 a1 b1 wa) (hx : x ≠ g) (hy : y ≠ g) (hg : w.heap.size ≤ g) (u v : Value) : Sets2 w x y a0 b0 a1 b1 ((wa.setCell ⟨g, 0, none⟩ u).setCell ⟨g, 1, none⟩ v) :=
  ⟨⟨h.1.1.far hx _ _, h.1.2.far hy _ _⟩, below_store h.2 hg _ _⟩
theorem sets_start (w : World) (a0 b0 a1 b1 : Int) {T : TypeId} : Sets2 w w.heap.size (w.heap.size + 1) a0 b0 a1 b1 (((w.alloc (.cells #[.int .i64 a0, .int .i64 b0] T)).alloc (.cells #[.int .i64 a1, .int .i64 b1] T)).drew) := by
  refine ⟨⟨⟨?_, ?_⟩, ⟨?_, ?_⟩⟩, (bl2 _ _ _).drew⟩ <;> go_simp
theorem var_newd2 {w : World} {o p : Obj} {T : TypeId} : VarAt ((((w.alloc o).alloc p).alloc (.cells #[.int .i64 0, .int .i64 0] T)).drew) (w.heap.size + 1 + 1) := by
  refine ⟨⟨?_, ?_⟩, ?_, ?_⟩ <;> go_simp
/-- Three sets lie in memory. -/
abbrev Sets3 (w : World) (x y z : Nat) (a0 b0 a1 b1 p q : Int) (w' : World) : Prop := (SetAt w' x a0 b0 ∧ SetAt w' y a1 b1 ∧ SetAt w' z p q) ∧ Below w.heap.size w w'
theorem Sets3.later {w : World} {x y z : Nat} {a0 b0 a1 b1 p q : Int} {wa wb : World} (h : Sets3 w x y z a0 b0 a1 b1 p q wa) (hb : Below wa.heap.size wa wb) : Sets3 w x y z a0 b0 a1 b1 p q wb :=
  ⟨⟨h.1.1.later hb, h.1.2.1.later hb, h.1.2.2.later hb⟩, below_step h.2 hb⟩
theorem Sets3.far {w : World} {x y z g : Nat} {a0 b0 a1 b1 p q : Int} {wa : World} (h : Sets3 w x y z a0 b0 a1 b1 p q wa) (hx : x ≠ g) (hy : y ≠ g) (hz : z ≠ g) (hg : w.heap.size ≤ g) (u v : Value) : Sets3 w x y z a0 b0 a1 b1 p q ((wa.setCell ⟨g, 0, none⟩ u).setCell ⟨g, 1, none⟩ v) :=
  ⟨⟨h.1.1.far hx _ _, h.1.2.1.far hy _ _, h.1.2.2.far hz _ _⟩, below_store h.2 hg _ _⟩
theorem below_le {w w' : World} (h : Below w.heap.size w w') : w.heap.size ≤ w'.heap.size := h.size

end Go.Proofs.YtfhakailbikjkaaDoor
