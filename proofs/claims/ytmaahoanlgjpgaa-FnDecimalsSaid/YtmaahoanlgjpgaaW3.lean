/- The program's parseDigits: what it answers at every string, for at most 12 digits. -/
import Derived.Test.YtmaahoanlgjpgaaW2
import Derived.Test.YtmaahoanlgjpgaaM2
namespace Go.Proofs.Ytmaahoanlgjpgaa
open Go.RowKit

theorem tl (s : ByteArray) : s.toList = s.data.toList := ByteArray.toList_eq s
theorem get_eq (s : ByteArray) (k : Nat) (h : k < s.size) : s[k] = s.data.toList[k]'h := rfl

theorem head_eq (s : ByteArray) (h : 0 < s.size) (b : UInt8) : s.data.toList.head? = some b ↔ (s[0].toNat : Int) = (b.toNat : Int) := by
  rw [get_eq s 0 h, List.head?_eq_getElem?, List.getElem?_eq_getElem (by have := size_eq s; omega)]
  simp [← UInt8.toNat_inj]
  omega


/-- The first k letters are digits. -/
def DigTo (s : ByteArray) (k : Nat) : Prop := (s.data.toList.take k).all Dec.isDig = true


/-- A letter is a digit, or lies below, or above. -/
theorem dig_cases (b : UInt8) : (Dec.isDig b = true ∧ (48 : Int) ≤ (b.toNat : Int) ∧ (b.toNat : Int) ≤ 57) ∨ (Dec.isDig b = false ∧ (b.toNat : Int) < 48) ∨ (Dec.isDig b = false ∧ (48 : Int) ≤ (b.toNat : Int) ∧ (57 : Int) < (b.toNat : Int)) := by
  by_cases h : Dec.isDig b = true
  · have := Dec.isDig_le h; exact .inl ⟨h, by omega, by omega⟩
  · have h1 : Dec.isDig b = false := by simpa using h
    have h2 : ¬ (48 ≤ b.toNat ∧ b.toNat ≤ 57) := by simpa [Dec.isDig] using h
    rcases Nat.lt_or_ge b.toNat 48 with h3 | h3
    · exact .inr (.inl ⟨h1, by omega⟩)
    · exact .inr (.inr ⟨h1, by omega, by omega⟩)

/-- The answer where the letters are no form. -/
theorem pd_no (s : ByteArray) (m : Nat) (w : World) (hs : s.size ≤ maxLen) (h1 : (m : Int) ≤ 12) (c1 : ¬ (1 ≤ s.data.toList.length ∧ s.data.toList.length ≤ m)) :
    Calls Try.prog 32 #[.string s, .int .i64 m] w fun e w' => e = .returned (.tuple #[.int .i64 0, .bool false]) ∧ w = w' := by
  unfold maxLen at hs
  have hsz := size_eq s
  by_cases c2 : s.size = 0
  · have c3 : s.toList = [] := by rw [tl]; exact List.length_eq_zero_iff.1 (by omega)
    have c4 : s.toList.isEmpty = true := by rw [c3]; rfl
    clear c1 hsz
    go_enter Try.func32, Try.ntmps32
    go_wp2
    go_ret2
    exact ⟨rfl, rfl⟩
  · have c5 : (m : Int) < s.size := by omega
    have c3 : ¬ s.toList = [] := by rw [tl]; intro e; rw [e, List.length_nil] at hsz; omega
    have c4 : s.toList.isEmpty = false := by simpa using c3
    clear c1 hsz
    go_enter Try.func32, Try.ntmps32
    go_wp2
    go_ret2
    exact ⟨rfl, rfl⟩

theorem pd_zero (s : ByteArray) (m : Nat) (w : World) (hs : s.size ≤ maxLen) (c0 : 0 < s.size) (c1 : (s.size : Int) ≤ m) (c2 : (s[0].toNat : Int) = 48) (c3 : ¬ s.toList = [48]) :
    Calls Try.prog 32 #[.string s, .int .i64 m] w fun e w' => e = .returned (.tuple #[.int .i64 0, .bool false]) ∧ w = w' := by
  unfold maxLen at hs
  have c4 : ¬ s.toList = [] := by rw [tl]; intro e; have hsz := size_eq s; rw [e, List.length_nil] at hsz; omega
  have c5 : s.toList.isEmpty = false := by simpa using c4
  have c6 : (!s.toList == [48]) = true := by simpa using c3
  have c7 : ((s[0].toNat : Int) == 48) = true := by simpa using c2
  have C2 := Lib.hid c2
  clear c2
  go_enter Try.func32, Try.ntmps32
  go_wp2
  go_ret2
  exact ⟨rfl, rfl⟩

set_option maxHeartbeats 400000 in
theorem pd_loop (s : ByteArray) (m : Nat) (w : World) (hs : s.size ≤ maxLen) (h1 : (m : Int) ≤ 12) (c0 : 0 < s.size) (c1 : (s.size : Int) ≤ m) (c2 : ((s[0].toNat : Int) == 48) = false ∨ (((s[0].toNat : Int) == 48) = true ∧ (!s.toList == [48]) = false)) (hz : ¬ (s.data.toList.head? = some 48 ∧ s.data.toList ≠ [48])) :
    Calls Try.prog 32 #[.string s, .int .i64 m] w fun e w' => e = .returned (.tuple #[.int .i64 (Dec.pdv m s.data.toList), .bool (Dec.good m s.data.toList)]) ∧ w = w' := by
  unfold maxLen at hs
  have c4 : ¬ s.toList = [] := by rw [tl]; intro e; have hsz := size_eq s; rw [e, List.length_nil] at hsz; omega
  have c5 : s.toList.isEmpty = false := by simpa using c4
  have HZ := Lib.hid hz
  have HL := Lib.hid (size_eq s)
  clear hz
  have h13 : (s.size : Int) ≤ 12 := by omega
  rcases c2 with c2 | ⟨c2, c3⟩
  all_goals
    go_enter Try.func32, Try.ntmps32
    go_wp2
    go_loop [4, 5, 6, 7, 25] (fun _ _ n _ i => ∃ k : Nat, k ≤ s.size ∧ i = .int .i64 k ∧ n = .int .i64 (Dec.val (s.data.toList.take k)) ∧ DigTo s k) (fun _ _ _ _ i => s.size - (intOf i).toNat)
    case atStart => exact ⟨0, Nat.zero_le _, rfl, rfl, rfl⟩
    case round =>
      obtain ⟨k, hk, rfl, rfl, ha⟩ := hrel
      have hb := Dec.val_take_bound (k := k) (by omega) ha
      have HA := Lib.hid ha
      clear ha
      by_cases hlt : k < s.size
      · rcases dig_cases s[k] with ⟨hd, d1, d2⟩ | ⟨hd, d1⟩ | ⟨hd, d1, d2⟩
        · have HD := Lib.hid hd
          clear hd
          go_wp2
          go_round
          case rel =>
            (repeat apply Exists.intro)
            exact ⟨⟨k + 1, by omega, by go_num, ret_val (by rw [Dec.val_take_succ (by have := HL.out; omega), ← get_eq]; omega), Dec.all_take_succ (by have := HL.out; omega) HA.out (by rw [← get_eq]; exact HD.out)⟩, rfl, rfl, rfl, rfl, rfl⟩
          case measure => simp [intOf]; omega
        · have HD := Lib.hid hd
          clear hd
          go_wp2
          go_ret2
          have hg : Dec.good m s.data.toList = false := Dec.good_dig (Dec.not_all (k := k) (by have := HL.out; omega) (by rw [← get_eq]; exact HD.out))
          exact ⟨ret_pair (by unfold Dec.pdv; rw [hg]; rfl) hg.symm, rfl⟩
        · have HD := Lib.hid hd
          clear hd
          go_wp2
          go_ret2
          have hg : Dec.good m s.data.toList = false := Dec.good_dig (Dec.not_all (k := k) (by have := HL.out; omega) (by rw [← get_eq]; exact HD.out))
          exact ⟨ret_pair (by unfold Dec.pdv; rw [hg]; rfl) hg.symm, rfl⟩
      · have hk2 : s.size ≤ k := by omega
        go_wp2
        go_ret2
        have hl := HL.out
        have ha := HA.out
        unfold DigTo at ha
        rw [List.take_of_length_le (by omega)] at ha ⊢
        have hg : Dec.good m s.data.toList = true := Dec.good_yes (by omega) (by omega) ha HZ.out
        exact ⟨ret_pair (by unfold Dec.pdv; rw [hg]; rfl) hg.symm, rfl⟩

/-- What parseDigits answers. -/
theorem pd_any (s : ByteArray) (m : Nat) (w : World) (hs : s.size ≤ maxLen) (h1 : (m : Int) ≤ 12) :
    Calls Try.prog 32 #[.string s, .int .i64 m] w fun e w' => e = .returned (.tuple #[.int .i64 (Dec.pdv m s.data.toList), .bool (Dec.good m s.data.toList)]) ∧ w = w' := by
  have hl := size_eq s
  by_cases c1 : 1 ≤ s.data.toList.length ∧ s.data.toList.length ≤ m
  · by_cases hz : s.data.toList.head? = some 48 ∧ s.data.toList ≠ [48]
    · have h := pd_zero s m w hs (by omega) (by omega) ((head_eq s (by omega) 48).1 hz.1) (by rw [tl]; exact hz.2)
      have hg := Dec.good_zero (m := m) hz.1 hz.2
      have hv : Dec.pdv m s.data.toList = 0 := by unfold Dec.pdv; rw [hg]; rfl
      rw [hg, hv]; exact h
    · refine pd_loop s m w hs h1 (by omega) (by omega) ?_ hz
      by_cases c2 : (s[0].toNat : Int) = 48
      · refine .inr ⟨by simpa using c2, ?_⟩
        have e : s.data.toList = [48] := by
          rcases Classical.em (s.data.toList = [48]) with e | e
          · exact e
          · exact absurd ⟨(head_eq s (by omega) 48).2 c2, e⟩ hz
        rw [tl, e]; rfl
      · exact .inl (by simpa using c2)
  · have h := pd_no s m w hs h1 c1
    have hg := Dec.good_len c1
    have hv : Dec.pdv m s.data.toList = 0 := by unfold Dec.pdv; rw [hg]; rfl
    rw [hg, hv]; exact h
end Go.Proofs.Ytmaahoanlgjpgaa
