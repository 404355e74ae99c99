/- The program's digitsValue and parseDigits: what they answer at every string, for at most 12 digits. -/
import Derived.Test.YtlbidfegcfcaiaaDoorW2
import Derived.Test.YtlbidfegcfcaiaaDoorM2
namespace Go.Proofs.YtlbidfegcfcaiaaDoor
open Go.RowKit

theorem tl (s : ByteArray) : s.toList = s.data.toList := ByteArray.toList_eq s
theorem get_eq (s : ByteArray) (k : Nat) (h : k < s.size) : s[k] = s.data.toList[k]'h := rfl

theorem head_eq (s : ByteArray) (h : 0 < s.size) (b : UInt8) : s.data.toList.head? = some b ↔ (s[0].toNat : Int) = (b.toNat : Int) := by
  rw [get_eq s 0 h, List.head?_eq_getElem?, List.getElem?_eq_getElem (by have := size_eq s; omega)]
  simp [← UInt8.toNat_inj]
  omega


/-- The first k letters are digits. -/
def DigTo (s : ByteArray) (k : Nat) : Prop := (s.data.toList.take k).all Dec.isDig = true


/-- A letter is a digit, or lies below, or above. -/
theorem dig_cases (b : UInt8) : (Dec.isDig b = true ∧ (48 : Int) ≤ (b.toNat : Int) ∧ (b.toNat : Int) ≤ 57) ∨ (Dec.isDig b = false ∧ (b.toNat : Int) < 48) ∨ (Dec.isDig b = false ∧ (48 : Int) ≤ (b.toNat : Int) ∧ (57 : Int) < (b.toNat : Int)) := by
  by_cases h : Dec.isDig b = true
  · have := Dec.isDig_le h; exact .inl ⟨h, by omega, by omega⟩
  · have h1 : Dec.isDig b = false := by simpa using h
    have h2 : ¬ (48 ≤ b.toNat ∧ b.toNat ≤ 57) := by simpa [Dec.isDig] using h
    rcases Nat.lt_or_ge b.toNat 48 with h3 | h3
    · exact .inr (.inl ⟨h1, by omega⟩)
    · exact .inr (.inr ⟨h1, by omega, by omega⟩)

/-- The answer where the letters are too many or none. -/
theorem dv_no (s : ByteArray) (m : Nat) (w : World) (hs : s.size ≤ maxLen) (h1 : (m : Int) ≤ 12) (c1 : ¬ (1 ≤ s.data.toList.length ∧ s.data.toList.length ≤ m)) :
    Calls Tryd.prog 39 #[.string s, .int .i64 m] w fun e w' => e = .returned (.tuple #[.int .i64 0, .bool false]) ∧ w = w' := by
  unfold maxLen at hs
  have hsz := size_eq s
  by_cases c2 : s.size = 0
  · have c3 : s.toList = [] := by rw [tl]; exact List.length_eq_zero_iff.1 (by omega)
    have c4 : s.toList.isEmpty = true := by rw [c3]; rfl
    clear c1 hsz
    go_enter Tryd.func39, Tryd.ntmps39
    go_wp2
    go_ret2
    exact ⟨rfl, rfl⟩
  · have c5 : (m : Int) < s.size := by omega
    have c3 : ¬ s.toList = [] := by rw [tl]; intro e; rw [e, List.length_nil] at hsz; omega
    have c4 : s.toList.isEmpty = false := by simpa using c3
    clear c1 hsz
    go_enter Tryd.func39, Tryd.ntmps39
    go_wp2
    go_ret2
    exact ⟨rfl, rfl⟩

set_option maxRecDepth 100000 in
set_option maxHeartbeats 400000 in
theorem dv_loop (s : ByteArray) (m : Nat) (w : World) (hs : s.size ≤ maxLen) (h1 : (m : Int) ≤ 12) (c0 : 0 < s.size) (c1 : (s.size : Int) ≤ m) :
    Calls Tryd.prog 39 #[.string s, .int .i64 m] w fun e w' => e = .returned (.tuple #[.int .i64 (Dec.dvv m s.data.toList), .bool (Dec.dok m s.data.toList)]) ∧ w = w' := by
  unfold maxLen at hs
  have c4 : ¬ s.toList = [] := by rw [tl]; intro e; have hsz := size_eq s; rw [e, List.length_nil] at hsz; omega
  have c5 : s.toList.isEmpty = false := by simpa using c4
  have HL := Lib.hid (size_eq s)
  have h13 : (s.size : Int) ≤ 12 := by omega
  go_enter Tryd.func39, Tryd.ntmps39
  go_wp2
  go_loop [4, 5, 6, 7, 18] (fun _ _ n _ i => ∃ k : Nat, k ≤ s.size ∧ i = .int .i64 k ∧ n = .int .i64 (Dec.val (s.data.toList.take k)) ∧ DigTo s k) (fun _ _ _ _ i => s.size - (intOf i).toNat)
  case atStart => exact ⟨0, Nat.zero_le _, rfl, rfl, rfl⟩
  case round =>
    obtain ⟨k, hk, rfl, rfl, ha⟩ := hrel
    have hb := Dec.val_take_bound (k := k) (by omega) ha
    have HA := Lib.hid ha
    clear ha
    by_cases hlt : k < s.size
    · rcases dig_cases s[k] with ⟨hd, d1, d2⟩ | ⟨hd, d1⟩ | ⟨hd, d1, d2⟩
      · have HD := Lib.hid hd
        clear hd
        go_wp2
        go_round
        case rel =>
          (repeat apply Exists.intro)
          exact ⟨⟨k + 1, by omega, by go_num, ret_val (by rw [Dec.val_take_succ (by have := HL.out; omega), ← get_eq]; omega), Dec.all_take_succ (by have := HL.out; omega) HA.out (by rw [← get_eq]; exact HD.out)⟩, rfl, rfl, rfl, rfl, rfl⟩
        case measure => simp [intOf]; omega
      · have HD := Lib.hid hd
        clear hd
        go_wp2
        go_ret2
        have hg : Dec.dok m s.data.toList = false := Dec.dok_dig (Dec.not_all (k := k) (by have := HL.out; omega) (by rw [← get_eq]; exact HD.out))
        exact ⟨ret_pair (by unfold Dec.dvv; rw [hg]; rfl) hg.symm, rfl⟩
      · have HD := Lib.hid hd
        clear hd
        go_wp2
        go_ret2
        have hg : Dec.dok m s.data.toList = false := Dec.dok_dig (Dec.not_all (k := k) (by have := HL.out; omega) (by rw [← get_eq]; exact HD.out))
        exact ⟨ret_pair (by unfold Dec.dvv; rw [hg]; rfl) hg.symm, rfl⟩
    · have hk2 : s.size ≤ k := by omega
      go_wp2
      go_ret2
      have hl := HL.out
      have ha := HA.out
      unfold DigTo at ha
      rw [List.take_of_length_le (by omega)] at ha ⊢
      have hg : Dec.dok m s.data.toList = true := Dec.dok_yes (by omega) (by omega) ha
      exact ⟨ret_pair (by unfold Dec.dvv; rw [hg]; rfl) hg.symm, rfl⟩

/-- What digitsValue answers. -/
theorem dv_any (s : ByteArray) (m : Nat) (w : World) (hs : s.size ≤ maxLen) (h1 : (m : Int) ≤ 12) :
    Calls Tryd.prog 39 #[.string s, .int .i64 m] w fun e w' => e = .returned (.tuple #[.int .i64 (Dec.dvv m s.data.toList), .bool (Dec.dok m s.data.toList)]) ∧ w = w' := by
  have hl := size_eq s
  by_cases c1 : 1 ≤ s.data.toList.length ∧ s.data.toList.length ≤ m
  · exact dv_loop s m w hs h1 (by omega) (by omega)
  · have h := dv_no s m w hs h1 c1
    have hg := Dec.dok_len c1
    have hv : Dec.dvv m s.data.toList = 0 := by unfold Dec.dvv; rw [hg]; rfl
    rw [hg, hv]; exact h

theorem head1 (s : ByteArray) (h : 1 ≤ (s.size : Int)) : (s.extract 0 1).toList = [s[0]'(by omega)] := by
  have hl := size_eq s
  obtain ⟨c, l, h2⟩ : ∃ c l, s.data.toList = c :: l := by
    cases h2 : s.data.toList with
    | nil => rw [h2, List.length_nil] at hl; omega
    | cons c l => exact ⟨c, l, rfl⟩
  have h3 : s[0]'(by omega) = c := by
    rw [get_eq s 0 (by omega)]
    have h4 := List.getElem_of_eq h2 (i := 0) (by omega)
    simpa using h4
  rw [tl, h3]
  simp only [ByteArray.data_extract, Array.toList_extract, List.extract_eq_take_drop, List.drop_zero]
  rw [h2]; rfl

/-- Does the text begin with 0? -/
def zeroB (s : ByteArray) : Bool := s.data.toList.head? == some 48
end Go.Proofs.YtlbidfegcfcaiaaDoor
