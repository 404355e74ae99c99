/- The program's and the reference model's ParseNumber and ParseInt, at every string. No conditions. -/
import Derived.Test.YtjgnigalodebkaaW4
namespace Go.Proofs.Ytjgnigalodebkaa
open Go.RowKit

/-- What ParseNumber answers. -/
theorem impl_pn (s : ByteArray) (w : World) (hs : s.size ≤ maxLen) :
    Calls Try.prog 16 #[.string s] w fun e w' => e = .returned (.tuple #[.int .i64 (Dec.pdv 6 s.data.toList), .bool (Dec.good 6 s.data.toList)]) ∧ w = w' := by
  go_enter Try.func16, Try.ntmps16
  go_wp2_with (go_at_call 28; refine (pd_any s 6 _ hs (by omega)).mono ?_; rintro e w1 ⟨rfl, rfl⟩)
  go_ret2
  exact ⟨rfl, rfl⟩

/-- With the sign: the reference model's answer, where a number below 0 is none. -/
theorem pn_eq (t : List UInt8) : (Dec.rdb 6 t = true ∧ 0 ≤ Dec.rdv 6 t ∧ Dec.good 6 t = true ∧ Dec.rdv 6 t = Dec.pdv 6 t) ∨ (Dec.rdb 6 t = true ∧ Dec.rdv 6 t < 0 ∧ Dec.good 6 t = false ∧ Dec.pdv 6 t = 0) ∨ (Dec.rdb 6 t = false ∧ Dec.good 6 t = false ∧ Dec.pdv 6 t = 0) := by
  by_cases hh : t.head? = some 45
  · have hg : Dec.good 6 t = false := by
      cases t with
      | nil => simp at hh
      | cons c l =>
        simp at hh
        subst hh
        exact Dec.good_dig (by simp [Dec.isDig])
    have hv : Dec.pdv 6 t = 0 := by unfold Dec.pdv; rw [hg]; rfl
    cases hr : Dec.rdb 6 t
    · exact .inr (.inr ⟨rfl, hg, hv⟩)
    · refine .inr (.inl ⟨rfl, ?_, hg, hv⟩)
      unfold Dec.rdv; rw [hr, if_pos rfl, if_pos hh]
      unfold Dec.rdb at hr
      rw [if_pos hh] at hr
      simp at hr
      omega
  · have e1 : Dec.rdb 6 t = Dec.good 6 t := by unfold Dec.rdb; rw [if_neg hh]
    have e2 : Dec.rdv 6 t = Dec.pdv 6 t := by unfold Dec.rdv Dec.pdv; rw [e1, if_neg hh]
    have e3 : 0 ≤ Dec.pdv 6 t := by unfold Dec.pdv; split <;> omega
    cases hr : Dec.good 6 t
    · exact .inr (.inr ⟨by rw [e1, hr], rfl, by unfold Dec.pdv; rw [hr]; rfl⟩)
    · exact .inl ⟨by rw [e1, hr], by omega, rfl, e2⟩

theorem spec_pn (s : ByteArray) (w : World) (hs : s.size ≤ maxLen) :
    Calls Try.prog 15 #[.string s] w fun e w' => e = .returned (.tuple #[.int .i64 (Dec.pdv 6 s.data.toList), .bool (Dec.good 6 s.data.toList)]) ∧ Below w.heap.size w w' := by
  rcases pn_eq s.data.toList with ⟨h1, h2, h3, h4⟩ | ⟨h1, h2, h3, h4⟩ | ⟨h1, h3, h4⟩
  all_goals
    rw [h3]
    have H4 := Lib.hid h4
    clear h3 h4
    go_enter Try.func15, Try.ntmps15
    go_wp2_with (go_at_call 35; refine (rd_any s 6 _ hs (by omega)).mono ?_; rintro e w1 ⟨rfl, b1⟩)
    go_ret2
    exact ⟨ret_pair (by first | exact H4.out | exact H4.out.symm) rfl, b1⟩

theorem spec_pi (s : ByteArray) (w : World) (hs : s.size ≤ maxLen) :
    Calls Try.prog 17 #[.string s] w fun e w' => e = .returned (.tuple #[.int .i64 (Dec.rdv 12 s.data.toList), .bool (Dec.rdb 12 s.data.toList)]) ∧ Below w.heap.size w w' := by
  go_enter Try.func17, Try.ntmps17
  go_wp2_with (go_at_call 35; refine (rd_any s 12 _ hs (by omega)).mono ?_; rintro e w1 ⟨rfl, b1⟩)
  go_ret2
  exact ⟨rfl, b1⟩

theorem head_extract (s : ByteArray) (h : 1 ≤ (s.size : Int)) : (s.extract 0 1).toList = [s[0]'(by omega)] := by
  have hl := size_eq s
  obtain ⟨c, l, h2⟩ : ∃ c l, s.data.toList = c :: l := by
    cases h2 : s.data.toList with
    | nil => rw [h2, List.length_nil] at hl; omega
    | cons c l => exact ⟨c, l, rfl⟩
  have h3 : s[0]'(by omega) = c := by
    rw [get_eq s 0 (by omega)]
    have h4 := List.getElem_of_eq h2 (i := 0) (by omega)
    simpa using h4
  rw [tl, h3]
  simp only [ByteArray.data_extract, Array.toList_extract, List.extract_eq_take_drop, List.drop_zero]
  rw [h2]; rfl

/-- strings.CutPrefix at a minus sign. -/
theorem cp_yes (s : ByteArray) (w : World) (_hs : s.size ≤ maxLen) (hh : s.data.toList.head? = some 45) :
    Calls Try.prog 27 #[.string s, .string ⟨#[45]⟩] w fun e w' => e = .returned (.tuple #[.string (s.extract 1 s.size), .bool true]) ∧ w = w' := by
  have h0 : 1 ≤ (s.size : Int) := by
    have hl := size_eq s
    cases h2 : s.data.toList with
    | nil => rw [h2] at hh; simp at hh
    | cons c l => rw [h2, List.length_cons] at hl; omega
  have h1 : (!(s.extract 0 1).toList == [45]) = false := by
    have h2 := (head_eq s (by omega) 45).1 hh
    rw [head_extract s h0]
    have h3 : s[0]'(by omega) = 45 := UInt8.toNat_inj.1 (by omega)
    rw [h3]; rfl
  clear hh
  go_enter Try.func27, Try.ntmps27
  go_wp2
  go_ret2
  exact ⟨rfl, rfl⟩

theorem cp_no (s : ByteArray) (w : World) (_hs : s.size ≤ maxLen) (hh : ¬ s.data.toList.head? = some 45) :
    Calls Try.prog 27 #[.string s, .string ⟨#[45]⟩] w fun e w' => e = .returned (.tuple #[.string s, .bool false]) ∧ w = w' := by
  by_cases h0 : 1 ≤ (s.size : Int)
  · have h1 : (!(s.extract 0 1).toList == [45]) = true := by
      rw [head_extract s h0]
      have h3 : ¬ s[0]'(by omega) = 45 := fun e => hh ((head_eq s (by omega) 45).2 (by rw [e]))
      simpa using h3
    clear hh
    go_enter Try.func27, Try.ntmps27
    go_wp2
    go_ret2
    exact ⟨rfl, rfl⟩
  · have h1 : (s.size : Int) < 1 := by omega
    clear hh
    go_enter Try.func27, Try.ntmps27
    go_wp2
    go_ret2
    exact ⟨rfl, rfl⟩

theorem minus_cases (t : List UInt8) (hh : t.head? = some 45) : (Dec.good 12 t.tail = false ∧ Dec.pdv 12 t.tail = 0 ∧ Dec.rdb 12 t = false ∧ Dec.rdv 12 t = 0) ∨ (Dec.good 12 t.tail = true ∧ Dec.pdv 12 t.tail = 0 ∧ Dec.rdb 12 t = false ∧ Dec.rdv 12 t = 0) ∨
    (Dec.good 12 t.tail = true ∧ 0 < Dec.pdv 12 t.tail ∧ Dec.pdv 12 t.tail < 1000000000000 ∧ Dec.rdb 12 t = true ∧ Dec.rdv 12 t = - Dec.pdv 12 t.tail) := by
  cases hg : Dec.good 12 t.tail
  · have e1 : Dec.rdb 12 t = false := by unfold Dec.rdb; rw [if_pos hh, hg]; rfl
    exact .inl ⟨rfl, by unfold Dec.pdv; rw [hg]; rfl, e1, by unfold Dec.rdv; rw [e1]; rfl⟩
  · have e0 : Dec.pdv 12 t.tail = Dec.val t.tail := by unfold Dec.pdv; rw [hg]; rfl
    have e3 := Dec.good_bound hg (Nat.le_refl _)
    by_cases hv : 0 < Dec.val t.tail
    · have e1 : Dec.rdb 12 t = true := by unfold Dec.rdb; rw [if_pos hh, hg]; simpa using hv
      exact .inr (.inr ⟨rfl, by omega, by omega, e1, by unfold Dec.rdv; rw [e1, if_pos rfl, if_pos hh, e0]⟩)
    · have e1 : Dec.rdb 12 t = false := by unfold Dec.rdb; rw [if_pos hh, hg]; simpa using hv
      exact .inr (.inl ⟨rfl, by omega, e1, by unfold Dec.rdv; rw [e1]; rfl⟩)

/-- What the program's ParseInt answers. -/
theorem impl_pi (s : ByteArray) (w : World) (hs : s.size ≤ maxLen) :
    Calls Try.prog 11 #[.string s] w fun e w' => e = .returned (.tuple #[.int .i64 (Dec.rdv 12 s.data.toList), .bool (Dec.rdb 12 s.data.toList)]) ∧ w = w' := by
  by_cases hh : s.data.toList.head? = some 45
  · have ht : (s.extract 1 s.size).data.toList = s.data.toList.tail := by rw [ext_data, List.drop_one]
    have hz : (s.extract 1 s.size).size ≤ maxLen := by
      have h := congrArg List.length ht
      rw [← size_eq, List.length_tail, ← size_eq] at h
      unfold maxLen at hs ⊢; omega
    have HT := Lib.hid ht
    rcases minus_cases s.data.toList hh with ⟨h1, h2, h3, h4⟩ | ⟨h1, h2, h3, h4⟩ | ⟨h1, h2, h3, h4, h5⟩
    · rw [h3, h4]
      have hp := pd_any (s.extract 1 s.size) 12 w hz (by omega)
      rw [ht, h1, h2] at hp
      clear h1 h2 h3 h4 ht
      go_enter Try.func11, Try.ntmps11
      go_wp2_with (first | (go_at_call 27; refine (cp_yes s _ hs hh).mono ?_; rintro e w1 ⟨rfl, rfl⟩) | (go_at_call 28; refine hp.mono ?_; rintro e w1 ⟨rfl, rfl⟩))
      go_ret2
      exact ⟨rfl, rfl⟩
    · rw [h3, h4]
      have hp := pd_any (s.extract 1 s.size) 12 w hz (by omega)
      rw [ht, h1, h2] at hp
      clear h1 h2 h3 h4 ht
      go_enter Try.func11, Try.ntmps11
      go_wp2_with (first | (go_at_call 27; refine (cp_yes s _ hs hh).mono ?_; rintro e w1 ⟨rfl, rfl⟩) | (go_at_call 28; refine hp.mono ?_; rintro e w1 ⟨rfl, rfl⟩))
      go_ret2
      exact ⟨rfl, rfl⟩
    · rw [h4, h5]
      have hp := pd_any (s.extract 1 s.size) 12 w hz (by omega)
      rw [ht, h1] at hp
      generalize Dec.pdv 12 s.data.toList.tail = x at *
      have hx : (x == 0) = false := by simp; omega
      have hx2 : (x != 0) = true := by simp; omega
      clear h1 h4 h5 ht
      go_enter Try.func11, Try.ntmps11
      go_wp2_with (first | (go_at_call 27; refine (cp_yes s _ hs hh).mono ?_; rintro e w1 ⟨rfl, rfl⟩) | (go_at_call 28; refine hp.mono ?_; rintro e w1 ⟨rfl, rfl⟩))
      go_ret2
      exact ⟨rfl, rfl⟩
  · have e1 : Dec.rdb 12 s.data.toList = Dec.good 12 s.data.toList := by unfold Dec.rdb; rw [if_neg hh]
    have e2 : Dec.rdv 12 s.data.toList = Dec.pdv 12 s.data.toList := by unfold Dec.rdv Dec.pdv; rw [e1, if_neg hh]
    rw [e1, e2]
    clear e1 e2
    go_enter Try.func11, Try.ntmps11
    go_wp2_with (first | (go_at_call 27; refine (cp_no s _ hs hh).mono ?_; rintro e w1 ⟨rfl, rfl⟩) | (go_at_call 28; refine (pd_any s 12 _ hs (by omega)).mono ?_; rintro e w1 ⟨rfl, rfl⟩))
    go_ret2
    exact ⟨rfl, rfl⟩

set_option maxHeartbeats 400000 in
theorem FnExactParseNumber_walk (a0 : ByteArray) (w0 : a0.size ≤ maxLen) (w : World) :
    Calls Try.prog 4 #[.string a0] w fun e w' => e = .returned (.bool true) ∧ Below w.heap.size w w' := by
  by_cases hlen : (1048576 : Int) < a0.size
  · go_enter Try.func4, Try.ntmps4
    go_wp2
    go_ret
    exact ⟨rfl, Below.refl _ _⟩
  · go_enter Try.func4, Try.ntmps4
    go_wp2_with (first | (go_at_call 15; refine (spec_pn a0 _ w0).mono ?_; rintro e w1 ⟨rfl, b1⟩) | (go_at_call 16; refine (impl_pn a0 _ w0).mono ?_; rintro e w2 ⟨rfl, rfl⟩))
    go_ret
    exact ⟨rfl, b1⟩

set_option maxHeartbeats 400000 in
theorem FnExactParseInt_walk (a0 : ByteArray) (w0 : a0.size ≤ maxLen) (w : World) :
    Calls Try.prog 5 #[.string a0] w fun e w' => e = .returned (.bool true) ∧ Below w.heap.size w w' := by
  by_cases hlen : (1048576 : Int) < a0.size
  · go_enter Try.func5, Try.ntmps5
    go_wp2
    go_ret
    exact ⟨rfl, Below.refl _ _⟩
  · go_enter Try.func5, Try.ntmps5
    go_wp2_with (first | (go_at_call 17; refine (spec_pi a0 _ w0).mono ?_; rintro e w1 ⟨rfl, b1⟩) | (go_at_call 11; refine (impl_pi a0 _ w0).mono ?_; rintro e w2 ⟨rfl, rfl⟩))
    go_ret
    exact ⟨rfl, b1⟩
end Go.Proofs.Ytjgnigalodebkaa
