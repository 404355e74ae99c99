/- Which tokens begin or end an expression, and the operators, in the reference model. No conditions. -/
import Derived.Test.YtfhakailbikjkaaK4
namespace Go.Proofs.Ytfhakailbikjkaa
open Go.RowKit
set_option linter.unusedVariables false

/-- A token by value. -/
abbrev tokV (k : Int) (t : ByteArray) (ln : Int) : Value := .agg #[.int .i64 k, .string t, .int .i64 ln]
theorem eq_word (t : ByteArray) (l : List UInt8) (b : Bool) (h : (t.data.toList == l) = b) : (t.toList == l) = b := by rw [ByteArray.toList_eq]; exact h
theorem kind_cases (k : Int) : k = 2 ∨ k = 7 ∨ (k ≠ 2 ∧ k ≠ 7 ∧ k = 1) ∨ (k ≠ 2 ∧ k ≠ 7 ∧ k ≠ 1 ∧ k < 3) ∨ (k ≠ 2 ∧ k ≠ 7 ∧ k ≠ 1 ∧ 3 ≤ k ∧ k ≤ 6) ∨ (k ≠ 2 ∧ k ≠ 7 ∧ k ≠ 1 ∧ 3 ≤ k ∧ 6 < k) := by omega
theorem rest_kind {k : Int} (b : Bool) (h : k = 1 ∧ b = true ∨ k ≠ 1 ∧ k < 3 ∧ b = false ∨ k ≠ 1 ∧ 3 ≤ k ∧ k ≤ 6 ∧ b = true ∨ k ≠ 1 ∧ 6 < k ∧ b = false) : (k == 1 || (decide (3 ≤ k) && decide (k ≤ 6))) = b := by
  rcases h with ⟨rfl, rfl⟩ | ⟨h1, h2, rfl⟩ | ⟨h1, h2, h3, rfl⟩ | ⟨h1, h2, rfl⟩
  · rfl
  · simp [h1]; omega
  · simp [h2, h3]
  · simp [h1]; omega
set_option maxHeartbeats 800000 in
theorem spec_ends (k : Int) (t : ByteArray) (ln : Int) (w : World) : Calls Try.prog 19 #[tokV k t ln] w fun e w' => e = .returned (.bool (Tk.ends k t.data.toList)) ∧ Below w.heap.size w w' := by
  unfold tokV
  rcases kind_cases k with rfl | rfl | ⟨h1, h2, h3⟩ | ⟨h1, h2, h3, h4⟩ | ⟨h1, h2, h3, h4, h5⟩ | ⟨h1, h2, h3, h4, h5⟩
  · have e : Tk.ends 2 t.data.toList = hasW Tk.end2 t.data.toList := by unfold Tk.ends; rfl
    rw [e]
    clear e
    have HH : Hid (∀ W : World, Calls Try.prog 23 #[.slice (some ⟨W.heap.size, 0, none⟩) 5 5, .string t] (W.alloc (.cells (Tk.end2.map fun x => Value.string (str8 x)).toArray 9)) fun e w' => e = .returned (.bool (hasW Tk.end2 t.data.toList)) ∧ (W.alloc (.cells (Tk.end2.map fun x => Value.string (str8 x)).toArray 9)) = w') :=
      fun W => spec_hasw Tk.end2 W.heap.size 5 t _ (words_new W Tk.end2 9 _ rfl) (words_lt _ (by decide))
    have HW := Lib.hid (HH.out (w.alloc (.cells #[.int .i64 2, .string t, .int .i64 ln] 27)))
    rw [show (w.alloc (.cells #[.int .i64 2, .string t, .int .i64 ln] 27)).heap.size = w.heap.size + 1 by simp] at HW
    generalize hasW Tk.end2 t.data.toList = b at HW ⊢
    clear HH
    go_enter Try.func19, Try.ntmps19
    go_wp2_with fail
    refine HW.out.mono ?_
    rintro e w1 ⟨rfl, rfl⟩
    go_wp2
    go_ret
    exact ⟨rfl, bl2 _ _ _⟩
  · have e : Tk.ends 7 t.data.toList = (t.data.toList == [41] || (t.data.toList == [93] || (t.data.toList == [125] || false))) := by
      unfold Tk.ends; rfl
    cases e1 : (t.data.toList == [41])
    · cases e2 : (t.data.toList == [93])
      · cases e3 : (t.data.toList == [125])
        all_goals
          rw [e1, e2, e3] at e
          have HE := Lib.hid e
          have u1 := eq_word t _ _ e1
          have u2 := eq_word t _ _ e2
          have u3 := eq_word t _ _ e3
          clear e e1 e2 e3
          go_enter Try.func19, Try.ntmps19
          go_wp2
          go_ret
          exact ⟨ret_b HE.out.symm, bl1 _ _⟩
      · rw [e1, e2] at e
        have HE := Lib.hid e
        have u1 := eq_word t _ _ e1
        have u2 := eq_word t _ _ e2
        clear e e1 e2
        go_enter Try.func19, Try.ntmps19
        go_wp2
        go_ret
        exact ⟨ret_b HE.out.symm, bl1 _ _⟩
    · rw [e1] at e
      have HE := Lib.hid e
      have u1 := eq_word t _ _ e1
      clear e e1
      go_enter Try.func19, Try.ntmps19
      go_wp2
      go_ret
      exact ⟨ret_b HE.out.symm, bl1 _ _⟩
  · have HE : Hid (Tk.ends k t.data.toList = true) := by
      show _ = _
      unfold Tk.ends
      rw [if_neg h1, if_neg h2]
      exact rest_kind true (.inl ⟨h3, rfl⟩)
    have u1 : (k == 2) = false := by simpa using h1
    have u2 : (k == 7) = false := by simpa using h2
    have u3 : (k == 1) = true := by simpa using h3
    clear h3
    clear h1 h2
    go_enter Try.func19, Try.ntmps19
    go_wp2
    go_ret
    exact ⟨ret_b HE.out.symm, bl1 _ _⟩
  · have HE : Hid (Tk.ends k t.data.toList = false) := by
      show _ = _
      unfold Tk.ends
      rw [if_neg h1, if_neg h2]
      exact rest_kind false (.inr (.inl ⟨h3, h4, rfl⟩))
    have u1 : (k == 2) = false := by simpa using h1
    have u2 : (k == 7) = false := by simpa using h2
    have u3 : (k == 1) = false := by simpa using h3
    have u4 : decide (3 ≤ k) = false := by simp; omega
    clear h3
    clear h1 h2
    go_enter Try.func19, Try.ntmps19
    go_wp2
    go_ret
    exact ⟨ret_b HE.out.symm, bl1 _ _⟩
  · have HE : Hid (Tk.ends k t.data.toList = true) := by
      show _ = _
      unfold Tk.ends
      rw [if_neg h1, if_neg h2]
      exact rest_kind true (.inr (.inr (.inl ⟨h3, h4, h5, rfl⟩)))
    have u1 : (k == 2) = false := by simpa using h1
    have u2 : (k == 7) = false := by simpa using h2
    have u3 : (k == 1) = false := by simpa using h3
    have u4 : decide (3 ≤ k) = true := by simp; omega
    have u5 : decide (k ≤ 6) = true := by simp; omega
    clear h3
    clear h1 h2
    go_enter Try.func19, Try.ntmps19
    go_wp2
    go_ret
    exact ⟨ret_b HE.out.symm, bl1 _ _⟩
  · have HE : Hid (Tk.ends k t.data.toList = false) := by
      show _ = _
      unfold Tk.ends
      rw [if_neg h1, if_neg h2]
      exact rest_kind false (.inr (.inr (.inr ⟨h3, h5, rfl⟩)))
    have u1 : (k == 2) = false := by simpa using h1
    have u2 : (k == 7) = false := by simpa using h2
    have u3 : (k == 1) = false := by simpa using h3
    have u4 : decide (3 ≤ k) = true := by simp; omega
    have u5 : decide (k ≤ 6) = false := by simp; omega
    clear h3
    clear h1 h2
    go_enter Try.func19, Try.ntmps19
    go_wp2
    go_ret
    exact ⟨ret_b HE.out.symm, bl1 _ _⟩
set_option maxHeartbeats 800000 in
theorem spec_begins (k : Int) (t : ByteArray) (ln : Int) (w : World) : Calls Try.prog 16 #[tokV k t ln] w fun e w' => e = .returned (.bool (Tk.begins k t.data.toList)) ∧ Below w.heap.size w w' := by
  unfold tokV
  rcases kind_cases k with rfl | rfl | ⟨h1, h2, h3⟩ | ⟨h1, h2, h3, h4⟩ | ⟨h1, h2, h3, h4, h5⟩ | ⟨h1, h2, h3, h4, h5⟩
  · have e : Tk.begins 2 t.data.toList = hasW Tk.beg2 t.data.toList := by unfold Tk.begins; rfl
    rw [e]
    clear e
    have HH : Hid (∀ W : World, Calls Try.prog 23 #[.slice (some ⟨W.heap.size, 0, none⟩) 14 14, .string t] (W.alloc (.cells (Tk.beg2.map fun x => Value.string (str8 x)).toArray 9)) fun e w' => e = .returned (.bool (hasW Tk.beg2 t.data.toList)) ∧ (W.alloc (.cells (Tk.beg2.map fun x => Value.string (str8 x)).toArray 9)) = w') :=
      fun W => spec_hasw Tk.beg2 W.heap.size 14 t _ (words_new W Tk.beg2 9 _ rfl) (words_lt _ (by decide))
    have HW := Lib.hid (HH.out (w.alloc (.cells #[.int .i64 2, .string t, .int .i64 ln] 27)))
    rw [show (w.alloc (.cells #[.int .i64 2, .string t, .int .i64 ln] 27)).heap.size = w.heap.size + 1 by simp] at HW
    generalize hasW Tk.beg2 t.data.toList = b at HW ⊢
    clear HH
    go_enter Try.func16, Try.ntmps16
    go_wp2_with fail
    refine HW.out.mono ?_
    rintro e w1 ⟨rfl, rfl⟩
    go_wp2
    go_ret
    exact ⟨rfl, bl2 _ _ _⟩
  · have e : Tk.begins 7 t.data.toList = hasW Tk.beg7 t.data.toList := by unfold Tk.begins; rfl
    rw [e]
    clear e
    have HH : Hid (∀ W : World, Calls Try.prog 23 #[.slice (some ⟨W.heap.size, 0, none⟩) 16 16, .string t] (W.alloc (.cells (Tk.beg7.map fun x => Value.string (str8 x)).toArray 9)) fun e w' => e = .returned (.bool (hasW Tk.beg7 t.data.toList)) ∧ (W.alloc (.cells (Tk.beg7.map fun x => Value.string (str8 x)).toArray 9)) = w') :=
      fun W => spec_hasw Tk.beg7 W.heap.size 16 t _ (words_new W Tk.beg7 9 _ rfl) (words_lt _ (by decide))
    have HW := Lib.hid (HH.out (w.alloc (.cells #[.int .i64 7, .string t, .int .i64 ln] 27)))
    rw [show (w.alloc (.cells #[.int .i64 7, .string t, .int .i64 ln] 27)).heap.size = w.heap.size + 1 by simp] at HW
    generalize hasW Tk.beg7 t.data.toList = b at HW ⊢
    clear HH
    go_enter Try.func16, Try.ntmps16
    go_wp2_with fail
    refine HW.out.mono ?_
    rintro e w1 ⟨rfl, rfl⟩
    go_wp2
    go_ret
    exact ⟨rfl, bl2 _ _ _⟩
  · have HE : Hid (Tk.begins k t.data.toList = true) := by
      show _ = _
      unfold Tk.begins
      rw [if_neg h1, if_neg h2]
      exact rest_kind true (.inl ⟨h3, rfl⟩)
    have u1 : (k == 2) = false := by simpa using h1
    have u2 : (k == 7) = false := by simpa using h2
    have u3 : (k == 1) = true := by simpa using h3
    clear h3
    clear h1 h2
    go_enter Try.func16, Try.ntmps16
    go_wp2
    go_ret
    exact ⟨ret_b HE.out.symm, bl1 _ _⟩
  · have HE : Hid (Tk.begins k t.data.toList = false) := by
      show _ = _
      unfold Tk.begins
      rw [if_neg h1, if_neg h2]
      exact rest_kind false (.inr (.inl ⟨h3, h4, rfl⟩))
    have u1 : (k == 2) = false := by simpa using h1
    have u2 : (k == 7) = false := by simpa using h2
    have u3 : (k == 1) = false := by simpa using h3
    have u4 : decide (3 ≤ k) = false := by simp; omega
    clear h3
    clear h1 h2
    go_enter Try.func16, Try.ntmps16
    go_wp2
    go_ret
    exact ⟨ret_b HE.out.symm, bl1 _ _⟩
  · have HE : Hid (Tk.begins k t.data.toList = true) := by
      show _ = _
      unfold Tk.begins
      rw [if_neg h1, if_neg h2]
      exact rest_kind true (.inr (.inr (.inl ⟨h3, h4, h5, rfl⟩)))
    have u1 : (k == 2) = false := by simpa using h1
    have u2 : (k == 7) = false := by simpa using h2
    have u3 : (k == 1) = false := by simpa using h3
    have u4 : decide (3 ≤ k) = true := by simp; omega
    have u5 : decide (k ≤ 6) = true := by simp; omega
    clear h3
    clear h1 h2
    go_enter Try.func16, Try.ntmps16
    go_wp2
    go_ret
    exact ⟨ret_b HE.out.symm, bl1 _ _⟩
  · have HE : Hid (Tk.begins k t.data.toList = false) := by
      show _ = _
      unfold Tk.begins
      rw [if_neg h1, if_neg h2]
      exact rest_kind false (.inr (.inr (.inr ⟨h3, h5, rfl⟩)))
    have u1 : (k == 2) = false := by simpa using h1
    have u2 : (k == 7) = false := by simpa using h2
    have u3 : (k == 1) = false := by simpa using h3
    have u4 : decide (3 ≤ k) = true := by simp; omega
    have u5 : decide (k ≤ 6) = false := by simp; omega
    clear h3
    clear h1 h2
    go_enter Try.func16, Try.ntmps16
    go_wp2
    go_ret
    exact ⟨ret_b HE.out.symm, bl1 _ _⟩
end Go.Proofs.Ytfhakailbikjkaa
