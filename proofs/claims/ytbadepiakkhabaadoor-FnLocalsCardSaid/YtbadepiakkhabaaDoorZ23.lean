/- Joined texts: N9, R2. No conditions besides those that each states. -/
import Derived.Deep.QuietTactic
import Derived.BigQuiet
import Derived.Test.YtbadepiakkhabaaDoorZ2
import Derived.Test.YtbadepiakkhabaaDoorZ10
import Derived.Test.YtbadepiakkhabaaDoorZ18
/- What a node's number of kids and its number must be, in the program. No conditions. -/
namespace Go.Proofs.YtbadepiakkhabaaDoor
open Go.RowKit
set_option linter.unusedVariables false

theorem range_1 (w : World) : Calls Tryd.prog 163 #[.int .i64 1] w fun e w' => e = .returned (.tuple #[.int .i64 0, .int .i64 0]) ∧ w = w' := by
  go_enter Tryd.func163, Tryd.ntmps163
  go_wp2
  go_ret2
  exact ⟨rfl, rfl⟩
theorem range_2 (w : World) : Calls Tryd.prog 163 #[.int .i64 2] w fun e w' => e = .returned (.tuple #[.int .i64 0, .int .i64 0]) ∧ w = w' := by
  go_enter Tryd.func163, Tryd.ntmps163
  go_wp2
  go_ret2
  exact ⟨rfl, rfl⟩
theorem range_3 (w : World) : Calls Tryd.prog 163 #[.int .i64 3] w fun e w' => e = .returned (.tuple #[.int .i64 0, .int .i64 0]) ∧ w = w' := by
  go_enter Tryd.func163, Tryd.ntmps163
  go_wp2
  go_ret2
  exact ⟨rfl, rfl⟩
theorem range_4 (w : World) : Calls Tryd.prog 163 #[.int .i64 4] w fun e w' => e = .returned (.tuple #[.int .i64 0, .int .i64 0]) ∧ w = w' := by
  go_enter Tryd.func163, Tryd.ntmps163
  go_wp2
  go_ret2
  exact ⟨rfl, rfl⟩
theorem range_5 (w : World) : Calls Tryd.prog 163 #[.int .i64 5] w fun e w' => e = .returned (.tuple #[.int .i64 0, .int .i64 0]) ∧ w = w' := by
  go_enter Tryd.func163, Tryd.ntmps163
  go_wp2
  go_ret2
  exact ⟨rfl, rfl⟩
theorem range_6 (w : World) : Calls Tryd.prog 163 #[.int .i64 6] w fun e w' => e = .returned (.tuple #[.int .i64 0, .int .i64 8]) ∧ w = w' := by
  go_enter Tryd.func163, Tryd.ntmps163
  go_wp2
  go_ret2
  exact ⟨rfl, rfl⟩
theorem range_7 (w : World) : Calls Tryd.prog 163 #[.int .i64 7] w fun e w' => e = .returned (.tuple #[.int .i64 1, .int .i64 1]) ∧ w = w' := by
  go_enter Tryd.func163, Tryd.ntmps163
  go_wp2
  go_ret2
  exact ⟨rfl, rfl⟩
theorem range_8 (w : World) : Calls Tryd.prog 163 #[.int .i64 8] w fun e w' => e = .returned (.tuple #[.int .i64 2, .int .i64 2]) ∧ w = w' := by
  go_enter Tryd.func163, Tryd.ntmps163
  go_wp2
  go_ret2
  exact ⟨rfl, rfl⟩
theorem range_9 (w : World) : Calls Tryd.prog 163 #[.int .i64 9] w fun e w' => e = .returned (.tuple #[.int .i64 2, .int .i64 3]) ∧ w = w' := by
  go_enter Tryd.func163, Tryd.ntmps163
  go_wp2
  go_ret2
  exact ⟨rfl, rfl⟩
theorem range_10 (w : World) : Calls Tryd.prog 163 #[.int .i64 10] w fun e w' => e = .returned (.tuple #[.int .i64 1, .int .i64 9]) ∧ w = w' := by
  go_enter Tryd.func163, Tryd.ntmps163
  go_wp2
  go_ret2
  exact ⟨rfl, rfl⟩
theorem range_11 (w : World) : Calls Tryd.prog 163 #[.int .i64 11] w fun e w' => e = .returned (.tuple #[.int .i64 2, .int .i64 2]) ∧ w = w' := by
  go_enter Tryd.func163, Tryd.ntmps163
  go_wp2
  go_ret2
  exact ⟨rfl, rfl⟩
theorem range_12 (w : World) : Calls Tryd.prog 163 #[.int .i64 12] w fun e w' => e = .returned (.tuple #[.int .i64 3, .int .i64 3]) ∧ w = w' := by
  go_enter Tryd.func163, Tryd.ntmps163
  go_wp2
  go_ret2
  exact ⟨rfl, rfl⟩
theorem range_13 (w : World) : Calls Tryd.prog 163 #[.int .i64 13] w fun e w' => e = .returned (.tuple #[.int .i64 1, .int .i64 1]) ∧ w = w' := by
  go_enter Tryd.func163, Tryd.ntmps163
  go_wp2
  go_ret2
  exact ⟨rfl, rfl⟩
theorem range_14 (w : World) : Calls Tryd.prog 163 #[.int .i64 14] w fun e w' => e = .returned (.tuple #[.int .i64 0, .int .i64 24]) ∧ w = w' := by
  go_enter Tryd.func163, Tryd.ntmps163
  go_wp2
  go_ret2
  exact ⟨rfl, rfl⟩
theorem range_15 (w : World) : Calls Tryd.prog 163 #[.int .i64 15] w fun e w' => e = .returned (.tuple #[.int .i64 2, .int .i64 3]) ∧ w = w' := by
  go_enter Tryd.func163, Tryd.ntmps163
  go_wp2
  go_ret2
  exact ⟨rfl, rfl⟩
theorem range_16 (w : World) : Calls Tryd.prog 163 #[.int .i64 16] w fun e w' => e = .returned (.tuple #[.int .i64 1, .int .i64 2]) ∧ w = w' := by
  go_enter Tryd.func163, Tryd.ntmps163
  go_wp2
  go_ret2
  exact ⟨rfl, rfl⟩
theorem range_17 (w : World) : Calls Tryd.prog 163 #[.int .i64 17] w fun e w' => e = .returned (.tuple #[.int .i64 1, .int .i64 2]) ∧ w = w' := by
  go_enter Tryd.func163, Tryd.ntmps163
  go_wp2
  go_ret2
  exact ⟨rfl, rfl⟩
theorem range_18 (w : World) : Calls Tryd.prog 163 #[.int .i64 18] w fun e w' => e = .returned (.tuple #[.int .i64 1, .int .i64 2]) ∧ w = w' := by
  go_enter Tryd.func163, Tryd.ntmps163
  go_wp2
  go_ret2
  exact ⟨rfl, rfl⟩
theorem range_19 (w : World) : Calls Tryd.prog 163 #[.int .i64 19] w fun e w' => e = .returned (.tuple #[.int .i64 1, .int .i64 1]) ∧ w = w' := by
  go_enter Tryd.func163, Tryd.ntmps163
  go_wp2
  go_ret2
  exact ⟨rfl, rfl⟩
theorem range_20 (w : World) : Calls Tryd.prog 163 #[.int .i64 20] w fun e w' => e = .returned (.tuple #[.int .i64 1, .int .i64 14]) ∧ w = w' := by
  go_enter Tryd.func163, Tryd.ntmps163
  go_wp2
  go_ret2
  exact ⟨rfl, rfl⟩
theorem range_21 (w : World) : Calls Tryd.prog 163 #[.int .i64 21] w fun e w' => e = .returned (.tuple #[.int .i64 0, .int .i64 1]) ∧ w = w' := by
  go_enter Tryd.func163, Tryd.ntmps163
  go_wp2
  go_ret2
  exact ⟨rfl, rfl⟩
theorem range_22 (w : World) : Calls Tryd.prog 163 #[.int .i64 22] w fun e w' => e = .returned (.tuple #[.int .i64 0, .int .i64 2]) ∧ w = w' := by
  go_enter Tryd.func163, Tryd.ntmps163
  go_wp2
  go_ret2
  exact ⟨rfl, rfl⟩
theorem range_23 (w : World) : Calls Tryd.prog 163 #[.int .i64 23] w fun e w' => e = .returned (.tuple #[.int .i64 0, .int .i64 0]) ∧ w = w' := by
  go_enter Tryd.func163, Tryd.ntmps163
  go_wp2
  go_ret2
  exact ⟨rfl, rfl⟩
theorem range_24 (w : World) : Calls Tryd.prog 163 #[.int .i64 24] w fun e w' => e = .returned (.tuple #[.int .i64 0, .int .i64 1]) ∧ w = w' := by
  go_enter Tryd.func163, Tryd.ntmps163
  go_wp2
  go_ret2
  exact ⟨rfl, rfl⟩
theorem range_25 (w : World) : Calls Tryd.prog 163 #[.int .i64 25] w fun e w' => e = .returned (.tuple #[.int .i64 0, .int .i64 0]) ∧ w = w' := by
  go_enter Tryd.func163, Tryd.ntmps163
  go_wp2
  go_ret2
  exact ⟨rfl, rfl⟩
theorem range_26 (w : World) : Calls Tryd.prog 163 #[.int .i64 26] w fun e w' => e = .returned (.tuple #[.int .i64 1, .int .i64 1]) ∧ w = w' := by
  go_enter Tryd.func163, Tryd.ntmps163
  go_wp2
  go_ret2
  exact ⟨rfl, rfl⟩
theorem range_27 (w : World) : Calls Tryd.prog 163 #[.int .i64 27] w fun e w' => e = .returned (.tuple #[.int .i64 1, .int .i64 1]) ∧ w = w' := by
  go_enter Tryd.func163, Tryd.ntmps163
  go_wp2
  go_ret2
  exact ⟨rfl, rfl⟩
theorem range_28 (w : World) : Calls Tryd.prog 163 #[.int .i64 28] w fun e w' => e = .returned (.tuple #[.int .i64 0, .int .i64 0]) ∧ w = w' := by
  go_enter Tryd.func163, Tryd.ntmps163
  go_wp2
  go_ret2
  exact ⟨rfl, rfl⟩
theorem range_29 (w : World) : Calls Tryd.prog 163 #[.int .i64 29] w fun e w' => e = .returned (.tuple #[.int .i64 2, .int .i64 8]) ∧ w = w' := by
  go_enter Tryd.func163, Tryd.ntmps163
  go_wp2
  go_ret2
  exact ⟨rfl, rfl⟩
theorem range_no (k : Int) (w : World) (h1 : (k == 1) = false) (h2 : (k == 2) = false) (h3 : (k == 3) = false) (h4 : (k == 4) = false) (h5 : (k == 5) = false) (h6 : (k == 6) = false) (h7 : (k == 7) = false) (h8 : (k == 8) = false) (h9 : (k == 9) = false) (h10 : (k == 10) = false) (h11 : (k == 11) = false) (h12 : (k == 12) = false) (h13 : (k == 13) = false) (h14 : (k == 14) = false) (h15 : (k == 15) = false) (h16 : (k == 16) = false) (h17 : (k == 17) = false) (h18 : (k == 18) = false) (h19 : (k == 19) = false) (h20 : (k == 20) = false) (h21 : (k == 21) = false) (h22 : (k == 22) = false) (h23 : (k == 23) = false) (h24 : (k == 24) = false) (h25 : (k == 25) = false) (h26 : (k == 26) = false) (h27 : (k == 27) = false) (h28 : (k == 28) = false) (h29 : (k == 29) = false) : Calls Tryd.prog 163 #[.int .i64 k] w fun e w' => e = .returned (.tuple #[.int .i64 0, .int .i64 (-1)]) ∧ w = w' := by
  go_enter Tryd.func163, Tryd.ntmps163
  go_wp2
  go_ret2
  exact ⟨rfl, rfl⟩
/-- The least and the greatest number of kids; none: what is no kind. -/
def Ex.rangeOf (k : Int) : Int × Int := if 1 ≤ k ∧ k ≤ 29 then Ex.kidsOf k else (0, -1)
theorem impl_range (k : Int) (w : World) : Calls Tryd.prog 163 #[.int .i64 k] w fun e w' => e = .returned (.tuple #[.int .i64 (Ex.rangeOf k).1, .int .i64 (Ex.rangeOf k).2]) ∧ w = w' := by
  by_cases h1 : k = 1
  · subst h1; rw [show Ex.rangeOf 1 = (0, 0) by decide]; exact range_1 w
  by_cases h2 : k = 2
  · subst h2; rw [show Ex.rangeOf 2 = (0, 0) by decide]; exact range_2 w
  by_cases h3 : k = 3
  · subst h3; rw [show Ex.rangeOf 3 = (0, 0) by decide]; exact range_3 w
  by_cases h4 : k = 4
  · subst h4; rw [show Ex.rangeOf 4 = (0, 0) by decide]; exact range_4 w
  by_cases h5 : k = 5
  · subst h5; rw [show Ex.rangeOf 5 = (0, 0) by decide]; exact range_5 w
  by_cases h6 : k = 6
  · subst h6; rw [show Ex.rangeOf 6 = (0, 8) by decide]; exact range_6 w
  by_cases h7 : k = 7
  · subst h7; rw [show Ex.rangeOf 7 = (1, 1) by decide]; exact range_7 w
  by_cases h8 : k = 8
  · subst h8; rw [show Ex.rangeOf 8 = (2, 2) by decide]; exact range_8 w
  by_cases h9 : k = 9
  · subst h9; rw [show Ex.rangeOf 9 = (2, 3) by decide]; exact range_9 w
  by_cases h10 : k = 10
  · subst h10; rw [show Ex.rangeOf 10 = (1, 9) by decide]; exact range_10 w
  by_cases h11 : k = 11
  · subst h11; rw [show Ex.rangeOf 11 = (2, 2) by decide]; exact range_11 w
  by_cases h12 : k = 12
  · subst h12; rw [show Ex.rangeOf 12 = (3, 3) by decide]; exact range_12 w
  by_cases h13 : k = 13
  · subst h13; rw [show Ex.rangeOf 13 = (1, 1) by decide]; exact range_13 w
  by_cases h14 : k = 14
  · subst h14; rw [show Ex.rangeOf 14 = (0, 24) by decide]; exact range_14 w
  by_cases h15 : k = 15
  · subst h15; rw [show Ex.rangeOf 15 = (2, 3) by decide]; exact range_15 w
  by_cases h16 : k = 16
  · subst h16; rw [show Ex.rangeOf 16 = (1, 2) by decide]; exact range_16 w
  by_cases h17 : k = 17
  · subst h17; rw [show Ex.rangeOf 17 = (1, 2) by decide]; exact range_17 w
  by_cases h18 : k = 18
  · subst h18; rw [show Ex.rangeOf 18 = (1, 2) by decide]; exact range_18 w
  by_cases h19 : k = 19
  · subst h19; rw [show Ex.rangeOf 19 = (1, 1) by decide]; exact range_19 w
  by_cases h20 : k = 20
  · subst h20; rw [show Ex.rangeOf 20 = (1, 14) by decide]; exact range_20 w
  by_cases h21 : k = 21
  · subst h21; rw [show Ex.rangeOf 21 = (0, 1) by decide]; exact range_21 w
  by_cases h22 : k = 22
  · subst h22; rw [show Ex.rangeOf 22 = (0, 2) by decide]; exact range_22 w
  by_cases h23 : k = 23
  · subst h23; rw [show Ex.rangeOf 23 = (0, 0) by decide]; exact range_23 w
  by_cases h24 : k = 24
  · subst h24; rw [show Ex.rangeOf 24 = (0, 1) by decide]; exact range_24 w
  by_cases h25 : k = 25
  · subst h25; rw [show Ex.rangeOf 25 = (0, 0) by decide]; exact range_25 w
  by_cases h26 : k = 26
  · subst h26; rw [show Ex.rangeOf 26 = (1, 1) by decide]; exact range_26 w
  by_cases h27 : k = 27
  · subst h27; rw [show Ex.rangeOf 27 = (1, 1) by decide]; exact range_27 w
  by_cases h28 : k = 28
  · subst h28; rw [show Ex.rangeOf 28 = (0, 0) by decide]; exact range_28 w
  by_cases h29 : k = 29
  · subst h29; rw [show Ex.rangeOf 29 = (2, 8) by decide]; exact range_29 w
  rw [show Ex.rangeOf k = (0, -1) by unfold Ex.rangeOf; rw [if_neg (by omega)]]
  exact range_no k w (beq_eq_false_iff_ne.2 h1) (beq_eq_false_iff_ne.2 h2) (beq_eq_false_iff_ne.2 h3) (beq_eq_false_iff_ne.2 h4) (beq_eq_false_iff_ne.2 h5) (beq_eq_false_iff_ne.2 h6) (beq_eq_false_iff_ne.2 h7) (beq_eq_false_iff_ne.2 h8) (beq_eq_false_iff_ne.2 h9) (beq_eq_false_iff_ne.2 h10) (beq_eq_false_iff_ne.2 h11) (beq_eq_false_iff_ne.2 h12) (beq_eq_false_iff_ne.2 h13) (beq_eq_false_iff_ne.2 h14) (beq_eq_false_iff_ne.2 h15) (beq_eq_false_iff_ne.2 h16) (beq_eq_false_iff_ne.2 h17) (beq_eq_false_iff_ne.2 h18) (beq_eq_false_iff_ne.2 h19) (beq_eq_false_iff_ne.2 h20) (beq_eq_false_iff_ne.2 h21) (beq_eq_false_iff_ne.2 h22) (beq_eq_false_iff_ne.2 h23) (beq_eq_false_iff_ne.2 h24) (beq_eq_false_iff_ne.2 h25) (beq_eq_false_iff_ne.2 h26) (beq_eq_false_iff_ne.2 h27) (beq_eq_false_iff_ne.2 h28) (beq_eq_false_iff_ne.2 h29)
set_option maxHeartbeats 800000 in
theorem kids_a (t : Ex.T) (w : World) (g o : Nat) (h : TreeAt w g o t) (hln : t.kids.length ≤ 1048576) (k20 : (t.kind == 20) = false) (q : (Ex.rangeOf t.kind).1 ≤ t.kids.length) : Calls Tryd.prog 157 #[.pointer (some ⟨g, o, none⟩)] w fun e w' => e = .returned (.bool (decide ((t.kids.length : Int) ≤ (Ex.rangeOf t.kind).2))) ∧ Below w.heap.size w w' := by
  have HR := Lib.hid (fun W => impl_range t.kind W)
  generalize (Ex.rangeOf t.kind).1 = lo at HR q ⊢
  generalize (Ex.rangeOf t.kind).2 = hi at HR ⊢
  obtain ⟨⟨q0, q1, q2, q3⟩, v, q4, hk⟩ := tree_cells h
  obtain ⟨a, c, rfl⟩ := kids_len hk
  clear h hk
  go_enter Tryd.func157, Tryd.ntmps157
  go_wp2_with (go_at_call 163; refine (HR.out _).mono ?_; rintro e w1 ⟨rfl, rfl⟩)
  go_ret
  exact ⟨rfl, Below.refl _ _⟩
set_option maxHeartbeats 800000 in
theorem kids_b (t : Ex.T) (w : World) (g o : Nat) (h : TreeAt w g o t) (hln : t.kids.length ≤ 1048576) (k20 : (t.kind == 20) = false) (q : (t.kids.length : Int) < (Ex.rangeOf t.kind).1) : Calls Tryd.prog 157 #[.pointer (some ⟨g, o, none⟩)] w fun e w' => e = .returned (.bool false) ∧ Below w.heap.size w w' := by
  have HR := Lib.hid (fun W => impl_range t.kind W)
  generalize (Ex.rangeOf t.kind).1 = lo at HR q ⊢
  generalize (Ex.rangeOf t.kind).2 = hi at HR ⊢
  obtain ⟨⟨q0, q1, q2, q3⟩, v, q4, hk⟩ := tree_cells h
  obtain ⟨a, c, rfl⟩ := kids_len hk
  clear h hk
  go_enter Tryd.func157, Tryd.ntmps157
  go_wp2_with (go_at_call 163; refine (HR.out _).mono ?_; rintro e w1 ⟨rfl, rfl⟩)
  go_ret
  exact ⟨rfl, Below.refl _ _⟩
set_option maxHeartbeats 800000 in
theorem kids_c (t : Ex.T) (w : World) (g o : Nat) (h : TreeAt w g o t) (hln : t.kids.length ≤ 1048576) (k20 : (t.kind == 20) = true) (p : ((wrap64 ((t.kids.length : Int) - 1 - t.num)).tmod 2 != 0) = true) : Calls Tryd.prog 157 #[.pointer (some ⟨g, o, none⟩)] w fun e w' => e = .returned (.bool false) ∧ Below w.heap.size w w' := by
  have HR := Lib.hid (fun W => impl_range t.kind W)
  generalize (Ex.rangeOf t.kind).1 = lo at HR ⊢
  generalize (Ex.rangeOf t.kind).2 = hi at HR ⊢
  obtain ⟨⟨q0, q1, q2, q3⟩, v, q4, hk⟩ := tree_cells h
  obtain ⟨a, c, rfl⟩ := kids_len hk
  clear h hk
  go_enter Tryd.func157, Tryd.ntmps157
  go_wp2_with (go_at_call 163; refine (HR.out _).mono ?_; rintro e w1 ⟨rfl, rfl⟩)
  go_ret
  exact ⟨rfl, Below.refl _ _⟩
set_option maxHeartbeats 800000 in
theorem kids_d (t : Ex.T) (w : World) (g o : Nat) (h : TreeAt w g o t) (hln : t.kids.length ≤ 1048576) (k20 : (t.kind == 20) = true) (p : ((wrap64 ((t.kids.length : Int) - 1 - t.num)).tmod 2 != 0) = false) (q : (Ex.rangeOf t.kind).1 ≤ t.kids.length) : Calls Tryd.prog 157 #[.pointer (some ⟨g, o, none⟩)] w fun e w' => e = .returned (.bool (decide ((t.kids.length : Int) ≤ (Ex.rangeOf t.kind).2))) ∧ Below w.heap.size w w' := by
  have HR := Lib.hid (fun W => impl_range t.kind W)
  generalize (Ex.rangeOf t.kind).1 = lo at HR q ⊢
  generalize (Ex.rangeOf t.kind).2 = hi at HR ⊢
  obtain ⟨⟨q0, q1, q2, q3⟩, v, q4, hk⟩ := tree_cells h
  obtain ⟨a, c, rfl⟩ := kids_len hk
  clear h hk
  go_enter Tryd.func157, Tryd.ntmps157
  go_wp2_with (go_at_call 163; refine (HR.out _).mono ?_; rintro e w1 ⟨rfl, rfl⟩)
  go_ret
  exact ⟨rfl, Below.refl _ _⟩
set_option maxHeartbeats 800000 in
theorem kids_e (t : Ex.T) (w : World) (g o : Nat) (h : TreeAt w g o t) (hln : t.kids.length ≤ 1048576) (k20 : (t.kind == 20) = true) (p : ((wrap64 ((t.kids.length : Int) - 1 - t.num)).tmod 2 != 0) = false) (q : (t.kids.length : Int) < (Ex.rangeOf t.kind).1) : Calls Tryd.prog 157 #[.pointer (some ⟨g, o, none⟩)] w fun e w' => e = .returned (.bool false) ∧ Below w.heap.size w w' := by
  have HR := Lib.hid (fun W => impl_range t.kind W)
  generalize (Ex.rangeOf t.kind).1 = lo at HR q ⊢
  generalize (Ex.rangeOf t.kind).2 = hi at HR ⊢
  obtain ⟨⟨q0, q1, q2, q3⟩, v, q4, hk⟩ := tree_cells h
  obtain ⟨a, c, rfl⟩ := kids_len hk
  clear h hk
  go_enter Tryd.func157, Tryd.ntmps157
  go_wp2_with (go_at_call 163; refine (HR.out _).mono ?_; rintro e w1 ⟨rfl, rfl⟩)
  go_ret
  exact ⟨rfl, Below.refl _ _⟩
/-- May a node of this kind, with this number, have so many kids? -/
def Ex.kidsB (k n : Int) (z : Nat) : Bool := (if k = 20 then !((wrap64 ((z : Int) - 1 - n)).tmod 2 != 0) else true) && (decide ((Ex.rangeOf k).1 ≤ z) && decide ((z : Int) ≤ (Ex.rangeOf k).2))
theorem impl_kids (t : Ex.T) (w : World) (g o : Nat) (h : TreeAt w g o t) (hln : t.kids.length ≤ 1048576) : Calls Tryd.prog 157 #[.pointer (some ⟨g, o, none⟩)] w fun e w' => e = .returned (.bool (Ex.kidsB t.kind t.num t.kids.length)) ∧ Below w.heap.size w w' := by
  unfold Ex.kidsB
  by_cases k20 : t.kind = 20
  · rw [if_pos k20]
    cases p : ((wrap64 ((t.kids.length : Int) - 1 - t.num)).tmod 2 != 0)
    · by_cases q : (Ex.rangeOf t.kind).1 ≤ t.kids.length
      · rw [decide_eq_true q, Bool.true_and, Bool.not_false, Bool.true_and]
        exact kids_d t w g o h hln (beq_iff_eq.2 k20) p q
      · rw [decide_eq_false q, Bool.false_and, Bool.and_false]
        exact kids_e t w g o h hln (beq_iff_eq.2 k20) p (by omega)
    · rw [Bool.not_true, Bool.false_and]
      exact kids_c t w g o h hln (beq_iff_eq.2 k20) p
  · rw [if_neg k20, Bool.true_and]
    by_cases q : (Ex.rangeOf t.kind).1 ≤ t.kids.length
    · rw [decide_eq_true q, Bool.true_and]
      exact kids_a t w g o h hln (beq_eq_false_iff_ne.2 k20) q
    · rw [decide_eq_false q, Bool.false_and]
      exact kids_b t w g o h hln (beq_eq_false_iff_ne.2 k20) (by omega)
theorem number_1a (t : Ex.T) (w : World) (g o : Nat) (h : TreeAt w g o t) (hln : t.kids.length ≤ 1048576) (k1 : (t.kind == 1) = true) (n0 : 0 ≤ t.num) : Calls Tryd.prog 159 #[.pointer (some ⟨g, o, none⟩)] w fun e w' => e = .returned (.bool (decide (t.num ≤ 999999999999))) ∧ Below w.heap.size w w' := by
  obtain ⟨⟨q0, q1, q2, q3⟩, v, q4, hk⟩ := tree_cells h
  obtain ⟨a, c, rfl⟩ := kids_len hk
  clear h hk
  go_enter Tryd.func159, Tryd.ntmps159
  go_wp2
  go_ret
  exact ⟨rfl, Below.refl _ _⟩
theorem number_1b (t : Ex.T) (w : World) (g o : Nat) (h : TreeAt w g o t) (hln : t.kids.length ≤ 1048576) (k1 : (t.kind == 1) = true) (n0 : t.num < 0) : Calls Tryd.prog 159 #[.pointer (some ⟨g, o, none⟩)] w fun e w' => e = .returned (.bool false) ∧ Below w.heap.size w w' := by
  obtain ⟨⟨q0, q1, q2, q3⟩, v, q4, hk⟩ := tree_cells h
  obtain ⟨a, c, rfl⟩ := kids_len hk
  clear h hk
  go_enter Tryd.func159, Tryd.ntmps159
  go_wp2
  go_ret
  exact ⟨rfl, Below.refl _ _⟩
theorem number_20a (t : Ex.T) (w : World) (g o : Nat) (h : TreeAt w g o t) (hln : t.kids.length ≤ 1048576) (k1 : (t.kind == 1) = false) (k20 : (t.kind == 20) = true) (n0 : (t.num == 0) = true) : Calls Tryd.prog 159 #[.pointer (some ⟨g, o, none⟩)] w fun e w' => e = .returned (.bool true) ∧ Below w.heap.size w w' := by
  obtain ⟨⟨q0, q1, q2, q3⟩, v, q4, hk⟩ := tree_cells h
  obtain ⟨a, c, rfl⟩ := kids_len hk
  clear h hk
  go_enter Tryd.func159, Tryd.ntmps159
  go_wp2
  go_ret
  exact ⟨rfl, Below.refl _ _⟩
theorem number_20b (t : Ex.T) (w : World) (g o : Nat) (h : TreeAt w g o t) (hln : t.kids.length ≤ 1048576) (k1 : (t.kind == 1) = false) (k20 : (t.kind == 20) = true) (n0 : (t.num == 0) = false) : Calls Tryd.prog 159 #[.pointer (some ⟨g, o, none⟩)] w fun e w' => e = .returned (.bool (t.num == 1)) ∧ Below w.heap.size w w' := by
  obtain ⟨⟨q0, q1, q2, q3⟩, v, q4, hk⟩ := tree_cells h
  obtain ⟨a, c, rfl⟩ := kids_len hk
  clear h hk
  go_enter Tryd.func159, Tryd.ntmps159
  go_wp2
  go_ret
  exact ⟨rfl, Below.refl _ _⟩
theorem number_x (t : Ex.T) (w : World) (g o : Nat) (h : TreeAt w g o t) (hln : t.kids.length ≤ 1048576) (k1 : (t.kind == 1) = false) (k20 : (t.kind == 20) = false) : Calls Tryd.prog 159 #[.pointer (some ⟨g, o, none⟩)] w fun e w' => e = .returned (.bool (t.num == 0)) ∧ Below w.heap.size w w' := by
  obtain ⟨⟨q0, q1, q2, q3⟩, v, q4, hk⟩ := tree_cells h
  obtain ⟨a, c, rfl⟩ := kids_len hk
  clear h hk
  go_enter Tryd.func159, Tryd.ntmps159
  go_wp2
  go_ret
  exact ⟨rfl, Below.refl _ _⟩
def Ex.numberB (k n : Int) : Bool := if k = 1 then decide (0 ≤ n) && decide (n ≤ 999999999999) else if k = 20 then n == 0 || n == 1 else n == 0
theorem impl_number (t : Ex.T) (w : World) (g o : Nat) (h : TreeAt w g o t) (hln : t.kids.length ≤ 1048576) : Calls Tryd.prog 159 #[.pointer (some ⟨g, o, none⟩)] w fun e w' => e = .returned (.bool (Ex.numberB t.kind t.num)) ∧ Below w.heap.size w w' := by
  unfold Ex.numberB
  by_cases k1 : t.kind = 1
  · rw [if_pos k1]
    by_cases n0 : 0 ≤ t.num
    · rw [decide_eq_true n0, Bool.true_and]; exact number_1a t w g o h hln (beq_iff_eq.2 k1) n0
    · rw [decide_eq_false n0, Bool.false_and]; exact number_1b t w g o h hln (beq_iff_eq.2 k1) (by omega)
  · rw [if_neg k1]
    by_cases k20 : t.kind = 20
    · rw [if_pos k20]
      cases n0 : (t.num == 0)
      · rw [Bool.false_or]; exact number_20b t w g o h hln (beq_eq_false_iff_ne.2 k1) (beq_iff_eq.2 k20) n0
      · rw [Bool.true_or]; exact number_20a t w g o h hln (beq_eq_false_iff_ne.2 k1) (beq_iff_eq.2 k20) n0
    · rw [if_neg k20]; exact number_x t w g o h hln (beq_eq_false_iff_ne.2 k1) (beq_eq_false_iff_ne.2 k20)
end Go.Proofs.YtbadepiakkhabaaDoor
/- Letters, digits, bytes of words, prefixSize and names in the program. No conditions. -/
namespace Go.Proofs.YtbadepiakkhabaaDoor
open Go.RowKit
set_option linter.unusedVariables false

theorem impl_letter (b : UInt8) (w : World) : Calls Tryd.prog 140 #[.int .u8 (b.toNat : Int)] w fun e w' => e = .returned (.bool (Tk.letter b)) ∧ w = w' := by
  have hb := UInt8.toNat_lt b
  rcases letter_cases b with ⟨h, e⟩ | ⟨h, h2, e⟩ | ⟨h, h2, h3, e⟩ | ⟨h, e⟩ | ⟨h, h2, e⟩ | ⟨h, e⟩
  · rw [e]
    have ta : decide ((97 : Int) ≤ b.toNat) = false := by simp; omega
    have tA : decide ((65 : Int) ≤ b.toNat) = false := by simp; omega
    have tu : ((b.toNat : Int) == 95) = false := by simp; omega
    clear e
    go_enter Tryd.func140, Tryd.ntmps140
    go_wp2
    go_ret
    exact ⟨rfl, rfl⟩
  · rw [e]
    have ta : decide ((97 : Int) ≤ b.toNat) = false := by simp; omega
    have tA : decide ((65 : Int) ≤ b.toNat) = true := by simp; omega
    have tZ : decide ((b.toNat : Int) ≤ 90) = true := by simp; omega
    have tu : ((b.toNat : Int) == 95) = false := by simp; omega
    clear e
    go_enter Tryd.func140, Tryd.ntmps140
    go_wp2
    go_ret
    exact ⟨rfl, rfl⟩
  · rw [e]
    have ta : decide ((97 : Int) ≤ b.toNat) = false := by simp; omega
    have tA : decide ((65 : Int) ≤ b.toNat) = true := by simp; omega
    have tZ : decide ((b.toNat : Int) ≤ 90) = false := by simp; omega
    have tu : ((b.toNat : Int) == 95) = false := ne8 h3
    clear e
    go_enter Tryd.func140, Tryd.ntmps140
    go_wp2
    go_ret
    exact ⟨rfl, rfl⟩
  · rw [e]
    have ta : decide ((97 : Int) ≤ b.toNat) = false := by subst h; rfl
    have tA : decide ((65 : Int) ≤ b.toNat) = true := by subst h; rfl
    have tZ : decide ((b.toNat : Int) ≤ 90) = false := by subst h; rfl
    have tu : ((b.toNat : Int) == 95) = true := by subst h; rfl
    clear e
    go_enter Tryd.func140, Tryd.ntmps140
    go_wp2
    go_ret
    exact ⟨rfl, rfl⟩
  · rw [e]
    have ta : decide ((97 : Int) ≤ b.toNat) = true := by simp; omega
    have tz : decide ((b.toNat : Int) ≤ 122) = true := by simp; omega
    have tA : decide ((65 : Int) ≤ b.toNat) = true := by simp; omega
    have tZ : decide ((b.toNat : Int) ≤ 90) = false := by simp; omega
    have tu : ((b.toNat : Int) == 95) = false := by simp; omega
    clear e
    go_enter Tryd.func140, Tryd.ntmps140
    go_wp2
    go_ret
    exact ⟨rfl, rfl⟩
  · rw [e]
    have ta : decide ((97 : Int) ≤ b.toNat) = true := by simp; omega
    have tz : decide ((b.toNat : Int) ≤ 122) = false := by simp; omega
    have tA : decide ((65 : Int) ≤ b.toNat) = true := by simp; omega
    have tZ : decide ((b.toNat : Int) ≤ 90) = false := by simp; omega
    have tu : ((b.toNat : Int) == 95) = false := by simp; omega
    clear e
    go_enter Tryd.func140, Tryd.ntmps140
    go_wp2
    go_ret
    exact ⟨rfl, rfl⟩
theorem impl_digit (b : UInt8) (w : World) : Calls Tryd.prog 122 #[.int .u8 (b.toNat : Int)] w fun e w' => e = .returned (.bool (Dec.isDig b)) ∧ w = w' := by
  have hb := UInt8.toNat_lt b
  rcases (show b.toNat < 48 ∨ (48 ≤ b.toNat ∧ b.toNat ≤ 57) ∨ 57 < b.toNat by omega) with h | ⟨h, h2⟩ | h
  · rw [show Dec.isDig b = false by simp [Dec.isDig]; omega]
    have t0 : decide ((48 : Int) ≤ b.toNat) = false := by simp; omega
    go_enter Tryd.func122, Tryd.ntmps122
    go_wp2
    go_ret
    exact ⟨rfl, rfl⟩
  · rw [show Dec.isDig b = true by simp [Dec.isDig]; omega]
    have t0 : decide ((48 : Int) ≤ b.toNat) = true := by simp; omega
    have t1 : decide ((b.toNat : Int) ≤ 57) = true := by simp; omega
    go_enter Tryd.func122, Tryd.ntmps122
    go_wp2
    go_ret
    exact ⟨rfl, rfl⟩
  · rw [show Dec.isDig b = false by simp [Dec.isDig]; omega]
    have t0 : decide ((48 : Int) ≤ b.toNat) = true := by simp; omega
    have t1 : decide ((b.toNat : Int) ≤ 57) = false := by simp; omega
    go_enter Tryd.func122, Tryd.ntmps122
    go_wp2
    go_ret
    exact ⟨rfl, rfl⟩
theorem impl_wordb (b : UInt8) (w : World) : Calls Tryd.prog 124 #[.int .u8 (b.toNat : Int)] w fun e w' => e = .returned (.bool (Tk.idb b)) ∧ w = w' := by
  have H1 := Lib.hid (fun W => impl_letter b W)
  have H2 := Lib.hid (fun W => impl_digit b W)
  unfold Tk.idb
  cases hl : Tk.letter b
  · rw [hl] at H1
    clear hl
    cases hd : Dec.isDig b
    all_goals
      rw [hd] at H2
      clear hd
      go_enter Tryd.func124, Tryd.ntmps124
      go_wp2_with (first | (go_at_call 140; refine (H1.out _).mono ?_; rintro e w3 ⟨rfl, rfl⟩) | (go_at_call 122; refine (H2.out _).mono ?_; rintro e w4 ⟨rfl, rfl⟩))
      go_ret
      exact ⟨rfl, rfl⟩
  · rw [hl] at H1
    clear hl
    go_enter Tryd.func124, Tryd.ntmps124
    go_wp2_with (first | (go_at_call 140; refine (H1.out _).mono ?_; rintro e w3 ⟨rfl, rfl⟩))
    go_ret
    exact ⟨rfl, rfl⟩
/-- Where the count of a text's accepted bytes stands. -/
def TwAt (p : UInt8 → Bool) (l : List UInt8) (k : Nat) : Prop := (l.takeWhile p).length = k + ((l.drop k).takeWhile p).length
theorem TwAt.start (p : UInt8 → Bool) (l : List UInt8) : TwAt p l 0 := by unfold TwAt; rw [List.drop_zero, Nat.zero_add]
theorem TwAt.next {p : UInt8 → Bool} {l : List UInt8} {k : Nat} (h : TwAt p l k) (hk : k < l.length) (hp : p l[k] = true) : TwAt p l (k + 1) := by
  unfold TwAt at h ⊢
  rw [List.drop_eq_getElem_cons hk, List.takeWhile_cons, if_pos hp, List.length_cons] at h; omega
theorem TwAt.stop {p : UInt8 → Bool} {l : List UInt8} {k : Nat} (h : TwAt p l k) (hk : k < l.length) (hp : p l[k] = false) : (l.takeWhile p).length = k := by
  unfold TwAt at h
  rw [List.drop_eq_getElem_cons hk, List.takeWhile_cons, if_neg (by simp [hp])] at h; exact h
theorem TwAt.over {p : UInt8 → Bool} {l : List UInt8} {k : Nat} (h : TwAt p l k) (hk : l.length ≤ k) : (l.takeWhile p).length = k := by
  unfold TwAt at h
  rw [List.drop_eq_nil_of_le hk] at h; exact h
theorem ret_len {n m : Nat} (h : n = m) : Ending.returned (.int .i64 (m : Int)) = .returned (.int .i64 (n : Int)) := by rw [h]
set_option maxHeartbeats 800000 in
theorem impl_prefix_word (s : ByteArray) (w : World) (hs : (s.size : Int) ≤ 1048576) :
    Calls Tryd.prog 123 #[.string s, .func (.func 124) #[] #[]] w fun e w' => e = .returned (.int .i64 (s.data.toList.takeWhile Tk.idb).length) ∧ w = w' := by
  have HST := Lib.hid (TwAt.start Tk.idb s.data.toList)
  generalize hP : (Tk.idb : UInt8 → Bool) = P at HST
  have HC := Lib.hid (fun (b : UInt8) W => impl_wordb b W)
  rw [hP] at HC
  clear hP
  go_enter Tryd.func123, Tryd.ntmps123
  go_wp2
  go_loop [5, 8] (fun _ i => ∃ k : Nat, i = .int .i64 k ∧ k ≤ s.size ∧ TwAt P s.data.toList k) (fun _ i => s.size - (intOf i).toNat)
  case atStart => exact ⟨0, rfl, Nat.zero_le _, HST.out⟩
  case round =>
    clear HST
    obtain ⟨k, rfl, hk, hat⟩ := hrel
    have HAT := Lib.hid hat
    clear hat
    by_cases hlt : (k : Int) < s.size
    · have hks : k < s.size := by omega
      have H1 := Lib.hid (fun W => HC.out s[k] W)
      cases hp : P s[k]
      · have HN := Lib.hid (HAT.out.stop hks hp)
        rw [hp] at H1
        clear hp HC
        go_wp2_with (first | (go_at_call 124; refine (H1.out _).mono ?_; rintro e w3 ⟨rfl, rfl⟩))
        go_ret
        exact ⟨ret_len HN.out, rfl⟩
      · have HN := Lib.hid (HAT.out.next hks hp)
        rw [hp] at H1
        clear hp HC
        go_wp2_with (first | (go_at_call 124; refine (H1.out _).mono ?_; rintro e w3 ⟨rfl, rfl⟩))
        go_round
        case rel => exact ⟨k + 1, by go_num, by omega, HN.out⟩
        case measure => first | (simp [intOf]; done) | (simp [intOf]; omega)
    · obtain rfl : k = s.size := by omega
      have HN := Lib.hid (HAT.out.over (Nat.le_refl _))
      go_wp2
      go_ret
      exact ⟨ret_len HN.out, rfl⟩
theorem tw_full {p : UInt8 → Bool} {l : List UInt8} : (l.takeWhile p).length = l.length ↔ l.all p = true := by
  constructor
  · intro h
    have h2 := Tk.take_all p l
    have h3 : l.takeWhile p = l := List.IsPrefix.eq_of_length (List.takeWhile_prefix p) h
    rw [h3] at h2; exact h2
  · intro h
    have h3 : l.takeWhile p = l := by
      induction l with
      | nil => rfl
      | cons b l ih =>
        rw [List.all_cons, Bool.and_eq_true] at h
        rw [List.takeWhile_cons, if_pos h.1, ih h.2]
    rw [h3]
theorem dig_no_letter {b : UInt8} (h : Dec.isDig b = true) : Tk.letter b = false := Tk.letter_dig h
theorem name_ways (s : ByteArray) : (s.size = 0 ∧ Tk.isName s.data.toList = false) ∨ (12 < s.size ∧ Tk.isName s.data.toList = false) ∨ ∃ h : 1 ≤ s.size, s.size ≤ 12 ∧ ((Dec.isDig s[0] = true ∧ Tk.isName s.data.toList = false)
    ∨ (Dec.isDig s[0] = false ∧ (s.data.toList.takeWhile Tk.idb).length = s.size ∧ Tk.isName s.data.toList = !hasW Tk.reserved s.data.toList)
    ∨ (Dec.isDig s[0] = false ∧ (s.data.toList.takeWhile Tk.idb).length ≠ s.size ∧ Tk.isName s.data.toList = false)) := by
  rcases name_cases s with ⟨h | h, e⟩ | ⟨h1, h2, hr⟩
  · exact .inl ⟨by omega, e⟩
  · exact .inr (.inl ⟨h, e⟩)
  · refine .inr (.inr ⟨h1, h2, ?_⟩)
    have hl : 0 < s.data.toList.length := h1
    have hmem : s[0] ∈ s.data.toList := List.getElem_mem hl
    cases hd : Dec.isDig s[0]
    · right
      by_cases hf : (s.data.toList.takeWhile Tk.idb).length = s.size
      · left
        refine ⟨rfl, hf, ?_⟩
        have ha := tw_full.1 hf
        have h0 := List.all_eq_true.1 ha _ hmem
        have hlet : Tk.letter s[0] = true := by
          unfold Tk.idb at h0
          rw [hd, Bool.or_false] at h0; exact h0
        rcases hr with ⟨h3, e⟩ | ⟨h3, h4, e⟩ | ⟨h3, h4, e⟩
        · rw [hlet] at h3; cases h3
        · rw [e, h4]; rfl
        · rw [e, h4, ha]; rfl
      · right
        refine ⟨rfl, hf, ?_⟩
        have ha : s.data.toList.all Tk.idb = false := Bool.eq_false_iff.2 fun h => hf (tw_full.2 h)
        rcases hr with ⟨h3, e⟩ | ⟨h3, h4, e⟩ | ⟨h3, h4, e⟩
        · exact e
        · exact e
        · rw [e, ha]
    · left
      refine ⟨rfl, ?_⟩
      rcases hr with ⟨h3, e⟩ | ⟨h3, h4, e⟩ | ⟨h3, h4, e⟩
      · exact e
      · exact e
      · rw [dig_no_letter hd] at h3; cases h3

set_option maxHeartbeats 800000 in
theorem impl_name (s : ByteArray) (w : World) (hs : (s.size : Int) ≤ 1048576) : Calls Tryd.prog 94 #[.string s] w fun e w' => e = .returned (.bool (Tk.isName s.data.toList)) ∧ Below w.heap.size w w' := by
  rcases name_ways s with ⟨h, e⟩ | ⟨h, e⟩ | ⟨h1, h2, ⟨h3, e⟩ | ⟨h3, h4, e⟩ | ⟨h3, h4, e⟩⟩
  · rw [e]
    have c4 : s.toList.isEmpty = true := by
      have h5 : s.toList = [] := by rw [ByteArray.toList_eq]; exact List.length_eq_zero_iff.1 h
      rw [h5]; rfl
    clear e h
    go_enter Tryd.func94, Tryd.ntmps94
    go_wp2
    go_ret
    exact ⟨rfl, Below.refl _ _⟩
  · rw [e]
    have c4 : s.toList.isEmpty = false := by
      cases h5 : s.toList with
      | nil => rw [ByteArray.toList_eq] at h5; have h6 : s.data.toList.length = 0 := by rw [h5]; rfl
               rw [len8] at h6; omega
      | cons _ _ => rfl
    have t2 : (12 : Int) < s.size := by omega
    clear e h
    go_enter Tryd.func94, Tryd.ntmps94
    go_wp2
    go_ret
    exact ⟨rfl, Below.refl _ _⟩
  all_goals
    rw [e]
    have c4 : s.toList.isEmpty = false := by
      cases h5 : s.toList with
      | nil => rw [ByteArray.toList_eq] at h5; have h6 : s.data.toList.length = 0 := by rw [h5]; rfl
               rw [len8] at h6; omega
      | cons _ _ => rfl
    have t2 : ¬ (12 : Int) < s.size := by omega
    have t3 : (0 : Int) < s.size := by omega
    have HD := Lib.hid (fun W => impl_digit s[0] W)
    rw [h3] at HD
    have HP := Lib.hid (fun W => impl_prefix_word s W hs)
    have HR := Lib.hid (fun W => impl_reserved s W)
  · clear e h3 HP HR
    go_enter Tryd.func94, Tryd.ntmps94
    go_wp2_with (first | (go_at_call 122; refine (HD.out _).mono ?_; rintro e w1 ⟨rfl, rfl⟩))
    go_ret
    exact ⟨rfl, Below.refl _ _⟩
  · generalize hasW Tk.reserved s.data.toList = b at HR
    rw [h4] at HP
    clear e h3 h4
    go_enter Tryd.func94, Tryd.ntmps94
    go_wp2_with (first | (go_at_call 122; refine (HD.out _).mono ?_; rintro e w1 ⟨rfl, rfl⟩) | (go_at_call 123; refine (HP.out _).mono ?_; rintro e w2 ⟨rfl, rfl⟩) | (go_at_call 125; refine (HR.out _).mono ?_; rintro e w3 ⟨rfl, hb3⟩; have HB := Lib.hid hb3; clear hb3))
    go_ret
    exact ⟨rfl, HB.out⟩
  · have h5 : (((s.data.toList.takeWhile Tk.idb).length : Int) == s.size) = false := beq_eq_false_iff_ne.2 (by omega)
    generalize (s.data.toList.takeWhile Tk.idb).length = n at HP h5
    clear e h3 h4 HR
    go_enter Tryd.func94, Tryd.ntmps94
    go_wp2_with (first | (go_at_call 122; refine (HD.out _).mono ?_; rintro e w1 ⟨rfl, rfl⟩) | (go_at_call 123; refine (HP.out _).mono ?_; rintro e w2 ⟨rfl, rfl⟩))
    go_ret
    exact ⟨rfl, Below.refl _ _⟩
end Go.Proofs.YtbadepiakkhabaaDoor
