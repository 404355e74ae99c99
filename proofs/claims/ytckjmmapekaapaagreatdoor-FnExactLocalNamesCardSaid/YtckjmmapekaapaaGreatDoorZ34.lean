/- Joined texts: N9. No conditions besides those that each states. -/
import Derived.Deep.QuietTactic
import Derived.BigQuiet
import Derived.Test.YtckjmmapekaapaaGreatDoorZ24
/- What a node's number of kids and its number must be, in the program. No conditions. -/
namespace Go.Proofs.YtckjmmapekaapaaGreatDoor
open Go.RowKit
set_option linter.unusedVariables false

theorem range_1 (w : World) : Calls Tryz.prog 115 #[.int .i64 1] w fun e w' => e = .returned (.tuple #[.int .i64 0, .int .i64 0]) ∧ w = w' := by
  go_enter Tryz.func115, Tryz.ntmps115
  go_wp2
  go_ret2
  exact ⟨rfl, rfl⟩
theorem range_2 (w : World) : Calls Tryz.prog 115 #[.int .i64 2] w fun e w' => e = .returned (.tuple #[.int .i64 0, .int .i64 0]) ∧ w = w' := by
  go_enter Tryz.func115, Tryz.ntmps115
  go_wp2
  go_ret2
  exact ⟨rfl, rfl⟩
theorem range_3 (w : World) : Calls Tryz.prog 115 #[.int .i64 3] w fun e w' => e = .returned (.tuple #[.int .i64 0, .int .i64 0]) ∧ w = w' := by
  go_enter Tryz.func115, Tryz.ntmps115
  go_wp2
  go_ret2
  exact ⟨rfl, rfl⟩
theorem range_4 (w : World) : Calls Tryz.prog 115 #[.int .i64 4] w fun e w' => e = .returned (.tuple #[.int .i64 0, .int .i64 0]) ∧ w = w' := by
  go_enter Tryz.func115, Tryz.ntmps115
  go_wp2
  go_ret2
  exact ⟨rfl, rfl⟩
theorem range_5 (w : World) : Calls Tryz.prog 115 #[.int .i64 5] w fun e w' => e = .returned (.tuple #[.int .i64 0, .int .i64 0]) ∧ w = w' := by
  go_enter Tryz.func115, Tryz.ntmps115
  go_wp2
  go_ret2
  exact ⟨rfl, rfl⟩
theorem range_6 (w : World) : Calls Tryz.prog 115 #[.int .i64 6] w fun e w' => e = .returned (.tuple #[.int .i64 0, .int .i64 8]) ∧ w = w' := by
  go_enter Tryz.func115, Tryz.ntmps115
  go_wp2
  go_ret2
  exact ⟨rfl, rfl⟩
theorem range_7 (w : World) : Calls Tryz.prog 115 #[.int .i64 7] w fun e w' => e = .returned (.tuple #[.int .i64 1, .int .i64 1]) ∧ w = w' := by
  go_enter Tryz.func115, Tryz.ntmps115
  go_wp2
  go_ret2
  exact ⟨rfl, rfl⟩
theorem range_8 (w : World) : Calls Tryz.prog 115 #[.int .i64 8] w fun e w' => e = .returned (.tuple #[.int .i64 2, .int .i64 2]) ∧ w = w' := by
  go_enter Tryz.func115, Tryz.ntmps115
  go_wp2
  go_ret2
  exact ⟨rfl, rfl⟩
theorem range_9 (w : World) : Calls Tryz.prog 115 #[.int .i64 9] w fun e w' => e = .returned (.tuple #[.int .i64 2, .int .i64 3]) ∧ w = w' := by
  go_enter Tryz.func115, Tryz.ntmps115
  go_wp2
  go_ret2
  exact ⟨rfl, rfl⟩
theorem range_10 (w : World) : Calls Tryz.prog 115 #[.int .i64 10] w fun e w' => e = .returned (.tuple #[.int .i64 1, .int .i64 9]) ∧ w = w' := by
  go_enter Tryz.func115, Tryz.ntmps115
  go_wp2
  go_ret2
  exact ⟨rfl, rfl⟩
theorem range_11 (w : World) : Calls Tryz.prog 115 #[.int .i64 11] w fun e w' => e = .returned (.tuple #[.int .i64 2, .int .i64 2]) ∧ w = w' := by
  go_enter Tryz.func115, Tryz.ntmps115
  go_wp2
  go_ret2
  exact ⟨rfl, rfl⟩
theorem range_12 (w : World) : Calls Tryz.prog 115 #[.int .i64 12] w fun e w' => e = .returned (.tuple #[.int .i64 3, .int .i64 3]) ∧ w = w' := by
  go_enter Tryz.func115, Tryz.ntmps115
  go_wp2
  go_ret2
  exact ⟨rfl, rfl⟩
theorem range_13 (w : World) : Calls Tryz.prog 115 #[.int .i64 13] w fun e w' => e = .returned (.tuple #[.int .i64 1, .int .i64 1]) ∧ w = w' := by
  go_enter Tryz.func115, Tryz.ntmps115
  go_wp2
  go_ret2
  exact ⟨rfl, rfl⟩
theorem range_14 (w : World) : Calls Tryz.prog 115 #[.int .i64 14] w fun e w' => e = .returned (.tuple #[.int .i64 0, .int .i64 24]) ∧ w = w' := by
  go_enter Tryz.func115, Tryz.ntmps115
  go_wp2
  go_ret2
  exact ⟨rfl, rfl⟩
theorem range_15 (w : World) : Calls Tryz.prog 115 #[.int .i64 15] w fun e w' => e = .returned (.tuple #[.int .i64 2, .int .i64 3]) ∧ w = w' := by
  go_enter Tryz.func115, Tryz.ntmps115
  go_wp2
  go_ret2
  exact ⟨rfl, rfl⟩
theorem range_16 (w : World) : Calls Tryz.prog 115 #[.int .i64 16] w fun e w' => e = .returned (.tuple #[.int .i64 1, .int .i64 2]) ∧ w = w' := by
  go_enter Tryz.func115, Tryz.ntmps115
  go_wp2
  go_ret2
  exact ⟨rfl, rfl⟩
theorem range_17 (w : World) : Calls Tryz.prog 115 #[.int .i64 17] w fun e w' => e = .returned (.tuple #[.int .i64 1, .int .i64 2]) ∧ w = w' := by
  go_enter Tryz.func115, Tryz.ntmps115
  go_wp2
  go_ret2
  exact ⟨rfl, rfl⟩
theorem range_18 (w : World) : Calls Tryz.prog 115 #[.int .i64 18] w fun e w' => e = .returned (.tuple #[.int .i64 1, .int .i64 2]) ∧ w = w' := by
  go_enter Tryz.func115, Tryz.ntmps115
  go_wp2
  go_ret2
  exact ⟨rfl, rfl⟩
theorem range_19 (w : World) : Calls Tryz.prog 115 #[.int .i64 19] w fun e w' => e = .returned (.tuple #[.int .i64 1, .int .i64 1]) ∧ w = w' := by
  go_enter Tryz.func115, Tryz.ntmps115
  go_wp2
  go_ret2
  exact ⟨rfl, rfl⟩
theorem range_20 (w : World) : Calls Tryz.prog 115 #[.int .i64 20] w fun e w' => e = .returned (.tuple #[.int .i64 1, .int .i64 14]) ∧ w = w' := by
  go_enter Tryz.func115, Tryz.ntmps115
  go_wp2
  go_ret2
  exact ⟨rfl, rfl⟩
theorem range_21 (w : World) : Calls Tryz.prog 115 #[.int .i64 21] w fun e w' => e = .returned (.tuple #[.int .i64 0, .int .i64 1]) ∧ w = w' := by
  go_enter Tryz.func115, Tryz.ntmps115
  go_wp2
  go_ret2
  exact ⟨rfl, rfl⟩
theorem range_22 (w : World) : Calls Tryz.prog 115 #[.int .i64 22] w fun e w' => e = .returned (.tuple #[.int .i64 0, .int .i64 2]) ∧ w = w' := by
  go_enter Tryz.func115, Tryz.ntmps115
  go_wp2
  go_ret2
  exact ⟨rfl, rfl⟩
theorem range_23 (w : World) : Calls Tryz.prog 115 #[.int .i64 23] w fun e w' => e = .returned (.tuple #[.int .i64 0, .int .i64 0]) ∧ w = w' := by
  go_enter Tryz.func115, Tryz.ntmps115
  go_wp2
  go_ret2
  exact ⟨rfl, rfl⟩
theorem range_24 (w : World) : Calls Tryz.prog 115 #[.int .i64 24] w fun e w' => e = .returned (.tuple #[.int .i64 0, .int .i64 1]) ∧ w = w' := by
  go_enter Tryz.func115, Tryz.ntmps115
  go_wp2
  go_ret2
  exact ⟨rfl, rfl⟩
theorem range_25 (w : World) : Calls Tryz.prog 115 #[.int .i64 25] w fun e w' => e = .returned (.tuple #[.int .i64 0, .int .i64 0]) ∧ w = w' := by
  go_enter Tryz.func115, Tryz.ntmps115
  go_wp2
  go_ret2
  exact ⟨rfl, rfl⟩
theorem range_26 (w : World) : Calls Tryz.prog 115 #[.int .i64 26] w fun e w' => e = .returned (.tuple #[.int .i64 1, .int .i64 1]) ∧ w = w' := by
  go_enter Tryz.func115, Tryz.ntmps115
  go_wp2
  go_ret2
  exact ⟨rfl, rfl⟩
theorem range_27 (w : World) : Calls Tryz.prog 115 #[.int .i64 27] w fun e w' => e = .returned (.tuple #[.int .i64 1, .int .i64 1]) ∧ w = w' := by
  go_enter Tryz.func115, Tryz.ntmps115
  go_wp2
  go_ret2
  exact ⟨rfl, rfl⟩
theorem range_28 (w : World) : Calls Tryz.prog 115 #[.int .i64 28] w fun e w' => e = .returned (.tuple #[.int .i64 0, .int .i64 0]) ∧ w = w' := by
  go_enter Tryz.func115, Tryz.ntmps115
  go_wp2
  go_ret2
  exact ⟨rfl, rfl⟩
theorem range_29 (w : World) : Calls Tryz.prog 115 #[.int .i64 29] w fun e w' => e = .returned (.tuple #[.int .i64 2, .int .i64 8]) ∧ w = w' := by
  go_enter Tryz.func115, Tryz.ntmps115
  go_wp2
  go_ret2
  exact ⟨rfl, rfl⟩
theorem range_no (k : Int) (w : World) (h1 : (k == 1) = false) (h2 : (k == 2) = false) (h3 : (k == 3) = false) (h4 : (k == 4) = false) (h5 : (k == 5) = false) (h6 : (k == 6) = false) (h7 : (k == 7) = false) (h8 : (k == 8) = false) (h9 : (k == 9) = false) (h10 : (k == 10) = false) (h11 : (k == 11) = false) (h12 : (k == 12) = false) (h13 : (k == 13) = false) (h14 : (k == 14) = false) (h15 : (k == 15) = false) (h16 : (k == 16) = false) (h17 : (k == 17) = false) (h18 : (k == 18) = false) (h19 : (k == 19) = false) (h20 : (k == 20) = false) (h21 : (k == 21) = false) (h22 : (k == 22) = false) (h23 : (k == 23) = false) (h24 : (k == 24) = false) (h25 : (k == 25) = false) (h26 : (k == 26) = false) (h27 : (k == 27) = false) (h28 : (k == 28) = false) (h29 : (k == 29) = false) : Calls Tryz.prog 115 #[.int .i64 k] w fun e w' => e = .returned (.tuple #[.int .i64 0, .int .i64 (-1)]) ∧ w = w' := by
  go_enter Tryz.func115, Tryz.ntmps115
  go_wp2
  go_ret2
  exact ⟨rfl, rfl⟩
/-- The least and the greatest number of kids; none: what is no kind. -/
def Ex.rangeOf (k : Int) : Int × Int := if 1 ≤ k ∧ k ≤ 29 then Ex.kidsOf k else (0, -1)
theorem impl_range (k : Int) (w : World) : Calls Tryz.prog 115 #[.int .i64 k] w fun e w' => e = .returned (.tuple #[.int .i64 (Ex.rangeOf k).1, .int .i64 (Ex.rangeOf k).2]) ∧ w = w' := by
  by_cases h1 : k = 1
  · subst h1; rw [show Ex.rangeOf 1 = (0, 0) by decide]; exact range_1 w
  by_cases h2 : k = 2
  · subst h2; rw [show Ex.rangeOf 2 = (0, 0) by decide]; exact range_2 w
  by_cases h3 : k = 3
  · subst h3; rw [show Ex.rangeOf 3 = (0, 0) by decide]; exact range_3 w
  by_cases h4 : k = 4
  · subst h4; rw [show Ex.rangeOf 4 = (0, 0) by decide]; exact range_4 w
  by_cases h5 : k = 5
  · subst h5; rw [show Ex.rangeOf 5 = (0, 0) by decide]; exact range_5 w
  by_cases h6 : k = 6
  · subst h6; rw [show Ex.rangeOf 6 = (0, 8) by decide]; exact range_6 w
  by_cases h7 : k = 7
  · subst h7; rw [show Ex.rangeOf 7 = (1, 1) by decide]; exact range_7 w
  by_cases h8 : k = 8
  · subst h8; rw [show Ex.rangeOf 8 = (2, 2) by decide]; exact range_8 w
  by_cases h9 : k = 9
  · subst h9; rw [show Ex.rangeOf 9 = (2, 3) by decide]; exact range_9 w
  by_cases h10 : k = 10
  · subst h10; rw [show Ex.rangeOf 10 = (1, 9) by decide]; exact range_10 w
  by_cases h11 : k = 11
  · subst h11; rw [show Ex.rangeOf 11 = (2, 2) by decide]; exact range_11 w
  by_cases h12 : k = 12
  · subst h12; rw [show Ex.rangeOf 12 = (3, 3) by decide]; exact range_12 w
  by_cases h13 : k = 13
  · subst h13; rw [show Ex.rangeOf 13 = (1, 1) by decide]; exact range_13 w
  by_cases h14 : k = 14
  · subst h14; rw [show Ex.rangeOf 14 = (0, 24) by decide]; exact range_14 w
  by_cases h15 : k = 15
  · subst h15; rw [show Ex.rangeOf 15 = (2, 3) by decide]; exact range_15 w
  by_cases h16 : k = 16
  · subst h16; rw [show Ex.rangeOf 16 = (1, 2) by decide]; exact range_16 w
  by_cases h17 : k = 17
  · subst h17; rw [show Ex.rangeOf 17 = (1, 2) by decide]; exact range_17 w
  by_cases h18 : k = 18
  · subst h18; rw [show Ex.rangeOf 18 = (1, 2) by decide]; exact range_18 w
  by_cases h19 : k = 19
  · subst h19; rw [show Ex.rangeOf 19 = (1, 1) by decide]; exact range_19 w
  by_cases h20 : k = 20
  · subst h20; rw [show Ex.rangeOf 20 = (1, 14) by decide]; exact range_20 w
  by_cases h21 : k = 21
  · subst h21; rw [show Ex.rangeOf 21 = (0, 1) by decide]; exact range_21 w
  by_cases h22 : k = 22
  · subst h22; rw [show Ex.rangeOf 22 = (0, 2) by decide]; exact range_22 w
  by_cases h23 : k = 23
  · subst h23; rw [show Ex.rangeOf 23 = (0, 0) by decide]; exact range_23 w
  by_cases h24 : k = 24
  · subst h24; rw [show Ex.rangeOf 24 = (0, 1) by decide]; exact range_24 w
  by_cases h25 : k = 25
  · subst h25; rw [show Ex.rangeOf 25 = (0, 0) by decide]; exact range_25 w
  by_cases h26 : k = 26
  · subst h26; rw [show Ex.rangeOf 26 = (1, 1) by decide]; exact range_26 w
  by_cases h27 : k = 27
  · subst h27; rw [show Ex.rangeOf 27 = (1, 1) by decide]; exact range_27 w
  by_cases h28 : k = 28
  · subst h28; rw [show Ex.rangeOf 28 = (0, 0) by decide]; exact range_28 w
  by_cases h29 : k = 29
  · subst h29; rw [show Ex.rangeOf 29 = (2, 8) by decide]; exact range_29 w
  rw [show Ex.rangeOf k = (0, -1) by unfold Ex.rangeOf; rw [if_neg (by omega)]]
  exact range_no k w (beq_eq_false_iff_ne.2 h1) (beq_eq_false_iff_ne.2 h2) (beq_eq_false_iff_ne.2 h3) (beq_eq_false_iff_ne.2 h4) (beq_eq_false_iff_ne.2 h5) (beq_eq_false_iff_ne.2 h6) (beq_eq_false_iff_ne.2 h7) (beq_eq_false_iff_ne.2 h8) (beq_eq_false_iff_ne.2 h9) (beq_eq_false_iff_ne.2 h10) (beq_eq_false_iff_ne.2 h11) (beq_eq_false_iff_ne.2 h12) (beq_eq_false_iff_ne.2 h13) (beq_eq_false_iff_ne.2 h14) (beq_eq_false_iff_ne.2 h15) (beq_eq_false_iff_ne.2 h16) (beq_eq_false_iff_ne.2 h17) (beq_eq_false_iff_ne.2 h18) (beq_eq_false_iff_ne.2 h19) (beq_eq_false_iff_ne.2 h20) (beq_eq_false_iff_ne.2 h21) (beq_eq_false_iff_ne.2 h22) (beq_eq_false_iff_ne.2 h23) (beq_eq_false_iff_ne.2 h24) (beq_eq_false_iff_ne.2 h25) (beq_eq_false_iff_ne.2 h26) (beq_eq_false_iff_ne.2 h27) (beq_eq_false_iff_ne.2 h28) (beq_eq_false_iff_ne.2 h29)
set_option maxHeartbeats 800000 in
theorem kids_a (t : Ex.T) (w : World) (g o : Nat) (h : TreeAt w g o t) (hln : t.kids.length ≤ 1048576) (k20 : (t.kind == 20) = false) (q : (Ex.rangeOf t.kind).1 ≤ t.kids.length) : Calls Tryz.prog 109 #[.pointer (some ⟨g, o, none⟩)] w fun e w' => e = .returned (.bool (decide ((t.kids.length : Int) ≤ (Ex.rangeOf t.kind).2))) ∧ Below w.heap.size w w' := by
  have HR := Lib.hid (fun W => impl_range t.kind W)
  generalize (Ex.rangeOf t.kind).1 = lo at HR q ⊢
  generalize (Ex.rangeOf t.kind).2 = hi at HR ⊢
  obtain ⟨⟨q0, q1, q2, q3⟩, v, q4, hk⟩ := tree_cells h
  obtain ⟨a, c, rfl⟩ := kids_len hk
  clear h hk
  go_enter Tryz.func109, Tryz.ntmps109
  go_wp2_with (go_at_call 115; refine (HR.out _).mono ?_; rintro e w1 ⟨rfl, rfl⟩)
  go_ret
  exact ⟨rfl, Below.refl _ _⟩
set_option maxHeartbeats 800000 in
theorem kids_b (t : Ex.T) (w : World) (g o : Nat) (h : TreeAt w g o t) (hln : t.kids.length ≤ 1048576) (k20 : (t.kind == 20) = false) (q : (t.kids.length : Int) < (Ex.rangeOf t.kind).1) : Calls Tryz.prog 109 #[.pointer (some ⟨g, o, none⟩)] w fun e w' => e = .returned (.bool false) ∧ Below w.heap.size w w' := by
  have HR := Lib.hid (fun W => impl_range t.kind W)
  generalize (Ex.rangeOf t.kind).1 = lo at HR q ⊢
  generalize (Ex.rangeOf t.kind).2 = hi at HR ⊢
  obtain ⟨⟨q0, q1, q2, q3⟩, v, q4, hk⟩ := tree_cells h
  obtain ⟨a, c, rfl⟩ := kids_len hk
  clear h hk
  go_enter Tryz.func109, Tryz.ntmps109
  go_wp2_with (go_at_call 115; refine (HR.out _).mono ?_; rintro e w1 ⟨rfl, rfl⟩)
  go_ret
  exact ⟨rfl, Below.refl _ _⟩
set_option maxHeartbeats 800000 in
theorem kids_c (t : Ex.T) (w : World) (g o : Nat) (h : TreeAt w g o t) (hln : t.kids.length ≤ 1048576) (k20 : (t.kind == 20) = true) (p : ((wrap64 ((t.kids.length : Int) - 1 - t.num)).tmod 2 != 0) = true) : Calls Tryz.prog 109 #[.pointer (some ⟨g, o, none⟩)] w fun e w' => e = .returned (.bool false) ∧ Below w.heap.size w w' := by
  have HR := Lib.hid (fun W => impl_range t.kind W)
  generalize (Ex.rangeOf t.kind).1 = lo at HR ⊢
  generalize (Ex.rangeOf t.kind).2 = hi at HR ⊢
  obtain ⟨⟨q0, q1, q2, q3⟩, v, q4, hk⟩ := tree_cells h
  obtain ⟨a, c, rfl⟩ := kids_len hk
  clear h hk
  go_enter Tryz.func109, Tryz.ntmps109
  go_wp2_with (go_at_call 115; refine (HR.out _).mono ?_; rintro e w1 ⟨rfl, rfl⟩)
  go_ret
  exact ⟨rfl, Below.refl _ _⟩
set_option maxHeartbeats 800000 in
theorem kids_d (t : Ex.T) (w : World) (g o : Nat) (h : TreeAt w g o t) (hln : t.kids.length ≤ 1048576) (k20 : (t.kind == 20) = true) (p : ((wrap64 ((t.kids.length : Int) - 1 - t.num)).tmod 2 != 0) = false) (q : (Ex.rangeOf t.kind).1 ≤ t.kids.length) : Calls Tryz.prog 109 #[.pointer (some ⟨g, o, none⟩)] w fun e w' => e = .returned (.bool (decide ((t.kids.length : Int) ≤ (Ex.rangeOf t.kind).2))) ∧ Below w.heap.size w w' := by
  have HR := Lib.hid (fun W => impl_range t.kind W)
  generalize (Ex.rangeOf t.kind).1 = lo at HR q ⊢
  generalize (Ex.rangeOf t.kind).2 = hi at HR ⊢
  obtain ⟨⟨q0, q1, q2, q3⟩, v, q4, hk⟩ := tree_cells h
  obtain ⟨a, c, rfl⟩ := kids_len hk
  clear h hk
  go_enter Tryz.func109, Tryz.ntmps109
  go_wp2_with (go_at_call 115; refine (HR.out _).mono ?_; rintro e w1 ⟨rfl, rfl⟩)
  go_ret
  exact ⟨rfl, Below.refl _ _⟩
set_option maxHeartbeats 800000 in
theorem kids_e (t : Ex.T) (w : World) (g o : Nat) (h : TreeAt w g o t) (hln : t.kids.length ≤ 1048576) (k20 : (t.kind == 20) = true) (p : ((wrap64 ((t.kids.length : Int) - 1 - t.num)).tmod 2 != 0) = false) (q : (t.kids.length : Int) < (Ex.rangeOf t.kind).1) : Calls Tryz.prog 109 #[.pointer (some ⟨g, o, none⟩)] w fun e w' => e = .returned (.bool false) ∧ Below w.heap.size w w' := by
  have HR := Lib.hid (fun W => impl_range t.kind W)
  generalize (Ex.rangeOf t.kind).1 = lo at HR q ⊢
  generalize (Ex.rangeOf t.kind).2 = hi at HR ⊢
  obtain ⟨⟨q0, q1, q2, q3⟩, v, q4, hk⟩ := tree_cells h
  obtain ⟨a, c, rfl⟩ := kids_len hk
  clear h hk
  go_enter Tryz.func109, Tryz.ntmps109
  go_wp2_with (go_at_call 115; refine (HR.out _).mono ?_; rintro e w1 ⟨rfl, rfl⟩)
  go_ret
  exact ⟨rfl, Below.refl _ _⟩
/-- May a node of this kind, with this number, have so many kids? -/
def Ex.kidsB (k n : Int) (z : Nat) : Bool := (if k = 20 then !((wrap64 ((z : Int) - 1 - n)).tmod 2 != 0) else true) && (decide ((Ex.rangeOf k).1 ≤ z) && decide ((z : Int) ≤ (Ex.rangeOf k).2))
theorem impl_kids (t : Ex.T) (w : World) (g o : Nat) (h : TreeAt w g o t) (hln : t.kids.length ≤ 1048576) : Calls Tryz.prog 109 #[.pointer (some ⟨g, o, none⟩)] w fun e w' => e = .returned (.bool (Ex.kidsB t.kind t.num t.kids.length)) ∧ Below w.heap.size w w' := by
  unfold Ex.kidsB
  by_cases k20 : t.kind = 20
  · rw [if_pos k20]
    cases p : ((wrap64 ((t.kids.length : Int) - 1 - t.num)).tmod 2 != 0)
    · by_cases q : (Ex.rangeOf t.kind).1 ≤ t.kids.length
      · rw [decide_eq_true q, Bool.true_and, Bool.not_false, Bool.true_and]
        exact kids_d t w g o h hln (beq_iff_eq.2 k20) p q
      · rw [decide_eq_false q, Bool.false_and, Bool.and_false]
        exact kids_e t w g o h hln (beq_iff_eq.2 k20) p (by omega)
    · rw [Bool.not_true, Bool.false_and]
      exact kids_c t w g o h hln (beq_iff_eq.2 k20) p
  · rw [if_neg k20, Bool.true_and]
    by_cases q : (Ex.rangeOf t.kind).1 ≤ t.kids.length
    · rw [decide_eq_true q, Bool.true_and]
      exact kids_a t w g o h hln (beq_eq_false_iff_ne.2 k20) q
    · rw [decide_eq_false q, Bool.false_and]
      exact kids_b t w g o h hln (beq_eq_false_iff_ne.2 k20) (by omega)
theorem number_1a (t : Ex.T) (w : World) (g o : Nat) (h : TreeAt w g o t) (hln : t.kids.length ≤ 1048576) (k1 : (t.kind == 1) = true) (n0 : 0 ≤ t.num) : Calls Tryz.prog 111 #[.pointer (some ⟨g, o, none⟩)] w fun e w' => e = .returned (.bool (decide (t.num ≤ 999999999999))) ∧ Below w.heap.size w w' := by
  obtain ⟨⟨q0, q1, q2, q3⟩, v, q4, hk⟩ := tree_cells h
  obtain ⟨a, c, rfl⟩ := kids_len hk
  clear h hk
  go_enter Tryz.func111, Tryz.ntmps111
  go_wp2
  go_ret
  exact ⟨rfl, Below.refl _ _⟩
theorem number_1b (t : Ex.T) (w : World) (g o : Nat) (h : TreeAt w g o t) (hln : t.kids.length ≤ 1048576) (k1 : (t.kind == 1) = true) (n0 : t.num < 0) : Calls Tryz.prog 111 #[.pointer (some ⟨g, o, none⟩)] w fun e w' => e = .returned (.bool false) ∧ Below w.heap.size w w' := by
  obtain ⟨⟨q0, q1, q2, q3⟩, v, q4, hk⟩ := tree_cells h
  obtain ⟨a, c, rfl⟩ := kids_len hk
  clear h hk
  go_enter Tryz.func111, Tryz.ntmps111
  go_wp2
  go_ret
  exact ⟨rfl, Below.refl _ _⟩
theorem number_20a (t : Ex.T) (w : World) (g o : Nat) (h : TreeAt w g o t) (hln : t.kids.length ≤ 1048576) (k1 : (t.kind == 1) = false) (k20 : (t.kind == 20) = true) (n0 : (t.num == 0) = true) : Calls Tryz.prog 111 #[.pointer (some ⟨g, o, none⟩)] w fun e w' => e = .returned (.bool true) ∧ Below w.heap.size w w' := by
  obtain ⟨⟨q0, q1, q2, q3⟩, v, q4, hk⟩ := tree_cells h
  obtain ⟨a, c, rfl⟩ := kids_len hk
  clear h hk
  go_enter Tryz.func111, Tryz.ntmps111
  go_wp2
  go_ret
  exact ⟨rfl, Below.refl _ _⟩
theorem number_20b (t : Ex.T) (w : World) (g o : Nat) (h : TreeAt w g o t) (hln : t.kids.length ≤ 1048576) (k1 : (t.kind == 1) = false) (k20 : (t.kind == 20) = true) (n0 : (t.num == 0) = false) : Calls Tryz.prog 111 #[.pointer (some ⟨g, o, none⟩)] w fun e w' => e = .returned (.bool (t.num == 1)) ∧ Below w.heap.size w w' := by
  obtain ⟨⟨q0, q1, q2, q3⟩, v, q4, hk⟩ := tree_cells h
  obtain ⟨a, c, rfl⟩ := kids_len hk
  clear h hk
  go_enter Tryz.func111, Tryz.ntmps111
  go_wp2
  go_ret
  exact ⟨rfl, Below.refl _ _⟩
theorem number_x (t : Ex.T) (w : World) (g o : Nat) (h : TreeAt w g o t) (hln : t.kids.length ≤ 1048576) (k1 : (t.kind == 1) = false) (k20 : (t.kind == 20) = false) : Calls Tryz.prog 111 #[.pointer (some ⟨g, o, none⟩)] w fun e w' => e = .returned (.bool (t.num == 0)) ∧ Below w.heap.size w w' := by
  obtain ⟨⟨q0, q1, q2, q3⟩, v, q4, hk⟩ := tree_cells h
  obtain ⟨a, c, rfl⟩ := kids_len hk
  clear h hk
  go_enter Tryz.func111, Tryz.ntmps111
  go_wp2
  go_ret
  exact ⟨rfl, Below.refl _ _⟩
def Ex.numberB (k n : Int) : Bool := if k = 1 then decide (0 ≤ n) && decide (n ≤ 999999999999) else if k = 20 then n == 0 || n == 1 else n == 0
theorem impl_number (t : Ex.T) (w : World) (g o : Nat) (h : TreeAt w g o t) (hln : t.kids.length ≤ 1048576) : Calls Tryz.prog 111 #[.pointer (some ⟨g, o, none⟩)] w fun e w' => e = .returned (.bool (Ex.numberB t.kind t.num)) ∧ Below w.heap.size w w' := by
  unfold Ex.numberB
  by_cases k1 : t.kind = 1
  · rw [if_pos k1]
    by_cases n0 : 0 ≤ t.num
    · rw [decide_eq_true n0, Bool.true_and]; exact number_1a t w g o h hln (beq_iff_eq.2 k1) n0
    · rw [decide_eq_false n0, Bool.false_and]; exact number_1b t w g o h hln (beq_iff_eq.2 k1) (by omega)
  · rw [if_neg k1]
    by_cases k20 : t.kind = 20
    · rw [if_pos k20]
      cases n0 : (t.num == 0)
      · rw [Bool.false_or]; exact number_20b t w g o h hln (beq_eq_false_iff_ne.2 k1) (beq_iff_eq.2 k20) n0
      · rw [Bool.true_or]; exact number_20a t w g o h hln (beq_eq_false_iff_ne.2 k1) (beq_iff_eq.2 k20) n0
    · rw [if_neg k20]; exact number_x t w g o h hln (beq_eq_false_iff_ne.2 k1) (beq_eq_false_iff_ne.2 k20)
end Go.Proofs.YtckjmmapekaapaaGreatDoor
