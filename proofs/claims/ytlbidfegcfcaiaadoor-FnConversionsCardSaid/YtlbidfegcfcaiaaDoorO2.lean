/- The program: values that are well-formed. No conditions. -/
import Derived.Test.YtlbidfegcfcaiaaDoorO1K
import Derived.Laws.StructEq
namespace Go.Proofs.YtlbidfegcfcaiaaDoor
open Go.RowKit
set_option linter.unusedVariables false


theorem words_val (k n i : Int) (t : ByteArray) (a b : Int) (w : World) : Calls Tryd.prog 40 #[vlV k n i t a b] w fun e w' => e = .returned (.agg #[.int .i64 a, .int .i64 b]) ∧ Below w.heap.size w w' := by
  unfold vlV
  go_enter Tryd.func40, Tryd.ntmps40
  go_wp2
  exact bodyPost_ret (v := .agg #[.int .i64 a, .int .i64 b]) (by simp [results, Tryd.results40, go_sem]) rfl ⟨rfl, bl2 _ _ _⟩

theorem words_eq (a b c d : Int) (w : World) : (Op.equalIn 10000 67 (.agg #[.int .i64 a, .int .i64 b]) (.agg #[.int .i64 c, .int .i64 d])).run Tryd.prog w = .ok (a == c && b == d) w := by
  have u3 := Tryd.underlying3
  have a3 := Tryd.isAgg3
  have z3 := Tryd.sizeOf3
  rw [show (10000 : Nat) = 9999 + 1 from rfl, Op.equalIn]
  simp only [Sem.run_bind, run_underlying Tryd.underlying67, Result.andThen_ok]
  simp only [Std.Legacy.Range.forIn_eq_forIn_range', Std.Legacy.Range.size, Nat.sub_zero, Nat.add_sub_cancel, Nat.div_one, List.range'_succ, List.range'_zero, List.forIn_cons, List.forIn_nil]
  go_simp
  by_cases h1 : a = c <;> by_cases h2 : b = d <;> simp [h1, h2]

theorem set_val (k n i : Int) (t : ByteArray) (a b : Int) (w : World) : Calls Tryd.prog 27 #[vlV k n i t a b] w fun e w' => e = .returned (.bool (Vl.setF k a b)) ∧ Below w.heap.size w w' := by
  unfold Vl.setF
  by_cases h3 : k = 3
  · subst h3
    unfold vlV
    go_enter Tryd.func27, Tryd.ntmps27
    go_wp2
    go_ret
    exact ⟨rfl, bl1 _ _⟩
  · rw [decide_eq_false h3, Bool.false_or]
    have m3 : (k == 3) = false := beq_eq_false_iff_ne.2 h3
    have HC := Lib.hid (fun W => words_val k n i t a b W)
    have he := words_eq a b 0 0
    unfold vlV at HC ⊢
    clear h3
    go_enter Tryd.func27, Tryd.ntmps27
    go_wp2_with fail
    (with_reducible refine (HC.out _).mono ?_)
    rintro e w1 ⟨rfl, b1⟩
    have B1 := Lib.hid (below_then (bl1 _ _) b1)
    clear b1
    go_wp2
    go_ret
    exact ⟨rfl, B1.out⟩


theorem num_val_1 (n i : Int) (t : ByteArray) (a b : Int) (w : World) : Calls Tryd.prog 24 #[vlV 1 n i t a b] w fun e w' => e = .returned (.bool (decide (-999999999999 ≤ n) && decide (n ≤ 999999999999))) ∧ Below w.heap.size w w' := by
  unfold vlV
  go_enter Tryd.func24, Tryd.ntmps24
  go_wp2
  all_goals (go_ret; exact ⟨vl_eb (by first | rfl | (simp [*]; done) | (rw [Bool.eq_iff_iff]; simp; omega)), bl1 _ _⟩)

theorem num_val_0 (n i : Int) (t : ByteArray) (a b : Int) (w : World) : Calls Tryd.prog 24 #[vlV 0 n i t a b] w fun e w' => e = .returned (.bool (decide (n = 0))) ∧ Below w.heap.size w w' := by
  unfold vlV
  go_enter Tryd.func24, Tryd.ntmps24
  go_wp2
  all_goals (go_ret; exact ⟨vl_eb (by first | rfl | (simp [*]; done) | (rw [Bool.eq_iff_iff]; simp; omega)), bl1 _ _⟩)

theorem num_val_2 (n i : Int) (t : ByteArray) (a b : Int) (w : World) : Calls Tryd.prog 24 #[vlV 2 n i t a b] w fun e w' => e = .returned (.bool (decide (n = 0))) ∧ Below w.heap.size w w' := by
  unfold vlV
  go_enter Tryd.func24, Tryd.ntmps24
  go_wp2
  all_goals (go_ret; exact ⟨vl_eb (by first | rfl | (simp [*]; done) | (rw [Bool.eq_iff_iff]; simp; omega)), bl1 _ _⟩)

theorem num_val_3 (n i : Int) (t : ByteArray) (a b : Int) (w : World) : Calls Tryd.prog 24 #[vlV 3 n i t a b] w fun e w' => e = .returned (.bool (decide (n = 0))) ∧ Below w.heap.size w w' := by
  unfold vlV
  go_enter Tryd.func24, Tryd.ntmps24
  go_wp2
  all_goals (go_ret; exact ⟨vl_eb (by first | rfl | (simp [*]; done) | (rw [Bool.eq_iff_iff]; simp; omega)), bl1 _ _⟩)

theorem num_val_14 (n i : Int) (t : ByteArray) (a b : Int) (w : World) : Calls Tryd.prog 24 #[vlV 14 n i t a b] w fun e w' => e = .returned (.bool (decide (n = 0))) ∧ Below w.heap.size w w' := by
  unfold vlV
  go_enter Tryd.func24, Tryd.ntmps24
  go_wp2
  all_goals (go_ret; exact ⟨vl_eb (by first | rfl | (simp [*]; done) | (rw [Bool.eq_iff_iff]; simp; omega)), bl1 _ _⟩)

theorem num_val_18 (n i : Int) (t : ByteArray) (a b : Int) (w : World) : Calls Tryd.prog 24 #[vlV 18 n i t a b] w fun e w' => e = .returned (.bool (decide (n = 0))) ∧ Below w.heap.size w w' := by
  unfold vlV
  go_enter Tryd.func24, Tryd.ntmps24
  go_wp2
  all_goals (go_ret; exact ⟨vl_eb (by first | rfl | (simp [*]; done) | (rw [Bool.eq_iff_iff]; simp; omega)), bl1 _ _⟩)

theorem num_val_n (k : Int) (m1 : (k == 1) = false) (m0 : (k == 0) = false) (m2 : (k == 2) = false) (m3 : (k == 3) = false) (m14 : (k == 14) = false) (m18 : (k == 18) = false) (n i : Int) (t : ByteArray) (a b : Int) (w : World) : Calls Tryd.prog 24 #[vlV k n i t a b] w fun e w' => e = .returned (.bool (decide (0 ≤ n))) ∧ Below w.heap.size w w' := by
  unfold vlV
  go_enter Tryd.func24, Tryd.ntmps24
  go_wp2
  all_goals (go_ret; exact ⟨vl_eb (by first | rfl | (simp [*]; done) | (rw [Bool.eq_iff_iff]; simp; omega)), bl1 _ _⟩)


theorem idx_val_13 (n i : Int) (t : ByteArray) (a b : Int) (w : World) : Calls Tryd.prog 25 #[vlV 13 n i t a b] w fun e w' => e = .returned (.bool (decide (0 ≤ i))) ∧ Below w.heap.size w w' := by
  unfold vlV
  go_enter Tryd.func25, Tryd.ntmps25
  go_wp2
  all_goals (go_ret; exact ⟨vl_eb (by first | rfl | (simp [*]; done) | (rw [Bool.eq_iff_iff]; simp; omega)), bl1 _ _⟩)

theorem idx_val_14 (n i : Int) (t : ByteArray) (a b : Int) (w : World) : Calls Tryd.prog 25 #[vlV 14 n i t a b] w fun e w' => e = .returned (.bool (decide (0 ≤ i))) ∧ Below w.heap.size w w' := by
  unfold vlV
  go_enter Tryd.func25, Tryd.ntmps25
  go_wp2
  all_goals (go_ret; exact ⟨vl_eb (by first | rfl | (simp [*]; done) | (rw [Bool.eq_iff_iff]; simp; omega)), bl1 _ _⟩)

theorem idx_val_15 (n i : Int) (t : ByteArray) (a b : Int) (w : World) : Calls Tryd.prog 25 #[vlV 15 n i t a b] w fun e w' => e = .returned (.bool (decide (0 ≤ i))) ∧ Below w.heap.size w w' := by
  unfold vlV
  go_enter Tryd.func25, Tryd.ntmps25
  go_wp2
  all_goals (go_ret; exact ⟨vl_eb (by first | rfl | (simp [*]; done) | (rw [Bool.eq_iff_iff]; simp; omega)), bl1 _ _⟩)

theorem idx_val_16 (n i : Int) (t : ByteArray) (a b : Int) (w : World) : Calls Tryd.prog 25 #[vlV 16 n i t a b] w fun e w' => e = .returned (.bool (decide (0 ≤ i))) ∧ Below w.heap.size w w' := by
  unfold vlV
  go_enter Tryd.func25, Tryd.ntmps25
  go_wp2
  all_goals (go_ret; exact ⟨vl_eb (by first | rfl | (simp [*]; done) | (rw [Bool.eq_iff_iff]; simp; omega)), bl1 _ _⟩)

theorem idx_val_18 (n i : Int) (t : ByteArray) (a b : Int) (w : World) : Calls Tryd.prog 25 #[vlV 18 n i t a b] w fun e w' => e = .returned (.bool (decide (i = 1) || decide (i = 2))) ∧ Below w.heap.size w w' := by
  unfold vlV
  go_enter Tryd.func25, Tryd.ntmps25
  go_wp2
  all_goals (go_ret; exact ⟨vl_eb (by first | rfl | (simp [*]; done) | (rw [Bool.eq_iff_iff]; simp; omega)), bl1 _ _⟩)

theorem idx_val_n (k : Int) (m13 : (k == 13) = false) (m14 : (k == 14) = false) (m15 : (k == 15) = false) (m16 : (k == 16) = false) (m18 : (k == 18) = false) (n i : Int) (t : ByteArray) (a b : Int) (w : World) : Calls Tryd.prog 25 #[vlV k n i t a b] w fun e w' => e = .returned (.bool (decide (i = 0))) ∧ Below w.heap.size w w' := by
  unfold vlV
  go_enter Tryd.func25, Tryd.ntmps25
  go_wp2
  all_goals (go_ret; exact ⟨vl_eb (by first | rfl | (simp [*]; done) | (rw [Bool.eq_iff_iff]; simp; omega)), bl1 _ _⟩)

theorem num_val (k n i : Int) (t : ByteArray) (a b : Int) (w : World) : Calls Tryd.prog 24 #[vlV k n i t a b] w fun e w' => e = .returned (.bool (Vl.numF k n)) ∧ Below w.heap.size w w' := by
  by_cases h1 : k = 1
  · subst h1; exact num_val_1 n i t a b w
  by_cases h0 : k = 0
  · subst h0; exact num_val_0 n i t a b w
  by_cases h2 : k = 2
  · subst h2; exact num_val_2 n i t a b w
  by_cases h3 : k = 3
  · subst h3; exact num_val_3 n i t a b w
  by_cases h14 : k = 14
  · subst h14; exact num_val_14 n i t a b w
  by_cases h18 : k = 18
  · subst h18; exact num_val_18 n i t a b w
  have e : Vl.numF k n = decide (0 ≤ n) := by unfold Vl.numF; rw [if_neg (by omega), if_neg (by omega)]
  rw [e]
  exact num_val_n k (beq_eq_false_iff_ne.2 h1) (beq_eq_false_iff_ne.2 h0) (beq_eq_false_iff_ne.2 h2) (beq_eq_false_iff_ne.2 h3) (beq_eq_false_iff_ne.2 h14) (beq_eq_false_iff_ne.2 h18) n i t a b w

theorem idx_val (k n i : Int) (t : ByteArray) (a b : Int) (w : World) : Calls Tryd.prog 25 #[vlV k n i t a b] w fun e w' => e = .returned (.bool (Vl.idxF k i)) ∧ Below w.heap.size w w' := by
  by_cases h13 : k = 13
  · subst h13; exact idx_val_13 n i t a b w
  by_cases h14 : k = 14
  · subst h14; exact idx_val_14 n i t a b w
  by_cases h15 : k = 15
  · subst h15; exact idx_val_15 n i t a b w
  by_cases h16 : k = 16
  · subst h16; exact idx_val_16 n i t a b w
  by_cases h18 : k = 18
  · subst h18; exact idx_val_18 n i t a b w
  have e : Vl.idxF k i = decide (i = 0) := by unfold Vl.idxF; rw [if_neg (by omega), if_neg (by omega)]
  rw [e]
  exact idx_val_n k (beq_eq_false_iff_ne.2 h13) (beq_eq_false_iff_ne.2 h14) (beq_eq_false_iff_ne.2 h15) (beq_eq_false_iff_ne.2 h16) (beq_eq_false_iff_ne.2 h18) n i t a b w

set_option maxHeartbeats 800000 in
theorem impl_wf (k n i : Int) (t : ByteArray) (a b : Int) (w : World) : Calls Tryd.prog 11 #[vlV k n i t a b] w fun e w' => e = .returned (.bool (Vl.wf k n i t a b)) ∧ Below w.heap.size w w' := by
  have H1 := Lib.hid (fun W => knd_val k n i t a b W)
  have H2 := Lib.hid (fun W => num_val k n i t a b W)
  have H3 := Lib.hid (fun W => idx_val k n i t a b W)
  have H4 := Lib.hid (fun W => txt_val k n i t a b W)
  have H5 := Lib.hid (fun W => set_val k n i t a b W)
  unfold Vl.wf
  unfold vlV at H1 H2 H3 H4 H5 ⊢
  generalize Vl.kndF k = x1 at H1 ⊢
  generalize Vl.numF k n = x2 at H2 ⊢
  generalize Vl.idxF k i = x3 at H3 ⊢
  generalize Vl.txtF k t = x4 at H4 ⊢
  generalize Vl.setF k a b = x5 at H5 ⊢
  cases x1
  · skip
    go_enter Tryd.func11, Tryd.ntmps11
    go_wp2_with fail
    (with_reducible refine (H1.out _).mono ?_)
    rintro e w1 ⟨rfl, b1⟩
    have B1 := Lib.hid (below_then (bl1 _ _) b1)
    have V1 := Lib.hid ((Var.new w #[.int .i64 k, .int .i64 n, .int .i64 i, .string t, .int .i64 a, .int .i64 b] 28).later b1)
    clear b1
    have c1_0 := (V1.out 0 _ rfl).1
    have c1_1 := (V1.out 1 _ rfl).1
    have c1_2 := (V1.out 2 _ rfl).1
    have c1_3 := (V1.out 3 _ rfl).1
    have c1_4 := (V1.out 4 _ rfl).1
    have c1_5 := (V1.out 5 _ rfl).1
    go_wp2
    go_ret
    exact ⟨rfl, B1.out⟩
  cases x2
  · skip
    go_enter Tryd.func11, Tryd.ntmps11
    go_wp2_with fail
    (with_reducible refine (H1.out _).mono ?_)
    rintro e w1 ⟨rfl, b1⟩
    have B1 := Lib.hid (below_then (bl1 _ _) b1)
    have V1 := Lib.hid ((Var.new w #[.int .i64 k, .int .i64 n, .int .i64 i, .string t, .int .i64 a, .int .i64 b] 28).later b1)
    clear b1
    have c1_0 := (V1.out 0 _ rfl).1
    have c1_1 := (V1.out 1 _ rfl).1
    have c1_2 := (V1.out 2 _ rfl).1
    have c1_3 := (V1.out 3 _ rfl).1
    have c1_4 := (V1.out 4 _ rfl).1
    have c1_5 := (V1.out 5 _ rfl).1
    go_wp2_with fail
    (with_reducible refine (H2.out _).mono ?_)
    rintro e w2 ⟨rfl, b2⟩
    have B2 := Lib.hid (below_then B1.out b2)
    have V2 := Lib.hid (V1.out.later b2)
    clear b2 c1_0 c1_1 c1_2 c1_3 c1_4 c1_5
    have c2_0 := (V2.out 0 _ rfl).1
    have c2_1 := (V2.out 1 _ rfl).1
    have c2_2 := (V2.out 2 _ rfl).1
    have c2_3 := (V2.out 3 _ rfl).1
    have c2_4 := (V2.out 4 _ rfl).1
    have c2_5 := (V2.out 5 _ rfl).1
    go_wp2
    go_ret
    exact ⟨rfl, B2.out⟩
  cases x3
  · skip
    go_enter Tryd.func11, Tryd.ntmps11
    go_wp2_with fail
    (with_reducible refine (H1.out _).mono ?_)
    rintro e w1 ⟨rfl, b1⟩
    have B1 := Lib.hid (below_then (bl1 _ _) b1)
    have V1 := Lib.hid ((Var.new w #[.int .i64 k, .int .i64 n, .int .i64 i, .string t, .int .i64 a, .int .i64 b] 28).later b1)
    clear b1
    have c1_0 := (V1.out 0 _ rfl).1
    have c1_1 := (V1.out 1 _ rfl).1
    have c1_2 := (V1.out 2 _ rfl).1
    have c1_3 := (V1.out 3 _ rfl).1
    have c1_4 := (V1.out 4 _ rfl).1
    have c1_5 := (V1.out 5 _ rfl).1
    go_wp2_with fail
    (with_reducible refine (H2.out _).mono ?_)
    rintro e w2 ⟨rfl, b2⟩
    have B2 := Lib.hid (below_then B1.out b2)
    have V2 := Lib.hid (V1.out.later b2)
    clear b2 c1_0 c1_1 c1_2 c1_3 c1_4 c1_5
    have c2_0 := (V2.out 0 _ rfl).1
    have c2_1 := (V2.out 1 _ rfl).1
    have c2_2 := (V2.out 2 _ rfl).1
    have c2_3 := (V2.out 3 _ rfl).1
    have c2_4 := (V2.out 4 _ rfl).1
    have c2_5 := (V2.out 5 _ rfl).1
    go_wp2_with fail
    (with_reducible refine (H3.out _).mono ?_)
    rintro e w3 ⟨rfl, b3⟩
    have B3 := Lib.hid (below_then B2.out b3)
    have V3 := Lib.hid (V2.out.later b3)
    clear b3 c2_0 c2_1 c2_2 c2_3 c2_4 c2_5
    have c3_0 := (V3.out 0 _ rfl).1
    have c3_1 := (V3.out 1 _ rfl).1
    have c3_2 := (V3.out 2 _ rfl).1
    have c3_3 := (V3.out 3 _ rfl).1
    have c3_4 := (V3.out 4 _ rfl).1
    have c3_5 := (V3.out 5 _ rfl).1
    go_wp2
    go_ret
    exact ⟨rfl, B3.out⟩
  cases x4
  · skip
    go_enter Tryd.func11, Tryd.ntmps11
    go_wp2_with fail
    (with_reducible refine (H1.out _).mono ?_)
    rintro e w1 ⟨rfl, b1⟩
    have B1 := Lib.hid (below_then (bl1 _ _) b1)
    have V1 := Lib.hid ((Var.new w #[.int .i64 k, .int .i64 n, .int .i64 i, .string t, .int .i64 a, .int .i64 b] 28).later b1)
    clear b1
    have c1_0 := (V1.out 0 _ rfl).1
    have c1_1 := (V1.out 1 _ rfl).1
    have c1_2 := (V1.out 2 _ rfl).1
    have c1_3 := (V1.out 3 _ rfl).1
    have c1_4 := (V1.out 4 _ rfl).1
    have c1_5 := (V1.out 5 _ rfl).1
    go_wp2_with fail
    (with_reducible refine (H2.out _).mono ?_)
    rintro e w2 ⟨rfl, b2⟩
    have B2 := Lib.hid (below_then B1.out b2)
    have V2 := Lib.hid (V1.out.later b2)
    clear b2 c1_0 c1_1 c1_2 c1_3 c1_4 c1_5
    have c2_0 := (V2.out 0 _ rfl).1
    have c2_1 := (V2.out 1 _ rfl).1
    have c2_2 := (V2.out 2 _ rfl).1
    have c2_3 := (V2.out 3 _ rfl).1
    have c2_4 := (V2.out 4 _ rfl).1
    have c2_5 := (V2.out 5 _ rfl).1
    go_wp2_with fail
    (with_reducible refine (H3.out _).mono ?_)
    rintro e w3 ⟨rfl, b3⟩
    have B3 := Lib.hid (below_then B2.out b3)
    have V3 := Lib.hid (V2.out.later b3)
    clear b3 c2_0 c2_1 c2_2 c2_3 c2_4 c2_5
    have c3_0 := (V3.out 0 _ rfl).1
    have c3_1 := (V3.out 1 _ rfl).1
    have c3_2 := (V3.out 2 _ rfl).1
    have c3_3 := (V3.out 3 _ rfl).1
    have c3_4 := (V3.out 4 _ rfl).1
    have c3_5 := (V3.out 5 _ rfl).1
    go_wp2_with fail
    (with_reducible refine (H4.out _).mono ?_)
    rintro e w4 ⟨rfl, b4⟩
    have B4 := Lib.hid (below_then B3.out b4)
    have V4 := Lib.hid (V3.out.later b4)
    clear b4 c3_0 c3_1 c3_2 c3_3 c3_4 c3_5
    have c4_0 := (V4.out 0 _ rfl).1
    have c4_1 := (V4.out 1 _ rfl).1
    have c4_2 := (V4.out 2 _ rfl).1
    have c4_3 := (V4.out 3 _ rfl).1
    have c4_4 := (V4.out 4 _ rfl).1
    have c4_5 := (V4.out 5 _ rfl).1
    go_wp2
    go_ret
    exact ⟨rfl, B4.out⟩
  cases x5
  · skip
    go_enter Tryd.func11, Tryd.ntmps11
    go_wp2_with fail
    (with_reducible refine (H1.out _).mono ?_)
    rintro e w1 ⟨rfl, b1⟩
    have B1 := Lib.hid (below_then (bl1 _ _) b1)
    have V1 := Lib.hid ((Var.new w #[.int .i64 k, .int .i64 n, .int .i64 i, .string t, .int .i64 a, .int .i64 b] 28).later b1)
    clear b1
    have c1_0 := (V1.out 0 _ rfl).1
    have c1_1 := (V1.out 1 _ rfl).1
    have c1_2 := (V1.out 2 _ rfl).1
    have c1_3 := (V1.out 3 _ rfl).1
    have c1_4 := (V1.out 4 _ rfl).1
    have c1_5 := (V1.out 5 _ rfl).1
    go_wp2_with fail
    (with_reducible refine (H2.out _).mono ?_)
    rintro e w2 ⟨rfl, b2⟩
    have B2 := Lib.hid (below_then B1.out b2)
    have V2 := Lib.hid (V1.out.later b2)
    clear b2 c1_0 c1_1 c1_2 c1_3 c1_4 c1_5
    have c2_0 := (V2.out 0 _ rfl).1
    have c2_1 := (V2.out 1 _ rfl).1
    have c2_2 := (V2.out 2 _ rfl).1
    have c2_3 := (V2.out 3 _ rfl).1
    have c2_4 := (V2.out 4 _ rfl).1
    have c2_5 := (V2.out 5 _ rfl).1
    go_wp2_with fail
    (with_reducible refine (H3.out _).mono ?_)
    rintro e w3 ⟨rfl, b3⟩
    have B3 := Lib.hid (below_then B2.out b3)
    have V3 := Lib.hid (V2.out.later b3)
    clear b3 c2_0 c2_1 c2_2 c2_3 c2_4 c2_5
    have c3_0 := (V3.out 0 _ rfl).1
    have c3_1 := (V3.out 1 _ rfl).1
    have c3_2 := (V3.out 2 _ rfl).1
    have c3_3 := (V3.out 3 _ rfl).1
    have c3_4 := (V3.out 4 _ rfl).1
    have c3_5 := (V3.out 5 _ rfl).1
    go_wp2_with fail
    (with_reducible refine (H4.out _).mono ?_)
    rintro e w4 ⟨rfl, b4⟩
    have B4 := Lib.hid (below_then B3.out b4)
    have V4 := Lib.hid (V3.out.later b4)
    clear b4 c3_0 c3_1 c3_2 c3_3 c3_4 c3_5
    have c4_0 := (V4.out 0 _ rfl).1
    have c4_1 := (V4.out 1 _ rfl).1
    have c4_2 := (V4.out 2 _ rfl).1
    have c4_3 := (V4.out 3 _ rfl).1
    have c4_4 := (V4.out 4 _ rfl).1
    have c4_5 := (V4.out 5 _ rfl).1
    go_wp2_with fail
    (with_reducible refine (H5.out _).mono ?_)
    rintro e w5 ⟨rfl, b5⟩
    have B5 := Lib.hid (below_then B4.out b5)
    have V5 := Lib.hid (V4.out.later b5)
    clear b5 c4_0 c4_1 c4_2 c4_3 c4_4 c4_5
    have c5_0 := (V5.out 0 _ rfl).1
    have c5_1 := (V5.out 1 _ rfl).1
    have c5_2 := (V5.out 2 _ rfl).1
    have c5_3 := (V5.out 3 _ rfl).1
    have c5_4 := (V5.out 4 _ rfl).1
    have c5_5 := (V5.out 5 _ rfl).1
    go_wp2
    go_ret
    exact ⟨rfl, B5.out⟩
  · skip
    go_enter Tryd.func11, Tryd.ntmps11
    go_wp2_with fail
    (with_reducible refine (H1.out _).mono ?_)
    rintro e w1 ⟨rfl, b1⟩
    have B1 := Lib.hid (below_then (bl1 _ _) b1)
    have V1 := Lib.hid ((Var.new w #[.int .i64 k, .int .i64 n, .int .i64 i, .string t, .int .i64 a, .int .i64 b] 28).later b1)
    clear b1
    have c1_0 := (V1.out 0 _ rfl).1
    have c1_1 := (V1.out 1 _ rfl).1
    have c1_2 := (V1.out 2 _ rfl).1
    have c1_3 := (V1.out 3 _ rfl).1
    have c1_4 := (V1.out 4 _ rfl).1
    have c1_5 := (V1.out 5 _ rfl).1
    go_wp2_with fail
    (with_reducible refine (H2.out _).mono ?_)
    rintro e w2 ⟨rfl, b2⟩
    have B2 := Lib.hid (below_then B1.out b2)
    have V2 := Lib.hid (V1.out.later b2)
    clear b2 c1_0 c1_1 c1_2 c1_3 c1_4 c1_5
    have c2_0 := (V2.out 0 _ rfl).1
    have c2_1 := (V2.out 1 _ rfl).1
    have c2_2 := (V2.out 2 _ rfl).1
    have c2_3 := (V2.out 3 _ rfl).1
    have c2_4 := (V2.out 4 _ rfl).1
    have c2_5 := (V2.out 5 _ rfl).1
    go_wp2_with fail
    (with_reducible refine (H3.out _).mono ?_)
    rintro e w3 ⟨rfl, b3⟩
    have B3 := Lib.hid (below_then B2.out b3)
    have V3 := Lib.hid (V2.out.later b3)
    clear b3 c2_0 c2_1 c2_2 c2_3 c2_4 c2_5
    have c3_0 := (V3.out 0 _ rfl).1
    have c3_1 := (V3.out 1 _ rfl).1
    have c3_2 := (V3.out 2 _ rfl).1
    have c3_3 := (V3.out 3 _ rfl).1
    have c3_4 := (V3.out 4 _ rfl).1
    have c3_5 := (V3.out 5 _ rfl).1
    go_wp2_with fail
    (with_reducible refine (H4.out _).mono ?_)
    rintro e w4 ⟨rfl, b4⟩
    have B4 := Lib.hid (below_then B3.out b4)
    have V4 := Lib.hid (V3.out.later b4)
    clear b4 c3_0 c3_1 c3_2 c3_3 c3_4 c3_5
    have c4_0 := (V4.out 0 _ rfl).1
    have c4_1 := (V4.out 1 _ rfl).1
    have c4_2 := (V4.out 2 _ rfl).1
    have c4_3 := (V4.out 3 _ rfl).1
    have c4_4 := (V4.out 4 _ rfl).1
    have c4_5 := (V4.out 5 _ rfl).1
    go_wp2_with fail
    (with_reducible refine (H5.out _).mono ?_)
    rintro e w5 ⟨rfl, b5⟩
    have B5 := Lib.hid (below_then B4.out b5)
    have V5 := Lib.hid (V4.out.later b5)
    clear b5 c4_0 c4_1 c4_2 c4_3 c4_4 c4_5
    have c5_0 := (V5.out 0 _ rfl).1
    have c5_1 := (V5.out 1 _ rfl).1
    have c5_2 := (V5.out 2 _ rfl).1
    have c5_3 := (V5.out 3 _ rfl).1
    have c5_4 := (V5.out 4 _ rfl).1
    have c5_5 := (V5.out 5 _ rfl).1
    go_wp2
    go_ret
    exact ⟨rfl, B5.out⟩
end Go.Proofs.YtlbidfegcfcaiaaDoor
