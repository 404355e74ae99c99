/- The laws on values: IsWellFormed, IsReference, IntegerValue, StringValue. No conditions. -/
import Derived.Test.YtbadepiakkhabaaO2
import Derived.Test.YtbadepiakkhabaaO3
namespace Go.Proofs.Ytbadepiakkhabaa
open Go.RowKit
set_option linter.unusedVariables false

theorem FnExactIsWellFormed_walk (k n i : Int) (t : ByteArray) (a b : Int) (wt : t.size ≤ maxLen) (w : World) : Calls Try.prog 3 #[vlV k n i t a b] w fun e w' => e = .returned (.bool true) ∧ Below w.heap.size w w' := by
  have HZ := Lib.hid (fun W => sz_val k n i t a b W wt)
  have HT := Lib.hid (fun W => to_val k n i t a b W)
  have HS := Lib.hid (fun W => spec_wf k n i t a b W)
  have HI := Lib.hid (fun W => impl_wf k n i t a b W)
  generalize Vl.wf k n i t a b = r at HS HI
  have V0 := Lib.hid (Var.new w #[.int .i64 k, .int .i64 n, .int .i64 i, .string t, .int .i64 a, .int .i64 b] 25)
  unfold vlV at HZ HT HS HI ⊢
  by_cases h : (t.size : Int) ≤ 1048576
  · rw [if_pos h] at HZ
    have hm : ¬ (1048576 - (t.size : Int)) < 0 := by omega
    go_enter Try.func3, Try.ntmps3
    go_wp2_with fail
    (with_reducible refine (HZ.out _).mono ?_)
    rintro e w1 ⟨rfl, b1⟩
    have B1 := Lib.hid (below_then (bl1 _ _) b1)
    have V1 := Lib.hid (V0.out.later b1)
    clear b1
    obtain ⟨c0, _⟩ := V1.out 0 _ rfl
    obtain ⟨c1, _⟩ := V1.out 1 _ rfl
    obtain ⟨c2, _⟩ := V1.out 2 _ rfl
    obtain ⟨c3, _⟩ := V1.out 3 _ rfl
    obtain ⟨c4, _⟩ := V1.out 4 _ rfl
    obtain ⟨c5, _⟩ := V1.out 5 _ rfl
    go_wp2_with fail
    (with_reducible refine (HT.out _).mono ?_)
    rintro e w2 ⟨rfl, b2⟩
    have B2 := Lib.hid (below_then B1.out b2)
    have V2 := Lib.hid (V1.out.later b2)
    clear b2 c0 c1 c2 c3 c4 c5
    go_wp2_with fail
    (with_reducible refine (HS.out _).mono ?_)
    rintro e w3 ⟨rfl, b3⟩
    have B3 := Lib.hid (below_then B2.out b3)
    have V3 := Lib.hid (V2.out.later b3)
    clear b3
    obtain ⟨c0, _⟩ := V3.out 0 _ rfl
    obtain ⟨c1, _⟩ := V3.out 1 _ rfl
    obtain ⟨c2, _⟩ := V3.out 2 _ rfl
    obtain ⟨c3, _⟩ := V3.out 3 _ rfl
    obtain ⟨c4, _⟩ := V3.out 4 _ rfl
    obtain ⟨c5, _⟩ := V3.out 5 _ rfl
    go_wp2_with fail
    (with_reducible refine (HT.out _).mono ?_)
    rintro e w4 ⟨rfl, b4⟩
    have B4 := Lib.hid (below_then B3.out b4)
    clear b4 c0 c1 c2 c3 c4 c5
    go_wp2_with fail
    (with_reducible refine (HI.out _).mono ?_)
    rintro e w5 ⟨rfl, b5⟩
    have B5 := Lib.hid (below_then B4.out b5)
    clear b5
    go_wp2
    go_ret
    exact ⟨rfl, B5.out⟩
  · rw [if_neg h] at HZ
    go_enter Try.func3, Try.ntmps3
    go_wp2_with fail
    (with_reducible refine (HZ.out _).mono ?_)
    rintro e w1 ⟨rfl, b1⟩
    have B1 := Lib.hid (below_then (bl1 _ _) b1)
    clear b1
    go_wp2
    go_ret
    exact ⟨rfl, B1.out⟩
theorem FnExactIsReference_walk (k n i : Int) (t : ByteArray) (a b : Int) (wt : t.size ≤ maxLen) (w : World) : Calls Try.prog 4 #[vlV k n i t a b] w fun e w' => e = .returned (.bool true) ∧ Below w.heap.size w w' := by
  have HZ := Lib.hid (fun W => sz_val k n i t a b W wt)
  have HT := Lib.hid (fun W => to_val k n i t a b W)
  have HS := Lib.hid (fun W => spec_ref k n i t a b W)
  have HI := Lib.hid (fun W => impl_ref k n i t a b W)
  generalize (decide (13 ≤ k) && decide (k ≤ 18)) = r at HS HI
  have V0 := Lib.hid (Var.new w #[.int .i64 k, .int .i64 n, .int .i64 i, .string t, .int .i64 a, .int .i64 b] 25)
  unfold vlV at HZ HT HS HI ⊢
  by_cases h : (t.size : Int) ≤ 1048576
  · rw [if_pos h] at HZ
    have hm : ¬ (1048576 - (t.size : Int)) < 0 := by omega
    go_enter Try.func4, Try.ntmps4
    go_wp2_with fail
    (with_reducible refine (HZ.out _).mono ?_)
    rintro e w1 ⟨rfl, b1⟩
    have B1 := Lib.hid (below_then (bl1 _ _) b1)
    have V1 := Lib.hid (V0.out.later b1)
    clear b1
    obtain ⟨c0, _⟩ := V1.out 0 _ rfl
    obtain ⟨c1, _⟩ := V1.out 1 _ rfl
    obtain ⟨c2, _⟩ := V1.out 2 _ rfl
    obtain ⟨c3, _⟩ := V1.out 3 _ rfl
    obtain ⟨c4, _⟩ := V1.out 4 _ rfl
    obtain ⟨c5, _⟩ := V1.out 5 _ rfl
    go_wp2_with fail
    (with_reducible refine (HT.out _).mono ?_)
    rintro e w2 ⟨rfl, b2⟩
    have B2 := Lib.hid (below_then B1.out b2)
    have V2 := Lib.hid (V1.out.later b2)
    clear b2 c0 c1 c2 c3 c4 c5
    go_wp2_with fail
    (with_reducible refine (HS.out _).mono ?_)
    rintro e w3 ⟨rfl, b3⟩
    have B3 := Lib.hid (below_then B2.out b3)
    have V3 := Lib.hid (V2.out.later b3)
    clear b3
    obtain ⟨c0, _⟩ := V3.out 0 _ rfl
    obtain ⟨c1, _⟩ := V3.out 1 _ rfl
    obtain ⟨c2, _⟩ := V3.out 2 _ rfl
    obtain ⟨c3, _⟩ := V3.out 3 _ rfl
    obtain ⟨c4, _⟩ := V3.out 4 _ rfl
    obtain ⟨c5, _⟩ := V3.out 5 _ rfl
    go_wp2_with fail
    (with_reducible refine (HT.out _).mono ?_)
    rintro e w4 ⟨rfl, b4⟩
    have B4 := Lib.hid (below_then B3.out b4)
    clear b4 c0 c1 c2 c3 c4 c5
    go_wp2_with fail
    (with_reducible refine (HI.out _).mono ?_)
    rintro e w5 ⟨rfl, b5⟩
    have B5 := Lib.hid (below_then B4.out b5)
    clear b5
    go_wp2
    go_ret
    exact ⟨rfl, B5.out⟩
  · rw [if_neg h] at HZ
    go_enter Try.func4, Try.ntmps4
    go_wp2_with fail
    (with_reducible refine (HZ.out _).mono ?_)
    rintro e w1 ⟨rfl, b1⟩
    have B1 := Lib.hid (below_then (bl1 _ _) b1)
    clear b1
    go_wp2
    go_ret
    exact ⟨rfl, B1.out⟩
/-- What a function answers: a value and whether there is one. -/
def RetV (w : World) (k n i : Int) (t : ByteArray) (a b : Int) (ok : Bool) (e : Ending) (w' : World) : Prop := e = .returned (.tuple #[vlV k n i t a b, .bool ok]) ∧ Below w.heap.size w w'
abbrev vl0 : Array Value := #[.int .i64 0, .int .i64 0, .int .i64 0, .string ⟨#[]⟩, .int .i64 0, .int .i64 0]
theorem two_vars {w w1 : World} {A B : Array Value} {T1 T2 : TypeId} (b1 : Below ((w.alloc (.cells A T1)).alloc (.cells B T2)).heap.size ((w.alloc (.cells A T1)).alloc (.cells B T2)) w1) : Var w1 w.heap.size A.toList ∧ Var w1 (w.heap.size + 1) B.toList ∧ Below w.heap.size w w1 := by
  have e1 : (w.alloc (.cells A T1)).heap.size = w.heap.size + 1 := World.size_alloc _ _
  refine ⟨((Var.new w A T1).later (bl1 _ _)).later b1, ?_, below_then (bl2 _ _ _) b1⟩
  rw [← e1]; exact (Var.new _ B T2).later b1
theorem wfd_no (k n i : Int) (t : ByteArray) (a b : Int) (hr : Vl.wf k n i t a b = false) (w : World) : Calls Try.prog 28 #[vlV k n i t a b] w (RetV w 0 0 0 ⟨#[]⟩ 0 0 false) := by
  have HI := Lib.hid (fun W => impl_wf k n i t a b W)
  rw [hr] at HI
  clear hr
  unfold RetV
  unfold vlV at HI ⊢
  go_enter Try.func28, Try.ntmps28
  go_wp2_with fail
  (with_reducible refine (HI.out _).mono ?_)
  rintro e w1 ⟨rfl, b1⟩
  obtain ⟨V1, V2, B1⟩ := two_vars b1
  obtain ⟨d0, g0⟩ := V2 0 _ rfl
  obtain ⟨d1, g1⟩ := V2 1 _ rfl
  obtain ⟨d2, g2⟩ := V2 2 _ rfl
  obtain ⟨d3, g3⟩ := V2 3 _ rfl
  obtain ⟨d4, g4⟩ := V2 4 _ rfl
  obtain ⟨d5, g5⟩ := V2 5 _ rfl
  have HB := Lib.hid B1
  clear V1 V2 B1 b1
  go_wp2
  exact bodyPost_ret (v := .tuple #[vlV 0 0 0 ⟨#[]⟩ 0 0, .bool false]) (by simp [results, Try.results28, go_sem, d0, d1, d2, d3, d4, d5]) rfl ⟨rfl, below_set6 HB.out (Nat.le_succ _) _ _ _ _ _ _⟩
theorem wfd_yes (k n i : Int) (t : ByteArray) (a b : Int) (hr : Vl.wf k n i t a b = true) (w : World) : Calls Try.prog 28 #[vlV k n i t a b] w (RetV w k n i t a b true) := by
  have HI := Lib.hid (fun W => impl_wf k n i t a b W)
  rw [hr] at HI
  clear hr
  unfold RetV
  unfold vlV at HI ⊢
  go_enter Try.func28, Try.ntmps28
  go_wp2_with fail
  (with_reducible refine (HI.out _).mono ?_)
  rintro e w1 ⟨rfl, b1⟩
  obtain ⟨V1, V2, B1⟩ := two_vars b1
  obtain ⟨c0, f0⟩ := V1 0 _ rfl
  obtain ⟨c1, f1⟩ := V1 1 _ rfl
  obtain ⟨c2, f2⟩ := V1 2 _ rfl
  obtain ⟨c3, f3⟩ := V1 3 _ rfl
  obtain ⟨c4, f4⟩ := V1 4 _ rfl
  obtain ⟨c5, f5⟩ := V1 5 _ rfl
  obtain ⟨d0, g0⟩ := V2 0 _ rfl
  obtain ⟨d1, g1⟩ := V2 1 _ rfl
  obtain ⟨d2, g2⟩ := V2 2 _ rfl
  obtain ⟨d3, g3⟩ := V2 3 _ rfl
  obtain ⟨d4, g4⟩ := V2 4 _ rfl
  obtain ⟨d5, g5⟩ := V2 5 _ rfl
  have HB := Lib.hid B1
  clear V1 V2 B1 b1
  go_wp2
  exact bodyPost_ret (v := .tuple #[vlV k n i t a b, .bool true]) (by simp [results, Try.results28, go_sem, d0, d1, d2, d3, d4, d5]) rfl ⟨rfl, below_set6 HB.out (Nat.le_succ _) _ _ _ _ _ _⟩

/-- An integer of the language. -/
def inInt (n : Int) : Bool := decide (-999999999999 ≤ n) && decide (n ≤ 999999999999)
theorem wf_of_int (n : Int) : Vl.wf 1 n 0 ⟨#[]⟩ 0 0 = inInt n := by
  simp [Vl.wf, Vl.kndF, Vl.numF, Vl.idxF, Vl.txtF, Vl.setF, inInt]
theorem wf_of_text (s : ByteArray) : Vl.wf 2 0 0 s 0 0 = decide ((s.size : Int) ≤ 120) := by
  by_cases h : s.toList = []
  · have hz := empty_size h
    simp [Vl.wf, Vl.kndF, Vl.numF, Vl.idxF, Vl.txtF, Vl.setF, h]
    omega
  · simp [Vl.wf, Vl.kndF, Vl.numF, Vl.idxF, Vl.txtF, Vl.setF, h]
theorem impl_intv_no (n : Int) (hr : inInt n = false) (w : World) : Calls Try.prog 15 #[.int .i64 n] w (RetV w 0 0 0 ⟨#[]⟩ 0 0 false) := by
  have HI := Lib.hid (fun W => wfd_no 1 n 0 ⟨#[]⟩ 0 0 ((wf_of_int n).trans hr) W)
  clear hr
  unfold RetV at HI ⊢
  unfold vlV at HI ⊢
  go_enter Try.func15, Try.ntmps15
  go_wp2_with fail
  (with_reducible refine (HI.out _).mono ?_)
  rintro e w1 ⟨rfl, b1⟩
  have V2 := (Var.new w vl0 30).later b1
  have HB := Lib.hid (below_then (bl1 _ _) b1)
  obtain ⟨d0, g0⟩ := V2 0 _ rfl
  obtain ⟨d1, g1⟩ := V2 1 _ rfl
  obtain ⟨d2, g2⟩ := V2 2 _ rfl
  obtain ⟨d3, g3⟩ := V2 3 _ rfl
  obtain ⟨d4, g4⟩ := V2 4 _ rfl
  obtain ⟨d5, g5⟩ := V2 5 _ rfl
  clear V2 b1
  go_wp2
  exact bodyPost_ret (v := .tuple #[vlV 0 0 0 ⟨#[]⟩ 0 0, .bool false]) (by simp [results, Try.results15, go_sem, d0, d1, d2, d3, d4, d5]) rfl ⟨rfl, below_set6 HB.out (Nat.le_refl _) _ _ _ _ _ _⟩
theorem impl_intv_yes (n : Int) (hr : inInt n = true) (w : World) : Calls Try.prog 15 #[.int .i64 n] w (RetV w 1 n 0 ⟨#[]⟩ 0 0 true) := by
  have HI := Lib.hid (fun W => wfd_yes 1 n 0 ⟨#[]⟩ 0 0 ((wf_of_int n).trans hr) W)
  clear hr
  unfold RetV at HI ⊢
  unfold vlV at HI ⊢
  go_enter Try.func15, Try.ntmps15
  go_wp2_with fail
  (with_reducible refine (HI.out _).mono ?_)
  rintro e w1 ⟨rfl, b1⟩
  have V2 := (Var.new w vl0 30).later b1
  have HB := Lib.hid (below_then (bl1 _ _) b1)
  obtain ⟨d0, g0⟩ := V2 0 _ rfl
  obtain ⟨d1, g1⟩ := V2 1 _ rfl
  obtain ⟨d2, g2⟩ := V2 2 _ rfl
  obtain ⟨d3, g3⟩ := V2 3 _ rfl
  obtain ⟨d4, g4⟩ := V2 4 _ rfl
  obtain ⟨d5, g5⟩ := V2 5 _ rfl
  clear V2 b1
  go_wp2
  exact bodyPost_ret (v := .tuple #[vlV 1 n 0 ⟨#[]⟩ 0 0, .bool true]) (by simp [results, Try.results15, go_sem, d0, d1, d2, d3, d4, d5]) rfl ⟨rfl, below_set6 HB.out (Nat.le_refl _) _ _ _ _ _ _⟩
theorem spec_l11int (n : Int) (w : World) : Calls Try.prog 27 #[.int .i64 n] w fun e w' => e = .returned (vlV 1 n 0 ⟨#[]⟩ 0 0) ∧ Below w.heap.size w w' := by
  unfold vlV
  go_enter Try.func27, Try.ntmps27
  go_wp2
  exact bodyPost_ret (v := vlV 1 n 0 ⟨#[]⟩ 0 0) (by simp [results, Try.results27, go_sem]) rfl ⟨rfl, bl1 _ _⟩
theorem spec_l11text (s : ByteArray) (w : World) : Calls Try.prog 30 #[.string s] w fun e w' => e = .returned (vlV 2 0 0 s 0 0) ∧ Below w.heap.size w w' := by
  unfold vlV
  go_enter Try.func30, Try.ntmps30
  go_wp2
  exact bodyPost_ret (v := vlV 2 0 0 s 0 0) (by simp [results, Try.results30, go_sem]) rfl ⟨rfl, bl1 _ _⟩
theorem spec_intv_no (n : Int) (hr : inInt n = false) (w : World) : Calls Try.prog 14 #[.int .i64 n] w (RetV w 0 0 0 ⟨#[]⟩ 0 0 false) := by
  have hc : n < -999999999999 ∨ (¬ n < -999999999999 ∧ 999999999999 < n) := by
    unfold inInt at hr
    rw [Bool.and_eq_false_iff, decide_eq_false_iff_not, decide_eq_false_iff_not] at hr
    omega
  unfold RetV
  clear hr
  rcases hc with h | ⟨h, h2⟩
  · go_enter Try.func14, Try.ntmps14
    go_wp2
    exact bodyPost_ret (v := .tuple #[vlV 0 0 0 ⟨#[]⟩ 0 0, .bool false]) (by simp [results, Try.results14, go_sem]) rfl ⟨rfl, bl1 _ _⟩
  · go_enter Try.func14, Try.ntmps14
    go_wp2
    exact bodyPost_ret (v := .tuple #[vlV 0 0 0 ⟨#[]⟩ 0 0, .bool false]) (by simp [results, Try.results14, go_sem]) rfl ⟨rfl, bl1 _ _⟩
theorem spec_intv_yes (n : Int) (hr : inInt n = true) (w : World) : Calls Try.prog 14 #[.int .i64 n] w (RetV w 1 n 0 ⟨#[]⟩ 0 0 true) := by
  have HI := Lib.hid (fun W => spec_l11int n W)
  have h1 : ¬ n < -999999999999 := by
    unfold inInt at hr
    rw [Bool.and_eq_true, decide_eq_true_iff, decide_eq_true_iff] at hr
    omega
  have h2 : ¬ 999999999999 < n := by
    unfold inInt at hr
    rw [Bool.and_eq_true, decide_eq_true_iff, decide_eq_true_iff] at hr
    omega
  clear hr
  unfold RetV
  unfold vlV at HI ⊢
  go_enter Try.func14, Try.ntmps14
  go_wp2_with fail
  (with_reducible refine (HI.out _).mono ?_)
  rintro e w1 ⟨rfl, b1⟩
  have V2 := (Var.new w vl0 30).later b1
  have HB := Lib.hid (below_then (bl1 _ _) b1)
  obtain ⟨d0, g0⟩ := V2 0 _ rfl
  obtain ⟨d1, g1⟩ := V2 1 _ rfl
  obtain ⟨d2, g2⟩ := V2 2 _ rfl
  obtain ⟨d3, g3⟩ := V2 3 _ rfl
  obtain ⟨d4, g4⟩ := V2 4 _ rfl
  obtain ⟨d5, g5⟩ := V2 5 _ rfl
  clear V2 b1
  go_wp2
  exact bodyPost_ret (v := .tuple #[vlV 1 n 0 ⟨#[]⟩ 0 0, .bool true]) (by simp [results, Try.results14, go_sem, d0, d1, d2, d3, d4, d5]) rfl ⟨rfl, below_set6 HB.out (Nat.le_refl _) _ _ _ _ _ _⟩
theorem FnExactIntegerValue_walk (a0 : Int) (w0 : (Lit.int .i64 a0).wf = true) (w : World) : Calls Try.prog 5 #[.int .i64 a0] w fun e w' => e = .returned (.bool true) ∧ Below w.heap.size w w' := by
  obtain ⟨k, n, ok, HS, HI⟩ : ∃ (k n : Int) (ok : Bool), Hid (∀ W, Calls Try.prog 14 #[.int .i64 a0] W (RetV W k n 0 ⟨#[]⟩ 0 0 ok)) ∧ Hid (∀ W, Calls Try.prog 15 #[.int .i64 a0] W (RetV W k n 0 ⟨#[]⟩ 0 0 ok)) := by
    cases hr : inInt a0
    · exact ⟨0, 0, false, Lib.hid (fun W => spec_intv_no a0 hr W), Lib.hid (fun W => impl_intv_no a0 hr W)⟩
    · exact ⟨1, a0, true, Lib.hid (fun W => spec_intv_yes a0 hr W), Lib.hid (fun W => impl_intv_yes a0 hr W)⟩
  have HE := Lib.hid (fun W => eq_val k n 0 ⟨#[]⟩ 0 0 W)
  unfold RetV at HS HI
  unfold vlV at HS HI HE
  go_enter Try.func5, Try.ntmps5
  go_wp2_with fail
  (with_reducible refine (HS.out _).mono ?_)
  rintro e w1 ⟨rfl, b1⟩
  have B1 := Lib.hid b1
  clear b1
  go_wp2_with fail
  (with_reducible refine (HI.out _).mono ?_)
  rintro e w2 ⟨rfl, b2⟩
  have V1 := Lib.hid (((Var.new w1 #[.int .i64 k, .int .i64 n, .int .i64 0, .string ⟨#[]⟩, .int .i64 0, .int .i64 0] 30).later b2).later (bl1 _ (.cells #[.int .i64 k, .int .i64 n, .int .i64 0, .string ⟨#[]⟩, .int .i64 0, .int .i64 0] 30)))
  have B2 := Lib.hid (below_then (below_then B1.out (below_then (bl1 _ _) b2)) (bl1 _ (.cells #[.int .i64 k, .int .i64 n, .int .i64 0, .string ⟨#[]⟩, .int .i64 0, .int .i64 0] 30)))
  clear b2
  obtain ⟨c0, _⟩ := V1.out 0 _ rfl
  obtain ⟨c1, _⟩ := V1.out 1 _ rfl
  obtain ⟨c2, _⟩ := V1.out 2 _ rfl
  obtain ⟨c3, _⟩ := V1.out 3 _ rfl
  obtain ⟨c4, _⟩ := V1.out 4 _ rfl
  obtain ⟨c5, _⟩ := V1.out 5 _ rfl
  go_wp2_with fail
  (with_reducible refine (HE.out _).mono ?_)
  rintro e w3 ⟨rfl, b3⟩
  have B3 := Lib.hid (below_then B2.out b3)
  clear b3
  go_wp2
  go_ret
  exact ⟨rfl, B3.out⟩
end Go.Proofs.Ytbadepiakkhabaa
