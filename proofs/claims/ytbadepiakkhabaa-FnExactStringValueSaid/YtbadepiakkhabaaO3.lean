/- The reference model: values that are well-formed; references. No conditions. -/
import Derived.Test.YtbadepiakkhabaaO1
import Derived.Laws.StructEq
namespace Go.Proofs.Ytbadepiakkhabaa
open Go.RowKit
set_option linter.unusedVariables false

theorem cset_eq (a b : Int) (w : World) : (Op.equalIn 10000 28 (.agg #[.int .i64 a, .int .i64 b]) (.agg #[.int .i64 0, .int .i64 0])).run Try.prog w = .ok (a == 0 && b == 0) w := by
  have u3 := Try.underlying3
  have a3 := Try.isAgg3
  have z3 := Try.sizeOf3
  have hS : Try.prog.underlying 28 = some (.struct (Try.prog.fieldsOf 28)) := by kernel_rfl
  have hp : Try.prog.stoodInHeld 28 = false := by kernel_rfl
  rw [show (10000 : Nat) = 9999 + 1 from rfl, run_equalIn_agg w 9999 28 _ _ hS hp]
  simp only [Program.fieldsOf, Try.underlying28]
  go_simp
  by_cases h1 : a = 0 <;> by_cases h2 : b = 0 <;> simp [h1, h2]
theorem vl_bb {a b : Bool} {w : World} {w' : World} (h : a = b) (hb : Below w.heap.size w w') : Ending.returned (.bool a) = .returned (.bool b) ∧ Below w.heap.size w w' := ⟨by rw [h], hb⟩

theorem empty_size {t : ByteArray} (h : t.toList = []) : (t.size : Int) = 0 := by
  rw [ByteArray.toList_eq] at h
  have : t.data.size = 0 := by rw [← Array.length_toList, h]; rfl
  have e : t.size = t.data.size := rfl
  omega

set_option maxHeartbeats 800000 in
theorem swf_0 (n i : Int) (t : ByteArray) (a b : Int) (w : World) : Calls Try.prog 9 #[vlV 0 n i t a b] w fun e w' => e = .returned (.bool (Vl.wf 0 n i t a b)) ∧ Below w.heap.size w w' := by
  have he := cset_eq a b
  unfold vlV
  by_cases hn : t.toList = []
  · have hz := empty_size hn
    go_enter Try.func9, Try.ntmps9
    go_wp2
    all_goals (go_ret; exact vl_bb (by first | rfl | (simp [Vl.wf, Vl.kndF, Vl.numF, Vl.idxF, Vl.txtF, Vl.setF, *]; done) | (simp [Vl.wf, Vl.kndF, Vl.numF, Vl.idxF, Vl.txtF, Vl.setF, *] <;> omega) | (rw [Bool.eq_iff_iff]; simp [Vl.wf, Vl.kndF, Vl.numF, Vl.idxF, Vl.txtF, Vl.setF, *] <;> omega)) (bl1 _ _))
  · go_enter Try.func9, Try.ntmps9
    go_wp2
    all_goals (go_ret; exact vl_bb (by first | rfl | (simp [Vl.wf, Vl.kndF, Vl.numF, Vl.idxF, Vl.txtF, Vl.setF, *]; done) | (simp [Vl.wf, Vl.kndF, Vl.numF, Vl.idxF, Vl.txtF, Vl.setF, *] <;> omega) | (rw [Bool.eq_iff_iff]; simp [Vl.wf, Vl.kndF, Vl.numF, Vl.idxF, Vl.txtF, Vl.setF, *] <;> omega)) (bl1 _ _))

set_option maxHeartbeats 800000 in
theorem swf_1 (n i : Int) (t : ByteArray) (a b : Int) (w : World) : Calls Try.prog 9 #[vlV 1 n i t a b] w fun e w' => e = .returned (.bool (Vl.wf 1 n i t a b)) ∧ Below w.heap.size w w' := by
  have he := cset_eq a b
  unfold vlV
  go_enter Try.func9, Try.ntmps9
  go_wp2
  all_goals (go_ret; exact vl_bb (by first | rfl | (simp [Vl.wf, Vl.kndF, Vl.numF, Vl.idxF, Vl.txtF, Vl.setF, *]; done) | (simp [Vl.wf, Vl.kndF, Vl.numF, Vl.idxF, Vl.txtF, Vl.setF, *] <;> omega) | (rw [Bool.eq_iff_iff]; simp [Vl.wf, Vl.kndF, Vl.numF, Vl.idxF, Vl.txtF, Vl.setF, *] <;> omega)) (bl1 _ _))

set_option maxHeartbeats 800000 in
theorem swf_2 (n i : Int) (t : ByteArray) (a b : Int) (w : World) : Calls Try.prog 9 #[vlV 2 n i t a b] w fun e w' => e = .returned (.bool (Vl.wf 2 n i t a b)) ∧ Below w.heap.size w w' := by
  have he := cset_eq a b
  unfold vlV
  by_cases hn : t.toList = []
  · have hz := empty_size hn
    go_enter Try.func9, Try.ntmps9
    go_wp2
    all_goals (go_ret; exact vl_bb (by first | rfl | (simp [Vl.wf, Vl.kndF, Vl.numF, Vl.idxF, Vl.txtF, Vl.setF, *]; done) | (simp [Vl.wf, Vl.kndF, Vl.numF, Vl.idxF, Vl.txtF, Vl.setF, *] <;> omega) | (rw [Bool.eq_iff_iff]; simp [Vl.wf, Vl.kndF, Vl.numF, Vl.idxF, Vl.txtF, Vl.setF, *] <;> omega)) (bl1 _ _))
  · go_enter Try.func9, Try.ntmps9
    go_wp2
    all_goals (go_ret; exact vl_bb (by first | rfl | (simp [Vl.wf, Vl.kndF, Vl.numF, Vl.idxF, Vl.txtF, Vl.setF, *]; done) | (simp [Vl.wf, Vl.kndF, Vl.numF, Vl.idxF, Vl.txtF, Vl.setF, *] <;> omega) | (rw [Bool.eq_iff_iff]; simp [Vl.wf, Vl.kndF, Vl.numF, Vl.idxF, Vl.txtF, Vl.setF, *] <;> omega)) (bl1 _ _))

set_option maxHeartbeats 800000 in
theorem swf_3 (n i : Int) (t : ByteArray) (a b : Int) (w : World) : Calls Try.prog 9 #[vlV 3 n i t a b] w fun e w' => e = .returned (.bool (Vl.wf 3 n i t a b)) ∧ Below w.heap.size w w' := by
  have he := cset_eq a b
  unfold vlV
  by_cases hn : t.toList = []
  · have hz := empty_size hn
    go_enter Try.func9, Try.ntmps9
    go_wp2
    all_goals (go_ret; exact vl_bb (by first | rfl | (simp [Vl.wf, Vl.kndF, Vl.numF, Vl.idxF, Vl.txtF, Vl.setF, *]; done) | (simp [Vl.wf, Vl.kndF, Vl.numF, Vl.idxF, Vl.txtF, Vl.setF, *] <;> omega) | (rw [Bool.eq_iff_iff]; simp [Vl.wf, Vl.kndF, Vl.numF, Vl.idxF, Vl.txtF, Vl.setF, *] <;> omega)) (bl1 _ _))
  · go_enter Try.func9, Try.ntmps9
    go_wp2
    all_goals (go_ret; exact vl_bb (by first | rfl | (simp [Vl.wf, Vl.kndF, Vl.numF, Vl.idxF, Vl.txtF, Vl.setF, *]; done) | (simp [Vl.wf, Vl.kndF, Vl.numF, Vl.idxF, Vl.txtF, Vl.setF, *] <;> omega) | (rw [Bool.eq_iff_iff]; simp [Vl.wf, Vl.kndF, Vl.numF, Vl.idxF, Vl.txtF, Vl.setF, *] <;> omega)) (bl1 _ _))

set_option maxHeartbeats 800000 in
theorem swf_4 (n i : Int) (t : ByteArray) (a b : Int) (w : World) : Calls Try.prog 9 #[vlV 4 n i t a b] w fun e w' => e = .returned (.bool (Vl.wf 4 n i t a b)) ∧ Below w.heap.size w w' := by
  have he := cset_eq a b
  unfold vlV
  go_enter Try.func9, Try.ntmps9
  go_wp2
  all_goals (go_ret; exact vl_bb (by first | rfl | (simp [Vl.wf, Vl.kndF, Vl.numF, Vl.idxF, Vl.txtF, Vl.setF, *]; done) | (simp [Vl.wf, Vl.kndF, Vl.numF, Vl.idxF, Vl.txtF, Vl.setF, *] <;> omega) | (rw [Bool.eq_iff_iff]; simp [Vl.wf, Vl.kndF, Vl.numF, Vl.idxF, Vl.txtF, Vl.setF, *] <;> omega)) (bl1 _ _))

set_option maxHeartbeats 800000 in
theorem swf_5 (n i : Int) (t : ByteArray) (a b : Int) (w : World) : Calls Try.prog 9 #[vlV 5 n i t a b] w fun e w' => e = .returned (.bool (Vl.wf 5 n i t a b)) ∧ Below w.heap.size w w' := by
  have he := cset_eq a b
  unfold vlV
  go_enter Try.func9, Try.ntmps9
  go_wp2
  all_goals (go_ret; exact vl_bb (by first | rfl | (simp [Vl.wf, Vl.kndF, Vl.numF, Vl.idxF, Vl.txtF, Vl.setF, *]; done) | (simp [Vl.wf, Vl.kndF, Vl.numF, Vl.idxF, Vl.txtF, Vl.setF, *] <;> omega) | (rw [Bool.eq_iff_iff]; simp [Vl.wf, Vl.kndF, Vl.numF, Vl.idxF, Vl.txtF, Vl.setF, *] <;> omega)) (bl1 _ _))

set_option maxHeartbeats 800000 in
theorem swf_6 (n i : Int) (t : ByteArray) (a b : Int) (w : World) : Calls Try.prog 9 #[vlV 6 n i t a b] w fun e w' => e = .returned (.bool (Vl.wf 6 n i t a b)) ∧ Below w.heap.size w w' := by
  have he := cset_eq a b
  unfold vlV
  go_enter Try.func9, Try.ntmps9
  go_wp2
  all_goals (go_ret; exact vl_bb (by first | rfl | (simp [Vl.wf, Vl.kndF, Vl.numF, Vl.idxF, Vl.txtF, Vl.setF, *]; done) | (simp [Vl.wf, Vl.kndF, Vl.numF, Vl.idxF, Vl.txtF, Vl.setF, *] <;> omega) | (rw [Bool.eq_iff_iff]; simp [Vl.wf, Vl.kndF, Vl.numF, Vl.idxF, Vl.txtF, Vl.setF, *] <;> omega)) (bl1 _ _))

set_option maxHeartbeats 800000 in
theorem swf_7 (n i : Int) (t : ByteArray) (a b : Int) (w : World) : Calls Try.prog 9 #[vlV 7 n i t a b] w fun e w' => e = .returned (.bool (Vl.wf 7 n i t a b)) ∧ Below w.heap.size w w' := by
  have he := cset_eq a b
  unfold vlV
  go_enter Try.func9, Try.ntmps9
  go_wp2
  all_goals (go_ret; exact vl_bb (by first | rfl | (simp [Vl.wf, Vl.kndF, Vl.numF, Vl.idxF, Vl.txtF, Vl.setF, *]; done) | (simp [Vl.wf, Vl.kndF, Vl.numF, Vl.idxF, Vl.txtF, Vl.setF, *] <;> omega) | (rw [Bool.eq_iff_iff]; simp [Vl.wf, Vl.kndF, Vl.numF, Vl.idxF, Vl.txtF, Vl.setF, *] <;> omega)) (bl1 _ _))

set_option maxHeartbeats 800000 in
theorem swf_8 (n i : Int) (t : ByteArray) (a b : Int) (w : World) : Calls Try.prog 9 #[vlV 8 n i t a b] w fun e w' => e = .returned (.bool (Vl.wf 8 n i t a b)) ∧ Below w.heap.size w w' := by
  have he := cset_eq a b
  unfold vlV
  go_enter Try.func9, Try.ntmps9
  go_wp2
  all_goals (go_ret; exact vl_bb (by first | rfl | (simp [Vl.wf, Vl.kndF, Vl.numF, Vl.idxF, Vl.txtF, Vl.setF, *]; done) | (simp [Vl.wf, Vl.kndF, Vl.numF, Vl.idxF, Vl.txtF, Vl.setF, *] <;> omega) | (rw [Bool.eq_iff_iff]; simp [Vl.wf, Vl.kndF, Vl.numF, Vl.idxF, Vl.txtF, Vl.setF, *] <;> omega)) (bl1 _ _))

set_option maxHeartbeats 800000 in
theorem swf_9 (n i : Int) (t : ByteArray) (a b : Int) (w : World) : Calls Try.prog 9 #[vlV 9 n i t a b] w fun e w' => e = .returned (.bool (Vl.wf 9 n i t a b)) ∧ Below w.heap.size w w' := by
  have he := cset_eq a b
  unfold vlV
  go_enter Try.func9, Try.ntmps9
  go_wp2
  all_goals (go_ret; exact vl_bb (by first | rfl | (simp [Vl.wf, Vl.kndF, Vl.numF, Vl.idxF, Vl.txtF, Vl.setF, *]; done) | (simp [Vl.wf, Vl.kndF, Vl.numF, Vl.idxF, Vl.txtF, Vl.setF, *] <;> omega) | (rw [Bool.eq_iff_iff]; simp [Vl.wf, Vl.kndF, Vl.numF, Vl.idxF, Vl.txtF, Vl.setF, *] <;> omega)) (bl1 _ _))

set_option maxHeartbeats 800000 in
theorem swf_10 (n i : Int) (t : ByteArray) (a b : Int) (w : World) : Calls Try.prog 9 #[vlV 10 n i t a b] w fun e w' => e = .returned (.bool (Vl.wf 10 n i t a b)) ∧ Below w.heap.size w w' := by
  have he := cset_eq a b
  unfold vlV
  go_enter Try.func9, Try.ntmps9
  go_wp2
  all_goals (go_ret; exact vl_bb (by first | rfl | (simp [Vl.wf, Vl.kndF, Vl.numF, Vl.idxF, Vl.txtF, Vl.setF, *]; done) | (simp [Vl.wf, Vl.kndF, Vl.numF, Vl.idxF, Vl.txtF, Vl.setF, *] <;> omega) | (rw [Bool.eq_iff_iff]; simp [Vl.wf, Vl.kndF, Vl.numF, Vl.idxF, Vl.txtF, Vl.setF, *] <;> omega)) (bl1 _ _))

set_option maxHeartbeats 800000 in
theorem swf_11 (n i : Int) (t : ByteArray) (a b : Int) (w : World) : Calls Try.prog 9 #[vlV 11 n i t a b] w fun e w' => e = .returned (.bool (Vl.wf 11 n i t a b)) ∧ Below w.heap.size w w' := by
  have he := cset_eq a b
  unfold vlV
  go_enter Try.func9, Try.ntmps9
  go_wp2
  all_goals (go_ret; exact vl_bb (by first | rfl | (simp [Vl.wf, Vl.kndF, Vl.numF, Vl.idxF, Vl.txtF, Vl.setF, *]; done) | (simp [Vl.wf, Vl.kndF, Vl.numF, Vl.idxF, Vl.txtF, Vl.setF, *] <;> omega) | (rw [Bool.eq_iff_iff]; simp [Vl.wf, Vl.kndF, Vl.numF, Vl.idxF, Vl.txtF, Vl.setF, *] <;> omega)) (bl1 _ _))

set_option maxHeartbeats 800000 in
theorem swf_12 (n i : Int) (t : ByteArray) (a b : Int) (w : World) : Calls Try.prog 9 #[vlV 12 n i t a b] w fun e w' => e = .returned (.bool (Vl.wf 12 n i t a b)) ∧ Below w.heap.size w w' := by
  have he := cset_eq a b
  unfold vlV
  go_enter Try.func9, Try.ntmps9
  go_wp2
  all_goals (go_ret; exact vl_bb (by first | rfl | (simp [Vl.wf, Vl.kndF, Vl.numF, Vl.idxF, Vl.txtF, Vl.setF, *]; done) | (simp [Vl.wf, Vl.kndF, Vl.numF, Vl.idxF, Vl.txtF, Vl.setF, *] <;> omega) | (rw [Bool.eq_iff_iff]; simp [Vl.wf, Vl.kndF, Vl.numF, Vl.idxF, Vl.txtF, Vl.setF, *] <;> omega)) (bl1 _ _))

set_option maxHeartbeats 800000 in
theorem swf_13 (n i : Int) (t : ByteArray) (a b : Int) (w : World) : Calls Try.prog 9 #[vlV 13 n i t a b] w fun e w' => e = .returned (.bool (Vl.wf 13 n i t a b)) ∧ Below w.heap.size w w' := by
  have he := cset_eq a b
  unfold vlV
  go_enter Try.func9, Try.ntmps9
  go_wp2
  all_goals (go_ret; exact vl_bb (by first | rfl | (simp [Vl.wf, Vl.kndF, Vl.numF, Vl.idxF, Vl.txtF, Vl.setF, *]; done) | (simp [Vl.wf, Vl.kndF, Vl.numF, Vl.idxF, Vl.txtF, Vl.setF, *] <;> omega) | (rw [Bool.eq_iff_iff]; simp [Vl.wf, Vl.kndF, Vl.numF, Vl.idxF, Vl.txtF, Vl.setF, *] <;> omega)) (bl1 _ _))

set_option maxHeartbeats 800000 in
theorem swf_14 (n i : Int) (t : ByteArray) (a b : Int) (w : World) : Calls Try.prog 9 #[vlV 14 n i t a b] w fun e w' => e = .returned (.bool (Vl.wf 14 n i t a b)) ∧ Below w.heap.size w w' := by
  have he := cset_eq a b
  unfold vlV
  go_enter Try.func9, Try.ntmps9
  go_wp2
  all_goals (go_ret; exact vl_bb (by first | rfl | (simp [Vl.wf, Vl.kndF, Vl.numF, Vl.idxF, Vl.txtF, Vl.setF, *]; done) | (simp [Vl.wf, Vl.kndF, Vl.numF, Vl.idxF, Vl.txtF, Vl.setF, *] <;> omega) | (rw [Bool.eq_iff_iff]; simp [Vl.wf, Vl.kndF, Vl.numF, Vl.idxF, Vl.txtF, Vl.setF, *] <;> omega)) (bl1 _ _))

set_option maxHeartbeats 800000 in
theorem swf_15 (n i : Int) (t : ByteArray) (a b : Int) (w : World) : Calls Try.prog 9 #[vlV 15 n i t a b] w fun e w' => e = .returned (.bool (Vl.wf 15 n i t a b)) ∧ Below w.heap.size w w' := by
  have he := cset_eq a b
  unfold vlV
  go_enter Try.func9, Try.ntmps9
  go_wp2
  all_goals (go_ret; exact vl_bb (by first | rfl | (simp [Vl.wf, Vl.kndF, Vl.numF, Vl.idxF, Vl.txtF, Vl.setF, *]; done) | (simp [Vl.wf, Vl.kndF, Vl.numF, Vl.idxF, Vl.txtF, Vl.setF, *] <;> omega) | (rw [Bool.eq_iff_iff]; simp [Vl.wf, Vl.kndF, Vl.numF, Vl.idxF, Vl.txtF, Vl.setF, *] <;> omega)) (bl1 _ _))

set_option maxHeartbeats 800000 in
theorem swf_16 (n i : Int) (t : ByteArray) (a b : Int) (w : World) : Calls Try.prog 9 #[vlV 16 n i t a b] w fun e w' => e = .returned (.bool (Vl.wf 16 n i t a b)) ∧ Below w.heap.size w w' := by
  have he := cset_eq a b
  unfold vlV
  go_enter Try.func9, Try.ntmps9
  go_wp2
  all_goals (go_ret; exact vl_bb (by first | rfl | (simp [Vl.wf, Vl.kndF, Vl.numF, Vl.idxF, Vl.txtF, Vl.setF, *]; done) | (simp [Vl.wf, Vl.kndF, Vl.numF, Vl.idxF, Vl.txtF, Vl.setF, *] <;> omega) | (rw [Bool.eq_iff_iff]; simp [Vl.wf, Vl.kndF, Vl.numF, Vl.idxF, Vl.txtF, Vl.setF, *] <;> omega)) (bl1 _ _))

set_option maxHeartbeats 800000 in
theorem swf_17 (n i : Int) (t : ByteArray) (a b : Int) (w : World) : Calls Try.prog 9 #[vlV 17 n i t a b] w fun e w' => e = .returned (.bool (Vl.wf 17 n i t a b)) ∧ Below w.heap.size w w' := by
  have he := cset_eq a b
  unfold vlV
  go_enter Try.func9, Try.ntmps9
  go_wp2
  all_goals (go_ret; exact vl_bb (by first | rfl | (simp [Vl.wf, Vl.kndF, Vl.numF, Vl.idxF, Vl.txtF, Vl.setF, *]; done) | (simp [Vl.wf, Vl.kndF, Vl.numF, Vl.idxF, Vl.txtF, Vl.setF, *] <;> omega) | (rw [Bool.eq_iff_iff]; simp [Vl.wf, Vl.kndF, Vl.numF, Vl.idxF, Vl.txtF, Vl.setF, *] <;> omega)) (bl1 _ _))

set_option maxHeartbeats 800000 in
theorem swf_18 (n i : Int) (t : ByteArray) (a b : Int) (w : World) : Calls Try.prog 9 #[vlV 18 n i t a b] w fun e w' => e = .returned (.bool (Vl.wf 18 n i t a b)) ∧ Below w.heap.size w w' := by
  have he := cset_eq a b
  unfold vlV
  go_enter Try.func9, Try.ntmps9
  go_wp2
  all_goals (go_ret; exact vl_bb (by first | rfl | (simp [Vl.wf, Vl.kndF, Vl.numF, Vl.idxF, Vl.txtF, Vl.setF, *]; done) | (simp [Vl.wf, Vl.kndF, Vl.numF, Vl.idxF, Vl.txtF, Vl.setF, *] <;> omega) | (rw [Bool.eq_iff_iff]; simp [Vl.wf, Vl.kndF, Vl.numF, Vl.idxF, Vl.txtF, Vl.setF, *] <;> omega)) (bl1 _ _))

set_option maxHeartbeats 800000 in
theorem swf_19 (n i : Int) (t : ByteArray) (a b : Int) (w : World) : Calls Try.prog 9 #[vlV 19 n i t a b] w fun e w' => e = .returned (.bool (Vl.wf 19 n i t a b)) ∧ Below w.heap.size w w' := by
  have he := cset_eq a b
  unfold vlV
  go_enter Try.func9, Try.ntmps9
  go_wp2
  all_goals (go_ret; exact vl_bb (by first | rfl | (simp [Vl.wf, Vl.kndF, Vl.numF, Vl.idxF, Vl.txtF, Vl.setF, *]; done) | (simp [Vl.wf, Vl.kndF, Vl.numF, Vl.idxF, Vl.txtF, Vl.setF, *] <;> omega) | (rw [Bool.eq_iff_iff]; simp [Vl.wf, Vl.kndF, Vl.numF, Vl.idxF, Vl.txtF, Vl.setF, *] <;> omega)) (bl1 _ _))

set_option maxHeartbeats 800000 in
theorem swf_20 (n i : Int) (t : ByteArray) (a b : Int) (w : World) : Calls Try.prog 9 #[vlV 20 n i t a b] w fun e w' => e = .returned (.bool (Vl.wf 20 n i t a b)) ∧ Below w.heap.size w w' := by
  have he := cset_eq a b
  unfold vlV
  go_enter Try.func9, Try.ntmps9
  go_wp2
  all_goals (go_ret; exact vl_bb (by first | rfl | (simp [Vl.wf, Vl.kndF, Vl.numF, Vl.idxF, Vl.txtF, Vl.setF, *]; done) | (simp [Vl.wf, Vl.kndF, Vl.numF, Vl.idxF, Vl.txtF, Vl.setF, *] <;> omega) | (rw [Bool.eq_iff_iff]; simp [Vl.wf, Vl.kndF, Vl.numF, Vl.idxF, Vl.txtF, Vl.setF, *] <;> omega)) (bl1 _ _))

theorem swf_lo (k : Int) (h : k < 0) (n i : Int) (t : ByteArray) (a b : Int) (w : World) : Calls Try.prog 9 #[vlV k n i t a b] w fun e w' => e = .returned (.bool false) ∧ Below w.heap.size w w' := by
  unfold vlV
  go_enter Try.func9, Try.ntmps9
  go_wp2
  go_ret
  exact ⟨rfl, bl1 _ _⟩
theorem swf_hi (k : Int) (h0 : ¬ k < 0) (h : 20 < k) (n i : Int) (t : ByteArray) (a b : Int) (w : World) : Calls Try.prog 9 #[vlV k n i t a b] w fun e w' => e = .returned (.bool false) ∧ Below w.heap.size w w' := by
  unfold vlV
  go_enter Try.func9, Try.ntmps9
  go_wp2
  go_ret
  exact ⟨rfl, bl1 _ _⟩
theorem spec_wf (k n i : Int) (t : ByteArray) (a b : Int) (w : World) : Calls Try.prog 9 #[vlV k n i t a b] w fun e w' => e = .returned (.bool (Vl.wf k n i t a b)) ∧ Below w.heap.size w w' := by
  by_cases h0 : k < 0
  · rw [show Vl.wf k n i t a b = false by unfold Vl.wf Vl.kndF; rw [decide_eq_false (p := 0 ≤ k) (by omega)]; rfl]
    exact swf_lo k h0 n i t a b w
  by_cases h1 : 20 < k
  · rw [show Vl.wf k n i t a b = false by unfold Vl.wf Vl.kndF; rw [decide_eq_false (p := k ≤ 20) (by omega), Bool.and_false]; rfl]
    exact swf_hi k h0 h1 n i t a b w
  rcases (show k = 0 ∨ k = 1 ∨ k = 2 ∨ k = 3 ∨ k = 4 ∨ k = 5 ∨ k = 6 ∨ k = 7 ∨ k = 8 ∨ k = 9 ∨ k = 10 ∨ k = 11 ∨ k = 12 ∨ k = 13 ∨ k = 14 ∨ k = 15 ∨ k = 16 ∨ k = 17 ∨ k = 18 ∨ k = 19 ∨ k = 20 by omega) with rfl | rfl | rfl | rfl | rfl | rfl | rfl | rfl | rfl | rfl | rfl | rfl | rfl | rfl | rfl | rfl | rfl | rfl | rfl | rfl | rfl
  · exact swf_0 n i t a b w
  · exact swf_1 n i t a b w
  · exact swf_2 n i t a b w
  · exact swf_3 n i t a b w
  · exact swf_4 n i t a b w
  · exact swf_5 n i t a b w
  · exact swf_6 n i t a b w
  · exact swf_7 n i t a b w
  · exact swf_8 n i t a b w
  · exact swf_9 n i t a b w
  · exact swf_10 n i t a b w
  · exact swf_11 n i t a b w
  · exact swf_12 n i t a b w
  · exact swf_13 n i t a b w
  · exact swf_14 n i t a b w
  · exact swf_15 n i t a b w
  · exact swf_16 n i t a b w
  · exact swf_17 n i t a b w
  · exact swf_18 n i t a b w
  · exact swf_19 n i t a b w
  · exact swf_20 n i t a b w

theorem impl_ref (k n i : Int) (t : ByteArray) (a b : Int) (w : World) : Calls Try.prog 13 #[vlV k n i t a b] w fun e w' => e = .returned (.bool (decide (13 ≤ k) && decide (k ≤ 18))) ∧ Below w.heap.size w w' := by
  unfold vlV
  by_cases h : 13 ≤ k
  · rw [decide_eq_true h, Bool.true_and]
    go_enter Try.func13, Try.ntmps13
    go_wp2
    go_ret
    exact ⟨rfl, bl1 _ _⟩
  · rw [decide_eq_false h, Bool.false_and]
    go_enter Try.func13, Try.ntmps13
    go_wp2
    go_ret
    exact ⟨rfl, bl1 _ _⟩

theorem spec_ref (k n i : Int) (t : ByteArray) (a b : Int) (w : World) : Calls Try.prog 12 #[vlV k n i t a b] w fun e w' => e = .returned (.bool (decide (13 ≤ k) && decide (k ≤ 18))) ∧ Below w.heap.size w w' := by
  unfold vlV
  by_cases h : 13 ≤ k
  · rw [decide_eq_true h, Bool.true_and]
    go_enter Try.func12, Try.ntmps12
    go_wp2
    go_ret
    exact ⟨rfl, bl1 _ _⟩
  · rw [decide_eq_false h, Bool.false_and]
    go_enter Try.func12, Try.ntmps12
    go_wp2
    go_ret
    exact ⟨rfl, bl1 _ _⟩

end Go.Proofs.Ytbadepiakkhabaa
