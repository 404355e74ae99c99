/- Joined texts: A30, A3, TB. No conditions besides those that each states. -/
import Derived.IntWalk
import Derived.Laws.Rows
import Derived.Test.YtbadepiakkhabaaDoorZ1
import Derived.Test.YtbadepiakkhabaaDoorZ6
import Derived.Test.YtbadepiakkhabaaDoorZ7
import Derived.Test.YtbadepiakkhabaaDoorZ8
/- The program: texts that are elements of a set, the surroundings of core nodes. No conditions. -/
namespace Go.Proofs.YtbadepiakkhabaaDoor.Cr
open Go.RowKit
set_option linter.unusedVariables false

theorem ret_vb2 {a b : Bool} (h : a = b) : Ending.returned (.bool a) = .returned (.bool b) := by rw [h]
set_option maxHeartbeats 800000 in
theorem impl_elems (s : ByteArray) (w : World) (hs : (s.size : Int) ≤ 1048576) : Calls Tryd.prog 129 #[.string s] w fun e w' => e = .returned (.bool (Co.elems s)) ∧ Below w.heap.size w w' := by
  have HC := Lib.hid (fun wr => impl_new s (by unfold maxLen; omega) wr)
  have HT := Lib.hid (fun wr => impl_text (Cs.newL s) (Cs.newH s) wr)
  unfold RetText at HT
  unfold Co.elems
  clear hs
  cases hg : Cs.good s
  · rw [hg] at HC
    rw [Bool.false_and]
    clear hg HT
    generalize Cs.newL s = x at HC
    generalize Cs.newH s = y at HC
    go_enter Tryd.func129, Tryd.ntmps129
    go_wp2_with fail
    refine (HC.out _).mono ?_
    rintro e w1 ⟨rfl, b1⟩
    have B1 := Lib.hid (below_then b1 (bl1 w1 (.cells #[.int .i64 x, .int .i64 y] 28)))
    clear b1
    go_wp2
    go_ret
    exact ⟨rfl, B1.out⟩
  · rw [hg] at HC
    rw [Bool.true_and]
    clear hg
    generalize Cs.newL s = x at HC HT ⊢
    generalize Cs.newH s = y at HC HT ⊢
    generalize txt (Cs.text x y) = z at HT ⊢
    go_enter Tryd.func129, Tryd.ntmps129
    go_wp2_with fail
    refine (HC.out _).mono ?_
    rintro e w1 ⟨rfl, b1⟩
    have B1 := Lib.hid (below_then b1 (bl1 w1 (.cells #[.int .i64 x, .int .i64 y] 28)))
    clear b1
    go_wp2_with fail
    refine (HT.out _).mono ?_
    rintro e w2 ⟨rfl, b2⟩
    have B2 := Lib.hid (below_then B1.out b2)
    clear b2
    go_wp2
    go_ret
    exact ⟨rfl, B2.out⟩

theorem admit_20 (loop made : Bool) (w : World) : Calls Tryd.prog 70 #[.agg #[.bool loop, .bool made], .int .i64 20] w fun e w' => e = .returned (.bool loop) ∧ Below w.heap.size w w' := by
  go_enter Tryd.func70, Tryd.ntmps70
  go_wp2
  go_ret
  exact ⟨rfl, bl1 _ _⟩
theorem admit_21 (loop made : Bool) (w : World) : Calls Tryd.prog 70 #[.agg #[.bool loop, .bool made], .int .i64 21] w fun e w' => e = .returned (.bool loop) ∧ Below w.heap.size w w' := by
  go_enter Tryd.func70, Tryd.ntmps70
  go_wp2
  go_ret
  exact ⟨rfl, bl1 _ _⟩
theorem admit_23 (loop made : Bool) (w : World) : Calls Tryd.prog 70 #[.agg #[.bool loop, .bool made], .int .i64 23] w fun e w' => e = .returned (.bool (!made)) ∧ Below w.heap.size w w' := by
  go_enter Tryd.func70, Tryd.ntmps70
  go_wp2
  go_ret
  exact ⟨rfl, bl1 _ _⟩
theorem admit_24 (loop made : Bool) (w : World) : Calls Tryd.prog 70 #[.agg #[.bool loop, .bool made], .int .i64 24] w fun e w' => e = .returned (.bool (!made)) ∧ Below w.heap.size w w' := by
  go_enter Tryd.func70, Tryd.ntmps70
  go_wp2
  go_ret
  exact ⟨rfl, bl1 _ _⟩
theorem admit_25 (loop made : Bool) (w : World) : Calls Tryd.prog 70 #[.agg #[.bool loop, .bool made], .int .i64 25] w fun e w' => e = .returned (.bool (!made)) ∧ Below w.heap.size w w' := by
  go_enter Tryd.func70, Tryd.ntmps70
  go_wp2
  go_ret
  exact ⟨rfl, bl1 _ _⟩
theorem admit_n (k : Int) (m20 : (k == 20) = false) (m21 : (k == 21) = false) (m23 : (k == 23) = false) (m24 : (k == 24) = false) (m25 : (k == 25) = false) (loop made : Bool) (w : World) : Calls Tryd.prog 70 #[.agg #[.bool loop, .bool made], .int .i64 k] w fun e w' => e = .returned (.bool true) ∧ Below w.heap.size w w' := by
  go_enter Tryd.func70, Tryd.ntmps70
  go_wp2
  go_ret
  exact ⟨rfl, bl1 _ _⟩
theorem impl_admit (k : Int) (loop made : Bool) (w : World) : Calls Tryd.prog 70 #[.agg #[.bool loop, .bool made], .int .i64 k] w fun e w' => e = .returned (.bool (Co.admit k loop made)) ∧ Below w.heap.size w w' := by
  by_cases h20 : k = 20
  · subst h20; exact admit_20 loop made w
  by_cases h21 : k = 21
  · subst h21; exact admit_21 loop made w
  by_cases h23 : k = 23
  · subst h23; exact admit_23 loop made w
  by_cases h24 : k = 24
  · subst h24; exact admit_24 loop made w
  by_cases h25 : k = 25
  · subst h25; exact admit_25 loop made w
  have e : Co.admit k loop made = true := by unfold Co.admit; rw [if_neg (by omega), if_neg (by omega)]
  rw [e]
  exact admit_n k (beq_eq_false_iff_ne.2 h20) (beq_eq_false_iff_ne.2 h21) (beq_eq_false_iff_ne.2 h23) (beq_eq_false_iff_ne.2 h24) (beq_eq_false_iff_ne.2 h25) loop made w
theorem below_two (w : World) (a b : Obj) : Below w.heap.size w ((w.alloc a).alloc b) := below_then (bl1 _ _) (bl1 _ _)
set_option maxHeartbeats 800000 in
theorem okid_18 (i : Nat) (loop made : Bool) (w : World) : Calls Tryd.prog 71 #[.agg #[.bool loop, .bool made], .int .i64 18, .int .i64 (i : Int)] w fun e w' => e = .returned (.agg #[.bool ((i : Int) == 1), .bool made]) ∧ Below w.heap.size w w' := by
  go_enter Tryd.func71, Tryd.ntmps71
  go_wp2
  exact bodyPost_ret (v := .agg #[.bool ((i : Int) == 1), .bool made]) (by simp [results, Tryd.results71, go_sem]) rfl ⟨rfl, by first | exact below_two w _ _ | (repeat' refine Below.setCell ?_ (by simp) _) <;> exact below_two w _ _⟩
set_option maxHeartbeats 800000 in
theorem okid_19 (i : Nat) (loop made : Bool) (w : World) : Calls Tryd.prog 71 #[.agg #[.bool loop, .bool made], .int .i64 19, .int .i64 (i : Int)] w fun e w' => e = .returned (.agg #[.bool ((i : Int) == 1), .bool made]) ∧ Below w.heap.size w w' := by
  go_enter Tryd.func71, Tryd.ntmps71
  go_wp2
  exact bodyPost_ret (v := .agg #[.bool ((i : Int) == 1), .bool made]) (by simp [results, Tryd.results71, go_sem]) rfl ⟨rfl, by first | exact below_two w _ _ | (repeat' refine Below.setCell ?_ (by simp) _) <;> exact below_two w _ _⟩
set_option maxHeartbeats 800000 in
theorem okid_20 (i : Nat) (loop made : Bool) (w : World) : Calls Tryd.prog 71 #[.agg #[.bool loop, .bool made], .int .i64 20, .int .i64 (i : Int)] w fun e w' => e = .returned (.agg #[.bool false, .bool made]) ∧ Below w.heap.size w w' := by
  go_enter Tryd.func71, Tryd.ntmps71
  go_wp2
  exact bodyPost_ret (v := .agg #[.bool false, .bool made]) (by simp [results, Tryd.results71, go_sem]) rfl ⟨rfl, by first | exact below_two w _ _ | (repeat' refine Below.setCell ?_ (by simp) _) <;> exact below_two w _ _⟩
set_option maxHeartbeats 800000 in
theorem okid_26 (i : Nat) (loop made : Bool) (w : World) : Calls Tryd.prog 71 #[.agg #[.bool loop, .bool made], .int .i64 26, .int .i64 (i : Int)] w fun e w' => e = .returned (.agg #[.bool false, .bool true]) ∧ Below w.heap.size w w' := by
  go_enter Tryd.func71, Tryd.ntmps71
  go_wp2
  exact bodyPost_ret (v := .agg #[.bool false, .bool true]) (by simp [results, Tryd.results71, go_sem]) rfl ⟨rfl, by first | exact below_two w _ _ | (repeat' refine Below.setCell ?_ (by simp) _) <;> exact below_two w _ _⟩
set_option maxHeartbeats 800000 in
theorem okid_n (k : Int) (m18 : (k == 18) = false) (m19 : (k == 19) = false) (m20 : (k == 20) = false) (m26 : (k == 26) = false) (i : Nat) (loop made : Bool) (w : World) : Calls Tryd.prog 71 #[.agg #[.bool loop, .bool made], .int .i64 k, .int .i64 (i : Int)] w fun e w' => e = .returned (.agg #[.bool loop, .bool made]) ∧ Below w.heap.size w w' := by
  go_enter Tryd.func71, Tryd.ntmps71
  go_wp2
  exact bodyPost_ret (v := .agg #[.bool loop, .bool made]) (by simp [results, Tryd.results71, go_sem]) rfl ⟨rfl, by first | exact below_two w _ _ | (repeat' refine Below.setCell ?_ (by simp) _) <;> exact below_two w _ _⟩
end Go.Proofs.YtbadepiakkhabaaDoor.Cr
/- OperatorText and OperatorArity of the reference model. No conditions. -/
namespace Go.Proofs.YtbadepiakkhabaaDoor
open Go.RowKit
set_option linter.unusedVariables false

theorem cell_list (w : World) (l : List ByteArray) (t : TypeId) (k : Nat) (x : ByteArray) (h : l[k]? = some x) : (w.alloc (.cells (l.map Value.string).toArray t)).cell? ⟨w.heap.size, k, none⟩ = some (.string x) := by
  rw [World.cell?_alloc_mark]
  simp [h]
theorem opU_at (k : Nat) (h : k < 11) : opU[k]? = opL[k + 1]? := by
  have e : opU = (opL.drop 1).take 11 := rfl
  rw [e, List.getElem?_take, if_pos h, List.getElem?_drop, Nat.add_comm]
theorem opB_at (k : Nat) (h : k < 44) : opB[k]? = opL[k + 20]? := by
  have e : opB = (opL.drop 20).take 44 := rfl
  rw [e, List.getElem?_take, if_pos h, List.getElem?_drop, Nat.add_comm]
theorem small_op {k : Nat} {x : ByteArray} (h : opB[k]? = some x) : x.size ≤ 5 := of_decide_eq_true (List.all_eq_true.1 (show (opB.all fun x => decide (x.size ≤ 5)) = true by rfl) x (List.mem_of_getElem? h))
theorem small_op2 {k : Nat} {x : ByteArray} (h : opL[k]? = some x) : x.size ≤ 5 := of_decide_eq_true (List.all_eq_true.1 (show (opL.all fun x => decide (x.size ≤ 5)) = true by rfl) x (List.mem_of_getElem? h))
theorem ret_st2 {a b : ByteArray} (h : a = b) : Ending.returned (.string a) = .returned (.string b) := by rw [h]
set_option maxRecDepth 100000 in
theorem spec_ops (w : World) : Calls Tryd.prog 138 #[] w fun e w' => e = .returned (.slice (some ⟨w.heap.size, 0, none⟩) 11 11) ∧ w.alloc (.cells (opU.map Value.string).toArray 9) = w' := by
  go_enter Tryd.func138, Tryd.ntmps138
  go_wp2
  go_ret
  exact ⟨rfl, rfl⟩
set_option maxRecDepth 100000 in
theorem spec_bin (w : World) : Calls Tryd.prog 139 #[] w fun e w' => e = .returned (.slice (some ⟨w.heap.size, 0, none⟩) 44 44) ∧ w.alloc (.cells (opB.map Value.string).toArray 9) = w' := by
  go_enter Tryd.func139, Tryd.ntmps139
  go_wp2
  go_ret
  exact ⟨rfl, rfl⟩
set_option maxRecDepth 100000 in
theorem spec_op_unary (n : Int) (h1 : 1 ≤ n) (h2 : n ≤ 11) (w : World) : Calls Tryd.prog 120 #[.int .i64 n] w fun e w' => e = .returned (.string (opT n)) ∧ Below w.heap.size w w' := by
  obtain ⟨k, hk⟩ : ∃ k : Nat, (k : Int) = n - 1 := ⟨(n - 1).toNat, by omega⟩
  have hk11 : k < 11 := by omega
  obtain ⟨x, hx⟩ : ∃ x, opU[k]? = some x := ⟨_, List.getElem?_eq_getElem (by show k < 11; exact hk11)⟩
  have HC := Lib.hid (cell_list w opU 9 k x hx)
  have HX : Hid (opT n = x) := Lib.hid (by
    rw [opU_at k hk11] at hx
    rw [show n = ((k + 1 : Nat) : Int) by omega]
    exact opT_at (aug_no (by omega)) hx)
  have HO := Lib.hid (fun W => spec_ops W)
  have hw : IntKind.i64.wrap (n - 1) = (k : Int) := by rw [IntKind.wrap_i64]; omega
  have k0 : (0 : Int) ≤ k := by omega
  have k1 : (k : Int) < 11 := by omega
  clear hx hk
  go_enter Tryd.func120, Tryd.ntmps120
  go_wp2_with fail
  refine (HO.out w).mono ?_
  rintro e w2 ⟨rfl, rfl⟩
  have hc := HC.out
  generalize hW : w.alloc (.cells (opU.map Value.string).toArray 9) = W at hc ⊢
  have HB : Hid (Below w.heap.size w W) := Lib.hid (by rw [← hW]; exact bl1 _ _)
  clear hW HC
  go_wp2
  go_ret
  exact ⟨ret_st2 HX.out.symm, HB.out⟩
set_option maxRecDepth 100000 in
theorem spec_op_binary (n : Int) (h1 : 20 ≤ n) (h2 : n < 64) (w : World) : Calls Tryd.prog 120 #[.int .i64 n] w fun e w' => e = .returned (.string (opT n)) ∧ Below w.heap.size w w' := by
  obtain ⟨k, hk⟩ : ∃ k : Nat, (k : Int) = n - 20 := ⟨(n - 20).toNat, by omega⟩
  have hk44 : k < 44 := by omega
  obtain ⟨x, hx⟩ : ∃ x, opB[k]? = some x := ⟨_, List.getElem?_eq_getElem (by show k < 44; exact hk44)⟩
  have HC := Lib.hid (cell_list w opB 9 k x hx)
  have HX : Hid (opT n = x) := Lib.hid (by
    rw [opB_at k hk44] at hx
    rw [show n = ((k + 20 : Nat) : Int) by omega]
    exact opT_at (aug_no (by omega)) hx)
  have HO := Lib.hid (fun W => spec_bin W)
  have hw : IntKind.i64.wrap (n - 20) = (k : Int) := by rw [IntKind.wrap_i64]; omega
  have k0 : (0 : Int) ≤ k := by omega
  have k1 : (k : Int) < 44 := by omega
  have g1 : 1 ≤ n := by omega
  have g2 : ¬ n ≤ 11 := by omega
  clear hx hk
  go_enter Tryd.func120, Tryd.ntmps120
  go_wp2_with fail
  refine (HO.out w).mono ?_
  rintro e w2 ⟨rfl, rfl⟩
  have hc := HC.out
  generalize hW : w.alloc (.cells (opB.map Value.string).toArray 9) = W at hc ⊢
  have HB : Hid (Below w.heap.size w W) := Lib.hid (by rw [← hW]; exact bl1 _ _)
  clear hW HC
  go_wp2
  go_ret
  exact ⟨ret_st2 HX.out.symm, HB.out⟩
theorem spec_op_70 (w : World) : Calls Tryd.prog 120 #[.int .i64 70] w fun e w' => e = .returned (.string (opT 70)) ∧ Below w.heap.size w w' := by
  have HX : Hid (opT 70 = _) := Lib.hid (opT_at (k := 70) (aug_no (by omega)) rfl)
  go_enter Tryd.func120, Tryd.ntmps120
  go_wp2
  go_ret
  exact ⟨ret_st2 HX.out.symm, Below.refl _ _⟩
theorem spec_op_71 (w : World) : Calls Tryd.prog 120 #[.int .i64 71] w fun e w' => e = .returned (.string (opT 71)) ∧ Below w.heap.size w w' := by
  have HX : Hid (opT 71 = _) := Lib.hid (opT_at (k := 71) (aug_no (by omega)) rfl)
  go_enter Tryd.func120, Tryd.ntmps120
  go_wp2
  go_ret
  exact ⟨ret_st2 HX.out.symm, Below.refl _ _⟩
theorem spec_op_72 (w : World) : Calls Tryd.prog 120 #[.int .i64 72] w fun e w' => e = .returned (.string (opT 72)) ∧ Below w.heap.size w w' := by
  have HX : Hid (opT 72 = _) := Lib.hid (opT_at (k := 72) (aug_no (by omega)) rfl)
  go_enter Tryd.func120, Tryd.ntmps120
  go_wp2
  go_ret
  exact ⟨ret_st2 HX.out.symm, Below.refl _ _⟩
theorem spec_op_73 (w : World) : Calls Tryd.prog 120 #[.int .i64 73] w fun e w' => e = .returned (.string (opT 73)) ∧ Below w.heap.size w w' := by
  have HX : Hid (opT 73 = _) := Lib.hid (opT_at (k := 73) (aug_no (by omega)) rfl)
  go_enter Tryd.func120, Tryd.ntmps120
  go_wp2
  go_ret
  exact ⟨ret_st2 HX.out.symm, Below.refl _ _⟩
theorem spec_op_74 (w : World) : Calls Tryd.prog 120 #[.int .i64 74] w fun e w' => e = .returned (.string (opT 74)) ∧ Below w.heap.size w w' := by
  have HX : Hid (opT 74 = _) := Lib.hid (opT_at (k := 74) (aug_no (by omega)) rfl)
  go_enter Tryd.func120, Tryd.ntmps120
  go_wp2
  go_ret
  exact ⟨ret_st2 HX.out.symm, Below.refl _ _⟩
theorem spec_op_75 (w : World) : Calls Tryd.prog 120 #[.int .i64 75] w fun e w' => e = .returned (.string (opT 75)) ∧ Below w.heap.size w w' := by
  have HX : Hid (opT 75 = _) := Lib.hid (opT_at (k := 75) (aug_no (by omega)) rfl)
  go_enter Tryd.func120, Tryd.ntmps120
  go_wp2
  go_ret
  exact ⟨ret_st2 HX.out.symm, Below.refl _ _⟩
theorem spec_op_76 (w : World) : Calls Tryd.prog 120 #[.int .i64 76] w fun e w' => e = .returned (.string (opT 76)) ∧ Below w.heap.size w w' := by
  have HX : Hid (opT 76 = _) := Lib.hid (opT_at (k := 76) (aug_no (by omega)) rfl)
  go_enter Tryd.func120, Tryd.ntmps120
  go_wp2
  go_ret
  exact ⟨ret_st2 HX.out.symm, Below.refl _ _⟩
theorem spec_op_77 (w : World) : Calls Tryd.prog 120 #[.int .i64 77] w fun e w' => e = .returned (.string (opT 77)) ∧ Below w.heap.size w w' := by
  have HX : Hid (opT 77 = _) := Lib.hid (opT_at (k := 77) (aug_no (by omega)) rfl)
  go_enter Tryd.func120, Tryd.ntmps120
  go_wp2
  go_ret
  exact ⟨ret_st2 HX.out.symm, Below.refl _ _⟩
theorem spec_op_78 (w : World) : Calls Tryd.prog 120 #[.int .i64 78] w fun e w' => e = .returned (.string (opT 78)) ∧ Below w.heap.size w w' := by
  have HX : Hid (opT 78 = _) := Lib.hid (opT_at (k := 78) (aug_no (by omega)) rfl)
  go_enter Tryd.func120, Tryd.ntmps120
  go_wp2
  go_ret
  exact ⟨ret_st2 HX.out.symm, Below.refl _ _⟩
theorem spec_op_79 (w : World) : Calls Tryd.prog 120 #[.int .i64 79] w fun e w' => e = .returned (.string (opT 79)) ∧ Below w.heap.size w w' := by
  have HX : Hid (opT 79 = _) := Lib.hid (opT_at (k := 79) (aug_no (by omega)) rfl)
  go_enter Tryd.func120, Tryd.ntmps120
  go_wp2
  go_ret
  exact ⟨ret_st2 HX.out.symm, Below.refl _ _⟩
theorem spec_op_81 (w : World) : Calls Tryd.prog 120 #[.int .i64 81] w fun e w' => e = .returned (.string (opT 81)) ∧ Below w.heap.size w w' := by
  have HX : Hid (opT 81 = _) := Lib.hid (opT_at (k := 81) (aug_no (by omega)) rfl)
  go_enter Tryd.func120, Tryd.ntmps120
  go_wp2
  go_ret
  exact ⟨ret_st2 HX.out.symm, Below.refl _ _⟩
set_option maxRecDepth 100000 in
theorem spec_op_aug1 (n : Int) (h1 : 220 ≤ n) (h2 : n ≤ 225) (w : World) : Calls Tryd.prog 120 #[.int .i64 n] w fun e w' => e = .returned (.string (opT n)) ∧ Below w.heap.size w w' := by
  obtain ⟨k, hk⟩ : ∃ k : Nat, (k : Int) = n - 220 := ⟨(n - 220).toNat, by omega⟩
  have hk44 : k < 44 := by omega
  obtain ⟨x, hx⟩ : ∃ x, opB[k]? = some x := ⟨_, List.getElem?_eq_getElem (by show k < 44; exact hk44)⟩
  have hxs : x.size ≤ 5 := small_op hx
  have HC := Lib.hid (cell_list w opB 9 k x hx)
  have HX : Hid (opT n = x ++ setB) := Lib.hid (by
    rw [opB_at k hk44] at hx
    have e : n = ((k + 20 : Nat) : Int) + 200 := by omega
    rw [e]
    exact opT_aug (aug_yes (by omega)) hx)
  have HO := Lib.hid (fun W => spec_bin W)
  have hw : IntKind.i64.wrap (n - 220) = (k : Int) := by rw [IntKind.wrap_i64]; omega
  have k0 : (0 : Int) ≤ k := by omega
  have k1 : (k : Int) < 44 := by omega
  have g1 : 1 ≤ n := by omega
  have g2 : ¬ n ≤ 11 := by omega
  have g3 : 20 ≤ n := by omega
  have g4 : ¬ n < 64 := by omega
  have e70 : ¬ n = 70 := by omega
  have e71 : ¬ n = 71 := by omega
  have e72 : ¬ n = 72 := by omega
  have e73 : ¬ n = 73 := by omega
  have e74 : ¬ n = 74 := by omega
  have e75 : ¬ n = 75 := by omega
  have e76 : ¬ n = 76 := by omega
  have e77 : ¬ n = 77 := by omega
  have e78 : ¬ n = 78 := by omega
  have e79 : ¬ n = 79 := by omega
  have e81 : ¬ n = 81 := by omega
  clear hx hk
  go_enter Tryd.func120, Tryd.ntmps120
  go_wp2_with fail
  refine (HO.out w).mono ?_
  rintro e w2 ⟨rfl, rfl⟩
  have hc := HC.out
  generalize hW : w.alloc (.cells (opB.map Value.string).toArray 9) = W at hc ⊢
  have HB : Hid (Below w.heap.size w W) := Lib.hid (by rw [← hW]; exact bl1 _ _)
  clear hW HC
  go_wp2
  go_ret
  exact ⟨ret_st2 HX.out.symm, HB.out⟩
set_option maxRecDepth 100000 in
theorem spec_op_aug2 (n : Int) (h1 : 250 ≤ n) (h2 : n ≤ 254) (w : World) : Calls Tryd.prog 120 #[.int .i64 n] w fun e w' => e = .returned (.string (opT n)) ∧ Below w.heap.size w w' := by
  obtain ⟨k, hk⟩ : ∃ k : Nat, (k : Int) = n - 220 := ⟨(n - 220).toNat, by omega⟩
  have hk44 : k < 44 := by omega
  obtain ⟨x, hx⟩ : ∃ x, opB[k]? = some x := ⟨_, List.getElem?_eq_getElem (by show k < 44; exact hk44)⟩
  have hxs : x.size ≤ 5 := small_op hx
  have HC := Lib.hid (cell_list w opB 9 k x hx)
  have HX : Hid (opT n = x ++ setB) := Lib.hid (by
    rw [opB_at k hk44] at hx
    have e : n = ((k + 20 : Nat) : Int) + 200 := by omega
    rw [e]
    exact opT_aug (aug_yes (by omega)) hx)
  have HO := Lib.hid (fun W => spec_bin W)
  have hw : IntKind.i64.wrap (n - 220) = (k : Int) := by rw [IntKind.wrap_i64]; omega
  have k0 : (0 : Int) ≤ k := by omega
  have k1 : (k : Int) < 44 := by omega
  have g1 : 1 ≤ n := by omega
  have g2 : ¬ n ≤ 11 := by omega
  have g3 : 20 ≤ n := by omega
  have g5 : 220 ≤ n := by omega
  have g6 : ¬ n ≤ 225 := by omega
  have g4 : ¬ n < 64 := by omega
  have e70 : ¬ n = 70 := by omega
  have e71 : ¬ n = 71 := by omega
  have e72 : ¬ n = 72 := by omega
  have e73 : ¬ n = 73 := by omega
  have e74 : ¬ n = 74 := by omega
  have e75 : ¬ n = 75 := by omega
  have e76 : ¬ n = 76 := by omega
  have e77 : ¬ n = 77 := by omega
  have e78 : ¬ n = 78 := by omega
  have e79 : ¬ n = 79 := by omega
  have e81 : ¬ n = 81 := by omega
  clear hx hk
  go_enter Tryd.func120, Tryd.ntmps120
  go_wp2_with fail
  refine (HO.out w).mono ?_
  rintro e w2 ⟨rfl, rfl⟩
  have hc := HC.out
  generalize hW : w.alloc (.cells (opB.map Value.string).toArray 9) = W at hc ⊢
  have HB : Hid (Below w.heap.size w W) := Lib.hid (by rw [← hW]; exact bl1 _ _)
  clear hW HC
  go_wp2
  go_ret
  exact ⟨ret_st2 HX.out.symm, HB.out⟩
theorem spec_op_n0 (n : Int) (h : n < 0) (w : World) : Calls Tryd.prog 120 #[.int .i64 n] w fun e w' => e = .returned (.string (opT n)) ∧ Below w.heap.size w w' := by
  have HX := Lib.hid (opT_neg h)
  have g1 : ¬ 1 ≤ n := by omega
  have g3 : ¬ 20 ≤ n := by omega
  have g5 : ¬ 220 ≤ n := by omega
  have g7 : ¬ 250 ≤ n := by omega
  have e70 : ¬ n = 70 := by omega
  have e71 : ¬ n = 71 := by omega
  have e72 : ¬ n = 72 := by omega
  have e73 : ¬ n = 73 := by omega
  have e74 : ¬ n = 74 := by omega
  have e75 : ¬ n = 75 := by omega
  have e76 : ¬ n = 76 := by omega
  have e77 : ¬ n = 77 := by omega
  have e78 : ¬ n = 78 := by omega
  have e79 : ¬ n = 79 := by omega
  have e81 : ¬ n = 81 := by omega
  go_enter Tryd.func120, Tryd.ntmps120
  go_wp2
  go_ret
  exact ⟨ret_st2 HX.out.symm, Below.refl _ _⟩
theorem spec_op_0 (w : World) : Calls Tryd.prog 120 #[.int .i64 0] w fun e w' => e = .returned (.string (opT 0)) ∧ Below w.heap.size w w' := by
  have HX : Hid (opT 0 = _) := Lib.hid (opT_at (k := 0) (aug_no (by omega)) rfl)
  go_enter Tryd.func120, Tryd.ntmps120
  go_wp2
  go_ret
  exact ⟨ret_st2 HX.out.symm, Below.refl _ _⟩
theorem spec_op_12 (w : World) : Calls Tryd.prog 120 #[.int .i64 12] w fun e w' => e = .returned (.string (opT 12)) ∧ Below w.heap.size w w' := by
  have HX : Hid (opT 12 = _) := Lib.hid (opT_at (k := 12) (aug_no (by omega)) rfl)
  go_enter Tryd.func120, Tryd.ntmps120
  go_wp2
  go_ret
  exact ⟨ret_st2 HX.out.symm, Below.refl _ _⟩
theorem spec_op_13 (w : World) : Calls Tryd.prog 120 #[.int .i64 13] w fun e w' => e = .returned (.string (opT 13)) ∧ Below w.heap.size w w' := by
  have HX : Hid (opT 13 = _) := Lib.hid (opT_at (k := 13) (aug_no (by omega)) rfl)
  go_enter Tryd.func120, Tryd.ntmps120
  go_wp2
  go_ret
  exact ⟨ret_st2 HX.out.symm, Below.refl _ _⟩
theorem spec_op_14 (w : World) : Calls Tryd.prog 120 #[.int .i64 14] w fun e w' => e = .returned (.string (opT 14)) ∧ Below w.heap.size w w' := by
  have HX : Hid (opT 14 = _) := Lib.hid (opT_at (k := 14) (aug_no (by omega)) rfl)
  go_enter Tryd.func120, Tryd.ntmps120
  go_wp2
  go_ret
  exact ⟨ret_st2 HX.out.symm, Below.refl _ _⟩
theorem spec_op_15 (w : World) : Calls Tryd.prog 120 #[.int .i64 15] w fun e w' => e = .returned (.string (opT 15)) ∧ Below w.heap.size w w' := by
  have HX : Hid (opT 15 = _) := Lib.hid (opT_at (k := 15) (aug_no (by omega)) rfl)
  go_enter Tryd.func120, Tryd.ntmps120
  go_wp2
  go_ret
  exact ⟨ret_st2 HX.out.symm, Below.refl _ _⟩
theorem spec_op_16 (w : World) : Calls Tryd.prog 120 #[.int .i64 16] w fun e w' => e = .returned (.string (opT 16)) ∧ Below w.heap.size w w' := by
  have HX : Hid (opT 16 = _) := Lib.hid (opT_at (k := 16) (aug_no (by omega)) rfl)
  go_enter Tryd.func120, Tryd.ntmps120
  go_wp2
  go_ret
  exact ⟨ret_st2 HX.out.symm, Below.refl _ _⟩
theorem spec_op_17 (w : World) : Calls Tryd.prog 120 #[.int .i64 17] w fun e w' => e = .returned (.string (opT 17)) ∧ Below w.heap.size w w' := by
  have HX : Hid (opT 17 = _) := Lib.hid (opT_at (k := 17) (aug_no (by omega)) rfl)
  go_enter Tryd.func120, Tryd.ntmps120
  go_wp2
  go_ret
  exact ⟨ret_st2 HX.out.symm, Below.refl _ _⟩
theorem spec_op_18 (w : World) : Calls Tryd.prog 120 #[.int .i64 18] w fun e w' => e = .returned (.string (opT 18)) ∧ Below w.heap.size w w' := by
  have HX : Hid (opT 18 = _) := Lib.hid (opT_at (k := 18) (aug_no (by omega)) rfl)
  go_enter Tryd.func120, Tryd.ntmps120
  go_wp2
  go_ret
  exact ⟨ret_st2 HX.out.symm, Below.refl _ _⟩
theorem spec_op_19 (w : World) : Calls Tryd.prog 120 #[.int .i64 19] w fun e w' => e = .returned (.string (opT 19)) ∧ Below w.heap.size w w' := by
  have HX : Hid (opT 19 = _) := Lib.hid (opT_at (k := 19) (aug_no (by omega)) rfl)
  go_enter Tryd.func120, Tryd.ntmps120
  go_wp2
  go_ret
  exact ⟨ret_st2 HX.out.symm, Below.refl _ _⟩
theorem spec_op_64 (w : World) : Calls Tryd.prog 120 #[.int .i64 64] w fun e w' => e = .returned (.string (opT 64)) ∧ Below w.heap.size w w' := by
  have HX : Hid (opT 64 = _) := Lib.hid (opT_at (k := 64) (aug_no (by omega)) rfl)
  go_enter Tryd.func120, Tryd.ntmps120
  go_wp2
  go_ret
  exact ⟨ret_st2 HX.out.symm, Below.refl _ _⟩
theorem spec_op_65 (w : World) : Calls Tryd.prog 120 #[.int .i64 65] w fun e w' => e = .returned (.string (opT 65)) ∧ Below w.heap.size w w' := by
  have HX : Hid (opT 65 = _) := Lib.hid (opT_at (k := 65) (aug_no (by omega)) rfl)
  go_enter Tryd.func120, Tryd.ntmps120
  go_wp2
  go_ret
  exact ⟨ret_st2 HX.out.symm, Below.refl _ _⟩
theorem spec_op_66 (w : World) : Calls Tryd.prog 120 #[.int .i64 66] w fun e w' => e = .returned (.string (opT 66)) ∧ Below w.heap.size w w' := by
  have HX : Hid (opT 66 = _) := Lib.hid (opT_at (k := 66) (aug_no (by omega)) rfl)
  go_enter Tryd.func120, Tryd.ntmps120
  go_wp2
  go_ret
  exact ⟨ret_st2 HX.out.symm, Below.refl _ _⟩
theorem spec_op_67 (w : World) : Calls Tryd.prog 120 #[.int .i64 67] w fun e w' => e = .returned (.string (opT 67)) ∧ Below w.heap.size w w' := by
  have HX : Hid (opT 67 = _) := Lib.hid (opT_at (k := 67) (aug_no (by omega)) rfl)
  go_enter Tryd.func120, Tryd.ntmps120
  go_wp2
  go_ret
  exact ⟨ret_st2 HX.out.symm, Below.refl _ _⟩
theorem spec_op_68 (w : World) : Calls Tryd.prog 120 #[.int .i64 68] w fun e w' => e = .returned (.string (opT 68)) ∧ Below w.heap.size w w' := by
  have HX : Hid (opT 68 = _) := Lib.hid (opT_at (k := 68) (aug_no (by omega)) rfl)
  go_enter Tryd.func120, Tryd.ntmps120
  go_wp2
  go_ret
  exact ⟨ret_st2 HX.out.symm, Below.refl _ _⟩
theorem spec_op_69 (w : World) : Calls Tryd.prog 120 #[.int .i64 69] w fun e w' => e = .returned (.string (opT 69)) ∧ Below w.heap.size w w' := by
  have HX : Hid (opT 69 = _) := Lib.hid (opT_at (k := 69) (aug_no (by omega)) rfl)
  go_enter Tryd.func120, Tryd.ntmps120
  go_wp2
  go_ret
  exact ⟨ret_st2 HX.out.symm, Below.refl _ _⟩
theorem spec_op_80 (w : World) : Calls Tryd.prog 120 #[.int .i64 80] w fun e w' => e = .returned (.string (opT 80)) ∧ Below w.heap.size w w' := by
  have HX : Hid (opT 80 = _) := Lib.hid (opT_at (k := 80) (aug_no (by omega)) rfl)
  go_enter Tryd.func120, Tryd.ntmps120
  go_wp2
  go_ret
  exact ⟨ret_st2 HX.out.symm, Below.refl _ _⟩
theorem spec_op_n1 (n : Int) (h : 82 ≤ n) (h2 : n < 220) (w : World) : Calls Tryd.prog 120 #[.int .i64 n] w fun e w' => e = .returned (.string (opT n)) ∧ Below w.heap.size w w' := by
  have HX := Lib.hid (opT_far h (aug_no (by omega)))
  have g1 : 1 ≤ n := by omega
  have g2 : ¬ n ≤ 11 := by omega
  have g3 : 20 ≤ n := by omega
  have g4 : ¬ n < 64 := by omega
  have e70 : ¬ n = 70 := by omega
  have e71 : ¬ n = 71 := by omega
  have e72 : ¬ n = 72 := by omega
  have e73 : ¬ n = 73 := by omega
  have e74 : ¬ n = 74 := by omega
  have e75 : ¬ n = 75 := by omega
  have e76 : ¬ n = 76 := by omega
  have e77 : ¬ n = 77 := by omega
  have e78 : ¬ n = 78 := by omega
  have e79 : ¬ n = 79 := by omega
  have e81 : ¬ n = 81 := by omega
  have g5 : ¬ 220 ≤ n := by omega
  have g7 : ¬ 250 ≤ n := by omega
  go_enter Tryd.func120, Tryd.ntmps120
  go_wp2
  go_ret
  exact ⟨ret_st2 HX.out.symm, Below.refl _ _⟩
theorem spec_op_n2 (n : Int) (h : 226 ≤ n) (h2 : n < 250) (w : World) : Calls Tryd.prog 120 #[.int .i64 n] w fun e w' => e = .returned (.string (opT n)) ∧ Below w.heap.size w w' := by
  have HX := Lib.hid (opT_far (n := n) (by omega) (aug_no (by omega)))
  have g1 : 1 ≤ n := by omega
  have g2 : ¬ n ≤ 11 := by omega
  have g3 : 20 ≤ n := by omega
  have g4 : ¬ n < 64 := by omega
  have e70 : ¬ n = 70 := by omega
  have e71 : ¬ n = 71 := by omega
  have e72 : ¬ n = 72 := by omega
  have e73 : ¬ n = 73 := by omega
  have e74 : ¬ n = 74 := by omega
  have e75 : ¬ n = 75 := by omega
  have e76 : ¬ n = 76 := by omega
  have e77 : ¬ n = 77 := by omega
  have e78 : ¬ n = 78 := by omega
  have e79 : ¬ n = 79 := by omega
  have e81 : ¬ n = 81 := by omega
  have g5 : 220 ≤ n := by omega
  have g6 : ¬ n ≤ 225 := by omega
  have g7 : ¬ 250 ≤ n := by omega
  go_enter Tryd.func120, Tryd.ntmps120
  go_wp2
  go_ret
  exact ⟨ret_st2 HX.out.symm, Below.refl _ _⟩
theorem spec_op_n3 (n : Int) (h : 255 ≤ n) (w : World) : Calls Tryd.prog 120 #[.int .i64 n] w fun e w' => e = .returned (.string (opT n)) ∧ Below w.heap.size w w' := by
  have HX := Lib.hid (opT_far (n := n) (by omega) (aug_no (by omega)))
  have g1 : 1 ≤ n := by omega
  have g2 : ¬ n ≤ 11 := by omega
  have g3 : 20 ≤ n := by omega
  have g4 : ¬ n < 64 := by omega
  have e70 : ¬ n = 70 := by omega
  have e71 : ¬ n = 71 := by omega
  have e72 : ¬ n = 72 := by omega
  have e73 : ¬ n = 73 := by omega
  have e74 : ¬ n = 74 := by omega
  have e75 : ¬ n = 75 := by omega
  have e76 : ¬ n = 76 := by omega
  have e77 : ¬ n = 77 := by omega
  have e78 : ¬ n = 78 := by omega
  have e79 : ¬ n = 79 := by omega
  have e81 : ¬ n = 81 := by omega
  have g5 : 220 ≤ n := by omega
  have g6 : ¬ n ≤ 225 := by omega
  have g7 : 250 ≤ n := by omega
  have g8 : ¬ n ≤ 254 := by omega
  go_enter Tryd.func120, Tryd.ntmps120
  go_wp2
  go_ret
  exact ⟨ret_st2 HX.out.symm, Below.refl _ _⟩
/-- The model's text of an operator. -/
theorem spec_opText (n : Int) (w : World) : Calls Tryd.prog 120 #[.int .i64 n] w fun e w' => e = .returned (.string (opT n)) ∧ Below w.heap.size w w' := by
  have hc : n < 0 ∨ (1 ≤ n ∧ n ≤ 11) ∨ (20 ≤ n ∧ n < 64) ∨ (82 ≤ n ∧ n < 220) ∨ (220 ≤ n ∧ n ≤ 225) ∨ (226 ≤ n ∧ n < 250) ∨ (250 ≤ n ∧ n ≤ 254) ∨ 255 ≤ n ∨ n = 0 ∨ n = 12 ∨ n = 13 ∨ n = 14 ∨ n = 15 ∨ n = 16 ∨ n = 17 ∨ n = 18 ∨ n = 19 ∨ n = 64 ∨ n = 65 ∨ n = 66 ∨ n = 67 ∨ n = 68 ∨ n = 69 ∨ n = 70 ∨ n = 71 ∨ n = 72 ∨ n = 73 ∨ n = 74 ∨ n = 75 ∨ n = 76 ∨ n = 77 ∨ n = 78 ∨ n = 79 ∨ n = 80 ∨ n = 81 := by omega
  rcases hc with h | h | h | h | h | h | h | h | rfl | rfl | rfl | rfl | rfl | rfl | rfl | rfl | rfl | rfl | rfl | rfl | rfl | rfl | rfl | rfl | rfl | rfl | rfl | rfl | rfl | rfl | rfl | rfl | rfl | rfl | rfl
  · exact spec_op_n0 n h w
  · exact spec_op_unary n h.1 h.2 w
  · exact spec_op_binary n h.1 h.2 w
  · exact spec_op_n1 n h.1 h.2 w
  · exact spec_op_aug1 n h.1 h.2 w
  · exact spec_op_n2 n h.1 h.2 w
  · exact spec_op_aug2 n h.1 h.2 w
  · exact spec_op_n3 n h w
  · exact spec_op_0 w
  · exact spec_op_12 w
  · exact spec_op_13 w
  · exact spec_op_14 w
  · exact spec_op_15 w
  · exact spec_op_16 w
  · exact spec_op_17 w
  · exact spec_op_18 w
  · exact spec_op_19 w
  · exact spec_op_64 w
  · exact spec_op_65 w
  · exact spec_op_66 w
  · exact spec_op_67 w
  · exact spec_op_68 w
  · exact spec_op_69 w
  · exact spec_op_70 w
  · exact spec_op_71 w
  · exact spec_op_72 w
  · exact spec_op_73 w
  · exact spec_op_74 w
  · exact spec_op_75 w
  · exact spec_op_76 w
  · exact spec_op_77 w
  · exact spec_op_78 w
  · exact spec_op_79 w
  · exact spec_op_80 w
  · exact spec_op_81 w
end Go.Proofs.YtbadepiakkhabaaDoor
/- A table of texts in memory. No conditions. -/
namespace Go.Proofs.YtbadepiakkhabaaDoor
open Go.RowKit
set_option linter.unusedVariables false

/-- A table of texts. -/
def TabAt (g : Nat) (l : List ByteArray) (W : World) : Prop := ∃ t fr, W.heap[g]? = some (.cells (l.map Value.string).toArray t fr)
theorem TabAt.lt {g : Nat} {l : List ByteArray} {W : World} (h : TabAt g l W) : g < W.heap.size := by
  obtain ⟨t, fr, h⟩ := h
  exact (Array.getElem?_eq_some_iff.1 h).1
theorem TabAt.keep {g : Nat} {l : List ByteArray} {W W' : World} (h : TabAt g l W) (hb : W'.heap[g]? = W.heap[g]?) : TabAt g l W' := by
  obtain ⟨t, fr, h⟩ := h
  exact ⟨t, fr, hb.trans h⟩
theorem TabAt.later {g : Nat} {l : List ByteArray} {W W' : World} (h : TabAt g l W) (hb : Below W.heap.size W W') : TabAt g l W' := h.keep (hb.block _ h.lt)
theorem TabAt.cell {g : Nat} {l : List ByteArray} {W : World} (h : TabAt g l W) {k : Nat} {x : ByteArray} (hk : l[k]? = some x) : W.cell? ⟨g, k, none⟩ = some (.string x) := by
  obtain ⟨t, fr, h⟩ := h
  rw [cell_of_row W _ k _ t fr h]
  simp [hk]
end Go.Proofs.YtbadepiakkhabaaDoor
