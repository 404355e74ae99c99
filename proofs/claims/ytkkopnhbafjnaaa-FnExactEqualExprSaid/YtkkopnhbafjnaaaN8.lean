/- The walk of the law on EqualExpr: every pair of trees. No conditions. -/
import Derived.Test.YtkkopnhbafjnaaaN7
namespace Go.Proofs.Ytkkopnhbafjnaaa
open Go.RowKit
set_option linter.unusedVariables false

set_option maxHeartbeats 1600000 in
theorem equal_law2 (a b : Ex.T) (va vb : Value) (oka : a.Ok) (w : World) (hka : Kids w va a.kids) (hkb : Kids w vb b.kids) (ha : ¬ a.bulk ≤ 1048576) : Calls Try.prog 9 #[exV a va, exV b vb] w fun e w' => e = .returned (.bool true) ∧ Below w.heap.size w w' := by
  have HSA := Lib.hid (fun W hW => sz_tree _ a (Nat.le_refl _) oka W va 1048576 (hka.later hW) (by decide))
  rw [szR_no ha] at HSA
  obtain ⟨a1, c1, rfl⟩ := kids_len hka
  obtain ⟨a2, c2, rfl⟩ := kids_len hkb
  have HB0 := Lib.hid (bl2 w (lexO a (.slice a1 a.kids.length c1)) (lexO b (.slice a2 b.kids.length c2)))
  clear oka hka hkb ha
  go_enter Try.func9, Try.ntmps9
  go_wp2_with fail
  refine (HSA.out _ HB0.out).mono ?_
  rintro e w1 ⟨rfl, b1⟩
  have B1 := Lib.hid (below_then HB0.out b1)
  clear b1
  go_wp2
  go_ret
  exact ⟨rfl, B1.out⟩
set_option maxHeartbeats 1600000 in
theorem equal_law3 (a b : Ex.T) (va vb : Value) (oka : a.Ok) (okb : b.Ok) (w : World) (hka : Kids w va a.kids) (hkb : Kids w vb b.kids) (ha : a.bulk ≤ 1048576) (hb : ¬ b.bulk ≤ 1048576 - a.bulk) : Calls Try.prog 9 #[exV a va, exV b vb] w fun e w' => e = .returned (.bool true) ∧ Below w.heap.size w w' := by
  have HSA := Lib.hid (fun W hW => sz_tree _ a (Nat.le_refl _) oka W va 1048576 (hka.later hW) (by decide))
  have HSB := Lib.hid (fun W hW => sz_tree _ b (Nat.le_refl _) okb W vb (1048576 - a.bulk) (hkb.later hW) (by omega))
  rw [szR_yes ha] at HSA
  rw [szR_no hb] at HSB
  have l1 : decide (((1048576 - a.bulk : Nat) : Int) < 0) = false := decide_eq_false (by omega)
  generalize ((1048576 - a.bulk : Nat) : Int) = left1 at HSA HSB l1
  obtain ⟨a1, c1, rfl⟩ := kids_len hka
  obtain ⟨a2, c2, rfl⟩ := kids_len hkb
  have HB0 := Lib.hid (bl2 w (lexO a (.slice a1 a.kids.length c1)) (lexO b (.slice a2 b.kids.length c2)))
  have VB := CellsE.new (w.alloc (lexO a (.slice a1 a.kids.length c1))) b (.slice a2 b.kids.length c2) 36
  rw [World.size_alloc] at VB
  have VB := Lib.hid VB
  clear oka okb hka hkb ha hb
  go_enter Try.func9, Try.ntmps9
  go_wp2_with fail
  refine (HSA.out _ HB0.out).mono ?_
  rintro e w1 ⟨rfl, b1⟩
  have B1 := Lib.hid (below_then HB0.out b1)
  obtain ⟨e0, e1, e2, e3, e4⟩ := VB.out.later b1
  clear b1 VB HB0
  go_wp2_with fail
  refine (HSB.out _ B1.out).mono ?_
  rintro e w2 ⟨rfl, b2⟩
  have B2 := Lib.hid (below_then B1.out b2)
  clear b2 e0 e1 e2 e3 e4
  go_wp2
  go_ret
  exact ⟨rfl, B2.out⟩
theorem FnExactEqualExpr_walk (t0 : Ex.T) (v0 : Value) (ok0 : t0.Ok) (t1 : Ex.T) (v1 : Value) (ok1 : t1.Ok) (w : World) (hk0 : Kids w v0 t0.kids) (hk1 : Kids w v1 t1.kids) : Calls Try.prog 9 #[exV t0 v0, exV t1 v1] w fun e w' => e = .returned (.bool true) ∧ Below w.heap.size w w' := by
  by_cases ha : t0.bulk ≤ 1048576
  · by_cases hb : t1.bulk ≤ 1048576 - t0.bulk
    · exact equal_law1 t0 t1 v0 v1 ok0 ok1 w hk0 hk1 ha hb
    · exact equal_law3 t0 t1 v0 v1 ok0 ok1 w hk0 hk1 ha hb
  · exact equal_law2 t0 t1 v0 v1 ok0 w hk0 hk1 ha
end Go.Proofs.Ytkkopnhbafjnaaa
