/- The walks of the laws on numbers of nodes and depths, from contracts of the program's functions. No conditions. -/
import Derived.Test.YtpncmahpcccmlaaH6
import Derived.Test.YtpncmahpcccmlaaH7
namespace Go.Proofs.Ytpncmahpcccmlaa.Cr
open Go.RowKit
set_option linter.unusedVariables false

set_option maxHeartbeats 1600000 in
theorem count_law (hI : ∀ (t : Co.T), t.bulk ≤ 1048576 → ∀ (w : World) (v : Value), Kids w v t.kids → Calls Try.prog 7 #[exV t v] w fun e w' => e = .returned (.int .i64 (t.count : Int)) ∧ Below w.heap.size w w')
    (t : Co.T) (v : Value) (hok : t.Ok) (w : World) (hk : Kids w v t.kids) : Calls Try.prog 3 #[exV t v] w fun e w' => e = .returned (.bool true) ∧ Below w.heap.size w w' := by
  have HSZ := Lib.hid (fun W hW => sz_tree _ t (Nat.le_refl _) hok W v 1048576 (hk.later hW) (by decide))
  by_cases hb : t.bulk ≤ 1048576
  · rw [szR_yes hb] at HSZ
    have hl0 : ((1048576 - t.bulk : Nat) : Int) < 0 → False := by omega
    have HTO := Lib.hid (fun W hW => to_tree _ t (Nat.le_refl _) hb W v (hk.later hW))
    unfold RetE at HTO
    have HEQ := Lib.hid (fun W v1 v2 h1 h2 => eq_tree _ t (Nat.le_refl _) hb W v1 v2 h1 h2)
    have HSP := Lib.hid (fun W v1 h1 => spec_count _ t (Nat.le_refl _) hb W v1 h1)
    have HIM := Lib.hid (fun W v1 h1 => hI t hb W v1 h1)
    have hl1 : decide (((1048576 - t.bulk : Nat) : Int) < 0) = false := decide_eq_false (by omega)
    generalize ((1048576 - t.bulk : Nat) : Int) = left at HSZ hl1
    obtain ⟨a, c, rfl⟩ := kids_len hk
    have HV0 := Lib.hid (CellsE.new w t (.slice a t.kids.length c) 24)
    clear hI hok hk hb hl0
    go_enter Try.func3, Try.ntmps3
    go_wp2_with fail
    refine (HSZ.out _ (bl1 _ _)).mono ?_
    rintro e w1 ⟨rfl, b1⟩
    have B1 := Lib.hid (below_then (bl1 _ _) b1)
    have V1 := Lib.hid (HV0.out.later b1)
    obtain ⟨e0, e1, e2, e3, e4, e5⟩ := V1.out
    clear b1
    go_wp2_with fail
    refine (HTO.out _ B1.out).mono ?_
    rintro e w2 ⟨v2, F2, rfl, o2, f2, b2⟩
    obtain ⟨z2, d2, rfl⟩ := kids_len (OwnK.kids _ o2)
    have K2 := Lib.hid (OwnK.kids _ o2)
    have B2 := Lib.hid (below_then B1.out b2)
    have V2 := Lib.hid (V1.out.later b2)
    clear e0 e1 e2 e3 e4 e5 o2 f2 b2
    go_wp2_with fail
    refine (HSP.out _ _ K2.out).mono ?_
    rintro e w3 ⟨rfl, b3⟩
    have B3 := Lib.hid (below_then B2.out b3)
    have V3 := Lib.hid (V2.out.later b3)
    obtain ⟨e0, e1, e2, e3, e4, e5⟩ := V3.out
    clear b3 K2
    go_wp2_with fail
    refine (HTO.out _ B3.out).mono ?_
    rintro e w4 ⟨v4, F4, rfl, o4, f4, b4⟩
    obtain ⟨z4, d4, rfl⟩ := kids_len (OwnK.kids _ o4)
    have K4 := Lib.hid (Kids.later (OwnK.kids _ o4) (bl1 w4 (.cells #[.int .i64 t.kind, .int .i64 t.op, .int .i64 t.num, .int .i64 t.line, .string t.text, .slice z4 t.kids.length d4] 29)))
    have B4 := Lib.hid (below_then (below_then B3.out b4) (bl1 w4 (.cells #[.int .i64 t.kind, .int .i64 t.op, .int .i64 t.num, .int .i64 t.line, .string t.text, .slice z4 t.kids.length d4] 29)))
    have V4 := Lib.hid ((V3.out.later b4).later (bl1 w4 (.cells #[.int .i64 t.kind, .int .i64 t.op, .int .i64 t.num, .int .i64 t.line, .string t.text, .slice z4 t.kids.length d4] 29)))
    have X4 := Lib.hid (CellsE.new w4 t (.slice z4 t.kids.length d4) 29)
    clear e0 e1 e2 e3 e4 e5 o4 f4 b4
    go_wp2_with fail
    refine (HIM.out _ _ K4.out).mono ?_
    rintro e w5 ⟨rfl, b5⟩
    have B5 := Lib.hid (below_then B4.out b5)
    have V5 := Lib.hid (V4.out.later b5)
    have X5 := Lib.hid (X4.out.later b5)
    have K5 := Lib.hid (K4.out.later b5)
    obtain ⟨e0, e1, e2, e3, e4, e5⟩ := V5.out
    obtain ⟨x0, x1, x2, x3, x4, x5⟩ := X5.out
    clear b5 K4 V4 X4 V3 V2 V1
    go_wp2_with fail
    go_region_with (first | (go_at_call 6; refine (HTO.out _ B5.out.drew).mono ?_; rintro e w6 ⟨v6, F6, rfl, o6, f6, b6⟩; obtain ⟨z6, d6, rfl⟩ := kids_len (OwnK.kids _ o6); have K6 := Lib.hid (OwnK.kids _ o6); have B6 := Lib.hid (below_then B5.out.drew b6); have L6 := Lib.hid (K5.out.later (w' := w6) ⟨b6.os, b6.tape, b6.output, b6.size, b6.block⟩); obtain ⟨y0, y1, y2, y3, y4, y5⟩ := X5.out.later (w' := w6) ⟨b6.os, b6.tape, b6.output, b6.size, b6.block⟩; clear o6 f6 b6) | (go_at_call 8; refine (HEQ.out _ _ _ L6.out K6.out).mono ?_; rintro e w7 ⟨rfl, b7⟩; have B7 := Lib.hid (below_then B6.out b7); clear b7))
    all_goals go_wp2
    all_goals go_ret
    all_goals exact ⟨rfl, B7.out⟩
  · rw [szR_no hb] at HSZ
    clear hI hok hb
    obtain ⟨a, c, rfl⟩ := kids_len hk
    clear hk
    go_enter Try.func3, Try.ntmps3
    go_wp2_with fail
    refine (HSZ.out _ (bl1 _ _)).mono ?_
    rintro e w1 ⟨rfl, b1⟩
    have B1 := Lib.hid (below_then (bl1 _ _) b1)
    clear b1
    go_wp2
    go_ret
    exact ⟨rfl, B1.out⟩
end Go.Proofs.Ytpncmahpcccmlaa.Cr
