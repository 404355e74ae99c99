/- The program's FormatCore, the walk of its law. The tables read as the program's text lays them. -/
import Derived.Test.YtpncmahpcccmlaaDoorH6
import Derived.Test.YtpncmahpcccmlaaDoorA8
import Derived.Test.YtpncmahpcccmlaaDoorA11
namespace Go.Proofs.YtpncmahpcccmlaaDoor.Cr
open Go.RowKit
set_option linter.unusedVariables false

theorem node_labH {t : Co.T} (hok : t.Ok) (hb : t.bulk ≤ 1048576) {w : World} (hO : OpsAt w) (hC : CoreAt w) : LabH t w := by
  have hbe := bulk_eq t
  have hz : (t.text.size : Int) ≤ 1048576 := by omega
  cases t with
  | node k p n l s ks =>
    rw [Co.T.Ok] at hok
    exact ⟨hO, hC, hz, hok.2.1.1, hok.2.1.2, hok.2.2.1.1, hok.2.2.1.2⟩
theorem impl_write : ∀ (N : Nat) (t : Co.T), t.count ≤ N → t.Ok → t.bulk ≤ 1048576 → ∀ (w0 : World), OpsAt w0 → CoreAt w0 → WrT t w0 := by
  intro N
  induction N with
  | zero => intro t h; have := Co.count_pos t; omega
  | succ N ih =>
    intro t hN hok hb w0 hO hC
    have hbe := bulk_eq t
    have hoks := (Co.ok_node hok).2.2
    exact write_step t w0 (fun x hx => ih x (by have := kids_count hx; omega) (Co.oks_mem hoks hx) (by have := Co.bulks_mem hx; omega) w0 hO hC) (by omega) (node_labH hok hb hO hC)
theorem box_core {w : World} {t : Co.T} {v : Value} (hk : Kids w v t.kids) : TreeAt (w.alloc (.cells #[.int .i64 t.kind, .int .i64 t.op, .int .i64 t.num, .int .i64 t.line, .string t.text, v] 57)) w.heap.size 0 t := by
  obtain ⟨e0, e1, e2, e3, e4, e5⟩ := CellsE.new w t v 57
  exact tree_of ⟨e0, e1, e2, e3, e4⟩ e5 (hk.later (bl1 _ _))
theorem fresh_builder (w : World) : BIs w.heap.size w.heap.size [] (w.alloc (.cells #[.pointer none, .slice none 0 0] 120)) := by
  refine .inl ⟨Nat.le_refl _, .slice none 0 0, heap_alloc_new _ _, ⟨rfl, .inl ⟨rfl, rfl⟩⟩, fun e => by cases e⟩
set_option maxHeartbeats 1600000 in
theorem impl_format (t : Co.T) (hok : t.Ok) (hb : t.bulk ≤ 1048576) (w : World) (v : Value) (hk : Kids w v t.kids) (hO : OpsAt w) (hC : CoreAt w) : Calls Tryd.prog 26 #[exV t v] w (RetT w (str8 t.form)) := by
  unfold RetT
  obtain ⟨W1, hW1⟩ : ∃ W1, w.alloc (.cells #[.int .i64 t.kind, .int .i64 t.op, .int .i64 t.num, .int .i64 t.line, .string t.text, v] 57) = W1 := ⟨_, rfl⟩
  have hbx : Below w.heap.size w W1 := by rw [← hW1]; exact bl1 _ _
  have ht : TreeAt W1 w.heap.size 0 t := by rw [← hW1]; exact box_core hk
  have hz : W1.heap.size = w.heap.size + 1 := by rw [← hW1]; simp
  have hfl := Co.form_len _ t (Nat.le_refl _) hok
  have hcs : t.count ≤ 1048577 := by have := Co.count_bulk _ t (Nat.le_refl _); omega
  have HW := Lib.hid (impl_write _ t (Nat.le_refl _) hok hb W1 (hO.later hbx) (hC.later hbx) w.heap.size 0 W1.heap.size [] _ ht (fresh_builder W1) (bl1 _ _) (by simp; omega))
  rw [hz, List.nil_append] at HW
  have HST := Lib.hid (fun W (h : BIs (w.heap.size + 1) (w.heap.size + 1) t.form W) (h2 : w.heap.size + 1 ≤ W.heap.size) => Tryd.Builder_String_any (w.heap.size + 1) (w.heap.size + 1) t.form W h h2)
  have HBX := Lib.hid hbx
  subst hW1
  clear hbx ht hz hfl hcs hok hb hk hO hC
  go_enter Tryd.func26, Tryd.ntmps26
  go_wp2_with fail
  refine HW.out.mono ?_
  rintro e w2 ⟨rfl, i2, b2⟩
  have I2 := Lib.hid i2
  have B2 : Hid (Below w.heap.size w w2 ∧ w.heap.size + 1 ≤ w2.heap.size) := Lib.hid (by
    have b3 := b2
    have hs := b3.size
    exact ⟨HBX.out.trans (b2.mono (by simp)), by simpa using hs⟩)
  clear i2 b2 HW
  go_wp2_with fail
  refine (HST.out w2 I2.out B2.out.2).mono ?_
  rintro e w3 ⟨rfl, b3⟩
  have B3 := Lib.hid (B2.out.1.trans (b3.mono (Nat.le_succ _)))
  clear b3
  go_wp2
  go_ret
  exact ⟨rfl, B3.out⟩
set_option maxHeartbeats 1600000 in
theorem format_law (hI : ∀ (t : Co.T), t.Ok → t.bulk ≤ 1048576 → ∀ (w : World) (v : Value), Kids w v t.kids → OpsAt w → CoreAt w → Calls Tryd.prog 26 #[exV t v] w (RetT w (str8 t.form)))
    (t : Co.T) (v : Value) (hok : t.Ok) (w : World) (hk : Kids w v t.kids) (hO : OpsAt w) (hC : CoreAt w) : Calls Tryd.prog 7 #[exV t v] w fun e w' => e = .returned (.bool true) ∧ Below w.heap.size w w' := by
  have HSZ := Lib.hid (fun W hW => sz_tree _ t (Nat.le_refl _) hok W v 1048576 (hk.later hW) (by decide))
  by_cases hb : t.bulk ≤ 1048576
  · rw [szR_yes hb] at HSZ
    have hl0 : ((1048576 - t.bulk : Nat) : Int) < 0 → False := by omega
    have HTO := Lib.hid (fun W hW => to_tree _ t (Nat.le_refl _) hb W v (hk.later hW))
    unfold RetE at HTO
    have HEQ := Lib.hid (fun W v1 v2 h1 h2 => eq_tree _ t (Nat.le_refl _) hb W v1 v2 h1 h2)
    have HSP := Lib.hid (fun W v1 h1 => spec_format _ t (Nat.le_refl _) hok hb W v1 h1)
    have HIM := Lib.hid (fun W v1 h1 (hW : Below w.heap.size w W) => hI t hok hb W v1 h1 (hO.later hW) (hC.later hW))
    unfold RetT at HSP HIM
    generalize str8 t.form = y at HSP HIM
    have hl1 : decide (((1048576 - t.bulk : Nat) : Int) < 0) = false := decide_eq_false (by omega)
    generalize ((1048576 - t.bulk : Nat) : Int) = left at HSZ hl1
    obtain ⟨a, c, rfl⟩ := kids_len hk
    have HV0 := Lib.hid (CellsE.new w t (.slice a t.kids.length c) 52)
    clear hI hok hk hb hl0 hO hC
    go_enter Tryd.func7, Tryd.ntmps7
    go_wp2_with fail
    refine (HSZ.out _ (bl1 _ _)).mono ?_
    rintro e w1 ⟨rfl, b1⟩
    have B1 := Lib.hid (below_then (bl1 _ _) b1)
    have V1 := Lib.hid (HV0.out.later b1)
    obtain ⟨e0, e1, e2, e3, e4, e5⟩ := V1.out
    clear b1
    go_wp2_with fail
    refine (HTO.out _ B1.out).mono ?_
    rintro e w2 ⟨v2, F2, rfl, o2, f2, b2⟩
    obtain ⟨z2, d2, rfl⟩ := kids_len (OwnK.kids _ o2)
    have K2 := Lib.hid (OwnK.kids _ o2)
    have B2 := Lib.hid (below_then B1.out b2)
    have V2 := Lib.hid (V1.out.later b2)
    clear e0 e1 e2 e3 e4 e5 o2 f2 b2
    go_wp2_with fail
    refine (HSP.out _ _ K2.out).mono ?_
    rintro e w3 ⟨rfl, b3⟩
    have B3 := Lib.hid (below_then B2.out b3)
    have V3 := Lib.hid (V2.out.later b3)
    obtain ⟨e0, e1, e2, e3, e4, e5⟩ := V3.out
    clear b3 K2
    go_wp2_with fail
    refine (HTO.out _ B3.out).mono ?_
    rintro e w4 ⟨v4, F4, rfl, o4, f4, b4⟩
    obtain ⟨z4, d4, rfl⟩ := kids_len (OwnK.kids _ o4)
    have K4 := Lib.hid (Kids.later (OwnK.kids _ o4) (bl1 w4 (.cells #[.int .i64 t.kind, .int .i64 t.op, .int .i64 t.num, .int .i64 t.line, .string t.text, .slice z4 t.kids.length d4] 57)))
    have B4 := Lib.hid (below_then (below_then B3.out b4) (bl1 w4 (.cells #[.int .i64 t.kind, .int .i64 t.op, .int .i64 t.num, .int .i64 t.line, .string t.text, .slice z4 t.kids.length d4] 57)))
    have V4 := Lib.hid ((V3.out.later b4).later (bl1 w4 (.cells #[.int .i64 t.kind, .int .i64 t.op, .int .i64 t.num, .int .i64 t.line, .string t.text, .slice z4 t.kids.length d4] 57)))
    have X4 := Lib.hid (CellsE.new w4 t (.slice z4 t.kids.length d4) 57)
    clear e0 e1 e2 e3 e4 e5 o4 f4 b4
    go_wp2_with fail
    refine (HIM.out _ _ K4.out B4.out).mono ?_
    rintro e w5 ⟨rfl, b5⟩
    have B5 := Lib.hid (below_then B4.out b5)
    have V5 := Lib.hid (V4.out.later b5)
    have X5 := Lib.hid (X4.out.later b5)
    have K5 := Lib.hid (K4.out.later b5)
    obtain ⟨e0, e1, e2, e3, e4, e5⟩ := V5.out
    obtain ⟨x0, x1, x2, x3, x4, x5⟩ := X5.out
    clear b5 K4 V4 X4 V3 V2 V1
    go_wp2_with fail
    go_region_with (first | (go_at_call 25; refine (HTO.out _ B5.out.drew).mono ?_; rintro e w6 ⟨v6, F6, rfl, o6, f6, b6⟩; obtain ⟨z6, d6, rfl⟩ := kids_len (OwnK.kids _ o6); have K6 := Lib.hid (OwnK.kids _ o6); have B6 := Lib.hid (below_then B5.out.drew b6); have L6 := Lib.hid (K5.out.later (w' := w6) ⟨b6.os, b6.tape, b6.output, b6.size, b6.block⟩); obtain ⟨y0, y1, y2, y3, y4, y5⟩ := X5.out.later (w' := w6) ⟨b6.os, b6.tape, b6.output, b6.size, b6.block⟩; clear o6 f6 b6) | (go_at_call 27; refine (HEQ.out _ _ _ L6.out K6.out).mono ?_; rintro e w7 ⟨rfl, b7⟩; have B7 := Lib.hid (below_then B6.out b7); clear b7))
    all_goals go_wp2
    all_goals go_ret
    all_goals exact ⟨rfl, B7.out⟩
  · rw [szR_no hb] at HSZ
    clear hI hok hb hO hC
    obtain ⟨a, c, rfl⟩ := kids_len hk
    clear hk
    go_enter Tryd.func7, Tryd.ntmps7
    go_wp2_with fail
    refine (HSZ.out _ (bl1 _ _)).mono ?_
    rintro e w1 ⟨rfl, b1⟩
    have B1 := Lib.hid (below_then (bl1 _ _) b1)
    clear b1
    go_wp2
    go_ret
    exact ⟨rfl, B1.out⟩
end Go.Proofs.YtpncmahpcccmlaaDoor.Cr
namespace Go.Proofs.YtpncmahpcccmlaaDoor
open Go.RowKit
theorem FnExactFormatCore_walk (t : Co.T) (v : Value) (hok : t.Ok) (w : World) (hk : Cr.Kids w v t.kids) (h : Cr.CoreAt w ∧ OpsAt w) : Calls Tryd.prog 7 #[Cr.exV t v] w fun e w' => e = .returned (.bool true) ∧ Below w.heap.size w w' :=
  Cr.format_law Cr.impl_format t v hok w hk h.2 h.1
end Go.Proofs.YtpncmahpcccmlaaDoor
