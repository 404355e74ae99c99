/- Joined texts: A43, A45, B1, G9, U10, H9, A44, TC, A6. No conditions besides those that each states. -/
import Derived.Deep.Fields
import Derived.Lib.SmallJoins
import Derived.Test.YtbadepiakkhabaaDoorRows
import Derived.LaidLaws
import Derived.MakeChecks
import Derived.OpenShut
import Derived.Test.YtbadepiakkhabaaDoorZ6
import Derived.Test.YtbadepiakkhabaaDoorZ7
import Derived.Test.YtbadepiakkhabaaDoorZ8
import Derived.Test.YtbadepiakkhabaaDoorZ9
import Derived.Test.YtbadepiakkhabaaDoorZ10
import Derived.Test.YtbadepiakkhabaaDoorZ19
import Derived.Test.YtbadepiakkhabaaDoorZ20
import Derived.Test.YtbadepiakkhabaaDoorZ24
import Derived.Test.YtbadepiakkhabaaDoorZ47
import Derived.Test.YtbadepiakkhabaaDoorZ48
/- The laws' comparison of routines and programs that are alike. No conditions. -/
namespace Go.Proofs.YtbadepiakkhabaaDoor
open Go.RowKit
set_option linter.unusedVariables false

set_option maxHeartbeats 3200000 in
theorem eq_ro (r : Ro) (hb : r.bulk ≤ 1048576) (w : World) (v1 v2 u1 u2 : Value) (h1 : Is w (strsD r.slots) v1) (h2 : Is w (.cor r.body.kids) v2) (g1 : Is w (strsD r.slots) u1) (g2 : Is w (.cor r.body.kids) u2) : Calls Tryd.prog 72 #[roV r v1 v2, roV r u1 u2] w fun e w' => e = .returned (.bool true) ∧ Below w.heap.size w w' := by
  have hbb := hb
  unfold Ro.bulk at hbb
  have HT1 := Lib.hid (fun W (hW : Below w.heap.size w W) => eq_strsD _ _ r.slots W (h1.later hW) (g1.later hW) (by unfold strsB at hbb; omega))
  have HT2 := Lib.hid (fun W (hW : Below w.heap.size w W) => Cr.eq_tree _ r.body (Nat.le_refl _) (by omega) W _ _ ((is_cor h2).later hW) ((is_cor g2).later hW))
  obtain ⟨a1, c1, rfl⟩ := is_slice h1
  obtain ⟨b1, d1, rfl⟩ := is_slice g1
  obtain ⟨a2, c2, rfl⟩ := Cr.kids_len (is_cor h2)
  obtain ⟨b2, d2, rfl⟩ := Cr.kids_len (is_cor g2)
  have X0 := Lib.hid (Vars2.start w #[.string r.name, .int .i64 r.params, .slice a1 r.slots.length c1, .int .i64 r.body.kind, .int .i64 r.body.op, .int .i64 r.body.num, .int .i64 r.body.line, .string r.body.text, .slice a2 r.body.kids.length c2] #[.string r.name, .int .i64 r.params, .slice b1 r.slots.length d1, .int .i64 r.body.kind, .int .i64 r.body.op, .int .i64 r.body.num, .int .i64 r.body.line, .string r.body.text, .slice b2 r.body.kids.length d2] 70 70)
  clear hbb hb h1 h2 g1 g2
  go_enter Tryd.func72, Tryd.ntmps72
  go_wp2_with fail
  refine (HT1.out _ X0.out.2).mono ?_
  rintro e w1 ⟨rfl, b⟩
  have X1 := Lib.hid (X0.out.later b)
  clear b 
  have p1_3 := (X1.out.1.1 3 _ rfl).1
  have q1_3 := (X1.out.1.2 3 _ rfl).1
  have p1_4 := (X1.out.1.1 4 _ rfl).1
  have q1_4 := (X1.out.1.2 4 _ rfl).1
  have p1_5 := (X1.out.1.1 5 _ rfl).1
  have q1_5 := (X1.out.1.2 5 _ rfl).1
  have p1_6 := (X1.out.1.1 6 _ rfl).1
  have q1_6 := (X1.out.1.2 6 _ rfl).1
  have p1_7 := (X1.out.1.1 7 _ rfl).1
  have q1_7 := (X1.out.1.2 7 _ rfl).1
  have p1_8 := (X1.out.1.1 8 _ rfl).1
  have q1_8 := (X1.out.1.2 8 _ rfl).1
  go_wp2_with fail
  refine (HT2.out _ X1.out.2).mono ?_
  rintro e w2 ⟨rfl, b⟩
  have X2 := Lib.hid (X1.out.later b)
  clear b p1_3 q1_3 p1_4 q1_4 p1_5 q1_5 p1_6 q1_6 p1_7 q1_7 p1_8 q1_8
  go_wp2
  go_ret
  exact ⟨rfl, X2.out.2⟩
set_option maxRecDepth 100000 in
set_option maxHeartbeats 3200000 in
theorem eq_ros (ks : List Ro) (hb : ∀ r ∈ ks, r.bulk ≤ 1048576) (hln : ks.length ≤ 1048576) (w : World) (v1 v2 : Value) (h1 : Is w (routsD ks) v1) (h2 : Is w (routsD ks) v2) : Calls Tryd.prog 37 #[v1, v2] w fun e w' => e = .returned (.bool true) ∧ Below w.heap.size w w' := by
  obtain ⟨a1, c1, rfl⟩ := is_slice h1
  obtain ⟨a2, c2, rfl⟩ := is_slice h2
  have H1 := Lib.hid h1
  have H2 := Lib.hid h2
  have HI := Lib.hid hb
  clear h1 h2 hb
  go_enter Tryd.func37, Tryd.ntmps37
  go_wp2
  go_loopw [5] (fun i wr => ∃ k : Nat, i = .int .i64 k ∧ k ≤ ks.length ∧ Below w.heap.size w wr) (fun i _ => ks.length - (intOf i).toNat)
  case atStart => exact ⟨0, rfl, Nat.zero_le _, Below.refl _ _⟩
  case round =>
    obtain ⟨k, rfl, hk, hb⟩ := hrel
    have HB := Lib.hid hb
    have HK1 := Lib.hid (H1.out.later hb)
    have HK2 := Lib.hid (H2.out.later hb)
    clear hb
    by_cases hlt : k < ks.length
    · obtain ⟨g1, o1, rfl, ⟨p0, p1, ⟨pv1, p2, pk1⟩, ⟨p3, p4, p5, p6, p7⟩, ⟨pv2, p8, pk2⟩⟩⟩ := rout_at HK1.out k hlt
      obtain ⟨g2, o2, rfl, ⟨q0, q1, ⟨qv1, q2, qk1⟩, ⟨q3, q4, q5, q6, q7⟩, ⟨qv2, q8, qk2⟩⟩⟩ := rout_at HK2.out k hlt
      have HC := Lib.hid (fun W (hW : Below wr.heap.size wr W) => eq_ro ks[k] (HI.out _ (List.getElem_mem hlt)) W pv1 pv2 qv1 qv2 (pk1.later hW) (by rw [Is]; exact Cr.Kids.later pk2 hW) (qk1.later hW) (by rw [Is]; exact Cr.Kids.later qk2 hW))
      obtain ⟨pa1, pc1, rfl⟩ := is_slice pk1
      obtain ⟨pa2, pc2, rfl⟩ := Cr.kids_len pk2
      obtain ⟨qa1, qc1, rfl⟩ := is_slice qk1
      obtain ⟨qa2, qc2, rfl⟩ := Cr.kids_len qk2
      have k0 : (0 : Int) ≤ k := by omega
      have k1 : (k : Int) < ks.length := by omega
      clear pk1 pk2 qk1 qk2
      generalize ks[k] = x at p0 p1 p2 p3 p4 p5 p6 p7 p8 q0 q1 q2 q3 q4 q5 q6 q7 q8 HC
      go_wp2_with fail
      go_still_tail 8, (by kernel_rfl)
      change wpList _ _ _ _ _ wr.drew
      have HC2 := Lib.hid (HC.out wr.drew ((Below.refl _ _).drew))
      have HB2 := Lib.hid HB.out.drew
      clear p0 p1 p2 p3 p4 p5 p6 p7 p8 q0 q1 q2 q3 q4 q5 q6 q7 q8 HK1 HK2 HB HC
      generalize wr.drew = w5 at HC2 HB2 ⊢
      go_wp2_with (go_at_call 72; refine HC2.out.mono ?_; rintro e w6 ⟨rfl, hb6⟩; have HB6 := Lib.hid (below_then HB2.out hb6); clear hb6)
      go_roundw
      case rel => exact ⟨k + 1, by go_num, by omega, HB6.out⟩
      case measure => first | (simp [intOf]; done) | (simp [intOf]; omega)
    · obtain rfl : k = ks.length := by omega
      go_wp2
      go_ret
      exact ⟨rfl, HB.out⟩
set_option maxHeartbeats 3200000 in
theorem eq_prog (r : Pg) (hb : r.bulk ≤ 1048576) (w : World) (v1 v2 v3 u1 u2 u3 : Value) (h1 : Is w (routsD r.routs) v1) (h2 : Is w (recsD r.recs) v2) (h3 : Is w (strsD r.globs) v3) (g1 : Is w (routsD r.routs) u1) (g2 : Is w (recsD r.recs) u2) (g3 : Is w (strsD r.globs) u3) : Calls Tryd.prog 14 #[pgV v1 v2 v3 r.main, pgV u1 u2 u3 r.main] w fun e w' => e = .returned (.bool true) ∧ Below w.heap.size w w' := by
  have hbb := hb
  unfold Pg.bulk routsB recsB strsB at hbb
  have HT1 := Lib.hid (fun W (hW : Below w.heap.size w W) => eq_ros r.routs (fun x hx => by have := wsum_mem Ro.bulk hx; omega) (by omega) W _ _ (h1.later hW) (g1.later hW))
  have HT2 := Lib.hid (fun W (hW : Below w.heap.size w W) => eq_recs r.recs (fun x hx => by have := wsum_mem Rc.bulk hx; omega) (by omega) W _ _ (h2.later hW) (g2.later hW))
  have HT3 := Lib.hid (fun W (hW : Below w.heap.size w W) => eq_strsD _ _ r.globs W (h3.later hW) (g3.later hW) (by omega))
  obtain ⟨a1, c1, rfl⟩ := is_slice h1
  obtain ⟨b1, d1, rfl⟩ := is_slice g1
  obtain ⟨a2, c2, rfl⟩ := is_slice h2
  obtain ⟨b2, d2, rfl⟩ := is_slice g2
  obtain ⟨a3, c3, rfl⟩ := is_slice h3
  obtain ⟨b3, d3, rfl⟩ := is_slice g3
  have X0 := Lib.hid (Vars2.start w #[.slice a1 r.routs.length c1, .slice a2 r.recs.length c2, .slice a3 r.globs.length c3, .int .i64 r.main] #[.slice b1 r.routs.length d1, .slice b2 r.recs.length d2, .slice b3 r.globs.length d3, .int .i64 r.main] 43 43)
  clear hbb hb h1 h2 h3 g1 g2 g3
  go_enter Tryd.func14, Tryd.ntmps14
  go_wp2_with fail
  refine (HT1.out _ X0.out.2).mono ?_
  rintro e w1 ⟨rfl, b⟩
  have X1 := Lib.hid (X0.out.later b)
  clear b 
  have p1_1 := (X1.out.1.1 1 _ rfl).1
  have q1_1 := (X1.out.1.2 1 _ rfl).1
  go_wp2_with fail
  refine (HT2.out _ X1.out.2).mono ?_
  rintro e w2 ⟨rfl, b⟩
  have X2 := Lib.hid (X1.out.later b)
  clear b p1_1 q1_1
  have p2_2 := (X2.out.1.1 2 _ rfl).1
  have q2_2 := (X2.out.1.2 2 _ rfl).1
  go_wp2_with fail
  refine (HT3.out _ X2.out.2).mono ?_
  rintro e w3 ⟨rfl, b⟩
  have X3 := Lib.hid (X2.out.later b)
  clear b p2_2 q2_2
  have p3_3 := (X3.out.1.1 3 _ rfl).1
  have q3_3 := (X3.out.1.2 3 _ rfl).1
  go_wp2
  go_ret
  exact ⟨rfl, X3.out.2⟩
end Go.Proofs.YtbadepiakkhabaaDoor
/- The law on IsValidProgram: its walk. The operators' table reads as the program's text lays it. -/
namespace Go.Proofs.YtbadepiakkhabaaDoor
open Go.RowKit
set_option linter.unusedVariables false

set_option maxHeartbeats 3200000 in
theorem FnExactIsValidProgram_walk (u : Pg) (v1 v2 v3 : Value) (hok : u.Ok) (w : World) (hk : PgIs w u v1 v2 v3) (hT : OpsAt w) : Calls Tryd.prog 4 #[pgV v1 v2 v3 u.main] w fun e w' => e = .returned (.bool true) ∧ Below w.heap.size w w' := by
  have HSZ := Lib.hid (fun W (hW : Below w.heap.size w W) => sz_prog u hok W v1 v2 v3 (hk.later hW))
  by_cases hb : u.bulk ≤ 1048576
  · rw [szR_yes hb] at HSZ
    have HTO := Lib.hid (fun W (hW : Below w.heap.size w W) => to_prog u hb W v1 v2 v3 (hk.later hW).1 (hk.later hW).2.1 (hk.later hW).2.2)
    unfold MadeG at HTO
    have HEQ := Lib.hid (fun W v1 v2 v3 u1 u2 u3 (h1 : PgIs W u v1 v2 v3) (h2 : PgIs W u u1 u2 u3) => eq_prog u hb W v1 v2 v3 u1 u2 u3 h1.1 h1.2.1 h1.2.2 h2.1 h2.2.1 h2.2.2)
    have HSP := Lib.hid (fun W v1 v2 v3 h1 => spec_validprog u hb W v1 v2 v3 h1)
    have HIM := Lib.hid (fun W v1 v2 v3 h1 (hW : Below w.heap.size w W) => impl_validprog u hok hb W v1 v2 v3 h1 (hT.later hW))
    generalize u.valid = z at HSP HIM
    have hl1 : decide (((1048576 - u.bulk : Nat) : Int) < 0) = false := decide_eq_false (by omega)
    generalize ((1048576 - u.bulk : Nat) : Int) = left at HSZ hl1
    obtain ⟨a1, c1, rfl⟩ := is_slice hk.1
    obtain ⟨a2, c2, rfl⟩ := is_slice hk.2.1
    obtain ⟨a3, c3, rfl⟩ := is_slice hk.2.2
    have HV0 := Lib.hid (Var.new w #[.slice a1 u.routs.length c1, .slice a2 u.recs.length c2, .slice a3 u.globs.length c3, .int .i64 u.main] 37)
    clear hok hk hb hT
    go_enter Tryd.func4, Tryd.ntmps4
    go_wp2_with fail
    refine (HSZ.out _ (bl1 _ _)).mono ?_
    rintro e w1 ⟨rfl, b1⟩
    have B1 := Lib.hid (below_then (bl1 _ _) b1)
    have V1 := Lib.hid (HV0.out.later b1)
    have e0 := (V1.out 0 _ rfl).1
    have e1 := (V1.out 1 _ rfl).1
    have e2 := (V1.out 2 _ rfl).1
    have e3 := (V1.out 3 _ rfl).1
    clear b1
    go_wp2_with fail
    refine (HTO.out _ B1.out).mono ?_
    rintro e w2 ⟨x1, x2, x3, F1, F2, F3, rfl, o2, _, b2⟩
    have K2 := Lib.hid o2.is
    obtain ⟨z1, d1, rfl⟩ := is_slice o2.is.1
    obtain ⟨z2, d2, rfl⟩ := is_slice o2.is.2.1
    obtain ⟨z3, d3, rfl⟩ := is_slice o2.is.2.2
    have B2 := Lib.hid (below_then B1.out b2)
    have V2 := Lib.hid (V1.out.later b2)
    clear e0 e1 e2 e3 o2 b2
    go_wp2_with fail
    refine (HSP.out _ _ _ _ K2.out).mono ?_
    rintro e w3 ⟨rfl, b3⟩
    have B3 := Lib.hid (below_then B2.out b3)
    have V3 := Lib.hid (V2.out.later b3)
    have e0 := (V3.out 0 _ rfl).1
    have e1 := (V3.out 1 _ rfl).1
    have e2 := (V3.out 2 _ rfl).1
    have e3 := (V3.out 3 _ rfl).1
    clear b3 K2
    go_wp2_with fail
    refine (HTO.out _ B3.out).mono ?_
    rintro e w4 ⟨x1, x2, x3, F1, F2, F3, rfl, o4, _, b4⟩
    have K4' := o4.is
    obtain ⟨y1, g1, rfl⟩ := is_slice o4.is.1
    obtain ⟨y2, g2, rfl⟩ := is_slice o4.is.2.1
    obtain ⟨y3, g3, rfl⟩ := is_slice o4.is.2.2
    have n4 := bl1 w4 (.cells #[.slice y1 u.routs.length g1, .slice y2 u.recs.length g2, .slice y3 u.globs.length g3, .int .i64 u.main] 43)
    have K4 := Lib.hid (K4'.later n4)
    have B4 := Lib.hid (below_then (below_then B3.out b4) n4)
    have V4 := Lib.hid ((V3.out.later b4).later n4)
    have X4 := Lib.hid (Var.new w4 #[.slice y1 u.routs.length g1, .slice y2 u.recs.length g2, .slice y3 u.globs.length g3, .int .i64 u.main] 43)
    clear e0 e1 e2 e3 o4 b4 n4 K4'
    go_wp2_with fail
    refine (HIM.out _ _ _ _ K4.out B4.out).mono ?_
    rintro e w5 ⟨rfl, b5⟩
    have B5 := Lib.hid (below_then B4.out b5)
    have V5 := Lib.hid (V4.out.later b5)
    have X5 := Lib.hid (X4.out.later b5)
    have K5 := Lib.hid (K4.out.later b5)
    have e0 := (V5.out 0 _ rfl).1
    have e1 := (V5.out 1 _ rfl).1
    have e2 := (V5.out 2 _ rfl).1
    have e3 := (V5.out 3 _ rfl).1
    have f0 := (X5.out 0 _ rfl).1
    have f1 := (X5.out 1 _ rfl).1
    have f2 := (X5.out 2 _ rfl).1
    have f3 := (X5.out 3 _ rfl).1
    clear b5 K4 V4 X4 V3 V2 V1
    go_wp2_with fail
    go_region_with (first | (go_at_call 12; refine (HTO.out _ B5.out.drew).mono ?_; rintro e w6 ⟨x1, x2, x3, F1, F2, F3, rfl, o6, _, b6⟩; have K6 := Lib.hid o6.is; obtain ⟨m1, n1, rfl⟩ := is_slice o6.is.1; obtain ⟨m2, n2, rfl⟩ := is_slice o6.is.2.1; obtain ⟨m3, n3, rfl⟩ := is_slice o6.is.2.2; have B6 := Lib.hid (below_then B5.out.drew b6); have bb6 : Below w5.heap.size w5 w6 := ⟨b6.os, b6.tape, b6.output, b6.size, b6.block⟩; have L6 := Lib.hid (K5.out.later bb6); have p0 := (X5.out.later bb6 0 _ rfl).1; have p1 := (X5.out.later bb6 1 _ rfl).1; have p2 := (X5.out.later bb6 2 _ rfl).1; have p3 := (X5.out.later bb6 3 _ rfl).1; clear o6 b6 bb6) | (go_at_call 14; refine (HEQ.out _ _ _ _ _ _ _ L6.out K6.out).mono ?_; rintro e w7 ⟨rfl, b7⟩; have B7 := Lib.hid (below_then B6.out b7); clear b7))
    all_goals go_wp2
    all_goals go_ret
    all_goals exact ⟨rfl, B7.out⟩
  · rw [szR_no hb] at HSZ
    clear hok hb hT
    obtain ⟨a1, c1, rfl⟩ := is_slice hk.1
    obtain ⟨a2, c2, rfl⟩ := is_slice hk.2.1
    obtain ⟨a3, c3, rfl⟩ := is_slice hk.2.2
    clear hk
    go_enter Tryd.func4, Tryd.ntmps4
    go_wp2_with fail
    refine (HSZ.out _ (bl1 _ _)).mono ?_
    rintro e w1 ⟨rfl, b1⟩
    have B1 := Lib.hid (below_then (bl1 _ _) b1)
    clear b1
    go_wp2
    go_ret
    exact ⟨rfl, B1.out⟩
end Go.Proofs.YtbadepiakkhabaaDoor
/- The cells of a struct that came in, field by field. No conditions. -/
namespace Go.Proofs.YtbadepiakkhabaaDoor
open Go.RowKit Go.Joins
set_option linter.unusedVariables false

theorem cells_at {H : Type} {enc : TypeId × Value → H} {W : World} {base n : Nat} {spare : Nat → Bool} {held : Bool} {fs : Array Field} {cs : List Value} {xs : List (DataW H × List MemPlace)} (hlen : xs.length = fs.size)
    (hf : ∀ (i : Nat) (f : Field), fs[i]? = some f → DataW.trod enc Tryd.prog W base spare held n f.type ((cs.drop f.offset).take (Tryd.prog.cellsOf f.type)) = xs[i]?) (i : Nat) (f : Field) (hfi : fs[i]? = some f) : ∃ y, DataW.trod enc Tryd.prog W base spare held n f.type ((cs.drop f.offset).take (Tryd.prog.cellsOf f.type)) = some y := by
  have h := hf i f hfi
  rw [List.getElem?_eq_getElem (by rw [hlen]; exact (Array.getElem?_eq_some_iff.1 hfi).1)] at h
  exact ⟨_, h⟩
end Go.Proofs.YtbadepiakkhabaaDoor
/- A tree that came in. No conditions. -/
namespace Go.Proofs.YtbadepiakkhabaaDoor
open Go.RowKit Go.Joins
open Go.Deep (hone_of choose_lt oneCellFields)
set_option linter.unusedVariables false

theorem one_cell {H : Type} {enc : TypeId × Value → H} {W : World} {base n : Nat} {spare : Nat → Bool} {held : Bool} {fs : Array Field} (hone : oneCellFields Tryd.prog fs = true) {cs : List Value} (hl : cs.length = 5) {xs : List (DataW H × List MemPlace)} (hlen : xs.length = fs.size)
    (hf : ∀ (i : Nat) (f : Field), fs[i]? = some f → DataW.trod enc Tryd.prog W base spare held n f.type ((cs.drop f.offset).take (Tryd.prog.cellsOf f.type)) = xs[i]?) (i : Nat) (hi : i < 5) (f : Field) (hfi : fs[i]? = some f) : ∃ y, DataW.trod enc Tryd.prog W base spare held n f.type [cs[i]] = some y := by
  obtain ⟨o, k⟩ := hone_of hone i f hfi
  have h := hf i f hfi
  rw [o, k] at h
  have hx : i < xs.length := by rw [hlen]; exact (Array.getElem?_eq_some_iff.1 hfi).1
  rw [List.getElem?_eq_getElem hx, List.drop_eq_getElem_cons (by omega)] at h
  exact ⟨_, h⟩
theorem addr_add (g o i : Nat) : (⟨g, o, none⟩ : Addr).add i = ⟨g, o + i, none⟩ := by
  unfold Addr.add; split <;> simp_all
theorem list5 {α : Type} {l : List α} (h : l.length = 5) : ∃ a b c d e, l = [a, b, c, d, e] := by
  match l, h with
  | [a, b, c, d, e], _ => exact ⟨a, b, c, d, e, rfl⟩
theorem wf_int {n : Int} (h : (Lit.int .i64 n).wf = true) : -9223372036854775808 ≤ n ∧ n ≤ 9223372036854775807 := by
  simpa [Lit.wf, IntKind.min, IntKind.max, IntKind.signed, IntKind.bits] using h
instance : Inhabited Ex.T := ⟨.node 0 ByteArray.empty 0 0 []⟩
theorem oks_of : ∀ {l : List Ex.T}, (∀ x ∈ l, x.Ok) → Ex.Oks l := by
  intro l
  induction l with
  | nil => intro _; rw [Ex.Oks]; trivial
  | cons x r ih => intro h; rw [Ex.Oks]; exact ⟨h x List.mem_cons_self, ih fun y hy => h y (List.mem_cons_of_mem _ hy)⟩
end Go.Proofs.YtbadepiakkhabaaDoor
/- A unit that came in. No conditions. -/
namespace Go.Proofs.YtbadepiakkhabaaDoor
open Go.RowKit Go.Joins
open Go.Deep (choose_lt oneCellFields)
set_option linter.unusedVariables false

theorem is_of_kids {w : World} {ks : List Ex.T} {v : Value} (h : Kids w v ks) : Is w (.ex ks) v := by rw [Is]; exact h
/-- Cells that read as data, one after the other. -/
def IsV (W : World) (ds : List D) (cs : List Value) : Prop := ∀ (j : Nat) (d : D), ds[j]? = some d → ∃ u : Value, cs[j]? = some u ∧ Is W d u
/-- A slice of structs that came in, by its elements. -/
theorem open_rows {H : Type} {enc : TypeId × Value → H} {W : World} {spare : Nat → Bool} {held : Bool} {α : Type} [Inhabited α] (f : α → List D) (P : α → Prop) {z : Nat} (hz : ∀ x, (f x).length = z) (hz0 : 0 < z) {S E : TypeId} (hS : Tryd.prog.underlying S = some (.slice E)) (hE : Tryd.prog.cellsOf E = z)
    (he : ∀ (fuel : Nat) (cs : List Value) (x : DataW H × List MemPlace), DataW.trod enc Tryd.prog W 0 spare held fuel E cs = some x → ∃ a : α, P a ∧ IsV W (f a) cs) (fuel : Nat) (v : Value) (x : DataW H × List MemPlace) (h : DataW.trod enc Tryd.prog W 0 spare held fuel S [v] = some x) :
    ∃ l : List α, (∀ a ∈ l, P a) ∧ l.length ≤ maxLen ∧ Is W (.row l.length (l.flatMap f)) v := by
  rcases DataW.trod_slice hS h with ⟨e4, _⟩ | ⟨a, len, cap, elems, rest, n2, hn, e4, _, _, hlc, hcm, hel, hget, _, _⟩
  · simp only [List.cons.injEq, and_true] at e4
    subst e4
    exact ⟨[], (fun a h => by cases h), by simp, by rw [List.flatMap_nil, Is]; exact ⟨_, _, rfl, .inl rfl⟩⟩
  · simp only [List.cons.injEq, and_true] at e4
    subst e4
    rw [hE] at hget
    have hex : ∀ i, i < len → ∃ t : α, P t ∧ ∀ j d, (f t)[j]? = some d → ∃ u, W.cell? ((a.add (i * z)).add j) = some u ∧ Is W d u := by
      intro i hi
      have hg := hget i hi
      rw [List.getElem?_eq_getElem (by omega)] at hg
      obtain ⟨cs', hc, ht⟩ := Option.bind_eq_some_iff.1 hg
      obtain ⟨_, hcl, hcc⟩ := World.cells?_some hc
      obtain ⟨t, hP, hd⟩ := he _ _ _ ht
      refine ⟨t, hP, fun j d hj => ?_⟩
      obtain ⟨u, hu, hI⟩ := hd j d hj
      have hlt : j < cs'.length := (List.getElem?_eq_some_iff.1 hu).1
      exact ⟨u, (hcc j (by omega)).trans hu, hI⟩
    obtain ⟨T, hT⟩ := choose_lt hex
    refine ⟨(List.range len).map T, fun x hx => ?_, by simp; omega, ?_⟩
    · obtain ⟨i, hi, rfl⟩ := List.mem_map.1 hx
      exact (hT i (List.mem_range.1 hi)).1
    · rw [List.length_map, List.length_range, Is]
      refine ⟨_, _, rfl, ?_⟩
      by_cases h0 : len = 0
      · subst h0; exact .inl rfl
      · refine .inr ⟨by omega, ?_⟩
        obtain ⟨b, o, sp⟩ := a
        have hsp : sp = none := by
          obtain ⟨u, hu, _⟩ := (hT 0 (by omega)).2 0 _ (List.getElem?_eq_getElem (by rw [hz]; exact hz0))
          have := World.cell?_spot hu
          simpa [Addr.add] using this
        subst hsp
        refine ⟨b, o, rfl, isAll_of fun p d hp => ?_⟩
        have hlen : (((List.range len).map T).flatMap f).length = len * z := by rw [flat_len f hz, List.length_map, List.length_range]
        have hpl : p < len * z := by rw [← hlen]; exact (List.getElem?_eq_some_iff.1 hp).1
        have hdiv : p / z < len := Nat.div_lt_of_lt_mul (by rw [Nat.mul_comm]; exact hpl)
        have he2 : p = p / z * z + p % z := by rw [Nat.mul_comm]; exact (Nat.div_add_mod p z).symm
        have h1 := flat_at f hz ((List.range len).map T) (p / z) (p % z) (T (p / z)) (by rw [List.getElem?_map, List.getElem?_range hdiv]; rfl) (Nat.mod_lt _ hz0)
        rw [← he2, hp] at h1
        obtain ⟨u, hu, hI⟩ := (hT (p / z) hdiv).2 (p % z) d h1.symm
        rw [addr_add, addr_add, Nat.add_assoc, ← he2] at hu
        exact ⟨u, hu, hI⟩
theorem open_str1 {H : Type} {enc : TypeId × Value → H} {W : World} {spare : Nat → Bool} {held : Bool} (fuel : Nat) (cs : List Value) (x : DataW H × List MemPlace) (h : DataW.trod enc Tryd.prog W 0 spare held fuel 9 cs = some x) : ∃ s : ByteArray, s.size ≤ 9223372036854775807 ∧ IsV W [.str s] cs := by
  obtain ⟨s, rfl, _, w1⟩ := DataW.trod_string Tryd.underlying9 h
  refine ⟨s, by unfold maxLen at w1; omega, fun j d hj => ?_⟩
  match j with
  | 0 => obtain rfl := Option.some.inj hj; exact ⟨_, rfl, by rw [Is]⟩
  | j + 1 => simp at hj
theorem flat_str (l : List ByteArray) : (l.flatMap fun s => [D.str s]) = l.map D.str := by
  induction l with
  | nil => rfl
  | cons s r ih => rw [List.flatMap_cons, ih]; rfl
theorem open_strs {H : Type} {enc : TypeId × Value → H} {W : World} {spare : Nat → Bool} {held : Bool} (fuel : Nat) (v : Value) (x : DataW H × List MemPlace) (h : DataW.trod enc Tryd.prog W 0 spare held fuel 35 [v] = some x) : ∃ l : List ByteArray, StrsOk l ∧ Is W (strsD l) v := by
  obtain ⟨l, h1, h2, h3⟩ := open_rows (fun s => [D.str s]) (fun s : ByteArray => s.size ≤ 9223372036854775807) (fun _ => rfl) (by decide) Tryd.underlying35 (by kernel_rfl) open_str1 fuel v x h
  rw [flat_str] at h3
  exact ⟨l, ⟨by unfold maxLen at h2; omega, h1⟩, h3⟩
instance : Inhabited Rc := ⟨⟨ByteArray.empty, [], 0⟩⟩
instance : Inhabited Pc := ⟨⟨ByteArray.empty, [], [], default, 0⟩⟩
theorem list3 {α : Type} {l : List α} (h : l.length = 3) : ∃ a b c, l = [a, b, c] := by
  match l, h with
  | [a, b, c], _ => exact ⟨a, b, c, rfl⟩
theorem list9 {α : Type} {l : List α} (h : l.length = 9) : ∃ a b c d e f g i j, l = [a, b, c, d, e, f, g, i, j] := by
  match l, h with
  | [a, b, c, d, e, f, g, i, j], _ => exact ⟨a, b, c, d, e, f, g, i, j, rfl⟩
theorem open_rec {H : Type} {enc : TypeId × Value → H} {W : World} {spare : Nat → Bool} {held : Bool} (fuel : Nat) (cs : List Value) (x : DataW H × List MemPlace) (h : DataW.trod enc Tryd.prog W 0 spare held fuel 123 cs = some x) : ∃ r : Rc, r.Ok ∧ IsV W r.ds cs := by
  obtain ⟨xs, n, rfl, _, hl, hlen, hf⟩ := DataW.trod_struct Tryd.underlying123 h
  rw [show Tryd.prog.cellsOf 123 = 3 by kernel_rfl] at hl
  have hone := cells_at (H := H) hlen hf
  obtain ⟨c0, c1, c2, rfl⟩ := list3 hl
  obtain ⟨y0, h0⟩ := hone 0 _ rfl
  obtain ⟨y1, h1⟩ := hone 1 _ rfl
  obtain ⟨y2, h2⟩ := hone 2 _ rfl
  clear hone hf hlen
  change DataW.trod enc Tryd.prog W 0 spare held n 9 (([c0, c1, c2].drop 0).take (Tryd.prog.cellsOf 9)) = some y0 at h0
  change DataW.trod enc Tryd.prog W 0 spare held n 35 (([c0, c1, c2].drop 1).take (Tryd.prog.cellsOf 35)) = some y1 at h1
  change DataW.trod enc Tryd.prog W 0 spare held n 3 (([c0, c1, c2].drop 2).take (Tryd.prog.cellsOf 3)) = some y2 at h2
  rw [show Tryd.prog.cellsOf 9 = 1 by kernel_rfl] at h0
  rw [show Tryd.prog.cellsOf 35 = 1 by kernel_rfl] at h1
  rw [show Tryd.prog.cellsOf 3 = 1 by kernel_rfl] at h2
  obtain ⟨s, e0, _, w0⟩ := DataW.trod_string Tryd.underlying9 h0
  obtain ⟨l, hl1, hl2⟩ := open_strs _ _ _ h1
  obtain ⟨k, e2, _, _⟩ := DataW.trod_int Tryd.underlying3 h2
  have e0' : c0 = .string s := by simpa using e0
  have e2' : c2 = .int .i64 k := by simpa using e2
  subst e0' e2'
  refine ⟨⟨s, l, k⟩, ⟨by show s.size ≤ _; unfold maxLen at w0; omega, hl1⟩, fun j d hj => ?_⟩
  match j with
  | 0 => obtain rfl := Option.some.inj hj; exact ⟨_, rfl, by rw [Is]⟩
  | 1 => obtain rfl := Option.some.inj hj; exact ⟨_, rfl, hl2⟩
  | 2 => obtain rfl := Option.some.inj hj; exact ⟨_, rfl, by rw [Is]⟩
  | j + 3 => simp [Rc.ds] at hj
end Go.Proofs.YtbadepiakkhabaaDoor
/- A tree that came in. No conditions. -/
namespace Go.Proofs.YtbadepiakkhabaaDoor.Cr
open Go.RowKit Go.Joins
open Go.Deep (hone_of choose_lt oneCellFields)
set_option linter.unusedVariables false

theorem one_cell {H : Type} {enc : TypeId × Value → H} {W : World} {base n : Nat} {spare : Nat → Bool} {held : Bool} {fs : Array Field} (hone : oneCellFields Tryd.prog fs = true) {cs : List Value} (hl : cs.length = 6) {xs : List (DataW H × List MemPlace)} (hlen : xs.length = fs.size)
    (hf : ∀ (i : Nat) (f : Field), fs[i]? = some f → DataW.trod enc Tryd.prog W base spare held n f.type ((cs.drop f.offset).take (Tryd.prog.cellsOf f.type)) = xs[i]?) (i : Nat) (hi : i < 6) (f : Field) (hfi : fs[i]? = some f) : ∃ y, DataW.trod enc Tryd.prog W base spare held n f.type [cs[i]] = some y := by
  obtain ⟨o, k⟩ := hone_of hone i f hfi
  have h := hf i f hfi
  rw [o, k] at h
  have hx : i < xs.length := by rw [hlen]; exact (Array.getElem?_eq_some_iff.1 hfi).1
  rw [List.getElem?_eq_getElem hx, List.drop_eq_getElem_cons (by omega)] at h
  exact ⟨_, h⟩
theorem list6 {α : Type} {l : List α} (h : l.length = 6) : ∃ a b c d e f, l = [a, b, c, d, e, f] := by
  match l, h with
  | [a, b, c, d, e, f], _ => exact ⟨a, b, c, d, e, f, rfl⟩
instance : Inhabited Co.T := ⟨.node 0 0 0 0 ByteArray.empty []⟩
theorem oks_of : ∀ {l : List Co.T}, (∀ x ∈ l, x.Ok) → Co.Oks l := by
  intro l
  induction l with
  | nil => intro _; rw [Co.Oks]; trivial
  | cons x r ih => intro h; rw [Co.Oks]; exact ⟨h x List.mem_cons_self, ih fun y hy => h y (List.mem_cons_of_mem _ hy)⟩
theorem open_tree {H : Type} {enc : TypeId × Value → H} {W : World} {spare : Nat → Bool} {held : Bool} : ∀ (fuel : Nat) (cs : List Value) (x : DataW H × List MemPlace), DataW.trod enc Tryd.prog W 0 spare held fuel 119 cs = some x →
    ∃ (t : Co.T) (v : Value), cs = [.int .i64 t.kind, .int .i64 t.op, .int .i64 t.num, .int .i64 t.line, .string t.text, v] ∧ Kids W v t.kids ∧ t.Ok := by
  intro fuel
  induction fuel using Nat.strongRecOn with
  | _ fuel ih =>
    intro cs x h
    obtain ⟨xs, n, rfl, _, hl, hlen, hf⟩ := DataW.trod_struct Tryd.underlying119 h
    rw [show Tryd.prog.cellsOf 119 = 6 by kernel_rfl] at hl
    have hone := one_cell (H := H) (by kernel_rfl) hl hlen hf
    obtain ⟨y0, h0⟩ := hone 0 (by omega) _ rfl
    obtain ⟨y1, h1⟩ := hone 1 (by omega) _ rfl
    obtain ⟨y2, h2⟩ := hone 2 (by omega) _ rfl
    obtain ⟨y3, h3⟩ := hone 3 (by omega) _ rfl
    obtain ⟨y4, h4⟩ := hone 4 (by omega) _ rfl
    obtain ⟨y5, h5⟩ := hone 5 (by omega) _ rfl
    clear hone hf hlen
    obtain ⟨c0, c1, c2, c3, c4, c5, rfl⟩ := list6 hl
    simp only [List.getElem_cons_zero, List.getElem_cons_succ] at h0 h1 h2 h3 h4 h5
    obtain ⟨k, e0, _, w0⟩ := DataW.trod_int Tryd.underlying3 h0
    obtain ⟨p, e1, _, w1⟩ := DataW.trod_int Tryd.underlying3 h1
    obtain ⟨m, e2, _, w2⟩ := DataW.trod_int Tryd.underlying3 h2
    obtain ⟨l, e3, _, w3⟩ := DataW.trod_int Tryd.underlying3 h3
    obtain ⟨s, e4, _, w4⟩ := DataW.trod_string Tryd.underlying9 h4
    simp only [List.cons.injEq, and_true] at e0 e1 e2 e3 e4
    subst e0 e1 e2 e3 e4
    have w4b : s.size ≤ 9223372036854775807 := by unfold maxLen at w4; omega
    suffices hk : ∃ ks : List Co.T, Kids W c5 ks ∧ ks.length ≤ 9223372036854775807 ∧ Co.Oks ks by
      obtain ⟨ks, hk, hkl, hok⟩ := hk
      refine ⟨.node k p m l s ks, c5, rfl, hk, ?_⟩
      rw [Co.T.Ok]
      exact ⟨wf_int w0, wf_int w1, wf_int w2, wf_int w3, ⟨w4b, hkl⟩, hok⟩
    rcases DataW.trod_slice Tryd.underlying117 h5 with ⟨e5, _⟩ | ⟨a, len, cap, elems, rest, n2, hn, e5, _, _, hlc, hcm, hel, hget, _, _⟩
    · simp only [List.cons.injEq, and_true] at e5
      subst e5
      exact ⟨[], by rw [Kids]; exact ⟨_, _, rfl⟩, by simp, by rw [Co.Oks]; trivial⟩
    · simp only [List.cons.injEq, and_true] at e5
      subst e5
      rw [show Tryd.prog.cellsOf 119 = 6 by kernel_rfl] at hget
      have hex : ∀ i, i < len → ∃ t : Co.T, t.Ok ∧ ∃ v, (W.cell? ((a.add (i * 6)).add 0) = some (.int .i64 t.kind) ∧ W.cell? ((a.add (i * 6)).add 1) = some (.int .i64 t.op) ∧ W.cell? ((a.add (i * 6)).add 2) = some (.int .i64 t.num) ∧ W.cell? ((a.add (i * 6)).add 3) = some (.int .i64 t.line) ∧ W.cell? ((a.add (i * 6)).add 4) = some (.string t.text)) ∧ W.cell? ((a.add (i * 6)).add 5) = some v ∧ Kids W v t.kids := by
        intro i hi
        have hg := hget i hi
        rw [List.getElem?_eq_getElem (by omega)] at hg
        obtain ⟨cs', hc, ht⟩ := Option.bind_eq_some_iff.1 hg
        obtain ⟨_, hcl, hcc⟩ := World.cells?_some hc
        obtain ⟨t, v, rfl, hk, hok⟩ := ih n2 (by omega) _ _ ht
        exact ⟨t, hok, v, ⟨hcc 0 (by omega), hcc 1 (by omega), hcc 2 (by omega), hcc 3 (by omega), hcc 4 (by omega)⟩, hcc 5 (by omega), hk⟩
      obtain ⟨T, hT⟩ := choose_lt hex
      refine ⟨(List.range len).map T, ?_, by simp; unfold maxLen at hcm; omega, oks_of fun x hx => ?_⟩
      · by_cases h0 : len = 0
        · subst h0; rw [List.range_zero, List.map_nil, Kids]; exact ⟨_, _, rfl⟩
        · obtain ⟨b, o, sp⟩ := a
          have hsp : sp = none := by
            have := World.cell?_spot (hT 0 (by omega)).2.choose_spec.1.1
            simpa [Addr.add] using this
          subst hsp
          have hkd : Kids W (.slice (some ⟨b, o, none⟩) ((List.range len).map T).length cap) ((List.range len).map T) := by
            refine kids_of (by rw [List.length_map, List.length_range]; exact hlc) fun i hi => ?_
            rw [List.length_map, List.length_range] at hi
            obtain ⟨_, v, ⟨c0, c1, c2, c3, c4⟩, c5, hk⟩ := hT i hi
            have e : ∀ j, ((⟨b, o, none⟩ : Addr).add (i * 6)).add j = ⟨b, o + i * 6 + j, none⟩ := fun j => by rw [addr_add, addr_add]
            rw [e] at c0 c1 c2 c3 c4 c5
            rw [List.getElem_map, List.getElem_range]
            exact tree_of ⟨c0, c1, c2, c3, c4⟩ c5 hk
          rw [List.length_map, List.length_range] at hkd
          exact hkd
      · obtain ⟨i, hi, rfl⟩ := List.mem_map.1 hx
        exact (hT i (List.mem_range.1 hi)).1
end Go.Proofs.YtbadepiakkhabaaDoor.Cr
/- A program that came in. No conditions. -/
namespace Go.Proofs.YtbadepiakkhabaaDoor
open Go.RowKit Go.Joins
set_option linter.unusedVariables false

instance : Inhabited Ro := ⟨⟨ByteArray.empty, 0, [], .node 0 0 0 0 ByteArray.empty []⟩⟩
theorem is_of_cor {w : World} {ks : List Co.T} {v : Value} (h : Cr.Kids w v ks) : Is w (.cor ks) v := by rw [Is]; exact h
theorem int_wf {k : Int} (h : (Lit.int .i64 k).wf = true) : -9223372036854775808 ≤ k ∧ k ≤ 9223372036854775807 := by simpa [Lit.wf, IntKind.min, IntKind.max, IntKind.signed, IntKind.bits] using h
theorem open_ro {H : Type} {enc : TypeId × Value → H} {W : World} {spare : Nat → Bool} {held : Bool} (fuel : Nat) (cs : List Value) (x : DataW H × List MemPlace) (h : DataW.trod enc Tryd.prog W 0 spare held fuel 121 cs = some x) : ∃ r : Ro, r.Ok ∧ IsV W r.ds cs := by
  obtain ⟨xs, n, rfl, _, hl, hlen, hf⟩ := DataW.trod_struct Tryd.underlying121 h
  rw [show Tryd.prog.cellsOf 121 = 9 by kernel_rfl] at hl
  have hone := cells_at (H := H) hlen hf
  obtain ⟨c0, c1, c2, c3, c4, c5, c6, c7, c8, rfl⟩ := list9 hl
  obtain ⟨y0, h0⟩ := hone 0 _ rfl
  obtain ⟨y1, h1⟩ := hone 1 _ rfl
  obtain ⟨y2, h2⟩ := hone 2 _ rfl
  obtain ⟨y3, h3⟩ := hone 3 _ rfl
  clear hone hf hlen
  change DataW.trod enc Tryd.prog W 0 spare held n 9 (([c0, c1, c2, c3, c4, c5, c6, c7, c8].drop 0).take (Tryd.prog.cellsOf 9)) = some y0 at h0
  change DataW.trod enc Tryd.prog W 0 spare held n 3 (([c0, c1, c2, c3, c4, c5, c6, c7, c8].drop 1).take (Tryd.prog.cellsOf 3)) = some y1 at h1
  change DataW.trod enc Tryd.prog W 0 spare held n 35 (([c0, c1, c2, c3, c4, c5, c6, c7, c8].drop 2).take (Tryd.prog.cellsOf 35)) = some y2 at h2
  change DataW.trod enc Tryd.prog W 0 spare held n 119 (([c0, c1, c2, c3, c4, c5, c6, c7, c8].drop 3).take (Tryd.prog.cellsOf 119)) = some y3 at h3
  rw [show Tryd.prog.cellsOf 9 = 1 by kernel_rfl] at h0
  rw [show Tryd.prog.cellsOf 3 = 1 by kernel_rfl] at h1
  rw [show Tryd.prog.cellsOf 35 = 1 by kernel_rfl] at h2
  rw [show Tryd.prog.cellsOf 119 = 6 by kernel_rfl] at h3
  obtain ⟨s, e0, _, w0⟩ := DataW.trod_string Tryd.underlying9 h0
  obtain ⟨k, e1, _, w1⟩ := DataW.trod_int Tryd.underlying3 h1
  obtain ⟨l1, hl1, hl2⟩ := open_strs _ _ _ h2
  obtain ⟨t, v, e3, hk, hok⟩ := Cr.open_tree _ _ _ h3
  have e0' : c0 = .string s := by simpa using e0
  have e1' : c1 = .int .i64 k := by simpa using e1
  have e3' : c3 = .int .i64 t.kind ∧ c4 = .int .i64 t.op ∧ c5 = .int .i64 t.num ∧ c6 = .int .i64 t.line ∧ c7 = .string t.text ∧ c8 = v := by simpa using e3
  obtain ⟨rfl, rfl, rfl, rfl, rfl, rfl⟩ := e3'
  subst e0' e1'
  refine ⟨⟨s, k, l1, t⟩, ⟨by show s.size ≤ _; unfold maxLen at w0; omega, int_wf w1, hl1, hok⟩, fun j d hj => ?_⟩
  match j with
  | 0 => obtain rfl := Option.some.inj hj; exact ⟨_, rfl, by rw [Is]⟩
  | 1 => obtain rfl := Option.some.inj hj; exact ⟨_, rfl, by rw [Is]⟩
  | 2 => obtain rfl := Option.some.inj hj; exact ⟨_, rfl, hl2⟩
  | 3 => obtain rfl := Option.some.inj hj; exact ⟨_, rfl, by rw [Is]⟩
  | 4 => obtain rfl := Option.some.inj hj; exact ⟨_, rfl, by rw [Is]⟩
  | 5 => obtain rfl := Option.some.inj hj; exact ⟨_, rfl, by rw [Is]⟩
  | 6 => obtain rfl := Option.some.inj hj; exact ⟨_, rfl, by rw [Is]⟩
  | 7 => obtain rfl := Option.some.inj hj; exact ⟨_, rfl, by rw [Is]⟩
  | 8 => obtain rfl := Option.some.inj hj; exact ⟨_, rfl, is_of_cor hk⟩
  | j + 9 => simp [Ro.ds] at hj
theorem list4v {α : Type} {l : List α} (h : l.length = 4) : ∃ a b c d, l = [a, b, c, d] := by
  match l, h with
  | [a, b, c, d], _ => exact ⟨a, b, c, d, rfl⟩
theorem open_prog {H : Type} {enc : TypeId × Value → H} {W : World} {spare : Nat → Bool} {held : Bool} (fuel : Nat) (cs : List Value) (x : DataW H × List MemPlace) (h : DataW.trod enc Tryd.prog W 0 spare held fuel 37 cs = some x) : ∃ (u : Pg) (v1 v2 v3 : Value), cs = [v1, v2, v3, .int .i64 u.main] ∧ u.Ok ∧ PgIs W u v1 v2 v3 := by
  obtain ⟨xs, n, rfl, _, hl, hlen, hf⟩ := DataW.trod_struct Tryd.underlying37 h
  rw [show Tryd.prog.cellsOf 37 = 4 by kernel_rfl] at hl
  have hone := cells_at (H := H) hlen hf
  obtain ⟨c0, c1, c2, c3, rfl⟩ := list4v hl
  obtain ⟨y0, h0⟩ := hone 0 _ rfl
  obtain ⟨y1, h1⟩ := hone 1 _ rfl
  obtain ⟨y2, h2⟩ := hone 2 _ rfl
  obtain ⟨y3, h3⟩ := hone 3 _ rfl
  clear hone hf hlen
  change DataW.trod enc Tryd.prog W 0 spare held n 33 (([c0, c1, c2, c3].drop 0).take (Tryd.prog.cellsOf 33)) = some y0 at h0
  change DataW.trod enc Tryd.prog W 0 spare held n 34 (([c0, c1, c2, c3].drop 1).take (Tryd.prog.cellsOf 34)) = some y1 at h1
  change DataW.trod enc Tryd.prog W 0 spare held n 35 (([c0, c1, c2, c3].drop 2).take (Tryd.prog.cellsOf 35)) = some y2 at h2
  change DataW.trod enc Tryd.prog W 0 spare held n 3 (([c0, c1, c2, c3].drop 3).take (Tryd.prog.cellsOf 3)) = some y3 at h3
  rw [show Tryd.prog.cellsOf 33 = 1 by kernel_rfl] at h0
  rw [show Tryd.prog.cellsOf 34 = 1 by kernel_rfl] at h1
  rw [show Tryd.prog.cellsOf 35 = 1 by kernel_rfl] at h2
  rw [show Tryd.prog.cellsOf 3 = 1 by kernel_rfl] at h3
  obtain ⟨qs, q1, q2, q3⟩ := open_rows Ro.ds Ro.Ok Ro.ds_len (by decide) Tryd.underlying33 (by kernel_rfl) open_ro _ _ _ h0
  obtain ⟨rs, r1, r2, r3⟩ := open_rows Rc.ds Rc.Ok Rc.ds_len (by decide) Tryd.underlying34 (by kernel_rfl) open_rec _ _ _ h1
  obtain ⟨l, hl1, hl2⟩ := open_strs _ _ _ h2
  obtain ⟨k, e3, _, w3⟩ := DataW.trod_int Tryd.underlying3 h3
  have e3' : c3 = .int .i64 k := by simpa using e3
  subst e3'
  exact ⟨⟨qs, rs, l, k⟩, c0, c1, c2, rfl, ⟨⟨by unfold maxLen at q2; show qs.length ≤ _; omega, q1⟩, ⟨by unfold maxLen at r2; show rs.length ≤ _; omega, r1⟩, hl1, int_wf w3⟩, q3, r3, hl2⟩
end Go.Proofs.YtbadepiakkhabaaDoor
/- What the row's list gives a walk: a table of texts. No conditions. -/
namespace Go.Proofs.YtbadepiakkhabaaDoor
open Go.RowKit
set_option linter.unusedVariables false

/-- One listed variable that holds a table of texts. -/
theorem tab_of {W : World} {name : String} {v : Nat} {T : TypeId} {L : List ByteArray} {n : Nat} {D : DataW Unit} {ds : List (String × DataW Unit)} {ps : List MemPlace} (gT : Tryd.prog.globalNamed name = some v) (gTT : (Tryd.prog.globals[v]?).map (·.type) = some T) (hu : Tryd.prog.underlying T = some (.array n 9)) (cT : Tryd.prog.cellsOf T = n) (hLn : L.length = n)
    (hD : D = .agg (L.map fun x => .lit (.string x.data.toList))) (hL : DataW.LaidVars Tryd.prog W ((name, D) :: ds) ps) : TabAt v L W ∧ ∃ qs, DataW.LaidVars Tryd.prog W ds qs := by
  obtain ⟨g, t, cs, fuel, p, q, hg, ht, hvar, hd, hrest, _⟩ := hL
  refine ⟨?_, q, hrest⟩
  obtain rfl := Option.some.inj (gT.symm.trans hg)
  obtain rfl := Option.some.inj (gTT.symm.trans ht)
  have hcs : cs = (L.map Value.string).toArray := by
    obtain ⟨xs, m, rfl, hx, hl, hxl, hall⟩ := DataW.trod_array hu hd
    rw [cT] at hl
    rw [show Tryd.prog.cellsOf 9 = 1 by kernel_rfl] at hall
    simp only [Prod.mk.injEq] at hx
    have hxd := hx.1
    rw [hD] at hxd
    simp only [DataW.agg.injEq] at hxd
    apply Array.toList_inj.1
    apply List.ext_getElem?
    intro i
    by_cases hi : i < n
    · have h1 := hall i hi
      have hxi : ∃ y, xs[i]? = some y := ⟨_, List.getElem?_eq_getElem (by rw [hxl]; exact hi)⟩
      obtain ⟨y, hy⟩ := hxi
      rw [hy] at h1
      obtain ⟨s, e0, e1, _⟩ := DataW.trod_string Tryd.underlying9 h1
      have hfi : i < L.length := by rw [hLn]; exact hi
      have h2 := congrArg (fun l => l[i]?) hxd
      simp only [List.getElem?_map, hy, List.getElem?_eq_getElem hfi, Option.map_some, Option.some.injEq] at h2
      rw [e1] at h2
      simp only [DataW.lit.injEq, Lit.string.injEq] at h2
      have h3 : s = L[i] := by
        cases s; cases hq : L[i]
        rw [hq] at h2
        exact congrArg ByteArray.mk (Array.toList_inj.1 h2.symm)
      have h4 : cs.toList[i]? = some (.string s) := by
        have := congrArg (fun l => l[0]?) e0
        simp at this
        simpa using this
      rw [h4, h3]
      simp [hfi]
    · rw [List.getElem?_eq_none (by omega), List.getElem?_eq_none (by simp [hLn]; omega)]
  subst hcs
  unfold World.var? at hvar
  rw [gT] at hvar
  simp only [Option.bind_some] at hvar
  split at hvar
  · rename_i cs2 t2 fr2 hh
    obtain rfl := Option.some.inj hvar
    exact ⟨t2, fr2, hh⟩
  · cases hvar
end Go.Proofs.YtbadepiakkhabaaDoor
/- What the row's list gives a walk: a table of texts. No conditions. -/
namespace Go.Proofs.YtbadepiakkhabaaDoor
open Go.RowKit
set_option linter.unusedVariables false

theorem gOps : Tryd.prog.globalNamed "loop.example/g03106/impl.operatorTexts" = some 2 := by kernel_rfl
theorem gOpsType : (Tryd.prog.globals[2]?).map (·.type) = some 209 := by kernel_rfl
theorem cellsOps : Tryd.prog.cellsOf 209 = 82 := by kernel_rfl
theorem ops_laid {H : Type} : (Rows.laid_loop_example_g03106_impl_operatorTexts : DataW H) = .agg (opL.map fun x => .lit (.string x.data.toList)) := rfl
theorem ops_of {W : World} (hL : laidMetH Tryd.prog [("loop.example/g03106/impl.operatorTexts", Rows.laid_loop_example_g03106_impl_operatorTexts)] W) : OpsAt W := by
  rw [MakeChecks.laidMetH_plain _ _ _ (by kernel_rfl)] at hL
  obtain ⟨ps, h, _⟩ := hL
  exact (tab_of gOps gOpsType Tryd.underlying209 cellsOps opL_len ops_laid h).1
end Go.Proofs.YtbadepiakkhabaaDoor
