/- Joined texts: A36, H7. No conditions besides those that each states. -/
import Derived.Deep.RegionHeld3
import Derived.Lib.BufferOwn
import Derived.Test.YtbadepiakkhabaaDoorZ8
import Derived.Test.YtbadepiakkhabaaDoorZ13
/- The program: valid core trees. The operators' table reads as the program's text lays it. -/
namespace Go.Proofs.YtbadepiakkhabaaDoor.Cr
open Go.RowKit Go.Lib
set_option linter.unusedVariables false

/-- The checker's five counts, the last of them the nodes so far. -/
abbrev ckL (E : Co.Env) (n : Int) : List Value := [.int .i64 E.slots, .int .i64 E.globs, .int .i64 E.routs, .int .i64 E.recs, .int .i64 n]
theorem ck_at {w : World} {b : Nat} {n : Int} {E : Co.Env} (h : Var w b (ckL E n)) : CkAt w b E := ⟨(h 0 _ rfl).1, (h 1 _ rfl).1, (h 2 _ rfl).1, (h 3 _ rfl).1⟩
/-- Where a call on a tree stands: what lay before the checker is unturned, the nodes so far, the surroundings. -/
def StV (W0 w : World) (b : Nat) (E : Co.Env) (loop made : Bool) (n : Int) (W : World) : Prop := Below W0.heap.size W0 W ∧ Var W b (ckL E n) ∧ Var W w.heap.size [.bool loop, .bool made] ∧ w.grownBy W (some b)
theorem grown_below {a w w' : World} {b : Nat} (h : a.grownBy w (some b)) (hb : Below w.heap.size w w') : a.grownBy w' (some b) :=
  ⟨hb.os.trans h.os, hb.tape.trans h.tape, hb.output.trans h.output, Nat.le_trans h.size hb.size, fun k hk hr => (hb.block k (Nat.lt_of_lt_of_le hk h.size)).trans (h.block k hk hr)⟩
theorem below_grown {B b : Nat} {a w w' : World} (h : Below B a w) (hg : w.grownBy w' (some b)) (hb : B ≤ b) (hs : B ≤ w.heap.size) : Below B a w' := h.grown hg hs (fun k hk => by obtain rfl := Option.some.inj hk; exact hb)
theorem StV.later {W0 w W W' : World} {b : Nat} {n : Int} {E : Co.Env} {loop made : Bool} (h : StV W0 w b E loop made n W) (hb : Below W.heap.size W W') : StV W0 w b E loop made n W' :=
  ⟨below_then h.1 hb, h.2.1.later hb, h.2.2.1.later hb, grown_below h.2.2.2 hb⟩
theorem StV.turn {W0 w W W' : World} {b : Nat} {n m : Int} {E : Co.Env} {loop made : Bool} (h : StV W0 w b E loop made n W) (hg : W.grownBy W' (some b)) (hv : Var W' b (ckL E m)) (hb : W0.heap.size ≤ b) (hlt : b < w.heap.size) : StV W0 w b E loop made m W' :=
  ⟨below_grown h.1 hg hb h.1.size, hv, h.2.2.1.keep (hg.block _ h.2.2.1.lt (by intro e; have := Option.some.inj e; omega)), World.grownBy.trans h.2.2.2 hg⟩
theorem StV.start {W0 w : World} {b : Nat} {n : Int} {E : Co.Env} (loop made : Bool) (T : TypeId) (hb : Below W0.heap.size W0 w) (h0 : W0.heap.size ≤ b) (hv : Var w b (ckL E n)) : StV W0 w b E loop made (n + 1) ((w.alloc (.cells #[.bool loop, .bool made] T)).setCell ⟨b, 4, none⟩ (.int .i64 (n + 1))) := by
  have hlt : b < w.heap.size := hv.lt
  have hne : w.heap.size ≠ b := by omega
  refine ⟨?_, ?_, ?_, ?_⟩
  · exact (below_then hb (bl1 _ _)).setCell (p := ⟨b, 4, none⟩) h0 _
  · exact (hv.later (bl1 _ _)).set 4 _
  · exact (Var.new w #[.bool loop, .bool made] T).oth b 4 hne _
  · exact World.grownBy.trans (grown_below (World.grownBy.refl w (some b)) (bl1 _ _)) (grownBy_setCell _ b 4 _)
/-- What the call answers. -/
def RetVld (w : World) (b : Nat) (E : Co.Env) (n : Int) (t : Co.T) (r : Bool) (e : Ending) (w' : World) : Prop := e = .returned (.bool r) ∧ w.grownBy w' (some b) ∧ ∃ m : Int, Var w' b (ckL E m) ∧ (r = true → m = n + t.count)
def VldT (E : Co.Env) (t : Co.T) : Prop := t.bulk ≤ 1048576 → t.Ok → ∀ (W0 w : World) (b g o d : Nat) (n : Int) (loop made : Bool), TreeAt W0 g o t → OpsAt W0 → Below W0.heap.size W0 w → W0.heap.size ≤ b → Var w b (ckL E n) → 0 ≤ n → n ≤ 40000 → d ≤ 401 →
  Calls Tryd.prog 36 #[.pointer (some ⟨b, 0, none⟩), .pointer (some ⟨g, o, none⟩), .int .i64 (d : Int), .agg #[.bool loop, .bool made]] w (RetVld w b E n t (t.ok E loop made d && decide (n + t.count ≤ 40000)))
theorem ok_head {E : Co.Env} {t : Co.T} {loop made : Bool} {d : Int} (h : (decide (d ≤ 400) && (nodeOk E t && Co.admit t.kind loop made)) = false) : t.ok E loop made d = false := by rw [Co.ok_eq, head_eq, h, Bool.false_and]
theorem ok_kids {E : Co.Env} {t : Co.T} {loop made : Bool} {d : Int} (h1 : d ≤ 400) (h2 : nodeOk E t = true) (h3 : Co.admit t.kind loop made = true) : t.ok E loop made d = Co.oks E t.kids t.kind loop (made || decide (t.kind = 26)) (d + 1) 0 := by rw [Co.ok_eq, head_eq, h2, h3, decide_eq_true h1]; rfl
theorem ret_no {w w' : World} {b : Nat} {n m : Int} {E : Co.Env} {t : Co.T} {r : Bool} (hr : r = false) (hg : w.grownBy w' (some b)) (hv : Var w' b (ckL E m)) : RetVld w b E n t r (.returned (.bool false)) w' := ⟨by rw [hr], hg, m, hv, by rw [hr]; intro h; cases h⟩

def ov33 : Oper := { dst := some 33, op := Op.load 87 (.tmp 7), type := 87, pos := "l10_lowering.go:514", after := #[{ on := 15, ground := .guard }], guard := some (15, false) }
def ov34 : Oper := { dst := some 34, op := Op.move (.tmp 1), type := 85, pos := "l10_lowering.go:514", after := #[{ on := 15, ground := .guard }], guard := some (15, false) }
def ov39 : Oper := { dst := some 39, op := Op.unOp UnOp.not 4 (.tmp 38), type := 4, pos := "l10_lowering.go:514", after := #[{ on := 21, ground := .data }, { on := 15, ground := .guard }], guard := some (15, false) }
def ov35 : Oper := { dst := some 35, op := Op.nilCheck (.tmp 34), type := 0, pos := "l10_lowering.go:514", after := #[{ on := 17, ground := .data }, { on := 15, ground := .guard }], guard := some (15, false) }
def ov36 : Oper := { dst := some 36, op := Op.fieldAddr 68 (.tmp 35) 0, type := 0, pos := "l10_lowering.go:514", after := #[{ on := 18, ground := .data }, { on := 15, ground := .guard }], guard := some (15, false) }
def ov37 : Oper := { dst := some 37, op := Op.load 3 (.tmp 36), type := 3, pos := "l10_lowering.go:514", after := #[{ on := 19, ground := .data }, { on := 15, ground := .guard }], guard := some (15, false) }
theorem ok_op {t : Co.T} (h : t.Ok) : -9223372036854775808 ≤ t.op ∧ t.op ≤ 9223372036854775807 := by
  cases t; rw [Co.T.Ok] at h; exact h.2.1
set_option maxRecDepth 100000 in
set_option maxHeartbeats 3200000 in
theorem vld_many (E : Co.Env) (hE : EnvS E) (t : Co.T) (hb : t.bulk ≤ 1048576) (hok : t.Ok) (W0 w : World) (b g o d : Nat) (n : Int) (loop made : Bool) (ht : TreeAt W0 g o t) (hT : OpsAt W0) (hw : Below W0.heap.size W0 w) (hbb : W0.heap.size ≤ b) (hv : Var w b (ckL E n)) (h0 : 0 ≤ n) (hn : n ≤ 40000) (hd : d ≤ 401) (hx : 40000 < n + 1) :
  Calls Tryd.prog 36 #[.pointer (some ⟨b, 0, none⟩), .pointer (some ⟨g, o, none⟩), .int .i64 (d : Int), .agg #[.bool loop, .bool made]] w (RetVld w b E n t (t.ok E loop made d && decide (n + t.count ≤ 40000))) := by
  have hpos := Co.count_pos t
  have HS := Lib.hid (StV.start (n := n) (E := E) loop made 87 hw hbb hv)
  obtain ⟨W, hW⟩ : ∃ W, (w.alloc (.cells #[.bool loop, .bool made] 87)).setCell ⟨b, 4, none⟩ (.int .i64 (n + 1)) = W := ⟨_, rfl⟩
  rw [hW] at HS
  have HW := Lib.hid hW
  have hq : IntKind.i64.wrap (n + 1) = n + 1 := by rw [IntKind.wrap_i64]; omega
  obtain ⟨c4, f4⟩ := hv.later (bl1 w (.cells #[.bool loop, .bool made] 87)) 4 _ rfl
  have d4 := (HS.out.2.1 4 _ rfl).1
  have hlt : b < w.heap.size := hv.lt
  have HR : Hid ((t.ok E loop made d && decide (n + t.count ≤ 40000)) = false) := Lib.hid (by rw [decide_eq_false (by omega), Bool.and_false])
  clear ht hT hw hbb hv h0 hn hd hW hpos hlt hE hok hb
  go_enter Tryd.func36, Tryd.ntmps36
  go_wp2_with fail
  rw [HW.out]
  go_quiet (fail)
  go_wp2
  go_ret
  exact ret_no HR.out (grown_below HS.out.2.2.2 (drewN_a (Below.refl _ _) _)) (HS.out.2.1.later (drewN_a (Below.refl _ _) _))
set_option maxRecDepth 100000 in
set_option maxHeartbeats 3200000 in
theorem vld_deep (E : Co.Env) (hE : EnvS E) (t : Co.T) (hb : t.bulk ≤ 1048576) (hok : t.Ok) (W0 w : World) (b g o d : Nat) (n : Int) (loop made : Bool) (ht : TreeAt W0 g o t) (hT : OpsAt W0) (hw : Below W0.heap.size W0 w) (hbb : W0.heap.size ≤ b) (hv : Var w b (ckL E n)) (h0 : 0 ≤ n) (hn : n ≤ 40000) (hd : d ≤ 401) (hx : ¬ 40000 < n + 1) (hy : 400 < (d : Int)) :
  Calls Tryd.prog 36 #[.pointer (some ⟨b, 0, none⟩), .pointer (some ⟨g, o, none⟩), .int .i64 (d : Int), .agg #[.bool loop, .bool made]] w (RetVld w b E n t (t.ok E loop made d && decide (n + t.count ≤ 40000))) := by
  have hpos := Co.count_pos t
  have HS := Lib.hid (StV.start (n := n) (E := E) loop made 87 hw hbb hv)
  obtain ⟨W, hW⟩ : ∃ W, (w.alloc (.cells #[.bool loop, .bool made] 87)).setCell ⟨b, 4, none⟩ (.int .i64 (n + 1)) = W := ⟨_, rfl⟩
  rw [hW] at HS
  have HW := Lib.hid hW
  have hq : IntKind.i64.wrap (n + 1) = n + 1 := by rw [IntKind.wrap_i64]; omega
  obtain ⟨c4, f4⟩ := hv.later (bl1 w (.cells #[.bool loop, .bool made] 87)) 4 _ rfl
  have d4 := (HS.out.2.1 4 _ rfl).1
  have hlt : b < w.heap.size := hv.lt
  have HR : Hid ((t.ok E loop made d && decide (n + t.count ≤ 40000)) = false) := Lib.hid (by rw [ok_head (by rw [decide_eq_false (by omega), Bool.false_and]), Bool.false_and])
  clear ht hT hw hbb hv h0 hn hd hW hpos hlt hE hok hb
  go_enter Tryd.func36, Tryd.ntmps36
  go_wp2_with fail
  rw [HW.out]
  go_quiet (fail)
  go_wp2
  go_ret
  exact ret_no HR.out (grown_below HS.out.2.2.2 (drewN_a (Below.refl _ _) _)) (HS.out.2.1.later (drewN_a (Below.refl _ _) _))
set_option maxRecDepth 100000 in
set_option maxHeartbeats 3200000 in
theorem vld_node (E : Co.Env) (hE : EnvS E) (t : Co.T) (hb : t.bulk ≤ 1048576) (hok : t.Ok) (W0 w : World) (b g o d : Nat) (n : Int) (loop made : Bool) (ht : TreeAt W0 g o t) (hT : OpsAt W0) (hw : Below W0.heap.size W0 w) (hbb : W0.heap.size ≤ b) (hv : Var w b (ckL E n)) (h0 : 0 ≤ n) (hn : n ≤ 40000) (hd : d ≤ 401) (hx : ¬ 40000 < n + 1) (hy : ¬ 400 < (d : Int)) (hz : nodeOk E t = false) :
  Calls Tryd.prog 36 #[.pointer (some ⟨b, 0, none⟩), .pointer (some ⟨g, o, none⟩), .int .i64 (d : Int), .agg #[.bool loop, .bool made]] w (RetVld w b E n t (t.ok E loop made d && decide (n + t.count ≤ 40000))) := by
  have hpos := Co.count_pos t
  have HS := Lib.hid (StV.start (n := n) (E := E) loop made 87 hw hbb hv)
  obtain ⟨W, hW⟩ : ∃ W, (w.alloc (.cells #[.bool loop, .bool made] 87)).setCell ⟨b, 4, none⟩ (.int .i64 (n + 1)) = W := ⟨_, rfl⟩
  rw [hW] at HS
  have HW := Lib.hid hW
  have hq : IntKind.i64.wrap (n + 1) = n + 1 := by rw [IntKind.wrap_i64]; omega
  obtain ⟨c4, f4⟩ := hv.later (bl1 w (.cells #[.bool loop, .bool made] 87)) 4 _ rfl
  have d4 := (HS.out.2.1 4 _ rfl).1
  have hlt : b < w.heap.size := hv.lt
  have HR : Hid ((t.ok E loop made d && decide (n + t.count ≤ 40000)) = false) := Lib.hid (by rw [ok_head (by rw [hz, Bool.false_and, Bool.and_false]), Bool.false_and])
  have tx : decide (40000 < n + 1) = false := decide_eq_false hx
  have ty : decide (400 < (d : Int)) = false := decide_eq_false hy
  have TW := HS.out.1
  obtain ⟨⟨e0, _, _, _, _⟩, v, e5, hk⟩ := tree_cells (TreeAt.mono (subw_below TW) t ht)
  obtain ⟨x0, _⟩ := HS.out.2.2.1 0 _ rfl
  obtain ⟨x1, _⟩ := HS.out.2.2.1 1 _ rfl
  obtain ⟨p0, p1⟩ := ok_op hok
  have HD : Hid (∀ W', Below W.heap.size W W' → W'.cell? ⟨b, 4, none⟩ = some (.int .i64 (n + 1)) ∧ W'.cell? ⟨w.heap.size, 0, none⟩ = some (.bool loop) ∧ W'.cell? ⟨w.heap.size, 1, none⟩ = some (.bool made) ∧ W'.cell? ⟨g, o, none⟩ = some (.int .i64 t.kind) ∧ Below W.heap.size W W') := Lib.hid (fun W' h => ⟨cell_later h d4, cell_later h x0, cell_later h x1, cell_later h e0, h⟩)
  have HN : Hid (∀ W', Below W.heap.size W W' → Calls Tryd.prog 69 #[.pointer (some ⟨b, 0, none⟩), .pointer (some ⟨g, o, none⟩)] W' fun e w' => e = .returned (.bool (nodeOk E t)) ∧ Below W'.heap.size W' w') := Lib.hid (fun W' hW' => impl_vnode E hE b t W' g o (ck_at (HS.out.2.1.later hW')) ((TreeAt.mono (subw_below TW) t ht).later hW') ((hT.later TW).later hW') p0 p1 hb)
  have HA : Hid (∀ W', Calls Tryd.prog 70 #[.agg #[.bool loop, .bool made], .int .i64 t.kind] W' fun e w' => e = .returned (.bool (Co.admit t.kind loop made)) ∧ Below W'.heap.size W' w') := Lib.hid (fun W' => impl_admit t.kind loop made W')
  rw [hz] at HN
  clear ht hT hw hbb hv h0 hn hd hW hpos hlt hE hok hb TW e5 hk p0 p1 hz hx hy
  go_enter Tryd.func36, Tryd.ntmps36
  go_wp2_with fail
  rw [HW.out]
  have ev33 : ov33 = { dst := some 33, op := Op.load 87 (.tmp 7), type := 87, pos := "l10_lowering.go:514", after := #[{ on := 15, ground := .guard }], guard := some (15, false) } := rfl
  have ev35 : ov35 = { dst := some 35, op := Op.nilCheck (.tmp 34), type := 0, pos := "l10_lowering.go:514", after := #[{ on := 17, ground := .data }, { on := 15, ground := .guard }], guard := some (15, false) } := rfl
  have ev36 : ov36 = { dst := some 36, op := Op.fieldAddr 68 (.tmp 35) 0, type := 0, pos := "l10_lowering.go:514", after := #[{ on := 18, ground := .data }, { on := 15, ground := .guard }], guard := some (15, false) } := rfl
  have ev37 : ov37 = { dst := some 37, op := Op.load 3 (.tmp 36), type := 3, pos := "l10_lowering.go:514", after := #[{ on := 19, ground := .data }, { on := 15, ground := .guard }], guard := some (15, false) } := rfl
  have ev34 : ov34 = { dst := some 34, op := Op.move (.tmp 1), type := 85, pos := "l10_lowering.go:514", after := #[{ on := 15, ground := .guard }], guard := some (15, false) } := rfl
  have ev39 : ov39 = { dst := some 39, op := Op.unOp UnOp.not 4 (.tmp 38), type := 4, pos := "l10_lowering.go:514", after := #[{ on := 21, ground := .data }, { on := 15, ground := .guard }], guard := some (15, false) } := rfl
  rw [← ev33, ← ev34, ← ev35, ← ev36, ← ev37, ← ev39]
  go_region_held3 (fun W' => W'.cell? ⟨b, 4, none⟩ = some (.int .i64 (n + 1)) ∧ W'.cell? ⟨w.heap.size, 0, none⟩ = some (.bool loop) ∧ W'.cell? ⟨w.heap.size, 1, none⟩ = some (.bool made) ∧ W'.cell? ⟨g, o, none⟩ = some (.int .i64 t.kind) ∧ Below W.heap.size W W')
    (first | exact HD.out _ ((Below.refl _ _).drew) | exact HD.out _ (below_then ((Below.refl _ _).drew) (by assumption)) | (go_split_ands; exact HD.out _ (below_then (by assumption) (by assumption))))
    (first | (go_at_call 69; refine (HN.out _ ?_).mono ?_; (first | exact (Below.refl _ _).drew | (go_split_ands; assumption)); rintro e w1 ⟨rfl, hb1⟩) | (go_at_call 70; refine (HA.out _).mono ?_; rintro e w2 ⟨rfl, hb2⟩))
  have hb9 := by go_split_ands; assumption
  all_goals (
    have HB9 : Hid (Below W.heap.size W w1) := Lib.hid (by go_split_ands; assumption)
    clear hb1
    go_wp2
    go_ret
    exact ret_no HR.out (grown_below HS.out.2.2.2 HB9.out) (HS.out.2.1.later HB9.out))
set_option maxRecDepth 100000 in
set_option maxHeartbeats 3200000 in
theorem vld_admit (E : Co.Env) (hE : EnvS E) (t : Co.T) (hb : t.bulk ≤ 1048576) (hok : t.Ok) (W0 w : World) (b g o d : Nat) (n : Int) (loop made : Bool) (ht : TreeAt W0 g o t) (hT : OpsAt W0) (hw : Below W0.heap.size W0 w) (hbb : W0.heap.size ≤ b) (hv : Var w b (ckL E n)) (h0 : 0 ≤ n) (hn : n ≤ 40000) (hd : d ≤ 401) (hx : ¬ 40000 < n + 1) (hy : ¬ 400 < (d : Int)) (hz : nodeOk E t = true) (hu : Co.admit t.kind loop made = false) :
  Calls Tryd.prog 36 #[.pointer (some ⟨b, 0, none⟩), .pointer (some ⟨g, o, none⟩), .int .i64 (d : Int), .agg #[.bool loop, .bool made]] w (RetVld w b E n t (t.ok E loop made d && decide (n + t.count ≤ 40000))) := by
  have hpos := Co.count_pos t
  have HS := Lib.hid (StV.start (n := n) (E := E) loop made 87 hw hbb hv)
  obtain ⟨W, hW⟩ : ∃ W, (w.alloc (.cells #[.bool loop, .bool made] 87)).setCell ⟨b, 4, none⟩ (.int .i64 (n + 1)) = W := ⟨_, rfl⟩
  rw [hW] at HS
  have HW := Lib.hid hW
  have hq : IntKind.i64.wrap (n + 1) = n + 1 := by rw [IntKind.wrap_i64]; omega
  obtain ⟨c4, f4⟩ := hv.later (bl1 w (.cells #[.bool loop, .bool made] 87)) 4 _ rfl
  have d4 := (HS.out.2.1 4 _ rfl).1
  have hlt : b < w.heap.size := hv.lt
  have HR : Hid ((t.ok E loop made d && decide (n + t.count ≤ 40000)) = false) := Lib.hid (by rw [ok_head (by rw [hu, Bool.and_false, Bool.and_false]), Bool.false_and])
  have tx : decide (40000 < n + 1) = false := decide_eq_false hx
  have ty : decide (400 < (d : Int)) = false := decide_eq_false hy
  have TW := HS.out.1
  obtain ⟨⟨e0, _, _, _, _⟩, v, e5, hk⟩ := tree_cells (TreeAt.mono (subw_below TW) t ht)
  obtain ⟨x0, _⟩ := HS.out.2.2.1 0 _ rfl
  obtain ⟨x1, _⟩ := HS.out.2.2.1 1 _ rfl
  obtain ⟨p0, p1⟩ := ok_op hok
  have HD : Hid (∀ W', Below W.heap.size W W' → W'.cell? ⟨b, 4, none⟩ = some (.int .i64 (n + 1)) ∧ W'.cell? ⟨w.heap.size, 0, none⟩ = some (.bool loop) ∧ W'.cell? ⟨w.heap.size, 1, none⟩ = some (.bool made) ∧ W'.cell? ⟨g, o, none⟩ = some (.int .i64 t.kind) ∧ Below W.heap.size W W') := Lib.hid (fun W' h => ⟨cell_later h d4, cell_later h x0, cell_later h x1, cell_later h e0, h⟩)
  have HN : Hid (∀ W', Below W.heap.size W W' → Calls Tryd.prog 69 #[.pointer (some ⟨b, 0, none⟩), .pointer (some ⟨g, o, none⟩)] W' fun e w' => e = .returned (.bool (nodeOk E t)) ∧ Below W'.heap.size W' w') := Lib.hid (fun W' hW' => impl_vnode E hE b t W' g o (ck_at (HS.out.2.1.later hW')) ((TreeAt.mono (subw_below TW) t ht).later hW') ((hT.later TW).later hW') p0 p1 hb)
  have HA : Hid (∀ W', Calls Tryd.prog 70 #[.agg #[.bool loop, .bool made], .int .i64 t.kind] W' fun e w' => e = .returned (.bool (Co.admit t.kind loop made)) ∧ Below W'.heap.size W' w') := Lib.hid (fun W' => impl_admit t.kind loop made W')
  rw [hz] at HN
  rw [hu] at HA
  clear ht hT hw hbb hv h0 hn hd hW hpos hlt hE hok hb TW e5 hk p0 p1 hz hu hx hy
  go_enter Tryd.func36, Tryd.ntmps36
  go_wp2_with fail
  rw [HW.out]
  go_region_held3 (fun W' => W'.cell? ⟨b, 4, none⟩ = some (.int .i64 (n + 1)) ∧ W'.cell? ⟨w.heap.size, 0, none⟩ = some (.bool loop) ∧ W'.cell? ⟨w.heap.size, 1, none⟩ = some (.bool made) ∧ W'.cell? ⟨g, o, none⟩ = some (.int .i64 t.kind) ∧ Below W.heap.size W W')
    (first | exact HD.out _ ((Below.refl _ _).drew) | exact HD.out _ (below_then ((Below.refl _ _).drew) (by assumption)) | (go_split_ands; exact HD.out _ (below_then (by assumption) (by assumption))))
    (first | (go_at_call 69; refine (HN.out _ ?_).mono ?_; (first | exact (Below.refl _ _).drew | (go_split_ands; assumption)); rintro e w1 ⟨rfl, hb1⟩) | (go_at_call 70; refine (HA.out _).mono ?_; rintro e w2 ⟨rfl, hb2⟩))
  have hb9 := by go_split_ands; assumption
  all_goals (
    have HB9 : Hid (Below W.heap.size W w2) := Lib.hid (by go_split_ands; assumption)
    clear hb1 hb2
    go_wp2
    go_ret
    exact ret_no HR.out (grown_below HS.out.2.2.2 HB9.out) (HS.out.2.1.later HB9.out))
end Go.Proofs.YtbadepiakkhabaaDoor.Cr
/- Numbers of nodes and depths in the reference model. No conditions. -/
namespace Go.Proofs.YtbadepiakkhabaaDoor.Cr
open Go.RowKit
set_option linter.unusedVariables false

def CntT (t : Co.T) : Prop := t.bulk ≤ 1048576 → ∀ (w : World) (v : Value), Kids w v t.kids → Calls Tryd.prog 31 #[exV t v] w fun e w' => e = .returned (.int .i64 (t.count : Int)) ∧ Below w.heap.size w w'
theorem count_eq (t : Co.T) : t.count = 1 + Co.counts t.kids := by cases t; rw [Co.T.count]; rfl
theorem deep_eq (t : Co.T) : t.deep = Co.deeps t.kids + 1 := by cases t; rw [Co.T.deep]; rfl
theorem small_count {t : Co.T} (h : t.bulk ≤ 1048576) : t.count ≤ 1048577 := by have := Co.count_bulk _ t (Nat.le_refl _); omega
theorem small_deep {t : Co.T} (h : t.bulk ≤ 1048576) : t.deep ≤ 1048577 := by have h1 := Co.deep_count _ t (Nat.le_refl _); have := small_count h; omega
/-- Where a count stands. -/
def CntAt (ks : List Co.T) (k m : Nat) : Prop := m = 1 + Co.counts (ks.take k)
theorem CntAt.next {ks : List Co.T} {k m : Nat} (h : CntAt ks k m) (hk : k < ks.length) : CntAt ks (k + 1) (m + ks[k].count) := by
  unfold CntAt at h ⊢
  rw [Co.counts_take ks k hk]; omega
theorem CntAt.le {ks : List Co.T} {k m : Nat} (h : CntAt ks k m) : m ≤ 1 + Co.counts ks := by
  unfold CntAt at h
  have := Co.counts_take_le ks k; omega
theorem CntAt.over {ks : List Co.T} {m : Nat} (h : CntAt ks ks.length m) : m = 1 + Co.counts ks := by
  unfold CntAt at h
  rw [List.take_length] at h; exact h
set_option maxHeartbeats 1600000 in
theorem spec_count : ∀ (N : Nat) (t : Co.T), t.count ≤ N → CntT t := by
  intro N
  induction N with
  | zero => intro t h; have := Co.count_pos t; omega
  | succ N ih =>
    intro t hN hb w v hk
    have hbe := bulk_eq t
    have hce := count_eq t
    have hcs := small_count hb
    obtain ⟨a, c, rfl⟩ := kids_len hk
    have HI := Lib.hid (fun (x : Co.T) (hx : x ∈ t.kids) => ih x (by have := kids_count hx; omega) (by have := Co.bulks_mem hx; omega))
    have HK := Lib.hid hk
    have HCE := Lib.hid hce
    have hln : t.kids.length ≤ 1048576 := by omega
    have hct : 1 + Co.counts t.kids ≤ 1048577 := by omega
    have HE0 := Lib.hid (CellsE.new w t (.slice a t.kids.length c) 68)
    clear ih hN hb hk hbe hcs hce
    go_enter Tryd.func31, Tryd.ntmps31
    go_wp2
    go_loopw [3, 4] (fun m i wr => ∃ k n : Nat, i = .int .i64 k ∧ m = .int .i64 n ∧ k ≤ t.kids.length ∧ CntAt t.kids k n ∧ CellsE wr w.heap.size t (.slice a t.kids.length c) ∧ Below w.heap.size w wr) (fun _ i _ => t.kids.length - (intOf i).toNat)
    case atStart => exact ⟨0, 1, rfl, rfl, by omega, by unfold CntAt; simp [Co.counts], HE0.out, bl1 _ _⟩
    case round =>
      clear HE0
      obtain ⟨k, n, rfl, rfl, hkk, hat, hce, hb⟩ := hrel
      have HAT := Lib.hid hat
      have HB := Lib.hid hb
      have HE := Lib.hid hce
      have HK2 := Lib.hid (HK.out.later hb)
      have hnl := hat.le
      obtain ⟨e0, e1, e2, e3, e4, e5⟩ := hce
      clear hat hb e0 e1 e2 e3 e4
      by_cases hlt : k < t.kids.length
      · obtain ⟨g, o, rfl, ht⟩ := kids_at HK2.out k hlt
        obtain ⟨⟨q0, q1, q2, q3, q4⟩, v, q5, hkv⟩ := tree_cells ht
        have HC := Lib.hid (HI.out t.kids[k] (List.getElem_mem hlt) wr v hkv)
        have HN := Lib.hid (HAT.out.next hlt)
        have hnl2 := HN.out.le
        have k0 : (0 : Int) ≤ k := by omega
        have k1 : (k : Int) < t.kids.length := by omega
        clear ht hkv HAT
        generalize t.kids[k] = x at q0 q1 q2 q3 q4 HC HN hnl2
        go_wp2_with (go_at_call 31; refine HC.out.mono ?_; rintro e w1 ⟨rfl, hb1⟩; have HB1 := Lib.hid (below_then HB.out hb1); have HE1 := Lib.hid (HE.out.later hb1); clear hb1)
        go_roundw
        case rel => exact ⟨k + 1, n + x.count, by go_num, by go_num, by omega, HN.out, HE1.out, HB1.out⟩
        case measure => first | (simp [intOf]; done) | (simp [intOf]; omega)
      · obtain rfl : k = t.kids.length := by omega
        have HN := Lib.hid HAT.out.over
        go_wp2
        go_ret
        exact ⟨ret_ei (by rw [HCE.out, ← HN.out]), HB.out⟩
/-- Where a depth stands. -/
def DepAt (ks : List Co.T) (k m : Nat) : Prop := m = Co.deeps (ks.take k)
theorem DepAt.next {ks : List Co.T} {k m : Nat} (h : DepAt ks k m) (hk : k < ks.length) : DepAt ks (k + 1) (max m ks[k].deep) := by
  unfold DepAt at h ⊢
  rw [Co.deeps_take ks k hk, h]
theorem deeps_take_le (l : List Co.T) (k : Nat) : Co.deeps (l.take k) ≤ Co.deeps l := by
  induction l generalizing k with
  | nil => simp [Co.deeps]
  | cons y l ih =>
    cases k with
    | zero => simp [Co.deeps]
    | succ k => rw [List.take_succ_cons, Co.deeps, Co.deeps]; have := ih k; omega
theorem DepAt.le {ks : List Co.T} {k m : Nat} (h : DepAt ks k m) : m ≤ Co.deeps ks := by
  unfold DepAt at h
  have := deeps_take_le ks k; omega
theorem DepAt.over {ks : List Co.T} {m : Nat} (h : DepAt ks ks.length m) : m = Co.deeps ks := by
  unfold DepAt at h
  rw [List.take_length] at h; exact h
end Go.Proofs.YtbadepiakkhabaaDoor.Cr
