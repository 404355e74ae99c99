/- Joined texts: N28, U16, V8. No conditions besides those that each states. -/
import Derived.Deep.RegionHeld3
import Derived.Deep.RegionLaw
import Derived.Test.YtckjmmapekaapaaGreatDoorZ20
import Derived.Test.YtckjmmapekaapaaGreatDoorZ21
import Derived.Test.YtckjmmapekaapaaGreatDoorZ23
import Derived.Test.YtckjmmapekaapaaGreatDoorZ30
/- EraseLines of the reference model. No conditions. -/
namespace Go.Proofs.YtckjmmapekaapaaGreatDoor
open Go.RowKit
set_option linter.unusedVariables false

theorem CellsE.keep {w w' : World} {b : Nat} {t : Ex.T} {v : Value} (h : CellsE w b t v) (hh : w'.heap[b]? = w.heap[b]?) : CellsE w' b t v := by
  obtain ⟨a0, a1, a2, a3, a4⟩ := h
  exact ⟨(cell_keep hh 0).trans a0, (cell_keep hh 1).trans a1, (cell_keep hh 2).trans a2, (cell_keep hh 3).trans a3, (cell_keep hh 4).trans a4⟩
abbrev iexN (t : Ex.T) (v : Value) : Obj := .cells #[.int .i64 t.kind, .string t.text, .int .i64 t.num, .int .i64 t.line, v] 47
theorem ser_next {w wr w6 w8 : World} {t x : Ex.T} {A v v6 : Value} {ld : List El} {g8 c8 : Nat} {F6 : List Nat} {pre : List Ex.T}
    (ha : CellsE wr w.heap.size t A) (hg : FreeE wr (w.heap.size + 1) 0 ⟨#[]⟩ 0 0 (.slice none 0 0)) (hf8 : FreeE w8 (w.heap.size + 1 + 1) t.kind t.text t.num 0 v) (hap : AppK (w.heap.size + 3) wr v ld) (hld : ld.map Prod.fst = pre) (hb : Below w.heap.size w wr) (hlt : w.heap.size + 3 ≤ wr.heap.size)
    (o6 : OwnK w6 v6 x.kids F6) (f6 : Foot wr.drew.heap.size w6 F6) (b6 : Below wr.heap.size wr w6)
    (hown : w8.ownsRow (w.heap.size + 3) 47 5 (.slice (some ⟨g8, 0, none⟩) (ld.length + 1) c8) (ld.length + 1) (rowV ld ++ rowV [(x, v6, F6)])) (hgr : (w6.alloc (iexN x v6)).grownBy w8 v.ownBlock) (hor : v.ownBlock = some g8 ∨ (w6.alloc (iexN x v6)).heap.size ≤ g8) :
    CellsE (w8.setCell ⟨w.heap.size + 1 + 1, 4, none⟩ (.slice (some ⟨g8, 0, none⟩) (ld.length + 1) c8)) w.heap.size t A ∧ FreeE (w8.setCell ⟨w.heap.size + 1 + 1, 4, none⟩ (.slice (some ⟨g8, 0, none⟩) (ld.length + 1) c8)) (w.heap.size + 1) 0 ⟨#[]⟩ 0 0 (.slice none 0 0) ∧
    FreeE (w8.setCell ⟨w.heap.size + 1 + 1, 4, none⟩ (.slice (some ⟨g8, 0, none⟩) (ld.length + 1) c8)) (w.heap.size + 1 + 1) t.kind t.text t.num 0 (.slice (some ⟨g8, 0, none⟩) (ld.length + 1) c8) ∧ AppK (w.heap.size + 3) (w8.setCell ⟨w.heap.size + 1 + 1, 4, none⟩ (.slice (some ⟨g8, 0, none⟩) (ld.length + 1) c8)) (.slice (some ⟨g8, 0, none⟩) (ld.length + 1) c8) (ld ++ [(x, v6, F6)]) ∧
    (ld ++ [(x, v6, F6)]).map Prod.fst = pre ++ [x] ∧ Below w.heap.size w (w8.setCell ⟨w.heap.size + 1 + 1, 4, none⟩ (.slice (some ⟨g8, 0, none⟩) (ld.length + 1) c8)) := by
  have b7 : Below wr.heap.size wr (w6.alloc (iexN x v6)) := b6.alloc b6.size _
  have hsz : (w6.alloc (iexN x v6)).heap.size = w6.heap.size + 1 := by simp
  have hs6 := b6.size
  have hs8 := hgr.size
  have hap7 := hap.later b7
  have old : ∀ b, b < w.heap.size + 3 → w8.heap[b]? = wr.heap[b]? := fun b hb2 => by
    rw [hgr.block b (by omega) (fun e => by have h1 := (ownBlock_lt hap.1 e.symm).1; omega), b7.block b (by omega)]
  have hset : ∀ b, b ≠ w.heap.size + 1 + 1 → ∀ u : Value, (w8.setCell ⟨w.heap.size + 1 + 1, 4, none⟩ u).heap[b]? = w8.heap[b]? := fun b hb2 u => Below.heap_setCell w8 _ u b hb2
  refine ⟨ha.keep ((hset _ (by omega) _).trans (old _ (by omega))), hg.keep ((hset _ (by omega) _).trans (old _ (by omega))), hf8.fifth _, ?_, by rw [List.map_append, hld]; rfl, ?_⟩
  · refine AppK.set (AppK.push (p := (x, v6, F6)) hap7 (OwnK.keep _ (fun b hb2 => ?_) o6) (fun b hb2 => ?_) hown hgr rfl hor) (by omega) _ _
    · have := f6 b hb2
      exact (bl1 w6 _).block b this.2
    · have h1 := f6 b hb2
      have h2 : wr.drew.heap.size = wr.heap.size := rfl
      rw [h2] at h1
      refine ⟨by omega, by omega, fun h3 => ?_, fun e => ?_⟩
      · have := hap.2.2.1 b h3; omega
      · have := (ownBlock_lt hap.1 e).2; omega
  · have h9 : Below w.heap.size w w8 := (hb.trans (b7.mono hb.size)).grown hgr (by have := hb.size; omega) (fun k e => by have := (ownBlock_lt hap.1 e).1; omega)
    exact h9.setCell (p := ⟨w.heap.size + 1 + 1, 4, none⟩) (by show _ ≤ _ + 1 + 1; omega) _
end Go.Proofs.YtckjmmapekaapaaGreatDoor
/- Units without lines; the reference model's EraseUnitLines: its loop over records. No conditions. -/
namespace Go.Proofs.YtckjmmapekaapaaGreatDoor
open Go.RowKit
set_option linter.unusedVariables false

def Rc.erase (r : Rc) : Rc := ⟨r.name, r.fields, 0⟩
def Pc.erase (p : Pc) : Pc := ⟨p.name, p.params, p.locals, p.body.erase, 0⟩
def Un.erase (u : Un) : Un := ⟨u.recs.map Rc.erase, u.globs, u.procs.map Pc.erase⟩
theorem wpList_append_strs {w : World} {l : List ByteArray} {ad : Addr} {x : Value} {ops : Array Oper} {rest : List Oper} {o : Oper} {a : Act} {Q : Exit → Act → World → Prop} (hgd : o.guard = none) (s y : Operand)
    (ho : o.op = .call { callee := .builtin .append, args := #[s, y], argTypes := #[23, 23] }) (hs : a.eval s = .slice (some ad) 0 0) (hy : a.eval y = x) (hx : Is w (strsD l) x) (hl : l.length ≤ 1048576)
    (h : ∀ w' v' F, Own w' (strsD l) v' F → Foot w.heap.size w' F → Below w.heap.size w w' → wpList Tryz.prog ops Q rest (a.put o.dst v') w') : wpList Tryz.prog ops Q (o :: rest) a w := by
  refine wpList_plain hgd fun K hK => ?_
  obtain ⟨v', w', F, hr, h2, h3, h4⟩ := append_empty o.type ad x l w hx hl
  unfold Oper.wp execOp
  simp only [ho, resolve, invoke, builtin, Sem.run_bind, Sem.run_pure, Result.andThen_ok, List.map_toArray, List.map_cons, List.map_nil, hs, hy, hr]
  exact hK _ _ (h w' v' F h2 h3 h4)
/-- What lies in memory while the model erases: the parameter, the result, the local variable, its globals. -/
def EuS (w : World) (A : List Value) (b3 : Nat) (c0 c1 c2 : Value) (l : List ByteArray) (Fg : List Nat) (wr : World) : Prop := (Var wr w.heap.size A ∧ Var wr (w.heap.size + 1) [.slice none 0 0, .slice none 0 0, .slice none 0 0] ∧ Var wr b3 [c0, c1, c2]) ∧ Own wr (strsD l) c1 Fg ∧ Below w.heap.size w wr ∧ (w.heap.size + 2 ≤ b3 ∧ b3 < wr.heap.size) ∧ ∀ b ∈ Fg, w.heap.size + 2 ≤ b ∧ b < b3
theorem EuS.mono {w wr wx : World} {A : List Value} {b3 : Nat} {c0 c1 c2 : Value} {l : List ByteArray} {Fg : List Nat} (h : EuS w A b3 c0 c1 c2 l Fg wr) (hb : Below (b3 + 1) wr wx) : EuS w A b3 c0 c1 c2 l Fg wx := by
  obtain ⟨⟨h1, h2, h3⟩, h4, h5, ⟨h6, h7⟩, h8⟩ := h
  have hs := hb.size
  exact ⟨⟨h1.keep (hb.block _ (by omega)), h2.keep (hb.block _ (by omega)), h3.keep (hb.block _ (by omega))⟩, Own.keep _ _ _ (fun b hbF => hb.block b (by have := h8 b hbF; omega)) h4, h5.trans (hb.mono (by omega)), ⟨h6, by omega⟩, h8⟩
theorem EuS.set {w wr : World} {A : List Value} {b3 : Nat} {c0 c1 c2 : Value} {l : List ByteArray} {Fg : List Nat} (h : EuS w A b3 c0 c1 c2 l Fg wr) (j : Nat) (u d0 d2 : Value) (he : ([c0, c1, c2] : List Value).set j u = [d0, c1, d2]) : EuS w A b3 d0 c1 d2 l Fg (wr.setCell ⟨b3, j, none⟩ u) := by
  obtain ⟨⟨h1, h2, h3⟩, h4, h5, ⟨h6, h7⟩, h8⟩ := h
  have h9 := h3.set j u
  rw [he] at h9
  exact ⟨⟨h1.oth _ j (by omega) u, h2.oth _ j (by omega) u, h9⟩, Own.keep _ _ _ (fun b hbF => set_keep (by have := h8 b hbF; omega)) h4, h5.setCell (p := ⟨b3, j, none⟩) (by show _ ≤ b3; omega) u, ⟨h6, by rw [set_size]; exact h7⟩, h8⟩
theorem held_le {w0 W W' : World} {A B C : Prop} {n : Nat} (hb : Below W.heap.size W W') (h : A ∧ B ∧ C ∧ Below n w0 W) : w0.heap.size ≤ W.heap.size := h.2.2.2.size
theorem held_last {w0 W : World} {A B C : Prop} {n : Nat} (h : A ∧ B ∧ C ∧ Below n w0 W) : Below n w0 W := h.2.2.2
theorem held_then {w0 W W' : World} {A B C : Prop} {n : Nat} (h : A ∧ B ∧ C ∧ Below n w0 W) (hn : n ≤ w0.heap.size) (hb : Below W.heap.size W W') : Below n w0 W' := h.2.2.2.trans (hb.mono (Nat.le_trans hn h.2.2.2.size))
theorem held_push {w0 W W' : World} {A B C : Prop} {n : Nat} (h : A ∧ B ∧ C ∧ Below n w0 W) (hb : Below n W W') : Below n w0 W' := h.2.2.2.trans hb
theorem held_set {w0 W : World} {A B C : Prop} {n b j : Nat} {u : Value} (h : A ∧ B ∧ C ∧ Below n w0 W) (hb : n ≤ b) : Below n w0 (W.setCell ⟨b, j, none⟩ u) := h.2.2.2.setCell (p := ⟨b, j, none⟩) hb u
theorem new_at (W : World) (A : Array Value) (T : TypeId) (us : List Value) (h : A.toList = us) : ∀ j u, us[j]? = some u → (W.alloc (.cells A T)).cell? ((⟨W.heap.size, 0, none⟩ : Addr).add j) = some u := by
  intro j u hj
  rw [add_lit, Nat.zero_add]
  exact (Var.new W A T j u (by rw [h]; exact hj)).1
/-- An erased record that was just made. -/
theorem recE_els {B : Nat} {w w2 : World} {x : Rc} {Fs : List (List Nat)} {v : Value} {z1 : Option Addr} {d1 : Nat} {F1 : List Nat} (o1 : Own w2 (strsD x.fields) (.slice z1 x.fields.length d1) F1) (f1 : Foot w.heap.size w2 F1) (hB : B ≤ w.heap.size) (hF : ∀ b ∈ Fs.flatten, b < w.heap.size) (hv : ∀ b, v.ownBlock = some b → b < w.heap.size) :
    (∀ e ∈ ([(.str x.name, .string x.name, []), (strsD x.fields, .slice z1 x.fields.length d1, F1), (.int 0, .int .i64 0, [])] : List (D × Value × List Nat)), Own w2 e.1 e.2.1 e.2.2 ∧ ∀ b ∈ e.2.2, B ≤ b ∧ b < w2.heap.size ∧ b ∉ Fs.flatten ∧ v.ownBlock ≠ some b) ∧ ([(.str x.name, .string x.name, []), (strsD x.fields, .slice z1 x.fields.length d1, F1), (.int 0, .int .i64 0, [])] : List (D × Value × List Nat)).Pairwise (fun x y => Apart x.2.2 y.2.2) := by
  constructor
  · intro e he
    simp only [List.mem_cons, List.not_mem_nil, or_false] at he
    rcases he with rfl | rfl | rfl
    · exact ⟨own_str', fun b hb => by cases hb⟩
    · exact ⟨o1, fun b hb => ⟨Nat.le_trans hB (f1 b hb).1, (f1 b hb).2, fun h => by have h1 := hF b h; have h2 := (f1 b hb).1; omega, fun h => by have h1 := hv b h; have h2 := (f1 b hb).1; omega⟩⟩
    · exact ⟨own_int', fun b hb => by cases hb⟩
  · simp [apart_nil, nil_apart]
theorem heldA_last {w0 W : World} {A : Prop} {n : Nat} (h : A ∧ Below n w0 W) : Below n w0 W := h.2
theorem heldA_then {w0 W W' : World} {A : Prop} {n : Nat} (h : A ∧ Below n w0 W) (hn : n ≤ w0.heap.size) (hb : Below W.heap.size W W') : Below n w0 W' := h.2.trans (hb.mono (Nat.le_trans hn h.2.size))
theorem heldA_push {w0 W W' : World} {A : Prop} {n : Nat} (h : A ∧ Below n w0 W) (hb : Below n W W') : Below n w0 W' := h.2.trans hb
theorem heldA_set {w0 W : World} {A : Prop} {n b j : Nat} {u : Value} (h : A ∧ Below n w0 W) (hb : n ≤ b) : Below n w0 (W.setCell ⟨b, j, none⟩ u) := h.2.setCell (p := ⟨b, j, none⟩) hb u
/-- Nothing below n is turned, and the block bt stays. -/
def Bt (n bt : Nat) (W0 W : World) : Prop := Below n W0 W ∧ W.heap[bt]? = W0.heap[bt]?
theorem bt_start {n bt : Nat} {W0 : World} : Bt n bt W0 W0.drew := ⟨(Below.refl _ _).drew, rfl⟩
theorem bt_last {n bt : Nat} {W0 W : World} {A : Prop} (h : A ∧ Bt n bt W0 W) : Bt n bt W0 W := h.2
theorem bt_then {n bt : Nat} {W0 W W' : World} {A : Prop} (h : A ∧ Bt n bt W0 W) (hn : n ≤ W0.heap.size) (hbt : bt < W0.heap.size) (hb : Below W.heap.size W W') : Bt n bt W0 W' :=
  ⟨h.2.1.trans (hb.mono (Nat.le_trans hn h.2.1.size)), (hb.block bt (Nat.lt_of_lt_of_le hbt h.2.1.size)).trans h.2.2⟩
theorem bt_push {n bt : Nat} {W0 W W' : World} {A : Prop} (h : A ∧ Bt n bt W0 W) (hb : Below n W W') (hk : W'.heap[bt]? = W.heap[bt]?) : Bt n bt W0 W' := ⟨h.2.1.trans hb, hk.trans h.2.2⟩
theorem bt_set {n bt : Nat} {W0 W : World} {A : Prop} {b j : Nat} {u : Value} (h : A ∧ Bt n bt W0 W) (hb : n ≤ b) (hne : bt ≠ b) : Bt n bt W0 (W.setCell ⟨b, j, none⟩ u) := ⟨h.2.1.setCell (p := ⟨b, j, none⟩) hb u, (set_keep hne).trans h.2.2⟩
/-- An erased procedure that was just made. -/
theorem procE_els {B : Nat} {w w2 : World} {x : Pc} {Fs : List (List Nat)} {v : Value} {z1 z2 z3 : Option Addr} {d1 d2 d3 : Nat} {F1 F2 F3 : List Nat} (o1 : OwnP w2 x.erase (.slice z1 x.params.length d1) (.slice z2 x.locals.length d2) (.slice z3 x.body.erase.kids.length d3) F1 F2 F3) (f1 : Foot w.heap.size w2 F1 ∧ Foot w.heap.size w2 F2 ∧ Foot w.heap.size w2 F3) (hB : B ≤ w.heap.size) (hF : ∀ b ∈ Fs.flatten, b < w.heap.size) (hv : ∀ b, v.ownBlock = some b → b < w.heap.size) :
    (∀ e ∈ ([(.str x.name, .string x.name, []), (strsD x.params, .slice z1 x.params.length d1, F1), (strsD x.locals, .slice z2 x.locals.length d2, F2), (.int x.body.erase.kind, .int .i64 x.body.erase.kind, []), (.str x.body.erase.text, .string x.body.erase.text, []), (.int x.body.erase.num, .int .i64 x.body.erase.num, []), (.int x.body.erase.line, .int .i64 x.body.erase.line, []), (.ex x.body.erase.kids, .slice z3 x.body.erase.kids.length d3, F3), (.int 0, .int .i64 0, [])] : List (D × Value × List Nat)), Own w2 e.1 e.2.1 e.2.2 ∧ ∀ b ∈ e.2.2, B ≤ b ∧ b < w2.heap.size ∧ b ∉ Fs.flatten ∧ v.ownBlock ≠ some b) ∧ ([(.str x.name, .string x.name, []), (strsD x.params, .slice z1 x.params.length d1, F1), (strsD x.locals, .slice z2 x.locals.length d2, F2), (.int x.body.erase.kind, .int .i64 x.body.erase.kind, []), (.str x.body.erase.text, .string x.body.erase.text, []), (.int x.body.erase.num, .int .i64 x.body.erase.num, []), (.int x.body.erase.line, .int .i64 x.body.erase.line, []), (.ex x.body.erase.kids, .slice z3 x.body.erase.kids.length d3, F3), (.int 0, .int .i64 0, [])] : List (D × Value × List Nat)).Pairwise (fun x y => Apart x.2.2 y.2.2) := by
  have key : ∀ F : List Nat, Foot w.heap.size w2 F → ∀ b ∈ F, B ≤ b ∧ b < w2.heap.size ∧ b ∉ Fs.flatten ∧ v.ownBlock ≠ some b := fun F f b hb => ⟨Nat.le_trans hB (f b hb).1, (f b hb).2, fun h => by have h1 := hF b h; have h2 := (f b hb).1; omega, fun h => by have h1 := hv b h; have h2 := (f b hb).1; omega⟩
  constructor
  · intro e he
    simp only [List.mem_cons, List.not_mem_nil, or_false] at he
    rcases he with rfl | rfl | rfl | rfl | rfl | rfl | rfl | rfl | rfl
    · exact ⟨own_str', fun b hb => by cases hb⟩
    · exact ⟨o1.1.1, key _ f1.1⟩
    · exact ⟨o1.1.2.1, key _ f1.2.1⟩
    · exact ⟨own_int', fun b hb => by cases hb⟩
    · exact ⟨own_str', fun b hb => by cases hb⟩
    · exact ⟨own_int', fun b hb => by cases hb⟩
    · exact ⟨own_int', fun b hb => by cases hb⟩
    · exact ⟨o1.1.2.2, key _ f1.2.2⟩
    · exact ⟨own_int', fun b hb => by cases hb⟩
  · simp [apart_nil, nil_apart, o1.2.1, o1.2.2.1, o1.2.2.2]
theorem OwnP.mk7 {w : World} {x : Pc} {v1 v2 v3 : Value} {F1 F2 F3 : List Nat} (h1 : Own w (strsD x.params) v1 F1) (h2 : Own w (strsD x.locals) v2 F2) (h3 : Own w (.ex x.body.erase.kids) v3 F3) (a : Apart F1 F2) (b : Apart F1 F3) (c : Apart F2 F3) : OwnP w x.erase v1 v2 v3 F1 F2 F3 := ⟨⟨h1, h2, h3⟩, a, b, c⟩
/-- The same, with the erased records. -/
def EuP (w : World) (A : List Value) (b3 B2 : Nat) (c0 c1 c2 : Value) (l : List ByteArray) (Fg : List Nat) (rs : List Rc) (F1 : List Nat) (wr : World) : Prop := EuS w A b3 c0 c1 c2 l Fg wr ∧ Own wr (recsD rs) c0 F1 ∧ (∀ b ∈ F1, b3 < b ∧ b < B2) ∧ b3 < B2 ∧ B2 ≤ wr.heap.size
theorem EuP.mono {w wr wx : World} {A : List Value} {b3 B2 : Nat} {c0 c1 c2 : Value} {l : List ByteArray} {Fg : List Nat} {rs : List Rc} {F1 : List Nat} (h : EuP w A b3 B2 c0 c1 c2 l Fg rs F1 wr) (hb : Below B2 wr wx) : EuP w A b3 B2 c0 c1 c2 l Fg rs F1 wx :=
  ⟨h.1.mono (hb.mono h.2.2.2.1), Own.keep _ _ _ (fun b hbF => hb.block b (h.2.2.1 b hbF).2) h.2.1, h.2.2.1, h.2.2.2.1, Nat.le_trans h.2.2.2.2 hb.size⟩
theorem EuP.set {w wr : World} {A : List Value} {b3 B2 : Nat} {c0 c1 c2 : Value} {l : List ByteArray} {Fg : List Nat} {rs : List Rc} {F1 : List Nat} (h : EuP w A b3 B2 c0 c1 c2 l Fg rs F1 wr) (u : Value) : EuP w A b3 B2 c0 c1 u l Fg rs F1 (wr.setCell ⟨b3, 2, none⟩ u) :=
  ⟨h.1.set 2 u c0 u rfl, Own.keep _ _ _ (fun b hbF => set_keep (by have := (h.2.2.1 b hbF).1; omega)) h.2.1, h.2.2.1, h.2.2.2.1, by rw [set_size]; exact h.2.2.2.2⟩
theorem AppD.bounds {B : Nat} {w : World} {T : TypeId} {z n : Nat} {v : Value} {l : List D} {Fs : List (List Nat)} (h : AppD B w T z v n l Fs) : (∀ b ∈ Fs.flatten, b < w.heap.size) ∧ ∀ b, v.ownBlock = some b → b < w.heap.size :=
  ⟨fun b hb => (h.2.2.1 b hb).2, fun b hb => (row_lt h.1.choose_spec.1 hb).2⟩
end Go.Proofs.YtckjmmapekaapaaGreatDoor
/- The reference model's LocalNames. No conditions. -/
namespace Go.Proofs.YtckjmmapekaapaaGreatDoor
open Go.RowKit
set_option linter.unusedVariables false

/-- The local names of a procedure; none if there is no such procedure. -/
def lnames (u : Un) (k : Int) : List ByteArray := if u.valid = true ∧ 0 ≤ k then (match u.procs[k.toNat]? with | some p => locs u p | none => []) else []
theorem held_tt {p : Prop} {w W W2 : World} (h : p ∧ Below w.heap.size w W) (hb : Below W.heap.size W W2) : Below w.heap.size w W2 := below_then h.2 hb
theorem owns_base {w : World} {B B2 : Nat} {v : Value} {l : List ByteArray} (h : Owns w B v l) (hB : B2 ≤ B) : Owns w B2 v l := by
  refine ⟨h.1, ?_⟩
  rcases h.2 with hn | ⟨g, cap, cur, hv, hg, r⟩
  · exact .inl hn
  · exact .inr ⟨g, cap, cur, hv, Nat.le_trans hB hg, r⟩
def RetN (w : World) (l : List ByteArray) (e : Ending) (w' : World) : Prop := ∃ v', e = .returned v' ∧ Owns w' w.heap.size v' l ∧ Below w.heap.size w w'
theorem lnames_bad {u : Un} {k : Int} (h : u.valid = false) : lnames u k = [] := by unfold lnames; rw [h]; simp
theorem lnames_neg {u : Un} {k : Int} (h : k < 0) : lnames u k = [] := by unfold lnames; rw [if_neg (by omega)]
theorem lnames_far {u : Un} {k : Int} (h : (u.procs.length : Int) ≤ k) : lnames u k = [] := by
  unfold lnames
  split
  · rw [List.getElem?_eq_none (by omega)]
  · rfl
theorem lnames_at {u : Un} {n : Nat} (hv : u.valid = true) (h : n < u.procs.length) : lnames u (n : Int) = locs u u.procs[n] := by
  unfold lnames
  rw [if_pos ⟨hv, by omega⟩, Int.toNat_natCast, List.getElem?_eq_getElem h]
theorem own_none (w : World) (B : Nat) : Owns w B (.slice none 0 0) [] := World.ownsRow_nil w B _ _
/-- What a valid unit's procedure has. -/
theorem proc_ok {u : Un} (h : u.valid = true) {p : Pc} (hp : p ∈ u.procs) : p.params.length ≤ 6 ∧ p.locals.length ≤ 8 ∧ p.body.kind = 14 ∧ p.body.count ≤ 600 ∧ u.procs.length ≤ 12 := by
  unfold Un.valid at h
  simp only [Bool.and_eq_true, decide_eq_true_eq] at h
  have h1 := List.all_eq_true.1 h.2.2.2.2 p hp
  unfold Pc.valid exOk nmOk at h1
  simp only [Bool.and_eq_true, decide_eq_true_eq] at h1
  exact ⟨h1.2.1.2, h1.2.2.1.2, h1.2.2.2.2.1, h1.2.2.2.2.2.1, h.2.1⟩
set_option maxRecDepth 100000 in
set_option maxHeartbeats 3200000 in
theorem spec_locals (u : Un) (hb : u.bulk ≤ 1048576) (k : Int) (w : World) (v1 v2 v3 : Value) (h : UnIs w u v1 v2 v3) : Calls Tryz.prog 6 #[unV v1 v2 v3, .int .i64 k] w (RetN w (lnames u k)) := by
  unfold RetN
  obtain ⟨h1, h2, h3⟩ := h
  have HV := Lib.hid (fun W (hW : Below w.heap.size w W) => spec_validunit u hb W v1 v2 v3 ⟨h1.later hW, h2.later hW, h3.later hW⟩)
  have HU := Lib.hid (⟨h1, h2, h3⟩ : UnIs w u v1 v2 v3)
  have H3 := Lib.hid h3
  obtain ⟨a1, c1, rfl⟩ := is_slice h1
  obtain ⟨a2, c2, rfl⟩ := is_slice h2
  obtain ⟨a3, c3, rfl⟩ := is_slice h3
  have B0 := Lib.hid (bl1 w (.cells #[.slice a1 u.recs.length c1, .slice a2 u.globs.length c2, .slice a3 u.procs.length c3] 32))
  have V0 := Lib.hid (Var.new w #[.slice a1 u.recs.length c1, .slice a2 u.globs.length c2, .slice a3 u.procs.length c3] 32)
  obtain ⟨w1, hw1⟩ : ∃ W, w.alloc (.cells #[.slice a1 u.recs.length c1, .slice a2 u.globs.length c2, .slice a3 u.procs.length c3] 32) = W := ⟨_, rfl⟩
  rw [hw1] at B0 V0
  have HW1 := Lib.hid hw1
  have HVC := Lib.hid (HV.out w1 B0.out)
  have HZW : Hid (w1.heap.size = w.heap.size + 1) := Lib.hid (by rw [← hw1, World.size_alloc])
  clear h1 h2 h3 hw1 HV
  cases hv : u.valid
  case false =>
    rw [lnames_bad hv]
    rw [hv] at HVC
    clear hv
    go_enter Tryz.func6, Tryz.ntmps6
    go_wp2_with fail
    rw [HW1.out]
    have x0 := (V0.out 0 _ rfl).1
    have x1 := (V0.out 1 _ rfl).1
    have x2 := (V0.out 2 _ rfl).1
    go_wp2_with fail
    refine HVC.out.mono ?_
    rintro e w2 ⟨rfl, b2⟩
    have B2 := Lib.hid (below_then B0.out b2)
    clear b2
    go_wp2
    go_ret
    exact ⟨_, rfl, own_none _ _, B2.out⟩
  rw [hv] at HVC
  have HVD := Lib.hid hv
  by_cases hk0 : k < 0
  · rw [lnames_neg hk0]
    clear hv
    go_enter Tryz.func6, Tryz.ntmps6
    go_wp2_with fail
    rw [HW1.out]
    have x0 := (V0.out 0 _ rfl).1
    have x1 := (V0.out 1 _ rfl).1
    have x2 := (V0.out 2 _ rfl).1
    go_wp2_with fail
    refine HVC.out.mono ?_
    rintro e w2 ⟨rfl, b2⟩
    have B2 := Lib.hid (below_then B0.out b2)
    clear b2
    go_wp2
    go_ret
    exact ⟨_, rfl, own_none _ _, B2.out⟩
  have hk1 : 0 ≤ k := by omega
  by_cases hkn : (u.procs.length : Int) ≤ k
  · rw [lnames_far hkn]
    clear hv
    go_enter Tryz.func6, Tryz.ntmps6
    go_wp2_with fail
    rw [HW1.out]
    have x0 := (V0.out 0 _ rfl).1
    have x1 := (V0.out 1 _ rfl).1
    have x2 := (V0.out 2 _ rfl).1
    go_wp2_with fail
    refine HVC.out.mono ?_
    rintro e w2 ⟨rfl, b2⟩
    have B2 := Lib.hid (below_then B0.out b2)
    have x2 := ((V0.out.later b2) 2 _ rfl).1
    clear b2
    go_wp2
    go_ret
    exact ⟨_, rfl, own_none _ _, B2.out⟩
  obtain ⟨n, rfl⟩ : ∃ n : Nat, (n : Int) = k := ⟨k.toNat, by omega⟩
  have hn : n < u.procs.length := by omega
  rw [lnames_at hv hn]
  have HPO := Lib.hid (proc_ok hv (List.getElem_mem hn))
  have hpb : u.procs[n].body.bulk ≤ 1048576 := by
    have h1 : u.procs[n].bulk ≤ wsum Pc.bulk u.procs := wsum_mem Pc.bulk (List.getElem_mem hn)
    have h2 : u.procs[n].body.bulk ≤ u.procs[n].bulk := by unfold Pc.bulk; omega
    unfold Un.bulk procsB at hb
    omega
  obtain ⟨l0, hl0⟩ : ∃ l, locs u u.procs[n] = l := ⟨_, rfl⟩
  rw [hl0]
  have HL0 : Hid (coll u u.procs[n].body (u.procs[n].params ++ u.procs[n].locals) = l0) := Lib.hid hl0
  clear hl0
  have HC := Lib.hid (fun W (hu : UnIs W u (.slice a1 u.recs.length c1) (.slice a2 u.globs.length c2) (.slice a3 u.procs.length c3)) => spec_collect u hb W _ _ _ hu u.procs[n].body.count u.procs[n].body (Nat.le_refl _) hpb)
  unfold CollT RetL at HC
  clear hv hpb hb
  go_enter Tryz.func6, Tryz.ntmps6
  go_wp2_with fail
  rw [HW1.out]
  have x0 := (V0.out 0 _ rfl).1
  have x1 := (V0.out 1 _ rfl).1
  have x2 := (V0.out 2 _ rfl).1
  go_wp2_with fail
  refine HVC.out.mono ?_
  rintro e w2 ⟨rfl, b2⟩
  have B2 := Lib.hid (below_then B0.out b2)
  have V2 := Lib.hid (V0.out.later b2)
  have x2 := (V2.out 2 _ rfl).1
  obtain ⟨g, o, rfl, q0, ⟨y5, q1, k5⟩, ⟨y6, q2, k6⟩, ⟨q3, q4, q5, q6⟩, ⟨y7, q7, k7⟩, q8⟩ := proc_at (H3.out.later B2.out) n hn
  have HZ2 : Hid (w.heap.size + 1 ≤ w2.heap.size) := Lib.hid (by have h1 := b2.size; have h2 := HZW.out; omega)
  have n0 : (0 : Int) ≤ (n : Int) := by omega
  have n1 : (n : Int) < u.procs.length := by omega
  clear b2 hk0 hkn
  generalize u.procs[n] = p at q0 q3 q4 q5 q6 q8 k5 k6 k7 HPO HC HL0
  obtain ⟨e5, d5, rfl⟩ := is_slice k5
  obtain ⟨e6, d6, rfl⟩ := is_slice k6
  have HK7 := Lib.hid k7
  obtain ⟨e7, d7, rfl⟩ := kids_len k7
  have n3 := bl1 w2 (.cells #[.string p.name, .slice e5 p.params.length d5, .slice e6 p.locals.length d6, .int .i64 p.body.kind, .string p.body.text, .int .i64 p.body.num, .int .i64 p.body.line, .slice e7 p.body.kids.length d7, .int .i64 p.line] 49)
  have VP := Lib.hid (Var.new w2 #[.string p.name, .slice e5 p.params.length d5, .slice e6 p.locals.length d6, .int .i64 p.body.kind, .string p.body.text, .int .i64 p.body.num, .int .i64 p.body.line, .slice e7 p.body.kids.length d7, .int .i64 p.line] 49)
  obtain ⟨w3, hw3⟩ : ∃ W, w2.alloc (.cells #[.string p.name, .slice e5 p.params.length d5, .slice e6 p.locals.length d6, .int .i64 p.body.kind, .string p.body.text, .int .i64 p.body.num, .int .i64 p.body.line, .slice e7 p.body.kids.length d7, .int .i64 p.line] 49) = W := ⟨_, rfl⟩
  have HW3 := Lib.hid hw3
  have HZ3 : Hid (w3.heap.size = w2.heap.size + 1) := Lib.hid (by rw [← hw3, World.size_alloc])
  rw [hw3] at n3 VP
  have B3 := Lib.hid (below_then B2.out n3)
  have N3 := Lib.hid n3
  have V3 := Lib.hid (V2.out.later n3)
  have K5 := Lib.hid (fun W (hW : Below w3.heap.size w3 W) => (k5.later n3).later hW)
  have K6 := Lib.hid (fun W (hW : Below w3.heap.size w3 W) => (k6.later n3).later hW)
  clear n3 hw3 k5 k6 k7
  have HPO1 : p.params.length ≤ 6 ∧ p.locals.length ≤ 8 := ⟨HPO.out.1, HPO.out.2.1⟩
  obtain ⟨lp, ll⟩ := HPO1
  go_wp2_with fail
  rw [HW3.out]
  clear x0 x1 x2 q0 q1 q2 q3 q4 q5 q6 q7 q8
  have HS : Hid (∀ W, Below w3.heap.size w3 W → (W.cell? ⟨w2.heap.size, 1, none⟩ = some (.slice e5 p.params.length d5) ∧ W.cell? ⟨w2.heap.size, 2, none⟩ = some (.slice e6 p.locals.length d6)) ∧ Below w3.heap.size w3 W) := Lib.hid (fun W hW => ⟨⟨((VP.out.later hW) 1 _ rfl).1, ((VP.out.later hW) 2 _ rfl).1⟩, hW⟩)
  go_region_held3 (fun W => (W.cell? ⟨w2.heap.size, 1, none⟩ = some (.slice e5 p.params.length d5) ∧ W.cell? ⟨w2.heap.size, 2, none⟩ = some (.slice e6 p.locals.length d6)) ∧ Below w3.heap.size w3 W) (first | (with_reducible assumption) | (with_reducible exact HS.out _ (Below.refl _ _).drew) | (with_reducible exact HS.out _ (held_tt (by assumption) (bl1 _ _))) | (with_reducible exact HS.out _ b5) | (with_reducible exact HS.out _ b6)) (first
    | (refine step_append_more (B := w3.heap.size) rfl (.tmp 26) (.tmp 28) rfl rfl rfl (own_first w3.drew w3.heap.size rfl) (K5.out _ ((Below.refl w3.heap.size w3).drew.alloc (Nat.le_refl _) _)) (by simp; omega) (by simp) ?_; intro v5 w5 o5 g5 m5; have b5 := below_grown (w0 := w3) ((Below.refl w3.heap.size w3).drew.alloc (Nat.le_refl _) (.cells #[] 9)) (own_first w3.drew w3.heap.size rfl) (Nat.le_refl _) g5)
    | (refine step_append_more (B := w3.heap.size) rfl (.tmp 29) (.tmp 31) rfl rfl rfl o5 (K6.out _ b5) (by simp; omega) b5.size ?_; intro v6 w6 o6 g6 m6; have b6 := below_grown b5 o5 (Nat.le_refl _) g6))
  all_goals
    rw [List.nil_append] at o6
    have HO6 := Lib.hid o6
    have HB6 := Lib.hid b6
    have HC6 := Lib.hid (HC.out w3 ⟨HU.out.1.later B3.out, HU.out.2.1.later B3.out, HU.out.2.2.later B3.out⟩ (p.params ++ p.locals) w6 _ v6 (Kids.later HK7.out N3.out) b6 o6 (by rw [List.length_append]; have h1 := HPO.out.2.2.2.1; omega))
    have V6 := V3.out.later b6
    have P6 := VP.out.later b6
    have x0 := (V6 0 _ rfl).1
    have x1 := (V6 1 _ rfl).1
    have x2 := (V6 2 _ rfl).1
    have q3 := (P6 3 _ rfl).1
    have q4 := (P6 4 _ rfl).1
    have q5 := (P6 5 _ rfl).1
    have q6 := (P6 6 _ rfl).1
    have q7 := (P6 7 _ rfl).1
    clear o5 g5 m5 b5 o6 g6 m6 b6 V6 P6 HS HC K5 K6
    go_wp2_with ((with_reducible refine HC6.out.mono ?_); rintro e w7 ⟨v7, rfl, o7, g7, m7⟩)
    have B7 := Lib.hid (B3.out.trans ((below_grown HB6.out HO6.out (Nat.le_refl _) g7).mono B3.out.size))
    have HO7 := Lib.hid (owns_base o7 B3.out.size)
    clear o7 g7 m7
    go_ret
    exact ⟨_, rfl, by rw [← HL0.out]; exact HO7.out, B7.out⟩
end Go.Proofs.YtckjmmapekaapaaGreatDoor
