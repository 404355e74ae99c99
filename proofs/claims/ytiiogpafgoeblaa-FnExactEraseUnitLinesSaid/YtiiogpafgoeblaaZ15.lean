/- Joined texts: U16. No conditions besides those that each states. -/
import Derived.Deep.RegionHeld3
import Derived.Deep.RegionLaw
import Derived.Test.YtiiogpafgoeblaaZ14
/- Units without lines; the reference model's EraseUnitLines: its loop over records. No conditions. -/
namespace Go.Proofs.Ytiiogpafgoeblaa
open Go.RowKit
set_option linter.unusedVariables false

def Rc.erase (r : Rc) : Rc := ⟨r.name, r.fields, 0⟩
def Pc.erase (p : Pc) : Pc := ⟨p.name, p.params, p.locals, p.body.erase, 0⟩
def Un.erase (u : Un) : Un := ⟨u.recs.map Rc.erase, u.globs, u.procs.map Pc.erase⟩
theorem wpList_append_strs {w : World} {l : List ByteArray} {ad : Addr} {x : Value} {ops : Array Oper} {rest : List Oper} {o : Oper} {a : Act} {Q : Exit → Act → World → Prop} (hgd : o.guard = none) (s y : Operand)
    (ho : o.op = .call { callee := .builtin .append, args := #[s, y], argTypes := #[23, 23] }) (hs : a.eval s = .slice (some ad) 0 0) (hy : a.eval y = x) (hx : Is w (strsD l) x) (hl : l.length ≤ 1048576)
    (h : ∀ w' v' F, Own w' (strsD l) v' F → Foot w.heap.size w' F → Below w.heap.size w w' → wpList Try.prog ops Q rest (a.put o.dst v') w') : wpList Try.prog ops Q (o :: rest) a w := by
  refine wpList_plain hgd fun K hK => ?_
  obtain ⟨v', w', F, hr, h2, h3, h4⟩ := append_empty o.type ad x l w hx hl
  unfold Oper.wp execOp
  simp only [ho, resolve, invoke, builtin, Sem.run_bind, Sem.run_pure, Result.andThen_ok, List.map_toArray, List.map_cons, List.map_nil, hs, hy, hr]
  exact hK _ _ (h w' v' F h2 h3 h4)
/-- What lies in memory while the model erases: the parameter, the result, the local variable, its globals. -/
def EuS (w : World) (A : List Value) (b3 : Nat) (c0 c1 c2 : Value) (l : List ByteArray) (Fg : List Nat) (wr : World) : Prop := (Var wr w.heap.size A ∧ Var wr (w.heap.size + 1) [.slice none 0 0, .slice none 0 0, .slice none 0 0] ∧ Var wr b3 [c0, c1, c2]) ∧ Own wr (strsD l) c1 Fg ∧ Below w.heap.size w wr ∧ (w.heap.size + 2 ≤ b3 ∧ b3 < wr.heap.size) ∧ ∀ b ∈ Fg, w.heap.size + 2 ≤ b ∧ b < b3
theorem EuS.mono {w wr wx : World} {A : List Value} {b3 : Nat} {c0 c1 c2 : Value} {l : List ByteArray} {Fg : List Nat} (h : EuS w A b3 c0 c1 c2 l Fg wr) (hb : Below (b3 + 1) wr wx) : EuS w A b3 c0 c1 c2 l Fg wx := by
  obtain ⟨⟨h1, h2, h3⟩, h4, h5, ⟨h6, h7⟩, h8⟩ := h
  have hs := hb.size
  exact ⟨⟨h1.keep (hb.block _ (by omega)), h2.keep (hb.block _ (by omega)), h3.keep (hb.block _ (by omega))⟩, Own.keep _ _ _ (fun b hbF => hb.block b (by have := h8 b hbF; omega)) h4, h5.trans (hb.mono (by omega)), ⟨h6, by omega⟩, h8⟩
theorem EuS.set {w wr : World} {A : List Value} {b3 : Nat} {c0 c1 c2 : Value} {l : List ByteArray} {Fg : List Nat} (h : EuS w A b3 c0 c1 c2 l Fg wr) (j : Nat) (u d0 d2 : Value) (he : ([c0, c1, c2] : List Value).set j u = [d0, c1, d2]) : EuS w A b3 d0 c1 d2 l Fg (wr.setCell ⟨b3, j, none⟩ u) := by
  obtain ⟨⟨h1, h2, h3⟩, h4, h5, ⟨h6, h7⟩, h8⟩ := h
  have h9 := h3.set j u
  rw [he] at h9
  exact ⟨⟨h1.oth _ j (by omega) u, h2.oth _ j (by omega) u, h9⟩, Own.keep _ _ _ (fun b hbF => set_keep (by have := h8 b hbF; omega)) h4, h5.setCell (p := ⟨b3, j, none⟩) (by show _ ≤ b3; omega) u, ⟨h6, by rw [set_size]; exact h7⟩, h8⟩
theorem held_le {w0 W W' : World} {A B C : Prop} {n : Nat} (hb : Below W.heap.size W W') (h : A ∧ B ∧ C ∧ Below n w0 W) : w0.heap.size ≤ W.heap.size := h.2.2.2.size
theorem held_last {w0 W : World} {A B C : Prop} {n : Nat} (h : A ∧ B ∧ C ∧ Below n w0 W) : Below n w0 W := h.2.2.2
theorem held_then {w0 W W' : World} {A B C : Prop} {n : Nat} (h : A ∧ B ∧ C ∧ Below n w0 W) (hn : n ≤ w0.heap.size) (hb : Below W.heap.size W W') : Below n w0 W' := h.2.2.2.trans (hb.mono (Nat.le_trans hn h.2.2.2.size))
theorem held_push {w0 W W' : World} {A B C : Prop} {n : Nat} (h : A ∧ B ∧ C ∧ Below n w0 W) (hb : Below n W W') : Below n w0 W' := h.2.2.2.trans hb
theorem held_set {w0 W : World} {A B C : Prop} {n b j : Nat} {u : Value} (h : A ∧ B ∧ C ∧ Below n w0 W) (hb : n ≤ b) : Below n w0 (W.setCell ⟨b, j, none⟩ u) := h.2.2.2.setCell (p := ⟨b, j, none⟩) hb u
theorem new_at (W : World) (A : Array Value) (T : TypeId) (us : List Value) (h : A.toList = us) : ∀ j u, us[j]? = some u → (W.alloc (.cells A T)).cell? ((⟨W.heap.size, 0, none⟩ : Addr).add j) = some u := by
  intro j u hj
  rw [add_lit, Nat.zero_add]
  exact (Var.new W A T j u (by rw [h]; exact hj)).1
/-- An erased record that was just made. -/
theorem recE_els {B : Nat} {w w2 : World} {x : Rc} {Fs : List (List Nat)} {v : Value} {z1 : Option Addr} {d1 : Nat} {F1 : List Nat} (o1 : Own w2 (strsD x.fields) (.slice z1 x.fields.length d1) F1) (f1 : Foot w.heap.size w2 F1) (hB : B ≤ w.heap.size) (hF : ∀ b ∈ Fs.flatten, b < w.heap.size) (hv : ∀ b, v.ownBlock = some b → b < w.heap.size) :
    (∀ e ∈ ([(.str x.name, .string x.name, []), (strsD x.fields, .slice z1 x.fields.length d1, F1), (.int 0, .int .i64 0, [])] : List (D × Value × List Nat)), Own w2 e.1 e.2.1 e.2.2 ∧ ∀ b ∈ e.2.2, B ≤ b ∧ b < w2.heap.size ∧ b ∉ Fs.flatten ∧ v.ownBlock ≠ some b) ∧ ([(.str x.name, .string x.name, []), (strsD x.fields, .slice z1 x.fields.length d1, F1), (.int 0, .int .i64 0, [])] : List (D × Value × List Nat)).Pairwise (fun x y => Apart x.2.2 y.2.2) := by
  constructor
  · intro e he
    simp only [List.mem_cons, List.not_mem_nil, or_false] at he
    rcases he with rfl | rfl | rfl
    · exact ⟨own_str', fun b hb => by cases hb⟩
    · exact ⟨o1, fun b hb => ⟨Nat.le_trans hB (f1 b hb).1, (f1 b hb).2, fun h => by have h1 := hF b h; have h2 := (f1 b hb).1; omega, fun h => by have h1 := hv b h; have h2 := (f1 b hb).1; omega⟩⟩
    · exact ⟨own_int', fun b hb => by cases hb⟩
  · simp [apart_nil, nil_apart]
theorem heldA_last {w0 W : World} {A : Prop} {n : Nat} (h : A ∧ Below n w0 W) : Below n w0 W := h.2
theorem heldA_then {w0 W W' : World} {A : Prop} {n : Nat} (h : A ∧ Below n w0 W) (hn : n ≤ w0.heap.size) (hb : Below W.heap.size W W') : Below n w0 W' := h.2.trans (hb.mono (Nat.le_trans hn h.2.size))
theorem heldA_push {w0 W W' : World} {A : Prop} {n : Nat} (h : A ∧ Below n w0 W) (hb : Below n W W') : Below n w0 W' := h.2.trans hb
theorem heldA_set {w0 W : World} {A : Prop} {n b j : Nat} {u : Value} (h : A ∧ Below n w0 W) (hb : n ≤ b) : Below n w0 (W.setCell ⟨b, j, none⟩ u) := h.2.setCell (p := ⟨b, j, none⟩) hb u
/-- Nothing below n is turned, and the block bt stays. -/
def Bt (n bt : Nat) (W0 W : World) : Prop := Below n W0 W ∧ W.heap[bt]? = W0.heap[bt]?
theorem bt_start {n bt : Nat} {W0 : World} : Bt n bt W0 W0.drew := ⟨(Below.refl _ _).drew, rfl⟩
theorem bt_last {n bt : Nat} {W0 W : World} {A : Prop} (h : A ∧ Bt n bt W0 W) : Bt n bt W0 W := h.2
theorem bt_then {n bt : Nat} {W0 W W' : World} {A : Prop} (h : A ∧ Bt n bt W0 W) (hn : n ≤ W0.heap.size) (hbt : bt < W0.heap.size) (hb : Below W.heap.size W W') : Bt n bt W0 W' :=
  ⟨h.2.1.trans (hb.mono (Nat.le_trans hn h.2.1.size)), (hb.block bt (Nat.lt_of_lt_of_le hbt h.2.1.size)).trans h.2.2⟩
theorem bt_push {n bt : Nat} {W0 W W' : World} {A : Prop} (h : A ∧ Bt n bt W0 W) (hb : Below n W W') (hk : W'.heap[bt]? = W.heap[bt]?) : Bt n bt W0 W' := ⟨h.2.1.trans hb, hk.trans h.2.2⟩
theorem bt_set {n bt : Nat} {W0 W : World} {A : Prop} {b j : Nat} {u : Value} (h : A ∧ Bt n bt W0 W) (hb : n ≤ b) (hne : bt ≠ b) : Bt n bt W0 (W.setCell ⟨b, j, none⟩ u) := ⟨h.2.1.setCell (p := ⟨b, j, none⟩) hb u, (set_keep hne).trans h.2.2⟩
/-- An erased procedure that was just made. -/
theorem procE_els {B : Nat} {w w2 : World} {x : Pc} {Fs : List (List Nat)} {v : Value} {z1 z2 z3 : Option Addr} {d1 d2 d3 : Nat} {F1 F2 F3 : List Nat} (o1 : OwnP w2 x.erase (.slice z1 x.params.length d1) (.slice z2 x.locals.length d2) (.slice z3 x.body.erase.kids.length d3) F1 F2 F3) (f1 : Foot w.heap.size w2 F1 ∧ Foot w.heap.size w2 F2 ∧ Foot w.heap.size w2 F3) (hB : B ≤ w.heap.size) (hF : ∀ b ∈ Fs.flatten, b < w.heap.size) (hv : ∀ b, v.ownBlock = some b → b < w.heap.size) :
    (∀ e ∈ ([(.str x.name, .string x.name, []), (strsD x.params, .slice z1 x.params.length d1, F1), (strsD x.locals, .slice z2 x.locals.length d2, F2), (.int x.body.erase.kind, .int .i64 x.body.erase.kind, []), (.str x.body.erase.text, .string x.body.erase.text, []), (.int x.body.erase.num, .int .i64 x.body.erase.num, []), (.int x.body.erase.line, .int .i64 x.body.erase.line, []), (.ex x.body.erase.kids, .slice z3 x.body.erase.kids.length d3, F3), (.int 0, .int .i64 0, [])] : List (D × Value × List Nat)), Own w2 e.1 e.2.1 e.2.2 ∧ ∀ b ∈ e.2.2, B ≤ b ∧ b < w2.heap.size ∧ b ∉ Fs.flatten ∧ v.ownBlock ≠ some b) ∧ ([(.str x.name, .string x.name, []), (strsD x.params, .slice z1 x.params.length d1, F1), (strsD x.locals, .slice z2 x.locals.length d2, F2), (.int x.body.erase.kind, .int .i64 x.body.erase.kind, []), (.str x.body.erase.text, .string x.body.erase.text, []), (.int x.body.erase.num, .int .i64 x.body.erase.num, []), (.int x.body.erase.line, .int .i64 x.body.erase.line, []), (.ex x.body.erase.kids, .slice z3 x.body.erase.kids.length d3, F3), (.int 0, .int .i64 0, [])] : List (D × Value × List Nat)).Pairwise (fun x y => Apart x.2.2 y.2.2) := by
  have key : ∀ F : List Nat, Foot w.heap.size w2 F → ∀ b ∈ F, B ≤ b ∧ b < w2.heap.size ∧ b ∉ Fs.flatten ∧ v.ownBlock ≠ some b := fun F f b hb => ⟨Nat.le_trans hB (f b hb).1, (f b hb).2, fun h => by have h1 := hF b h; have h2 := (f b hb).1; omega, fun h => by have h1 := hv b h; have h2 := (f b hb).1; omega⟩
  constructor
  · intro e he
    simp only [List.mem_cons, List.not_mem_nil, or_false] at he
    rcases he with rfl | rfl | rfl | rfl | rfl | rfl | rfl | rfl | rfl
    · exact ⟨own_str', fun b hb => by cases hb⟩
    · exact ⟨o1.1.1, key _ f1.1⟩
    · exact ⟨o1.1.2.1, key _ f1.2.1⟩
    · exact ⟨own_int', fun b hb => by cases hb⟩
    · exact ⟨own_str', fun b hb => by cases hb⟩
    · exact ⟨own_int', fun b hb => by cases hb⟩
    · exact ⟨own_int', fun b hb => by cases hb⟩
    · exact ⟨o1.1.2.2, key _ f1.2.2⟩
    · exact ⟨own_int', fun b hb => by cases hb⟩
  · simp [apart_nil, nil_apart, o1.2.1, o1.2.2.1, o1.2.2.2]
theorem OwnP.mk7 {w : World} {x : Pc} {v1 v2 v3 : Value} {F1 F2 F3 : List Nat} (h1 : Own w (strsD x.params) v1 F1) (h2 : Own w (strsD x.locals) v2 F2) (h3 : Own w (.ex x.body.erase.kids) v3 F3) (a : Apart F1 F2) (b : Apart F1 F3) (c : Apart F2 F3) : OwnP w x.erase v1 v2 v3 F1 F2 F3 := ⟨⟨h1, h2, h3⟩, a, b, c⟩
/-- The same, with the erased records. -/
def EuP (w : World) (A : List Value) (b3 B2 : Nat) (c0 c1 c2 : Value) (l : List ByteArray) (Fg : List Nat) (rs : List Rc) (F1 : List Nat) (wr : World) : Prop := EuS w A b3 c0 c1 c2 l Fg wr ∧ Own wr (recsD rs) c0 F1 ∧ (∀ b ∈ F1, b3 < b ∧ b < B2) ∧ b3 < B2 ∧ B2 ≤ wr.heap.size
theorem EuP.mono {w wr wx : World} {A : List Value} {b3 B2 : Nat} {c0 c1 c2 : Value} {l : List ByteArray} {Fg : List Nat} {rs : List Rc} {F1 : List Nat} (h : EuP w A b3 B2 c0 c1 c2 l Fg rs F1 wr) (hb : Below B2 wr wx) : EuP w A b3 B2 c0 c1 c2 l Fg rs F1 wx :=
  ⟨h.1.mono (hb.mono h.2.2.2.1), Own.keep _ _ _ (fun b hbF => hb.block b (h.2.2.1 b hbF).2) h.2.1, h.2.2.1, h.2.2.2.1, Nat.le_trans h.2.2.2.2 hb.size⟩
theorem EuP.set {w wr : World} {A : List Value} {b3 B2 : Nat} {c0 c1 c2 : Value} {l : List ByteArray} {Fg : List Nat} {rs : List Rc} {F1 : List Nat} (h : EuP w A b3 B2 c0 c1 c2 l Fg rs F1 wr) (u : Value) : EuP w A b3 B2 c0 c1 u l Fg rs F1 (wr.setCell ⟨b3, 2, none⟩ u) :=
  ⟨h.1.set 2 u c0 u rfl, Own.keep _ _ _ (fun b hbF => set_keep (by have := (h.2.2.1 b hbF).1; omega)) h.2.1, h.2.2.1, h.2.2.2.1, by rw [set_size]; exact h.2.2.2.2⟩
theorem AppD.bounds {B : Nat} {w : World} {T : TypeId} {z n : Nat} {v : Value} {l : List D} {Fs : List (List Nat)} (h : AppD B w T z v n l Fs) : (∀ b ∈ Fs.flatten, b < w.heap.size) ∧ ∀ b, v.ownBlock = some b → b < w.heap.size :=
  ⟨fun b hb => (h.2.2.1 b hb).2, fun b hb => (row_lt h.1.choose_spec.1 hb).2⟩
end Go.Proofs.Ytiiogpafgoeblaa
