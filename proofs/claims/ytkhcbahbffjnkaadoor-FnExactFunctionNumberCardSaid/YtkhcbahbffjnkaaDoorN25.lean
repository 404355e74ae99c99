/- EraseLines of the program: its body, its end. No conditions. -/
import Derived.Test.YtkhcbahbffjnkaaDoorN24
import Derived.Test.YtkhcbahbffjnkaaDoorN3
namespace Go.Proofs.YtkhcbahbffjnkaaDoor
open Go.RowKit Go.Shelf
set_option linter.unusedVariables false
attribute [local go_sem] Oper.semAt_some

theorem rowV_upd {p : El} {v : Value} {F : List Nat} : ∀ (l : List El) (i : Nat), l[i]? = some p → (((rowV l).set (i * 5 + 3) (.int .i64 0)).set (i * 5 + 1) (.string p.1.text)).set (i * 5 + 4) v = rowV (l.set i (p.1.erase, v, F)) := by
  intro l
  induction l with
  | nil => intro i h; simp at h
  | cons q r ih =>
    intro i h
    match i with
    | 0 =>
      obtain rfl : q = p := Option.some.inj h
      rw [show (q :: r).set 0 (q.1.erase, v, F) = (q.1.erase, v, F) :: r from rfl, rowV_cons, rowV_cons]
      show _ = Value.int .i64 q.1.erase.kind :: Value.string q.1.erase.text :: Value.int .i64 q.1.erase.num :: Value.int .i64 q.1.erase.line :: v :: rowV r
      rw [Ex.erase_kind, Ex.erase_text, Ex.erase_num, Ex.erase_line]
      rfl
    | i + 1 =>
      have h2 := ih i h
      rw [show (q :: r).set (i + 1) (p.1.erase, v, F) = q :: r.set i (p.1.erase, v, F) from rfl, rowV_cons, rowV_cons, ← h2, show (i + 1) * 5 = i * 5 + 5 by omega]
      rfl
theorem row_free {w : World} {g cap i : Nat} {l : List El} {p : El} (h : RowE w g l.length cap (rowV l)) (hp : l[i]? = some p) : (w.cell? ⟨g, i * 5 + 1, none⟩ = some (.string p.1.text) ∧ w.cell? ⟨g, i * 5 + 4, none⟩ = some p.2.1 ∧ ∃ u, w.cell? ⟨g, i * 5 + 3, none⟩ = some u) ∧ w.frozen? ⟨g, i * 5 + 1, none⟩ = false ∧ w.frozen? ⟨g, i * 5 + 3, none⟩ = false ∧ w.frozen? ⟨g, i * 5 + 4, none⟩ = false := by
  obtain ⟨hi, rfl⟩ := List.getElem?_eq_some_iff.1 hp
  have h2 := RowCells.node (rowE_cells rfl h) i hi
  rw [Nat.zero_add] at h2
  have hlt : i * 5 + 4 < l.length * 5 := by omega
  exact ⟨⟨h2.1.2.1, h2.2, _, h2.1.2.2.2⟩, (h.cell _ (by omega)).2, (h.cell _ (by omega)).2, (h.cell _ (by omega)).2⟩
theorem ShalK.mono {B B' : Nat} {w : World} {v : Value} {l : List El} (h : ShalK B w v l) (hB : B' ≤ B) : ShalK B' w v l := by
  rcases h with h | ⟨h0, g, c, e, hg, hr⟩
  · exact .inl h
  · exact .inr ⟨h0, g, c, e, Nat.le_trans hB hg, hr⟩
theorem ShalK.set {B g : Nat} {w : World} {v : Value} {l : List El} (h : ShalK B w v l) (hg : g < B) (o : Nat) (u : Value) : ShalK B (w.setCell ⟨g, o, none⟩ u) v l :=
  h.keep fun b hb => Below.heap_setCell w ⟨g, o, none⟩ u b (show b ≠ g by omega)
theorem root_row (W : World) (t : Ex.T) (v : Value) : RowE (W.alloc (.cells #[.int .i64 t.kind, .string t.text, .int .i64 t.num, .int .i64 t.line, v] 62)) W.heap.size 1 1 (rowV [(t, v, [])]) :=
  ⟨rfl, .inr ⟨W.heap.size, 1, _, rfl, Nat.zero_le _, World.alloc_heap_new W _, Nat.le_refl _, by unfold maxLen; omega, rfl, rfl⟩⟩
/-- What a round leaves, step by step. -/
theorem xrel_of {x : XN} {W W2 W4 : World} {v : Value} {w0 : World} {L : Nat} (hp : XPre w0 L x W) (h2 : Below (W.setCell ⟨x.g, x.i * 5 + 3, none⟩ (.int .i64 0)).heap.size (W.setCell ⟨x.g, x.i * 5 + 3, none⟩ (.int .i64 0)) W2)
    (h4 : Below (W2.setCell ⟨x.g, x.i * 5 + 1, none⟩ (.string x.p.1.text)).heap.size (W2.setCell ⟨x.g, x.i * 5 + 1, none⟩ (.string x.p.1.text)) W4) (hs : ShalK (W2.setCell ⟨x.g, x.i * 5 + 1, none⟩ (.string x.p.1.text)).heap.size W4 v x.lk) : XRel x W (W4.setCell ⟨x.g, x.i * 5 + 4, none⟩ v) := by
  have hz : ∀ (A : World) (o : Nat) (u : Value), (A.setCell ⟨x.g, o, none⟩ u).heap.size = A.heap.size := fun A o u => by simp [World.setCell]
  have hr := hp.1.2
  have hlt := hr.lt
  have r1 := hr.set (x.i * 5 + 3) (.int .i64 0)
  have r2 := r1.keep (h2.block x.g (by rw [hz]; exact hlt))
  have hsz := h2.size
  rw [hz] at hsz
  have r3 := r2.set (x.i * 5 + 1) (.string x.p.1.text)
  have r4 := r3.keep (h4.block x.g (by rw [hz]; omega))
  have r5 := r4.set (x.i * 5 + 4) v
  rw [rowV_upd (F := []) _ _ hp.1.1] at r5
  refine ⟨v, r5, ((((Oth.refl x.g W).set _ _).later h2).set _ _ |>.later h4).set _ _, ?_⟩
  rw [hz] at hs
  exact (hs.set (show x.g < W2.heap.size by omega) _ _).mono hsz
theorem nodes_erase (F : Fence) (hd : F.depth = none) (h1 : F.fn 78) (h2 : F.fn 79) (hro : F.round = none) (w0 : World) (L : Nat) (ob : Obj) (hob : ob.isCells = false)
    (hY : ∀ m (x : XN) (W : World), XPre w0 L x W → W.heap[L]? = some ob → YieldAt F m Tryd.prog L (xnV x) W fun e W' => e = .returned (.bool true) ∧ XRel x W W')
    (n C Bt : Nat) (t : Ex.T) (v : Value) (W : World) (hb : t.bulk ≤ 1048576) (hrow : RowE W C 1 1 (rowV [(t, v, [])])) (hC : w0.heap.size ≤ C) (hCL : C ≠ L) (hW : Below w0.heap.size w0 W) (hL : W.heap[L]? = some ob) (hk : Kids w0 v t.kids) (hBt : W.cell? ⟨Bt, 0, none⟩ = some (.pointer (some ⟨C, 0, none⟩))) :
    CallsIn F n Tryd.prog 78 #[.func (.yield L) #[] #[], .pointer (some ⟨Bt, 0, none⟩)] W fun e W' => (∃ v, e = .returned v) ∧ EraseAt C 0 1 [(t, v, [])] t W W' := by
  have hdk : ∀ k : Nat, (F.depth.isSome = true → 1 ≤ k) := fun k h => by rw [hd] at h; cases h
  have hds := small_deep hb
  have hp := erase_visit F hd h2 hro w0 L ob hob hY t.count t (Nat.le_refl _) (n - 1) C 0 1 1 [(t, v, [])] W (t, v, []) rfl rfl hb (by omega) hrow hC hCL hW hL hk
  rw [Nat.zero_mul] at hp
  refine callsIn_of_wp Tryd.func78 rfl h1 ?_ hro
  simp only [Tryd.ntmps78, List.size_toArray, List.length_cons, List.length_nil, Nat.reduceAdd, Nat.reduceSub, Array.replicate_succ, Array.replicate_zero, List.push_toArray, List.append_toArray, List.nil_append, List.cons_append]
  clear hY
  gi_wp2
  refine hp.mono ?_
  clear hp
  rintro e W1 ⟨rfl, he⟩
  gi_wp2
  go_end0
  exact ⟨⟨_, rfl⟩, he⟩
end Go.Proofs.YtkhcbahbffjnkaaDoor
