/- The program's walk of a tree that erases lines: each node is turned, its list anew. No conditions. -/
import Derived.Test.YtkhcbahbffjnkaaDoorN21
import Derived.Test.YtkhcbahbffjnkaaDoorN22
namespace Go.Proofs.YtkhcbahbffjnkaaDoor
open Go.RowKit Go.Shelf
set_option linter.unusedVariables false
attribute [local go_sem] Oper.semAt_some

/-- Nothing that lay is turned but block g. -/
def Oth (g : Nat) (W W' : World) : Prop := Below 0 W W' ∧ ∀ b, b ≠ g → b < W.heap.size → W'.heap[b]? = W.heap[b]?
theorem Oth.refl (g : Nat) (W : World) : Oth g W W := ⟨Below.refl _ _, fun _ _ _ => rfl⟩
theorem Oth.size {g : Nat} {W W' : World} (h : Oth g W W') : W.heap.size ≤ W'.heap.size := h.1.size
theorem Oth.trans {g : Nat} {A B C : World} (h : Oth g A B) (k : Oth g B C) : Oth g A C := ⟨h.1.trans k.1, fun b h1 h2 => (k.2 b h1 (Nat.lt_of_lt_of_le h2 h.size)).trans (h.2 b h1 h2)⟩
theorem Oth.later {g : Nat} {A B C : World} (h : Oth g A B) (k : Below B.heap.size B C) : Oth g A C :=
  ⟨h.1.trans (k.mono (Nat.zero_le _)), fun b h1 h2 => (k.block b (Nat.lt_of_lt_of_le h2 h.size)).trans (h.2 b h1 h2)⟩
theorem Oth.set {g : Nat} {A B : World} (h : Oth g A B) (o : Nat) (v : Value) : Oth g A (B.setCell ⟨g, o, none⟩ v) :=
  ⟨h.1.setCell (p := ⟨g, o, none⟩) (Nat.zero_le _) v, fun b h1 h2 => (Below.heap_setCell B ⟨g, o, none⟩ v b h1).trans (h.2 b h1 h2)⟩
/-- What lay below, and a new block turned: nothing that lay is turned. -/
theorem Oth.new {g g2 : Nat} {A B C : World} (h : Oth g A B) (k : Oth g2 B C) (hg : A.heap.size ≤ g2) : Oth g A C :=
  ⟨h.1.trans k.1, fun b h1 h2 => (k.2 b (by omega) (Nat.lt_of_lt_of_le h2 h.size)).trans (h.2 b h1 h2)⟩
theorem Oth.below {g m : Nat} {A B : World} (h : Oth g A B) (hm : m ≤ g) (hs : m ≤ A.heap.size) : Below m A B := ⟨h.1.os, h.1.tape, h.1.output, h.1.size, fun b hb => h.2 b (by omega) (by omega)⟩
theorem Oth.put {g L : Nat} {W W3 : World} {o o' : Obj} (hl : W.heap[L]? = some o) (h : Oth g (W.putObj L o') W3) : Oth g W (W3.putObj L o) := by
  have hlt : L < W.heap.size := (Array.getElem?_eq_some_iff.1 hl).1
  have hs := h.1.size
  rw [World.putObj_size] at hs
  refine ⟨⟨h.1.os, h.1.tape, h.1.output, by rw [World.putObj_size]; exact hs, fun b hb => by omega⟩, fun b h1 h2 => ?_⟩
  by_cases hb : b = L
  · subst hb
    rw [World.putObj_heap_same (by omega), hl]
  · rw [World.putObj_heap_other hb, h.2 b h1 (by rw [World.putObj_size]; exact h2), World.putObj_heap_other hb]
/-- A node's list: what the copy reads. -/
def KidOk (w0 : World) (p : El) (lk : List El) : Prop := p.1.kids = lk.map Prod.fst ∧ Kids w0 p.2.1 (lk.map Prod.fst) ∧ (∀ g o n c, p.2.1 = .slice (some ⟨g, o, none⟩) n c → RowCells w0 g o lk) ∧ (∀ q ∈ lk, q.2.2 = [] ∧ Kids w0 q.2.1 q.1.kids)
theorem kid_ok {w0 : World} {p : El} (h : Kids w0 p.2.1 p.1.kids) : ∃ lk, KidOk w0 p lk := by
  obtain ⟨a, c, e⟩ := kids_len h
  have h2 := h
  rw [e] at h2
  obtain ⟨lk, h3, h4, h5⟩ := kids_els h2
  refine ⟨lk, h3.symm, by rw [h3]; exact h, fun g o n c2 e2 => ?_, h4⟩
  rw [e] at e2
  injection e2 with e3
  exact h5 g o e3
/-- A node in a row, as a round is handed it. -/
structure XN where
  g : Nat
  i : Nat
  d : Nat
  cap : Nat
  l : List El
  p : El
  lk : List El
abbrev xnV (x : XN) : Array Value := #[.pointer (some ⟨x.g, x.i * 5, none⟩), .int .i64 (x.d : Int)]
def XPre (w0 : World) (L : Nat) (x : XN) (W : World) : Prop := (x.l[x.i]? = some x.p ∧ RowE W x.g x.l.length x.cap (rowV x.l)) ∧ (w0.heap.size ≤ x.g ∧ x.g ≠ L) ∧ Below w0.heap.size w0 W ∧ KidOk w0 x.p x.lk ∧ (x.lk.length ≤ 1048576 ∧ x.p.1.text.size ≤ 1048576)
def XRel (x : XN) (W W' : World) : Prop := ∃ v, RowE W' x.g x.l.length x.cap (rowV (x.l.set x.i (x.p.1.erase, v, []))) ∧ Oth x.g W W' ∧ ShalK W.heap.size W' v x.lk
theorem xpre_put {w0 : World} {L : Nat} (hL : w0.heap.size ≤ L) {x : XN} {W : World} (o : Obj) (h : XPre w0 L x W) : XPre w0 L x (W.putObj L o) :=
  ⟨⟨h.1.1, h.1.2.keep (World.putObj_heap_other h.2.1.2)⟩, h.2.1, h.2.2.1.grown (grownBy_putObj' W L o) h.2.2.1.size (fun k e => by cases e; exact hL), h.2.2.2⟩
theorem ShalK.keep {B : Nat} {w w' : World} {v : Value} {l : List El} (h : ShalK B w v l) (hb : ∀ b, B ≤ b → w'.heap[b]? = w.heap[b]?) : ShalK B w' v l := by
  rcases h with h | ⟨h0, g, c, e, hg, hr⟩
  · exact .inl h
  · exact .inr ⟨h0, g, c, e, hg, hr.keep (hb g hg)⟩
theorem xrel_put {w0 : World} {L : Nat} {x : XN} {W W3 : World} {o o' : Obj} (hl : W.heap[L]? = some o) (hp : XPre w0 L x W) (h : XRel x (W.putObj L o') W3) : XRel x W (W3.putObj L o) := by
  have hlt : L < W.heap.size := (Array.getElem?_eq_some_iff.1 hl).1
  obtain ⟨v, h1, h2, h3⟩ := h
  refine ⟨v, h1.keep (World.putObj_heap_other hp.2.1.2), h2.put hl, ?_⟩
  rw [World.putObj_size] at h3
  exact h3.keep fun b hb => World.putObj_heap_other (by omega)
theorem xrel_keep {w0 : World} {L : Nat} {x : XN} {W W3 : World} {o : Obj} (hp : XPre w0 L x W) (h : XRel x W W3) (hl : W.heap[L]? = some o) : W3.heap[L]? = some o := by
  obtain ⟨v, h1, h2, h3⟩ := h
  exact (h2.2 L (fun e => hp.2.1.2 e.symm) (Array.getElem?_eq_some_iff.1 hl).1).trans hl
/-- What the walk leaves of a node in a row. -/
def EraseAt (g i cap : Nat) (l : List El) (t : Ex.T) (W W' : World) : Prop := ∃ v F, RowE W' g l.length cap (rowV (l.set i (t.erase, v, F))) ∧ Oth g W W' ∧ OwnK W' v (Ex.erases t.kids) F ∧ Foot W.heap.size W' F
def EraT (F : Fence) (w0 : World) (L : Nat) (ob : Obj) (t : Ex.T) : Prop :=
  ∀ (n g i d cap : Nat) (l : List El) (W : World) (p : El), l[i]? = some p → p.1 = t → t.bulk ≤ 1048576 → d + t.deep ≤ 2097152 → RowE W g l.length cap (rowV l) → w0.heap.size ≤ g → g ≠ L → Below w0.heap.size w0 W → W.heap[L]? = some ob → Kids w0 p.2.1 t.kids →
    CallsIn F n Tryd.prog 79 #[.pointer (some ⟨g, i * 5, none⟩), .int .i64 (d : Int), .func (.yield L) #[] #[]] W fun e W' => e = .returned (.bool true) ∧ EraseAt g i cap l t W W'
theorem row_node {w : World} {g cap i : Nat} {l : List El} {p : El} (h : RowE w g l.length cap (rowV l)) (hp : l[i]? = some p) : w.cell? ⟨g, i * 5 + 4, none⟩ = some p.2.1 := by
  obtain ⟨hi, rfl⟩ := List.getElem?_eq_some_iff.1 hp
  have h2 := (RowCells.node (rowE_cells rfl h) i hi).2
  rw [Nat.zero_add] at h2; exact h2
/-- Where the walk of a list stands. -/
def ErasD (lk : List El) (g c : Nat) (W1 : World) (k : Nat) (wr : World) (ld : List El) : Prop := ld.length = k ∧ RowE wr g lk.length c (rowV (ld ++ lk.drop k)) ∧ ld.map Prod.fst = (lk.take k).map (fun p => p.1.erase) ∧ Els wr ld ∧ Foot W1.heap.size wr (elsF ld) ∧ Oth g W1 wr
def ErasL (lk : List El) (g c : Nat) (W1 : World) (k : Nat) (wr : World) : Prop := ∃ ld : List El, ErasD lk g c W1 k wr ld
theorem ErasD.len {lk : List El} {g c : Nat} {W1 wr : World} {k : Nat} {ld : List El} (h : ErasD lk g c W1 k wr ld) (hk : k ≤ lk.length) : (ld ++ lk.drop k).length = lk.length := by
  have h1 := h.1
  rw [List.length_append, List.length_drop]; omega
theorem ErasD.row {lk : List El} {g c : Nat} {W1 wr : World} {k : Nat} {ld : List El} (h : ErasD lk g c W1 k wr ld) (hk : k ≤ lk.length) : RowE wr g (ld ++ lk.drop k).length c (rowV (ld ++ lk.drop k)) := by
  rw [h.len hk]; exact h.2.1
theorem ErasD.at {lk : List El} {g c : Nat} {W1 wr : World} {k : Nat} {ld : List El} (h : ErasD lk g c W1 k wr ld) (hk : k < lk.length) : (ld ++ lk.drop k)[k]? = some lk[k] := by
  rw [List.getElem?_append_right (by have := h.1; omega), h.1, Nat.sub_self, List.drop_eq_getElem_cons hk]; rfl
theorem ErasL.start {lk : List El} {g c : Nat} {W1 : World} (h : RowE W1 g lk.length c (rowV lk)) : ErasL lk g c W1 0 W1 :=
  ⟨[], rfl, by simpa using h, by simp, Els.nil _, (fun b hb => by cases hb), Oth.refl _ _⟩
theorem ErasD.next {lk : List El} {g c : Nat} {W1 wr W2 : World} {k : Nat} {ld : List El} (h : ErasD lk g c W1 k wr ld) (hg : g < W1.heap.size) (hk : k < lk.length) (hn : EraseAt g k c (ld ++ lk.drop k) lk[k].1 wr W2) : ErasL lk g c W1 (k + 1) W2 := by
  obtain ⟨h1, h2, h3, h4, h5, h6⟩ := h
  obtain ⟨v, F, r1, r2, r3, r4⟩ := hn
  have hlen : (ld ++ lk.drop k).length = lk.length := by rw [List.length_append, List.length_drop]; omega
  have e : (ld ++ lk.drop k).set k (lk[k].1.erase, v, F) = (ld ++ [(lk[k].1.erase, v, F)]) ++ lk.drop (k + 1) := by
    rw [List.set_append_right _ _ (by omega), h1, Nat.sub_self, List.drop_eq_getElem_cons hk, List.append_assoc]
    rfl
  rw [e, hlen] at r1
  have hs := h6.size
  refine ⟨ld ++ [(lk[k].1.erase, v, F)], by simp [h1], r1, ?_, ?_, ?_, h6.trans r2⟩
  · rw [List.map_append, h3, List.take_succ_eq_append_getElem hk, List.map_append]; rfl
  · refine (h4.keep fun b hb => ?_).snoc (p := (lk[k].1.erase, v, F)) ?_ fun b hb hb2 => ?_
    · have := h5 b hb
      exact r2.2 b (by omega) (by omega)
    · show OwnK W2 v (lk[k].1.erase).kids F
      rw [Ex.erase_kids]; exact r3
    · have h7 := h5 b hb
      have h8 := r4 b hb2
      omega
  · intro b hb
    rw [elsF_snoc] at hb
    have := r2.size
    rcases List.mem_append.1 hb with hb | hb
    · have := h5 b hb; omega
    · have := r4 b hb; omega
theorem ErasL.done {lk : List El} {g c : Nat} {W1 wr : World} (h : ErasL lk g c W1 lk.length wr) (hg : g < W1.heap.size) : ∃ F, OwnK wr (.slice (some ⟨g, 0, none⟩) lk.length c) (Ex.erases (lk.map Prod.fst)) F ∧ Oth g W1 wr ∧ ∀ b ∈ F, (b = g ∨ W1.heap.size ≤ b) ∧ b < wr.heap.size := by
  obtain ⟨ld, h1, h2, h3, h4, h5, h6⟩ := h
  rw [List.drop_length, List.append_nil] at h2
  rw [List.take_length] at h3
  have e : Ex.erases (lk.map Prod.fst) = ld.map Prod.fst := by rw [Ex.erases_map, h3, List.map_map]; rfl
  have hr : RowE wr g ld.length c (rowV ld) := by rw [h1]; exact h2
  have hK := ownK_els hr h4 (fun hm => by have := (h5 g hm).1; omega)
  rw [h1] at hK
  rw [e]
  refine ⟨_, hK, h6, fun b hb => ?_⟩
  have hs := h6.size
  split at hb
  · cases hb
  · rcases List.mem_cons.1 hb with rfl | hb
    · exact ⟨.inl rfl, by omega⟩
    · have := h5 b hb; exact ⟨.inr this.1, this.2⟩
theorem rowV_foot {l : List El} {i : Nat} (hi : i < l.length) (t : Ex.T) (v : Value) (F G : List Nat) : rowV (l.set i (t, v, F)) = rowV (l.set i (t, v, G)) := by
  rw [← rowV_set (t, v, F) l i hi, ← rowV_set (t, v, G) l i hi]
end Go.Proofs.YtkhcbahbffjnkaaDoor
