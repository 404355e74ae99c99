/- What the laws write into a list of trees. No conditions. -/
import Derived.Test.YtkhcbahbffjnkaaDoorN25
import Derived.Test.YtkhcbahbffjnkaaDoorW8
namespace Go.Proofs.YtkhcbahbffjnkaaDoor
open Go.RowKit
set_option linter.unusedVariables false

mutual
/-- The tree that the laws write, from the letter k on. -/
def Ex.T.mrk : Ex.T → Nat → Ex.T
  | .node _ _ _ _ ks, k => .node (k : Int) (mark (k + 1)) ((k : Int) + 1 + 1) ((k : Int) + 1 + 1 + 1) (Ex.mrks ks (k + 4))
def Ex.mrks : List Ex.T → Nat → List Ex.T
  | [], _ => []
  | x :: r, k => x.mrk k :: Ex.mrks r (k + 4 * x.count)
end
theorem Ex.mrk_eq (t : Ex.T) (k : Nat) : t.mrk k = .node (k : Int) (mark (k + 1)) ((k : Int) + 1 + 1) ((k : Int) + 1 + 1 + 1) (Ex.mrks t.kids (k + 4)) := by cases t; rw [Ex.T.mrk]; rfl
theorem Ex.mrks_len : ∀ (l : List Ex.T) (k : Nat), (Ex.mrks l k).length = l.length := by
  intro l
  induction l with
  | nil => intro k; rw [Ex.mrks]
  | cons x r ih => intro k; rw [Ex.mrks, List.length_cons, ih, List.length_cons]
theorem Ex.mrks_snoc : ∀ (l : List Ex.T) (x : Ex.T) (k : Nat), Ex.mrks (l ++ [x]) k = Ex.mrks l k ++ [x.mrk (k + 4 * Ex.counts l)] := by
  intro l
  induction l with
  | nil => intro x k; simp [Ex.mrks, Ex.counts]
  | cons y r ih => intro x k; rw [List.cons_append, Ex.mrks, ih, Ex.mrks, Ex.counts, List.cons_append, show k + 4 * y.count + 4 * Ex.counts r = k + 4 * (y.count + Ex.counts r) by omega]
theorem Ex.mrks_get : ∀ (l : List Ex.T) (k i : Nat) (h : i < l.length), (Ex.mrks l k)[i]? = some (l[i].mrk (k + 4 * Ex.counts (l.take i))) := by
  intro l
  induction l with
  | nil => intro k i h; simp at h
  | cons y r ih =>
    intro k i h
    rw [Ex.mrks]
    match i with
    | 0 => simp [Ex.counts]
    | i + 1 =>
      have h2 := ih (k + 4 * y.count) i (by simpa using h)
      rw [List.getElem?_cons_succ, h2, List.take_succ_cons, Ex.counts, show k + 4 * y.count + 4 * Ex.counts (List.take i r) = k + 4 * (y.count + Ex.counts (List.take i r)) by omega]
      rfl
/-- Nothing that lay is turned but the blocks F. -/
def OnlyF (F : List Nat) (w w' : World) : Prop := Below 0 w w' ∧ ∀ b, b ∉ F → b < w.heap.size → w'.heap[b]? = w.heap[b]?
theorem OnlyF.refl (F : List Nat) (w : World) : OnlyF F w w := ⟨Below.refl _ _, fun _ _ _ => rfl⟩
theorem OnlyF.trans {F G : List Nat} {A B C : World} (h : OnlyF F A B) (k : OnlyF G B C) (hG : ∀ b ∈ G, b ∈ F) : OnlyF F A C :=
  ⟨h.1.trans k.1, fun b h1 h2 => (k.2 b (fun e => h1 (hG b e)) (Nat.lt_of_lt_of_le h2 h.1.size)).trans (h.2 b h1 h2)⟩
theorem OnlyF.later {F : List Nat} {A B C : World} (h : OnlyF F A B) (k : Below B.heap.size B C) : OnlyF F A C :=
  ⟨h.1.trans (k.mono (Nat.zero_le _)), fun b h1 h2 => (k.block b (Nat.lt_of_lt_of_le h2 h.1.size)).trans (h.2 b h1 h2)⟩
theorem OnlyF.set {F : List Nat} {A B : World} {g : Nat} (h : OnlyF F A B) (hg : g ∈ F) (o : Nat) (u : Value) : OnlyF F A (B.setCell ⟨g, o, none⟩ u) :=
  ⟨h.1.setCell (p := ⟨g, o, none⟩) (Nat.zero_le _) u, fun b h1 h2 => (Below.heap_setCell B ⟨g, o, none⟩ u b (fun e => h1 (e ▸ hg))).trans (h.2 b h1 h2)⟩
theorem OnlyF.below {F : List Nat} {A B : World} {m : Nat} (h : OnlyF F A B) (hF : ∀ b ∈ F, m ≤ b) (hm : m ≤ A.heap.size) : Below m A B :=
  ⟨h.1.os, h.1.tape, h.1.output, h.1.size, fun b hb => h.2 b (fun e => by have := hF b e; omega) (by omega)⟩
theorem rowV_mark {p : El} {k n l : Int} {s : ByteArray} {ks : List Ex.T} : ∀ (le : List El) (i : Nat), le[i]? = some p → ((((rowV le).set (i * 5) (.int .i64 k)).set (i * 5 + 1) (.string s)).set (i * 5 + 2) (.int .i64 n)).set (i * 5 + 3) (.int .i64 l) = rowV (le.set i (.node k s n l ks, p.2)) := by
  intro le
  induction le with
  | nil => intro i h; simp at h
  | cons q r ih =>
    intro i h
    match i with
    | 0 =>
      obtain rfl : q = p := Option.some.inj h
      rw [show (q :: r).set 0 (.node k s n l ks, q.2) = (.node k s n l ks, q.2) :: r from rfl, rowV_cons, rowV_cons]
      rfl
    | i + 1 =>
      have h2 := ih i h
      rw [show (q :: r).set (i + 1) (.node k s n l ks, p.2) = q :: r.set i (.node k s n l ks, p.2) from rfl, rowV_cons, rowV_cons, ← h2, show (i + 1) * 5 = i * 5 + 5 by omega]
      rfl
/-- Where the writing of a list stands. -/
def MkAt (w : World) (g c : Nat) (l : List El) (ks : List Ex.T) (k0 i : Nat) (wr : World) : Prop := ∃ le : List El, le.map Prod.snd = l.map Prod.snd ∧ le.map Prod.fst = Ex.mrks (ks.take i) k0 ++ ks.drop i ∧ RowE wr g ks.length c (rowV le) ∧ Els wr le ∧ OnlyF (g :: elsF l) w wr
theorem elsF_snd {l m : List El} (h : l.map Prod.snd = m.map Prod.snd) : elsF l = elsF m := by
  have e : ∀ l : List El, elsF l = (l.map Prod.snd).flatMap Prod.snd := fun l => by simp [elsF, List.flatMap_map]
  rw [e, e, h]
theorem MkAt.start {w : World} {g c k0 : Nat} {l : List El} {ks : List Ex.T} (hl : l.map Prod.fst = ks) (hr : RowE w g ks.length c (rowV l)) (he : Els w l) : MkAt w g c l ks k0 0 w :=
  ⟨l, rfl, by rw [List.take_zero, Ex.mrks, List.drop_zero]; exact hl, hr, he, OnlyF.refl _ _⟩
/-- An element of what is not yet written. -/
theorem mk_at {le l : List El} {ks : List Ex.T} {k0 i : Nat} (h1 : le.map Prod.snd = l.map Prod.snd) (h2 : le.map Prod.fst = Ex.mrks (ks.take i) k0 ++ ks.drop i) (hi : i < ks.length) : ∃ v F, le[i]? = some (ks[i], v, F) ∧ l[i]?.map Prod.snd = some (v, F) := by
  have hlen : le.length = ks.length := by
    have h3 := congrArg List.length h2
    rw [List.length_map, List.length_append, Ex.mrks_len, List.length_take, List.length_drop] at h3
    omega
  have e1 : (le.map Prod.fst)[i]? = some ks[i] := by
    rw [h2, List.getElem?_append_right (by rw [Ex.mrks_len, List.length_take]; omega), Ex.mrks_len, List.length_take, Nat.min_eq_left (by omega), Nat.sub_self, List.drop_eq_getElem_cons hi]
    rfl
  rw [List.getElem?_map] at e1
  have e2 := congrArg (fun x => x[i]?) h1
  simp only [List.getElem?_map] at e2
  rw [List.getElem?_eq_getElem (by omega)] at e1 e2
  refine ⟨le[i].2.1, le[i].2.2, ?_, ?_⟩
  · rw [List.getElem?_eq_getElem (by omega)]
    have e3 : le[i].1 = ks[i] := Option.some.inj e1
    rw [← e3]
  · rw [← e2]; rfl
end Go.Proofs.YtkhcbahbffjnkaaDoor
