/- Joined texts: N20, N21, G7, N2. No conditions besides those that each states. -/
import Derived.Lib.SliceRun
import Derived.IntWalk
import Derived.RangeFuncNested
import Derived.RangeFuncBound
import Derived.RangeFuncCalls
import Derived.RangeFuncLeaves
import Derived.Shelf.Abstract
import Derived.Shelf.RegionOpen
import Derived.WalkKit
import Derived.OwnWalkIn
import Derived.TacticsInMore
import Derived.LoopNIn
import Derived.LoopIn
import Derived.Test.YtckjmmapekaapaaGreatDoorZ7
import Derived.Test.YtckjmmapekaapaaGreatDoorZ8
/- Rows of trees by the values of their cells, each tree's lists in blocks of its own; a tree without lines. No conditions. -/
namespace Go.Proofs.YtckjmmapekaapaaGreatDoor
open Go.RowKit
set_option linter.unusedVariables false

mutual
/-- A tree with every line 0. -/
def Ex.T.erase : Ex.T → Ex.T
  | .node k t n _ ks => .node k t n 0 (Ex.erases ks)
def Ex.erases : List Ex.T → List Ex.T
  | [] => []
  | x :: r => x.erase :: Ex.erases r
end
theorem Ex.erases_map (l : List Ex.T) : Ex.erases l = l.map Ex.T.erase := by
  induction l with
  | nil => simp [Ex.erases]
  | cons x r ih => rw [Ex.erases, ih]; rfl
theorem Ex.erase_eq (t : Ex.T) : t.erase = .node t.kind t.text t.num 0 (Ex.erases t.kids) := by cases t; rw [Ex.T.erase]; rfl
theorem Ex.erase_kind (t : Ex.T) : t.erase.kind = t.kind := by cases t; rw [Ex.T.erase]; rfl
theorem Ex.erase_text (t : Ex.T) : t.erase.text = t.text := by cases t; rw [Ex.T.erase]; rfl
theorem Ex.erase_num (t : Ex.T) : t.erase.num = t.num := by cases t; rw [Ex.T.erase]; rfl
theorem Ex.erase_line (t : Ex.T) : t.erase.line = 0 := by cases t; rw [Ex.T.erase]; rfl
theorem Ex.erase_kids (t : Ex.T) : t.erase.kids = Ex.erases t.kids := by cases t; rw [Ex.T.erase]; rfl
/-- A tree of a row: the tree, the value of its list, the blocks of its lists. -/
abbrev El := Ex.T × Value × List Nat
/-- The cells of a row of trees. -/
def rowV (l : List El) : List Value := l.flatMap fun p => [.int .i64 p.1.kind, .string p.1.text, .int .i64 p.1.num, .int .i64 p.1.line, p.2.1]
theorem rowV_cons (p : El) (l : List El) : rowV (p :: l) = Value.int .i64 p.1.kind :: Value.string p.1.text :: Value.int .i64 p.1.num :: Value.int .i64 p.1.line :: p.2.1 :: rowV l := rfl
theorem rowV_app (a b : List El) : rowV (a ++ b) = rowV a ++ rowV b := by unfold rowV; rw [List.flatMap_append]
theorem rowV_len (l : List El) : (rowV l).length = l.length * 5 := by
  induction l with
  | nil => rfl
  | cons p l ih => rw [rowV_cons]; simp [ih]; omega
theorem rowV_get : ∀ (l : List El) (i : Nat) (h : i < l.length), (rowV l)[i * 5]? = some (.int .i64 l[i].1.kind) ∧ (rowV l)[i * 5 + 1]? = some (.string l[i].1.text) ∧ (rowV l)[i * 5 + 2]? = some (.int .i64 l[i].1.num) ∧ (rowV l)[i * 5 + 3]? = some (.int .i64 l[i].1.line) ∧ (rowV l)[i * 5 + 4]? = some l[i].2.1 := by
  intro l
  induction l with
  | nil => intro i h; simp at h
  | cons p l ih =>
    intro i h
    rw [rowV_cons]
    match i with
    | 0 => exact ⟨rfl, rfl, rfl, rfl, rfl⟩
    | i + 1 =>
      have h2 := ih i (by simpa using h)
      rw [show (i + 1) * 5 = i * 5 + 5 by omega]
      exact h2
theorem rowV_set (x : El) : ∀ (l : List El) (i : Nat), i < l.length → (((((rowV l).set (i * 5) (.int .i64 x.1.kind)).set (i * 5 + 1) (.string x.1.text)).set (i * 5 + 2) (.int .i64 x.1.num)).set (i * 5 + 3) (.int .i64 x.1.line)).set (i * 5 + 4) x.2.1 = rowV (l.set i x) := by
  intro l
  induction l with
  | nil => intro i h; simp at h
  | cons p l ih =>
    intro i h
    match i with
    | 0 => rw [rowV_cons]; rfl
    | i + 1 =>
      have h2 := ih i (by simpa using h)
      rw [show (p :: l).set (i + 1) x = p :: l.set i x from rfl, rowV_cons, rowV_cons, ← h2, show (i + 1) * 5 = i * 5 + 5 by omega]
      rfl
/-- Each tree's lists lie in blocks of its own. -/
def Els (w : World) (l : List El) : Prop := (∀ p ∈ l, OwnK w p.2.1 p.1.kids p.2.2) ∧ l.Pairwise (fun p q => ∀ b ∈ p.2.2, b ∉ q.2.2)
def elsF (l : List El) : List Nat := l.flatMap fun p => p.2.2
theorem elsF_mem {l : List El} {p : El} (h : p ∈ l) {b : Nat} (hb : b ∈ p.2.2) : b ∈ elsF l := List.mem_flatMap.2 ⟨p, h, hb⟩
theorem Els.nil (w : World) : Els w [] := ⟨(fun p h => by cases h), List.Pairwise.nil⟩
theorem Els.keep {w w' : World} {l : List El} (h : Els w l) (hb : ∀ b ∈ elsF l, w'.heap[b]? = w.heap[b]?) : Els w' l :=
  ⟨fun p hp => OwnK.keep _ (fun b hb2 => hb b (elsF_mem hp hb2)) (h.1 p hp), h.2⟩
theorem Els.snoc {w : World} {l : List El} {p : El} (h : Els w l) (hp : OwnK w p.2.1 p.1.kids p.2.2) (hd : ∀ b ∈ elsF l, b ∉ p.2.2) : Els w (l ++ [p]) := by
  refine ⟨fun q hq => ?_, ?_⟩
  · rcases List.mem_append.1 hq with hq | hq
    · exact h.1 q hq
    · rw [List.mem_singleton] at hq; subst hq; exact hp
  · rw [List.pairwise_append]
    refine ⟨h.2, List.pairwise_singleton _ _, fun a ha b hb c hc => ?_⟩
    rw [List.mem_singleton] at hb; subst hb
    exact hd c (elsF_mem ha hc)
theorem elsF_snoc (l : List El) (p : El) : elsF (l ++ [p]) = elsF l ++ p.2.2 := by simp [elsF]
/-- Where a row's cells are known. -/
def RowCells (w : World) (g o : Nat) (l : List El) : Prop := ∀ (j : Nat), j < l.length * 5 → w.cell? ⟨g, o + j, none⟩ = (rowV l)[j]?
theorem RowCells.node {w : World} {g o : Nat} {l : List El} (h : RowCells w g o l) (i : Nat) (hi : i < l.length) : (w.cell? ⟨g, o + i * 5, none⟩ = some (.int .i64 l[i].1.kind) ∧ w.cell? ⟨g, o + i * 5 + 1, none⟩ = some (.string l[i].1.text) ∧ w.cell? ⟨g, o + i * 5 + 2, none⟩ = some (.int .i64 l[i].1.num) ∧ w.cell? ⟨g, o + i * 5 + 3, none⟩ = some (.int .i64 l[i].1.line)) ∧ w.cell? ⟨g, o + i * 5 + 4, none⟩ = some l[i].2.1 := by
  obtain ⟨a0, a1, a2, a3, a4⟩ := rowV_get l i hi
  have e : ∀ j, o + i * 5 + j = o + (i * 5 + j) := fun j => by omega
  refine ⟨⟨?_, ?_, ?_, ?_⟩, ?_⟩
  · rw [h _ (by omega), a0]
  · rw [e, h _ (by omega), a1]
  · rw [e, h _ (by omega), a2]
  · rw [e, h _ (by omega), a3]
  · rw [e, h _ (by omega), a4]
theorem rowE_cells {w : World} {g n cap : Nat} {l : List El} (hn : n = l.length) (h : RowE w g n cap (rowV l)) : RowCells w g 0 l := by
  subst hn
  intro j hj
  rw [Nat.zero_add]
  exact World.ownsRow.cellAt h j hj
theorem ownR_els {w : World} {g : Nat} : ∀ (l : List El) (o : Nat), RowCells w g o l → Els w l → OwnR w g o (l.map Prod.fst) (elsF l) := by
  intro l
  induction l with
  | nil => intro o _ _; rw [List.map_nil, OwnR]; rfl
  | cons p r ih =>
    intro o hc he
    rw [List.map_cons, OwnR]
    have h0 := hc.node 0 (by simp)
    rw [Nat.zero_mul, Nat.add_zero] at h0
    have hp := he.2
    rw [List.pairwise_cons] at hp
    refine ⟨p.2.2, elsF r, by simp [elsF], fun b hb hb2 => ?_, ownE_of h0.1 h0.2 (he.1 p List.mem_cons_self), ih (o + 5) ?_ ⟨fun q hq => he.1 q (List.mem_cons_of_mem _ hq), hp.2⟩⟩
    · obtain ⟨q, hq, hb3⟩ := List.mem_flatMap.1 hb2
      exact hp.1 q hq b hb hb3
    · intro j hj
      have h5 := hc (5 + j) (by rw [List.length_cons]; omega)
      rw [show o + (5 + j) = o + 5 + j by omega, rowV_cons, show 5 + j = j + 5 by omega] at h5
      exact h5
/-- A row that is known is a list of kids. -/
theorem ownK_els {w : World} {g cap : Nat} {l : List El} (hr : RowE w g l.length cap (rowV l)) (he : Els w l) (hg : g ∉ elsF l) : OwnK w (.slice (some ⟨g, 0, none⟩) l.length cap) (l.map Prod.fst) (if l.map Prod.fst = [] then [] else g :: elsF l) := by
  have h := ownK_of (w := w) (g := g) (c := cap) (xs := rowV l) (l := l.map Prod.fst) (G := elsF l) (by rw [List.length_map]; exact hr) (ownR_els l 0 (rowE_cells rfl hr) he) hg
  rw [List.length_map] at h; exact h
/-- A list of kids that came in, by its cells. -/
theorem kids_els {w : World} {a : Option Addr} {n c : Nat} {ks : List Ex.T} (h : Kids w (.slice a n c) ks) : ∃ l : List El, l.map Prod.fst = ks ∧ (∀ p ∈ l, p.2.2 = [] ∧ Kids w p.2.1 p.1.kids) ∧ (∀ g o, a = some ⟨g, o, none⟩ → RowCells w g o l) := by
  obtain ⟨a2, c2, e⟩ := kids_len h
  injection e with e1 e2 e3
  have key : ∀ (ks : List Ex.T) (g o : Nat), RowAt w g o ks → ∃ l : List El, l.map Prod.fst = ks ∧ (∀ p ∈ l, p.2.2 = [] ∧ Kids w p.2.1 p.1.kids) ∧ RowCells w g o l := by
    intro ks
    induction ks with
    | nil => intro g o _; exact ⟨[], rfl, (fun p h => by cases h), fun j hj => by simp at hj⟩
    | cons x r ih =>
      intro g o hr
      rw [RowAt] at hr
      obtain ⟨l, hl, hp, hc⟩ := ih g (o + 5) hr.2
      obtain ⟨⟨q0, q1, q2, q3⟩, v, q4, hk⟩ := tree_cells hr.1
      refine ⟨(x, v, []) :: l, by rw [List.map_cons, hl], fun p hp2 => ?_, fun j hj => ?_⟩
      · rcases List.mem_cons.1 hp2 with rfl | hp2
        · exact ⟨rfl, hk⟩
        · exact hp p hp2
      · rw [rowV_cons]
        match j with
        | 0 => exact q0
        | 1 => exact q1
        | 2 => exact q2
        | 3 => exact q3
        | 4 => exact q4
        | j + 5 =>
          have h5 := hc j (by rw [List.length_cons] at hj; omega)
          rw [show o + (j + 5) = o + 5 + j by omega]
          exact h5
  cases ks with
  | nil => exact ⟨[], rfl, (fun p h => by cases h), fun g o _ j hj => by simp at hj⟩
  | cons x r =>
    rw [Kids] at h
    obtain ⟨g, o, c3, e4, _, hx, hr⟩ := h
    injection e4 with e5 e6 e7
    obtain ⟨l, hl, hp, hc⟩ := key (x :: r) g o (by rw [RowAt]; exact ⟨hx, hr⟩)
    refine ⟨l, hl, hp, fun g2 o2 e8 => ?_⟩
    rw [e5] at e8
    injection e8 with e8
    injection e8 with e9 e10
    subst e9 e10
    exact hc
/-- An owned list, by its cells. -/
theorem ownR_elsOf {w : World} {g : Nat} : ∀ (ks : List Ex.T) (o : Nat) (G : List Nat), OwnR w g o ks G → ∃ l : List El, l.map Prod.fst = ks ∧ elsF l = G ∧ Els w l ∧ RowCells w g o l := by
  intro ks
  induction ks with
  | nil => intro o G h; rw [OwnR] at h; subst h; exact ⟨[], rfl, rfl, Els.nil _, fun j hj => by simp at hj⟩
  | cons x r ih =>
    intro o G h
    rw [OwnR] at h
    obtain ⟨G1, G2, rfl, hd, hx, hr⟩ := h
    obtain ⟨l, hl, rfl, he, hc⟩ := ih (o + 5) G2 hr
    cases x with
    | node k t n ln ks2 =>
      rw [OwnE] at hx
      obtain ⟨⟨q0, q1, q2, q3⟩, v, q4, hk⟩ := hx
      refine ⟨(.node k t n ln ks2, v, G1) :: l, by rw [List.map_cons, hl], by simp [elsF], ⟨fun p hp => ?_, ?_⟩, fun j hj => ?_⟩
      · rcases List.mem_cons.1 hp with rfl | hp
        · exact hk
        · exact he.1 p hp
      · rw [List.pairwise_cons]
        exact ⟨fun q hq b hb hb2 => hd b hb (elsF_mem hq hb2), he.2⟩
      · rw [rowV_cons]
        match j with
        | 0 => exact q0
        | 1 => exact q1
        | 2 => exact q2
        | 3 => exact q3
        | 4 => exact q4
        | j + 5 =>
          have h5 := hc j (by rw [List.length_cons] at hj; omega)
          rw [show o + (j + 5) = o + 5 + j by omega]
          exact h5
/-- A row's values are what its cells hold. -/
theorem rowE_vals {w : World} {g n cap : Nat} {xs : List Value} {l : List El} (h : RowE w g n cap xs) (hn : n = l.length) (hc : RowCells w g 0 l) : RowE w g n cap (rowV l) := by
  have e : xs = rowV l := by
    apply List.ext_getElem?
    intro j
    have hl := h.1
    by_cases hj : j < n * 5
    · have h1 := World.ownsRow.cellAt h j hj
      have h2 := hc j (by omega)
      rw [Nat.zero_add] at h2
      exact h1.symm.trans h2
    · rw [List.getElem?_eq_none (by omega), List.getElem?_eq_none (by rw [rowV_len]; omega)]
  rw [← e]; exact h
end Go.Proofs.YtckjmmapekaapaaGreatDoor
/- slices.Clone of a list of kids. No conditions. -/
namespace Go.Proofs.YtckjmmapekaapaaGreatDoor
open Go.RowKit
set_option linter.unusedVariables false

/-- A list of kids whose trees' cells are known; their own lists lie elsewhere. -/
def ShalK (B : Nat) (w : World) (v : Value) (l : List El) : Prop := (l = [] ∧ ∃ a c, v = .slice a 0 c) ∨ (l ≠ [] ∧ ∃ g c, v = .slice (some ⟨g, 0, none⟩) l.length c ∧ B ≤ g ∧ RowE w g l.length c (rowV l))
theorem rowE_base {w : World} {B g n cap : Nat} {xs : List Value} (h : w.ownsRow B 47 5 (.slice (some ⟨g, 0, none⟩) n cap) n xs) : RowE w g n cap xs := by
  refine ⟨h.1, ?_⟩
  rcases h.2 with hn | ⟨g2, cap2, cur, hv, hg, r⟩
  · exact .inl hn
  · exact .inr ⟨g2, cap2, cur, hv, Nat.zero_le _, r⟩
theorem rowV_one {w : World} {l : List El} (h : ∀ p ∈ l, p.2.2 = [] ∧ Kids w p.2.1 p.1.kids) : ∀ u ∈ rowV l, u.oneCell' = true := by
  intro u hu
  obtain ⟨p, hp, hu⟩ := List.mem_flatMap.1 hu
  obtain ⟨a, c, e⟩ := kids_len (h p hp).2
  simp only [List.mem_cons, List.not_mem_nil, or_false] at hu
  rcases hu with rfl | rfl | rfl | rfl | rfl
  · rfl
  · rfl
  · rfl
  · rfl
  · rw [e]; rfl
theorem rowCells_get {w : World} {g o : Nat} {l : List El} (h : RowCells w g o l) (j : Nat) (u : Value) (hj : (rowV l)[j]? = some u) : w.cell? ((⟨g, o, none⟩ : Addr).add j) = some u := by
  have hlt : j < l.length * 5 := by
    rw [← rowV_len]
    exact (List.getElem?_eq_some_iff.1 hj).1
  have e : (⟨g, o, none⟩ : Addr).add j = ⟨g, o + j, none⟩ := by unfold Addr.add; split <;> simp_all
  rw [e, h j hlt, hj]
theorem RowCells.later {w w' : World} {g o : Nat} {l : List El} (h : RowCells w g o l) (hb : Below w.heap.size w w') : RowCells w' g o l := fun j hj => by
  have h1 := h j hj
  rw [List.getElem?_eq_getElem (by rw [rowV_len]; exact hj)] at h1 ⊢
  exact subw_below hb _ _ _ h1
theorem own_zero {w : World} {B : Nat} {v : Value} (h : w.ownsRow B 47 5 v 0 []) : ∃ a c, v = .slice a 0 c := by
  rcases h.2 with ⟨rfl, _⟩ | ⟨g, cap, cur, rfl, _⟩
  · exact ⟨_, _, rfl⟩
  · exact ⟨_, _, rfl⟩
theorem own_some {w : World} {B n : Nat} {v : Value} {xs : List Value} (hn : n ≠ 0) (h : w.ownsRow B 47 5 v n xs) : ∃ g c, v = .slice (some ⟨g, 0, none⟩) n c ∧ B ≤ g ∧ RowE w g n c xs := by
  have h2 := h
  rcases h.2 with ⟨_, hz⟩ | ⟨g, cap, cur, rfl, hg, _⟩
  · exact absurd hz hn
  · exact ⟨g, cap, rfl, hg, rowE_base h2⟩
theorem kids_some {w : World} {v : Value} {l : List El} (hk : Kids w v (l.map Prod.fst)) (hl : l ≠ []) : ∃ g o c, v = .slice (some ⟨g, o, none⟩) l.length c := by
  cases l with
  | nil => exact absurd rfl hl
  | cons p r =>
    rw [List.map_cons, Kids] at hk
    obtain ⟨g, o, c, e, _⟩ := hk
    rw [List.length_map] at e
    exact ⟨g, o, c, e⟩
end Go.Proofs.YtckjmmapekaapaaGreatDoor
/- Numbers of nodes and depths in the reference model. No conditions. -/
namespace Go.Proofs.YtckjmmapekaapaaGreatDoor
open Go.RowKit
set_option linter.unusedVariables false

theorem count_eq (t : Ex.T) : t.count = 1 + Ex.counts t.kids := by cases t; rw [Ex.T.count]; rfl
theorem deep_eq (t : Ex.T) : t.deep = Ex.deeps t.kids + 1 := by cases t; rw [Ex.T.deep]; rfl
theorem small_count {t : Ex.T} (h : t.bulk ≤ 1048576) : t.count ≤ 1048577 := by have := Ex.count_bulk _ t (Nat.le_refl _); omega
theorem small_deep {t : Ex.T} (h : t.bulk ≤ 1048576) : t.deep ≤ 1048577 := by have h1 := Ex.deep_count _ t (Nat.le_refl _); have := small_count h; omega
/-- Where a count stands. -/
def CntAt (ks : List Ex.T) (k m : Nat) : Prop := m = 1 + Ex.counts (ks.take k)
theorem CntAt.next {ks : List Ex.T} {k m : Nat} (h : CntAt ks k m) (hk : k < ks.length) : CntAt ks (k + 1) (m + ks[k].count) := by
  unfold CntAt at h ⊢
  rw [Ex.counts_take ks k hk]; omega
theorem CntAt.le {ks : List Ex.T} {k m : Nat} (h : CntAt ks k m) : m ≤ 1 + Ex.counts ks := by
  unfold CntAt at h
  have := Ex.counts_take_le ks k; omega
theorem CntAt.over {ks : List Ex.T} {m : Nat} (h : CntAt ks ks.length m) : m = 1 + Ex.counts ks := by
  unfold CntAt at h
  rw [List.take_length] at h; exact h
/-- Where a depth stands. -/
def DepAt (ks : List Ex.T) (k m : Nat) : Prop := m = Ex.deeps (ks.take k)
theorem DepAt.next {ks : List Ex.T} {k m : Nat} (h : DepAt ks k m) (hk : k < ks.length) : DepAt ks (k + 1) (max m ks[k].deep) := by
  unfold DepAt at h ⊢
  rw [Ex.deeps_take ks k hk, h]
theorem deeps_take_le (l : List Ex.T) (k : Nat) : Ex.deeps (l.take k) ≤ Ex.deeps l := by
  induction l generalizing k with
  | nil => simp [Ex.deeps]
  | cons y l ih =>
    cases k with
    | zero => simp [Ex.deeps]
    | succ k => rw [List.take_succ_cons, Ex.deeps, Ex.deeps]; have := ih k; omega
theorem DepAt.le {ks : List Ex.T} {k m : Nat} (h : DepAt ks k m) : m ≤ Ex.deeps ks := by
  unfold DepAt at h
  have := deeps_take_le ks k; omega
theorem DepAt.over {ks : List Ex.T} {m : Nat} (h : DepAt ks ks.length m) : m = Ex.deeps ks := by
  unfold DepAt at h
  rw [List.take_length] at h; exact h
theorem max_nat (a b : Nat) : max (a : Int) (b : Int) = ((max a b : Nat) : Int) := by omega
end Go.Proofs.YtckjmmapekaapaaGreatDoor
/- The nodes of a tree, each before its kids, with their depths; what the program's walk of a tree hands to a round. No conditions. -/
namespace Go.Proofs.YtckjmmapekaapaaGreatDoor
open Go.RowKit Go.Shelf
set_option linter.unusedVariables false
attribute [local go_sem] Oper.semAt_some

mutual
/-- The nodes of a tree, each before its kids, with their depths. -/
def Ex.T.pre : Ex.T → Nat → List (Ex.T × Nat)
  | .node k t n l ks, d => (.node k t n l ks, d) :: Ex.pres ks (d + 1)
def Ex.pres : List Ex.T → Nat → List (Ex.T × Nat)
  | [], _ => []
  | x :: r, d => x.pre d ++ Ex.pres r d
end
theorem Ex.pre_eq (t : Ex.T) (d : Nat) : t.pre d = (t, d) :: Ex.pres t.kids (d + 1) := by cases t; rw [Ex.T.pre]; rfl
theorem Ex.pres_app (a b : List Ex.T) (d : Nat) : Ex.pres (a ++ b) d = Ex.pres a d ++ Ex.pres b d := by
  induction a with
  | nil => simp [Ex.pres]
  | cons x r ih => simp [Ex.pres, ih]
theorem Ex.pres_take (l : List Ex.T) (k : Nat) (h : k < l.length) (d : Nat) : Ex.pres (l.take (k + 1)) d = Ex.pres (l.take k) d ++ l[k].pre d := by
  rw [List.take_succ_eq_append_getElem h, Ex.pres_app]
  simp [Ex.pres]
mutual
theorem Ex.pre_len : ∀ (t : Ex.T) (d : Nat), (t.pre d).length = t.count
  | .node k t n l ks, d => by rw [Ex.T.pre, Ex.T.count, List.length_cons, Ex.pres_len ks]; omega
theorem Ex.pres_len : ∀ (l : List Ex.T) (d : Nat), (Ex.pres l d).length = Ex.counts l
  | [], d => by simp [Ex.pres, Ex.counts]
  | x :: r, d => by rw [Ex.pres, Ex.counts, List.length_append, Ex.pre_len x, Ex.pres_len r]
end
theorem deeps_mem : ∀ {l : List Ex.T} {x : Ex.T}, x ∈ l → x.deep ≤ Ex.deeps l := by
  intro l
  induction l with
  | nil => intro x h; cases h
  | cons y l ih =>
    intro x h
    rw [Ex.deeps]
    rcases List.mem_cons.1 h with rfl | h
    · omega
    · have := ih h; omega
theorem Ex.pres_pref (l : List Ex.T) (k : Nat) (h : k < l.length) (d : Nat) (q : List (Ex.T × Nat)) (hq : q <+: l[k].pre d) : Ex.pres (l.take k) d ++ q <+: Ex.pres l d := by
  have e : l = l.take k ++ (l[k] :: l.drop (k + 1)) := by rw [← List.drop_eq_getElem_cons h, List.take_append_drop]
  obtain ⟨r, hr⟩ := hq
  refine ⟨r ++ Ex.pres (l.drop (k + 1)) d, ?_⟩
  conv => rhs; rw [e]
  rw [Ex.pres_app, Ex.pres, ← hr]
  simp
/-- A node in memory, as a round is handed it: its place, its tree, its depth. -/
abbrev Nd (w0 : World) := { x : (Nat × Nat) × (Ex.T × Nat) // TreeAt w0 x.1.1 x.1.2 x.2.1 ∧ x.2.1.bulk ≤ 1048576 ∧ x.2.2 ≤ 2097152 }
def Nd.dat {w0 : World} (x : Nd w0) : Ex.T × Nat := x.1.2
abbrev ndV {w0 : World} (x : Nd w0) : Array Value := #[.pointer (some ⟨x.1.1.1, x.1.1.2, none⟩), .int .i64 (x.1.2.2 : Int)]
def VisT (F : Fence) (l : Nat) (w0 : World) (N : Nat) (J Jx : List (Nd w0) → World → Prop) (t : Ex.T) : Prop :=
  ∀ (n g o d : Nat) (pre : List (Nd w0)) (W : World), t.bulk ≤ 1048576 → d + t.deep ≤ 2097152 → TreeAt w0 g o t → Below w0.heap.size w0 W → J pre W → pre.length + t.count ≤ N →
    CallsIn F n Tryz.prog 77 #[.pointer (some ⟨g, o, none⟩), .int .i64 (d : Int), .func (.yield l) #[] #[]] W fun e W' =>
      (e = .returned (.bool true) ∧ (∃ q : List (Nd w0), q.map Nd.dat = t.pre d ∧ J (pre ++ q) W') ∧ Below w0.heap.size w0 W') ∨
      (e = .returned (.bool false) ∧ ∃ q : List (Nd w0), q.map Nd.dat <+: t.pre d ∧ Jx (pre ++ q) W')
theorem room_none {F : Fence} (hd : F.depth = none) (k : Nat) : F.room k := fun d h => by rw [hd] at h; cases h
theorem RoundIn.any {F : Fence} (hd : F.depth = none) {m m' : Nat} {P : Program} {l : Nat} {f : FuncId} {tmps : Array Value} {assign body : Go.Code} {w : World} {R : Ending → World → Prop}
    (h : RoundIn F m P l f tmps assign body w R) : RoundIn F m' P l f tmps assign body w R := ⟨h.1, fun c cs _ => h.2 c cs (room_none hd _)⟩
theorem YieldAt.any {F : Fence} (hd : F.depth = none) {m : Nat} (m' : Nat) {P : Program} {l : Nat} {args : Array Value} {W : World} {R : Ending → World → Prop} (h : YieldAt F m P l args W R) : YieldAt F m' P l args W R := by
  obtain ⟨fn, tmps, assign, body, hy, hR⟩ := h
  exact ⟨fn, tmps, assign, body, hy, RoundIn.any hd hR⟩

set_option maxRecDepth 100000 in
set_option maxHeartbeats 2000000 in
theorem visit_tree (F : Fence) (hd : F.depth = none) (hF : F.fn 77) (hro : F.round = none) (l : Nat) (w0 : World) (N : Nat) (J Jx : List (Nd w0) → World → Prop)
    (hY : ∀ m pre x W, J pre W → pre.length < N → YieldAt F m Tryz.prog l (ndV x) W fun e W' =>
      (e = .returned (.bool true) ∧ J (pre ++ [x]) W' ∧ Below w0.heap.size W W') ∨ (e = .returned (.bool false) ∧ Jx (pre ++ [x]) W')) :
    ∀ (M : Nat) (t : Ex.T), t.count ≤ M → VisT F l w0 N J Jx t := by
  intro M
  induction M with
  | zero => intro t h; have := Ex.count_pos t; omega
  | succ M ih =>
    intro t hM n g o d pre W hb hdd ht hW hJ hN
    have hpf : TreeAt w0 g o t ∧ t.bulk ≤ 1048576 ∧ d ≤ 2097152 := ⟨ht, hb, by omega⟩
    obtain ⟨fn, tmps, assign, body, hy, hR⟩ := hY (n - 1) pre ⟨((g, o), (t, d)), hpf⟩ W hJ (by have := Ex.count_pos t; omega)
    dsimp only [ndV] at hy
    have hdk : ∀ k : Nat, (F.depth.isSome = true → 1 ≤ k) := fun k h => by rw [hd] at h; cases h
    refine callsIn_of_wp Tryz.func77 rfl hF ?_ hro
    simp only [Tryz.ntmps77, List.size_toArray, List.length_cons, List.length_nil, Nat.reduceAdd, Nat.reduceSub, Array.replicate_succ, Array.replicate_zero, List.push_toArray, List.append_toArray, List.nil_append, List.cons_append]
    have HI := Lib.hid (fun (x : Ex.T) (hx : x ∈ t.kids) => ih x (by have := kids_count hx; omega))
    have HY := Lib.hid hY
    have HT := Lib.hid ht
    have HN := Lib.hid hN
    have hbe := bulk_eq t
    have hce := count_eq t
    have hde := deep_eq t
    have HP := Lib.hid (Ex.pre_eq t d)
    have HM : Hid (∀ x ∈ t.kids, x.bulk ≤ 1048576 ∧ d + 1 + x.deep ≤ 2097152) := Lib.hid (fun x hx => ⟨by have := Ex.bulks_mem hx; omega, by have := deeps_mem hx; omega⟩)
    have hln : t.kids.length ≤ 1048576 := by omega
    clear ih hY hN hM hbe hde hb
    gi_wp2
    refine hR.mono ?_
    clear hR hy
    rintro e W1 (⟨rfl, hJ1, hk1⟩ | ⟨rfl, hx1⟩)
    · have HW1 := Lib.hid (hW.trans hk1)
      have HJ1 := Lib.hid hJ1
      obtain ⟨⟨c0, c1, c2, c3⟩, v, c4, hkv⟩ := tree_cells (TreeAt.mono (subw_below HW1.out) t ht)
      obtain ⟨v0, c40, hkv0⟩ := (tree_cells ht).2
      have HC4 := Lib.hid (fun wr (hh : Below w0.heap.size w0 wr) => subw_below hh _ _ _ c40)
      obtain rfl : v = v0 := Option.some.inj (c4.symm.trans (HC4.out _ HW1.out))
      have HK := Lib.hid hkv0
      obtain ⟨a, c, rfl⟩ := kids_len hkv
      clear c0 c1 c2 c3 hkv hkv0 c40 hJ hJ1 hW ht hk1
      gi_wp2
      gi_loopw [7, 18] (fun _ i wr => ∃ (k : Nat) (q : List (Nd w0)), i = .int .i64 k ∧ k ≤ t.kids.length ∧ q.map Nd.dat = (t, d) :: Ex.pres (t.kids.take k) (d + 1) ∧ J (pre ++ q) wr ∧ Below w0.heap.size w0 wr) (fun _ i _ => t.kids.length - (intOf i).toNat)
      case atStart => exact ⟨0, _, rfl, Nat.zero_le _, by simp [Ex.pres, Nd.dat], HJ1.out, HW1.out⟩
      case round =>
        clear HJ1 HW1 c4
        obtain ⟨k, q, rfl, hk, hq, hJ, hW⟩ := hrel
        have c4 := HC4.out wr hW
        have HW := Lib.hid hW
        have HJ := Lib.hid hJ
        have HQ := Lib.hid hq
        clear hW hJ hq
        by_cases hlt : k < t.kids.length
        · obtain ⟨g2, o2, rfl, ht2⟩ := kids_at HK.out k hlt
          have hm := HM.out _ (List.getElem_mem hlt)
          have HR := Lib.hid (HI.out t.kids[k] (List.getElem_mem hlt) (n - 1) g2 (o2 + k * 5) (d + 1) (pre ++ q) wr hm.1 (by have := hm.2; omega) ht2 HW.out HJ.out (by
            have h1 := congrArg List.length HQ.out
            rw [List.length_map, List.length_cons, Ex.pres_len] at h1
            have h2 := Ex.counts_take t.kids k hlt
            have h3 := Ex.counts_take_le t.kids (k + 1)
            have h4 := HN.out
            rw [List.length_append]; omega))
          have HT2 := Lib.hid (Ex.pres_take t.kids k hlt (d + 1))
          have HT3 := Lib.hid (fun q hq => Ex.pres_pref t.kids k hlt (d + 1) q hq)
          rw [show ((d + 1 : Nat) : Int) = (d : Int) + 1 by omega] at HR
          have e1 : IntKind.i64.wrap ((d : Int) + 1) = (d : Int) + 1 := IntWalk.i64_in _ (by omega)
          have k0 : (0 : Int) ≤ k := by omega
          have k1 : (k : Int) < t.kids.length := by omega
          clear ht2 hm HJ
          generalize t.kids[k] = x at HR HT2 HT3
          gi_wp2
          refine HR.out.mono ?_
          clear HR
          rintro e W2 (⟨rfl, ⟨q2, hq2, hJ2⟩, hW2⟩ | ⟨rfl, q2, hq2, hx2⟩)
          · have HJ2 := Lib.hid hJ2
            have HW2 := Lib.hid hW2
            have HQ2 := Lib.hid hq2
            clear hJ2 hW2 hq2
            gi_wp2
            go_roundw
            case rel => exact ⟨k + 1, q ++ q2, by go_num, by omega, by rw [List.map_append, HQ.out, HQ2.out, HT2.out]; simp, by rw [← List.append_assoc]; exact HJ2.out, HW2.out⟩
            case measure => first | (simp [intOf]; done) | (simp [intOf]; omega)
          · have HX2 := Lib.hid hx2
            have HQ2 := Lib.hid hq2
            clear hx2 hq2
            gi_wp2
            go_ret
            refine .inr ⟨rfl, q ++ q2, ?_, by rw [← List.append_assoc]; exact HX2.out⟩
            rw [List.map_append, HQ.out, HP.out, List.cons_append]
            obtain ⟨r, hr⟩ := HT3.out _ HQ2.out
            exact ⟨r, by rw [List.cons_append, hr]⟩
        · obtain rfl : k = t.kids.length := by omega
          gi_wp2
          go_ret
          refine .inl ⟨rfl, ⟨q, ?_, HJ.out⟩, HW.out⟩
          rw [HP.out, HQ.out, List.take_length]
    · gi_wp2
      go_ret
      refine .inr ⟨rfl, _, ?_, hx1⟩
      rw [HP.out]
      exact ⟨Ex.pres t.kids (d + 1), by simp [Nd.dat]⟩
end Go.Proofs.YtckjmmapekaapaaGreatDoor
