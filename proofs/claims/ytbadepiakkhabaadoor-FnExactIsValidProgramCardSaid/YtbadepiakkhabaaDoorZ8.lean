/- Joined texts: G4, H2, H3, H4. No conditions besides those that each states. -/
import Derived.Test.YtbadepiakkhabaaDoorZ1
import Derived.Test.YtbadepiakkhabaaDoorZ6
import Derived.Test.YtbadepiakkhabaaDoorZ7
/- Trees of the call's own: the blocks of their lists, each met once. No conditions. -/
namespace Go.Proofs.YtbadepiakkhabaaDoor
open Go.RowKit
set_option linter.unusedVariables false

/-- A row of n trees' cells. -/
def RowE (w : World) (g n cap : Nat) (xs : List Value) : Prop := w.ownsRow 0 105 5 (.slice (some ⟨g, 0, none⟩) n cap) n xs
theorem RowE.cell {w : World} {g n cap : Nat} {xs : List Value} (h : RowE w g n cap xs) (j : Nat) (hj : j < n * 5) : (∃ u, w.cell? ⟨g, j, none⟩ = some u) ∧ w.frozen? ⟨g, j, none⟩ = false := by
  refine ⟨?_, World.ownsRow.frozenAt h j⟩
  rw [World.ownsRow.cellAt h j hj]
  have hl := h.1
  exact ⟨xs[j]'(by omega), List.getElem?_eq_getElem _⟩
theorem RowE.set {w : World} {g n cap : Nat} {xs : List Value} (h : RowE w g n cap xs) (j : Nat) (u : Value) : RowE (w.setCell ⟨g, j, none⟩ u) g n cap (xs.set j u) := (World.ownsRow.stored h j u).1
theorem RowE.keep {w w1 : World} {g n cap : Nat} {xs : List Value} (h : RowE w g n cap xs) (hb : w1.heap[g]? = w.heap[g]?) : RowE w1 g n cap xs := by
  refine ⟨h.1, ?_⟩
  rcases h.2 with hn | ⟨g2, cap2, cur, hv, hg, hgg, r⟩
  · exact .inl hn
  · refine .inr ⟨g2, cap2, cur, hv, hg, ?_, r⟩
    injection hv with e1 e2 e3
    injection e1 with e1
    injection e1 with e1
    subst e1
    rw [hb]; exact hgg
theorem RowE.cap {w : World} {g n cap : Nat} {xs : List Value} (h : RowE w g n cap xs) : n ≤ cap := by
  rcases h.2 with ⟨h1, h2⟩ | ⟨g2, cap2, cur, hv, hg, hgg, r, _⟩
  · cases h1
  · injection hv with e1 e2 e3; omega
theorem RowE.lt {w : World} {g n cap : Nat} {xs : List Value} (h : RowE w g n cap xs) : g < w.heap.size := (World.ownsRow.lt h g rfl).2
mutual
/-- A tree's five cells at a place, its lists in the blocks F. -/
def OwnE (w : World) (g : Nat) : Nat → Ex.T → List Nat → Prop
  | o, .node k t n l ks, F => (w.cell? ⟨g, o, none⟩ = some (.int .i64 k) ∧ w.cell? ⟨g, o + 1, none⟩ = some (.string t) ∧ w.cell? ⟨g, o + 2, none⟩ = some (.int .i64 n) ∧ w.cell? ⟨g, o + 3, none⟩ = some (.int .i64 l)) ∧ ∃ v, w.cell? ⟨g, o + 4, none⟩ = some v ∧ OwnK w v ks F
/-- A list of kids, in the blocks F. -/
def OwnK (w : World) : Value → List Ex.T → List Nat → Prop
  | v, [], F => F = [] ∧ ∃ a c, v = .slice a 0 c
  | v, x :: r, F => ∃ g c xs G1 G2, v = .slice (some ⟨g, 0, none⟩) (r.length + 1) c ∧ RowE w g (r.length + 1) c xs ∧ F = g :: (G1 ++ G2) ∧ (g ∉ G1 ∧ g ∉ G2 ∧ ∀ b ∈ G1, b ∉ G2) ∧ OwnE w g 0 x G1 ∧ OwnR w g 5 r G2
/-- Trees in a row, their lists in the blocks G. -/
def OwnR (w : World) (g : Nat) : Nat → List Ex.T → List Nat → Prop
  | _, [], G => G = []
  | o, x :: r, G => ∃ G1 G2, G = G1 ++ G2 ∧ (∀ b ∈ G1, b ∉ G2) ∧ OwnE w g o x G1 ∧ OwnR w g (o + 5) r G2
end
mutual
theorem OwnE.keep {w w' : World} : ∀ {g o : Nat} {F : List Nat} (t : Ex.T), (∀ j, o ≤ j → j < o + 5 → w'.cell? ⟨g, j, none⟩ = w.cell? ⟨g, j, none⟩) → (∀ b ∈ F, w'.heap[b]? = w.heap[b]?) → OwnE w g o t F → OwnE w' g o t F
  | g, o, F, .node k t n l ks, hc, hF, hx => by
    rw [OwnE] at hx ⊢
    obtain ⟨⟨a, b, c, d⟩, v, hv, hk⟩ := hx
    exact ⟨⟨(hc o (by omega) (by omega)).trans a, (hc (o + 1) (by omega) (by omega)).trans b, (hc (o + 2) (by omega) (by omega)).trans c, (hc (o + 3) (by omega) (by omega)).trans d⟩, v, (hc (o + 4) (by omega) (by omega)).trans hv, OwnK.keep ks hF hk⟩
theorem OwnK.keep {w w' : World} : ∀ {v : Value} {F : List Nat} (l : List Ex.T), (∀ b ∈ F, w'.heap[b]? = w.heap[b]?) → OwnK w v l F → OwnK w' v l F
  | v, F, [], hF, hx => by rw [OwnK] at hx ⊢; exact hx
  | v, F, x :: r, hF, hx => by
    rw [OwnK] at hx ⊢
    obtain ⟨g, c, xs, G1, G2, e, hrow, rfl, hd, hx, hr⟩ := hx
    have hg := hF g (List.mem_cons_self)
    exact ⟨g, c, xs, G1, G2, e, hrow.keep hg, rfl, hd, OwnE.keep x (fun j _ _ => cell_keep hg j) (fun b hb => hF b (List.mem_cons_of_mem _ (List.mem_append_left _ hb))) hx, OwnR.keep r (fun j _ _ => cell_keep hg j) (fun b hb => hF b (List.mem_cons_of_mem _ (List.mem_append_right _ hb))) hr⟩
theorem OwnR.keep {w w' : World} : ∀ {g o : Nat} {F : List Nat} (l : List Ex.T), (∀ j, o ≤ j → j < o + l.length * 5 → w'.cell? ⟨g, j, none⟩ = w.cell? ⟨g, j, none⟩) → (∀ b ∈ F, w'.heap[b]? = w.heap[b]?) → OwnR w g o l F → OwnR w' g o l F
  | g, o, F, [], hc, hF, hx => by rw [OwnR] at hx ⊢; exact hx
  | g, o, F, x :: r, hc, hF, hx => by
    rw [OwnR] at hx ⊢
    rw [List.length_cons] at hc
    obtain ⟨G1, G2, rfl, hd, hx, hr⟩ := hx
    exact ⟨G1, G2, rfl, hd, OwnE.keep x (fun j h1 h2 => hc j h1 (by omega)) (fun b hb => hF b (List.mem_append_left _ hb)) hx, OwnR.keep r (fun j h1 h2 => hc j (by omega) (by omega)) (fun b hb => hF b (List.mem_append_right _ hb)) hr⟩
end
mutual
theorem OwnE.at {w : World} : ∀ {g o : Nat} {F : List Nat} (t : Ex.T), OwnE w g o t F → TreeAt w g o t
  | g, o, F, .node k t n l ks, hx => by
    rw [OwnE] at hx
    rw [TreeAt]
    obtain ⟨h, v, hv, hk⟩ := hx
    exact ⟨h, v, hv, OwnK.kids ks hk⟩
theorem OwnK.kids {w : World} : ∀ {v : Value} {F : List Nat} (l : List Ex.T), OwnK w v l F → Kids w v l
  | v, F, [], hx => by rw [OwnK] at hx; rw [Kids]; exact hx.2
  | v, F, x :: r, hx => by
    rw [OwnK] at hx
    rw [Kids]
    obtain ⟨g, c, xs, G1, G2, e, hrow, rfl, hd, hx, hr⟩ := hx
    exact ⟨g, 0, c, e, hrow.cap, OwnE.at x hx, by rw [Nat.zero_add]; exact OwnR.at r hr⟩
theorem OwnR.at {w : World} : ∀ {g o : Nat} {F : List Nat} (l : List Ex.T), OwnR w g o l F → RowAt w g o l
  | g, o, F, [], hx => by rw [RowAt]; trivial
  | g, o, F, x :: r, hx => by
    rw [OwnR] at hx
    rw [RowAt]
    obtain ⟨G1, G2, rfl, hd, hx, hr⟩ := hx
    exact ⟨OwnE.at x hx, OwnR.at r hr⟩
end
theorem ownR_snoc {w : World} {g : Nat} {x : Ex.T} {F : List Nat} : ∀ {l : List Ex.T} {o : Nat} {G : List Nat}, OwnR w g o l G → OwnE w g (o + l.length * 5) x F → (∀ b ∈ G, b ∉ F) → OwnR w g o (l ++ [x]) (G ++ F) := by
  intro l
  induction l with
  | nil =>
    intro o G h hx hd
    rw [OwnR] at h
    subst h
    rw [List.nil_append, List.nil_append, OwnR]
    refine ⟨F, [], by simp, by simp, by simpa using hx, ?_⟩
    rw [OwnR]
  | cons y r ih =>
    intro o G h hx hd
    rw [OwnR] at h
    obtain ⟨G1, G2, rfl, hd2, hy, hr⟩ := h
    rw [List.cons_append, OwnR]
    refine ⟨G1, G2 ++ F, by simp, ?_, hy, ih hr (by rw [List.length_cons] at hx; rw [show o + 5 + r.length * 5 = o + (r.length + 1) * 5 by omega]; exact hx) (fun b hb => hd b (List.mem_append_right _ hb))⟩
    intro b hb hb2
    rcases List.mem_append.1 hb2 with h | h
    · exact hd2 b hb h
    · exact hd b (List.mem_append_left _ hb) h
theorem ownE_of {w : World} {g o : Nat} {t : Ex.T} {v : Value} {F : List Nat} (h : w.cell? ⟨g, o, none⟩ = some (.int .i64 t.kind) ∧ w.cell? ⟨g, o + 1, none⟩ = some (.string t.text) ∧ w.cell? ⟨g, o + 2, none⟩ = some (.int .i64 t.num) ∧ w.cell? ⟨g, o + 3, none⟩ = some (.int .i64 t.line)) (hv : w.cell? ⟨g, o + 4, none⟩ = some v) (hk : OwnK w v t.kids F) : OwnE w g o t F := by
  cases t; rw [OwnE]; exact ⟨h, v, hv, hk⟩
/-- A row that is filled is a list of kids. -/
theorem ownK_of {w : World} {g c : Nat} {xs : List Value} {l : List Ex.T} {G : List Nat} (hr : RowE w g l.length c xs) (ho : OwnR w g 0 l G) (hg : g ∉ G) : OwnK w (.slice (some ⟨g, 0, none⟩) l.length c) l (if l = [] then [] else g :: G) := by
  cases l with
  | nil => rw [OwnK, if_pos rfl]; exact ⟨rfl, _, _, rfl⟩
  | cons x r =>
    rw [OwnR] at ho
    obtain ⟨G1, G2, rfl, hd, hx, hr2⟩ := ho
    rw [OwnK, if_neg (by simp)]
    rw [Nat.zero_add] at hr2
    exact ⟨g, c, xs, G1, G2, rfl, hr, rfl, ⟨fun h => hg (List.mem_append_left _ h), fun h => hg (List.mem_append_right _ h), hd⟩, hx, hr2⟩
/-- Blocks from B on, of the world. -/
def Foot (B : Nat) (w : World) (F : List Nat) : Prop := ∀ b ∈ F, B ≤ b ∧ b < w.heap.size
/-- What makes a tree or a list answers. -/
def RetK (w : World) (ks : List Ex.T) (e : Ending) (w' : World) : Prop := ∃ v F, e = .returned v ∧ OwnK w' v ks F ∧ Foot w.heap.size w' F ∧ Below w.heap.size w w'
def RetE (w : World) (t : Ex.T) (e : Ending) (w' : World) : Prop := ∃ v F, e = .returned (exV t v) ∧ OwnK w' v t.kids F ∧ Foot w.heap.size w' F ∧ Below w.heap.size w w'
/-- Where the filling of a list stands. -/
def FillAt (w : World) (g : Nat) (ks : List Ex.T) (k : Nat) (wr : World) : Prop := ∃ xs G, RowE wr g ks.length ks.length xs ∧ OwnR wr g 0 (ks.take k) G ∧ (∀ b ∈ G, g < b ∧ b < wr.heap.size) ∧ Below w.heap.size w wr
theorem FillAt.cells {w wr : World} {g k : Nat} {ks : List Ex.T} (h : FillAt w g ks k wr) (j : Nat) (hj : j < ks.length * 5) : (∃ u, wr.cell? ⟨g, j, none⟩ = some u) ∧ wr.frozen? ⟨g, j, none⟩ = false := by
  obtain ⟨xs, G, hr, _⟩ := h
  exact hr.cell j hj
/-- The five stores of a tree. -/
abbrev put5 (w : World) (g o : Nat) (t : Ex.T) (v : Value) : World := ((((w.setCell ⟨g, o, none⟩ (.int .i64 t.kind)).setCell ⟨g, o + 1, none⟩ (.string t.text)).setCell ⟨g, o + 2, none⟩ (.int .i64 t.num)).setCell ⟨g, o + 3, none⟩ (.int .i64 t.line)).setCell ⟨g, o + 4, none⟩ v
theorem FillAt.next {w wr w1 : World} {g k : Nat} {ks : List Ex.T} {v : Value} {F : List Nat} (h : FillAt w g ks k wr) (hg : w.heap.size ≤ g) (hk : k < ks.length) (hb : Below wr.heap.size wr w1) (ho : OwnK w1 v (ks[k]).kids F) (hF : Foot wr.heap.size w1 F) :
    FillAt w g ks (k + 1) (put5 w1 g (k * 5) ks[k] v) := by
  obtain ⟨xs, G, hr, hR, hG, hB⟩ := h
  have hgl := hr.lt
  have hr1 : RowE w1 g ks.length ks.length xs := hr.keep (hb.block g hgl)
  have hR1 : OwnR w1 g 0 (ks.take k) G := OwnR.keep _ (fun j _ _ => cell_keep (hb.block g hgl) j) (fun b hb2 => hb.block b (hG b hb2).2) hR
  have hlen : (ks.take k).length = k := by rw [List.length_take]; omega
  have hne : ∀ b, b ≠ g → ∀ (W : World) (o : Nat) (u : Value), (W.setCell ⟨g, o, none⟩ u).heap[b]? = W.heap[b]? := fun b hb W o u => Below.heap_setCell W ⟨g, o, none⟩ u b hb
  have hput : ∀ b, b ≠ g → (put5 w1 g (k * 5) ks[k] v).heap[b]? = w1.heap[b]? := fun b hb => by unfold put5; rw [hne b hb, hne b hb, hne b hb, hne b hb, hne b hb]
  have hcell : ∀ j, j < k * 5 → (put5 w1 g (k * 5) ks[k] v).cell? ⟨g, j, none⟩ = w1.cell? ⟨g, j, none⟩ := by
    intro j hj
    unfold put5
    have c : ∀ (W : World) (o : Nat) (u : Value), o ≠ j → (W.setCell ⟨g, o, none⟩ u).cell? ⟨g, j, none⟩ = W.cell? ⟨g, j, none⟩ := by
      intro W o u ho
      have : ¬ j = o := fun e => ho e.symm
      go_simp
    rw [c _ _ _ (by omega), c _ _ _ (by omega), c _ _ _ (by omega), c _ _ _ (by omega), c _ _ _ (by omega)]
  have hfg : ∀ b ∈ F, b ≠ g := fun b hb e => by have := (hF b hb).1; omega
  have hgg : ∀ b ∈ G, b ≠ g := fun b hb e => by have := (hG b hb).1; omega
  have hnew : OwnE (put5 w1 g (k * 5) ks[k] v) g (k * 5) ks[k] F := by
    obtain ⟨a0, f0⟩ := hr1.cell (k * 5) (by omega)
    obtain ⟨a1, f1⟩ := hr1.cell (k * 5 + 1) (by omega)
    obtain ⟨a2, f2⟩ := hr1.cell (k * 5 + 2) (by omega)
    obtain ⟨a3, f3⟩ := hr1.cell (k * 5 + 3) (by omega)
    obtain ⟨a4, f4⟩ := hr1.cell (k * 5 + 4) (by omega)
    obtain ⟨u0, a0⟩ := a0
    obtain ⟨u1, a1⟩ := a1
    obtain ⟨u2, a2⟩ := a2
    obtain ⟨u3, a3⟩ := a3
    obtain ⟨u4, a4⟩ := a4
    refine ownE_of ⟨?_, ?_, ?_, ?_⟩ ?_ (OwnK.keep _ (fun b hb => hput b (hfg b hb)) ho)
    all_goals (unfold put5; go_simp)
  refine ⟨_, G ++ F, ((((hr1.set _ _).set _ _).set _ _).set _ _).set _ _, ?_, ?_, ?_⟩
  · rw [List.take_succ_eq_append_getElem hk]
    refine ownR_snoc (OwnR.keep _ (fun j h1 h2 => hcell j (by rw [hlen] at h2; omega)) (fun b hb2 => hput b (hgg b hb2)) hR1) ?_ ?_
    · rw [hlen, Nat.zero_add]; exact hnew
    · intro b hb1 hb2
      have := (hF b hb2).1
      have := (hG b hb1).2
      omega
  · intro b hb2
    have hs : (put5 w1 g (k * 5) ks[k] v).heap.size = w1.heap.size := by simp [put5, World.setCell]
    have := hb.size
    rw [hs]
    rcases List.mem_append.1 hb2 with h | h
    · have := hG b h; omega
    · have := hF b h; omega
  · have h2 : Below w.heap.size w w1 := hB.trans (hb.mono hB.size)
    exact ((((h2.setCell (p := ⟨g, k * 5, none⟩) hg _).setCell (p := ⟨g, k * 5 + 1, none⟩) hg _).setCell (p := ⟨g, k * 5 + 2, none⟩) hg _).setCell (p := ⟨g, k * 5 + 3, none⟩) hg _).setCell (p := ⟨g, k * 5 + 4, none⟩) hg _
end Go.Proofs.YtbadepiakkhabaaDoor
/- Expression trees in memory. No conditions. -/
namespace Go.Proofs.YtbadepiakkhabaaDoor.Cr
open Go.RowKit
set_option linter.unusedVariables false

mutual
/-- Where a tree's six cells lie, and all below them. -/
def TreeAt (w : World) (g : Nat) : Nat → Co.T → Prop
  | o, .node k p n l t ks => (w.cell? ⟨g, o, none⟩ = some (.int .i64 k) ∧ w.cell? ⟨g, o + 1, none⟩ = some (.int .i64 p) ∧ w.cell? ⟨g, o + 2, none⟩ = some (.int .i64 n) ∧ w.cell? ⟨g, o + 3, none⟩ = some (.int .i64 l) ∧ w.cell? ⟨g, o + 4, none⟩ = some (.string t)) ∧ ∃ v, w.cell? ⟨g, o + 5, none⟩ = some v ∧ Kids w v ks
/-- A list of kids. -/
def Kids (w : World) : Value → List Co.T → Prop
  | v, [] => ∃ a c, v = .slice a 0 c
  | v, x :: r => ∃ g o c, v = .slice (some ⟨g, o, none⟩) (r.length + 1) c ∧ r.length + 1 ≤ c ∧ TreeAt w g o x ∧ RowAt w g (o + 6) r
/-- Trees in a row. -/
def RowAt (w : World) (g : Nat) : Nat → List Co.T → Prop
  | _, [] => True
  | o, x :: r => TreeAt w g o x ∧ RowAt w g (o + 6) r
end
mutual
theorem TreeAt.mono {w w' : World} (h : Subw w w') : ∀ {g o : Nat} (t : Co.T), TreeAt w g o t → TreeAt w' g o t
  | g, o, .node k p n l t ks, hx => by
    rw [TreeAt] at hx ⊢
    obtain ⟨⟨a, b, c, d, e⟩, v, hv, hk⟩ := hx
    exact ⟨⟨h _ _ _ a, h _ _ _ b, h _ _ _ c, h _ _ _ d, h _ _ _ e⟩, v, h _ _ _ hv, Kids.mono h ks hk⟩
theorem Kids.mono {w w' : World} (h : Subw w w') : ∀ {v : Value} (l : List Co.T), Kids w v l → Kids w' v l
  | v, [], hx => by rw [Kids] at hx ⊢; exact hx
  | v, x :: r, hx => by
    rw [Kids] at hx ⊢
    obtain ⟨g, o, c, e, hcp, hx, hr⟩ := hx
    exact ⟨g, o, c, e, hcp, TreeAt.mono h x hx, RowAt.mono h r hr⟩
theorem RowAt.mono {w w' : World} (h : Subw w w') : ∀ {g o : Nat} (l : List Co.T), RowAt w g o l → RowAt w' g o l
  | g, o, [], hx => by rw [RowAt]; trivial
  | g, o, x :: r, hx => by
    rw [RowAt] at hx ⊢
    exact ⟨TreeAt.mono h x hx.1, RowAt.mono h r hx.2⟩
end
theorem row_at {w : World} {g : Nat} : ∀ {l : List Co.T} {o : Nat}, RowAt w g o l → ∀ (i : Nat) (h : i < l.length), TreeAt w g (o + i * 6) l[i] := by
  intro l
  induction l with
  | nil => intro o _ i h; simp at h
  | cons x r ih =>
    intro o hr i h
    rw [RowAt] at hr
    match i with
    | 0 => simpa using hr.1
    | i + 1 =>
      have h2 := ih hr.2 i (by simpa using h)
      have e : o + 6 + i * 6 = o + (i + 1) * 6 := by omega
      rw [e] at h2; simpa using h2
theorem row_of {w : World} {g : Nat} : ∀ {l : List Co.T} {o : Nat}, (∀ (i : Nat) (h : i < l.length), TreeAt w g (o + i * 6) l[i]) → RowAt w g o l := by
  intro l
  induction l with
  | nil => intro o _; rw [RowAt]; trivial
  | cons x r ih =>
    intro o hr
    rw [RowAt]
    have h0 := hr 0 (by simp)
    rw [Nat.zero_mul, Nat.add_zero] at h0
    refine ⟨h0, ih fun i h => ?_⟩
    have h2 := hr (i + 1) (by simpa using h)
    have e : o + (i + 1) * 6 = o + 6 + i * 6 := by omega
    rw [e] at h2; simpa using h2
theorem kids_len {w : World} {v : Value} {l : List Co.T} (h : Kids w v l) : ∃ a c, v = .slice a l.length c := by
  cases l with
  | nil => rw [Kids] at h; exact h
  | cons x r => rw [Kids] at h; obtain ⟨g, o, c, e, _⟩ := h; exact ⟨_, c, e⟩
theorem kids_at {w : World} {a : Option Addr} {n c : Nat} {l : List Co.T} (h : Kids w (.slice a n c) l) (i : Nat) (hi : i < l.length) : ∃ g o, a = some ⟨g, o, none⟩ ∧ TreeAt w g (o + i * 6) l[i] := by
  cases l with
  | nil => simp at hi
  | cons x r =>
    rw [Kids] at h
    obtain ⟨g, o, c2, e, _, hx, hr⟩ := h
    injection e with e1 e2 e3
    exact ⟨g, o, e1, row_at (l := x :: r) (by rw [RowAt]; exact ⟨hx, hr⟩) i hi⟩
theorem kids_of {w : World} {g o c : Nat} {l : List Co.T} (hcp : l.length ≤ c) (h : ∀ (i : Nat) (hi : i < l.length), TreeAt w g (o + i * 6) l[i]) : Kids w (.slice (some ⟨g, o, none⟩) l.length c) l := by
  cases l with
  | nil => rw [Kids]; exact ⟨_, _, rfl⟩
  | cons x r =>
    have h2 := row_of h
    rw [RowAt] at h2
    rw [Kids]; exact ⟨g, o, c, rfl, hcp, h2.1, h2.2⟩
/-- A list's capacity. -/
theorem kids_cap {w : World} {a : Option Addr} {n c : Nat} {l : List Co.T} (h : Kids w (.slice a n c) l) (hl : l ≠ []) : n ≤ c := by
  cases l with
  | nil => exact absurd rfl hl
  | cons x r =>
    rw [Kids] at h
    obtain ⟨g, o, c2, e, hcp, _⟩ := h
    injection e with e1 e2 e3
    omega
/-- The five cells of a tree at a place. -/
theorem tree_cells {w : World} {g o : Nat} {t : Co.T} (h : TreeAt w g o t) : (w.cell? ⟨g, o, none⟩ = some (.int .i64 t.kind) ∧ w.cell? ⟨g, o + 1, none⟩ = some (.int .i64 t.op) ∧ w.cell? ⟨g, o + 2, none⟩ = some (.int .i64 t.num) ∧ w.cell? ⟨g, o + 3, none⟩ = some (.int .i64 t.line) ∧ w.cell? ⟨g, o + 4, none⟩ = some (.string t.text)) ∧ ∃ v, w.cell? ⟨g, o + 5, none⟩ = some v ∧ Kids w v t.kids := by
  cases t; rw [TreeAt] at h; exact h
theorem tree_of {w : World} {g o : Nat} {t : Co.T} {v : Value} (h : w.cell? ⟨g, o, none⟩ = some (.int .i64 t.kind) ∧ w.cell? ⟨g, o + 1, none⟩ = some (.int .i64 t.op) ∧ w.cell? ⟨g, o + 2, none⟩ = some (.int .i64 t.num) ∧ w.cell? ⟨g, o + 3, none⟩ = some (.int .i64 t.line) ∧ w.cell? ⟨g, o + 4, none⟩ = some (.string t.text)) (hv : w.cell? ⟨g, o + 5, none⟩ = some v) (hk : Kids w v t.kids) : TreeAt w g o t := by
  cases t; rw [TreeAt]; exact ⟨h, v, hv, hk⟩
theorem node_eta (t : Co.T) : Co.T.node t.kind t.op t.num t.line t.text t.kids = t := by cases t; rfl
/-- A tree by value: its five cells. -/
abbrev exV (t : Co.T) (v : Value) : Value := .agg #[.int .i64 t.kind, .int .i64 t.op, .int .i64 t.num, .int .i64 t.line, .string t.text, v]
/-- Five cells of a variable of the call's own. -/
def CellsE (w : World) (b : Nat) (t : Co.T) (v : Value) : Prop := w.cell? ⟨b, 0, none⟩ = some (.int .i64 t.kind) ∧ w.cell? ⟨b, 1, none⟩ = some (.int .i64 t.op) ∧ w.cell? ⟨b, 2, none⟩ = some (.int .i64 t.num) ∧ w.cell? ⟨b, 3, none⟩ = some (.int .i64 t.line) ∧ w.cell? ⟨b, 4, none⟩ = some (.string t.text) ∧ w.cell? ⟨b, 5, none⟩ = some v
theorem CellsE.later {w w' : World} {b : Nat} {t : Co.T} {v : Value} (h : CellsE w b t v) (hb : Below w.heap.size w w') : CellsE w' b t v :=
  ⟨subw_below hb _ _ _ h.1, subw_below hb _ _ _ h.2.1, subw_below hb _ _ _ h.2.2.1, subw_below hb _ _ _ h.2.2.2.1, subw_below hb _ _ _ h.2.2.2.2.1, subw_below hb _ _ _ h.2.2.2.2.2⟩
theorem CellsE.new (W : World) (t : Co.T) (v : Value) (T : TypeId) : CellsE (W.alloc (.cells #[.int .i64 t.kind, .int .i64 t.op, .int .i64 t.num, .int .i64 t.line, .string t.text, v] T)) W.heap.size t v := by
  refine ⟨?_, ?_, ?_, ?_, ?_, ?_⟩ <;> go_simp
theorem Kids.later {w w' : World} {v : Value} {l : List Co.T} (h : Kids w v l) (hb : Below w.heap.size w w') : Kids w' v l := Kids.mono (subw_below hb) l h
theorem TreeAt.later {w w' : World} {g o : Nat} {t : Co.T} (h : TreeAt w g o t) (hb : Below w.heap.size w w') : TreeAt w' g o t := TreeAt.mono (subw_below hb) t h
/-- A variable of five cells, that may be written. -/
def FreeE (w : World) (b : Nat) (k p n l : Int) (t : ByteArray) (v : Value) : Prop := (w.cell? ⟨b, 0, none⟩ = some (.int .i64 k) ∧ w.cell? ⟨b, 1, none⟩ = some (.int .i64 p) ∧ w.cell? ⟨b, 2, none⟩ = some (.int .i64 n) ∧ w.cell? ⟨b, 3, none⟩ = some (.int .i64 l) ∧ w.cell? ⟨b, 4, none⟩ = some (.string t) ∧ w.cell? ⟨b, 5, none⟩ = some v)
  ∧ w.frozen? ⟨b, 0, none⟩ = false ∧ w.frozen? ⟨b, 1, none⟩ = false ∧ w.frozen? ⟨b, 2, none⟩ = false ∧ w.frozen? ⟨b, 3, none⟩ = false ∧ w.frozen? ⟨b, 4, none⟩ = false ∧ w.frozen? ⟨b, 5, none⟩ = false
theorem FreeE.lt {w : World} {b : Nat} {k p n l : Int} {t : ByteArray} {v : Value} (h : FreeE w b k p n l t v) : b < w.heap.size := World.block_lt_of_cell? w _ h.1.1
theorem FreeE.later {w w' : World} {b : Nat} {k p n l : Int} {t : ByteArray} {v : Value} (h : FreeE w b k p n l t v) (hb : Below w.heap.size w w') : FreeE w' b k p n l t v := by
  have hl := h.lt
  obtain ⟨⟨a0, a1, a2, a3, a4, a5⟩, f0, f1, f2, f3, f4, f5⟩ := h
  exact ⟨⟨subw_below hb _ _ _ a0, subw_below hb _ _ _ a1, subw_below hb _ _ _ a2, subw_below hb _ _ _ a3, subw_below hb _ _ _ a4, subw_below hb _ _ _ a5⟩,
    (hb.frozen (p := ⟨b, 0, none⟩) hl).trans f0, (hb.frozen (p := ⟨b, 1, none⟩) hl).trans f1, (hb.frozen (p := ⟨b, 2, none⟩) hl).trans f2, (hb.frozen (p := ⟨b, 3, none⟩) hl).trans f3, (hb.frozen (p := ⟨b, 4, none⟩) hl).trans f4, (hb.frozen (p := ⟨b, 5, none⟩) hl).trans f5⟩
theorem FreeE.new (W : World) (k p n l : Int) (t : ByteArray) (v : Value) (T : TypeId) : FreeE (W.alloc (.cells #[.int .i64 k, .int .i64 p, .int .i64 n, .int .i64 l, .string t, v] T)) W.heap.size k p n l t v := by
  refine ⟨⟨?_, ?_, ?_, ?_, ?_, ?_⟩, ?_, ?_, ?_, ?_, ?_, ?_⟩ <;> go_simp
end Go.Proofs.YtbadepiakkhabaaDoor.Cr
/- The laws' measure of a tree. No conditions. -/
namespace Go.Proofs.YtbadepiakkhabaaDoor.Cr
open Go.RowKit
set_option linter.unusedVariables false

def SzT (t : Co.T) : Prop := t.Ok → ∀ (w : World) (v : Value) (left : Nat), Kids w v t.kids → (left : Int) ≤ 1048576 → Calls Tryd.prog 88 #[exV t v, .int .i64 (left : Int)] w fun e w' => e = .returned (.int .i64 (szR left t.bulk)) ∧ Below w.heap.size w w'
/-- Where the measure of a list stands. -/
def SzAt (ks : List Co.T) (left k m : Nat) : Prop := m + (ks.length + Co.bulks (ks.take k)) = left
theorem SzAt.start {ks : List Co.T} {left : Nat} (h : ks.length ≤ left) : SzAt ks left 0 (left - ks.length) := by unfold SzAt; simp [Co.bulks]; omega
theorem SzAt.next {ks : List Co.T} {left k m : Nat} (h : SzAt ks left k m) (hk : k < ks.length) (hb : ks[k].bulk ≤ m) : SzAt ks left (k + 1) (m - ks[k].bulk) := by
  unfold SzAt at h ⊢
  rw [Co.bulks_take ks k hk]; omega
theorem SzAt.bad {ks : List Co.T} {left k m : Nat} (h : SzAt ks left k m) (hk : k < ks.length) (hb : ¬ ks[k].bulk ≤ m) : szR left (ks.length + Co.bulks ks) = -1 := by
  unfold SzAt at h
  have h2 := Co.bulks_take ks k hk
  have h3 := Co.bulks_take_le ks (k + 1)
  exact szR_no (by omega)
theorem SzAt.over {ks : List Co.T} {left m : Nat} (h : SzAt ks left ks.length m) : szR left (ks.length + Co.bulks ks) = (m : Int) := by
  unfold SzAt at h
  rw [List.take_length] at h
  rw [szR_yes (by omega)]; congr 1; omega
set_option maxHeartbeats 800000 in
theorem sz_list (ks : List Co.T) (hI : ∀ x ∈ ks, SzT x) (hok : Co.Oks ks) (hl : ks.length ≤ 9223372036854775807) (w : World) (v : Value) (left : Nat) (hk : Kids w v ks) (hs : (left : Int) ≤ 1048576) :
    Calls Tryd.prog 119 #[v, .int .i64 (left : Int)] w fun e w' => e = .returned (.int .i64 (szR left (ks.length + Co.bulks ks))) ∧ Below w.heap.size w w' := by
  obtain ⟨a, c, rfl⟩ := kids_len hk
  have HK := Lib.hid hk
  have HI := Lib.hid hI
  have HOK := Lib.hid hok
  clear hk hI hok
  by_cases h0 : ks.length ≤ left
  · have HST := Lib.hid (SzAt.start h0)
    have e0 : ((left : Int) - ks.length) = ((left - ks.length : Nat) : Int) := by omega
    have HR0 : Hid (0 ≤ (left : Int) - ks.length) := Lib.hid (by omega)
    have hr0 := HR0.out
    go_enter Tryd.func119, Tryd.ntmps119
    go_wp2
    go_loopw [1, 5] (fun m i wr => ∃ k n : Nat, i = .int .i64 k ∧ m = .int .i64 n ∧ k ≤ ks.length ∧ n ≤ left ∧ SzAt ks left k n ∧ Below w.heap.size w wr) (fun _ i _ => ks.length - (intOf i).toNat)
    case atStart => exact ⟨0, left - ks.length, rfl, by rw [← e0], by omega, by omega, HST.out, Below.refl _ _⟩
    case round =>
      clear HST e0 HR0 hr0
      obtain ⟨k, n, rfl, rfl, hk, hn, hat, hb⟩ := hrel
      have HAT := Lib.hid hat
      have HB := Lib.hid hb
      have HK2 := Lib.hid (HK.out.later hb)
      clear hat hb
      by_cases hlt : k < ks.length
      · obtain ⟨g, o, rfl, ht⟩ := kids_at HK2.out k hlt
        obtain ⟨⟨q0, q1, q2, q3, q4⟩, v, q5, hkv⟩ := tree_cells ht
        have HC := Lib.hid (HI.out ks[k] (List.getElem_mem hlt) (Co.oks_mem HOK.out (List.getElem_mem hlt)) wr v n hkv (by omega))
        have k0 : (0 : Int) ≤ k := by omega
        have k1 : (k : Int) < ks.length := by omega
        by_cases hbk : ks[k].bulk ≤ n
        · have HN := Lib.hid (HAT.out.next hlt hbk)
          have hle : n - ks[k].bulk ≤ left := by omega
          rw [szR_yes hbk] at HC
          generalize n - ks[k].bulk = n2 at HC HN hle
          clear hbk ht hkv HAT
          generalize ks[k] = x at q0 q1 q2 q3 q4 HC
          go_wp2_with (go_at_call 88; refine HC.out.mono ?_; rintro e w1 ⟨rfl, hb1⟩; have HB1 := Lib.hid (below_then HB.out hb1); clear hb1)
          go_roundw
          case rel => exact ⟨k + 1, n2, by go_num, rfl, by omega, hle, HN.out, HB1.out⟩
          case measure => first | (simp [intOf]; done) | (simp [intOf]; omega)
        · have HN := Lib.hid (HAT.out.bad hlt hbk)
          rw [szR_no hbk] at HC
          clear hbk ht hkv HAT
          generalize ks[k] = x at q0 q1 q2 q3 q4 HC
          go_wp2_with (go_at_call 88; refine HC.out.mono ?_; rintro e w1 ⟨rfl, hb1⟩; have HB1 := Lib.hid (below_then HB.out hb1); clear hb1)
          go_ret
          exact ⟨ret_ei HN.out, HB1.out⟩
      · obtain rfl : k = ks.length := by omega
        have HN := Lib.hid HAT.out.over
        go_wp2
        go_ret
        exact ⟨ret_ei HN.out, HB.out⟩
  · have HN := Lib.hid (szR_no (left := left) (b := ks.length + Co.bulks ks) (by omega))
    have hlt0 : (left : Int) - ks.length < 0 := by omega
    go_enter Tryd.func119, Tryd.ntmps119
    go_wp2
    go_ret
    exact ⟨ret_ei HN.out, Below.refl _ _⟩
theorem bulk_eq (t : Co.T) : t.bulk = t.text.size + (t.kids.length + Co.bulks t.kids) := by cases t; rw [Co.T.bulk]; rfl
theorem kids_count {t x : Co.T} (h : x ∈ t.kids) : x.count < t.count := by
  cases t with
  | node k p n l s ks =>
    rw [Co.T.count]
    have := Co.counts_mem (l := ks) h
    omega
set_option maxHeartbeats 800000 in
theorem sz_tree : ∀ (N : Nat) (t : Co.T), t.count ≤ N → SzT t := by
  intro N
  induction N with
  | zero => intro t h; have := Co.count_pos t; omega
  | succ N ih =>
    intro t hN hok w v left hk hs
    obtain ⟨ht1, hl1, hoks⟩ := Co.ok_node hok
    have HL := Lib.hid (fun (m : Nat) (hm : (m : Int) ≤ 1048576) W hb => sz_list t.kids (fun x hx => ih x (by have := kids_count hx; omega)) hoks hl1 W v m (hk.later hb) hm)
    have HB := Lib.hid (bulk_eq t)
    clear ih hN hok hoks hl1
    by_cases h0 : t.text.size ≤ left
    · have HP := Lib.hid (szR_part (b := t.kids.length + Co.bulks t.kids) h0)
      have HC := Lib.hid (szR_cases (left - t.text.size) (t.kids.length + Co.bulks t.kids))
      have HL1 := Lib.hid (HL.out (left - t.text.size) (by omega) _ (bl1 w (.cells #[.int .i64 t.kind, .int .i64 t.op, .int .i64 t.num, .int .i64 t.line, .string t.text, v] 119)))
      have e0 : ((left : Int) - t.text.size) = ((left - t.text.size : Nat) : Int) := by omega
      have hr0 : 0 ≤ (left : Int) - t.text.size := by omega
      generalize szR (left - t.text.size) (t.kids.length + Co.bulks t.kids) = r at HP HC HL1
      clear hk HL
      rcases HC.out with hc | hc
      · obtain ⟨hc1, hc2⟩ := hc
        go_enter Tryd.func88, Tryd.ntmps88
        go_wp2_with (go_at_call 119; refine HL1.out.mono ?_; rintro e w1 ⟨rfl, hb1⟩; have HB1 := Lib.hid (below_then (bl1 _ _) hb1); clear hb1)
        go_ret
        exact ⟨ret_ei (by rw [HB.out, HP.out]), HB1.out⟩
      · subst hc
        go_enter Tryd.func88, Tryd.ntmps88
        go_wp2_with (go_at_call 119; refine HL1.out.mono ?_; rintro e w1 ⟨rfl, hb1⟩; have HB1 := Lib.hid (below_then (bl1 _ _) hb1); clear hb1)
        go_ret
        exact ⟨ret_ei (by rw [HB.out, HP.out]), HB1.out⟩
    · have HN := Lib.hid (szR_no (left := left) (b := t.text.size + (t.kids.length + Co.bulks t.kids)) (by omega))
      have hlt0 : (left : Int) - t.text.size < 0 := by omega
      clear HL hk
      go_enter Tryd.func88, Tryd.ntmps88
      go_wp2
      go_ret
      exact ⟨ret_ei (by rw [HB.out, HN.out]), bl1 _ _⟩
end Go.Proofs.YtbadepiakkhabaaDoor.Cr
/- Trees of the call's own: the blocks of their lists, each met once. No conditions. -/
namespace Go.Proofs.YtbadepiakkhabaaDoor.Cr
open Go.RowKit
set_option linter.unusedVariables false

/-- A row of n trees' cells. -/
def RowE (w : World) (g n cap : Nat) (xs : List Value) : Prop := w.ownsRow 0 68 6 (.slice (some ⟨g, 0, none⟩) n cap) n xs
theorem RowE.cell {w : World} {g n cap : Nat} {xs : List Value} (h : RowE w g n cap xs) (j : Nat) (hj : j < n * 6) : (∃ u, w.cell? ⟨g, j, none⟩ = some u) ∧ w.frozen? ⟨g, j, none⟩ = false := by
  refine ⟨?_, World.ownsRow.frozenAt h j⟩
  rw [World.ownsRow.cellAt h j hj]
  have hl := h.1
  exact ⟨xs[j]'(by omega), List.getElem?_eq_getElem _⟩
theorem RowE.set {w : World} {g n cap : Nat} {xs : List Value} (h : RowE w g n cap xs) (j : Nat) (u : Value) : RowE (w.setCell ⟨g, j, none⟩ u) g n cap (xs.set j u) := (World.ownsRow.stored h j u).1
theorem RowE.keep {w w1 : World} {g n cap : Nat} {xs : List Value} (h : RowE w g n cap xs) (hb : w1.heap[g]? = w.heap[g]?) : RowE w1 g n cap xs := by
  refine ⟨h.1, ?_⟩
  rcases h.2 with hn | ⟨g2, cap2, cur, hv, hg, hgg, r⟩
  · exact .inl hn
  · refine .inr ⟨g2, cap2, cur, hv, hg, ?_, r⟩
    injection hv with e1 e2 e3
    injection e1 with e1
    injection e1 with e1
    subst e1
    rw [hb]; exact hgg
theorem RowE.cap {w : World} {g n cap : Nat} {xs : List Value} (h : RowE w g n cap xs) : n ≤ cap := by
  rcases h.2 with ⟨h1, h2⟩ | ⟨g2, cap2, cur, hv, hg, hgg, r, _⟩
  · cases h1
  · injection hv with e1 e2 e3; omega
theorem RowE.lt {w : World} {g n cap : Nat} {xs : List Value} (h : RowE w g n cap xs) : g < w.heap.size := (World.ownsRow.lt h g rfl).2
mutual
/-- A tree's five cells at a place, its lists in the blocks F. -/
def OwnE (w : World) (g : Nat) : Nat → Co.T → List Nat → Prop
  | o, .node k p n l t ks, F => (w.cell? ⟨g, o, none⟩ = some (.int .i64 k) ∧ w.cell? ⟨g, o + 1, none⟩ = some (.int .i64 p) ∧ w.cell? ⟨g, o + 2, none⟩ = some (.int .i64 n) ∧ w.cell? ⟨g, o + 3, none⟩ = some (.int .i64 l) ∧ w.cell? ⟨g, o + 4, none⟩ = some (.string t)) ∧ ∃ v, w.cell? ⟨g, o + 5, none⟩ = some v ∧ OwnK w v ks F
/-- A list of kids, in the blocks F. -/
def OwnK (w : World) : Value → List Co.T → List Nat → Prop
  | v, [], F => F = [] ∧ ∃ a c, v = .slice a 0 c
  | v, x :: r, F => ∃ g c xs G1 G2, v = .slice (some ⟨g, 0, none⟩) (r.length + 1) c ∧ RowE w g (r.length + 1) c xs ∧ F = g :: (G1 ++ G2) ∧ (g ∉ G1 ∧ g ∉ G2 ∧ ∀ b ∈ G1, b ∉ G2) ∧ OwnE w g 0 x G1 ∧ OwnR w g 6 r G2
/-- Trees in a row, their lists in the blocks G. -/
def OwnR (w : World) (g : Nat) : Nat → List Co.T → List Nat → Prop
  | _, [], G => G = []
  | o, x :: r, G => ∃ G1 G2, G = G1 ++ G2 ∧ (∀ b ∈ G1, b ∉ G2) ∧ OwnE w g o x G1 ∧ OwnR w g (o + 6) r G2
end
mutual
theorem OwnE.keep {w w' : World} : ∀ {g o : Nat} {F : List Nat} (t : Co.T), (∀ j, o ≤ j → j < o + 6 → w'.cell? ⟨g, j, none⟩ = w.cell? ⟨g, j, none⟩) → (∀ b ∈ F, w'.heap[b]? = w.heap[b]?) → OwnE w g o t F → OwnE w' g o t F
  | g, o, F, .node k p n l t ks, hc, hF, hx => by
    rw [OwnE] at hx ⊢
    obtain ⟨⟨a, b, c, d, e⟩, v, hv, hk⟩ := hx
    exact ⟨⟨(hc o (by omega) (by omega)).trans a, (hc (o + 1) (by omega) (by omega)).trans b, (hc (o + 2) (by omega) (by omega)).trans c, (hc (o + 3) (by omega) (by omega)).trans d, (hc (o + 4) (by omega) (by omega)).trans e⟩, v, (hc (o + 5) (by omega) (by omega)).trans hv, OwnK.keep ks hF hk⟩
theorem OwnK.keep {w w' : World} : ∀ {v : Value} {F : List Nat} (l : List Co.T), (∀ b ∈ F, w'.heap[b]? = w.heap[b]?) → OwnK w v l F → OwnK w' v l F
  | v, F, [], hF, hx => by rw [OwnK] at hx ⊢; exact hx
  | v, F, x :: r, hF, hx => by
    rw [OwnK] at hx ⊢
    obtain ⟨g, c, xs, G1, G2, e, hrow, rfl, hd, hx, hr⟩ := hx
    have hg := hF g (List.mem_cons_self)
    exact ⟨g, c, xs, G1, G2, e, hrow.keep hg, rfl, hd, OwnE.keep x (fun j _ _ => cell_keep hg j) (fun b hb => hF b (List.mem_cons_of_mem _ (List.mem_append_left _ hb))) hx, OwnR.keep r (fun j _ _ => cell_keep hg j) (fun b hb => hF b (List.mem_cons_of_mem _ (List.mem_append_right _ hb))) hr⟩
theorem OwnR.keep {w w' : World} : ∀ {g o : Nat} {F : List Nat} (l : List Co.T), (∀ j, o ≤ j → j < o + l.length * 6 → w'.cell? ⟨g, j, none⟩ = w.cell? ⟨g, j, none⟩) → (∀ b ∈ F, w'.heap[b]? = w.heap[b]?) → OwnR w g o l F → OwnR w' g o l F
  | g, o, F, [], hc, hF, hx => by rw [OwnR] at hx ⊢; exact hx
  | g, o, F, x :: r, hc, hF, hx => by
    rw [OwnR] at hx ⊢
    rw [List.length_cons] at hc
    obtain ⟨G1, G2, rfl, hd, hx, hr⟩ := hx
    exact ⟨G1, G2, rfl, hd, OwnE.keep x (fun j h1 h2 => hc j h1 (by omega)) (fun b hb => hF b (List.mem_append_left _ hb)) hx, OwnR.keep r (fun j h1 h2 => hc j (by omega) (by omega)) (fun b hb => hF b (List.mem_append_right _ hb)) hr⟩
end
mutual
theorem OwnE.at {w : World} : ∀ {g o : Nat} {F : List Nat} (t : Co.T), OwnE w g o t F → TreeAt w g o t
  | g, o, F, .node k p n l t ks, hx => by
    rw [OwnE] at hx
    rw [TreeAt]
    obtain ⟨h, v, hv, hk⟩ := hx
    exact ⟨h, v, hv, OwnK.kids ks hk⟩
theorem OwnK.kids {w : World} : ∀ {v : Value} {F : List Nat} (l : List Co.T), OwnK w v l F → Kids w v l
  | v, F, [], hx => by rw [OwnK] at hx; rw [Kids]; exact hx.2
  | v, F, x :: r, hx => by
    rw [OwnK] at hx
    rw [Kids]
    obtain ⟨g, c, xs, G1, G2, e, hrow, rfl, hd, hx, hr⟩ := hx
    exact ⟨g, 0, c, e, hrow.cap, OwnE.at x hx, by rw [Nat.zero_add]; exact OwnR.at r hr⟩
theorem OwnR.at {w : World} : ∀ {g o : Nat} {F : List Nat} (l : List Co.T), OwnR w g o l F → RowAt w g o l
  | g, o, F, [], hx => by rw [RowAt]; trivial
  | g, o, F, x :: r, hx => by
    rw [OwnR] at hx
    rw [RowAt]
    obtain ⟨G1, G2, rfl, hd, hx, hr⟩ := hx
    exact ⟨OwnE.at x hx, OwnR.at r hr⟩
end
theorem ownR_snoc {w : World} {g : Nat} {x : Co.T} {F : List Nat} : ∀ {l : List Co.T} {o : Nat} {G : List Nat}, OwnR w g o l G → OwnE w g (o + l.length * 6) x F → (∀ b ∈ G, b ∉ F) → OwnR w g o (l ++ [x]) (G ++ F) := by
  intro l
  induction l with
  | nil =>
    intro o G h hx hd
    rw [OwnR] at h
    subst h
    rw [List.nil_append, List.nil_append, OwnR]
    refine ⟨F, [], by simp, by simp, by simpa using hx, ?_⟩
    rw [OwnR]
  | cons y r ih =>
    intro o G h hx hd
    rw [OwnR] at h
    obtain ⟨G1, G2, rfl, hd2, hy, hr⟩ := h
    rw [List.cons_append, OwnR]
    refine ⟨G1, G2 ++ F, by simp, ?_, hy, ih hr (by rw [List.length_cons] at hx; rw [show o + 6 + r.length * 6 = o + (r.length + 1) * 6 by omega]; exact hx) (fun b hb => hd b (List.mem_append_right _ hb))⟩
    intro b hb hb2
    rcases List.mem_append.1 hb2 with h | h
    · exact hd2 b hb h
    · exact hd b (List.mem_append_left _ hb) h
theorem ownE_of {w : World} {g o : Nat} {t : Co.T} {v : Value} {F : List Nat} (h : w.cell? ⟨g, o, none⟩ = some (.int .i64 t.kind) ∧ w.cell? ⟨g, o + 1, none⟩ = some (.int .i64 t.op) ∧ w.cell? ⟨g, o + 2, none⟩ = some (.int .i64 t.num) ∧ w.cell? ⟨g, o + 3, none⟩ = some (.int .i64 t.line) ∧ w.cell? ⟨g, o + 4, none⟩ = some (.string t.text)) (hv : w.cell? ⟨g, o + 5, none⟩ = some v) (hk : OwnK w v t.kids F) : OwnE w g o t F := by
  cases t; rw [OwnE]; exact ⟨h, v, hv, hk⟩
/-- A row that is filled is a list of kids. -/
theorem ownK_of {w : World} {g c : Nat} {xs : List Value} {l : List Co.T} {G : List Nat} (hr : RowE w g l.length c xs) (ho : OwnR w g 0 l G) (hg : g ∉ G) : OwnK w (.slice (some ⟨g, 0, none⟩) l.length c) l (if l = [] then [] else g :: G) := by
  cases l with
  | nil => rw [OwnK, if_pos rfl]; exact ⟨rfl, _, _, rfl⟩
  | cons x r =>
    rw [OwnR] at ho
    obtain ⟨G1, G2, rfl, hd, hx, hr2⟩ := ho
    rw [OwnK, if_neg (by simp)]
    rw [Nat.zero_add] at hr2
    exact ⟨g, c, xs, G1, G2, rfl, hr, rfl, ⟨fun h => hg (List.mem_append_left _ h), fun h => hg (List.mem_append_right _ h), hd⟩, hx, hr2⟩
/-- What makes a tree or a list answers. -/
def RetK (w : World) (ks : List Co.T) (e : Ending) (w' : World) : Prop := ∃ v F, e = .returned v ∧ OwnK w' v ks F ∧ Foot w.heap.size w' F ∧ Below w.heap.size w w'
def RetE (w : World) (t : Co.T) (e : Ending) (w' : World) : Prop := ∃ v F, e = .returned (exV t v) ∧ OwnK w' v t.kids F ∧ Foot w.heap.size w' F ∧ Below w.heap.size w w'
/-- Where the filling of a list stands. -/
def FillAt (w : World) (g : Nat) (ks : List Co.T) (k : Nat) (wr : World) : Prop := ∃ xs G, RowE wr g ks.length ks.length xs ∧ OwnR wr g 0 (ks.take k) G ∧ (∀ b ∈ G, g < b ∧ b < wr.heap.size) ∧ Below w.heap.size w wr
theorem FillAt.cells {w wr : World} {g k : Nat} {ks : List Co.T} (h : FillAt w g ks k wr) (j : Nat) (hj : j < ks.length * 6) : (∃ u, wr.cell? ⟨g, j, none⟩ = some u) ∧ wr.frozen? ⟨g, j, none⟩ = false := by
  obtain ⟨xs, G, hr, _⟩ := h
  exact hr.cell j hj
/-- The six stores of a tree. -/
abbrev put6 (w : World) (g o : Nat) (t : Co.T) (v : Value) : World := (((((w.setCell ⟨g, o, none⟩ (.int .i64 t.kind)).setCell ⟨g, o + 1, none⟩ (.int .i64 t.op)).setCell ⟨g, o + 2, none⟩ (.int .i64 t.num)).setCell ⟨g, o + 3, none⟩ (.int .i64 t.line)).setCell ⟨g, o + 4, none⟩ (.string t.text)).setCell ⟨g, o + 5, none⟩ v
theorem FillAt.next {w wr w1 : World} {g k : Nat} {ks : List Co.T} {v : Value} {F : List Nat} (h : FillAt w g ks k wr) (hg : w.heap.size ≤ g) (hk : k < ks.length) (hb : Below wr.heap.size wr w1) (ho : OwnK w1 v (ks[k]).kids F) (hF : Foot wr.heap.size w1 F) :
    FillAt w g ks (k + 1) (put6 w1 g (k * 6) ks[k] v) := by
  obtain ⟨xs, G, hr, hR, hG, hB⟩ := h
  have hgl := hr.lt
  have hr1 : RowE w1 g ks.length ks.length xs := hr.keep (hb.block g hgl)
  have hR1 : OwnR w1 g 0 (ks.take k) G := OwnR.keep _ (fun j _ _ => cell_keep (hb.block g hgl) j) (fun b hb2 => hb.block b (hG b hb2).2) hR
  have hlen : (ks.take k).length = k := by rw [List.length_take]; omega
  have hne : ∀ b, b ≠ g → ∀ (W : World) (o : Nat) (u : Value), (W.setCell ⟨g, o, none⟩ u).heap[b]? = W.heap[b]? := fun b hb W o u => Below.heap_setCell W ⟨g, o, none⟩ u b hb
  have hput : ∀ b, b ≠ g → (put6 w1 g (k * 6) ks[k] v).heap[b]? = w1.heap[b]? := fun b hb => by unfold put6; rw [hne b hb, hne b hb, hne b hb, hne b hb, hne b hb, hne b hb]
  have hcell : ∀ j, j < k * 6 → (put6 w1 g (k * 6) ks[k] v).cell? ⟨g, j, none⟩ = w1.cell? ⟨g, j, none⟩ := by
    intro j hj
    unfold put6
    have c : ∀ (W : World) (o : Nat) (u : Value), o ≠ j → (W.setCell ⟨g, o, none⟩ u).cell? ⟨g, j, none⟩ = W.cell? ⟨g, j, none⟩ := by
      intro W o u ho
      have : ¬ j = o := fun e => ho e.symm
      go_simp
    rw [c _ _ _ (by omega), c _ _ _ (by omega), c _ _ _ (by omega), c _ _ _ (by omega), c _ _ _ (by omega), c _ _ _ (by omega)]
  have hfg : ∀ b ∈ F, b ≠ g := fun b hb e => by have := (hF b hb).1; omega
  have hgg : ∀ b ∈ G, b ≠ g := fun b hb e => by have := (hG b hb).1; omega
  have hnew : OwnE (put6 w1 g (k * 6) ks[k] v) g (k * 6) ks[k] F := by
    obtain ⟨a0, f0⟩ := hr1.cell (k * 6) (by omega)
    obtain ⟨a1, f1⟩ := hr1.cell (k * 6 + 1) (by omega)
    obtain ⟨a2, f2⟩ := hr1.cell (k * 6 + 2) (by omega)
    obtain ⟨a3, f3⟩ := hr1.cell (k * 6 + 3) (by omega)
    obtain ⟨a4, f4⟩ := hr1.cell (k * 6 + 4) (by omega)
    obtain ⟨a5, f5⟩ := hr1.cell (k * 6 + 5) (by omega)
    obtain ⟨u0, a0⟩ := a0
    obtain ⟨u1, a1⟩ := a1
    obtain ⟨u2, a2⟩ := a2
    obtain ⟨u3, a3⟩ := a3
    obtain ⟨u4, a4⟩ := a4
    obtain ⟨u5, a5⟩ := a5
    refine ownE_of ⟨?_, ?_, ?_, ?_, ?_⟩ ?_ (OwnK.keep _ (fun b hb => hput b (hfg b hb)) ho)
    all_goals (unfold put6; go_simp)
  refine ⟨_, G ++ F, (((((hr1.set _ _).set _ _).set _ _).set _ _).set _ _).set _ _, ?_, ?_, ?_⟩
  · rw [List.take_succ_eq_append_getElem hk]
    refine ownR_snoc (OwnR.keep _ (fun j h1 h2 => hcell j (by rw [hlen] at h2; omega)) (fun b hb2 => hput b (hgg b hb2)) hR1) ?_ ?_
    · rw [hlen, Nat.zero_add]; exact hnew
    · intro b hb1 hb2
      have := (hF b hb2).1
      have := (hG b hb1).2
      omega
  · intro b hb2
    have hs : (put6 w1 g (k * 6) ks[k] v).heap.size = w1.heap.size := by simp [put6, World.setCell]
    have := hb.size
    rw [hs]
    rcases List.mem_append.1 hb2 with h | h
    · have := hG b h; omega
    · have := hF b h; omega
  · have h2 : Below w.heap.size w w1 := hB.trans (hb.mono hB.size)
    exact (((((h2.setCell (p := ⟨g, k * 6, none⟩) hg _).setCell (p := ⟨g, k * 6 + 1, none⟩) hg _).setCell (p := ⟨g, k * 6 + 2, none⟩) hg _).setCell (p := ⟨g, k * 6 + 3, none⟩) hg _).setCell (p := ⟨g, k * 6 + 4, none⟩) hg _).setCell (p := ⟨g, k * 6 + 5, none⟩) hg _
end Go.Proofs.YtbadepiakkhabaaDoor.Cr
