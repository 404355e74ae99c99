/- Joined texts: H4, U1, U2, W13. No conditions besides those that each states. -/
import Derived.OwnWalk
import Derived.Test.YtbadepiakkhabaaDoorZ3
import Derived.Test.YtbadepiakkhabaaDoorZ4
/- Trees of the call's own: the blocks of their lists, each met once. No conditions. -/
namespace Go.Proofs.YtbadepiakkhabaaDoor.Cr
open Go.RowKit
set_option linter.unusedVariables false

/-- A row of n trees' cells. -/
def RowE (w : World) (g n cap : Nat) (xs : List Value) : Prop := w.ownsRow 0 68 6 (.slice (some ⟨g, 0, none⟩) n cap) n xs
theorem RowE.cell {w : World} {g n cap : Nat} {xs : List Value} (h : RowE w g n cap xs) (j : Nat) (hj : j < n * 6) : (∃ u, w.cell? ⟨g, j, none⟩ = some u) ∧ w.frozen? ⟨g, j, none⟩ = false := by
  refine ⟨?_, World.ownsRow.frozenAt h j⟩
  rw [World.ownsRow.cellAt h j hj]
  have hl := h.1
  exact ⟨xs[j]'(by omega), List.getElem?_eq_getElem _⟩
theorem RowE.set {w : World} {g n cap : Nat} {xs : List Value} (h : RowE w g n cap xs) (j : Nat) (u : Value) : RowE (w.setCell ⟨g, j, none⟩ u) g n cap (xs.set j u) := (World.ownsRow.stored h j u).1
theorem RowE.keep {w w1 : World} {g n cap : Nat} {xs : List Value} (h : RowE w g n cap xs) (hb : w1.heap[g]? = w.heap[g]?) : RowE w1 g n cap xs := by
  refine ⟨h.1, ?_⟩
  rcases h.2 with hn | ⟨g2, cap2, cur, hv, hg, hgg, r⟩
  · exact .inl hn
  · refine .inr ⟨g2, cap2, cur, hv, hg, ?_, r⟩
    injection hv with e1 e2 e3
    injection e1 with e1
    injection e1 with e1
    subst e1
    rw [hb]; exact hgg
theorem RowE.cap {w : World} {g n cap : Nat} {xs : List Value} (h : RowE w g n cap xs) : n ≤ cap := by
  rcases h.2 with ⟨h1, h2⟩ | ⟨g2, cap2, cur, hv, hg, hgg, r, _⟩
  · cases h1
  · injection hv with e1 e2 e3; omega
theorem RowE.lt {w : World} {g n cap : Nat} {xs : List Value} (h : RowE w g n cap xs) : g < w.heap.size := (World.ownsRow.lt h g rfl).2
mutual
/-- A tree's five cells at a place, its lists in the blocks F. -/
def OwnE (w : World) (g : Nat) : Nat → Co.T → List Nat → Prop
  | o, .node k p n l t ks, F => (w.cell? ⟨g, o, none⟩ = some (.int .i64 k) ∧ w.cell? ⟨g, o + 1, none⟩ = some (.int .i64 p) ∧ w.cell? ⟨g, o + 2, none⟩ = some (.int .i64 n) ∧ w.cell? ⟨g, o + 3, none⟩ = some (.int .i64 l) ∧ w.cell? ⟨g, o + 4, none⟩ = some (.string t)) ∧ ∃ v, w.cell? ⟨g, o + 5, none⟩ = some v ∧ OwnK w v ks F
/-- A list of kids, in the blocks F. -/
def OwnK (w : World) : Value → List Co.T → List Nat → Prop
  | v, [], F => F = [] ∧ ∃ a c, v = .slice a 0 c
  | v, x :: r, F => ∃ g c xs G1 G2, v = .slice (some ⟨g, 0, none⟩) (r.length + 1) c ∧ RowE w g (r.length + 1) c xs ∧ F = g :: (G1 ++ G2) ∧ (g ∉ G1 ∧ g ∉ G2 ∧ ∀ b ∈ G1, b ∉ G2) ∧ OwnE w g 0 x G1 ∧ OwnR w g 6 r G2
/-- Trees in a row, their lists in the blocks G. -/
def OwnR (w : World) (g : Nat) : Nat → List Co.T → List Nat → Prop
  | _, [], G => G = []
  | o, x :: r, G => ∃ G1 G2, G = G1 ++ G2 ∧ (∀ b ∈ G1, b ∉ G2) ∧ OwnE w g o x G1 ∧ OwnR w g (o + 6) r G2
end
mutual
theorem OwnE.keep {w w' : World} : ∀ {g o : Nat} {F : List Nat} (t : Co.T), (∀ j, o ≤ j → j < o + 6 → w'.cell? ⟨g, j, none⟩ = w.cell? ⟨g, j, none⟩) → (∀ b ∈ F, w'.heap[b]? = w.heap[b]?) → OwnE w g o t F → OwnE w' g o t F
  | g, o, F, .node k p n l t ks, hc, hF, hx => by
    rw [OwnE] at hx ⊢
    obtain ⟨⟨a, b, c, d, e⟩, v, hv, hk⟩ := hx
    exact ⟨⟨(hc o (by omega) (by omega)).trans a, (hc (o + 1) (by omega) (by omega)).trans b, (hc (o + 2) (by omega) (by omega)).trans c, (hc (o + 3) (by omega) (by omega)).trans d, (hc (o + 4) (by omega) (by omega)).trans e⟩, v, (hc (o + 5) (by omega) (by omega)).trans hv, OwnK.keep ks hF hk⟩
theorem OwnK.keep {w w' : World} : ∀ {v : Value} {F : List Nat} (l : List Co.T), (∀ b ∈ F, w'.heap[b]? = w.heap[b]?) → OwnK w v l F → OwnK w' v l F
  | v, F, [], hF, hx => by rw [OwnK] at hx ⊢; exact hx
  | v, F, x :: r, hF, hx => by
    rw [OwnK] at hx ⊢
    obtain ⟨g, c, xs, G1, G2, e, hrow, rfl, hd, hx, hr⟩ := hx
    have hg := hF g (List.mem_cons_self)
    exact ⟨g, c, xs, G1, G2, e, hrow.keep hg, rfl, hd, OwnE.keep x (fun j _ _ => cell_keep hg j) (fun b hb => hF b (List.mem_cons_of_mem _ (List.mem_append_left _ hb))) hx, OwnR.keep r (fun j _ _ => cell_keep hg j) (fun b hb => hF b (List.mem_cons_of_mem _ (List.mem_append_right _ hb))) hr⟩
theorem OwnR.keep {w w' : World} : ∀ {g o : Nat} {F : List Nat} (l : List Co.T), (∀ j, o ≤ j → j < o + l.length * 6 → w'.cell? ⟨g, j, none⟩ = w.cell? ⟨g, j, none⟩) → (∀ b ∈ F, w'.heap[b]? = w.heap[b]?) → OwnR w g o l F → OwnR w' g o l F
  | g, o, F, [], hc, hF, hx => by rw [OwnR] at hx ⊢; exact hx
  | g, o, F, x :: r, hc, hF, hx => by
    rw [OwnR] at hx ⊢
    rw [List.length_cons] at hc
    obtain ⟨G1, G2, rfl, hd, hx, hr⟩ := hx
    exact ⟨G1, G2, rfl, hd, OwnE.keep x (fun j h1 h2 => hc j h1 (by omega)) (fun b hb => hF b (List.mem_append_left _ hb)) hx, OwnR.keep r (fun j h1 h2 => hc j (by omega) (by omega)) (fun b hb => hF b (List.mem_append_right _ hb)) hr⟩
end
mutual
theorem OwnE.at {w : World} : ∀ {g o : Nat} {F : List Nat} (t : Co.T), OwnE w g o t F → TreeAt w g o t
  | g, o, F, .node k p n l t ks, hx => by
    rw [OwnE] at hx
    rw [TreeAt]
    obtain ⟨h, v, hv, hk⟩ := hx
    exact ⟨h, v, hv, OwnK.kids ks hk⟩
theorem OwnK.kids {w : World} : ∀ {v : Value} {F : List Nat} (l : List Co.T), OwnK w v l F → Kids w v l
  | v, F, [], hx => by rw [OwnK] at hx; rw [Kids]; exact hx.2
  | v, F, x :: r, hx => by
    rw [OwnK] at hx
    rw [Kids]
    obtain ⟨g, c, xs, G1, G2, e, hrow, rfl, hd, hx, hr⟩ := hx
    exact ⟨g, 0, c, e, hrow.cap, OwnE.at x hx, by rw [Nat.zero_add]; exact OwnR.at r hr⟩
theorem OwnR.at {w : World} : ∀ {g o : Nat} {F : List Nat} (l : List Co.T), OwnR w g o l F → RowAt w g o l
  | g, o, F, [], hx => by rw [RowAt]; trivial
  | g, o, F, x :: r, hx => by
    rw [OwnR] at hx
    rw [RowAt]
    obtain ⟨G1, G2, rfl, hd, hx, hr⟩ := hx
    exact ⟨OwnE.at x hx, OwnR.at r hr⟩
end
theorem ownR_snoc {w : World} {g : Nat} {x : Co.T} {F : List Nat} : ∀ {l : List Co.T} {o : Nat} {G : List Nat}, OwnR w g o l G → OwnE w g (o + l.length * 6) x F → (∀ b ∈ G, b ∉ F) → OwnR w g o (l ++ [x]) (G ++ F) := by
  intro l
  induction l with
  | nil =>
    intro o G h hx hd
    rw [OwnR] at h
    subst h
    rw [List.nil_append, List.nil_append, OwnR]
    refine ⟨F, [], by simp, by simp, by simpa using hx, ?_⟩
    rw [OwnR]
  | cons y r ih =>
    intro o G h hx hd
    rw [OwnR] at h
    obtain ⟨G1, G2, rfl, hd2, hy, hr⟩ := h
    rw [List.cons_append, OwnR]
    refine ⟨G1, G2 ++ F, by simp, ?_, hy, ih hr (by rw [List.length_cons] at hx; rw [show o + 6 + r.length * 6 = o + (r.length + 1) * 6 by omega]; exact hx) (fun b hb => hd b (List.mem_append_right _ hb))⟩
    intro b hb hb2
    rcases List.mem_append.1 hb2 with h | h
    · exact hd2 b hb h
    · exact hd b (List.mem_append_left _ hb) h
theorem ownE_of {w : World} {g o : Nat} {t : Co.T} {v : Value} {F : List Nat} (h : w.cell? ⟨g, o, none⟩ = some (.int .i64 t.kind) ∧ w.cell? ⟨g, o + 1, none⟩ = some (.int .i64 t.op) ∧ w.cell? ⟨g, o + 2, none⟩ = some (.int .i64 t.num) ∧ w.cell? ⟨g, o + 3, none⟩ = some (.int .i64 t.line) ∧ w.cell? ⟨g, o + 4, none⟩ = some (.string t.text)) (hv : w.cell? ⟨g, o + 5, none⟩ = some v) (hk : OwnK w v t.kids F) : OwnE w g o t F := by
  cases t; rw [OwnE]; exact ⟨h, v, hv, hk⟩
/-- A row that is filled is a list of kids. -/
theorem ownK_of {w : World} {g c : Nat} {xs : List Value} {l : List Co.T} {G : List Nat} (hr : RowE w g l.length c xs) (ho : OwnR w g 0 l G) (hg : g ∉ G) : OwnK w (.slice (some ⟨g, 0, none⟩) l.length c) l (if l = [] then [] else g :: G) := by
  cases l with
  | nil => rw [OwnK, if_pos rfl]; exact ⟨rfl, _, _, rfl⟩
  | cons x r =>
    rw [OwnR] at ho
    obtain ⟨G1, G2, rfl, hd, hx, hr2⟩ := ho
    rw [OwnK, if_neg (by simp)]
    rw [Nat.zero_add] at hr2
    exact ⟨g, c, xs, G1, G2, rfl, hr, rfl, ⟨fun h => hg (List.mem_append_left _ h), fun h => hg (List.mem_append_right _ h), hd⟩, hx, hr2⟩
/-- What makes a tree or a list answers. -/
def RetK (w : World) (ks : List Co.T) (e : Ending) (w' : World) : Prop := ∃ v F, e = .returned v ∧ OwnK w' v ks F ∧ Foot w.heap.size w' F ∧ Below w.heap.size w w'
/-- Where the filling of a list stands. -/
def FillAt (w : World) (g : Nat) (ks : List Co.T) (k : Nat) (wr : World) : Prop := ∃ xs G, RowE wr g ks.length ks.length xs ∧ OwnR wr g 0 (ks.take k) G ∧ (∀ b ∈ G, g < b ∧ b < wr.heap.size) ∧ Below w.heap.size w wr
theorem FillAt.cells {w wr : World} {g k : Nat} {ks : List Co.T} (h : FillAt w g ks k wr) (j : Nat) (hj : j < ks.length * 6) : (∃ u, wr.cell? ⟨g, j, none⟩ = some u) ∧ wr.frozen? ⟨g, j, none⟩ = false := by
  obtain ⟨xs, G, hr, _⟩ := h
  exact hr.cell j hj
/-- The six stores of a tree. -/
abbrev put6 (w : World) (g o : Nat) (t : Co.T) (v : Value) : World := (((((w.setCell ⟨g, o, none⟩ (.int .i64 t.kind)).setCell ⟨g, o + 1, none⟩ (.int .i64 t.op)).setCell ⟨g, o + 2, none⟩ (.int .i64 t.num)).setCell ⟨g, o + 3, none⟩ (.int .i64 t.line)).setCell ⟨g, o + 4, none⟩ (.string t.text)).setCell ⟨g, o + 5, none⟩ v
theorem FillAt.next {w wr w1 : World} {g k : Nat} {ks : List Co.T} {v : Value} {F : List Nat} (h : FillAt w g ks k wr) (hg : w.heap.size ≤ g) (hk : k < ks.length) (hb : Below wr.heap.size wr w1) (ho : OwnK w1 v (ks[k]).kids F) (hF : Foot wr.heap.size w1 F) :
    FillAt w g ks (k + 1) (put6 w1 g (k * 6) ks[k] v) := by
  obtain ⟨xs, G, hr, hR, hG, hB⟩ := h
  have hgl := hr.lt
  have hr1 : RowE w1 g ks.length ks.length xs := hr.keep (hb.block g hgl)
  have hR1 : OwnR w1 g 0 (ks.take k) G := OwnR.keep _ (fun j _ _ => cell_keep (hb.block g hgl) j) (fun b hb2 => hb.block b (hG b hb2).2) hR
  have hlen : (ks.take k).length = k := by rw [List.length_take]; omega
  have hne : ∀ b, b ≠ g → ∀ (W : World) (o : Nat) (u : Value), (W.setCell ⟨g, o, none⟩ u).heap[b]? = W.heap[b]? := fun b hb W o u => Below.heap_setCell W ⟨g, o, none⟩ u b hb
  have hput : ∀ b, b ≠ g → (put6 w1 g (k * 6) ks[k] v).heap[b]? = w1.heap[b]? := fun b hb => by unfold put6; rw [hne b hb, hne b hb, hne b hb, hne b hb, hne b hb, hne b hb]
  have hcell : ∀ j, j < k * 6 → (put6 w1 g (k * 6) ks[k] v).cell? ⟨g, j, none⟩ = w1.cell? ⟨g, j, none⟩ := by
    intro j hj
    unfold put6
    have c : ∀ (W : World) (o : Nat) (u : Value), o ≠ j → (W.setCell ⟨g, o, none⟩ u).cell? ⟨g, j, none⟩ = W.cell? ⟨g, j, none⟩ := by
      intro W o u ho
      have : ¬ j = o := fun e => ho e.symm
      go_simp
    rw [c _ _ _ (by omega), c _ _ _ (by omega), c _ _ _ (by omega), c _ _ _ (by omega), c _ _ _ (by omega), c _ _ _ (by omega)]
  have hfg : ∀ b ∈ F, b ≠ g := fun b hb e => by have := (hF b hb).1; omega
  have hgg : ∀ b ∈ G, b ≠ g := fun b hb e => by have := (hG b hb).1; omega
  have hnew : OwnE (put6 w1 g (k * 6) ks[k] v) g (k * 6) ks[k] F := by
    obtain ⟨a0, f0⟩ := hr1.cell (k * 6) (by omega)
    obtain ⟨a1, f1⟩ := hr1.cell (k * 6 + 1) (by omega)
    obtain ⟨a2, f2⟩ := hr1.cell (k * 6 + 2) (by omega)
    obtain ⟨a3, f3⟩ := hr1.cell (k * 6 + 3) (by omega)
    obtain ⟨a4, f4⟩ := hr1.cell (k * 6 + 4) (by omega)
    obtain ⟨a5, f5⟩ := hr1.cell (k * 6 + 5) (by omega)
    obtain ⟨u0, a0⟩ := a0
    obtain ⟨u1, a1⟩ := a1
    obtain ⟨u2, a2⟩ := a2
    obtain ⟨u3, a3⟩ := a3
    obtain ⟨u4, a4⟩ := a4
    obtain ⟨u5, a5⟩ := a5
    refine ownE_of ⟨?_, ?_, ?_, ?_, ?_⟩ ?_ (OwnK.keep _ (fun b hb => hput b (hfg b hb)) ho)
    all_goals (unfold put6; go_simp)
  refine ⟨_, G ++ F, (((((hr1.set _ _).set _ _).set _ _).set _ _).set _ _).set _ _, ?_, ?_, ?_⟩
  · rw [List.take_succ_eq_append_getElem hk]
    refine ownR_snoc (OwnR.keep _ (fun j h1 h2 => hcell j (by rw [hlen] at h2; omega)) (fun b hb2 => hput b (hgg b hb2)) hR1) ?_ ?_
    · rw [hlen, Nat.zero_add]; exact hnew
    · intro b hb1 hb2
      have := (hF b hb2).1
      have := (hG b hb1).2
      omega
  · intro b hb2
    have hs : (put6 w1 g (k * 6) ks[k] v).heap.size = w1.heap.size := by simp [put6, World.setCell]
    have := hb.size
    rw [hs]
    rcases List.mem_append.1 hb2 with h | h
    · have := hG b h; omega
    · have := hF b h; omega
  · have h2 : Below w.heap.size w w1 := hB.trans (hb.mono hB.size)
    exact (((((h2.setCell (p := ⟨g, k * 6, none⟩) hg _).setCell (p := ⟨g, k * 6 + 1, none⟩) hg _).setCell (p := ⟨g, k * 6 + 2, none⟩) hg _).setCell (p := ⟨g, k * 6 + 3, none⟩) hg _).setCell (p := ⟨g, k * 6 + 4, none⟩) hg _).setCell (p := ⟨g, k * 6 + 5, none⟩) hg _
end Go.Proofs.YtbadepiakkhabaaDoor.Cr
/- Data in memory: numbers, texts, lists of trees, and slices of cells; reading them, and owning them. No conditions. -/
namespace Go.Proofs.YtbadepiakkhabaaDoor
open Go.RowKit
set_option linter.unusedVariables false

/-- Data: a slice has its number of elements and its cells. -/
inductive D where
  | int (n : Int)
  | bool (b : Bool)
  | str (s : ByteArray)
  | ex (ks : List Ex.T)
  | cor (ks : List Co.T)
  | any
  | row (n : Nat) (l : List D)
mutual
/-- A value reads as data. -/
def Is (w : World) : D → Value → Prop
  | .int n, v => v = .int .i64 n
  | .bool b, v => v = .bool b
  | .str s, v => v = .string s
  | .ex ks, v => Kids w v ks
  | .cor ks, v => Cr.Kids w v ks
  | .any, v => True
  | .row n l, v => ∃ a c, v = .slice a n c ∧ (l = [] ∨ n ≤ c ∧ ∃ g o, a = some ⟨g, o, none⟩ ∧ IsAll w g o l)
/-- Cells read as data. -/
def IsAll (w : World) (g : Nat) : Nat → List D → Prop
  | _, [] => True
  | o, d :: r => (∃ u, w.cell? ⟨g, o, none⟩ = some u ∧ Is w d u) ∧ IsAll w g (o + 1) r
end
theorem isAll_at {w : World} {g : Nat} : ∀ {l : List D} {o : Nat}, IsAll w g o l → ∀ j d, l[j]? = some d → ∃ u, w.cell? ⟨g, o + j, none⟩ = some u ∧ Is w d u := by
  intro l
  induction l with
  | nil => intro o _ j d h; simp at h
  | cons x r ih =>
    intro o h j d hj
    rw [IsAll] at h
    match j with
    | 0 => obtain rfl : x = d := Option.some.inj hj; exact h.1
    | j + 1 =>
      have h2 := ih h.2 j d hj
      rw [show o + 1 + j = o + (j + 1) by omega] at h2
      exact h2
theorem isAll_of {w : World} {g : Nat} : ∀ {l : List D} {o : Nat}, (∀ j d, l[j]? = some d → ∃ u, w.cell? ⟨g, o + j, none⟩ = some u ∧ Is w d u) → IsAll w g o l := by
  intro l
  induction l with
  | nil => intro o _; rw [IsAll]; trivial
  | cons x r ih =>
    intro o h
    rw [IsAll]
    have h0 := h 0 x rfl
    rw [Nat.add_zero] at h0
    refine ⟨h0, ih fun j d hj => ?_⟩
    have h2 := h (j + 1) d hj
    rw [show o + (j + 1) = o + 1 + j by omega] at h2
    exact h2
mutual
theorem Is.mono {w w' : World} (h : Subw w w') : ∀ (d : D) (v : Value), Is w d v → Is w' d v
  | .int n, v, hx => by rw [Is] at hx ⊢; exact hx
  | .bool b, v, hx => by rw [Is] at hx ⊢; exact hx
  | .str s, v, hx => by rw [Is] at hx ⊢; exact hx
  | .ex ks, v, hx => by rw [Is] at hx ⊢; exact Kids.mono h ks hx
  | .cor ks, v, hx => by rw [Is] at hx ⊢; exact Cr.Kids.mono h ks hx
  | .any, v, hx => by rw [Is]; trivial
  | .row n l, v, hx => by
    rw [Is] at hx ⊢
    obtain ⟨a, c, e, hx⟩ := hx
    rcases hx with hx | ⟨hc, g, o, e2, hx⟩
    · exact ⟨a, c, e, .inl hx⟩
    · exact ⟨a, c, e, .inr ⟨hc, g, o, e2, IsAll.mono h l g o hx⟩⟩
theorem IsAll.mono {w w' : World} (h : Subw w w') : ∀ (l : List D) (g o : Nat), IsAll w g o l → IsAll w' g o l
  | [], g, o, hx => by rw [IsAll]; trivial
  | d :: r, g, o, hx => by
    rw [IsAll] at hx ⊢
    obtain ⟨⟨u, hu, hd⟩, hr⟩ := hx
    exact ⟨⟨u, h _ _ _ hu, Is.mono h d u hd⟩, IsAll.mono h r g (o + 1) hr⟩
end
theorem Is.later {w w' : World} {d : D} {v : Value} (h : Is w d v) (hb : Below w.heap.size w w') : Is w' d v := Is.mono (subw_below hb) d v h
theorem is_slice {w : World} {n : Nat} {l : List D} {v : Value} (h : Is w (.row n l) v) : ∃ a c, v = .slice a n c := by
  rw [Is] at h
  obtain ⟨a, c, e, _⟩ := h
  exact ⟨a, c, e⟩
theorem is_cap {w : World} {a : Option Addr} {n c : Nat} {l : List D} (h : Is w (.row n l) (.slice a n c)) (hl : l ≠ []) : n ≤ c := by
  rw [Is] at h
  obtain ⟨a2, c2, e, h⟩ := h
  injection e with e1 e2 e3
  subst e1 e3
  rcases h with h | ⟨hc, _⟩
  · exact absurd h hl
  · exact hc
/-- An element's cells. -/
theorem is_elem {w : World} {a : Option Addr} {n c : Nat} {l : List D} (h : Is w (.row n l) (.slice a n c)) (i : Nat) (ds : List D) (h0 : ds ≠ []) (hd : ∀ j d, ds[j]? = some d → l[i + j]? = some d) : ∃ g o, a = some ⟨g, o, none⟩ ∧ ∀ j d, ds[j]? = some d → ∃ u, w.cell? ⟨g, o + i + j, none⟩ = some u ∧ Is w d u := by
  rw [Is] at h
  obtain ⟨a2, c2, e, h⟩ := h
  injection e with e1 e2 e3
  subst e1
  rcases h with rfl | ⟨_, g, o, e4, h⟩
  · cases ds with
    | nil => exact absurd rfl h0
    | cons x r => have := hd 0 x rfl; simp at this
  · refine ⟨g, o, e4, fun j d hj => ?_⟩
    have h2 := isAll_at h (i + j) d (hd j d hj)
    rw [← Nat.add_assoc] at h2
    exact h2
/-- The list of a list's cells, z cells an element. -/
theorem flat_at {α β : Type} (f : α → List β) {z : Nat} (hz : ∀ x, (f x).length = z) : ∀ (l : List α) (i j : Nat) (x : α), l[i]? = some x → j < z → (l.flatMap f)[i * z + j]? = (f x)[j]? := by
  intro l
  induction l with
  | nil => intro i j x h; simp at h
  | cons y r ih =>
    intro i j x h hj
    rw [List.flatMap_cons]
    match i with
    | 0 =>
      obtain rfl : y = x := Option.some.inj h
      rw [Nat.zero_mul, Nat.zero_add, List.getElem?_append_left (by rw [hz]; exact hj)]
    | i + 1 =>
      rw [List.getElem?_append_right (by rw [hz, Nat.succ_mul]; omega), hz, show (i + 1) * z + j - z = i * z + j by rw [Nat.succ_mul]; omega]
      exact ih i j x h hj
theorem flat_len {α β : Type} (f : α → List β) {z : Nat} (hz : ∀ x, (f x).length = z) (l : List α) : (l.flatMap f).length = l.length * z := by
  induction l with
  | nil => simp
  | cons x r ih => rw [List.flatMap_cons, List.length_append, hz, ih, List.length_cons, Nat.succ_mul]; omega
theorem is_nth {α : Type} (f : α → List D) {z : Nat} (hz : ∀ x, (f x).length = z) (h0 : 0 < z) {w : World} {a : Option Addr} {n c : Nat} {l : List α} (h : Is w (.row n (l.flatMap f)) (.slice a n c)) (i : Nat) (x : α) (hx : l[i]? = some x) : ∃ g o, a = some ⟨g, o, none⟩ ∧ ∀ j d, (f x)[j]? = some d → ∃ u, w.cell? ⟨g, o + i * z + j, none⟩ = some u ∧ Is w d u := by
  refine is_elem h (i * z) (f x) (fun e => by have := hz x; rw [e] at this; simp at this; omega) fun j d hj => ?_
  have hjz : j < z := by rw [← hz x]; exact (List.getElem?_eq_some_iff.1 hj).1
  rw [flat_at f hz l i j x hx hjz]; exact hj

/-- Blocks apart from each other. -/
def Apart (F G : List Nat) : Prop := ∀ b ∈ F, b ∉ G
theorem apart_nil (F : List Nat) : Apart F [] := fun b _ h => by cases h
theorem nil_apart (F : List Nat) : Apart [] F := fun b h => by cases h
mutual
/-- A value of data whose slices lie in the blocks F, each met once. -/
def Own (w : World) : D → Value → List Nat → Prop
  | .int n, v, F => v = .int .i64 n ∧ F = []
  | .bool b, v, F => v = .bool b ∧ F = []
  | .str s, v, F => v = .string s ∧ F = []
  | .ex ks, v, F => OwnK w v ks F
  | .cor ks, v, F => Cr.OwnK w v ks F
  | .any, v, F => F = []
  | .row n l, v, F => ∃ a c, v = .slice a n c ∧ ((l = [] ∧ F = []) ∨ (l ≠ [] ∧ n ≤ c ∧ ∃ g o Fs, a = some ⟨g, o, none⟩ ∧ F = g :: Fs.flatten ∧ (g ∉ Fs.flatten ∧ Fs.Pairwise Apart) ∧ OwnAll w g o l Fs))
def OwnAll (w : World) (g : Nat) : Nat → List D → List (List Nat) → Prop
  | _, [], Fs => Fs = []
  | o, d :: r, Fs => ∃ u G Gs, Fs = G :: Gs ∧ (w.cell? ⟨g, o, none⟩ = some u ∧ w.frozen? ⟨g, o, none⟩ = false) ∧ Own w d u G ∧ OwnAll w g (o + 1) r Gs
end
theorem ownAll_at {w : World} {g : Nat} : ∀ {l : List D} {o : Nat} {Fs : List (List Nat)}, OwnAll w g o l Fs → Fs.length = l.length ∧ ∀ j d, l[j]? = some d → ∃ u G, Fs[j]? = some G ∧ w.cell? ⟨g, o + j, none⟩ = some u ∧ w.frozen? ⟨g, o + j, none⟩ = false ∧ Own w d u G := by
  intro l
  induction l with
  | nil => intro o Fs h; rw [OwnAll] at h; subst h; exact ⟨rfl, fun j d h => by simp at h⟩
  | cons x r ih =>
    intro o Fs h
    rw [OwnAll] at h
    obtain ⟨u, G, Gs, rfl, ⟨hc, hf⟩, hd, hr⟩ := h
    obtain ⟨hl, hr⟩ := ih hr
    refine ⟨by rw [List.length_cons, List.length_cons, hl], fun j d hj => ?_⟩
    match j with
    | 0 => obtain rfl : x = d := Option.some.inj hj; exact ⟨u, G, rfl, hc, hf, hd⟩
    | j + 1 =>
      have h2 := hr j d hj
      rw [show o + 1 + j = o + (j + 1) by omega] at h2
      exact h2
theorem ownAll_of {w : World} {g : Nat} : ∀ {l : List D} {o : Nat} {Fs : List (List Nat)}, Fs.length = l.length → (∀ j d, l[j]? = some d → ∃ u G, Fs[j]? = some G ∧ w.cell? ⟨g, o + j, none⟩ = some u ∧ w.frozen? ⟨g, o + j, none⟩ = false ∧ Own w d u G) → OwnAll w g o l Fs := by
  intro l
  induction l with
  | nil => intro o Fs h _; rw [OwnAll]; exact List.length_eq_zero_iff.1 h
  | cons x r ih =>
    intro o Fs hl h
    rw [OwnAll]
    cases Fs with
    | nil => simp at hl
    | cons G Gs =>
      obtain ⟨u, G2, e, hc, hf, hd⟩ := h 0 x rfl
      obtain rfl : G = G2 := Option.some.inj e
      rw [Nat.add_zero] at hc hf
      refine ⟨u, G, Gs, rfl, ⟨hc, hf⟩, hd, ih (by simpa using hl) fun j d hj => ?_⟩
      have h2 := h (j + 1) d hj
      rw [show o + (j + 1) = o + 1 + j by omega] at h2
      exact h2
theorem mem_at {Fs : List (List Nat)} {j : Nat} {G : List Nat} (h : Fs[j]? = some G) {b : Nat} (hb : b ∈ G) : b ∈ Fs.flatten := List.mem_flatten.2 ⟨G, List.mem_of_getElem? h, hb⟩
mutual
theorem Own.keep {w w' : World} : ∀ (d : D) (v : Value) (F : List Nat), (∀ b ∈ F, w'.heap[b]? = w.heap[b]?) → Own w d v F → Own w' d v F
  | .int n, v, F, hF, hx => by rw [Own] at hx ⊢; exact hx
  | .bool n, v, F, hF, hx => by rw [Own] at hx ⊢; exact hx
  | .str n, v, F, hF, hx => by rw [Own] at hx ⊢; exact hx
  | .ex ks, v, F, hF, hx => by rw [Own] at hx ⊢; exact OwnK.keep ks hF hx
  | .cor ks, v, F, hF, hx => by rw [Own] at hx ⊢; exact Cr.OwnK.keep ks hF hx
  | .any, v, F, hF, hx => by rw [Own] at hx ⊢; exact hx
  | .row n l, v, F, hF, hx => by
    rw [Own] at hx ⊢
    obtain ⟨a, c, e, hx⟩ := hx
    rcases hx with hx | ⟨h0, hc, g, o, Fs, e2, rfl, hd, hx⟩
    · exact ⟨a, c, e, .inl hx⟩
    · exact ⟨a, c, e, .inr ⟨h0, hc, g, o, Fs, e2, rfl, hd, OwnAll.keep l g o Fs (hF g List.mem_cons_self) (fun b hb => hF b (List.mem_cons_of_mem _ hb)) hx⟩⟩
theorem OwnAll.keep {w w' : World} : ∀ (l : List D) (g o : Nat) (Fs : List (List Nat)), w'.heap[g]? = w.heap[g]? → (∀ b ∈ Fs.flatten, w'.heap[b]? = w.heap[b]?) → OwnAll w g o l Fs → OwnAll w' g o l Fs
  | [], g, o, Fs, hg, hF, hx => by rw [OwnAll] at hx ⊢; exact hx
  | d :: r, g, o, Fs, hg, hF, hx => by
    rw [OwnAll] at hx ⊢
    obtain ⟨u, G, Gs, rfl, ⟨hc, hf⟩, hd, hr⟩ := hx
    rw [List.flatten_cons] at hF
    exact ⟨u, G, Gs, rfl, ⟨(cell_keep hg o).trans hc, (frozen_keep hg o).trans hf⟩, Own.keep d u G (fun b hb => hF b (List.mem_append_left _ hb)) hd, OwnAll.keep r g (o + 1) Gs hg (fun b hb => hF b (List.mem_append_right _ hb)) hr⟩
end
mutual
theorem Own.is {w : World} : ∀ (d : D) (v : Value) (F : List Nat), Own w d v F → Is w d v
  | .int n, v, F, hx => by rw [Own] at hx; rw [Is]; exact hx.1
  | .bool n, v, F, hx => by rw [Own] at hx; rw [Is]; exact hx.1
  | .str n, v, F, hx => by rw [Own] at hx; rw [Is]; exact hx.1
  | .ex ks, v, F, hx => by rw [Own] at hx; rw [Is]; exact OwnK.kids ks hx
  | .cor ks, v, F, hx => by rw [Own] at hx; rw [Is]; exact Cr.OwnK.kids ks hx
  | .any, v, F, hx => by rw [Is]; trivial
  | .row n l, v, F, hx => by
    rw [Own] at hx
    rw [Is]
    obtain ⟨a, c, e, hx⟩ := hx
    rcases hx with hx | ⟨h0, hc, g, o, Fs, e2, rfl, hd, hx⟩
    · exact ⟨a, c, e, .inl hx.1⟩
    · exact ⟨a, c, e, .inr ⟨hc, g, o, e2, OwnAll.is l g o Fs hx⟩⟩
theorem OwnAll.is {w : World} : ∀ (l : List D) (g o : Nat) (Fs : List (List Nat)), OwnAll w g o l Fs → IsAll w g o l
  | [], g, o, Fs, hx => by rw [IsAll]; trivial
  | d :: r, g, o, Fs, hx => by
    rw [OwnAll] at hx
    rw [IsAll]
    obtain ⟨u, G, Gs, rfl, ⟨hc, hf⟩, hd, hr⟩ := hx
    exact ⟨⟨u, hc, Own.is d u G hd⟩, OwnAll.is r g (o + 1) Gs hr⟩
end
theorem Own.later {w w' : World} {d : D} {v : Value} {F : List Nat} (h : Own w d v F) (hF : ∀ b ∈ F, b < w.heap.size) (hb : Below w.heap.size w w') : Own w' d v F := Own.keep d v F (fun b hb2 => hb.block b (hF b hb2)) h
/-- A row's cells, each with its blocks. -/
def RowD (w : World) (g o : Nat) (l : List D) (Fs : List (List Nat)) : Prop := (g ∉ Fs.flatten ∧ Fs.Pairwise Apart) ∧ Fs.length = l.length ∧ ∀ j d, l[j]? = some d → ∃ u G, Fs[j]? = some G ∧ w.cell? ⟨g, o + j, none⟩ = some u ∧ w.frozen? ⟨g, o + j, none⟩ = false ∧ Own w d u G
theorem own_of_rowD {w : World} {g o n c : Nat} {l : List D} {Fs : List (List Nat)} (h : RowD w g o l Fs) (hl : l ≠ []) (hc : n ≤ c) : Own w (.row n l) (.slice (some ⟨g, o, none⟩) n c) (g :: Fs.flatten) := by
  rw [Own]
  exact ⟨_, _, rfl, .inr ⟨hl, hc, g, o, Fs, rfl, rfl, h.1, ownAll_of h.2.1 h.2.2⟩⟩
theorem own_nil {w : World} {a : Option Addr} {n c : Nat} : Own w (.row n []) (.slice a n c) [] := by
  rw [Own]; exact ⟨_, _, rfl, .inl ⟨rfl, rfl⟩⟩
theorem rowD_of_own {w : World} {n : Nat} {v : Value} {l : List D} {F : List Nat} (h : Own w (.row n l) v F) (hl : l ≠ []) : ∃ g o c Fs, v = .slice (some ⟨g, o, none⟩) n c ∧ F = g :: Fs.flatten ∧ RowD w g o l Fs := by
  rw [Own] at h
  obtain ⟨a, c, e, h⟩ := h
  rcases h with h | ⟨_, _, g, o, Fs, rfl, rfl, hd, h⟩
  · exact absurd h.1 hl
  · obtain ⟨h1, h2⟩ := ownAll_at h
    exact ⟨g, o, c, Fs, e, rfl, hd, h1, h2⟩
theorem own_cap {w : World} {a : Option Addr} {n c : Nat} {l : List D} {F : List Nat} (h : Own w (.row n l) (.slice a n c) F) (hl : l ≠ []) : n ≤ c := is_cap (Own.is _ _ _ h) hl
theorem own_slice {w : World} {n : Nat} {v : Value} {l : List D} {F : List Nat} (h : Own w (.row n l) v F) : ∃ a c, v = .slice a n c := is_slice (Own.is _ _ _ h)
theorem RowD.keep {w w' : World} {g o : Nat} {l : List D} {Fs : List (List Nat)} (h : RowD w g o l Fs) (hg : w'.heap[g]? = w.heap[g]?) (hF : ∀ b ∈ Fs.flatten, w'.heap[b]? = w.heap[b]?) : RowD w' g o l Fs :=
  ⟨h.1, h.2.1, fun j d hj => by
    obtain ⟨u, G, e, hc, hf, hd⟩ := h.2.2 j d hj
    exact ⟨u, G, e, (cell_keep hg _).trans hc, (frozen_keep hg _).trans hf, Own.keep d u G (fun b hb => hF b (mem_at e hb)) hd⟩⟩
theorem pairwise_get {Fs : List (List Nat)} (h : Fs.Pairwise Apart) {i j : Nat} {F G : List Nat} (hi : Fs[i]? = some F) (hj : Fs[j]? = some G) (hne : i ≠ j) : Apart F G := by
  rw [List.pairwise_iff_getElem] at h
  obtain ⟨hi1, hi2⟩ := List.getElem?_eq_some_iff.1 hi
  obtain ⟨hj1, hj2⟩ := List.getElem?_eq_some_iff.1 hj
  rcases Nat.lt_or_ge i j with hlt | hge
  · have h7 := h i j hi1 hj1 hlt
    rw [hi2, hj2] at h7
    exact h7
  · have h7 := h j i hj1 hi1 (by omega)
    rw [hi2, hj2] at h7
    exact fun b h1 h2 => h7 b h2 h1
theorem pairwise_of {Fs : List (List Nat)} (h : ∀ (i j : Nat) (F G : List Nat), i < j → Fs[i]? = some F → Fs[j]? = some G → Apart F G) : Fs.Pairwise Apart := by
  rw [List.pairwise_iff_getElem]
  exact fun i j hi hj hij => h i j _ _ hij (List.getElem?_eq_getElem hi) (List.getElem?_eq_getElem hj)
theorem mem_set {Fs : List (List Nat)} {j : Nat} {G : List Nat} {b : Nat} (h : b ∈ (Fs.set j G).flatten) : b ∈ Fs.flatten ∨ b ∈ G := by
  obtain ⟨K, hK, hb⟩ := List.mem_flatten.1 h
  rcases List.mem_or_eq_of_mem_set hK with h2 | rfl
  · exact .inl (List.mem_flatten.2 ⟨K, h2, hb⟩)
  · exact .inr hb
/-- A store into a row's cell. -/
theorem RowD.put {w : World} {g o j : Nat} {l : List D} {Fs : List (List Nat)} {d : D} {u : Value} {G : List Nat} (h : RowD w g o l Fs) (hj : j < l.length) (hd : Own w d u G) (hg : g ∉ G) (hG : ∀ (i : Nat) (K : List Nat), i ≠ j → Fs[i]? = some K → Apart K G) : RowD (w.setCell ⟨g, o + j, none⟩ u) g o (l.set j d) (Fs.set j G) := by
  obtain ⟨⟨h1, h2⟩, h3, h4⟩ := h
  have keep : ∀ b, b ≠ g → (w.setCell ⟨g, o + j, none⟩ u).heap[b]? = w.heap[b]? := fun b hb => Below.heap_setCell w ⟨g, o + j, none⟩ u b hb
  refine ⟨⟨fun hb => ?_, pairwise_of fun i k F K hik hi hk => ?_⟩, by rw [List.length_set, List.length_set, h3], fun i d2 hi => ?_⟩
  · rcases mem_set hb with hb | hb
    · exact h1 hb
    · exact hg hb
  · rw [List.getElem?_set] at hi hk
    split at hi
    · split at hi
      · obtain rfl := Option.some.inj hi
        rename_i e _
        rw [if_neg (by omega)] at hk
        exact fun b h5 h6 => hG k K (by omega) hk b h6 h5
      · cases hi
    · split at hk
      · split at hk
        · obtain rfl := Option.some.inj hk
          exact hG i F (by omega) hi
        · cases hk
      · exact pairwise_get h2 hi hk (by omega)
  · rw [List.getElem?_set] at hi
    split at hi
    · rename_i e
      subst e
      obtain rfl := Option.some.inj hi
      obtain ⟨x, hx⟩ : ∃ x, l[j]? = some x := ⟨_, List.getElem?_eq_getElem hj⟩
      obtain ⟨u0, G0, e0, hc, hf, _⟩ := h4 j x hx
      refine ⟨u, G, by rw [List.getElem?_set_self (by omega)], ?_, by rw [World.frozen?_setCell]; exact hf, Own.keep d u G (fun b hb => keep b (fun e => hg (e ▸ hb))) hd⟩
      go_simp
    · rename_i e
      obtain ⟨u0, G0, e0, hc, hf, ho⟩ := h4 i d2 hi
      refine ⟨u0, G0, by rw [List.getElem?_set_ne e]; exact e0, ?_, by rw [World.frozen?_setCell]; exact hf, Own.keep d2 u0 G0 (fun b hb => keep b (fun e5 => h1 (e5 ▸ mem_at e0 hb))) ho⟩
      have hne : ¬ o + i = o + j := by omega
      rw [← hc]
      go_simp
end Go.Proofs.YtbadepiakkhabaaDoor
/- Filling a slice of structs that the call made; lists that are marked. No conditions. -/
namespace Go.Proofs.YtbadepiakkhabaaDoor
open Go.RowKit
set_option linter.unusedVariables false

/-- Stores one after the other. -/
def putAll : World → Nat → Nat → List (D × Value × List Nat) → World
  | w, _, _, [] => w
  | w, g, o, e :: r => putAll (w.setCell ⟨g, o, none⟩ e.2.1) g (o + 1) r
def setAll {α : Type} : List α → Nat → List α → List α
  | l, _, [] => l
  | l, i, d :: r => setAll (l.set i d) (i + 1) r
theorem setAll_mid {α : Type} : ∀ (ds A M B : List α), M.length = ds.length → setAll (A ++ M ++ B) A.length ds = A ++ ds ++ B := by
  intro ds
  induction ds with
  | nil => intro A M B h; rw [setAll, List.length_eq_zero_iff.1 h]
  | cons d r ih =>
    intro A M B h
    cases M with
    | nil => simp at h
    | cons m M =>
      rw [setAll]
      have e : (A ++ m :: M ++ B).set A.length d = (A ++ [d]) ++ M ++ B := by
        rw [List.append_assoc, List.set_append_right _ _ (Nat.le_refl _), Nat.sub_self]
        simp
      rw [e]
      have h2 := ih (A ++ [d]) M B (by simpa using h)
      rw [List.length_append] at h2
      rw [show A.length + 1 = A.length + [d].length from rfl, h2]
      simp
theorem mem_setAll {b : Nat} : ∀ (Gs Fs : List (List Nat)) (i : Nat), b ∈ (setAll Fs i Gs).flatten → b ∈ Fs.flatten ∨ b ∈ Gs.flatten := by
  intro Gs
  induction Gs with
  | nil => intro Fs i h; exact .inl h
  | cons G r ih =>
    intro Fs i h
    rw [setAll] at h
    rcases ih _ _ h with h | h
    · rcases mem_set h with h | h
      · exact .inl h
      · exact .inr (by rw [List.flatten_cons]; exact List.mem_append_left _ h)
    · exact .inr (by rw [List.flatten_cons]; exact List.mem_append_right _ h)
theorem putAll_size : ∀ (es : List (D × Value × List Nat)) (w : World) (g o : Nat), (putAll w g o es).heap.size = w.heap.size := by
  intro es
  induction es with
  | nil => intro w g o; rfl
  | cons e r ih => intro w g o; rw [putAll, ih]; simp [World.setCell]
theorem putAll_below {m g : Nat} {w : World} (hg : m ≤ g) : ∀ (es : List (D × Value × List Nat)) (w1 : World) (o : Nat), Below m w w1 → Below m w (putAll w1 g o es) := by
  intro es
  induction es with
  | nil => intro w1 o h; exact h
  | cons e r ih => intro w1 o h; rw [putAll]; exact ih _ _ (h.setCell (p := ⟨g, o, none⟩) hg _)
theorem RowD.puts {g o : Nat} : ∀ (es : List (D × Value × List Nat)) (w : World) (i : Nat) (l : List D) (Fs : List (List Nat)), RowD w g o l Fs → i + es.length ≤ l.length → (∀ e ∈ es, Own w e.1 e.2.1 e.2.2 ∧ g ∉ e.2.2 ∧ Apart Fs.flatten e.2.2) → es.Pairwise (fun x y => Apart x.2.2 y.2.2) → RowD (putAll w g (o + i) es) g o (setAll l i (es.map fun e => e.1)) (setAll Fs i (es.map fun e => e.2.2)) := by
  intro es
  induction es with
  | nil => intro w i l Fs h _ _ _; exact h
  | cons e r ih =>
    intro w i l Fs h hi he hp
    rw [List.length_cons] at hi
    rw [List.pairwise_cons] at hp
    obtain ⟨h1, h2, h3⟩ := he e List.mem_cons_self
    have hput := h.put (j := i) (by omega) h1 h2 fun k K _ hK b hb => h3 b (mem_at hK hb)
    refine ih _ (i + 1) _ _ hput (by rw [List.length_set]; omega) (fun x hx => ?_) hp.2
    obtain ⟨k1, k2, k3⟩ := he x (List.mem_cons_of_mem _ hx)
    refine ⟨Own.keep _ _ _ (fun b hb => Below.heap_setCell w ⟨g, o + i, none⟩ _ b (fun (e5 : b = g) => k2 (e5 ▸ hb))) k1, k2, fun b hb => ?_⟩
    rcases mem_set hb with hb | hb
    · exact k3 b hb
    · exact hp.1 x hx b hb
/-- A slice of structs that is filled, as far as it goes. -/
def FillD {α : Type} (f : α → List D) (zero : List D) (w : World) (g : Nat) (xs : List α) (k : Nat) (wr : World) : Prop := ∃ Fs, RowD wr g 0 ((xs.take k).flatMap f ++ (List.replicate (xs.length - k) ()).flatMap fun _ => zero) Fs ∧ (∀ b ∈ Fs.flatten, g < b ∧ b < wr.heap.size) ∧ g < wr.heap.size ∧ Below w.heap.size w wr
theorem FillD.start {α : Type} {f : α → List D} {zero : List D} {w w1 : World} {g z base : Nat} {T : TypeId} {xs : List α} {zc : Array Value} (hzl : zero.length = z) (hz0 : 0 < z) (hzc : zc.size = z) (hz : ∀ (j : Nat) (d : D), zero[j]? = some d → ∃ u : Value, zc[j]? = some u ∧ ∀ W, Own W d u []) (hown : w1.ownsRow base T z (.slice (some ⟨g, 0, none⟩) xs.length xs.length) xs.length (madeCells zc (xs.length * z)).toList) (hb : Below w.heap.size w w1) : FillD f zero w g xs 0 w1 := by
  have hlen : ((List.replicate xs.length ()).flatMap fun _ => zero).length = xs.length * z := by
    rw [flat_len (fun _ => zero) (fun _ => hzl), List.length_replicate]
  have hfl : (List.replicate (xs.length * z) ([] : List Nat)).flatten = [] := by simp
  rw [FillD, List.take_zero, List.flatMap_nil, List.nil_append, Nat.sub_zero]
  refine ⟨List.replicate (xs.length * z) [], ⟨⟨by rw [hfl]; exact List.not_mem_nil, pairwise_of fun i j F G _ hi hj b hb2 => ?_⟩, by rw [List.length_replicate, hlen], fun j d hj => ?_⟩, (fun b hb2 => by rw [hfl] at hb2; cases hb2), (World.ownsRow.lt hown g rfl).2, hb⟩
  · obtain ⟨_, rfl⟩ := List.mem_replicate.1 (List.mem_of_getElem? hi)
    cases hb2
  · have hjl : j < xs.length * z := by rw [← hlen]; exact (List.getElem?_eq_some_iff.1 hj).1
    have hjz : j % z < z := Nat.mod_lt _ hz0
    have hdiv : j / z < xs.length := Nat.div_lt_of_lt_mul (by rw [Nat.mul_comm]; exact hjl)
    have he : j = j / z * z + j % z := by rw [Nat.mul_comm]; exact (Nat.div_add_mod j z).symm
    have h1 := flat_at (fun _ : Unit => zero) (fun _ => hzl) (List.replicate xs.length ()) (j / z) (j % z) () (by rw [List.getElem?_replicate, if_pos hdiv]) hjz
    rw [← he, hj] at h1
    obtain ⟨u, hu, ho⟩ := hz (j % z) d h1.symm
    refine ⟨u, [], by rw [List.getElem?_replicate, if_pos hjl], ?_, World.ownsRow.frozenAt hown _, ho _⟩
    rw [Nat.zero_add, World.ownsRow.cellAt hown j hjl]
    have h2 : (madeCells zc (xs.length * z)).toList[j]? = some (zc[j % zc.size]!) := by
      unfold madeCells
      simp [hjl]
    rw [h2, hzc]
    obtain ⟨hlt, hv⟩ := Array.getElem?_eq_some_iff.1 hu
    rw [getElem!_pos zc (j % z) hlt, hv]
theorem FillD.next {α : Type} {f : α → List D} {zero : List D} {w wr w1 : World} {g k z : Nat} {xs : List α} (h : FillD f zero w g xs k wr) (hf : ∀ x, (f x).length = z) (hzl : zero.length = z) (hg : w.heap.size ≤ g) (hk : k < xs.length) (hb : Below wr.heap.size wr w1) (es : List (D × Value × List Nat)) (he : es.map (fun e => e.1) = f xs[k]) (ho : ∀ e ∈ es, Own w1 e.1 e.2.1 e.2.2 ∧ ∀ b ∈ e.2.2, wr.heap.size ≤ b ∧ b < w1.heap.size) (hp : es.Pairwise (fun x y => Apart x.2.2 y.2.2)) : FillD f zero w g xs (k + 1) (putAll w1 g (k * z) es) := by
  obtain ⟨Fs, hr, hF, hgl, hB⟩ := h
  have hel : es.length = z := by rw [← hf xs[k], ← he, List.length_map]
  have hr1 := hr.keep (hb.block g hgl) (fun b hb2 => hb.block b (hF b hb2).2)
  have htk : ((xs.take k).flatMap f).length = k * z := by rw [flat_len f hf, List.length_take, Nat.min_eq_left (by omega)]
  have hrep : List.replicate (xs.length - k) () = () :: List.replicate (xs.length - (k + 1)) () := by
    rw [show xs.length - k = (xs.length - (k + 1)) + 1 by omega, List.replicate_succ]
  have hps := RowD.puts es w1 (k * z) _ Fs hr1 (by rw [List.length_append, htk, hrep, List.flatMap_cons, List.length_append, hzl]; omega) (fun e he2 => ⟨(ho e he2).1, fun hb2 => by have := ((ho e he2).2 g hb2).1; omega, fun b hb1 hb2 => by have h1 := (hF b hb1).2; have h2 := ((ho e he2).2 b hb2).1; omega⟩) hp
  rw [Nat.zero_add] at hps
  refine ⟨setAll Fs (k * z) (es.map fun e => e.2.2), ?_, fun b hb2 => ?_, by rw [putAll_size]; have := hb.size; omega, putAll_below hg es w1 _ (hB.trans (hb.mono hB.size))⟩
  · have e : setAll ((xs.take k).flatMap f ++ (List.replicate (xs.length - k) ()).flatMap fun _ => zero) (k * z) (es.map fun e => e.1) = (xs.take (k + 1)).flatMap f ++ (List.replicate (xs.length - (k + 1)) ()).flatMap fun _ => zero := by
      rw [hrep, List.flatMap_cons, ← List.append_assoc, ← htk, setAll_mid _ _ _ _ (by rw [List.length_map, hel, hzl]), he, List.take_succ_eq_append_getElem hk, List.flatMap_append]
      simp
    rw [e] at hps
    exact hps
  · rw [putAll_size]
    have hs := hb.size
    rcases mem_setAll _ _ _ hb2 with hb2 | hb2
    · have := hF b hb2; omega
    · obtain ⟨K, hK, hb3⟩ := List.mem_flatten.1 hb2
      obtain ⟨e, he2, rfl⟩ := List.mem_map.1 hK
      have := (ho e he2).2 b hb3; omega
theorem FillD.cell {α : Type} {f : α → List D} {zero : List D} {w wr w1 : World} {g k z : Nat} {xs : List α} (h : FillD f zero w g xs k wr) (hf : ∀ x, (f x).length = z) (hzl : zero.length = z) (hk : k ≤ xs.length) (j : Nat) (hj : j < xs.length * z) (hb : Below wr.heap.size wr w1) : (∃ u, w1.cell? ⟨g, j, none⟩ = some u) ∧ w1.frozen? ⟨g, j, none⟩ = false := by
  obtain ⟨Fs, hr, hF, hgl, hB⟩ := h
  have hl : ((xs.take k).flatMap f ++ (List.replicate (xs.length - k) ()).flatMap fun _ => zero).length = xs.length * z := by
    rw [List.length_append, flat_len f hf, flat_len (fun _ => zero) (fun _ => hzl), List.length_take, List.length_replicate, Nat.min_eq_left hk, ← Nat.add_mul]
    congr 1; omega
  obtain ⟨u, G, _, hc, hfz, _⟩ := (hr.keep (hb.block g hgl) (fun b hb2 => hb.block b (hF b hb2).2)).2.2 j _ (List.getElem?_eq_getElem (by rw [hl]; exact hj))
  rw [Nat.zero_add] at hc hfz
  exact ⟨⟨u, hc⟩, hfz⟩
theorem FillD.done {α : Type} {f : α → List D} {zero : List D} {w wr : World} {g z : Nat} {xs : List α} (h : FillD f zero w g xs xs.length wr) (hf : ∀ x, (f x).length = z) (hz0 : 0 < z) (hg : w.heap.size ≤ g) {cp : Nat} (hcp : xs.length ≤ cp) : ∃ F, Own wr (.row xs.length (xs.flatMap f)) (.slice (some ⟨g, 0, none⟩) xs.length cp) F ∧ Foot w.heap.size wr F ∧ Below w.heap.size w wr := by
  obtain ⟨Fs, hr, hF, hgl, hB⟩ := h
  rw [List.take_length, Nat.sub_self, List.replicate_zero, List.flatMap_nil, List.append_nil] at hr
  by_cases h0 : xs.flatMap f = []
  · refine ⟨[], ?_, (fun b hb => by cases hb), hB⟩
    rw [h0]; exact own_nil
  · refine ⟨_, own_of_rowD hr h0 hcp, fun b hb => ?_, hB⟩
    rcases List.mem_cons.1 hb with rfl | hb
    · exact ⟨hg, hgl⟩
    · have := hF b hb; omega
/-- What makes data answers. -/
def RetD (w : World) (d : D) (e : Ending) (w' : World) : Prop := ∃ v F, e = .returned v ∧ Own w' d v F ∧ Foot w.heap.size w' F ∧ Below w.heap.size w w'

def wsum {α : Type} (wd : α → Nat) : List α → Nat
  | [] => 0
  | x :: r => wd x + wsum wd r
theorem wsum_app {α : Type} (wd : α → Nat) : ∀ (l m : List α), wsum wd (l ++ m) = wsum wd l + wsum wd m := by
  intro l
  induction l with
  | nil => intro m; simp [wsum]
  | cons y r ih => intro m; rw [List.cons_append, wsum, ih, wsum]; omega
end Go.Proofs.YtbadepiakkhabaaDoor
/- The laws' copy of a list of strings. No conditions. -/
namespace Go.Proofs.YtbadepiakkhabaaDoor
open Go.RowKit
set_option linter.unusedVariables false

/-- The first k strings, and empty ones for the rest. -/
def filled (l : List ByteArray) (k : Nat) : List ByteArray := l.take k ++ List.replicate (l.length - k) ByteArray.empty
end Go.Proofs.YtbadepiakkhabaaDoor
