/- Joined texts: G4, G5. No conditions besides those that each states. -/
import Derived.Test.YtckjmmapekaapaaGreatDoorZ7
/- Trees of the call's own: the blocks of their lists, each met once. No conditions. -/
namespace Go.Proofs.YtckjmmapekaapaaGreatDoor
open Go.RowKit
set_option linter.unusedVariables false

/-- A row of n trees' cells. -/
def RowE (w : World) (g n cap : Nat) (xs : List Value) : Prop := w.ownsRow 0 47 5 (.slice (some ⟨g, 0, none⟩) n cap) n xs
theorem RowE.cell {w : World} {g n cap : Nat} {xs : List Value} (h : RowE w g n cap xs) (j : Nat) (hj : j < n * 5) : (∃ u, w.cell? ⟨g, j, none⟩ = some u) ∧ w.frozen? ⟨g, j, none⟩ = false := by
  refine ⟨?_, World.ownsRow.frozenAt h j⟩
  rw [World.ownsRow.cellAt h j hj]
  have hl := h.1
  exact ⟨xs[j]'(by omega), List.getElem?_eq_getElem _⟩
theorem RowE.set {w : World} {g n cap : Nat} {xs : List Value} (h : RowE w g n cap xs) (j : Nat) (u : Value) : RowE (w.setCell ⟨g, j, none⟩ u) g n cap (xs.set j u) := (World.ownsRow.stored h j u).1
theorem RowE.keep {w w1 : World} {g n cap : Nat} {xs : List Value} (h : RowE w g n cap xs) (hb : w1.heap[g]? = w.heap[g]?) : RowE w1 g n cap xs := by
  refine ⟨h.1, ?_⟩
  rcases h.2 with hn | ⟨g2, cap2, cur, hv, hg, hgg, r⟩
  · exact .inl hn
  · refine .inr ⟨g2, cap2, cur, hv, hg, ?_, r⟩
    injection hv with e1 e2 e3
    injection e1 with e1
    injection e1 with e1
    subst e1
    rw [hb]; exact hgg
theorem RowE.cap {w : World} {g n cap : Nat} {xs : List Value} (h : RowE w g n cap xs) : n ≤ cap := by
  rcases h.2 with ⟨h1, h2⟩ | ⟨g2, cap2, cur, hv, hg, hgg, r, _⟩
  · cases h1
  · injection hv with e1 e2 e3; omega
theorem RowE.lt {w : World} {g n cap : Nat} {xs : List Value} (h : RowE w g n cap xs) : g < w.heap.size := (World.ownsRow.lt h g rfl).2
mutual
/-- A tree's five cells at a place, its lists in the blocks F. -/
def OwnE (w : World) (g : Nat) : Nat → Ex.T → List Nat → Prop
  | o, .node k t n l ks, F => (w.cell? ⟨g, o, none⟩ = some (.int .i64 k) ∧ w.cell? ⟨g, o + 1, none⟩ = some (.string t) ∧ w.cell? ⟨g, o + 2, none⟩ = some (.int .i64 n) ∧ w.cell? ⟨g, o + 3, none⟩ = some (.int .i64 l)) ∧ ∃ v, w.cell? ⟨g, o + 4, none⟩ = some v ∧ OwnK w v ks F
/-- A list of kids, in the blocks F. -/
def OwnK (w : World) : Value → List Ex.T → List Nat → Prop
  | v, [], F => F = [] ∧ ∃ a c, v = .slice a 0 c
  | v, x :: r, F => ∃ g c xs G1 G2, v = .slice (some ⟨g, 0, none⟩) (r.length + 1) c ∧ RowE w g (r.length + 1) c xs ∧ F = g :: (G1 ++ G2) ∧ (g ∉ G1 ∧ g ∉ G2 ∧ ∀ b ∈ G1, b ∉ G2) ∧ OwnE w g 0 x G1 ∧ OwnR w g 5 r G2
/-- Trees in a row, their lists in the blocks G. -/
def OwnR (w : World) (g : Nat) : Nat → List Ex.T → List Nat → Prop
  | _, [], G => G = []
  | o, x :: r, G => ∃ G1 G2, G = G1 ++ G2 ∧ (∀ b ∈ G1, b ∉ G2) ∧ OwnE w g o x G1 ∧ OwnR w g (o + 5) r G2
end
theorem cell_keep {w w' : World} {b : Nat} (h : w'.heap[b]? = w.heap[b]?) (o : Nat) : w'.cell? ⟨b, o, none⟩ = w.cell? ⟨b, o, none⟩ := World.cell?_of_block (a := ⟨b, o, none⟩) h
mutual
theorem OwnE.keep {w w' : World} : ∀ {g o : Nat} {F : List Nat} (t : Ex.T), (∀ j, o ≤ j → j < o + 5 → w'.cell? ⟨g, j, none⟩ = w.cell? ⟨g, j, none⟩) → (∀ b ∈ F, w'.heap[b]? = w.heap[b]?) → OwnE w g o t F → OwnE w' g o t F
  | g, o, F, .node k t n l ks, hc, hF, hx => by
    rw [OwnE] at hx ⊢
    obtain ⟨⟨a, b, c, d⟩, v, hv, hk⟩ := hx
    exact ⟨⟨(hc o (by omega) (by omega)).trans a, (hc (o + 1) (by omega) (by omega)).trans b, (hc (o + 2) (by omega) (by omega)).trans c, (hc (o + 3) (by omega) (by omega)).trans d⟩, v, (hc (o + 4) (by omega) (by omega)).trans hv, OwnK.keep ks hF hk⟩
theorem OwnK.keep {w w' : World} : ∀ {v : Value} {F : List Nat} (l : List Ex.T), (∀ b ∈ F, w'.heap[b]? = w.heap[b]?) → OwnK w v l F → OwnK w' v l F
  | v, F, [], hF, hx => by rw [OwnK] at hx ⊢; exact hx
  | v, F, x :: r, hF, hx => by
    rw [OwnK] at hx ⊢
    obtain ⟨g, c, xs, G1, G2, e, hrow, rfl, hd, hx, hr⟩ := hx
    have hg := hF g (List.mem_cons_self)
    exact ⟨g, c, xs, G1, G2, e, hrow.keep hg, rfl, hd, OwnE.keep x (fun j _ _ => cell_keep hg j) (fun b hb => hF b (List.mem_cons_of_mem _ (List.mem_append_left _ hb))) hx, OwnR.keep r (fun j _ _ => cell_keep hg j) (fun b hb => hF b (List.mem_cons_of_mem _ (List.mem_append_right _ hb))) hr⟩
theorem OwnR.keep {w w' : World} : ∀ {g o : Nat} {F : List Nat} (l : List Ex.T), (∀ j, o ≤ j → j < o + l.length * 5 → w'.cell? ⟨g, j, none⟩ = w.cell? ⟨g, j, none⟩) → (∀ b ∈ F, w'.heap[b]? = w.heap[b]?) → OwnR w g o l F → OwnR w' g o l F
  | g, o, F, [], hc, hF, hx => by rw [OwnR] at hx ⊢; exact hx
  | g, o, F, x :: r, hc, hF, hx => by
    rw [OwnR] at hx ⊢
    rw [List.length_cons] at hc
    obtain ⟨G1, G2, rfl, hd, hx, hr⟩ := hx
    exact ⟨G1, G2, rfl, hd, OwnE.keep x (fun j h1 h2 => hc j h1 (by omega)) (fun b hb => hF b (List.mem_append_left _ hb)) hx, OwnR.keep r (fun j h1 h2 => hc j (by omega) (by omega)) (fun b hb => hF b (List.mem_append_right _ hb)) hr⟩
end
mutual
theorem OwnE.at {w : World} : ∀ {g o : Nat} {F : List Nat} (t : Ex.T), OwnE w g o t F → TreeAt w g o t
  | g, o, F, .node k t n l ks, hx => by
    rw [OwnE] at hx
    rw [TreeAt]
    obtain ⟨h, v, hv, hk⟩ := hx
    exact ⟨h, v, hv, OwnK.kids ks hk⟩
theorem OwnK.kids {w : World} : ∀ {v : Value} {F : List Nat} (l : List Ex.T), OwnK w v l F → Kids w v l
  | v, F, [], hx => by rw [OwnK] at hx; rw [Kids]; exact hx.2
  | v, F, x :: r, hx => by
    rw [OwnK] at hx
    rw [Kids]
    obtain ⟨g, c, xs, G1, G2, e, hrow, rfl, hd, hx, hr⟩ := hx
    exact ⟨g, 0, c, e, hrow.cap, OwnE.at x hx, by rw [Nat.zero_add]; exact OwnR.at r hr⟩
theorem OwnR.at {w : World} : ∀ {g o : Nat} {F : List Nat} (l : List Ex.T), OwnR w g o l F → RowAt w g o l
  | g, o, F, [], hx => by rw [RowAt]; trivial
  | g, o, F, x :: r, hx => by
    rw [OwnR] at hx
    rw [RowAt]
    obtain ⟨G1, G2, rfl, hd, hx, hr⟩ := hx
    exact ⟨OwnE.at x hx, OwnR.at r hr⟩
end
theorem ownR_snoc {w : World} {g : Nat} {x : Ex.T} {F : List Nat} : ∀ {l : List Ex.T} {o : Nat} {G : List Nat}, OwnR w g o l G → OwnE w g (o + l.length * 5) x F → (∀ b ∈ G, b ∉ F) → OwnR w g o (l ++ [x]) (G ++ F) := by
  intro l
  induction l with
  | nil =>
    intro o G h hx hd
    rw [OwnR] at h
    subst h
    rw [List.nil_append, List.nil_append, OwnR]
    refine ⟨F, [], by simp, by simp, by simpa using hx, ?_⟩
    rw [OwnR]
  | cons y r ih =>
    intro o G h hx hd
    rw [OwnR] at h
    obtain ⟨G1, G2, rfl, hd2, hy, hr⟩ := h
    rw [List.cons_append, OwnR]
    refine ⟨G1, G2 ++ F, by simp, ?_, hy, ih hr (by rw [List.length_cons] at hx; rw [show o + 5 + r.length * 5 = o + (r.length + 1) * 5 by omega]; exact hx) (fun b hb => hd b (List.mem_append_right _ hb))⟩
    intro b hb hb2
    rcases List.mem_append.1 hb2 with h | h
    · exact hd2 b hb h
    · exact hd b (List.mem_append_left _ hb) h
theorem ownE_of {w : World} {g o : Nat} {t : Ex.T} {v : Value} {F : List Nat} (h : w.cell? ⟨g, o, none⟩ = some (.int .i64 t.kind) ∧ w.cell? ⟨g, o + 1, none⟩ = some (.string t.text) ∧ w.cell? ⟨g, o + 2, none⟩ = some (.int .i64 t.num) ∧ w.cell? ⟨g, o + 3, none⟩ = some (.int .i64 t.line)) (hv : w.cell? ⟨g, o + 4, none⟩ = some v) (hk : OwnK w v t.kids F) : OwnE w g o t F := by
  cases t; rw [OwnE]; exact ⟨h, v, hv, hk⟩
/-- A row that is filled is a list of kids. -/
theorem ownK_of {w : World} {g c : Nat} {xs : List Value} {l : List Ex.T} {G : List Nat} (hr : RowE w g l.length c xs) (ho : OwnR w g 0 l G) (hg : g ∉ G) : OwnK w (.slice (some ⟨g, 0, none⟩) l.length c) l (if l = [] then [] else g :: G) := by
  cases l with
  | nil => rw [OwnK, if_pos rfl]; exact ⟨rfl, _, _, rfl⟩
  | cons x r =>
    rw [OwnR] at ho
    obtain ⟨G1, G2, rfl, hd, hx, hr2⟩ := ho
    rw [OwnK, if_neg (by simp)]
    rw [Nat.zero_add] at hr2
    exact ⟨g, c, xs, G1, G2, rfl, hr, rfl, ⟨fun h => hg (List.mem_append_left _ h), fun h => hg (List.mem_append_right _ h), hd⟩, hx, hr2⟩
/-- Blocks from B on, of the world. -/
def Foot (B : Nat) (w : World) (F : List Nat) : Prop := ∀ b ∈ F, B ≤ b ∧ b < w.heap.size
/-- What makes a tree or a list answers. -/
def RetK (w : World) (ks : List Ex.T) (e : Ending) (w' : World) : Prop := ∃ v F, e = .returned v ∧ OwnK w' v ks F ∧ Foot w.heap.size w' F ∧ Below w.heap.size w w'
def RetE (w : World) (t : Ex.T) (e : Ending) (w' : World) : Prop := ∃ v F, e = .returned (exV t v) ∧ OwnK w' v t.kids F ∧ Foot w.heap.size w' F ∧ Below w.heap.size w w'
/-- Where the filling of a list stands. -/
def FillAt (w : World) (g : Nat) (ks : List Ex.T) (k : Nat) (wr : World) : Prop := ∃ xs G, RowE wr g ks.length ks.length xs ∧ OwnR wr g 0 (ks.take k) G ∧ (∀ b ∈ G, g < b ∧ b < wr.heap.size) ∧ Below w.heap.size w wr
theorem FillAt.cells {w wr : World} {g k : Nat} {ks : List Ex.T} (h : FillAt w g ks k wr) (j : Nat) (hj : j < ks.length * 5) : (∃ u, wr.cell? ⟨g, j, none⟩ = some u) ∧ wr.frozen? ⟨g, j, none⟩ = false := by
  obtain ⟨xs, G, hr, _⟩ := h
  exact hr.cell j hj
/-- The five stores of a tree. -/
abbrev put5 (w : World) (g o : Nat) (t : Ex.T) (v : Value) : World := ((((w.setCell ⟨g, o, none⟩ (.int .i64 t.kind)).setCell ⟨g, o + 1, none⟩ (.string t.text)).setCell ⟨g, o + 2, none⟩ (.int .i64 t.num)).setCell ⟨g, o + 3, none⟩ (.int .i64 t.line)).setCell ⟨g, o + 4, none⟩ v
theorem FillAt.next {w wr w1 : World} {g k : Nat} {ks : List Ex.T} {v : Value} {F : List Nat} (h : FillAt w g ks k wr) (hg : w.heap.size ≤ g) (hk : k < ks.length) (hb : Below wr.heap.size wr w1) (ho : OwnK w1 v (ks[k]).kids F) (hF : Foot wr.heap.size w1 F) :
    FillAt w g ks (k + 1) (put5 w1 g (k * 5) ks[k] v) := by
  obtain ⟨xs, G, hr, hR, hG, hB⟩ := h
  have hgl := hr.lt
  have hr1 : RowE w1 g ks.length ks.length xs := hr.keep (hb.block g hgl)
  have hR1 : OwnR w1 g 0 (ks.take k) G := OwnR.keep _ (fun j _ _ => cell_keep (hb.block g hgl) j) (fun b hb2 => hb.block b (hG b hb2).2) hR
  have hlen : (ks.take k).length = k := by rw [List.length_take]; omega
  have hne : ∀ b, b ≠ g → ∀ (W : World) (o : Nat) (u : Value), (W.setCell ⟨g, o, none⟩ u).heap[b]? = W.heap[b]? := fun b hb W o u => Below.heap_setCell W ⟨g, o, none⟩ u b hb
  have hput : ∀ b, b ≠ g → (put5 w1 g (k * 5) ks[k] v).heap[b]? = w1.heap[b]? := fun b hb => by unfold put5; rw [hne b hb, hne b hb, hne b hb, hne b hb, hne b hb]
  have hcell : ∀ j, j < k * 5 → (put5 w1 g (k * 5) ks[k] v).cell? ⟨g, j, none⟩ = w1.cell? ⟨g, j, none⟩ := by
    intro j hj
    unfold put5
    have c : ∀ (W : World) (o : Nat) (u : Value), o ≠ j → (W.setCell ⟨g, o, none⟩ u).cell? ⟨g, j, none⟩ = W.cell? ⟨g, j, none⟩ := by
      intro W o u ho
      have : ¬ j = o := fun e => ho e.symm
      go_simp
    rw [c _ _ _ (by omega), c _ _ _ (by omega), c _ _ _ (by omega), c _ _ _ (by omega), c _ _ _ (by omega)]
  have hfg : ∀ b ∈ F, b ≠ g := fun b hb e => by have := (hF b hb).1; omega
  have hgg : ∀ b ∈ G, b ≠ g := fun b hb e => by have := (hG b hb).1; omega
  have hnew : OwnE (put5 w1 g (k * 5) ks[k] v) g (k * 5) ks[k] F := by
    obtain ⟨a0, f0⟩ := hr1.cell (k * 5) (by omega)
    obtain ⟨a1, f1⟩ := hr1.cell (k * 5 + 1) (by omega)
    obtain ⟨a2, f2⟩ := hr1.cell (k * 5 + 2) (by omega)
    obtain ⟨a3, f3⟩ := hr1.cell (k * 5 + 3) (by omega)
    obtain ⟨a4, f4⟩ := hr1.cell (k * 5 + 4) (by omega)
    obtain ⟨u0, a0⟩ := a0
    obtain ⟨u1, a1⟩ := a1
    obtain ⟨u2, a2⟩ := a2
    obtain ⟨u3, a3⟩ := a3
    obtain ⟨u4, a4⟩ := a4
    refine ownE_of ⟨?_, ?_, ?_, ?_⟩ ?_ (OwnK.keep _ (fun b hb => hput b (hfg b hb)) ho)
    all_goals (unfold put5; go_simp)
  refine ⟨_, G ++ F, ((((hr1.set _ _).set _ _).set _ _).set _ _).set _ _, ?_, ?_, ?_⟩
  · rw [List.take_succ_eq_append_getElem hk]
    refine ownR_snoc (OwnR.keep _ (fun j h1 h2 => hcell j (by rw [hlen] at h2; omega)) (fun b hb2 => hput b (hgg b hb2)) hR1) ?_ ?_
    · rw [hlen, Nat.zero_add]; exact hnew
    · intro b hb1 hb2
      have := (hF b hb2).1
      have := (hG b hb1).2
      omega
  · intro b hb2
    have hs : (put5 w1 g (k * 5) ks[k] v).heap.size = w1.heap.size := by simp [put5, World.setCell]
    have := hb.size
    rw [hs]
    rcases List.mem_append.1 hb2 with h | h
    · have := hG b h; omega
    · have := hF b h; omega
  · have h2 : Below w.heap.size w w1 := hB.trans (hb.mono hB.size)
    exact ((((h2.setCell (p := ⟨g, k * 5, none⟩) hg _).setCell (p := ⟨g, k * 5 + 1, none⟩) hg _).setCell (p := ⟨g, k * 5 + 2, none⟩) hg _).setCell (p := ⟨g, k * 5 + 3, none⟩) hg _).setCell (p := ⟨g, k * 5 + 4, none⟩) hg _
end Go.Proofs.YtckjmmapekaapaaGreatDoor
/- The laws' copy of a tree. No conditions. -/
namespace Go.Proofs.YtckjmmapekaapaaGreatDoor
open Go.RowKit
set_option linter.unusedVariables false

theorem info_expr : (Tryz.prog.info? 47).map (fun i => (i.zero, i.size, i.bytes)) = some (some (.agg #[.int .i64 0, .string ByteArray.empty, .int .i64 0, .int .i64 0, .slice none 0 0]), 5, 64) := by kernel_rfl
def ToT (t : Ex.T) : Prop := t.bulk ≤ 1048576 → ∀ (w : World) (v : Value), Kids w v t.kids → Calls Tryz.prog 72 #[exV t v] w (RetE w t)
theorem foot_if {B : Nat} {w : World} {g : Nat} {G : List Nat} {l : List Ex.T} (hB : B ≤ g) (h : ∀ b ∈ G, g < b ∧ b < w.heap.size) (hg : g < w.heap.size) : Foot B w (if l = [] then [] else g :: G) := by
  intro b hb
  split at hb
  · cases hb
  · rcases List.mem_cons.1 hb with rfl | hb
    · exact ⟨hB, hg⟩
    · have := h b hb; exact ⟨by omega, this.2⟩
theorem FillAt.done {w wr : World} {g : Nat} {ks : List Ex.T} (h : FillAt w g ks ks.length wr) (hg : w.heap.size ≤ g) : RetK w ks (.returned (.slice (some ⟨g, 0, none⟩) ks.length ks.length)) wr := by
  obtain ⟨xs, G, hr, hR, hG, hB⟩ := h
  rw [List.take_length] at hR
  exact ⟨_, _, rfl, ownK_of hr hR (fun h => by have := (hG g h).1; omega), foot_if hg hG hr.lt, hB⟩
theorem FillAt.later {w wr w1 : World} {g k : Nat} {ks : List Ex.T} (h : FillAt w g ks k wr) (j : Nat) (hj : j < ks.length * 5) (hb : Below wr.heap.size wr w1) : (∃ u, w1.cell? ⟨g, j, none⟩ = some u) ∧ w1.frozen? ⟨g, j, none⟩ = false := by
  obtain ⟨xs, G, hr, _⟩ := h
  exact (hr.keep (hb.block g hr.lt)).cell j hj

set_option maxHeartbeats 1600000 in
theorem to_list (ks : List Ex.T) (hI : ∀ x ∈ ks, ToT x) (hl : ks.length + Ex.bulks ks ≤ 1048576) (w : World) (v : Value) (hk : Kids w v ks) : Calls Tryz.prog 93 #[v] w (RetK w ks) := by
  obtain ⟨i0, hi, hz0, hz1, hz2⟩ := info_parts info_expr
  obtain ⟨a, c, rfl⟩ := kids_len hk
  have HK := Lib.hid hk
  have HI := Lib.hid hI
  have HL := Lib.hid hl
  have hln : ks.length ≤ 1048576 := by omega
  clear hk hI hl
  go_enter Tryz.func93, Tryz.ntmps93
  go_wp2_with (at_make; refine wpList_make_full _ rfl _ _ 45 rfl 0 47 i0 (.agg #[.int .i64 0, .string ByteArray.empty, .int .i64 0, .int .i64 0, .slice none 0 0]) 5 Tryz.underlying45 hi hz0 hz1 _ _ _ _ ks.length rfl rfl (by omega) (by omega) (by rw [hz2]; omega) (by unfold maxLen; omega) (Nat.zero_le _) ?_)
  intro w1 hown hgr
  have HB1 := Lib.hid (show Below w.heap.size w w1 from (Below.refl _ _).grown hgr (Nat.le_refl _) (fun k hk => by cases hk))
  have HST : Hid (FillAt w w.heap.size ks 0 w1) := Lib.hid ⟨_, [], hown, by rw [List.take_zero, OwnR], (fun b hb => by cases hb), HB1.out⟩
  clear hown hgr
  go_wp2
  go_loopw [4] (fun i wr => ∃ k : Nat, i = .int .i64 k ∧ k ≤ ks.length ∧ FillAt w w.heap.size ks k wr) (fun i _ => ks.length - (intOf i).toNat)
  case atStart => exact ⟨0, rfl, Nat.zero_le _, HST.out⟩
  case round =>
    clear HST
    obtain ⟨k, rfl, hk, hat⟩ := hrel
    have HAT := Lib.hid hat
    have HK2 := Lib.hid (HK.out.later hat.choose_spec.choose_spec.2.2.2)
    clear hat
    by_cases hlt : k < ks.length
    · obtain ⟨g, o, rfl, ht⟩ := kids_at HK2.out k hlt
      obtain ⟨⟨q0, q1, q2, q3⟩, v, q4, hkv⟩ := tree_cells ht
      have hbk : ks[k].bulk ≤ 1048576 := by have h1 := Ex.bulks_mem (List.getElem_mem hlt); have h2 := HL.out; omega
      have HC := Lib.hid (HI.out ks[k] (List.getElem_mem hlt) hbk wr v hkv)
      unfold RetE at HC
      have HN := Lib.hid (fun w1 v F h1 h2 h3 => HAT.out.next (w1 := w1) (v := v) (F := F) (Nat.le_refl _) hlt h1 h2 h3)
      have HF := Lib.hid (fun w1 j hj hb => HAT.out.later (w1 := w1) j hj hb)
      have hlt5 : k * 5 + 4 < ks.length * 5 := by omega
      have k0 : (0 : Int) ≤ k := by omega
      have k1 : (k : Int) < ks.length := by omega
      clear hbk ht hkv HAT
      generalize ks[k] = x at q0 q1 q2 q3 HC HN
      go_wp2_with (go_at_call 72; refine HC.out.mono ?_; rintro e w2 ⟨v2, F2, rfl, ho2, hf2, hb2⟩; obtain ⟨z2, d2, rfl⟩ := kids_len (OwnK.kids _ ho2); have HN2 := Lib.hid (HN.out w2 _ F2 hb2 ho2 hf2); obtain ⟨⟨u0, c0⟩, f0⟩ := HF.out w2 (k * 5) (by omega) hb2; obtain ⟨⟨u1, c1⟩, f1⟩ := HF.out w2 (k * 5 + 1) (by omega) hb2; obtain ⟨⟨u2, c2⟩, f2⟩ := HF.out w2 (k * 5 + 2) (by omega) hb2; obtain ⟨⟨u3, c3⟩, f3⟩ := HF.out w2 (k * 5 + 3) (by omega) hb2; obtain ⟨⟨u4, c4⟩, f4⟩ := HF.out w2 (k * 5 + 4) (by omega) hb2; clear hb2 ho2 hf2)
      go_roundw
      case rel => exact ⟨k + 1, by go_num, by omega, HN2.out⟩
      case measure => first | (simp [intOf]; done) | (simp [intOf]; omega)
    · obtain rfl : k = ks.length := by omega
      have HD := Lib.hid (HAT.out.done (Nat.le_refl _))
      go_wp2
      go_ret
      exact HD.out
set_option maxHeartbeats 1600000 in
theorem to_tree : ∀ (N : Nat) (t : Ex.T), t.count ≤ N → ToT t := by
  intro N
  induction N with
  | zero => intro t h; have := Ex.count_pos t; omega
  | succ N ih =>
    intro t hN hb w v hk
    have HB := bulk_eq t
    have HL := Lib.hid (fun W hW => to_list t.kids (fun x hx => ih x (by have := kids_count hx; omega)) (by omega) W v (hk.later hW))
    unfold RetK at HL
    unfold RetE
    obtain ⟨a, c, rfl⟩ := kids_len hk
    clear ih hN hb HB hk
    generalize hW1 : w.alloc (.cells #[.int .i64 t.kind, .string t.text, .int .i64 t.num, .int .i64 t.line, .slice a t.kids.length c] 81) = W1 at *
    have B1 : Below w.heap.size w W1 := by rw [← hW1]; exact bl1 _ _
    have Z1 : W1.heap.size = w.heap.size + 1 := by rw [← hW1]; simp
    have B2 := Below.alloc B1 B1.size (.cells #[.int .i64 0, .string ⟨#[]⟩, .int .i64 0, .int .i64 0, .slice none 0 0] 47)
    have B3 := Below.alloc B2 B2.size (.cells #[.int .i64 t.kind, .string t.text, .int .i64 t.num, .int .i64 t.line, .slice none 0 0] 47)
    have HL3 := Lib.hid (HL.out _ B3)
    have F2 := Lib.hid ((FreeE.new W1 0 ⟨#[]⟩ 0 0 (.slice none 0 0) 47).later (bl1 _ (.cells #[.int .i64 t.kind, .string t.text, .int .i64 t.num, .int .i64 t.line, .slice none 0 0] 47)))
    have F3 := Lib.hid (FreeE.new (W1.alloc (.cells #[.int .i64 0, .string ⟨#[]⟩, .int .i64 0, .int .i64 0, .slice none 0 0] 47)) t.kind t.text t.num t.line (.slice none 0 0) 47)
    have Z2 : (W1.alloc (.cells #[.int .i64 0, .string ⟨#[]⟩, .int .i64 0, .int .i64 0, .slice none 0 0] 47)).heap.size = w.heap.size + 2 := by simp; omega
    have Z3 : ((W1.alloc (.cells #[.int .i64 0, .string ⟨#[]⟩, .int .i64 0, .int .i64 0, .slice none 0 0] 47)).alloc (.cells #[.int .i64 t.kind, .string t.text, .int .i64 t.num, .int .i64 t.line, .slice none 0 0] 47)).heap.size = w.heap.size + 3 := by simp; omega
    rw [Z1] at F2
    rw [Z2] at F3
    have HZ3 := Lib.hid Z3
    have HB3 := Lib.hid B3
    subst hW1
    clear B1 Z1 B2 B3 Z2 Z3 HL
    go_enter Tryz.func72, Tryz.ntmps72
    go_wp2_with (go_at_call 93; refine HL3.out.mono ?_; rintro e w1 ⟨v1, F, rfl, ho, hf, hb⟩; obtain ⟨z2, d2, rfl⟩ := kids_len (OwnK.kids _ ho); obtain ⟨⟨r0, r1, r2, r3, r4⟩, s0, s1, s2, s3, s4⟩ := F2.out.later hb; obtain ⟨⟨t0, t1, t2, t3, t4⟩, u0, u1, u2, u3, u4⟩ := F3.out.later hb; have HO := Lib.hid ho; have HF := Lib.hid hf; have HB := Lib.hid hb; clear ho hf hb)
    have hne : ∀ b ∈ F, b ≠ w.heap.size + 1 ∧ b ≠ w.heap.size + 1 + 1 := fun b hb => by have h1 := (HF.out b hb).1; rw [HZ3.out] at h1; omega
    have hbw : Below w.heap.size w w1 := HB3.out.trans (HB.out.mono HB3.out.size)
    refine bodyPost_ret (v := exV t (.slice z2 t.kids.length d2)) (by simp [results, Tryz.results72, go_sem, r0, r1, r2, r3, r4]) rfl ⟨_, F, rfl, OwnK.keep _ (fun b hb => ?_) HO.out, fun b hb => ?_, ?_⟩
    · obtain ⟨h1, h2⟩ := hne b hb
      rw [Below.heap_setCell _ _ _ _ h1, Below.heap_setCell _ _ _ _ h1, Below.heap_setCell _ _ _ _ h1, Below.heap_setCell _ _ _ _ h1, Below.heap_setCell _ _ _ _ h1, Below.heap_setCell _ _ _ _ h2]
    · have h1 := HF.out b hb
      rw [HZ3.out] at h1
      have h2 := h1.2
      refine ⟨by omega, ?_⟩
      simpa [World.setCell] using h2
    · exact ((((((hbw.setCell (p := ⟨w.heap.size + 1 + 1, 4, none⟩) (by show _ ≤ _ + 1 + 1; omega) _).setCell (p := ⟨w.heap.size + 1, 0, none⟩) (Nat.le_succ _) _).setCell (p := ⟨w.heap.size + 1, 1, none⟩) (Nat.le_succ _) _).setCell (p := ⟨w.heap.size + 1, 2, none⟩) (Nat.le_succ _) _).setCell (p := ⟨w.heap.size + 1, 3, none⟩) (Nat.le_succ _) _).setCell (p := ⟨w.heap.size + 1, 4, none⟩) (Nat.le_succ _) _)
end Go.Proofs.YtckjmmapekaapaaGreatDoor
