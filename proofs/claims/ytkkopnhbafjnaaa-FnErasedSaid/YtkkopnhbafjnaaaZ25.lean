/- Joined texts: N29, N30. No conditions besides those that each states. -/
import Derived.Test.YtkkopnhbafjnaaaZ24
/- What the laws write into a list of trees. No conditions. -/
namespace Go.Proofs.Ytkkopnhbafjnaaa
open Go.RowKit
set_option linter.unusedVariables false

mutual
/-- The tree that the laws write, from the letter k on. -/
def Ex.T.mrk : Ex.T → Nat → Ex.T
  | .node _ _ _ _ ks, k => .node (k : Int) (mark (k + 1)) ((k : Int) + 1 + 1) ((k : Int) + 1 + 1 + 1) (Ex.mrks ks (k + 4))
def Ex.mrks : List Ex.T → Nat → List Ex.T
  | [], _ => []
  | x :: r, k => x.mrk k :: Ex.mrks r (k + 4 * x.count)
end
theorem Ex.mrk_eq (t : Ex.T) (k : Nat) : t.mrk k = .node (k : Int) (mark (k + 1)) ((k : Int) + 1 + 1) ((k : Int) + 1 + 1 + 1) (Ex.mrks t.kids (k + 4)) := by cases t; rw [Ex.T.mrk]; rfl
theorem Ex.mrks_len : ∀ (l : List Ex.T) (k : Nat), (Ex.mrks l k).length = l.length := by
  intro l
  induction l with
  | nil => intro k; rw [Ex.mrks]
  | cons x r ih => intro k; rw [Ex.mrks, List.length_cons, ih, List.length_cons]
theorem Ex.mrks_snoc : ∀ (l : List Ex.T) (x : Ex.T) (k : Nat), Ex.mrks (l ++ [x]) k = Ex.mrks l k ++ [x.mrk (k + 4 * Ex.counts l)] := by
  intro l
  induction l with
  | nil => intro x k; simp [Ex.mrks, Ex.counts]
  | cons y r ih => intro x k; rw [List.cons_append, Ex.mrks, ih, Ex.mrks, Ex.counts, List.cons_append, show k + 4 * y.count + 4 * Ex.counts r = k + 4 * (y.count + Ex.counts r) by omega]
theorem Ex.mrks_get : ∀ (l : List Ex.T) (k i : Nat) (h : i < l.length), (Ex.mrks l k)[i]? = some (l[i].mrk (k + 4 * Ex.counts (l.take i))) := by
  intro l
  induction l with
  | nil => intro k i h; simp at h
  | cons y r ih =>
    intro k i h
    rw [Ex.mrks]
    match i with
    | 0 => simp [Ex.counts]
    | i + 1 =>
      have h2 := ih (k + 4 * y.count) i (by simpa using h)
      rw [List.getElem?_cons_succ, h2, List.take_succ_cons, Ex.counts, show k + 4 * y.count + 4 * Ex.counts (List.take i r) = k + 4 * (y.count + Ex.counts (List.take i r)) by omega]
      rfl
/-- Nothing that lay is turned but the blocks F. -/
def OnlyF (F : List Nat) (w w' : World) : Prop := Below 0 w w' ∧ ∀ b, b ∉ F → b < w.heap.size → w'.heap[b]? = w.heap[b]?
theorem OnlyF.refl (F : List Nat) (w : World) : OnlyF F w w := ⟨Below.refl _ _, fun _ _ _ => rfl⟩
theorem OnlyF.trans {F G : List Nat} {A B C : World} (h : OnlyF F A B) (k : OnlyF G B C) (hG : ∀ b ∈ G, b ∈ F) : OnlyF F A C :=
  ⟨h.1.trans k.1, fun b h1 h2 => (k.2 b (fun e => h1 (hG b e)) (Nat.lt_of_lt_of_le h2 h.1.size)).trans (h.2 b h1 h2)⟩
theorem OnlyF.later {F : List Nat} {A B C : World} (h : OnlyF F A B) (k : Below B.heap.size B C) : OnlyF F A C :=
  ⟨h.1.trans (k.mono (Nat.zero_le _)), fun b h1 h2 => (k.block b (Nat.lt_of_lt_of_le h2 h.1.size)).trans (h.2 b h1 h2)⟩
theorem OnlyF.set {F : List Nat} {A B : World} {g : Nat} (h : OnlyF F A B) (hg : g ∈ F) (o : Nat) (u : Value) : OnlyF F A (B.setCell ⟨g, o, none⟩ u) :=
  ⟨h.1.setCell (p := ⟨g, o, none⟩) (Nat.zero_le _) u, fun b h1 h2 => (Below.heap_setCell B ⟨g, o, none⟩ u b (fun e => h1 (e ▸ hg))).trans (h.2 b h1 h2)⟩
theorem OnlyF.below {F : List Nat} {A B : World} {m : Nat} (h : OnlyF F A B) (hF : ∀ b ∈ F, m ≤ b) (hm : m ≤ A.heap.size) : Below m A B :=
  ⟨h.1.os, h.1.tape, h.1.output, h.1.size, fun b hb => h.2 b (fun e => by have := hF b e; omega) (by omega)⟩
theorem rowV_mark {p : El} {k n l : Int} {s : ByteArray} {ks : List Ex.T} : ∀ (le : List El) (i : Nat), le[i]? = some p → ((((rowV le).set (i * 5) (.int .i64 k)).set (i * 5 + 1) (.string s)).set (i * 5 + 2) (.int .i64 n)).set (i * 5 + 3) (.int .i64 l) = rowV (le.set i (.node k s n l ks, p.2)) := by
  intro le
  induction le with
  | nil => intro i h; simp at h
  | cons q r ih =>
    intro i h
    match i with
    | 0 =>
      obtain rfl : q = p := Option.some.inj h
      rw [show (q :: r).set 0 (.node k s n l ks, q.2) = (.node k s n l ks, q.2) :: r from rfl, rowV_cons, rowV_cons]
      rfl
    | i + 1 =>
      have h2 := ih i h
      rw [show (q :: r).set (i + 1) (.node k s n l ks, p.2) = q :: r.set i (.node k s n l ks, p.2) from rfl, rowV_cons, rowV_cons, ← h2, show (i + 1) * 5 = i * 5 + 5 by omega]
      rfl
/-- Where the writing of a list stands. -/
def MkAt (w : World) (g c : Nat) (l : List El) (ks : List Ex.T) (k0 i : Nat) (wr : World) : Prop := ∃ le : List El, le.map Prod.snd = l.map Prod.snd ∧ le.map Prod.fst = Ex.mrks (ks.take i) k0 ++ ks.drop i ∧ RowE wr g ks.length c (rowV le) ∧ Els wr le ∧ OnlyF (g :: elsF l) w wr
theorem elsF_snd {l m : List El} (h : l.map Prod.snd = m.map Prod.snd) : elsF l = elsF m := by
  have e : ∀ l : List El, elsF l = (l.map Prod.snd).flatMap Prod.snd := fun l => by simp [elsF, List.flatMap_map]
  rw [e, e, h]
theorem MkAt.start {w : World} {g c k0 : Nat} {l : List El} {ks : List Ex.T} (hl : l.map Prod.fst = ks) (hr : RowE w g ks.length c (rowV l)) (he : Els w l) : MkAt w g c l ks k0 0 w :=
  ⟨l, rfl, by rw [List.take_zero, Ex.mrks, List.drop_zero]; exact hl, hr, he, OnlyF.refl _ _⟩
/-- An element of what is not yet written. -/
theorem mk_at {le l : List El} {ks : List Ex.T} {k0 i : Nat} (h1 : le.map Prod.snd = l.map Prod.snd) (h2 : le.map Prod.fst = Ex.mrks (ks.take i) k0 ++ ks.drop i) (hi : i < ks.length) : ∃ v F, le[i]? = some (ks[i], v, F) ∧ l[i]?.map Prod.snd = some (v, F) := by
  have hlen : le.length = ks.length := by
    have h3 := congrArg List.length h2
    rw [List.length_map, List.length_append, Ex.mrks_len, List.length_take, List.length_drop] at h3
    omega
  have e1 : (le.map Prod.fst)[i]? = some ks[i] := by
    rw [h2, List.getElem?_append_right (by rw [Ex.mrks_len, List.length_take]; omega), Ex.mrks_len, List.length_take, Nat.min_eq_left (by omega), Nat.sub_self, List.drop_eq_getElem_cons hi]
    rfl
  rw [List.getElem?_map] at e1
  have e2 := congrArg (fun x => x[i]?) h1
  simp only [List.getElem?_map] at e2
  rw [List.getElem?_eq_getElem (by omega)] at e1 e2
  refine ⟨le[i].2.1, le[i].2.2, ?_, ?_⟩
  · rw [List.getElem?_eq_getElem (by omega)]
    have e3 : le[i].1 = ks[i] := Option.some.inj e1
    rw [← e3]
  · rw [← e2]; rfl
end Go.Proofs.Ytkkopnhbafjnaaa
/- What the laws write into a list of trees: the walk. No conditions. -/
namespace Go.Proofs.Ytkkopnhbafjnaaa
open Go.RowKit
set_option linter.unusedVariables false

theorem map_set_same {α β : Type} (f : α → β) (l : List α) (i : Nat) (x : α) (h : l[i]?.map f = some (f x)) : (l.set i x).map f = l.map f := by
  apply List.ext_getElem?
  intro j
  rw [List.getElem?_map, List.getElem?_map, List.getElem?_set]
  split
  · rename_i e
    subst e
    split
    · rw [h]; rfl
    · rename_i hn
      rw [List.getElem?_eq_none (by omega)]
  · rfl
theorem mk_next {w wr B1 W2 : World} {g c k0 i : Nat} {l : List El} {ks : List Ex.T} {le : List El} {v : Value} {F : List Nat} (h1 : le.map Prod.snd = l.map Prod.snd) (h2 : le.map Prod.fst = Ex.mrks (ks.take i) k0 ++ ks.drop i) (h3 : RowE wr g ks.length c (rowV le)) (h4 : Els wr le) (h5 : OnlyF (g :: elsF l) w wr) (hg : g ∉ elsF l) (hlt : ∀ b ∈ elsF l, b < w.heap.size)
    (hi : i < ks.length) (hp : le[i]? = some (ks[i], v, F)) (hb1 : Below (wr.setCell ⟨g, i * 5, none⟩ (.int .i64 ((k0 + 4 * Ex.counts (ks.take i) : Nat) : Int))).heap.size (wr.setCell ⟨g, i * 5, none⟩ (.int .i64 ((k0 + 4 * Ex.counts (ks.take i) : Nat) : Int))) B1)
    (hk : OwnK W2 v (Ex.mrks ks[i].kids (k0 + 4 * Ex.counts (ks.take i) + 4)) F)
    (ho : OnlyF F (((B1.setCell ⟨g, i * 5 + 1, none⟩ (.string (mark (k0 + 4 * Ex.counts (ks.take i) + 1)))).setCell ⟨g, i * 5 + 2, none⟩ (.int .i64 (((k0 + 4 * Ex.counts (ks.take i) : Nat) : Int) + 1 + 1))).setCell ⟨g, i * 5 + 3, none⟩ (.int .i64 (((k0 + 4 * Ex.counts (ks.take i) : Nat) : Int) + 1 + 1 + 1))) W2) :
    MkAt w g c l ks k0 (i + 1) W2 := by
  have hF : elsF le = elsF l := elsF_snd h1
  have hpm : (ks[i], v, F) ∈ le := List.mem_of_getElem? hp
  have hFm : ∀ b ∈ F, b ∈ elsF l := fun b hb => hF ▸ elsF_mem hpm hb
  have hgF : g ∉ F := fun e => hg (hFm g e)
  have hz : ∀ (A : World) (o : Nat) (u : Value), (A.setCell ⟨g, o, none⟩ u).heap.size = A.heap.size := fun A o u => by simp [World.setCell]
  have hlg := h3.lt
  have hs5 := h5.1.size
  have hsb := hb1.size
  rw [hz] at hsb
  -- the row
  have r1 := h3.set (i * 5) (.int .i64 ((k0 + 4 * Ex.counts (ks.take i) : Nat) : Int))
  have r2 := r1.keep (hb1.block g (by rw [hz]; exact hlg))
  have r3 := ((r2.set (i * 5 + 1) (.string (mark (k0 + 4 * Ex.counts (ks.take i) + 1)))).set (i * 5 + 2) (.int .i64 (((k0 + 4 * Ex.counts (ks.take i) : Nat) : Int) + 1 + 1))).set (i * 5 + 3) (.int .i64 (((k0 + 4 * Ex.counts (ks.take i) : Nat) : Int) + 1 + 1 + 1))
  have r4 := r3.keep (ho.2 g hgF (by rw [hz, hz, hz]; omega))
  rw [rowV_mark (p := (ks[i], v, F)) (ks := Ex.mrks ks[i].kids (k0 + 4 * Ex.counts (ks.take i) + 4)) le i hp] at r4
  -- other blocks
  have old : ∀ b, b ≠ g → b < wr.heap.size → b ∉ F → W2.heap[b]? = wr.heap[b]? := fun b hb1' hb2 hb3 => by
    rw [ho.2 b hb3 (by rw [hz, hz, hz]; omega), Below.heap_setCell _ _ _ _ hb1', Below.heap_setCell _ _ _ _ hb1', Below.heap_setCell _ _ _ _ hb1', hb1.block b (by rw [hz]; exact hb2), Below.heap_setCell _ _ _ _ hb1']
  have e : (Ex.T.node ((k0 + 4 * Ex.counts (ks.take i) : Nat) : Int) (mark (k0 + 4 * Ex.counts (ks.take i) + 1)) (((k0 + 4 * Ex.counts (ks.take i) : Nat) : Int) + 1 + 1) (((k0 + 4 * Ex.counts (ks.take i) : Nat) : Int) + 1 + 1 + 1) (Ex.mrks ks[i].kids (k0 + 4 * Ex.counts (ks.take i) + 4))) = ks[i].mrk (k0 + 4 * Ex.counts (ks.take i)) := (Ex.mrk_eq _ _).symm
  rw [e] at r4
  have hsnd : (le.set i (ks[i].mrk (k0 + 4 * Ex.counts (ks.take i)), v, F)).map Prod.snd = le.map Prod.snd := map_set_same _ _ _ _ (by rw [hp]; rfl)
  refine ⟨le.set i (ks[i].mrk (k0 + 4 * Ex.counts (ks.take i)), v, F), hsnd.trans h1, ?_, r4, ⟨fun p hpm2 => ?_, ?_⟩, ?_⟩
  · rw [List.map_set, h2, List.take_succ_eq_append_getElem hi, Ex.mrks_snoc, List.set_append_right _ _ (by rw [Ex.mrks_len, List.length_take]; omega), Ex.mrks_len, List.length_take, Nat.min_eq_left (by omega), Nat.sub_self, List.drop_eq_getElem_cons hi, List.append_assoc]
    rfl
  · obtain ⟨j, hj⟩ := List.mem_iff_getElem?.1 hpm2
    rw [List.getElem?_set] at hj
    split at hj
    · split at hj
      · have hj := Option.some.inj hj
        subst hj
        show OwnK W2 v (ks[i].mrk (k0 + 4 * Ex.counts (ks.take i))).kids F
        rw [Ex.mrk_eq]; exact hk
      · cases hj
    · rename_i hij
      have hpj : p ∈ le := List.mem_of_getElem? hj
      refine OwnK.keep _ (fun b hb => ?_) (h4.1 p hpj)
      have hbl : b ∈ elsF l := hF ▸ elsF_mem hpj hb
      refine old b (fun e => hg (e ▸ hbl)) (by have := hlt b hbl; omega) fun hbF => ?_
      have hpw := h4.2
      rw [List.pairwise_iff_getElem] at hpw
      obtain ⟨hi1, hi2⟩ := List.getElem?_eq_some_iff.1 hp
      obtain ⟨hj1, hj2⟩ := List.getElem?_eq_some_iff.1 hj
      rcases Nat.lt_or_ge i j with h | h
      · have h7 := hpw i j hi1 hj1 h b
        rw [hi2, hj2] at h7
        exact h7 hbF hb
      · have h7 := hpw j i hj1 hi1 (by omega) b
        rw [hi2, hj2] at h7
        exact h7 hb hbF
  · have h8 := h4.2
    rw [← List.pairwise_map (f := Prod.snd) (R := fun p q : Value × List Nat => ∀ b ∈ p.2, b ∉ q.2)] at h8 ⊢
    rw [hsnd]; exact h8
  · refine (((((h5.set List.mem_cons_self _ _).later hb1).set List.mem_cons_self _ _).set List.mem_cons_self _ _).set List.mem_cons_self _ _).trans ho fun b hb => List.mem_cons_of_mem _ (hFm b hb)
theorem mark_n (m : Nat) (w : World) (h1 : (m : Int) ≤ 100000000) :
    Calls Try.prog 61 #[.int .i64 ((m : Int) + 1)] w fun e w' => e = .returned (.string (mark (m + 1))) ∧ Below w.heap.size w w' := by
  have h := mark_text ((m : Int) + 1) w (by omega) (by omega)
  rw [show ((m : Int) + 1).toNat = m + 1 by omega] at h
  exact h
def MarkK (ks : List Ex.T) : Prop := ∀ (w : World) (v : Value) (F : List Nat) (k : Nat), OwnK w v ks F → (∀ b ∈ F, b < w.heap.size) → ((k + 4 * Ex.counts ks : Nat) : Int) ≤ 8000000 → ks.length ≤ 1048576 → Calls Try.prog 45 #[v, .int .i64 (k : Int)] w fun e w' => e = .returned (.int .i64 ((k + 4 * Ex.counts ks : Nat) : Int)) ∧ OwnK w' v (Ex.mrks ks k) F ∧ OnlyF F w w'
theorem mark_nil : MarkK [] := by
  intro w v F k ho hF hk hl
  rw [OwnK] at ho
  obtain ⟨rfl, a, c, rfl⟩ := ho
  go_enter Try.func45, Try.ntmps45
  go_wp2
  go_loopw [1, 5] (fun m i wr => m = .int .i64 k ∧ i = .int .i64 0 ∧ w = wr) (fun _ _ _ => 0)
  case atStart => exact ⟨rfl, rfl, rfl⟩
  case round =>
    obtain ⟨rfl, rfl, rfl⟩ := hrel
    go_wp2
    go_ret
    exact ⟨by simp [Ex.counts], by rw [Ex.mrks, OwnK]; exact ⟨rfl, _, _, rfl⟩, OnlyF.refl _ _⟩
theorem MkAt.done {w wr : World} {g c k0 : Nat} {l : List El} {ks : List Ex.T} (h : MkAt w g c l ks k0 ks.length wr) (hg : g ∉ elsF l) (h0 : ks ≠ []) : OwnK wr (.slice (some ⟨g, 0, none⟩) ks.length c) (Ex.mrks ks k0) (g :: elsF l) ∧ OnlyF (g :: elsF l) w wr := by
  obtain ⟨le, h1, h2, h3, h4, h5⟩ := h
  rw [List.take_length, List.drop_length, List.append_nil] at h2
  have hF : elsF le = elsF l := elsF_snd h1
  have hlen : le.length = ks.length := by
    have h6 := congrArg List.length h2
    rw [List.length_map, Ex.mrks_len] at h6; exact h6
  have hr : RowE wr g le.length c (rowV le) := by rw [hlen]; exact h3
  have hK := ownK_els hr h4 (hF ▸ hg)
  rw [hlen, h2, hF, if_neg (fun e => h0 (by have h7 := congrArg List.length e; rw [Ex.mrks_len] at h7; exact List.length_eq_zero_iff.1 h7))] at hK
  exact ⟨hK, h5⟩
end Go.Proofs.Ytkkopnhbafjnaaa
