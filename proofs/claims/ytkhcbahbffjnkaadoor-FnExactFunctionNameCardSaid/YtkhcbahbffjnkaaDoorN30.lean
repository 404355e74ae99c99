/- What the laws write into a list of trees: the walk. No conditions. -/
import Derived.Test.YtkhcbahbffjnkaaDoorN29
namespace Go.Proofs.YtkhcbahbffjnkaaDoor
open Go.RowKit
set_option linter.unusedVariables false

theorem map_set_same {α β : Type} (f : α → β) (l : List α) (i : Nat) (x : α) (h : l[i]?.map f = some (f x)) : (l.set i x).map f = l.map f := by
  apply List.ext_getElem?
  intro j
  rw [List.getElem?_map, List.getElem?_map, List.getElem?_set]
  split
  · rename_i e
    subst e
    split
    · rw [h]; rfl
    · rename_i hn
      rw [List.getElem?_eq_none (by omega)]
  · rfl
theorem mk_next {w wr B1 W2 : World} {g c k0 i : Nat} {l : List El} {ks : List Ex.T} {le : List El} {v : Value} {F : List Nat} (h1 : le.map Prod.snd = l.map Prod.snd) (h2 : le.map Prod.fst = Ex.mrks (ks.take i) k0 ++ ks.drop i) (h3 : RowE wr g ks.length c (rowV le)) (h4 : Els wr le) (h5 : OnlyF (g :: elsF l) w wr) (hg : g ∉ elsF l) (hlt : ∀ b ∈ elsF l, b < w.heap.size)
    (hi : i < ks.length) (hp : le[i]? = some (ks[i], v, F)) (hb1 : Below (wr.setCell ⟨g, i * 5, none⟩ (.int .i64 ((k0 + 4 * Ex.counts (ks.take i) : Nat) : Int))).heap.size (wr.setCell ⟨g, i * 5, none⟩ (.int .i64 ((k0 + 4 * Ex.counts (ks.take i) : Nat) : Int))) B1)
    (hk : OwnK W2 v (Ex.mrks ks[i].kids (k0 + 4 * Ex.counts (ks.take i) + 4)) F)
    (ho : OnlyF F (((B1.setCell ⟨g, i * 5 + 1, none⟩ (.string (mark (k0 + 4 * Ex.counts (ks.take i) + 1)))).setCell ⟨g, i * 5 + 2, none⟩ (.int .i64 (((k0 + 4 * Ex.counts (ks.take i) : Nat) : Int) + 1 + 1))).setCell ⟨g, i * 5 + 3, none⟩ (.int .i64 (((k0 + 4 * Ex.counts (ks.take i) : Nat) : Int) + 1 + 1 + 1))) W2) :
    MkAt w g c l ks k0 (i + 1) W2 := by
  have hF : elsF le = elsF l := elsF_snd h1
  have hpm : (ks[i], v, F) ∈ le := List.mem_of_getElem? hp
  have hFm : ∀ b ∈ F, b ∈ elsF l := fun b hb => hF ▸ elsF_mem hpm hb
  have hgF : g ∉ F := fun e => hg (hFm g e)
  have hz : ∀ (A : World) (o : Nat) (u : Value), (A.setCell ⟨g, o, none⟩ u).heap.size = A.heap.size := fun A o u => by simp [World.setCell]
  have hlg := h3.lt
  have hs5 := h5.1.size
  have hsb := hb1.size
  rw [hz] at hsb
  -- the row
  have r1 := h3.set (i * 5) (.int .i64 ((k0 + 4 * Ex.counts (ks.take i) : Nat) : Int))
  have r2 := r1.keep (hb1.block g (by rw [hz]; exact hlg))
  have r3 := ((r2.set (i * 5 + 1) (.string (mark (k0 + 4 * Ex.counts (ks.take i) + 1)))).set (i * 5 + 2) (.int .i64 (((k0 + 4 * Ex.counts (ks.take i) : Nat) : Int) + 1 + 1))).set (i * 5 + 3) (.int .i64 (((k0 + 4 * Ex.counts (ks.take i) : Nat) : Int) + 1 + 1 + 1))
  have r4 := r3.keep (ho.2 g hgF (by rw [hz, hz, hz]; omega))
  rw [rowV_mark (p := (ks[i], v, F)) (ks := Ex.mrks ks[i].kids (k0 + 4 * Ex.counts (ks.take i) + 4)) le i hp] at r4
  -- other blocks
  have old : ∀ b, b ≠ g → b < wr.heap.size → b ∉ F → W2.heap[b]? = wr.heap[b]? := fun b hb1' hb2 hb3 => by
    rw [ho.2 b hb3 (by rw [hz, hz, hz]; omega), Below.heap_setCell _ _ _ _ hb1', Below.heap_setCell _ _ _ _ hb1', Below.heap_setCell _ _ _ _ hb1', hb1.block b (by rw [hz]; exact hb2), Below.heap_setCell _ _ _ _ hb1']
  have e : (Ex.T.node ((k0 + 4 * Ex.counts (ks.take i) : Nat) : Int) (mark (k0 + 4 * Ex.counts (ks.take i) + 1)) (((k0 + 4 * Ex.counts (ks.take i) : Nat) : Int) + 1 + 1) (((k0 + 4 * Ex.counts (ks.take i) : Nat) : Int) + 1 + 1 + 1) (Ex.mrks ks[i].kids (k0 + 4 * Ex.counts (ks.take i) + 4))) = ks[i].mrk (k0 + 4 * Ex.counts (ks.take i)) := (Ex.mrk_eq _ _).symm
  rw [e] at r4
  have hsnd : (le.set i (ks[i].mrk (k0 + 4 * Ex.counts (ks.take i)), v, F)).map Prod.snd = le.map Prod.snd := map_set_same _ _ _ _ (by rw [hp]; rfl)
  refine ⟨le.set i (ks[i].mrk (k0 + 4 * Ex.counts (ks.take i)), v, F), hsnd.trans h1, ?_, r4, ⟨fun p hpm2 => ?_, ?_⟩, ?_⟩
  · rw [List.map_set, h2, List.take_succ_eq_append_getElem hi, Ex.mrks_snoc, List.set_append_right _ _ (by rw [Ex.mrks_len, List.length_take]; omega), Ex.mrks_len, List.length_take, Nat.min_eq_left (by omega), Nat.sub_self, List.drop_eq_getElem_cons hi, List.append_assoc]
    rfl
  · obtain ⟨j, hj⟩ := List.mem_iff_getElem?.1 hpm2
    rw [List.getElem?_set] at hj
    split at hj
    · split at hj
      · have hj := Option.some.inj hj
        subst hj
        show OwnK W2 v (ks[i].mrk (k0 + 4 * Ex.counts (ks.take i))).kids F
        rw [Ex.mrk_eq]; exact hk
      · cases hj
    · rename_i hij
      have hpj : p ∈ le := List.mem_of_getElem? hj
      refine OwnK.keep _ (fun b hb => ?_) (h4.1 p hpj)
      have hbl : b ∈ elsF l := hF ▸ elsF_mem hpj hb
      refine old b (fun e => hg (e ▸ hbl)) (by have := hlt b hbl; omega) fun hbF => ?_
      have hpw := h4.2
      rw [List.pairwise_iff_getElem] at hpw
      obtain ⟨hi1, hi2⟩ := List.getElem?_eq_some_iff.1 hp
      obtain ⟨hj1, hj2⟩ := List.getElem?_eq_some_iff.1 hj
      rcases Nat.lt_or_ge i j with h | h
      · have h7 := hpw i j hi1 hj1 h b
        rw [hi2, hj2] at h7
        exact h7 hbF hb
      · have h7 := hpw j i hj1 hi1 (by omega) b
        rw [hi2, hj2] at h7
        exact h7 hb hbF
  · have h8 := h4.2
    rw [← List.pairwise_map (f := Prod.snd) (R := fun p q : Value × List Nat => ∀ b ∈ p.2, b ∉ q.2)] at h8 ⊢
    rw [hsnd]; exact h8
  · refine (((((h5.set List.mem_cons_self _ _).later hb1).set List.mem_cons_self _ _).set List.mem_cons_self _ _).set List.mem_cons_self _ _).trans ho fun b hb => List.mem_cons_of_mem _ (hFm b hb)
theorem MkAt.done {w wr : World} {g c k0 : Nat} {l : List El} {ks : List Ex.T} (h : MkAt w g c l ks k0 ks.length wr) (hg : g ∉ elsF l) (h0 : ks ≠ []) : OwnK wr (.slice (some ⟨g, 0, none⟩) ks.length c) (Ex.mrks ks k0) (g :: elsF l) ∧ OnlyF (g :: elsF l) w wr := by
  obtain ⟨le, h1, h2, h3, h4, h5⟩ := h
  rw [List.take_length, List.drop_length, List.append_nil] at h2
  have hF : elsF le = elsF l := elsF_snd h1
  have hlen : le.length = ks.length := by
    have h6 := congrArg List.length h2
    rw [List.length_map, Ex.mrks_len] at h6; exact h6
  have hr : RowE wr g le.length c (rowV le) := by rw [hlen]; exact h3
  have hK := ownK_els hr h4 (hF ▸ hg)
  rw [hlen, h2, hF, if_neg (fun e => h0 (by have h7 := congrArg List.length e; rw [Ex.mrks_len] at h7; exact List.length_eq_zero_iff.1 h7))] at hK
  exact ⟨hK, h5⟩
end Go.Proofs.YtkhcbahbffjnkaaDoor
