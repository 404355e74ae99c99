/- Joined texts: W13, N30. No conditions besides those that each states. -/
import Derived.OwnWalk
import Derived.Test.YtfachlcahainhaaZ10
import Derived.Test.YtfachlcahainhaaZ21
import Derived.Test.YtfachlcahainhaaZ22
/- The laws' copy of a list of strings. No conditions. -/
namespace Go.Proofs.Ytfachlcahainhaa
open Go.RowKit
set_option linter.unusedVariables false

/-- The first k strings, and empty ones for the rest. -/
def filled (l : List ByteArray) (k : Nat) : List ByteArray := l.take k ++ List.replicate (l.length - k) ByteArray.empty
theorem filled_length (l : List ByteArray) (k : Nat) (h : k ≤ l.length) : (filled l k).length = l.length := by
  simp [filled]; omega
theorem filled_zero (l : List ByteArray) : filled l 0 = List.replicate l.length ByteArray.empty := by simp [filled]
theorem filled_all (l : List ByteArray) : filled l l.length = l := by simp [filled]
theorem filled_set (l : List ByteArray) (k : Nat) (h : k < l.length) : (filled l k).set k (l.getD k ByteArray.empty) = filled l (k + 1) := by
  unfold filled
  have e1 : (l.take k).length = k := by rw [List.length_take]; omega
  rw [List.set_append_right _ _ (by omega), e1, Nat.sub_self, show l.length - k = (l.length - (k + 1)) + 1 by omega, List.replicate_succ, List.set_cons_zero, List.take_succ_eq_append_getElem h, List.append_assoc]
  simp [List.getD, List.getElem?_eq_getElem h]

theorem owns_made {w1 : World} {base : Nat} {v : Value} {n : Nat} (h : w1.ownsRow base 9 1 v n (List.replicate n (.string ByteArray.empty))) : Owns w1 base v (List.replicate n ByteArray.empty) := by
  unfold Owns; rw [List.length_replicate, List.map_replicate]; exact h

set_option maxHeartbeats 400000 in
theorem to_strs (v : Value) (l : List ByteArray) (w : World) (hr : Reads w v l) (hl : l.length ≤ 1048576) :
    Calls Try.prog 21 #[v] w fun e w' => ∃ v', e = .returned v' ∧ Owns w' w.heap.size v' l ∧ Below w.heap.size w w' := by
  obtain ⟨i0, hi, hz0, hz1, hz2⟩ := info_parts info_string
  obtain ⟨w0, hmk0, hown0, hgr0⟩ := run_make_full (P := Try.prog) w w.heap.size 23 9 i0 (.string ByteArray.empty) 1 Try.underlying23 hi hz0 hz1 .i64 .i64 l.length (by rw [hz2]; omega) (max_small (by omega)) (Nat.le_refl _)
  have HO0 := Lib.hid (owns_made (by rw [show (madeCells (Value.string ByteArray.empty).cells (l.length * 1)).toList = List.replicate (l.length * 1) (.string ByteArray.empty) from toList_madeCells_one _ _, Nat.mul_one] at hown0; exact hown0))
  have HB0 := Lib.hid (show Below w.heap.size w w0 from (Below.refl _ _).grown hgr0 (Nat.le_refl _) (fun k hk => by cases hk))
  clear hown0 hgr0
  by_cases hl0 : l = []
  · subst hl0
    obtain ⟨a, c, rfl⟩ := reads_empty hr
    clear hr
    have hmk1 : (Instr.makeSlice 23 (.int .i64 0) (.int .i64 0)).run Try.prog w = .ok (.slice (some ⟨w.heap.size, 0, none⟩) 0 0) w0 := hmk0
    go_enter Try.func21, Try.ntmps21
    go_wp2
    go_loopw [4] (fun i wr => i = .int .i64 0 ∧ wr = w0) (fun _ _ => 0)
    case atStart => exact ⟨rfl, rfl⟩
    case round =>
      obtain ⟨rfl, rfl⟩ := hrel
      go_wp2
      go_ret
      exact ⟨_, rfl, HO0.out, HB0.out⟩
  · obtain ⟨g, off, cap, rfl, hm, hc⟩ := reads_some hr hl0
    have HC := Lib.hid hc
    clear hr hl0 hc hm
    generalize hn : l.length = n at *
    have HN := Lib.hid hn
    clear hn
    go_enter Try.func21, Try.ntmps21
    go_wp2
    clear hmk0
    go_loopw [4] (fun i wr => ∃ k : Nat, i = .int .i64 k ∧ k ≤ n ∧ Owns wr w.heap.size (.slice (some ⟨w.heap.size, 0, none⟩) n n) (filled l k) ∧ Below w.heap.size w wr) (fun i _ => n - (intOf i).toNat)
    case atStart => exact ⟨0, rfl, Nat.zero_le _, by rw [filled_zero, HN.out]; exact HO0.out, HB0.out⟩
    case round =>
      obtain ⟨k, rfl, hk, ho, hb⟩ := hrel
      have HO := Lib.hid ho
      have HB := Lib.hid hb
      have hsz := hb.size
      clear ho hb
      by_cases hlt : k < n
      · have hcell := HC.out k hlt
        have hlg := World.block_lt_of_cell? w _ hcell
        have d1 : wr.cell? ⟨g, off + k, none⟩ = some (.string (l.getD k ByteArray.empty)) := (HB.out.cell hlg).trans hcell
        have HL := Lib.hid (show n = (filled l k).length by rw [filled_length _ _ (by have := HN.out; omega)]; exact HN.out.symm)
        have d2 := (owns_cell HL.out HO.out k hlt).1
        have f2 := (owns_cell HL.out HO.out k hlt).2
        clear hcell
        generalize hx : l.getD k ByteArray.empty = x at d1
        have HX := Lib.hid hx
        clear hx
        go_wp2
        go_roundw
        case rel => exact ⟨k + 1, by go_num, by omega, by rw [← filled_set l k (by have := HN.out; omega), HX.out]; exact owns_set HL.out HO.out k x, HB.out.setCell (Nat.le_refl _) _⟩
        case measure => first | (simp [intOf]; done) | (simp [intOf]; omega)
      · obtain rfl : k = n := by omega
        go_wp2
        go_ret
        exact ⟨_, rfl, by have h := HO.out; rw [← HN.out, filled_all] at h; rw [← HN.out]; exact h, HB.out⟩

end Go.Proofs.Ytfachlcahainhaa
/- What the laws write into a list of trees: the walk. No conditions. -/
namespace Go.Proofs.Ytfachlcahainhaa
open Go.RowKit
set_option linter.unusedVariables false

theorem map_set_same {α β : Type} (f : α → β) (l : List α) (i : Nat) (x : α) (h : l[i]?.map f = some (f x)) : (l.set i x).map f = l.map f := by
  apply List.ext_getElem?
  intro j
  rw [List.getElem?_map, List.getElem?_map, List.getElem?_set]
  split
  · rename_i e
    subst e
    split
    · rw [h]; rfl
    · rename_i hn
      rw [List.getElem?_eq_none (by omega)]
  · rfl
theorem mk_next {w wr B1 W2 : World} {g c k0 i : Nat} {l : List El} {ks : List Ex.T} {le : List El} {v : Value} {F : List Nat} (h1 : le.map Prod.snd = l.map Prod.snd) (h2 : le.map Prod.fst = Ex.mrks (ks.take i) k0 ++ ks.drop i) (h3 : RowE wr g ks.length c (rowV le)) (h4 : Els wr le) (h5 : OnlyF (g :: elsF l) w wr) (hg : g ∉ elsF l) (hlt : ∀ b ∈ elsF l, b < w.heap.size)
    (hi : i < ks.length) (hp : le[i]? = some (ks[i], v, F)) (hb1 : Below (wr.setCell ⟨g, i * 5, none⟩ (.int .i64 ((k0 + 4 * Ex.counts (ks.take i) : Nat) : Int))).heap.size (wr.setCell ⟨g, i * 5, none⟩ (.int .i64 ((k0 + 4 * Ex.counts (ks.take i) : Nat) : Int))) B1)
    (hk : OwnK W2 v (Ex.mrks ks[i].kids (k0 + 4 * Ex.counts (ks.take i) + 4)) F)
    (ho : OnlyF F (((B1.setCell ⟨g, i * 5 + 1, none⟩ (.string (mark (k0 + 4 * Ex.counts (ks.take i) + 1)))).setCell ⟨g, i * 5 + 2, none⟩ (.int .i64 (((k0 + 4 * Ex.counts (ks.take i) : Nat) : Int) + 1 + 1))).setCell ⟨g, i * 5 + 3, none⟩ (.int .i64 (((k0 + 4 * Ex.counts (ks.take i) : Nat) : Int) + 1 + 1 + 1))) W2) :
    MkAt w g c l ks k0 (i + 1) W2 := by
  have hF : elsF le = elsF l := elsF_snd h1
  have hpm : (ks[i], v, F) ∈ le := List.mem_of_getElem? hp
  have hFm : ∀ b ∈ F, b ∈ elsF l := fun b hb => hF ▸ elsF_mem hpm hb
  have hgF : g ∉ F := fun e => hg (hFm g e)
  have hz : ∀ (A : World) (o : Nat) (u : Value), (A.setCell ⟨g, o, none⟩ u).heap.size = A.heap.size := fun A o u => by simp [World.setCell]
  have hlg := h3.lt
  have hs5 := h5.1.size
  have hsb := hb1.size
  rw [hz] at hsb
  -- the row
  have r1 := h3.set (i * 5) (.int .i64 ((k0 + 4 * Ex.counts (ks.take i) : Nat) : Int))
  have r2 := r1.keep (hb1.block g (by rw [hz]; exact hlg))
  have r3 := ((r2.set (i * 5 + 1) (.string (mark (k0 + 4 * Ex.counts (ks.take i) + 1)))).set (i * 5 + 2) (.int .i64 (((k0 + 4 * Ex.counts (ks.take i) : Nat) : Int) + 1 + 1))).set (i * 5 + 3) (.int .i64 (((k0 + 4 * Ex.counts (ks.take i) : Nat) : Int) + 1 + 1 + 1))
  have r4 := r3.keep (ho.2 g hgF (by rw [hz, hz, hz]; omega))
  rw [rowV_mark (p := (ks[i], v, F)) (ks := Ex.mrks ks[i].kids (k0 + 4 * Ex.counts (ks.take i) + 4)) le i hp] at r4
  -- other blocks
  have old : ∀ b, b ≠ g → b < wr.heap.size → b ∉ F → W2.heap[b]? = wr.heap[b]? := fun b hb1' hb2 hb3 => by
    rw [ho.2 b hb3 (by rw [hz, hz, hz]; omega), Below.heap_setCell _ _ _ _ hb1', Below.heap_setCell _ _ _ _ hb1', Below.heap_setCell _ _ _ _ hb1', hb1.block b (by rw [hz]; exact hb2), Below.heap_setCell _ _ _ _ hb1']
  have e : (Ex.T.node ((k0 + 4 * Ex.counts (ks.take i) : Nat) : Int) (mark (k0 + 4 * Ex.counts (ks.take i) + 1)) (((k0 + 4 * Ex.counts (ks.take i) : Nat) : Int) + 1 + 1) (((k0 + 4 * Ex.counts (ks.take i) : Nat) : Int) + 1 + 1 + 1) (Ex.mrks ks[i].kids (k0 + 4 * Ex.counts (ks.take i) + 4))) = ks[i].mrk (k0 + 4 * Ex.counts (ks.take i)) := (Ex.mrk_eq _ _).symm
  rw [e] at r4
  have hsnd : (le.set i (ks[i].mrk (k0 + 4 * Ex.counts (ks.take i)), v, F)).map Prod.snd = le.map Prod.snd := map_set_same _ _ _ _ (by rw [hp]; rfl)
  refine ⟨le.set i (ks[i].mrk (k0 + 4 * Ex.counts (ks.take i)), v, F), hsnd.trans h1, ?_, r4, ⟨fun p hpm2 => ?_, ?_⟩, ?_⟩
  · rw [List.map_set, h2, List.take_succ_eq_append_getElem hi, Ex.mrks_snoc, List.set_append_right _ _ (by rw [Ex.mrks_len, List.length_take]; omega), Ex.mrks_len, List.length_take, Nat.min_eq_left (by omega), Nat.sub_self, List.drop_eq_getElem_cons hi, List.append_assoc]
    rfl
  · obtain ⟨j, hj⟩ := List.mem_iff_getElem?.1 hpm2
    rw [List.getElem?_set] at hj
    split at hj
    · split at hj
      · have hj := Option.some.inj hj
        subst hj
        show OwnK W2 v (ks[i].mrk (k0 + 4 * Ex.counts (ks.take i))).kids F
        rw [Ex.mrk_eq]; exact hk
      · cases hj
    · rename_i hij
      have hpj : p ∈ le := List.mem_of_getElem? hj
      refine OwnK.keep _ (fun b hb => ?_) (h4.1 p hpj)
      have hbl : b ∈ elsF l := hF ▸ elsF_mem hpj hb
      refine old b (fun e => hg (e ▸ hbl)) (by have := hlt b hbl; omega) fun hbF => ?_
      have hpw := h4.2
      rw [List.pairwise_iff_getElem] at hpw
      obtain ⟨hi1, hi2⟩ := List.getElem?_eq_some_iff.1 hp
      obtain ⟨hj1, hj2⟩ := List.getElem?_eq_some_iff.1 hj
      rcases Nat.lt_or_ge i j with h | h
      · have h7 := hpw i j hi1 hj1 h b
        rw [hi2, hj2] at h7
        exact h7 hbF hb
      · have h7 := hpw j i hj1 hi1 (by omega) b
        rw [hi2, hj2] at h7
        exact h7 hb hbF
  · have h8 := h4.2
    rw [← List.pairwise_map (f := Prod.snd) (R := fun p q : Value × List Nat => ∀ b ∈ p.2, b ∉ q.2)] at h8 ⊢
    rw [hsnd]; exact h8
  · refine (((((h5.set List.mem_cons_self _ _).later hb1).set List.mem_cons_self _ _).set List.mem_cons_self _ _).set List.mem_cons_self _ _).trans ho fun b hb => List.mem_cons_of_mem _ (hFm b hb)
theorem mark_n (m : Nat) (w : World) (h1 : (m : Int) ≤ 100000000) :
    Calls Try.prog 62 #[.int .i64 ((m : Int) + 1)] w fun e w' => e = .returned (.string (mark (m + 1))) ∧ Below w.heap.size w w' := by
  have h := mark_text ((m : Int) + 1) w (by omega) (by omega)
  rw [show ((m : Int) + 1).toNat = m + 1 by omega] at h
  exact h
def MarkK (ks : List Ex.T) : Prop := ∀ (w : World) (v : Value) (F : List Nat) (k : Nat), OwnK w v ks F → (∀ b ∈ F, b < w.heap.size) → ((k + 4 * Ex.counts ks : Nat) : Int) ≤ 8000000 → ks.length ≤ 1048576 → Calls Try.prog 63 #[v, .int .i64 (k : Int)] w fun e w' => e = .returned (.int .i64 ((k + 4 * Ex.counts ks : Nat) : Int)) ∧ OwnK w' v (Ex.mrks ks k) F ∧ OnlyF F w w'
theorem mark_nil : MarkK [] := by
  intro w v F k ho hF hk hl
  rw [OwnK] at ho
  obtain ⟨rfl, a, c, rfl⟩ := ho
  go_enter Try.func63, Try.ntmps63
  go_wp2
  go_loopw [1, 5] (fun m i wr => m = .int .i64 k ∧ i = .int .i64 0 ∧ w = wr) (fun _ _ _ => 0)
  case atStart => exact ⟨rfl, rfl, rfl⟩
  case round =>
    obtain ⟨rfl, rfl, rfl⟩ := hrel
    go_wp2
    go_ret
    exact ⟨by simp [Ex.counts], by rw [Ex.mrks, OwnK]; exact ⟨rfl, _, _, rfl⟩, OnlyF.refl _ _⟩
theorem MkAt.done {w wr : World} {g c k0 : Nat} {l : List El} {ks : List Ex.T} (h : MkAt w g c l ks k0 ks.length wr) (hg : g ∉ elsF l) (h0 : ks ≠ []) : OwnK wr (.slice (some ⟨g, 0, none⟩) ks.length c) (Ex.mrks ks k0) (g :: elsF l) ∧ OnlyF (g :: elsF l) w wr := by
  obtain ⟨le, h1, h2, h3, h4, h5⟩ := h
  rw [List.take_length, List.drop_length, List.append_nil] at h2
  have hF : elsF le = elsF l := elsF_snd h1
  have hlen : le.length = ks.length := by
    have h6 := congrArg List.length h2
    rw [List.length_map, Ex.mrks_len] at h6; exact h6
  have hr : RowE wr g le.length c (rowV le) := by rw [hlen]; exact h3
  have hK := ownK_els hr h4 (hF ▸ hg)
  rw [hlen, h2, hF, if_neg (fun e => h0 (by have h7 := congrArg List.length e; rw [Ex.mrks_len] at h7; exact List.length_eq_zero_iff.1 h7))] at hK
  exact ⟨hK, h5⟩
end Go.Proofs.Ytfachlcahainhaa
