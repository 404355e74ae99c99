/- Joined texts: N28, G7. No conditions besides those that each states. -/
import Derived.Test.YtkkopnhbafjnaaaZ11
import Derived.Test.YtkkopnhbafjnaaaZ14
/- EraseLines of the reference model. No conditions. -/
namespace Go.Proofs.Ytkkopnhbafjnaaa
open Go.RowKit
set_option linter.unusedVariables false

def SerT (t : Ex.T) : Prop := t.bulk ≤ 1048576 → ∀ (w : World) (v : Value), Kids w v t.kids → Calls Try.prog 29 #[exV t v] w (RetE w t.erase)
theorem step_erase {t : Ex.T} {u : Value} {w : World} {ops : Array Oper} {o : Oper} {a : Act} {K : Act → World → Prop} {Q : Exit → Act → World → Prop} {E : Prop} (hgd : o.guard = none) (x : Operand)
    (ho : o.op = .call { callee := .value (.func 29), args := #[x], argTypes := #[26] }) (hx : a.eval x = u) (hc : Calls Try.prog 29 #[u] w (RetE w t))
    (h : ∀ v F w', OwnK w' v t.kids F → Foot w.heap.size w' F → Below w.heap.size w w' → K (a.put o.dst (exV t v)) w') : if Region.wanted o (yielded ops a.tmps) = true then Oper.wp Try.prog o a w K Q else E := by
  have hw : Region.wanted o (yielded ops a.tmps) = true := by simp [Region.wanted, hgd]
  rw [if_pos hw]
  have hen : (execOp a.eval o).run Try.prog w = .ok (.enter 29 #[u]) w := by
    unfold execOp
    rw [ho]
    unfold Act.eval at hx
    go_simp
    simpa using hx
  unfold Oper.wp
  rw [hen, Oper.upon_enter]
  exact hc.mono fun e w' ⟨v, F, h1, h2, h3, h4⟩ => by subst h1; exact h v F w' h2 h3 h4
theorem CellsE.keep {w w' : World} {b : Nat} {t : Ex.T} {v : Value} (h : CellsE w b t v) (hh : w'.heap[b]? = w.heap[b]?) : CellsE w' b t v := by
  obtain ⟨a0, a1, a2, a3, a4⟩ := h
  exact ⟨(cell_keep hh 0).trans a0, (cell_keep hh 1).trans a1, (cell_keep hh 2).trans a2, (cell_keep hh 3).trans a3, (cell_keep hh 4).trans a4⟩
abbrev iexN (t : Ex.T) (v : Value) : Obj := .cells #[.int .i64 t.kind, .string t.text, .int .i64 t.num, .int .i64 t.line, v] 26
theorem ser_next {w wr w6 w8 : World} {t x : Ex.T} {A v v6 : Value} {ld : List El} {g8 c8 : Nat} {F6 : List Nat} {pre : List Ex.T}
    (ha : CellsE wr w.heap.size t A) (hg : FreeE wr (w.heap.size + 1) 0 ⟨#[]⟩ 0 0 (.slice none 0 0)) (hf8 : FreeE w8 (w.heap.size + 1 + 1) t.kind t.text t.num 0 v) (hap : AppK (w.heap.size + 3) wr v ld) (hld : ld.map Prod.fst = pre) (hb : Below w.heap.size w wr) (hlt : w.heap.size + 3 ≤ wr.heap.size)
    (o6 : OwnK w6 v6 x.kids F6) (f6 : Foot wr.drew.heap.size w6 F6) (b6 : Below wr.heap.size wr w6)
    (hown : w8.ownsRow (w.heap.size + 3) 26 5 (.slice (some ⟨g8, 0, none⟩) (ld.length + 1) c8) (ld.length + 1) (rowV ld ++ rowV [(x, v6, F6)])) (hgr : (w6.alloc (iexN x v6)).grownBy w8 v.ownBlock) (hor : v.ownBlock = some g8 ∨ (w6.alloc (iexN x v6)).heap.size ≤ g8) :
    CellsE (w8.setCell ⟨w.heap.size + 1 + 1, 4, none⟩ (.slice (some ⟨g8, 0, none⟩) (ld.length + 1) c8)) w.heap.size t A ∧ FreeE (w8.setCell ⟨w.heap.size + 1 + 1, 4, none⟩ (.slice (some ⟨g8, 0, none⟩) (ld.length + 1) c8)) (w.heap.size + 1) 0 ⟨#[]⟩ 0 0 (.slice none 0 0) ∧
    FreeE (w8.setCell ⟨w.heap.size + 1 + 1, 4, none⟩ (.slice (some ⟨g8, 0, none⟩) (ld.length + 1) c8)) (w.heap.size + 1 + 1) t.kind t.text t.num 0 (.slice (some ⟨g8, 0, none⟩) (ld.length + 1) c8) ∧ AppK (w.heap.size + 3) (w8.setCell ⟨w.heap.size + 1 + 1, 4, none⟩ (.slice (some ⟨g8, 0, none⟩) (ld.length + 1) c8)) (.slice (some ⟨g8, 0, none⟩) (ld.length + 1) c8) (ld ++ [(x, v6, F6)]) ∧
    (ld ++ [(x, v6, F6)]).map Prod.fst = pre ++ [x] ∧ Below w.heap.size w (w8.setCell ⟨w.heap.size + 1 + 1, 4, none⟩ (.slice (some ⟨g8, 0, none⟩) (ld.length + 1) c8)) := by
  have b7 : Below wr.heap.size wr (w6.alloc (iexN x v6)) := b6.alloc b6.size _
  have hsz : (w6.alloc (iexN x v6)).heap.size = w6.heap.size + 1 := by simp
  have hs6 := b6.size
  have hs8 := hgr.size
  have hap7 := hap.later b7
  have old : ∀ b, b < w.heap.size + 3 → w8.heap[b]? = wr.heap[b]? := fun b hb2 => by
    rw [hgr.block b (by omega) (fun e => by have h1 := (ownBlock_lt hap.1 e.symm).1; omega), b7.block b (by omega)]
  have hset : ∀ b, b ≠ w.heap.size + 1 + 1 → ∀ u : Value, (w8.setCell ⟨w.heap.size + 1 + 1, 4, none⟩ u).heap[b]? = w8.heap[b]? := fun b hb2 u => Below.heap_setCell w8 _ u b hb2
  refine ⟨ha.keep ((hset _ (by omega) _).trans (old _ (by omega))), hg.keep ((hset _ (by omega) _).trans (old _ (by omega))), hf8.fifth _, ?_, by rw [List.map_append, hld]; rfl, ?_⟩
  · refine AppK.set (AppK.push (p := (x, v6, F6)) hap7 (OwnK.keep _ (fun b hb2 => ?_) o6) (fun b hb2 => ?_) hown hgr rfl hor) (by omega) _ _
    · have := f6 b hb2
      exact (bl1 w6 _).block b this.2
    · have h1 := f6 b hb2
      have h2 : wr.drew.heap.size = wr.heap.size := rfl
      rw [h2] at h1
      refine ⟨by omega, by omega, fun h3 => ?_, fun e => ?_⟩
      · have := hap.2.2.1 b h3; omega
      · have := (ownBlock_lt hap.1 e).2; omega
  · have h9 : Below w.heap.size w w8 := (hb.trans (b7.mono hb.size)).grown hgr (by have := hb.size; omega) (fun k e => by have := (ownBlock_lt hap.1 e).1; omega)
    exact h9.setCell (p := ⟨w.heap.size + 1 + 1, 4, none⟩) (by show _ ≤ _ + 1 + 1; omega) _
set_option maxRecDepth 100000 in
set_option maxHeartbeats 3200000 in
theorem spec_erase : ∀ (N : Nat) (t : Ex.T), t.count ≤ N → SerT t := by
  intro N
  induction N with
  | zero => intro t h; have := Ex.count_pos t; omega
  | succ N ih =>
    intro t hN hb w v hk
    have hbe := bulk_eq t
    obtain ⟨a, c, rfl⟩ := kids_len hk
    have HI := Lib.hid (fun (x : Ex.T) (hx : x ∈ t.kids) => ih x (by have := kids_count hx; omega) (by have := Ex.bulks_mem hx; omega))
    have HK := Lib.hid hk
    have hln : t.kids.length ≤ 1048576 := by omega
    clear ih hN hb hk hbe
    go_enter Try.func29, Try.ntmps29
    go_wp2
    have HA0 := Lib.hid (((CellsE.new w t (.slice a t.kids.length c) 26).later (bl1 _ (.cells #[.int .i64 0, .string ⟨#[]⟩, .int .i64 0, .int .i64 0, .slice none 0 0] 26))).later (bl1 _ (.cells #[.int .i64 t.kind, .string t.text, .int .i64 t.num, .int .i64 0, .slice none 0 0] 26)))
    have hG0 := (FreeE.new (w.alloc (.cells #[.int .i64 t.kind, .string t.text, .int .i64 t.num, .int .i64 t.line, .slice a t.kids.length c] 26)) 0 ⟨#[]⟩ 0 0 (.slice none 0 0) 26).later (bl1 _ (.cells #[.int .i64 t.kind, .string t.text, .int .i64 t.num, .int .i64 0, .slice none 0 0] 26))
    have hF0 := FreeE.new ((w.alloc (.cells #[.int .i64 t.kind, .string t.text, .int .i64 t.num, .int .i64 t.line, .slice a t.kids.length c] 26)).alloc (.cells #[.int .i64 0, .string ⟨#[]⟩, .int .i64 0, .int .i64 0, .slice none 0 0] 26)) t.kind t.text t.num 0 (.slice none 0 0) 26
    simp only [World.size_alloc] at hG0 hF0
    have HG0 := Lib.hid hG0
    have HF0 := Lib.hid hF0
    have HB0 := Lib.hid ((bl2 w (.cells #[.int .i64 t.kind, .string t.text, .int .i64 t.num, .int .i64 t.line, .slice a t.kids.length c] 26) (.cells #[.int .i64 0, .string ⟨#[]⟩, .int .i64 0, .int .i64 0, .slice none 0 0] 26)).trans ((bl1 _ (.cells #[.int .i64 t.kind, .string t.text, .int .i64 t.num, .int .i64 0, .slice none 0 0] 26)).mono (by simp; omega)))
    clear hG0 hF0
    go_loopw [4] (fun i wr => ∃ (k : Nat) (v : Value) (ld : List El), i = .int .i64 k ∧ k ≤ t.kids.length ∧ CellsE wr w.heap.size t (.slice a t.kids.length c) ∧ FreeE wr (w.heap.size + 1) 0 ⟨#[]⟩ 0 0 (.slice none 0 0) ∧ FreeE wr (w.heap.size + 1 + 1) t.kind t.text t.num 0 v ∧ AppK (w.heap.size + 3) wr v ld ∧ ld.map Prod.fst = (t.kids.take k).map Ex.T.erase ∧ Below w.heap.size w wr) (fun i _ => t.kids.length - (intOf i).toNat)
    case atStart => exact ⟨0, _, [], rfl, Nat.zero_le _, HA0.out, HG0.out, HF0.out, AppK.nil _ _, by simp, HB0.out⟩
    case round =>
      clear HA0 HG0 HF0 HB0
      obtain ⟨k, v, ld, rfl, hk, ha, hg, hf, hap, hld, hb⟩ := hrel
      obtain ⟨av, nv, cv, rfl⟩ := hap.slice
      have HA := Lib.hid ha
      have HG := Lib.hid hg
      have HF := Lib.hid hf
      have HAP := Lib.hid hap
      have HLD := Lib.hid hld
      have HB := Lib.hid hb
      have HK2 := Lib.hid (HK.out.later hb)
      have HLT := Lib.hid (show w.heap.size + 3 ≤ wr.heap.size by have h1 := hf.lt; omega)
      have HLEN := Lib.hid (show ld.length = k by have h1 := congrArg List.length hld; rw [List.length_map, List.length_map, List.length_take] at h1; omega)
      obtain ⟨_, _, _, _, p4⟩ := ha
      obtain ⟨⟨_, _, _, _, r4⟩, _, _, _, _, s4⟩ := hf
      clear hg hap hld hb
      by_cases hlt : k < t.kids.length
      · obtain ⟨g, o, rfl, ht⟩ := kids_at HK2.out k hlt
        obtain ⟨⟨q0, q1, q2, q3⟩, v3, q4, hkv⟩ := tree_cells ht
        have HC := Lib.hid (HI.out t.kids[k] (List.getElem_mem hlt) wr.drew v3 (hkv.later (Below.refl _ _).drew))
        have HTK : Hid ((t.kids.take (k + 1)).map Ex.T.erase = (t.kids.take k).map Ex.T.erase ++ [t.kids[k].erase]) := Lib.hid (by rw [List.take_succ_eq_append_getElem hlt, List.map_append]; rfl)
        have k0 : (0 : Int) ≤ k := by omega
        have k1 : (k : Int) < t.kids.length := by omega
        clear ht hkv
        generalize t.kids[k] = x at q0 q1 q2 q3 HC HTK
        go_wp2_with fail
        go_region_law (first
          | (refine step_erase rfl (.tmp 25) rfl (by simp [Act.eval]) HC.out ?_; intro v6 F6 w6 o6 g6 b6; obtain ⟨z6, d6, rfl⟩ := kids_len (OwnK.kids _ o6); have bb6 : Below wr.heap.size wr w6 := ⟨b6.os, b6.tape, b6.output, b6.size, b6.block⟩; have HAP6 := Lib.hid (HAP.out.later bb6); have HF6 := Lib.hid (HF.out.later bb6); have O6 := Lib.hid o6; have G6 := Lib.hid g6; have BB6 := Lib.hid bb6; have r46 := (HF6.out).1.2.2.2.2; have r47 := (HF6.out.later (bl1 w6 (.cells #[.int .i64 x.erase.kind, .string x.erase.text, .int .i64 x.erase.num, .int .i64 x.erase.line, .slice z6 x.erase.kids.length d6] 26))).1.2.2.2.2; clear o6 g6 b6 bb6)
          | (refine step_append_kid (B := w.heap.size + 3) rfl (.tmp 20) (.tmp 27) rfl (by simp [Act.eval]) (HAP6.out.later (bl1 w6 (.cells #[.int .i64 x.erase.kind, .string x.erase.text, .int .i64 x.erase.num, .int .i64 x.erase.line, .slice z6 x.erase.kids.length d6] 26))).1 ⟨w6.heap.size, 0, none⟩ 1 (rowV [(x.erase, .slice z6 x.erase.kids.length d6, F6)]) (by simp [Act.eval]) rfl (fun j u hj => rowCells_get (new_row w6 x.erase (.slice z6 x.erase.kids.length d6) F6) j u hj) row_one (by have := HLEN.out; omega) (by have := HLT.out; have h2 := BB6.out.size; simp; omega) ?_; intro w8 g8 c8 hown8 hgr8 hg8 hor8; have hap7 := HAP6.out.later (bl1 w6 (.cells #[.int .i64 x.erase.kind, .string x.erase.text, .int .i64 x.erase.num, .int .i64 x.erase.line, .slice z6 x.erase.kids.length d6] 26)); have hf7 := HF6.out.later (bl1 w6 (.cells #[.int .i64 x.erase.kind, .string x.erase.text, .int .i64 x.erase.num, .int .i64 x.erase.line, .slice z6 x.erase.kids.length d6] 26)); have hf8 := hf7.keep (hgr8.block _ hf7.lt (fun e => by have h1 := (ownBlock_lt hap7.1 e.symm).1; omega)); have HF8 := Lib.hid hf8; obtain ⟨⟨_, _, _, _, r48⟩, _, _, _, _, s48⟩ := hf8; have HO8 := Lib.hid hown8; have HGR8 := Lib.hid hgr8; have HG8 := Lib.hid hg8; have HOR8 := Lib.hid hor8; clear hap7 hf7 hown8 hgr8 hg8 hor8))
        all_goals
          have HN := Lib.hid (ser_next HA.out HG.out HF8.out HAP.out HLD.out HB.out HLT.out O6.out G6.out BB6.out HO8.out HGR8.out HOR8.out)
          clear HF8 HO8 HGR8 HG8 HOR8 r48 s48 O6 G6 BB6 HAP6 HF6 r46 r47 q0 q1 q2 q3 q4 p4 r4 s4
          go_wp2
          go_roundw
          case rel => exact ⟨k + 1, _, _, by go_num, by omega, HN.out.1, HN.out.2.1, HN.out.2.2.1, HN.out.2.2.2.1, by rw [HN.out.2.2.2.2.1, HTK.out], HN.out.2.2.2.2.2⟩
          case measure => first | (simp [intOf]; done) | (simp [intOf]; omega)
      · obtain rfl : k = t.kids.length := by omega
        obtain ⟨F, hK, hF⟩ := HAP.out.done
        have HKD := Lib.hid hK
        have HFD := Lib.hid hF
        have HLE : Hid (ld.map Prod.fst = t.erase.kids) := Lib.hid (by rw [HLD.out, List.take_length, Ex.erase_kids, Ex.erases_map])
        obtain ⟨⟨f0, f1, f2, f3, f4⟩, _, _, _, _, _⟩ := HF.out
        obtain ⟨⟨g0, g1, g2, g3, g4⟩, j0, j1, j2, j3, j4⟩ := HG.out
        have hlw := HLT.out
        clear hK hF
        go_wp2
        refine bodyPost_ret (v := .agg #[.int .i64 t.kind, .string t.text, .int .i64 t.num, .int .i64 0, .slice av nv cv]) (by simp [results, Try.results29, go_sem, g0, g1, g2, g3, g4]) rfl ⟨.slice av nv cv, F, by dsimp only [exV]; rw [Ex.erase_kind, Ex.erase_text, Ex.erase_num, Ex.erase_line], ?_, fun b hb => ?_, ?_⟩
        · rw [← HLE.out]
          refine OwnK.keep _ (fun b hb => ?_) HKD.out
          have h1 := (HFD.out b hb).1
          rw [Below.heap_setCell _ _ _ _ (show b ≠ w.heap.size + 1 by omega), Below.heap_setCell _ _ _ _ (show b ≠ w.heap.size + 1 by omega), Below.heap_setCell _ _ _ _ (show b ≠ w.heap.size + 1 by omega), Below.heap_setCell _ _ _ _ (show b ≠ w.heap.size + 1 by omega), Below.heap_setCell _ _ _ _ (show b ≠ w.heap.size + 1 by omega)]
        · have h1 := HFD.out b hb
          refine ⟨by omega, ?_⟩
          simpa [World.setCell] using h1.2
        · exact ((((HB.out.setCell (p := ⟨w.heap.size + 1, 0, none⟩) (Nat.le_succ _) _).setCell (p := ⟨w.heap.size + 1, 1, none⟩) (Nat.le_succ _) _).setCell (p := ⟨w.heap.size + 1, 2, none⟩) (Nat.le_succ _) _).setCell (p := ⟨w.heap.size + 1, 3, none⟩) (Nat.le_succ _) _).setCell (p := ⟨w.heap.size + 1, 4, none⟩) (Nat.le_succ _) _
end Go.Proofs.Ytkkopnhbafjnaaa
/- Numbers of nodes and depths in the reference model. No conditions. -/
namespace Go.Proofs.Ytkkopnhbafjnaaa
open Go.RowKit
set_option linter.unusedVariables false

theorem spec_max (a b : Int) (w : World) : Calls Try.prog 44 #[.int .i64 a, .int .i64 b] w fun e w' => e = .returned (.int .i64 (max a b)) ∧ w = w' := by
  by_cases h : b < a
  · have e : max a b = a := by omega
    rw [e]
    clear e
    go_enter Try.func44, Try.ntmps44
    go_wp2
    go_ret
    exact ⟨rfl, rfl⟩
  · have e : max a b = b := by omega
    rw [e]
    clear e
    go_enter Try.func44, Try.ntmps44
    go_wp2
    go_ret
    exact ⟨rfl, rfl⟩
def CntT (t : Ex.T) : Prop := t.bulk ≤ 1048576 → ∀ (w : World) (v : Value), Kids w v t.kids → Calls Try.prog 24 #[exV t v] w fun e w' => e = .returned (.int .i64 (t.count : Int)) ∧ Below w.heap.size w w'
theorem count_eq (t : Ex.T) : t.count = 1 + Ex.counts t.kids := by cases t; rw [Ex.T.count]; rfl
theorem deep_eq (t : Ex.T) : t.deep = Ex.deeps t.kids + 1 := by cases t; rw [Ex.T.deep]; rfl
theorem small_count {t : Ex.T} (h : t.bulk ≤ 1048576) : t.count ≤ 1048577 := by have := Ex.count_bulk _ t (Nat.le_refl _); omega
theorem small_deep {t : Ex.T} (h : t.bulk ≤ 1048576) : t.deep ≤ 1048577 := by have h1 := Ex.deep_count _ t (Nat.le_refl _); have := small_count h; omega
/-- Where a count stands. -/
def CntAt (ks : List Ex.T) (k m : Nat) : Prop := m = 1 + Ex.counts (ks.take k)
theorem CntAt.next {ks : List Ex.T} {k m : Nat} (h : CntAt ks k m) (hk : k < ks.length) : CntAt ks (k + 1) (m + ks[k].count) := by
  unfold CntAt at h ⊢
  rw [Ex.counts_take ks k hk]; omega
theorem CntAt.le {ks : List Ex.T} {k m : Nat} (h : CntAt ks k m) : m ≤ 1 + Ex.counts ks := by
  unfold CntAt at h
  have := Ex.counts_take_le ks k; omega
theorem CntAt.over {ks : List Ex.T} {m : Nat} (h : CntAt ks ks.length m) : m = 1 + Ex.counts ks := by
  unfold CntAt at h
  rw [List.take_length] at h; exact h
set_option maxHeartbeats 1600000 in
theorem spec_count : ∀ (N : Nat) (t : Ex.T), t.count ≤ N → CntT t := by
  intro N
  induction N with
  | zero => intro t h; have := Ex.count_pos t; omega
  | succ N ih =>
    intro t hN hb w v hk
    have hbe := bulk_eq t
    have hce := count_eq t
    have hcs := small_count hb
    obtain ⟨a, c, rfl⟩ := kids_len hk
    have HI := Lib.hid (fun (x : Ex.T) (hx : x ∈ t.kids) => ih x (by have := kids_count hx; omega) (by have := Ex.bulks_mem hx; omega))
    have HK := Lib.hid hk
    have HCE := Lib.hid hce
    have hln : t.kids.length ≤ 1048576 := by omega
    have hct : 1 + Ex.counts t.kids ≤ 1048577 := by omega
    have HE0 := Lib.hid (CellsE.new w t (.slice a t.kids.length c) 26)
    clear ih hN hb hk hbe hcs hce
    go_enter Try.func24, Try.ntmps24
    go_wp2
    go_loopw [3, 4] (fun m i wr => ∃ k n : Nat, i = .int .i64 k ∧ m = .int .i64 n ∧ k ≤ t.kids.length ∧ CntAt t.kids k n ∧ CellsE wr w.heap.size t (.slice a t.kids.length c) ∧ Below w.heap.size w wr) (fun _ i _ => t.kids.length - (intOf i).toNat)
    case atStart => exact ⟨0, 1, rfl, rfl, by omega, by unfold CntAt; simp [Ex.counts], HE0.out, bl1 _ _⟩
    case round =>
      clear HE0
      obtain ⟨k, n, rfl, rfl, hkk, hat, hce, hb⟩ := hrel
      have HAT := Lib.hid hat
      have HB := Lib.hid hb
      have HE := Lib.hid hce
      have HK2 := Lib.hid (HK.out.later hb)
      have hnl := hat.le
      obtain ⟨e0, e1, e2, e3, e4⟩ := hce
      clear hat hb e0 e1 e2 e3
      by_cases hlt : k < t.kids.length
      · obtain ⟨g, o, rfl, ht⟩ := kids_at HK2.out k hlt
        obtain ⟨⟨q0, q1, q2, q3⟩, v, q4, hkv⟩ := tree_cells ht
        have HC := Lib.hid (HI.out t.kids[k] (List.getElem_mem hlt) wr v hkv)
        have HN := Lib.hid (HAT.out.next hlt)
        have hnl2 := HN.out.le
        have k0 : (0 : Int) ≤ k := by omega
        have k1 : (k : Int) < t.kids.length := by omega
        clear ht hkv HAT
        generalize t.kids[k] = x at q0 q1 q2 q3 HC HN hnl2
        go_wp2_with (go_at_call 24; refine HC.out.mono ?_; rintro e w1 ⟨rfl, hb1⟩; have HB1 := Lib.hid (below_then HB.out hb1); have HE1 := Lib.hid (HE.out.later hb1); clear hb1)
        go_roundw
        case rel => exact ⟨k + 1, n + x.count, by go_num, by go_num, by omega, HN.out, HE1.out, HB1.out⟩
        case measure => first | (simp [intOf]; done) | (simp [intOf]; omega)
      · obtain rfl : k = t.kids.length := by omega
        have HN := Lib.hid HAT.out.over
        go_wp2
        go_ret
        exact ⟨ret_ei (by rw [HCE.out, ← HN.out]), HB.out⟩
def DepT (t : Ex.T) : Prop := t.bulk ≤ 1048576 → ∀ (w : World) (v : Value), Kids w v t.kids → Calls Try.prog 27 #[exV t v] w fun e w' => e = .returned (.int .i64 (t.deep : Int)) ∧ Below w.heap.size w w'
/-- Where a depth stands. -/
def DepAt (ks : List Ex.T) (k m : Nat) : Prop := m = Ex.deeps (ks.take k)
theorem DepAt.next {ks : List Ex.T} {k m : Nat} (h : DepAt ks k m) (hk : k < ks.length) : DepAt ks (k + 1) (max m ks[k].deep) := by
  unfold DepAt at h ⊢
  rw [Ex.deeps_take ks k hk, h]
theorem deeps_take_le (l : List Ex.T) (k : Nat) : Ex.deeps (l.take k) ≤ Ex.deeps l := by
  induction l generalizing k with
  | nil => simp [Ex.deeps]
  | cons y l ih =>
    cases k with
    | zero => simp [Ex.deeps]
    | succ k => rw [List.take_succ_cons, Ex.deeps, Ex.deeps]; have := ih k; omega
theorem DepAt.le {ks : List Ex.T} {k m : Nat} (h : DepAt ks k m) : m ≤ Ex.deeps ks := by
  unfold DepAt at h
  have := deeps_take_le ks k; omega
theorem DepAt.over {ks : List Ex.T} {m : Nat} (h : DepAt ks ks.length m) : m = Ex.deeps ks := by
  unfold DepAt at h
  rw [List.take_length] at h; exact h
theorem max_nat (a b : Nat) : max (a : Int) (b : Int) = ((max a b : Nat) : Int) := by omega
set_option maxHeartbeats 1600000 in
theorem spec_depth : ∀ (N : Nat) (t : Ex.T), t.count ≤ N → DepT t := by
  intro N
  induction N with
  | zero => intro t h; have := Ex.count_pos t; omega
  | succ N ih =>
    intro t hN hb w v hk
    have hbe := bulk_eq t
    have hde := deep_eq t
    have hds := small_deep hb
    obtain ⟨a, c, rfl⟩ := kids_len hk
    have HI := Lib.hid (fun (x : Ex.T) (hx : x ∈ t.kids) => ih x (by have := kids_count hx; omega) (by have := Ex.bulks_mem hx; omega))
    have HK := Lib.hid hk
    have HDE := Lib.hid hde
    have hln : t.kids.length ≤ 1048576 := by omega
    have hct : Ex.deeps t.kids ≤ 1048577 := by omega
    have HE0 := Lib.hid (CellsE.new w t (.slice a t.kids.length c) 26)
    clear ih hN hb hk hbe hds hde
    go_enter Try.func27, Try.ntmps27
    go_wp2
    go_loopw [3, 4] (fun m i wr => ∃ k n : Nat, i = .int .i64 k ∧ m = .int .i64 n ∧ k ≤ t.kids.length ∧ DepAt t.kids k n ∧ CellsE wr w.heap.size t (.slice a t.kids.length c) ∧ Below w.heap.size w wr) (fun _ i _ => t.kids.length - (intOf i).toNat)
    case atStart => exact ⟨0, 0, rfl, rfl, by omega, by unfold DepAt; simp [Ex.deeps], HE0.out, bl1 _ _⟩
    case round =>
      clear HE0
      obtain ⟨k, n, rfl, rfl, hkk, hat, hce, hb⟩ := hrel
      have HAT := Lib.hid hat
      have HB := Lib.hid hb
      have HE := Lib.hid hce
      have HK2 := Lib.hid (HK.out.later hb)
      have hnl := hat.le
      obtain ⟨e0, e1, e2, e3, e4⟩ := hce
      clear hat hb e0 e1 e2 e3
      by_cases hlt : k < t.kids.length
      · obtain ⟨g, o, rfl, ht⟩ := kids_at HK2.out k hlt
        obtain ⟨⟨q0, q1, q2, q3⟩, v, q4, hkv⟩ := tree_cells ht
        have HC := Lib.hid (HI.out t.kids[k] (List.getElem_mem hlt) wr v hkv)
        have HN := Lib.hid (HAT.out.next hlt)
        have HM := Lib.hid (fun W => spec_max (n : Int) (t.kids[k].deep : Int) W)
        rw [max_nat] at HM
        have k0 : (0 : Int) ≤ k := by omega
        have k1 : (k : Int) < t.kids.length := by omega
        clear ht hkv HAT
        generalize t.kids[k] = x at q0 q1 q2 q3 HC HN HM
        generalize max n x.deep = z at HN HM
        generalize x.deep = y at HC HM
        go_wp2_with (first | (go_at_call 27; refine HC.out.mono ?_; rintro e w1 ⟨rfl, hb1⟩; have HB1 := Lib.hid (below_then HB.out hb1); have HE1 := Lib.hid (HE.out.later hb1); clear hb1) | (go_at_call 44; refine (HM.out _).mono ?_; rintro e w2 ⟨rfl, rfl⟩))
        go_roundw
        case rel => exact ⟨k + 1, z, by go_num, rfl, by omega, HN.out, HE1.out, HB1.out⟩
        case measure => first | (simp [intOf]; done) | (simp [intOf]; omega)
      · obtain rfl : k = t.kids.length := by omega
        have HN := Lib.hid HAT.out.over
        go_wp2
        go_ret
        exact ⟨ret_ei (by rw [HDE.out, ← HN.out]; rfl), HB.out⟩
end Go.Proofs.Ytkkopnhbafjnaaa
