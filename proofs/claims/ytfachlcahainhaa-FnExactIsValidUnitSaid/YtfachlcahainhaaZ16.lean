/- Joined texts: N21, G7. No conditions besides those that each states. -/
import Derived.Lib.SliceRun
import Derived.Test.YtfachlcahainhaaZ12
import Derived.Test.YtfachlcahainhaaZ15
/- slices.Clone of a list of kids. No conditions. -/
namespace Go.Proofs.Ytfachlcahainhaa
open Go.RowKit
set_option linter.unusedVariables false

/-- A list of kids whose trees' cells are known; their own lists lie elsewhere. -/
def ShalK (B : Nat) (w : World) (v : Value) (l : List El) : Prop := (l = [] ∧ ∃ a c, v = .slice a 0 c) ∨ (l ≠ [] ∧ ∃ g c, v = .slice (some ⟨g, 0, none⟩) l.length c ∧ B ≤ g ∧ RowE w g l.length c (rowV l))
theorem rowE_base {w : World} {B g n cap : Nat} {xs : List Value} (h : w.ownsRow B 47 5 (.slice (some ⟨g, 0, none⟩) n cap) n xs) : RowE w g n cap xs := by
  refine ⟨h.1, ?_⟩
  rcases h.2 with hn | ⟨g2, cap2, cur, hv, hg, r⟩
  · exact .inl hn
  · exact .inr ⟨g2, cap2, cur, hv, Nat.zero_le _, r⟩
theorem rowV_one {w : World} {l : List El} (h : ∀ p ∈ l, p.2.2 = [] ∧ Kids w p.2.1 p.1.kids) : ∀ u ∈ rowV l, u.oneCell' = true := by
  intro u hu
  obtain ⟨p, hp, hu⟩ := List.mem_flatMap.1 hu
  obtain ⟨a, c, e⟩ := kids_len (h p hp).2
  simp only [List.mem_cons, List.not_mem_nil, or_false] at hu
  rcases hu with rfl | rfl | rfl | rfl | rfl
  · rfl
  · rfl
  · rfl
  · rfl
  · rw [e]; rfl
theorem rowCells_get {w : World} {g o : Nat} {l : List El} (h : RowCells w g o l) (j : Nat) (u : Value) (hj : (rowV l)[j]? = some u) : w.cell? ((⟨g, o, none⟩ : Addr).add j) = some u := by
  have hlt : j < l.length * 5 := by
    rw [← rowV_len]
    exact (List.getElem?_eq_some_iff.1 hj).1
  have e : (⟨g, o, none⟩ : Addr).add j = ⟨g, o + j, none⟩ := by unfold Addr.add; split <;> simp_all
  rw [e, h j hlt, hj]
theorem RowCells.later {w w' : World} {g o : Nat} {l : List El} (h : RowCells w g o l) (hb : Below w.heap.size w w') : RowCells w' g o l := fun j hj => by
  have h1 := h j hj
  rw [List.getElem?_eq_getElem (by rw [rowV_len]; exact hj)] at h1 ⊢
  exact subw_below hb _ _ _ h1
theorem own_zero {w : World} {B : Nat} {v : Value} (h : w.ownsRow B 47 5 v 0 []) : ∃ a c, v = .slice a 0 c := by
  rcases h.2 with ⟨rfl, _⟩ | ⟨g, cap, cur, rfl, _⟩
  · exact ⟨_, _, rfl⟩
  · exact ⟨_, _, rfl⟩
theorem own_some {w : World} {B n : Nat} {v : Value} {xs : List Value} (hn : n ≠ 0) (h : w.ownsRow B 47 5 v n xs) : ∃ g c, v = .slice (some ⟨g, 0, none⟩) n c ∧ B ≤ g ∧ RowE w g n c xs := by
  have h2 := h
  rcases h.2 with ⟨_, hz⟩ | ⟨g, cap, cur, rfl, hg, _⟩
  · exact absurd hz hn
  · exact ⟨g, cap, rfl, hg, rowE_base h2⟩
theorem kids_some {w : World} {v : Value} {l : List El} (hk : Kids w v (l.map Prod.fst)) (hl : l ≠ []) : ∃ g o c, v = .slice (some ⟨g, o, none⟩) l.length c := by
  cases l with
  | nil => exact absurd rfl hl
  | cons p r =>
    rw [List.map_cons, Kids] at hk
    obtain ⟨g, o, c, e, _⟩ := hk
    rw [List.length_map] at e
    exact ⟨g, o, c, e⟩
set_option maxRecDepth 100000 in
set_option maxHeartbeats 800000 in
theorem clone_kids (v : Value) (l : List El) (w : World) (hk : Kids w v (l.map Prod.fst)) (hc : ∀ g o n c, v = .slice (some ⟨g, o, none⟩) n c → RowCells w g o l) (hone : ∀ u ∈ rowV l, u.oneCell' = true) (hl : l.length ≤ 1048576) :
    Calls Try.prog 61 #[v] w fun e w' => ∃ v', e = .returned v' ∧ ShalK w.heap.size w' v' l ∧ Below w.heap.size w w' := by
  obtain ⟨i0, hi, hz0, hz1, hz2⟩ := info_parts info_expr
  have hnil : ∀ W (ad : Addr) n c, (binOp .eql 45 (.slice (some ad) n c) (.slice none 0 0)).run Try.prog W = .ok (.bool false) W := fun W ad n c => Lib.run_eql_slice_nil W _ _ (some ad) n c 0 0 Try.underlying45
  have hnil0 : ∀ W c, (binOp .eql 45 (.slice none 0 c) (.slice none 0 0)).run Try.prog W = .ok (.bool true) W := fun W c => Lib.run_eql_slice_nil W _ _ none 0 c 0 0 Try.underlying45
  by_cases h0 : l = []
  · subst h0
    obtain ⟨a, c, rfl⟩ := kids_len hk
    rw [List.map_nil, List.length_nil]
    have HO := Lib.hid (World.ownsRow_made (e := 47) (size := 5) w #[] 0 (Nat.le_refl _) (by unfold maxLen; omega) rfl)
    clear hk hc hone hl
    cases a with
    | none =>
      clear hi hz0 hz1 hz2
      go_enter Try.func61, Try.ntmps61
      go_wp2
      go_ret
      exact ⟨_, rfl, .inl ⟨rfl, _, _, rfl⟩, Below.refl _ _⟩
    | some ad =>
      go_enter Try.func61, Try.ntmps61
      go_wp2_with (at_builtin; refine wpList_append_own _ rfl _ _ 45 rfl w.heap.size 47 i0 (.agg #[.int .i64 0, .string ByteArray.empty, .int .i64 0, .int .i64 0, .slice none 0 0]) 5 64 Try.underlying45 hi hz0 hz1 hz2 rfl (by decide) _ _ _ rfl HO.out ad 0 c [] rfl rfl (by simp) (by simp) (by unfold maxLen; omega) (by omega) (by simp) ?_; intro v' w1 hown1 hgr1 hnn)
      go_ret
      exact ⟨_, rfl, .inl ⟨rfl, own_zero hown1⟩, (bl1 w _).grown hgr1 (bl1 w (.cells #[] 47)).size (fun k e => by cases e; exact Nat.le_refl _)⟩
  · obtain ⟨g, o, c, rfl⟩ := kids_some hk h0
    have HC := Lib.hid (hc g o _ c rfl)
    have HO := Lib.hid (World.ownsRow_made (e := 47) (size := 5) w #[] 0 (Nat.le_refl _) (by unfold maxLen; omega) rfl)
    have HONE := Lib.hid hone
    have HCC := Lib.hid (fun j u hj => rowCells_get (HC.out.later (bl1 w (.cells #[] 47))) j u hj)
    clear hk hc hone
    go_enter Try.func61, Try.ntmps61
    go_wp2_with (at_builtin; refine wpList_append_own _ rfl _ _ 45 rfl w.heap.size 47 i0 (.agg #[.int .i64 0, .string ByteArray.empty, .int .i64 0, .int .i64 0, .slice none 0 0]) 5 64 Try.underlying45 hi hz0 hz1 hz2 rfl (by decide) _ _ _ rfl HO.out ⟨g, o, none⟩ l.length c (rowV l) rfl (by rw [rowV_len]) HCC.out HONE.out (by unfold maxLen; omega) (by omega) (by simp) ?_; intro v' w1 hown1 hgr1 hnn)
    go_ret
    obtain ⟨g2, c2, e, hg2, hrow⟩ := own_some (by rw [Nat.zero_add]; intro h; exact h0 (List.length_eq_zero_iff.1 h)) hown1
    rw [Nat.zero_add] at e hrow
    exact ⟨_, rfl, .inr ⟨h0, g2, c2, e, hg2, hrow⟩, (bl1 w _).grown hgr1 (bl1 w (.cells #[] 47)).size (fun k e => by cases e; exact Nat.le_refl _)⟩
end Go.Proofs.Ytfachlcahainhaa
/- Numbers of nodes and depths in the reference model. No conditions. -/
namespace Go.Proofs.Ytfachlcahainhaa
open Go.RowKit
set_option linter.unusedVariables false

theorem count_eq (t : Ex.T) : t.count = 1 + Ex.counts t.kids := by cases t; rw [Ex.T.count]; rfl
theorem deep_eq (t : Ex.T) : t.deep = Ex.deeps t.kids + 1 := by cases t; rw [Ex.T.deep]; rfl
theorem small_count {t : Ex.T} (h : t.bulk ≤ 1048576) : t.count ≤ 1048577 := by have := Ex.count_bulk _ t (Nat.le_refl _); omega
theorem small_deep {t : Ex.T} (h : t.bulk ≤ 1048576) : t.deep ≤ 1048577 := by have h1 := Ex.deep_count _ t (Nat.le_refl _); have := small_count h; omega
/-- Where a count stands. -/
def CntAt (ks : List Ex.T) (k m : Nat) : Prop := m = 1 + Ex.counts (ks.take k)
theorem CntAt.next {ks : List Ex.T} {k m : Nat} (h : CntAt ks k m) (hk : k < ks.length) : CntAt ks (k + 1) (m + ks[k].count) := by
  unfold CntAt at h ⊢
  rw [Ex.counts_take ks k hk]; omega
theorem CntAt.le {ks : List Ex.T} {k m : Nat} (h : CntAt ks k m) : m ≤ 1 + Ex.counts ks := by
  unfold CntAt at h
  have := Ex.counts_take_le ks k; omega
theorem CntAt.over {ks : List Ex.T} {m : Nat} (h : CntAt ks ks.length m) : m = 1 + Ex.counts ks := by
  unfold CntAt at h
  rw [List.take_length] at h; exact h
/-- Where a depth stands. -/
def DepAt (ks : List Ex.T) (k m : Nat) : Prop := m = Ex.deeps (ks.take k)
theorem DepAt.next {ks : List Ex.T} {k m : Nat} (h : DepAt ks k m) (hk : k < ks.length) : DepAt ks (k + 1) (max m ks[k].deep) := by
  unfold DepAt at h ⊢
  rw [Ex.deeps_take ks k hk, h]
theorem deeps_take_le (l : List Ex.T) (k : Nat) : Ex.deeps (l.take k) ≤ Ex.deeps l := by
  induction l generalizing k with
  | nil => simp [Ex.deeps]
  | cons y l ih =>
    cases k with
    | zero => simp [Ex.deeps]
    | succ k => rw [List.take_succ_cons, Ex.deeps, Ex.deeps]; have := ih k; omega
theorem DepAt.le {ks : List Ex.T} {k m : Nat} (h : DepAt ks k m) : m ≤ Ex.deeps ks := by
  unfold DepAt at h
  have := deeps_take_le ks k; omega
theorem DepAt.over {ks : List Ex.T} {m : Nat} (h : DepAt ks ks.length m) : m = Ex.deeps ks := by
  unfold DepAt at h
  rw [List.take_length] at h; exact h
theorem max_nat (a b : Nat) : max (a : Int) (b : Int) = ((max a b : Nat) : Int) := by omega
end Go.Proofs.Ytfachlcahainhaa
