/- slices.Clone of a list of kids. No conditions. -/
import Derived.Test.YtkhcbahbffjnkaaDoorN20
import Derived.Lib.SliceRun
namespace Go.Proofs.YtkhcbahbffjnkaaDoor
open Go.RowKit
set_option linter.unusedVariables false

/-- A list of kids whose trees' cells are known; their own lists lie elsewhere. -/
def ShalK (B : Nat) (w : World) (v : Value) (l : List El) : Prop := (l = [] ∧ ∃ a c, v = .slice a 0 c) ∨ (l ≠ [] ∧ ∃ g c, v = .slice (some ⟨g, 0, none⟩) l.length c ∧ B ≤ g ∧ RowE w g l.length c (rowV l))
theorem rowE_base {w : World} {B g n cap : Nat} {xs : List Value} (h : w.ownsRow B 62 5 (.slice (some ⟨g, 0, none⟩) n cap) n xs) : RowE w g n cap xs := by
  refine ⟨h.1, ?_⟩
  rcases h.2 with hn | ⟨g2, cap2, cur, hv, hg, r⟩
  · exact .inl hn
  · exact .inr ⟨g2, cap2, cur, hv, Nat.zero_le _, r⟩
theorem rowV_one {w : World} {l : List El} (h : ∀ p ∈ l, p.2.2 = [] ∧ Kids w p.2.1 p.1.kids) : ∀ u ∈ rowV l, u.oneCell' = true := by
  intro u hu
  obtain ⟨p, hp, hu⟩ := List.mem_flatMap.1 hu
  obtain ⟨a, c, e⟩ := kids_len (h p hp).2
  simp only [List.mem_cons, List.not_mem_nil, or_false] at hu
  rcases hu with rfl | rfl | rfl | rfl | rfl
  · rfl
  · rfl
  · rfl
  · rfl
  · rw [e]; rfl
theorem rowCells_get {w : World} {g o : Nat} {l : List El} (h : RowCells w g o l) (j : Nat) (u : Value) (hj : (rowV l)[j]? = some u) : w.cell? ((⟨g, o, none⟩ : Addr).add j) = some u := by
  have hlt : j < l.length * 5 := by
    rw [← rowV_len]
    exact (List.getElem?_eq_some_iff.1 hj).1
  have e : (⟨g, o, none⟩ : Addr).add j = ⟨g, o + j, none⟩ := by unfold Addr.add; split <;> simp_all
  rw [e, h j hlt, hj]
theorem RowCells.later {w w' : World} {g o : Nat} {l : List El} (h : RowCells w g o l) (hb : Below w.heap.size w w') : RowCells w' g o l := fun j hj => by
  have h1 := h j hj
  rw [List.getElem?_eq_getElem (by rw [rowV_len]; exact hj)] at h1 ⊢
  exact subw_below hb _ _ _ h1
theorem own_zero {w : World} {B : Nat} {v : Value} (h : w.ownsRow B 62 5 v 0 []) : ∃ a c, v = .slice a 0 c := by
  rcases h.2 with ⟨rfl, _⟩ | ⟨g, cap, cur, rfl, _⟩
  · exact ⟨_, _, rfl⟩
  · exact ⟨_, _, rfl⟩
theorem own_some {w : World} {B n : Nat} {v : Value} {xs : List Value} (hn : n ≠ 0) (h : w.ownsRow B 62 5 v n xs) : ∃ g c, v = .slice (some ⟨g, 0, none⟩) n c ∧ B ≤ g ∧ RowE w g n c xs := by
  have h2 := h
  rcases h.2 with ⟨_, hz⟩ | ⟨g, cap, cur, rfl, hg, _⟩
  · exact absurd hz hn
  · exact ⟨g, cap, rfl, hg, rowE_base h2⟩
theorem kids_some {w : World} {v : Value} {l : List El} (hk : Kids w v (l.map Prod.fst)) (hl : l ≠ []) : ∃ g o c, v = .slice (some ⟨g, o, none⟩) l.length c := by
  cases l with
  | nil => exact absurd rfl hl
  | cons p r =>
    rw [List.map_cons, Kids] at hk
    obtain ⟨g, o, c, e, _⟩ := hk
    rw [List.length_map] at e
    exact ⟨g, o, c, e⟩
end Go.Proofs.YtkhcbahbffjnkaaDoor
