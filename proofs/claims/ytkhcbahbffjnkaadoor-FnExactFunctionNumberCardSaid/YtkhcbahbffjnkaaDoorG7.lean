/- Numbers of nodes and depths in the reference model. No conditions. -/
import Derived.Test.YtkhcbahbffjnkaaDoorG3
namespace Go.Proofs.YtkhcbahbffjnkaaDoor
open Go.RowKit
set_option linter.unusedVariables false

theorem count_eq (t : Ex.T) : t.count = 1 + Ex.counts t.kids := by cases t; rw [Ex.T.count]; rfl
theorem deep_eq (t : Ex.T) : t.deep = Ex.deeps t.kids + 1 := by cases t; rw [Ex.T.deep]; rfl
theorem small_count {t : Ex.T} (h : t.bulk ≤ 1048576) : t.count ≤ 1048577 := by have := Ex.count_bulk _ t (Nat.le_refl _); omega
theorem small_deep {t : Ex.T} (h : t.bulk ≤ 1048576) : t.deep ≤ 1048577 := by have h1 := Ex.deep_count _ t (Nat.le_refl _); have := small_count h; omega
/-- Where a count stands. -/
def CntAt (ks : List Ex.T) (k m : Nat) : Prop := m = 1 + Ex.counts (ks.take k)
theorem CntAt.next {ks : List Ex.T} {k m : Nat} (h : CntAt ks k m) (hk : k < ks.length) : CntAt ks (k + 1) (m + ks[k].count) := by
  unfold CntAt at h ⊢
  rw [Ex.counts_take ks k hk]; omega
theorem CntAt.le {ks : List Ex.T} {k m : Nat} (h : CntAt ks k m) : m ≤ 1 + Ex.counts ks := by
  unfold CntAt at h
  have := Ex.counts_take_le ks k; omega
theorem CntAt.over {ks : List Ex.T} {m : Nat} (h : CntAt ks ks.length m) : m = 1 + Ex.counts ks := by
  unfold CntAt at h
  rw [List.take_length] at h; exact h
/-- Where a depth stands. -/
def DepAt (ks : List Ex.T) (k m : Nat) : Prop := m = Ex.deeps (ks.take k)
theorem DepAt.next {ks : List Ex.T} {k m : Nat} (h : DepAt ks k m) (hk : k < ks.length) : DepAt ks (k + 1) (max m ks[k].deep) := by
  unfold DepAt at h ⊢
  rw [Ex.deeps_take ks k hk, h]
theorem deeps_take_le (l : List Ex.T) (k : Nat) : Ex.deeps (l.take k) ≤ Ex.deeps l := by
  induction l generalizing k with
  | nil => simp [Ex.deeps]
  | cons y l ih =>
    cases k with
    | zero => simp [Ex.deeps]
    | succ k => rw [List.take_succ_cons, Ex.deeps, Ex.deeps]; have := ih k; omega
theorem DepAt.le {ks : List Ex.T} {k m : Nat} (h : DepAt ks k m) : m ≤ Ex.deeps ks := by
  unfold DepAt at h
  have := deeps_take_le ks k; omega
theorem DepAt.over {ks : List Ex.T} {m : Nat} (h : DepAt ks ks.length m) : m = Ex.deeps ks := by
  unfold DepAt at h
  rw [List.take_length] at h; exact h
theorem max_nat (a b : Nat) : max (a : Int) (b : Int) = ((max a b : Nat) : Int) := by omega
end Go.Proofs.YtkhcbahbffjnkaaDoor
