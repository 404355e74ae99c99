/- The laws' measure of a tree. No conditions. -/
import Derived.Test.YtpncmahpcccmlaaDoorG2
import Derived.Test.YtpncmahpcccmlaaDoorC2
namespace Go.Proofs.YtpncmahpcccmlaaDoor
open Go.RowKit
set_option linter.unusedVariables false

/-- What is left of a number of bytes and kids. -/
def szR (left b : Nat) : Int := if b ≤ left then ((left - b : Nat) : Int) else -1
theorem szR_yes {left b : Nat} (h : b ≤ left) : szR left b = ((left - b : Nat) : Int) := if_pos h
theorem szR_no {left b : Nat} (h : ¬ b ≤ left) : szR left b = -1 := if_neg h
/-- Where the measure of a list stands. -/
def SzAt (ks : List Ex.T) (left k m : Nat) : Prop := m + (ks.length + Ex.bulks (ks.take k)) = left
theorem SzAt.start {ks : List Ex.T} {left : Nat} (h : ks.length ≤ left) : SzAt ks left 0 (left - ks.length) := by unfold SzAt; simp [Ex.bulks]; omega
theorem SzAt.next {ks : List Ex.T} {left k m : Nat} (h : SzAt ks left k m) (hk : k < ks.length) (hb : ks[k].bulk ≤ m) : SzAt ks left (k + 1) (m - ks[k].bulk) := by
  unfold SzAt at h ⊢
  rw [Ex.bulks_take ks k hk]; omega
theorem SzAt.bad {ks : List Ex.T} {left k m : Nat} (h : SzAt ks left k m) (hk : k < ks.length) (hb : ¬ ks[k].bulk ≤ m) : szR left (ks.length + Ex.bulks ks) = -1 := by
  unfold SzAt at h
  have h2 := Ex.bulks_take ks k hk
  have h3 := Ex.bulks_take_le ks (k + 1)
  exact szR_no (by omega)
theorem SzAt.over {ks : List Ex.T} {left m : Nat} (h : SzAt ks left ks.length m) : szR left (ks.length + Ex.bulks ks) = (m : Int) := by
  unfold SzAt at h
  rw [List.take_length] at h
  rw [szR_yes (by omega)]; congr 1; omega
theorem ret_ei {a b : Int} (h : b = a) : Ending.returned (.int .i64 a) = .returned (.int .i64 b) := by rw [h]

theorem bulk_eq (t : Ex.T) : t.bulk = t.text.size + (t.kids.length + Ex.bulks t.kids) := by cases t; rw [Ex.T.bulk]; rfl
theorem szR_part {left a b : Nat} (h : a ≤ left) : szR left (a + b) = szR (left - a) b := by
  unfold szR
  by_cases h2 : b ≤ left - a
  · rw [if_pos h2, if_pos (by omega)]; congr 1; omega
  · rw [if_neg h2, if_neg (by omega)]
theorem szR_cases (left b : Nat) : (0 ≤ szR left b ∧ szR left b ≤ left) ∨ szR left b = -1 := by
  unfold szR; split
  · left; omega
  · exact .inr rfl
theorem kids_count {t x : Ex.T} (h : x ∈ t.kids) : x.count < t.count := by
  cases t with
  | node k s n l ks =>
    rw [Ex.T.count]
    have := Ex.counts_mem (l := ks) h
    omega
end Go.Proofs.YtpncmahpcccmlaaDoor
