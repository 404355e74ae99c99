/- RangeCset of the program and of the reference model, and the walks of the laws on NewCset and RangeCset. No conditions. -/
import Derived.Test.YtlbidfegcfcaiaaC9
namespace Go.Proofs.Ytlbidfegcfcaiaa
open Go.RowKit
attribute [local go_sem ↓] Go.wp_at_zero Go.wp_at_succ
set_option linter.unusedVariables false

/-- Is there such a range? -/
def Cs.rngOk (f t : Nat) : Bool := decide (f ≤ t) && decide (t < 128)
def Cs.rngL (f t : Nat) : Int := if Cs.rngOk f t = true then Cs.allL (List.range' f (t + 1 - f)) else 0
def Cs.rngH (f t : Nat) : Int := if Cs.rngOk f t = true then Cs.allH (List.range' f (t + 1 - f)) else 0
theorem Cs.rng_no {f t : Nat} (h : t < f ∨ 128 ≤ t) : Cs.rngOk f t = false ∧ Cs.rngL f t = 0 ∧ Cs.rngH f t = 0 := by
  have e : Cs.rngOk f t = false := by unfold Cs.rngOk; rcases h with h | h <;> simp <;> omega
  exact ⟨e, by unfold Cs.rngL; rw [if_neg (by rw [e]; simp)], by unfold Cs.rngH; rw [if_neg (by rw [e]; simp)]⟩
theorem Cs.rng_yes {f t : Nat} (h1 : f ≤ t) (h2 : t < 128) : Cs.rngOk f t = true ∧ Cs.rngL f t = Cs.allL (List.range' f (t + 1 - f)) ∧ Cs.rngH f t = Cs.allH (List.range' f (t + 1 - f)) := by
  have e : Cs.rngOk f t = true := by unfold Cs.rngOk; simp; omega
  exact ⟨e, by unfold Cs.rngL; rw [if_pos e], by unfold Cs.rngH; rw [if_pos e]⟩
theorem Cs.rng_snoc (f k : Nat) : Cs.allL (List.range' f (k + 1)) = Cs.addL (Cs.allL (List.range' f k)) (f + k) ∧ Cs.allH (List.range' f (k + 1)) = Cs.addH (Cs.allH (List.range' f k)) (f + k) := by
  rw [List.range'_1_concat]; exact Cs.all_snoc _ _

end Go.Proofs.Ytlbidfegcfcaiaa
