/- Which tokens begin or end an expression, and the operators, in the reference model. No conditions. -/
import Derived.Test.YtkhcbahbffjnkaaDoorK4
namespace Go.Proofs.YtkhcbahbffjnkaaDoor
open Go.RowKit
set_option linter.unusedVariables false

/-- A token by value. -/
abbrev tokV (k : Int) (t : ByteArray) (ln : Int) : Value := .agg #[.int .i64 k, .string t, .int .i64 ln]
theorem eq_word (t : ByteArray) (l : List UInt8) (b : Bool) (h : (t.data.toList == l) = b) : (t.toList == l) = b := by rw [ByteArray.toList_eq]; exact h
theorem kind_cases (k : Int) : k = 2 ∨ k = 7 ∨ (k ≠ 2 ∧ k ≠ 7 ∧ k = 1) ∨ (k ≠ 2 ∧ k ≠ 7 ∧ k ≠ 1 ∧ k < 3) ∨ (k ≠ 2 ∧ k ≠ 7 ∧ k ≠ 1 ∧ 3 ≤ k ∧ k ≤ 6) ∨ (k ≠ 2 ∧ k ≠ 7 ∧ k ≠ 1 ∧ 3 ≤ k ∧ 6 < k) := by omega
theorem rest_kind {k : Int} (b : Bool) (h : k = 1 ∧ b = true ∨ k ≠ 1 ∧ k < 3 ∧ b = false ∨ k ≠ 1 ∧ 3 ≤ k ∧ k ≤ 6 ∧ b = true ∨ k ≠ 1 ∧ 6 < k ∧ b = false) : (k == 1 || (decide (3 ≤ k) && decide (k ≤ 6))) = b := by
  rcases h with ⟨rfl, rfl⟩ | ⟨h1, h2, rfl⟩ | ⟨h1, h2, h3, rfl⟩ | ⟨h1, h2, rfl⟩
  · rfl
  · simp [h1]; omega
  · simp [h2, h3]
  · simp [h1]; omega
end Go.Proofs.YtkhcbahbffjnkaaDoor
