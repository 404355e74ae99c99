/- Values: kinds and texts of the program. No conditions. -/
import Derived.Test.YtlbidfegcfcaiaaDoorO1
namespace Go.Proofs.YtlbidfegcfcaiaaDoor
open Go.RowKit
set_option linter.unusedVariables false

theorem knd_val (k n i : Int) (t : ByteArray) (a b : Int) (w : World) : Calls Tryd.prog 23 #[vlV k n i t a b] w fun e w' => e = .returned (.bool (Vl.kndF k)) ∧ Below w.heap.size w w' := by
  unfold vlV Vl.kndF
  by_cases h0 : 0 ≤ k
  · rw [decide_eq_true h0, Bool.true_and]
    go_enter Tryd.func23, Tryd.ntmps23
    go_wp2
    go_ret
    exact ⟨rfl, bl1 _ _⟩
  · rw [decide_eq_false h0, Bool.false_and]
    go_enter Tryd.func23, Tryd.ntmps23
    go_wp2
    go_ret
    exact ⟨rfl, bl1 _ _⟩
theorem txt_val (k n i : Int) (t : ByteArray) (a b : Int) (w : World) : Calls Tryd.prog 26 #[vlV k n i t a b] w fun e w' => e = .returned (.bool (Vl.txtF k t)) ∧ Below w.heap.size w w' := by
  unfold vlV Vl.txtF
  go_enter Tryd.func26, Tryd.ntmps26
  go_wp2
  all_goals (go_ret; exact ⟨vl_eb (by simp [*]), bl1 _ _⟩)
end Go.Proofs.YtlbidfegcfcaiaaDoor
