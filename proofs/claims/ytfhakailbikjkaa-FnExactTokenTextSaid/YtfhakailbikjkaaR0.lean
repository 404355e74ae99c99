/- strings.Clone: the string itself. -/
import Derived.Test.YtfhakailbikjkaaT1
import Derived.Test.YtfhakailbikjkaaShelf
namespace Go.Proofs.Ytfhakailbikjkaa
open Go.RowKit
set_option linter.unusedVariables false

theorem clone8 (s : ByteArray) (w : World) (h : (s.size : Int) ≤ 1048576) :
    Calls Try.prog 35 #[.string s] w fun e w' => e = .returned (.string s) ∧ Below w.heap.size w w' := by
  have HC := Lib.hid (fun W => Try.stringslite_Clone s W (by omega))
  go_enter Try.func35, Try.ntmps35
  go_wp2_with (go_at_call 44; refine (HC.out _).mono ?_; rintro e w1 ⟨rfl, b1⟩)
  go_ret
  exact ⟨rfl, b1⟩
end Go.Proofs.Ytfhakailbikjkaa
