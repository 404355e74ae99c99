/- strings.Clone. No conditions. -/
import Derived.Test.YtlbidfegcfcaiaaC2
import Derived.Test.YtlbidfegcfcaiaaShelf
namespace Go.Proofs.Ytlbidfegcfcaiaa
open Go.RowKit
set_option linter.unusedVariables false

theorem val_clone (s : ByteArray) (w : World) (h : s.size ≤ 281474976710656) : Calls Try.prog 16 #[.string s] w fun e w' => e = .returned (.string s) ∧ Below w.heap.size w w' := by
  have HC := Lib.hid (Try.stringslite_Clone s w h)
  go_enter Try.func16, Try.ntmps16
  go_wp2_with fail
  (with_reducible refine HC.out.mono ?_)
  rintro e w1 ⟨rfl, b1⟩
  have B1 := Lib.hid b1
  clear b1
  go_wp2
  go_ret
  exact ⟨rfl, B1.out⟩
end Go.Proofs.Ytlbidfegcfcaiaa
