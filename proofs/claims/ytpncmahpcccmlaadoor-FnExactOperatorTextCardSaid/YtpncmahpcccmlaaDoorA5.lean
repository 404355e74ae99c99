/- The laws on OperatorText and OperatorArity. The table reads as the program's text lays it. -/
import Derived.Test.YtpncmahpcccmlaaDoorA4
namespace Go.Proofs.YtpncmahpcccmlaaDoor
open Go.RowKit
set_option linter.unusedVariables false

theorem FnExactOperatorText_walk (a0 : Int) (w0 : (Lit.int .i64 a0).wf = true) (w : World) (hT : OpsAt w) : Calls Tryd.prog 4 #[.int .i64 a0] w fun e w' => e = .returned (.bool true) ∧ Below w.heap.size w w' := by
  have hr : -9223372036854775808 ≤ a0 ∧ a0 ≤ 9223372036854775807 := by simpa [Lit.wf, IntKind.min, IntKind.max, IntKind.signed, IntKind.bits] using w0
  have HS := Lib.hid (spec_opText a0 w)
  have HI := Lib.hid (fun W (hW : Below w.heap.size w W) => impl_opText a0 hr.1 hr.2 W (hT.later hW))
  clear hT hr
  generalize opT a0 = s at HS HI
  go_enter Tryd.func4, Tryd.ntmps4
  go_wp2_with fail
  refine HS.out.mono ?_
  rintro e w2 ⟨rfl, b2⟩
  have B2 := Lib.hid b2
  clear b2
  go_wp2_with fail
  refine (HI.out w2 B2.out).mono ?_
  rintro e w3 ⟨rfl, b3⟩
  have B3 := Lib.hid (below_then B2.out b3)
  clear b3
  go_wp2
  go_ret
  exact ⟨rfl, B3.out⟩
theorem FnExactOperatorArity_walk (a0 : Int) (w0 : (Lit.int .i64 a0).wf = true) (w : World) (hT : OpsAt w) : Calls Tryd.prog 5 #[.int .i64 a0] w fun e w' => e = .returned (.bool true) ∧ Below w.heap.size w w' := by
  have hr : -9223372036854775808 ≤ a0 ∧ a0 ≤ 9223372036854775807 := by simpa [Lit.wf, IntKind.min, IntKind.max, IntKind.signed, IntKind.bits] using w0
  have HS := Lib.hid (spec_arity a0 w)
  have HI := Lib.hid (fun W (hW : Below w.heap.size w W) => impl_arity a0 hr.1 hr.2 W (hT.later hW))
  clear hT hr
  generalize arLo a0 = lo at HS HI
  generalize arHi a0 = hi at HS HI
  go_enter Tryd.func5, Tryd.ntmps5
  go_wp2_with fail
  refine HS.out.mono ?_
  rintro e w2 ⟨rfl, b2⟩
  have B2 := Lib.hid b2
  clear b2
  go_wp2_with fail
  refine (HI.out w2 B2.out).mono ?_
  rintro e w3 ⟨rfl, b3⟩
  have B3 := Lib.hid (below_then B2.out b3)
  clear b3
  go_wp2
  go_ret
  exact ⟨rfl, B3.out⟩
end Go.Proofs.YtpncmahpcccmlaaDoor
