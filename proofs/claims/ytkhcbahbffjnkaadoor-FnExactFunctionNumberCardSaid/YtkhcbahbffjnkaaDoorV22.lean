/- The laws on FunctionName and FunctionNumber. The table reads as the program's text lays it. -/
import Derived.Test.YtkhcbahbffjnkaaDoorV20
namespace Go.Proofs.YtkhcbahbffjnkaaDoor
open Go.RowKit
set_option linter.unusedVariables false

theorem FnExactFunctionName_walk (a0 : Int) (w0 : (Lit.int .i64 a0).wf = true) (w : World) (hN : NamesAt w) : Calls Tryd.prog 4 #[.int .i64 a0] w fun e w' => e = .returned (.bool true) ∧ Below w.heap.size w w' := by
  have HS := Lib.hid (spec_fname a0 w)
  have HI := Lib.hid (fun W (hW : Below w.heap.size w W) => impl_fname a0 W (hN.later hW))
  clear hN
  generalize fnName a0 = s at HS HI
  go_enter Tryd.func4, Tryd.ntmps4
  go_wp2_with fail
  refine HS.out.mono ?_
  rintro e w2 ⟨rfl, b2⟩
  have B2 := Lib.hid b2
  clear b2
  go_wp2_with fail
  refine (HI.out w2 B2.out).mono ?_
  rintro e w3 ⟨rfl, rfl⟩
  go_wp2
  go_ret
  exact ⟨rfl, B2.out⟩
theorem FnExactFunctionNumber_walk (a0 : ByteArray) (w0 : a0.size ≤ maxLen) (w : World) (hN : NamesAt w) : Calls Tryd.prog 5 #[.string a0] w fun e w' => e = .returned (.bool true) ∧ Below w.heap.size w w' := by
  have HS := Lib.hid (spec_number a0 w)
  have HI := Lib.hid (fun W (hW : Below w.heap.size w W) => impl_number a0 W (hN.later hW))
  clear hN
  generalize fxI funL a0 = n at HS HI
  unfold maxLen at w0
  by_cases hb : (1048576 : Int) < a0.size
  · go_enter Tryd.func5, Tryd.ntmps5
    go_wp2
    go_ret
    exact ⟨rfl, Below.refl _ _⟩
  · go_enter Tryd.func5, Tryd.ntmps5
    go_wp2_with fail
    refine HS.out.mono ?_
    rintro e w2 ⟨rfl, b2⟩
    have B2 := Lib.hid b2
    clear b2
    go_wp2_with fail
    refine (HI.out w2 B2.out).mono ?_
    rintro e w3 ⟨rfl, rfl⟩
    go_wp2
    go_ret
    exact ⟨rfl, B2.out⟩
end Go.Proofs.YtkhcbahbffjnkaaDoor
