/- The law on ToText. No conditions. -/
import Derived.Test.YtlbidfegcfcaiaaDoorS1
namespace Go.Proofs.YtlbidfegcfcaiaaDoor
open Go.RowKit
set_option linter.unusedVariables false

theorem int_bounds {n : Int} (h : (Lit.int .i64 n).wf = true) : -9223372036854775808 ≤ n ∧ n ≤ 9223372036854775807 := by
  simpa [Lit.wf, IntKind.min, IntKind.max, IntKind.signed, IntKind.bits] using h
end Go.Proofs.YtlbidfegcfcaiaaDoor
