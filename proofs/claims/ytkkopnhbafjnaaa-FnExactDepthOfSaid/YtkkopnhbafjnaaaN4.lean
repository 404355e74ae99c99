/- The walks of the laws on numbers of nodes and depths. No conditions. -/
import Derived.Test.YtkkopnhbafjnaaaN3
import Derived.Test.YtkkopnhbafjnaaaG8
namespace Go.Proofs.Ytkkopnhbafjnaaa
open Go.RowKit
set_option linter.unusedVariables false

theorem FnExactCountNodes_walk (t : Ex.T) (v : Value) (hok : t.Ok) (w : World) (hk : Kids w v t.kids) : Calls Try.prog 6 #[exV t v] w fun e w' => e = .returned (.bool true) ∧ Below w.heap.size w w' :=
  count_law impl_count t v hok w hk
theorem FnExactDepthOf_walk (t : Ex.T) (v : Value) (hok : t.Ok) (w : World) (hk : Kids w v t.kids) : Calls Try.prog 7 #[exV t v] w fun e w' => e = .returned (.bool true) ∧ Below w.heap.size w w' :=
  depth_law impl_depth t v hok w hk
end Go.Proofs.Ytkkopnhbafjnaaa
