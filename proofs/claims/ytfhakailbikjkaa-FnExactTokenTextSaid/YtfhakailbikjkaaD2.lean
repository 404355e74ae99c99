/- The reference model's draws: a new cursor, and picks from a list. -/
import Derived.Test.YtfhakailbikjkaaD1
namespace Go.Proofs.Ytfhakailbikjkaa
open Go.RowKit
set_option linter.unusedVariables false

end Go.Proofs.Ytfhakailbikjkaa
