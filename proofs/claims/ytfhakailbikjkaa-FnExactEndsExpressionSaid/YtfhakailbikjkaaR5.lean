/- The walks of the laws on words and on tokens. No conditions. -/
import Derived.Test.YtfhakailbikjkaaR3
import Derived.Test.YtfhakailbikjkaaR4
import Derived.Test.YtfhakailbikjkaaX9
namespace Go.Proofs.Ytfhakailbikjkaa
open Go.RowKit
set_option linter.unusedVariables false

theorem FnExactIsReserved_walk (a0 : ByteArray) (w0 : a0.size ≤ maxLen) (w : World) :
    Calls Try.prog 3 #[.string a0] w fun e w' => e = .returned (.bool true) ∧ Below w.heap.size w w' :=
  reserved_law (fun s W _ => impl_reserved s W) a0 w0 w
theorem FnExactIsKeyword_walk (a0 : ByteArray) (w0 : a0.size ≤ maxLen) (w : World) :
    Calls Try.prog 5 #[.string a0] w fun e w' => e = .returned (.bool true) ∧ Below w.heap.size w w' :=
  keyword_law (fun s W _ => impl_keyword s W) a0 w0 w
theorem FnExactIsName_walk (a0 : ByteArray) (w0 : a0.size ≤ maxLen) (w : World) :
    Calls Try.prog 4 #[.string a0] w fun e w' => e = .returned (.bool true) ∧ Below w.heap.size w w' :=
  name_law (fun s W hs => impl_name s W hs) a0 w0 w
theorem FnExactBeginsExpression_walk (a0 : Int) (b0 : ByteArray) (c0 : Int) (w0 : b0.size ≤ maxLen) (w : World) :
    Calls Try.prog 6 #[tokV a0 b0 c0] w fun e w' => e = .returned (.bool true) ∧ Below w.heap.size w w' :=
  begins_law (fun k t l W _ => impl_begins k t l W) a0 b0 c0 w0 w
theorem FnExactEndsExpression_walk (a0 : Int) (b0 : ByteArray) (c0 : Int) (w0 : b0.size ≤ maxLen) (w : World) :
    Calls Try.prog 7 #[tokV a0 b0 c0] w fun e w' => e = .returned (.bool true) ∧ Below w.heap.size w w' :=
  ends_law (fun k t l W _ => impl_ends k t l W) a0 b0 c0 w0 w
theorem FnExactTokenText_walk (a0 : Int) (b0 : ByteArray) (c0 : Int) (w0 : b0.size ≤ maxLen) (w : World) :
    Calls Try.prog 8 #[tokV a0 b0 c0] w fun e w' => e = .returned (.bool true) ∧ Below w.heap.size w w' :=
  text_law (fun k t l W hs => impl_tt k t l W hs) a0 b0 c0 w0 w
end Go.Proofs.Ytfhakailbikjkaa
