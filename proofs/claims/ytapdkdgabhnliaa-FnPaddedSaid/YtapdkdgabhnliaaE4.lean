/- ConcatTexts of the program and of the reference model, and the walk of the law on it. No conditions. -/
import Derived.Test.YtapdkdgabhnliaaT2
import Derived.Test.YtapdkdgabhnliaaE1
namespace Go.Proofs.Ytapdkdgabhnliaa
open Go.RowKit
set_option linter.unusedVariables false

def catB (a b : ByteArray) : Bool := decide (a.size + b.size ≤ 120)
def catS (a b : ByteArray) : ByteArray := if a.size + b.size ≤ 120 then a ++ b else ByteArray.empty
theorem cat_str (a b : ByteArray) : a ++ b = str8 (a.data.toList ++ b.data.toList) := str8_inj (by simp [ByteArray.data_append])

theorem splice2 {α : Type} (Z X Y : List α) (h : Z.length = X.length + Y.length) : splice (splice Z 0 X) X.length Y = X ++ Y := by
  have e1 : splice Z 0 X = X ++ Z.drop X.length := by simp [splice]
  rw [e1]
  unfold splice
  rw [List.take_left, List.drop_eq_nil_of_le (by simp; omega), List.append_nil]

theorem splice0 {α : Type} (Z X : List α) (h : Z.length = X.length) : splice Z 0 X = X := by
  unfold splice
  rw [List.drop_eq_nil_of_le (by omega)]; simp
end Go.Proofs.Ytapdkdgabhnliaa
