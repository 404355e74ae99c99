/- The cells of a struct that came in, field by field. No conditions. -/
import Derived.Test.YtlbidfegcfcaiaaDoorB0
import Derived.Deep.Fields
import Derived.Lib.SmallJoins
namespace Go.Proofs.YtlbidfegcfcaiaaDoor
open Go.RowKit Go.Joins
set_option linter.unusedVariables false

theorem cells_at {H : Type} {enc : TypeId × Value → H} {W : World} {base n : Nat} {spare : Nat → Bool} {held : Bool} {fs : Array Field} {cs : List Value} {xs : List (DataW H × List MemPlace)} (hlen : xs.length = fs.size)
    (hf : ∀ (i : Nat) (f : Field), fs[i]? = some f → DataW.trod enc Tryd.prog W base spare held n f.type ((cs.drop f.offset).take (Tryd.prog.cellsOf f.type)) = xs[i]?) (i : Nat) (f : Field) (hfi : fs[i]? = some f) : ∃ y, DataW.trod enc Tryd.prog W base spare held n f.type ((cs.drop f.offset).take (Tryd.prog.cellsOf f.type)) = some y := by
  have h := hf i f hfi
  rw [List.getElem?_eq_getElem (by rw [hlen]; exact (Array.getElem?_eq_some_iff.1 hfi).1)] at h
  exact ⟨_, h⟩
end Go.Proofs.YtlbidfegcfcaiaaDoor
