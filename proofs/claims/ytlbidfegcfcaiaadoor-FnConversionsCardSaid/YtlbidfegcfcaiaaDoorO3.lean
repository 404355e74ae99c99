/- The reference model: values that are well-formed; references. No conditions. -/
import Derived.Test.YtlbidfegcfcaiaaDoorO1
import Derived.Laws.StructEq
namespace Go.Proofs.YtlbidfegcfcaiaaDoor
open Go.RowKit
set_option linter.unusedVariables false

theorem cset_eq (a b : Int) (w : World) : (Op.equalIn 10000 26 (.agg #[.int .i64 a, .int .i64 b]) (.agg #[.int .i64 0, .int .i64 0])).run Tryd.prog w = .ok (a == 0 && b == 0) w := by
  have u3 := Tryd.underlying3
  have a3 := Tryd.isAgg3
  have z3 := Tryd.sizeOf3
  have hS : Tryd.prog.underlying 26 = some (.struct (Tryd.prog.fieldsOf 26)) := by kernel_rfl
  have hp : Tryd.prog.stoodInHeld 26 = false := by kernel_rfl
  rw [show (10000 : Nat) = 9999 + 1 from rfl, run_equalIn_agg w 9999 26 _ _ hS hp]
  simp only [Program.fieldsOf, Tryd.underlying26]
  go_simp
  by_cases h1 : a = 0 <;> by_cases h2 : b = 0 <;> simp [h1, h2]
theorem vl_bb {a b : Bool} {w : World} {w' : World} (h : a = b) (hb : Below w.heap.size w w') : Ending.returned (.bool a) = .returned (.bool b) ∧ Below w.heap.size w w' := ⟨by rw [h], hb⟩

theorem empty_size {t : ByteArray} (h : t.toList = []) : (t.size : Int) = 0 := by
  rw [ByteArray.toList_eq] at h
  have : t.data.size = 0 := by rw [← Array.length_toList, h]; rfl
  have e : t.size = t.data.size := rfl
  omega

end Go.Proofs.YtlbidfegcfcaiaaDoor
