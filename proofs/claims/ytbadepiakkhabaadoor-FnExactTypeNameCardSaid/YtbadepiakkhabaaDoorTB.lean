/- A table of texts in memory. No conditions. -/
import Derived.Test.YtbadepiakkhabaaDoorU0
import Derived.Laws.Rows
namespace Go.Proofs.YtbadepiakkhabaaDoor
open Go.RowKit
set_option linter.unusedVariables false

/-- A table of texts. -/
def TabAt (g : Nat) (l : List ByteArray) (W : World) : Prop := ∃ t fr, W.heap[g]? = some (.cells (l.map Value.string).toArray t fr)
theorem TabAt.lt {g : Nat} {l : List ByteArray} {W : World} (h : TabAt g l W) : g < W.heap.size := by
  obtain ⟨t, fr, h⟩ := h
  exact (Array.getElem?_eq_some_iff.1 h).1
theorem TabAt.keep {g : Nat} {l : List ByteArray} {W W' : World} (h : TabAt g l W) (hb : W'.heap[g]? = W.heap[g]?) : TabAt g l W' := by
  obtain ⟨t, fr, h⟩ := h
  exact ⟨t, fr, hb.trans h⟩
theorem TabAt.later {g : Nat} {l : List ByteArray} {W W' : World} (h : TabAt g l W) (hb : Below W.heap.size W W') : TabAt g l W' := h.keep (hb.block _ h.lt)
theorem TabAt.cell {g : Nat} {l : List ByteArray} {W : World} (h : TabAt g l W) {k : Nat} {x : ByteArray} (hk : l[k]? = some x) : W.cell? ⟨g, k, none⟩ = some (.string x) := by
  obtain ⟨t, fr, h⟩ := h
  rw [cell_of_row W _ k _ t fr h]
  simp [hk]
end Go.Proofs.YtbadepiakkhabaaDoor
