/- The reference model's draw of two sets. -/
import Derived.Test.YtjgnigalodebkaaDoorD6
namespace Go.Proofs.YtjgnigalodebkaaDoor
open Go.RowKit
set_option linter.unusedVariables false

/-- Two sets are drawn. -/
def DrawnTwo (w : World) (e : Ending) (w' : World) : Prop := ∃ a b c d : Int, e = .returned (.tuple #[.agg #[.int .i64 a, .int .i64 b], .agg #[.int .i64 c, .int .i64 d]]) ∧ (Cs.Fits a ∧ Cs.Fits b) ∧ (Cs.Fits c ∧ Cs.Fits d) ∧ Below w.heap.size w w'

theorem code_later {B B' : Nat} {w : World} {v : Value} {n : Nat} (h : Code B w v n) (hB : B ≤ B') : Code B' w v n := by
  rcases h with h | ⟨g, off, c, hv, hg, r⟩
  · exact .inl h
  · exact .inr ⟨g, off, c, hv, Nat.lt_of_lt_of_le hg hB, r⟩

end Go.Proofs.YtjgnigalodebkaaDoor
