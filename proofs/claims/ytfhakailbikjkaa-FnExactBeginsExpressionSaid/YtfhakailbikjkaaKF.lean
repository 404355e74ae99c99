/- A token's variable in memory. No conditions. -/
import Derived.Test.YtfhakailbikjkaaK5
namespace Go.Proofs.Ytfhakailbikjkaa
open Go.RowKit
set_option linter.unusedVariables false

/-- A token's variable that may be written. -/
def FreeTok (w : World) (b : Nat) (k : Int) (t : ByteArray) (l : Int) : Prop := (w.cell? ⟨b, 0, none⟩ = some (.int .i64 k) ∧ w.cell? ⟨b, 1, none⟩ = some (.string t) ∧ w.cell? ⟨b, 2, none⟩ = some (.int .i64 l)) ∧ w.frozen? ⟨b, 0, none⟩ = false ∧ w.frozen? ⟨b, 1, none⟩ = false ∧ w.frozen? ⟨b, 2, none⟩ = false
theorem FreeTok.lt {w : World} {b : Nat} {k l : Int} {t : ByteArray} (h : FreeTok w b k t l) : b < w.heap.size := by
  have h0 := h.1.1
  unfold World.cell? at h0
  rcases Nat.lt_or_ge b w.heap.size with h1 | h1
  · exact h1
  · exfalso; rw [Array.getElem?_eq_none h1] at h0; cases h0
theorem FreeTok.later {wa wb : World} {g : Nat} {k l : Int} {t : ByteArray} (h : FreeTok wa g k t l) (hb : Below wa.heap.size wa wb) : FreeTok wb g k t l :=
  ⟨⟨(hb.cell (p := ⟨g, 0, none⟩) h.lt).trans h.1.1, (hb.cell (p := ⟨g, 1, none⟩) h.lt).trans h.1.2.1, (hb.cell (p := ⟨g, 2, none⟩) h.lt).trans h.1.2.2⟩,
   (hb.frozen (p := ⟨g, 0, none⟩) h.lt).trans h.2.1, (hb.frozen (p := ⟨g, 1, none⟩) h.lt).trans h.2.2.1, (hb.frozen (p := ⟨g, 2, none⟩) h.lt).trans h.2.2.2⟩
theorem FreeTok.new (W : World) (k : Int) (t : ByteArray) (l : Int) (T : TypeId) : FreeTok (W.alloc (.cells #[.int .i64 k, .string t, .int .i64 l] T)) W.heap.size k t l := by
  refine ⟨⟨?_, ?_, ?_⟩, ?_, ?_, ?_⟩ <;> go_simp
theorem below_store3 {B g : Nat} {w wa : World} (h : Below B w wa) (hg : B ≤ g) (x y z : Value) : Below B w (((wa.setCell ⟨g, 0, none⟩ x).setCell ⟨g, 1, none⟩ y).setCell ⟨g, 2, none⟩ z) :=
  ((h.setCell hg x).setCell hg y).setCell hg z
end Go.Proofs.Ytfhakailbikjkaa
