/- The program's FormatInt returns the decimal form, at every integer. No conditions. -/
import Derived.Test.YtkhcbahbffjnkaaDoorW1
namespace Go.Proofs.YtkhcbahbffjnkaaDoor
open Go.RowKit

/-- The block B holds the letters l at its end, from place at on. -/
def Holds (w : World) (B at_ : Nat) (l : List UInt8) : Prop :=
  (∀ j, j < 20 → ∃ v, w.cell? ⟨B, j, none⟩ = some v) ∧ (∀ j, w.frozen? ⟨B, j, none⟩ = false) ∧ (∀ j (h : j < l.length), w.cell? ⟨B, at_ + j, none⟩ = some (.int .u8 (l[j].toNat : Int)))

theorem holds_start (w : World) (C : Array Value) (t : TypeId) (hC : C.size = 20) : Holds (w.alloc (.cells C t)) w.heap.size 20 [] := by
  refine ⟨fun j hj => ⟨C[j]'(by omega), ?_⟩, fun j => ?_, fun j h => by simp at h⟩
  · rw [World.cell?_alloc_mark]; exact Array.getElem?_eq_getElem _
  · rw [World.frozen?_alloc_mark]; simp

theorem holds_next {w : World} {B p : Nat} {l : List UInt8} (h : Holds w B (p + 1) l) (hp : p < 20) (b : UInt8) (v : Value) (hv : v = .int .u8 (b.toNat : Int)) : Holds (w.setCell ⟨B, p, none⟩ v) B p (b :: l) := by
  subst hv
  obtain ⟨h1, h2, h3⟩ := h
  have hset : ∀ j, j ≠ p → (w.setCell ⟨B, p, none⟩ (.int .u8 (b.toNat : Int))).cell? ⟨B, j, none⟩ = w.cell? ⟨B, j, none⟩ := fun j hj => by
    go_simp
  refine ⟨fun j hj => ?_, fun j => by rw [World.frozen?_setCell]; exact h2 j, fun j hj => ?_⟩
  · obtain ⟨u, hu⟩ := h1 j hj
    by_cases e : j = p
    · subst e; exact ⟨_, by go_simp; exact rfl⟩
    · exact ⟨u, by rw [hset j e]; exact hu⟩
  · obtain ⟨u, hu⟩ := h1 p hp
    cases j with
    | zero => simp; go_simp
    | succ j => rw [hset _ (by omega), show p + (j + 1) = p + 1 + j by omega]; simpa using h3 j (by simpa using hj)

/-- And those letters as a string. -/
theorem conv_at {w : World} {B p : Nat} {l : List UInt8} (h : Holds w B p l) (n : Nat) (hn : n = l.length) : (convert 22 9 (.slice (some ⟨B, p, none⟩) n n)).run Tryd.prog w = .ok (.string ⟨l.toArray⟩) w := by
  subst hn
  exact run_convert_bytes_back w 22 9 5 ⟨B, p, none⟩ _ l Tryd.underlying22 Tryd.underlying5 Tryd.underlying9 (fun j hj => by
    rw [show (⟨B, p, none⟩ : Addr).add j = ⟨B, p + j, none⟩ from by simp [Addr.add]]
    exact h.2.2 j hj)

theorem neg_size (n : Nat) (h1 : (n : Int) ≤ 9223372036854775808) : IntKind.u64.wrap (-IntKind.u64.wrap (-(n : Int))) = n := by
  simp only [IntKind.wrap, IntKind.signed, IntKind.bits]
  simp
  omega

end Go.Proofs.YtkhcbahbffjnkaaDoor
