/- The laws' copy of a tree. No conditions. -/
import Derived.Test.YtpncmahpcccmlaaDoorG4
namespace Go.Proofs.YtpncmahpcccmlaaDoor
open Go.RowKit
set_option linter.unusedVariables false

theorem info_expr : (Tryd.prog.info? 76).map (fun i => (i.zero, i.size, i.bytes)) = some (some (.agg #[.int .i64 0, .string ByteArray.empty, .int .i64 0, .int .i64 0, .slice none 0 0]), 5, 64) := by kernel_rfl
theorem foot_if {B : Nat} {w : World} {g : Nat} {G : List Nat} {l : List Ex.T} (hB : B ≤ g) (h : ∀ b ∈ G, g < b ∧ b < w.heap.size) (hg : g < w.heap.size) : Foot B w (if l = [] then [] else g :: G) := by
  intro b hb
  split at hb
  · cases hb
  · rcases List.mem_cons.1 hb with rfl | hb
    · exact ⟨hB, hg⟩
    · have := h b hb; exact ⟨by omega, this.2⟩
theorem FillAt.done {w wr : World} {g : Nat} {ks : List Ex.T} (h : FillAt w g ks ks.length wr) (hg : w.heap.size ≤ g) : RetK w ks (.returned (.slice (some ⟨g, 0, none⟩) ks.length ks.length)) wr := by
  obtain ⟨xs, G, hr, hR, hG, hB⟩ := h
  rw [List.take_length] at hR
  exact ⟨_, _, rfl, ownK_of hr hR (fun h => by have := (hG g h).1; omega), foot_if hg hG hr.lt, hB⟩
theorem FillAt.later {w wr w1 : World} {g k : Nat} {ks : List Ex.T} (h : FillAt w g ks k wr) (j : Nat) (hj : j < ks.length * 5) (hb : Below wr.heap.size wr w1) : (∃ u, w1.cell? ⟨g, j, none⟩ = some u) ∧ w1.frozen? ⟨g, j, none⟩ = false := by
  obtain ⟨xs, G, hr, _⟩ := h
  exact (hr.keep (hb.block g hr.lt)).cell j hj

end Go.Proofs.YtpncmahpcccmlaaDoor
