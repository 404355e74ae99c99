/- CsetSize of the program: how many elements a set has. No conditions. -/
import Derived.Test.YtlbidfegcfcaiaaDoorC6
import Derived.Deep.QuietTactic
import Derived.BigQuiet
namespace Go.Proofs.YtlbidfegcfcaiaaDoor
open Go.RowKit
set_option linter.unusedVariables false

/-- A word as a number without sign. -/
def Cs.word (l : Int) : Nat := (BitVec.ofInt 64 l).toNat
theorem Cs.word_lt (l : Int) : Cs.word l < 18446744073709551616 := (BitVec.ofInt 64 l).isLt
theorem Cs.wrap_word (l : Int) : IntKind.u64.wrap l = (Cs.word l : Int) := by
  have : IntKind.u64.wrap l = l % 18446744073709551616 := by simp [IntKind.wrap, IntKind.bits, IntKind.signed]
  rw [this]; unfold Cs.word
  rw [BitVec.toNat_ofInt]
  omega
/-- How many elements lie in a word. -/
def Cs.pop (l : Int) : Nat := ((List.range 64).filter (Cs.bitAt l)).length
theorem Cs.dsum_pop (l : Int) : Cs.dsum 1 64 (Cs.word l) = Cs.pop l := Cs.dsum_bits 64 _
theorem Cs.pop_le (l : Int) : Cs.pop l ≤ 64 := by
  have := List.length_filter_le (Cs.bitAt l) (List.range 64)
  simpa [Cs.pop] using this
theorem Cs.text_pop (l h : Int) : (Cs.text l h).length = Cs.pop l + Cs.pop h := by
  unfold Cs.text Cs.pop
  rw [show List.range 128 = List.range 64 ++ (List.range 64).map (64 + ·) from by decide, List.filter_append, List.length_append, List.filter_map, List.length_map]
  have e1 : List.filter (Cs.mem l h) (List.range 64) = List.filter (Cs.bitAt l) (List.range 64) := List.filter_congr fun x hx => Cs.mem_low (by rw [List.mem_range] at hx; exact hx)
  have e2 : List.filter (Cs.mem l h ∘ fun x => 64 + x) (List.range 64) = List.filter (Cs.bitAt h) (List.range 64) := List.filter_congr fun x hx => by
    rw [List.mem_range] at hx
    show Cs.mem l h (64 + x) = _
    rw [Cs.mem_high (by omega) (by omega), Nat.add_sub_cancel_left]
  rw [e1, e2]

theorem ones_word (l : Int) (w : World) : Calls Tryd.prog 44 #[.int .u64 (IntKind.u64.wrap l)] w fun e w' => e = .returned (.int .i64 (Cs.pop l)) ∧ w' = w := by
  rw [← Cs.dsum_pop, Cs.wrap_word]
  exact (ones _ (Cs.word_lt l) w).mono fun e w' ⟨h1, h2⟩ => ⟨h1, h2.symm⟩
theorem impl_size (a b : Int) (w : World) : Calls Tryd.prog 34 #[.agg #[.int .i64 a, .int .i64 b]] w fun e w' => e = .returned (.int .i64 ((Cs.text a b).length : Nat)) ∧ Below w.heap.size w w' := by
  rw [Cs.text_pop]
  have h1 := Cs.pop_le a
  have h2 := Cs.pop_le b
  go_enter Tryd.func34, Tryd.ntmps34
  go_wp2
  go_quiet ((go_at_call 44; exact Calls.quiet_of_same (ones_word _ _)))
  go_wp2
  go_ret
  exact ⟨ret_i (Int.natCast_add _ _).symm, below_drewN (bl1 _ _) _⟩
end Go.Proofs.YtlbidfegcfcaiaaDoor
