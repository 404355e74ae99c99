/- Words in the program: keywords, reserved words. No conditions. -/
import Derived.Test.YtkkopnhbafjnaaaK5
namespace Go.Proofs.Ytkkopnhbafjnaaa
open Go.RowKit
set_option linter.unusedVariables false

theorem word_yes {l : List (List UInt8)} {s : ByteArray} {x : List UInt8} (h : (s.toList == x) = true) (hx : l.contains x = true) : Ending.returned (.bool true) = .returned (.bool (hasW l s.data.toList)) := by
  have h2 := beq_iff_eq.1 h
  rw [ByteArray.toList_eq] at h2
  unfold hasW; rw [h2, hx]
theorem word_no {l : List (List UInt8)} {s : ByteArray} (h : l.contains s.toList = false) : Ending.returned (.bool false) = .returned (.bool (hasW l s.data.toList)) := by
  rw [ByteArray.toList_eq] at h
  unfold hasW; rw [h]
theorem both {b : Bool} {C : Prop} (h1 : b = true) (h2 : b = false) : C := by rw [h1] at h2; cases h2
set_option maxHeartbeats 1600000 in
theorem impl_keyword (s : ByteArray) (w : World) : Calls Try.prog 74 #[.string s] w fun e w' => e = .returned (.bool (hasW Tk.keywords s.data.toList)) ∧ Below w.heap.size w w' := by
  go_enter Try.func74, Try.ntmps74
  go_wp2
  all_goals first
    | (refine both (b := ?_) ?_ ?_; rotate_left; assumption; assumption)
    | (go_ret; refine ⟨word_yes (x := ?_) ?_ ?_, Below.refl _ _⟩; rotate_left; assumption; decide)
    | (go_ret; refine ⟨word_no ?_, Below.refl _ _⟩; simp only [Tk.keywords, List.contains_cons, List.contains_nil, Bool.or_false, *])
set_option maxHeartbeats 3200000 in
theorem impl_reserved (s : ByteArray) (w : World) : Calls Try.prog 89 #[.string s] w fun e w' => e = .returned (.bool (hasW Tk.reserved s.data.toList)) ∧ Below w.heap.size w w' := by
  go_enter Try.func89, Try.ntmps89
  go_wp2
  all_goals first
    | (refine both (b := ?_) ?_ ?_; rotate_left; assumption; assumption)
    | (go_ret; refine ⟨word_yes (x := ?_) ?_ ?_, Below.refl _ _⟩; rotate_left; assumption; decide)
    | (go_ret; refine ⟨word_no ?_, Below.refl _ _⟩; simp only [Tk.reserved, List.contains_cons, List.contains_nil, Bool.or_false, *])
end Go.Proofs.Ytkkopnhbafjnaaa
