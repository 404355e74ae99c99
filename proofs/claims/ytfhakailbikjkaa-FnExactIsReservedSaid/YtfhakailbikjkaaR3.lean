/- Which tokens begin or end an expression, the text of a token, in the program. No conditions. -/
import Derived.Test.YtfhakailbikjkaaR2
import Derived.Test.YtfhakailbikjkaaK17
import Derived.Test.YtfhakailbikjkaaX9
namespace Go.Proofs.Ytfhakailbikjkaa
open Go.RowKit
set_option linter.unusedVariables false

theorem other_kind {k : Int} (h : k ≠ 1 ∧ k ≠ 2 ∧ k ≠ 3 ∧ k ≠ 4 ∧ k ≠ 5 ∧ k ≠ 6 ∧ k ≠ 7) : (k == 1 || (decide (3 ≤ k) && decide (k ≤ 6))) = false := by
  have : ¬ (3 ≤ k ∧ k ≤ 6) := by omega
  simp [h.1]; omega
theorem begins_other {k : Int} (t : List UInt8) (h : k ≠ 1 ∧ k ≠ 2 ∧ k ≠ 3 ∧ k ≠ 4 ∧ k ≠ 5 ∧ k ≠ 6 ∧ k ≠ 7) : Tk.begins k t = false := by
  unfold Tk.begins; rw [if_neg h.2.1, if_neg h.2.2.2.2.2.2]; exact other_kind h
theorem ends_other {k : Int} (t : List UInt8) (h : k ≠ 1 ∧ k ≠ 2 ∧ k ≠ 3 ∧ k ≠ 4 ∧ k ≠ 5 ∧ k ≠ 6 ∧ k ≠ 7) : Tk.ends k t = false := by
  unfold Tk.ends; rw [if_neg h.2.1, if_neg h.2.2.2.2.2.2]; exact other_kind h
theorem kind_ways (k : Int) : (k = 1 ∨ k = 3 ∨ k = 4 ∨ k = 5 ∨ k = 6) ∨ k = 2 ∨ k = 7 ∨ (k ≠ 1 ∧ k ≠ 2 ∧ k ≠ 3 ∧ k ≠ 4 ∧ k ≠ 5 ∧ k ≠ 6 ∧ k ≠ 7) := by omega

set_option maxHeartbeats 3200000 in
theorem impl_begins (k : Int) (t : ByteArray) (ln : Int) (w : World) : Calls Try.prog 18 #[tokV k t ln] w fun e w' => e = .returned (.bool (Tk.begins k t.data.toList)) ∧ Below w.heap.size w w' := by
  unfold tokV
  rcases kind_ways k with (rfl | rfl | rfl | rfl | rfl) | rfl | rfl | h
  case inl.inl => 
    rw [show Tk.begins 1 t.data.toList = true from rfl]
    go_enter Try.func18, Try.ntmps18
    go_wp2
    go_ret
    exact ⟨rfl, bl1 _ _⟩
  case inl.inr.inl => 
    rw [show Tk.begins 3 t.data.toList = true from rfl]
    go_enter Try.func18, Try.ntmps18
    go_wp2
    go_ret
    exact ⟨rfl, bl1 _ _⟩
  case inl.inr.inr.inl => 
    rw [show Tk.begins 4 t.data.toList = true from rfl]
    go_enter Try.func18, Try.ntmps18
    go_wp2
    go_ret
    exact ⟨rfl, bl1 _ _⟩
  case inl.inr.inr.inr.inl => 
    rw [show Tk.begins 5 t.data.toList = true from rfl]
    go_enter Try.func18, Try.ntmps18
    go_wp2
    go_ret
    exact ⟨rfl, bl1 _ _⟩
  case inl.inr.inr.inr.inr => 
    rw [show Tk.begins 6 t.data.toList = true from rfl]
    go_enter Try.func18, Try.ntmps18
    go_wp2
    go_ret
    exact ⟨rfl, bl1 _ _⟩
  case inr.inl =>
    rw [show Tk.begins 2 t.data.toList = hasW Tk.beg2 t.data.toList from rfl]
    go_enter Try.func18, Try.ntmps18
    go_wp2
    all_goals first
      | (refine both (b := ?_) ?_ ?_; rotate_left; assumption; assumption)
      | (go_ret; refine ⟨word_yes (x := ?_) ?_ ?_, bl1 _ _⟩; rotate_left; assumption; decide)
      | (go_ret; refine ⟨word_no ?_, bl1 _ _⟩; simp only [Tk.beg2, List.contains_cons, List.contains_nil, Bool.or_false, *])
  case inr.inr.inl =>
    rw [show Tk.begins 7 t.data.toList = hasW Tk.beg7 t.data.toList from rfl]
    go_enter Try.func18, Try.ntmps18
    go_wp2
    all_goals first
      | (refine both (b := ?_) ?_ ?_; rotate_left; assumption; assumption)
      | (go_ret; refine ⟨word_yes (x := ?_) ?_ ?_, bl1 _ _⟩; rotate_left; assumption; decide)
      | (go_ret; refine ⟨word_no ?_, bl1 _ _⟩; simp only [Tk.beg7, List.contains_cons, List.contains_nil, Bool.or_false, *])
  case inr.inr.inr =>
    rw [begins_other _ h]
    have u1 : (k == 1) = false := beq_eq_false_iff_ne.2 (by omega)
    have u2 : (k == 2) = false := beq_eq_false_iff_ne.2 (by omega)
    have u3 : (k == 3) = false := beq_eq_false_iff_ne.2 (by omega)
    have u4 : (k == 4) = false := beq_eq_false_iff_ne.2 (by omega)
    have u5 : (k == 5) = false := beq_eq_false_iff_ne.2 (by omega)
    have u6 : (k == 6) = false := beq_eq_false_iff_ne.2 (by omega)
    have u7 : (k == 7) = false := beq_eq_false_iff_ne.2 (by omega)
    clear h
    go_enter Try.func18, Try.ntmps18
    go_wp2
    go_ret
    exact ⟨rfl, bl1 _ _⟩

set_option maxHeartbeats 3200000 in
theorem impl_ends (k : Int) (t : ByteArray) (ln : Int) (w : World) : Calls Try.prog 20 #[tokV k t ln] w fun e w' => e = .returned (.bool (Tk.ends k t.data.toList)) ∧ Below w.heap.size w w' := by
  unfold tokV
  rcases kind_ways k with (rfl | rfl | rfl | rfl | rfl) | rfl | rfl | h
  case inl.inl => 
    rw [show Tk.ends 1 t.data.toList = true from rfl]
    go_enter Try.func20, Try.ntmps20
    go_wp2
    go_ret
    exact ⟨rfl, bl1 _ _⟩
  case inl.inr.inl => 
    rw [show Tk.ends 3 t.data.toList = true from rfl]
    go_enter Try.func20, Try.ntmps20
    go_wp2
    go_ret
    exact ⟨rfl, bl1 _ _⟩
  case inl.inr.inr.inl => 
    rw [show Tk.ends 4 t.data.toList = true from rfl]
    go_enter Try.func20, Try.ntmps20
    go_wp2
    go_ret
    exact ⟨rfl, bl1 _ _⟩
  case inl.inr.inr.inr.inl => 
    rw [show Tk.ends 5 t.data.toList = true from rfl]
    go_enter Try.func20, Try.ntmps20
    go_wp2
    go_ret
    exact ⟨rfl, bl1 _ _⟩
  case inl.inr.inr.inr.inr => 
    rw [show Tk.ends 6 t.data.toList = true from rfl]
    go_enter Try.func20, Try.ntmps20
    go_wp2
    go_ret
    exact ⟨rfl, bl1 _ _⟩
  case inr.inl =>
    rw [show Tk.ends 2 t.data.toList = hasW Tk.end2 t.data.toList from rfl]
    go_enter Try.func20, Try.ntmps20
    go_wp2
    all_goals first
      | (refine both (b := ?_) ?_ ?_; rotate_left; assumption; assumption)
      | (go_ret; refine ⟨word_yes (x := ?_) ?_ ?_, bl1 _ _⟩; rotate_left; assumption; decide)
      | (go_ret; refine ⟨word_no ?_, bl1 _ _⟩; simp only [Tk.end2, List.contains_cons, List.contains_nil, Bool.or_false, *])
  case inr.inr.inl =>
    rw [show Tk.ends 7 t.data.toList = hasW Tk.end7 t.data.toList from rfl]
    go_enter Try.func20, Try.ntmps20
    go_wp2
    all_goals first
      | (refine both (b := ?_) ?_ ?_; rotate_left; assumption; assumption)
      | (go_ret; refine ⟨word_yes (x := ?_) ?_ ?_, bl1 _ _⟩; rotate_left; assumption; decide)
      | (go_ret; refine ⟨word_no ?_, bl1 _ _⟩; simp only [Tk.end7, List.contains_cons, List.contains_nil, Bool.or_false, *])
  case inr.inr.inr =>
    rw [ends_other _ h]
    have u1 : (k == 1) = false := beq_eq_false_iff_ne.2 (by omega)
    have u2 : (k == 2) = false := beq_eq_false_iff_ne.2 (by omega)
    have u3 : (k == 3) = false := beq_eq_false_iff_ne.2 (by omega)
    have u4 : (k == 4) = false := beq_eq_false_iff_ne.2 (by omega)
    have u5 : (k == 5) = false := beq_eq_false_iff_ne.2 (by omega)
    have u6 : (k == 6) = false := beq_eq_false_iff_ne.2 (by omega)
    have u7 : (k == 7) = false := beq_eq_false_iff_ne.2 (by omega)
    clear h
    go_enter Try.func20, Try.ntmps20
    go_wp2
    go_ret
    exact ⟨rfl, bl1 _ _⟩
end Go.Proofs.Ytfhakailbikjkaa
