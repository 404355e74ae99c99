/- Joined texts: R1, G12, G14. No conditions besides those that each states. -/
import Derived.Deep.RegionHeld3
import Derived.BigQuiet
import Derived.WalkSmall
import Derived.Test.YtbadepiakkhabaaDoorZ3
import Derived.Test.YtbadepiakkhabaaDoorZ4
import Derived.Test.YtbadepiakkhabaaDoorZ8
import Derived.Test.YtbadepiakkhabaaDoorZ9
import Derived.Test.YtbadepiakkhabaaDoorZ12
/- Words in the program: keywords, reserved words. No conditions. -/
namespace Go.Proofs.YtbadepiakkhabaaDoor
open Go.RowKit
set_option linter.unusedVariables false

theorem word_yes {l : List (List UInt8)} {s : ByteArray} {x : List UInt8} (h : (s.toList == x) = true) (hx : l.contains x = true) : Ending.returned (.bool true) = .returned (.bool (hasW l s.data.toList)) := by
  have h2 := beq_iff_eq.1 h
  rw [ByteArray.toList_eq] at h2
  unfold hasW; rw [h2, hx]
theorem word_no {l : List (List UInt8)} {s : ByteArray} (h : l.contains s.toList = false) : Ending.returned (.bool false) = .returned (.bool (hasW l s.data.toList)) := by
  rw [ByteArray.toList_eq] at h
  unfold hasW; rw [h]
theorem both {b : Bool} {C : Prop} (h1 : b = true) (h2 : b = false) : C := by rw [h1] at h2; cases h2
set_option maxHeartbeats 1600000 in
theorem impl_keyword (s : ByteArray) (w : World) : Calls Tryd.prog 164 #[.string s] w fun e w' => e = .returned (.bool (hasW Tk.keywords s.data.toList)) ∧ Below w.heap.size w w' := by
  go_enter Tryd.func164, Tryd.ntmps164
  go_wp2
  all_goals first
    | (refine both (b := ?_) ?_ ?_; rotate_left; assumption; assumption)
    | (go_ret; refine ⟨word_yes (x := ?_) ?_ ?_, Below.refl _ _⟩; rotate_left; assumption; decide)
    | (go_ret; refine ⟨word_no ?_, Below.refl _ _⟩; simp only [Tk.keywords, List.contains_cons, List.contains_nil, Bool.or_false, *])
set_option maxHeartbeats 3200000 in
theorem impl_reserved (s : ByteArray) (w : World) : Calls Tryd.prog 125 #[.string s] w fun e w' => e = .returned (.bool (hasW Tk.reserved s.data.toList)) ∧ Below w.heap.size w w' := by
  go_enter Tryd.func125, Tryd.ntmps125
  go_wp2
  all_goals first
    | (refine both (b := ?_) ?_ ?_; rotate_left; assumption; assumption)
    | (go_ret; refine ⟨word_yes (x := ?_) ?_ ?_, Below.refl _ _⟩; rotate_left; assumption; decide)
    | (go_ret; refine ⟨word_no ?_, Below.refl _ _⟩; simp only [Tk.reserved, List.contains_cons, List.contains_nil, Bool.or_false, *])
end Go.Proofs.YtbadepiakkhabaaDoor
/- Operators in the reference model: levels, unary operators; the walks of their laws from contracts of the program's functions. No conditions. -/
namespace Go.Proofs.YtbadepiakkhabaaDoor
open Go.RowKit
set_option linter.unusedVariables false

def Ex.levels : List (List UInt8 × Int) := [([38], 1), ([63], 2), ([58, 61], 3), ([60, 45], 3), ([58, 61, 58], 3), ([60, 45, 62], 3), ([43, 58, 61], 3), ([45, 58, 61], 3), ([42, 58, 61], 3), ([47, 58, 61], 3), ([37, 58, 61], 3), ([94, 58, 61], 3), ([124, 124, 58, 61], 3), ([124, 124, 124, 58, 61], 3), ([43, 43, 58, 61], 3), ([45, 45, 58, 61], 3), ([42, 42, 58, 61], 3), ([124], 5), ([46, 124], 5), ([60], 6), ([60, 61], 6), ([61], 6), ([62, 61], 6), ([62], 6), ([126, 61], 6), ([60, 60], 6), ([60, 60, 61], 6), ([61, 61], 6), ([62, 62, 61], 6), ([62, 62], 6), ([126, 61, 61], 6), ([61, 61, 61], 6), ([126, 61, 61, 61], 6), ([63, 63], 6), ([124, 124], 7), ([124, 124, 124], 7), ([43], 8), ([45], 8), ([43, 43], 8), ([45, 45], 8), ([42], 9), ([47], 9), ([37], 9), ([42, 42], 9), ([94], 10), ([92], 11), ([45, 62], 11), ([61, 62], 11)]
/-- The level of a binary operator; 0: none. -/
def Ex.lvl (x : List UInt8) : Int := match Ex.levels.find? (fun p => x == p.1) with
  | some p => p.2
  | none => 0
def Ex.unary : List (List UInt8) := [[45], [43], [42], [47], [92], [126], [33], [61], [124], [64], [94], [46], [46, 62]]
theorem spec_level_0 (s : ByteArray) (w : World) (h : s.toList = [38]) : Calls Tryd.prog 151 #[.string s] w fun e w' => e = .returned (.int .i64 1) ∧ w = w' := by
  go_enter Tryd.func151, Tryd.ntmps151
  go_wp2
  go_ret
  exact ⟨rfl, rfl⟩
theorem spec_level_1 (s : ByteArray) (w : World) (h : s.toList = [63]) : Calls Tryd.prog 151 #[.string s] w fun e w' => e = .returned (.int .i64 2) ∧ w = w' := by
  go_enter Tryd.func151, Tryd.ntmps151
  go_wp2
  go_ret
  exact ⟨rfl, rfl⟩
theorem spec_level_2 (s : ByteArray) (w : World) (h : s.toList = [58, 61]) : Calls Tryd.prog 151 #[.string s] w fun e w' => e = .returned (.int .i64 3) ∧ w = w' := by
  go_enter Tryd.func151, Tryd.ntmps151
  go_wp2
  go_ret
  exact ⟨rfl, rfl⟩
theorem spec_level_3 (s : ByteArray) (w : World) (h : s.toList = [60, 45]) : Calls Tryd.prog 151 #[.string s] w fun e w' => e = .returned (.int .i64 3) ∧ w = w' := by
  go_enter Tryd.func151, Tryd.ntmps151
  go_wp2
  go_ret
  exact ⟨rfl, rfl⟩
theorem spec_level_4 (s : ByteArray) (w : World) (h : s.toList = [58, 61, 58]) : Calls Tryd.prog 151 #[.string s] w fun e w' => e = .returned (.int .i64 3) ∧ w = w' := by
  go_enter Tryd.func151, Tryd.ntmps151
  go_wp2
  go_ret
  exact ⟨rfl, rfl⟩
theorem spec_level_5 (s : ByteArray) (w : World) (h : s.toList = [60, 45, 62]) : Calls Tryd.prog 151 #[.string s] w fun e w' => e = .returned (.int .i64 3) ∧ w = w' := by
  go_enter Tryd.func151, Tryd.ntmps151
  go_wp2
  go_ret
  exact ⟨rfl, rfl⟩
theorem spec_level_6 (s : ByteArray) (w : World) (h : s.toList = [43, 58, 61]) : Calls Tryd.prog 151 #[.string s] w fun e w' => e = .returned (.int .i64 3) ∧ w = w' := by
  go_enter Tryd.func151, Tryd.ntmps151
  go_wp2
  go_ret
  exact ⟨rfl, rfl⟩
theorem spec_level_7 (s : ByteArray) (w : World) (h : s.toList = [45, 58, 61]) : Calls Tryd.prog 151 #[.string s] w fun e w' => e = .returned (.int .i64 3) ∧ w = w' := by
  go_enter Tryd.func151, Tryd.ntmps151
  go_wp2
  go_ret
  exact ⟨rfl, rfl⟩
theorem spec_level_8 (s : ByteArray) (w : World) (h : s.toList = [42, 58, 61]) : Calls Tryd.prog 151 #[.string s] w fun e w' => e = .returned (.int .i64 3) ∧ w = w' := by
  go_enter Tryd.func151, Tryd.ntmps151
  go_wp2
  go_ret
  exact ⟨rfl, rfl⟩
theorem spec_level_9 (s : ByteArray) (w : World) (h : s.toList = [47, 58, 61]) : Calls Tryd.prog 151 #[.string s] w fun e w' => e = .returned (.int .i64 3) ∧ w = w' := by
  go_enter Tryd.func151, Tryd.ntmps151
  go_wp2
  go_ret
  exact ⟨rfl, rfl⟩
theorem spec_level_10 (s : ByteArray) (w : World) (h : s.toList = [37, 58, 61]) : Calls Tryd.prog 151 #[.string s] w fun e w' => e = .returned (.int .i64 3) ∧ w = w' := by
  go_enter Tryd.func151, Tryd.ntmps151
  go_wp2
  go_ret
  exact ⟨rfl, rfl⟩
theorem spec_level_11 (s : ByteArray) (w : World) (h : s.toList = [94, 58, 61]) : Calls Tryd.prog 151 #[.string s] w fun e w' => e = .returned (.int .i64 3) ∧ w = w' := by
  go_enter Tryd.func151, Tryd.ntmps151
  go_wp2
  go_ret
  exact ⟨rfl, rfl⟩
theorem spec_level_12 (s : ByteArray) (w : World) (h : s.toList = [124, 124, 58, 61]) : Calls Tryd.prog 151 #[.string s] w fun e w' => e = .returned (.int .i64 3) ∧ w = w' := by
  go_enter Tryd.func151, Tryd.ntmps151
  go_wp2
  go_ret
  exact ⟨rfl, rfl⟩
theorem spec_level_13 (s : ByteArray) (w : World) (h : s.toList = [124, 124, 124, 58, 61]) : Calls Tryd.prog 151 #[.string s] w fun e w' => e = .returned (.int .i64 3) ∧ w = w' := by
  go_enter Tryd.func151, Tryd.ntmps151
  go_wp2
  go_ret
  exact ⟨rfl, rfl⟩
theorem spec_level_14 (s : ByteArray) (w : World) (h : s.toList = [43, 43, 58, 61]) : Calls Tryd.prog 151 #[.string s] w fun e w' => e = .returned (.int .i64 3) ∧ w = w' := by
  go_enter Tryd.func151, Tryd.ntmps151
  go_wp2
  go_ret
  exact ⟨rfl, rfl⟩
theorem spec_level_15 (s : ByteArray) (w : World) (h : s.toList = [45, 45, 58, 61]) : Calls Tryd.prog 151 #[.string s] w fun e w' => e = .returned (.int .i64 3) ∧ w = w' := by
  go_enter Tryd.func151, Tryd.ntmps151
  go_wp2
  go_ret
  exact ⟨rfl, rfl⟩
theorem spec_level_16 (s : ByteArray) (w : World) (h : s.toList = [42, 42, 58, 61]) : Calls Tryd.prog 151 #[.string s] w fun e w' => e = .returned (.int .i64 3) ∧ w = w' := by
  go_enter Tryd.func151, Tryd.ntmps151
  go_wp2
  go_ret
  exact ⟨rfl, rfl⟩
theorem spec_level_17 (s : ByteArray) (w : World) (h : s.toList = [124]) : Calls Tryd.prog 151 #[.string s] w fun e w' => e = .returned (.int .i64 5) ∧ w = w' := by
  go_enter Tryd.func151, Tryd.ntmps151
  go_wp2
  go_ret
  exact ⟨rfl, rfl⟩
theorem spec_level_18 (s : ByteArray) (w : World) (h : s.toList = [46, 124]) : Calls Tryd.prog 151 #[.string s] w fun e w' => e = .returned (.int .i64 5) ∧ w = w' := by
  go_enter Tryd.func151, Tryd.ntmps151
  go_wp2
  go_ret
  exact ⟨rfl, rfl⟩
theorem spec_level_19 (s : ByteArray) (w : World) (h : s.toList = [60]) : Calls Tryd.prog 151 #[.string s] w fun e w' => e = .returned (.int .i64 6) ∧ w = w' := by
  go_enter Tryd.func151, Tryd.ntmps151
  go_wp2
  go_ret
  exact ⟨rfl, rfl⟩
theorem spec_level_20 (s : ByteArray) (w : World) (h : s.toList = [60, 61]) : Calls Tryd.prog 151 #[.string s] w fun e w' => e = .returned (.int .i64 6) ∧ w = w' := by
  go_enter Tryd.func151, Tryd.ntmps151
  go_wp2
  go_ret
  exact ⟨rfl, rfl⟩
theorem spec_level_21 (s : ByteArray) (w : World) (h : s.toList = [61]) : Calls Tryd.prog 151 #[.string s] w fun e w' => e = .returned (.int .i64 6) ∧ w = w' := by
  go_enter Tryd.func151, Tryd.ntmps151
  go_wp2
  go_ret
  exact ⟨rfl, rfl⟩
theorem spec_level_22 (s : ByteArray) (w : World) (h : s.toList = [62, 61]) : Calls Tryd.prog 151 #[.string s] w fun e w' => e = .returned (.int .i64 6) ∧ w = w' := by
  go_enter Tryd.func151, Tryd.ntmps151
  go_wp2
  go_ret
  exact ⟨rfl, rfl⟩
theorem spec_level_23 (s : ByteArray) (w : World) (h : s.toList = [62]) : Calls Tryd.prog 151 #[.string s] w fun e w' => e = .returned (.int .i64 6) ∧ w = w' := by
  go_enter Tryd.func151, Tryd.ntmps151
  go_wp2
  go_ret
  exact ⟨rfl, rfl⟩
theorem spec_level_24 (s : ByteArray) (w : World) (h : s.toList = [126, 61]) : Calls Tryd.prog 151 #[.string s] w fun e w' => e = .returned (.int .i64 6) ∧ w = w' := by
  go_enter Tryd.func151, Tryd.ntmps151
  go_wp2
  go_ret
  exact ⟨rfl, rfl⟩
theorem spec_level_25 (s : ByteArray) (w : World) (h : s.toList = [60, 60]) : Calls Tryd.prog 151 #[.string s] w fun e w' => e = .returned (.int .i64 6) ∧ w = w' := by
  go_enter Tryd.func151, Tryd.ntmps151
  go_wp2
  go_ret
  exact ⟨rfl, rfl⟩
theorem spec_level_26 (s : ByteArray) (w : World) (h : s.toList = [60, 60, 61]) : Calls Tryd.prog 151 #[.string s] w fun e w' => e = .returned (.int .i64 6) ∧ w = w' := by
  go_enter Tryd.func151, Tryd.ntmps151
  go_wp2
  go_ret
  exact ⟨rfl, rfl⟩
theorem spec_level_27 (s : ByteArray) (w : World) (h : s.toList = [61, 61]) : Calls Tryd.prog 151 #[.string s] w fun e w' => e = .returned (.int .i64 6) ∧ w = w' := by
  go_enter Tryd.func151, Tryd.ntmps151
  go_wp2
  go_ret
  exact ⟨rfl, rfl⟩
theorem spec_level_28 (s : ByteArray) (w : World) (h : s.toList = [62, 62, 61]) : Calls Tryd.prog 151 #[.string s] w fun e w' => e = .returned (.int .i64 6) ∧ w = w' := by
  go_enter Tryd.func151, Tryd.ntmps151
  go_wp2
  go_ret
  exact ⟨rfl, rfl⟩
theorem spec_level_29 (s : ByteArray) (w : World) (h : s.toList = [62, 62]) : Calls Tryd.prog 151 #[.string s] w fun e w' => e = .returned (.int .i64 6) ∧ w = w' := by
  go_enter Tryd.func151, Tryd.ntmps151
  go_wp2
  go_ret
  exact ⟨rfl, rfl⟩
theorem spec_level_30 (s : ByteArray) (w : World) (h : s.toList = [126, 61, 61]) : Calls Tryd.prog 151 #[.string s] w fun e w' => e = .returned (.int .i64 6) ∧ w = w' := by
  go_enter Tryd.func151, Tryd.ntmps151
  go_wp2
  go_ret
  exact ⟨rfl, rfl⟩
theorem spec_level_31 (s : ByteArray) (w : World) (h : s.toList = [61, 61, 61]) : Calls Tryd.prog 151 #[.string s] w fun e w' => e = .returned (.int .i64 6) ∧ w = w' := by
  go_enter Tryd.func151, Tryd.ntmps151
  go_wp2
  go_ret
  exact ⟨rfl, rfl⟩
theorem spec_level_32 (s : ByteArray) (w : World) (h : s.toList = [126, 61, 61, 61]) : Calls Tryd.prog 151 #[.string s] w fun e w' => e = .returned (.int .i64 6) ∧ w = w' := by
  go_enter Tryd.func151, Tryd.ntmps151
  go_wp2
  go_ret
  exact ⟨rfl, rfl⟩
theorem spec_level_33 (s : ByteArray) (w : World) (h : s.toList = [63, 63]) : Calls Tryd.prog 151 #[.string s] w fun e w' => e = .returned (.int .i64 6) ∧ w = w' := by
  go_enter Tryd.func151, Tryd.ntmps151
  go_wp2
  go_ret
  exact ⟨rfl, rfl⟩
theorem spec_level_34 (s : ByteArray) (w : World) (h : s.toList = [124, 124]) : Calls Tryd.prog 151 #[.string s] w fun e w' => e = .returned (.int .i64 7) ∧ w = w' := by
  go_enter Tryd.func151, Tryd.ntmps151
  go_wp2
  go_ret
  exact ⟨rfl, rfl⟩
theorem spec_level_35 (s : ByteArray) (w : World) (h : s.toList = [124, 124, 124]) : Calls Tryd.prog 151 #[.string s] w fun e w' => e = .returned (.int .i64 7) ∧ w = w' := by
  go_enter Tryd.func151, Tryd.ntmps151
  go_wp2
  go_ret
  exact ⟨rfl, rfl⟩
theorem spec_level_36 (s : ByteArray) (w : World) (h : s.toList = [43]) : Calls Tryd.prog 151 #[.string s] w fun e w' => e = .returned (.int .i64 8) ∧ w = w' := by
  go_enter Tryd.func151, Tryd.ntmps151
  go_wp2
  go_ret
  exact ⟨rfl, rfl⟩
theorem spec_level_37 (s : ByteArray) (w : World) (h : s.toList = [45]) : Calls Tryd.prog 151 #[.string s] w fun e w' => e = .returned (.int .i64 8) ∧ w = w' := by
  go_enter Tryd.func151, Tryd.ntmps151
  go_wp2
  go_ret
  exact ⟨rfl, rfl⟩
theorem spec_level_38 (s : ByteArray) (w : World) (h : s.toList = [43, 43]) : Calls Tryd.prog 151 #[.string s] w fun e w' => e = .returned (.int .i64 8) ∧ w = w' := by
  go_enter Tryd.func151, Tryd.ntmps151
  go_wp2
  go_ret
  exact ⟨rfl, rfl⟩
theorem spec_level_39 (s : ByteArray) (w : World) (h : s.toList = [45, 45]) : Calls Tryd.prog 151 #[.string s] w fun e w' => e = .returned (.int .i64 8) ∧ w = w' := by
  go_enter Tryd.func151, Tryd.ntmps151
  go_wp2
  go_ret
  exact ⟨rfl, rfl⟩
theorem spec_level_40 (s : ByteArray) (w : World) (h : s.toList = [42]) : Calls Tryd.prog 151 #[.string s] w fun e w' => e = .returned (.int .i64 9) ∧ w = w' := by
  go_enter Tryd.func151, Tryd.ntmps151
  go_wp2
  go_ret
  exact ⟨rfl, rfl⟩
theorem spec_level_41 (s : ByteArray) (w : World) (h : s.toList = [47]) : Calls Tryd.prog 151 #[.string s] w fun e w' => e = .returned (.int .i64 9) ∧ w = w' := by
  go_enter Tryd.func151, Tryd.ntmps151
  go_wp2
  go_ret
  exact ⟨rfl, rfl⟩
theorem spec_level_42 (s : ByteArray) (w : World) (h : s.toList = [37]) : Calls Tryd.prog 151 #[.string s] w fun e w' => e = .returned (.int .i64 9) ∧ w = w' := by
  go_enter Tryd.func151, Tryd.ntmps151
  go_wp2
  go_ret
  exact ⟨rfl, rfl⟩
theorem spec_level_43 (s : ByteArray) (w : World) (h : s.toList = [42, 42]) : Calls Tryd.prog 151 #[.string s] w fun e w' => e = .returned (.int .i64 9) ∧ w = w' := by
  go_enter Tryd.func151, Tryd.ntmps151
  go_wp2
  go_ret
  exact ⟨rfl, rfl⟩
theorem spec_level_44 (s : ByteArray) (w : World) (h : s.toList = [94]) : Calls Tryd.prog 151 #[.string s] w fun e w' => e = .returned (.int .i64 10) ∧ w = w' := by
  go_enter Tryd.func151, Tryd.ntmps151
  go_wp2
  go_ret
  exact ⟨rfl, rfl⟩
theorem spec_level_45 (s : ByteArray) (w : World) (h : s.toList = [92]) : Calls Tryd.prog 151 #[.string s] w fun e w' => e = .returned (.int .i64 11) ∧ w = w' := by
  go_enter Tryd.func151, Tryd.ntmps151
  go_wp2
  go_ret
  exact ⟨rfl, rfl⟩
theorem spec_level_46 (s : ByteArray) (w : World) (h : s.toList = [45, 62]) : Calls Tryd.prog 151 #[.string s] w fun e w' => e = .returned (.int .i64 11) ∧ w = w' := by
  go_enter Tryd.func151, Tryd.ntmps151
  go_wp2
  go_ret
  exact ⟨rfl, rfl⟩
theorem spec_level_47 (s : ByteArray) (w : World) (h : s.toList = [61, 62]) : Calls Tryd.prog 151 #[.string s] w fun e w' => e = .returned (.int .i64 11) ∧ w = w' := by
  go_enter Tryd.func151, Tryd.ntmps151
  go_wp2
  go_ret
  exact ⟨rfl, rfl⟩
theorem spec_level_no (s : ByteArray) (w : World) (h0 : (s.toList == [38]) = false) (h1 : (s.toList == [63]) = false) (h2 : (s.toList == [58, 61]) = false) (h3 : (s.toList == [60, 45]) = false) (h4 : (s.toList == [58, 61, 58]) = false) (h5 : (s.toList == [60, 45, 62]) = false) (h6 : (s.toList == [43, 58, 61]) = false) (h7 : (s.toList == [45, 58, 61]) = false) (h8 : (s.toList == [42, 58, 61]) = false) (h9 : (s.toList == [47, 58, 61]) = false) (h10 : (s.toList == [37, 58, 61]) = false) (h11 : (s.toList == [94, 58, 61]) = false) (h12 : (s.toList == [124, 124, 58, 61]) = false) (h13 : (s.toList == [124, 124, 124, 58, 61]) = false) (h14 : (s.toList == [43, 43, 58, 61]) = false) (h15 : (s.toList == [45, 45, 58, 61]) = false) (h16 : (s.toList == [42, 42, 58, 61]) = false) (h17 : (s.toList == [124]) = false) (h18 : (s.toList == [46, 124]) = false) (h19 : (s.toList == [60]) = false) (h20 : (s.toList == [60, 61]) = false) (h21 : (s.toList == [61]) = false) (h22 : (s.toList == [62, 61]) = false) (h23 : (s.toList == [62]) = false) (h24 : (s.toList == [126, 61]) = false) (h25 : (s.toList == [60, 60]) = false) (h26 : (s.toList == [60, 60, 61]) = false) (h27 : (s.toList == [61, 61]) = false) (h28 : (s.toList == [62, 62, 61]) = false) (h29 : (s.toList == [62, 62]) = false) (h30 : (s.toList == [126, 61, 61]) = false) (h31 : (s.toList == [61, 61, 61]) = false) (h32 : (s.toList == [126, 61, 61, 61]) = false) (h33 : (s.toList == [63, 63]) = false) (h34 : (s.toList == [124, 124]) = false) (h35 : (s.toList == [124, 124, 124]) = false) (h36 : (s.toList == [43]) = false) (h37 : (s.toList == [45]) = false) (h38 : (s.toList == [43, 43]) = false) (h39 : (s.toList == [45, 45]) = false) (h40 : (s.toList == [42]) = false) (h41 : (s.toList == [47]) = false) (h42 : (s.toList == [37]) = false) (h43 : (s.toList == [42, 42]) = false) (h44 : (s.toList == [94]) = false) (h45 : (s.toList == [92]) = false) (h46 : (s.toList == [45, 62]) = false) (h47 : (s.toList == [61, 62]) = false) : Calls Tryd.prog 151 #[.string s] w fun e w' => e = .returned (.int .i64 0) ∧ w = w' := by
  go_enter Tryd.func151, Tryd.ntmps151
  go_wp2
  go_ret
  exact ⟨rfl, rfl⟩
theorem spec_level (s : ByteArray) (w : World) : Calls Tryd.prog 151 #[.string s] w fun e w' => e = .returned (.int .i64 (Ex.lvl s.data.toList)) ∧ w = w' := by
  rw [← ByteArray.toList_eq]
  by_cases h0 : s.toList = [38]
  · rw [show Ex.lvl s.toList = 1 by rw [h0]; decide]; exact spec_level_0 s w h0
  by_cases h1 : s.toList = [63]
  · rw [show Ex.lvl s.toList = 2 by rw [h1]; decide]; exact spec_level_1 s w h1
  by_cases h2 : s.toList = [58, 61]
  · rw [show Ex.lvl s.toList = 3 by rw [h2]; decide]; exact spec_level_2 s w h2
  by_cases h3 : s.toList = [60, 45]
  · rw [show Ex.lvl s.toList = 3 by rw [h3]; decide]; exact spec_level_3 s w h3
  by_cases h4 : s.toList = [58, 61, 58]
  · rw [show Ex.lvl s.toList = 3 by rw [h4]; decide]; exact spec_level_4 s w h4
  by_cases h5 : s.toList = [60, 45, 62]
  · rw [show Ex.lvl s.toList = 3 by rw [h5]; decide]; exact spec_level_5 s w h5
  by_cases h6 : s.toList = [43, 58, 61]
  · rw [show Ex.lvl s.toList = 3 by rw [h6]; decide]; exact spec_level_6 s w h6
  by_cases h7 : s.toList = [45, 58, 61]
  · rw [show Ex.lvl s.toList = 3 by rw [h7]; decide]; exact spec_level_7 s w h7
  by_cases h8 : s.toList = [42, 58, 61]
  · rw [show Ex.lvl s.toList = 3 by rw [h8]; decide]; exact spec_level_8 s w h8
  by_cases h9 : s.toList = [47, 58, 61]
  · rw [show Ex.lvl s.toList = 3 by rw [h9]; decide]; exact spec_level_9 s w h9
  by_cases h10 : s.toList = [37, 58, 61]
  · rw [show Ex.lvl s.toList = 3 by rw [h10]; decide]; exact spec_level_10 s w h10
  by_cases h11 : s.toList = [94, 58, 61]
  · rw [show Ex.lvl s.toList = 3 by rw [h11]; decide]; exact spec_level_11 s w h11
  by_cases h12 : s.toList = [124, 124, 58, 61]
  · rw [show Ex.lvl s.toList = 3 by rw [h12]; decide]; exact spec_level_12 s w h12
  by_cases h13 : s.toList = [124, 124, 124, 58, 61]
  · rw [show Ex.lvl s.toList = 3 by rw [h13]; decide]; exact spec_level_13 s w h13
  by_cases h14 : s.toList = [43, 43, 58, 61]
  · rw [show Ex.lvl s.toList = 3 by rw [h14]; decide]; exact spec_level_14 s w h14
  by_cases h15 : s.toList = [45, 45, 58, 61]
  · rw [show Ex.lvl s.toList = 3 by rw [h15]; decide]; exact spec_level_15 s w h15
  by_cases h16 : s.toList = [42, 42, 58, 61]
  · rw [show Ex.lvl s.toList = 3 by rw [h16]; decide]; exact spec_level_16 s w h16
  by_cases h17 : s.toList = [124]
  · rw [show Ex.lvl s.toList = 5 by rw [h17]; decide]; exact spec_level_17 s w h17
  by_cases h18 : s.toList = [46, 124]
  · rw [show Ex.lvl s.toList = 5 by rw [h18]; decide]; exact spec_level_18 s w h18
  by_cases h19 : s.toList = [60]
  · rw [show Ex.lvl s.toList = 6 by rw [h19]; decide]; exact spec_level_19 s w h19
  by_cases h20 : s.toList = [60, 61]
  · rw [show Ex.lvl s.toList = 6 by rw [h20]; decide]; exact spec_level_20 s w h20
  by_cases h21 : s.toList = [61]
  · rw [show Ex.lvl s.toList = 6 by rw [h21]; decide]; exact spec_level_21 s w h21
  by_cases h22 : s.toList = [62, 61]
  · rw [show Ex.lvl s.toList = 6 by rw [h22]; decide]; exact spec_level_22 s w h22
  by_cases h23 : s.toList = [62]
  · rw [show Ex.lvl s.toList = 6 by rw [h23]; decide]; exact spec_level_23 s w h23
  by_cases h24 : s.toList = [126, 61]
  · rw [show Ex.lvl s.toList = 6 by rw [h24]; decide]; exact spec_level_24 s w h24
  by_cases h25 : s.toList = [60, 60]
  · rw [show Ex.lvl s.toList = 6 by rw [h25]; decide]; exact spec_level_25 s w h25
  by_cases h26 : s.toList = [60, 60, 61]
  · rw [show Ex.lvl s.toList = 6 by rw [h26]; decide]; exact spec_level_26 s w h26
  by_cases h27 : s.toList = [61, 61]
  · rw [show Ex.lvl s.toList = 6 by rw [h27]; decide]; exact spec_level_27 s w h27
  by_cases h28 : s.toList = [62, 62, 61]
  · rw [show Ex.lvl s.toList = 6 by rw [h28]; decide]; exact spec_level_28 s w h28
  by_cases h29 : s.toList = [62, 62]
  · rw [show Ex.lvl s.toList = 6 by rw [h29]; decide]; exact spec_level_29 s w h29
  by_cases h30 : s.toList = [126, 61, 61]
  · rw [show Ex.lvl s.toList = 6 by rw [h30]; decide]; exact spec_level_30 s w h30
  by_cases h31 : s.toList = [61, 61, 61]
  · rw [show Ex.lvl s.toList = 6 by rw [h31]; decide]; exact spec_level_31 s w h31
  by_cases h32 : s.toList = [126, 61, 61, 61]
  · rw [show Ex.lvl s.toList = 6 by rw [h32]; decide]; exact spec_level_32 s w h32
  by_cases h33 : s.toList = [63, 63]
  · rw [show Ex.lvl s.toList = 6 by rw [h33]; decide]; exact spec_level_33 s w h33
  by_cases h34 : s.toList = [124, 124]
  · rw [show Ex.lvl s.toList = 7 by rw [h34]; decide]; exact spec_level_34 s w h34
  by_cases h35 : s.toList = [124, 124, 124]
  · rw [show Ex.lvl s.toList = 7 by rw [h35]; decide]; exact spec_level_35 s w h35
  by_cases h36 : s.toList = [43]
  · rw [show Ex.lvl s.toList = 8 by rw [h36]; decide]; exact spec_level_36 s w h36
  by_cases h37 : s.toList = [45]
  · rw [show Ex.lvl s.toList = 8 by rw [h37]; decide]; exact spec_level_37 s w h37
  by_cases h38 : s.toList = [43, 43]
  · rw [show Ex.lvl s.toList = 8 by rw [h38]; decide]; exact spec_level_38 s w h38
  by_cases h39 : s.toList = [45, 45]
  · rw [show Ex.lvl s.toList = 8 by rw [h39]; decide]; exact spec_level_39 s w h39
  by_cases h40 : s.toList = [42]
  · rw [show Ex.lvl s.toList = 9 by rw [h40]; decide]; exact spec_level_40 s w h40
  by_cases h41 : s.toList = [47]
  · rw [show Ex.lvl s.toList = 9 by rw [h41]; decide]; exact spec_level_41 s w h41
  by_cases h42 : s.toList = [37]
  · rw [show Ex.lvl s.toList = 9 by rw [h42]; decide]; exact spec_level_42 s w h42
  by_cases h43 : s.toList = [42, 42]
  · rw [show Ex.lvl s.toList = 9 by rw [h43]; decide]; exact spec_level_43 s w h43
  by_cases h44 : s.toList = [94]
  · rw [show Ex.lvl s.toList = 10 by rw [h44]; decide]; exact spec_level_44 s w h44
  by_cases h45 : s.toList = [92]
  · rw [show Ex.lvl s.toList = 11 by rw [h45]; decide]; exact spec_level_45 s w h45
  by_cases h46 : s.toList = [45, 62]
  · rw [show Ex.lvl s.toList = 11 by rw [h46]; decide]; exact spec_level_46 s w h46
  by_cases h47 : s.toList = [61, 62]
  · rw [show Ex.lvl s.toList = 11 by rw [h47]; decide]; exact spec_level_47 s w h47
  rw [show Ex.lvl s.toList = 0 by simp only [Ex.lvl, Ex.levels, List.find?_cons, List.find?_nil, beq_eq_false_iff_ne.2 h0, beq_eq_false_iff_ne.2 h1, beq_eq_false_iff_ne.2 h2, beq_eq_false_iff_ne.2 h3, beq_eq_false_iff_ne.2 h4, beq_eq_false_iff_ne.2 h5, beq_eq_false_iff_ne.2 h6, beq_eq_false_iff_ne.2 h7, beq_eq_false_iff_ne.2 h8, beq_eq_false_iff_ne.2 h9, beq_eq_false_iff_ne.2 h10, beq_eq_false_iff_ne.2 h11, beq_eq_false_iff_ne.2 h12, beq_eq_false_iff_ne.2 h13, beq_eq_false_iff_ne.2 h14, beq_eq_false_iff_ne.2 h15, beq_eq_false_iff_ne.2 h16, beq_eq_false_iff_ne.2 h17, beq_eq_false_iff_ne.2 h18, beq_eq_false_iff_ne.2 h19, beq_eq_false_iff_ne.2 h20, beq_eq_false_iff_ne.2 h21, beq_eq_false_iff_ne.2 h22, beq_eq_false_iff_ne.2 h23, beq_eq_false_iff_ne.2 h24, beq_eq_false_iff_ne.2 h25, beq_eq_false_iff_ne.2 h26, beq_eq_false_iff_ne.2 h27, beq_eq_false_iff_ne.2 h28, beq_eq_false_iff_ne.2 h29, beq_eq_false_iff_ne.2 h30, beq_eq_false_iff_ne.2 h31, beq_eq_false_iff_ne.2 h32, beq_eq_false_iff_ne.2 h33, beq_eq_false_iff_ne.2 h34, beq_eq_false_iff_ne.2 h35, beq_eq_false_iff_ne.2 h36, beq_eq_false_iff_ne.2 h37, beq_eq_false_iff_ne.2 h38, beq_eq_false_iff_ne.2 h39, beq_eq_false_iff_ne.2 h40, beq_eq_false_iff_ne.2 h41, beq_eq_false_iff_ne.2 h42, beq_eq_false_iff_ne.2 h43, beq_eq_false_iff_ne.2 h44, beq_eq_false_iff_ne.2 h45, beq_eq_false_iff_ne.2 h46, beq_eq_false_iff_ne.2 h47]]
  exact spec_level_no s w (beq_eq_false_iff_ne.2 h0) (beq_eq_false_iff_ne.2 h1) (beq_eq_false_iff_ne.2 h2) (beq_eq_false_iff_ne.2 h3) (beq_eq_false_iff_ne.2 h4) (beq_eq_false_iff_ne.2 h5) (beq_eq_false_iff_ne.2 h6) (beq_eq_false_iff_ne.2 h7) (beq_eq_false_iff_ne.2 h8) (beq_eq_false_iff_ne.2 h9) (beq_eq_false_iff_ne.2 h10) (beq_eq_false_iff_ne.2 h11) (beq_eq_false_iff_ne.2 h12) (beq_eq_false_iff_ne.2 h13) (beq_eq_false_iff_ne.2 h14) (beq_eq_false_iff_ne.2 h15) (beq_eq_false_iff_ne.2 h16) (beq_eq_false_iff_ne.2 h17) (beq_eq_false_iff_ne.2 h18) (beq_eq_false_iff_ne.2 h19) (beq_eq_false_iff_ne.2 h20) (beq_eq_false_iff_ne.2 h21) (beq_eq_false_iff_ne.2 h22) (beq_eq_false_iff_ne.2 h23) (beq_eq_false_iff_ne.2 h24) (beq_eq_false_iff_ne.2 h25) (beq_eq_false_iff_ne.2 h26) (beq_eq_false_iff_ne.2 h27) (beq_eq_false_iff_ne.2 h28) (beq_eq_false_iff_ne.2 h29) (beq_eq_false_iff_ne.2 h30) (beq_eq_false_iff_ne.2 h31) (beq_eq_false_iff_ne.2 h32) (beq_eq_false_iff_ne.2 h33) (beq_eq_false_iff_ne.2 h34) (beq_eq_false_iff_ne.2 h35) (beq_eq_false_iff_ne.2 h36) (beq_eq_false_iff_ne.2 h37) (beq_eq_false_iff_ne.2 h38) (beq_eq_false_iff_ne.2 h39) (beq_eq_false_iff_ne.2 h40) (beq_eq_false_iff_ne.2 h41) (beq_eq_false_iff_ne.2 h42) (beq_eq_false_iff_ne.2 h43) (beq_eq_false_iff_ne.2 h44) (beq_eq_false_iff_ne.2 h45) (beq_eq_false_iff_ne.2 h46) (beq_eq_false_iff_ne.2 h47)

theorem spec_unary (s : ByteArray) (w : World) : Calls Tryd.prog 150 #[.string s] w fun e w' => e = .returned (.bool (hasW Ex.unary s.data.toList)) ∧ Below w.heap.size w w' := by
  have HH : Hid (Calls Tryd.prog 89 #[.slice (some ⟨w.heap.size, 0, none⟩) 13 13, .string s] (w.alloc (.cells (Ex.unary.map fun x => Value.string (str8 x)).toArray 9)) fun e w' => e = .returned (.bool (hasW Ex.unary s.data.toList)) ∧ (w.alloc (.cells (Ex.unary.map fun x => Value.string (str8 x)).toArray 9)) = w') :=
    spec_hasw Ex.unary w.heap.size 13 s _ (words_new w Ex.unary 9 _ rfl) (words_lt _ (by decide))
  generalize hasW Ex.unary s.data.toList = b at HH ⊢
  go_enter Tryd.func150, Tryd.ntmps150
  go_wp2_with fail
  refine HH.out.mono ?_
  rintro e w1 ⟨rfl, rfl⟩
  go_wp2
  go_ret
  exact ⟨rfl, bl1 _ _⟩
end Go.Proofs.YtbadepiakkhabaaDoor
/- What a node's text must be, in the reference model. No conditions. -/
namespace Go.Proofs.YtbadepiakkhabaaDoor
open Go.RowKit
set_option linter.unusedVariables false

theorem words_2 (t : Ex.T) (v : Value) (w : World) (hs : (t.text.size : Int) ≤ 1048576) (h : t.kind = 2) : Calls Tryd.prog 137 #[exV t v] w fun e w' => e = .returned (.bool (decide ((t.text.size : Int) ≤ 120))) ∧ Below w.heap.size w w' := by
  go_enter Tryd.func137, Tryd.ntmps137
  go_wp2
  go_ret
  exact ⟨rfl, bl1 _ _⟩
theorem words_4 (t : Ex.T) (v : Value) (w : World) (hs : (t.text.size : Int) ≤ 1048576) (h : t.kind = 4) : Calls Tryd.prog 137 #[exV t v] w fun e w' => e = .returned (.bool (Tk.isName t.text.data.toList)) ∧ Below w.heap.size w w' := by
  have HC := Lib.hid (fun wr => spec_name t.text wr hs)
  clear hs
  go_enter Tryd.func137, Tryd.ntmps137
  go_wp2_with (go_at_call 28; refine (HC.out _).mono ?_; rintro e w1 ⟨rfl, hb⟩; have HB := Lib.hid (below_then (bl1 _ _) hb); clear hb)
  go_ret
  exact ⟨rfl, HB.out⟩
theorem words_13 (t : Ex.T) (v : Value) (w : World) (hs : (t.text.size : Int) ≤ 1048576) (h : t.kind = 13) : Calls Tryd.prog 137 #[exV t v] w fun e w' => e = .returned (.bool (Tk.isName t.text.data.toList)) ∧ Below w.heap.size w w' := by
  have HC := Lib.hid (fun wr => spec_name t.text wr hs)
  clear hs
  go_enter Tryd.func137, Tryd.ntmps137
  go_wp2_with (go_at_call 28; refine (HC.out _).mono ?_; rintro e w1 ⟨rfl, hb⟩; have HB := Lib.hid (below_then (bl1 _ _) hb); clear hb)
  go_ret
  exact ⟨rfl, HB.out⟩
theorem words_28 (t : Ex.T) (v : Value) (w : World) (hs : (t.text.size : Int) ≤ 1048576) (h : t.kind = 28) : Calls Tryd.prog 137 #[exV t v] w fun e w' => e = .returned (.bool (Tk.isName t.text.data.toList)) ∧ Below w.heap.size w w' := by
  have HC := Lib.hid (fun wr => spec_name t.text wr hs)
  clear hs
  go_enter Tryd.func137, Tryd.ntmps137
  go_wp2_with (go_at_call 28; refine (HC.out _).mono ?_; rintro e w1 ⟨rfl, hb⟩; have HB := Lib.hid (below_then (bl1 _ _) hb); clear hb)
  go_ret
  exact ⟨rfl, HB.out⟩
theorem words_5 (t : Ex.T) (v : Value) (w : World) (hs : (t.text.size : Int) ≤ 1048576) (h : t.kind = 5) : Calls Tryd.prog 137 #[exV t v] w fun e w' => e = .returned (.bool (hasW Tk.keywords t.text.data.toList)) ∧ Below w.heap.size w w' := by
  have HC := Lib.hid (fun wr => spec_keyword t.text wr)
  clear hs
  go_enter Tryd.func137, Tryd.ntmps137
  go_wp2_with (go_at_call 149; refine (HC.out _).mono ?_; rintro e w1 ⟨rfl, hb⟩; have HB := Lib.hid (below_then (bl1 _ _) hb); clear hb)
  go_ret
  exact ⟨rfl, HB.out⟩
theorem words_7 (t : Ex.T) (v : Value) (w : World) (hs : (t.text.size : Int) ≤ 1048576) (h : t.kind = 7) : Calls Tryd.prog 137 #[exV t v] w fun e w' => e = .returned (.bool (hasW Ex.unary t.text.data.toList)) ∧ Below w.heap.size w w' := by
  have HC := Lib.hid (fun wr => spec_unary t.text wr)
  clear hs
  go_enter Tryd.func137, Tryd.ntmps137
  go_wp2_with (go_at_call 150; refine (HC.out _).mono ?_; rintro e w1 ⟨rfl, hb⟩; have HB := Lib.hid (below_then (bl1 _ _) hb); clear hb)
  go_ret
  exact ⟨rfl, HB.out⟩
theorem words_8 (t : Ex.T) (v : Value) (w : World) (hs : (t.text.size : Int) ≤ 1048576) (h : t.kind = 8) : Calls Tryd.prog 137 #[exV t v] w fun e w' => e = .returned (.bool (decide (0 < Ex.lvl t.text.data.toList))) ∧ Below w.heap.size w w' := by
  have HC := Lib.hid (fun wr => spec_level t.text wr)
  clear hs
  go_enter Tryd.func137, Tryd.ntmps137
  go_wp2_with (go_at_call 151; refine (HC.out _).mono ?_; rintro e w1 ⟨rfl, hb⟩; subst hb)
  go_ret
  exact ⟨by simp, bl1 _ _⟩
theorem words_no (t : Ex.T) (v : Value) (w : World) (h2 : (t.kind == 2) = false) (h3 : (t.kind == 3) = false) (h4 : (t.kind == 4) = false) (h13 : (t.kind == 13) = false) (h28 : (t.kind == 28) = false) (h5 : (t.kind == 5) = false) (h7 : (t.kind == 7) = false) (h8 : (t.kind == 8) = false) : Calls Tryd.prog 137 #[exV t v] w fun e w' => e = .returned (.bool t.text.toList.isEmpty) ∧ Below w.heap.size w w' := by
  go_enter Tryd.func137, Tryd.ntmps137
  go_wp2
  go_ret
  exact ⟨rfl, bl1 _ _⟩
theorem words_3a (t : Ex.T) (v : Value) (w : World) (hs : (t.text.size : Int) ≤ 1048576) (h : t.kind = 3) (hg : Cs.good t.text = true) : Calls Tryd.prog 137 #[exV t v] w fun e w' => e = .returned (.bool ((txt (Cs.text (Cs.newL t.text) (Cs.newH t.text))).toList == t.text.toList)) ∧ Below w.heap.size w w' := by
  have HC := Lib.hid (fun wr => spec_new t.text (by unfold maxLen; omega) wr)
  rw [hg] at HC
  clear hs hg
  have HT := Lib.hid (fun wr => spec_text (Cs.newL t.text) (Cs.newH t.text) wr)
  have HE := Lib.hid (CellsE.new w t v 105)
  rw [h] at HE
  generalize Cs.newL t.text = a at HC HT ⊢
  generalize Cs.newH t.text = b at HC HT ⊢
  generalize txt (Cs.text a b) = y at HT ⊢
  go_enter Tryd.func137, Tryd.ntmps137
  go_wp2_with (go_at_call 60; refine (HC.out _).mono ?_; rintro e w1 ⟨rfl, hb⟩; have HB := Lib.hid (below_then (bl1 _ _) hb); obtain ⟨e0, e1, e2, e3, e4⟩ := HE.out.later hb; clear hb e0 e2 e3 e4)
  go_wp2_with fail
  go_region_held3 (fun w' => w'.cell? ⟨w.heap.size, 1, none⟩ = some (.string t.text) ∧ w'.cell? ⟨w1.heap.size, 0, none⟩ = some (.int .i64 a) ∧ w'.cell? ⟨w1.heap.size, 1, none⟩ = some (.int .i64 b) ∧ Below w.heap.size w w')
    (first | ((refine ⟨?_, ?_, ?_, ?_⟩) <;> first | go_keep | exact ((HB.out.alloc HB.out.size _)).drew) | (go_split_ands; exact ⟨cell_later (by assumption) (by assumption), cell_later (by assumption) (by assumption), cell_later (by assumption) (by assumption), below_step (by assumption) (by assumption)⟩))
    (first | (go_at_call 61; refine (HT.out _).mono ?_; rintro e w2 ⟨rfl, hb2⟩))
  go_wp2
  go_ret
  refine ⟨rfl, ?_⟩
  first | exact (HB.out.alloc HB.out.size _).drew | exact HB.out.alloc HB.out.size _ | exact below_drewN (HB.out.alloc HB.out.size _) _ | (go_split_ands; assumption)
theorem words_3b (t : Ex.T) (v : Value) (w : World) (hs : (t.text.size : Int) ≤ 1048576) (h : t.kind = 3) (hg : Cs.good t.text = false) : Calls Tryd.prog 137 #[exV t v] w fun e w' => e = .returned (.bool (false)) ∧ Below w.heap.size w w' := by
  have HC := Lib.hid (fun wr => spec_new t.text (by unfold maxLen; omega) wr)
  rw [hg] at HC
  clear hs hg
  have HT := Lib.hid (fun wr => spec_text (Cs.newL t.text) (Cs.newH t.text) wr)
  have HE := Lib.hid (CellsE.new w t v 105)
  rw [h] at HE
  generalize Cs.newL t.text = a at HC HT ⊢
  generalize Cs.newH t.text = b at HC HT ⊢
  generalize txt (Cs.text a b) = y at HT ⊢
  go_enter Tryd.func137, Tryd.ntmps137
  go_wp2_with (go_at_call 60; refine (HC.out _).mono ?_; rintro e w1 ⟨rfl, hb⟩; have HB := Lib.hid (below_then (bl1 _ _) hb); obtain ⟨e0, e1, e2, e3, e4⟩ := HE.out.later hb; clear hb e0 e2 e3 e4)
  go_wp2_with fail
  go_quiet (fail)
  go_wp2
  go_ret
  refine ⟨rfl, ?_⟩
  first | exact (HB.out.alloc HB.out.size _).drew | exact HB.out.alloc HB.out.size _ | exact below_drewN (HB.out.alloc HB.out.size _) _ | (go_split_ands; assumption)
/-- What the text of a node of this kind must be. -/
def Ex.words (k : Int) (s : ByteArray) : Bool :=
  if k = 2 then decide ((s.size : Int) ≤ 120) else if k = 3 then (Cs.good s && ((txt (Cs.text (Cs.newL s) (Cs.newH s))).toList == s.toList)) else if k = 4 then Tk.isName s.data.toList else if k = 13 then Tk.isName s.data.toList else if k = 28 then Tk.isName s.data.toList
  else if k = 5 then hasW Tk.keywords s.data.toList else if k = 7 then hasW Ex.unary s.data.toList else if k = 8 then decide (0 < Ex.lvl s.data.toList) else s.toList.isEmpty
theorem spec_words (t : Ex.T) (v : Value) (w : World) (hs : (t.text.size : Int) ≤ 1048576) : Calls Tryd.prog 137 #[exV t v] w fun e w' => e = .returned (.bool (Ex.words t.kind t.text)) ∧ Below w.heap.size w w' := by
  unfold Ex.words
  by_cases h2 : t.kind = 2
  · rw [if_pos h2]; exact words_2 t v w hs h2
  rw [if_neg h2]
  by_cases h3 : t.kind = 3
  · rw [if_pos h3]
    by_cases hg : Cs.good t.text = true
    · rw [hg, Bool.true_and]; exact words_3a t v w hs h3 hg
    · rw [Bool.not_eq_true] at hg
      rw [hg, Bool.false_and]; exact words_3b t v w hs h3 hg
  rw [if_neg h3]
  by_cases h4 : t.kind = 4
  · rw [if_pos h4]; exact words_4 t v w hs h4
  rw [if_neg h4]
  by_cases h13 : t.kind = 13
  · rw [if_pos h13]; exact words_13 t v w hs h13
  rw [if_neg h13]
  by_cases h28 : t.kind = 28
  · rw [if_pos h28]; exact words_28 t v w hs h28
  rw [if_neg h28]
  by_cases h5 : t.kind = 5
  · rw [if_pos h5]; exact words_5 t v w hs h5
  rw [if_neg h5]
  by_cases h7 : t.kind = 7
  · rw [if_pos h7]; exact words_7 t v w hs h7
  rw [if_neg h7]
  by_cases h8 : t.kind = 8
  · rw [if_pos h8]; exact words_8 t v w hs h8
  rw [if_neg h8]
  exact words_no t v w (beq_eq_false_iff_ne.2 h2) (beq_eq_false_iff_ne.2 h3) (beq_eq_false_iff_ne.2 h4) (beq_eq_false_iff_ne.2 h13) (beq_eq_false_iff_ne.2 h28) (beq_eq_false_iff_ne.2 h5) (beq_eq_false_iff_ne.2 h7) (beq_eq_false_iff_ne.2 h8)
end Go.Proofs.YtbadepiakkhabaaDoor
