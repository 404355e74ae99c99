/- Joined texts: N1, EL. No conditions besides those that each states. -/
import Derived.Test.YtbadepiakkhabaaDoorZ3
import Derived.Test.YtbadepiakkhabaaDoorZ8
import Derived.Test.YtbadepiakkhabaaDoorZ9
import Derived.Test.YtbadepiakkhabaaDoorZ18
/- Operators in the program: levels, unary operators; the walks of their laws. No conditions. -/
namespace Go.Proofs.YtbadepiakkhabaaDoor
open Go.RowKit
set_option linter.unusedVariables false

theorem impl_level_0 (s : ByteArray) (w : World) (h : s.toList = [38]) : Calls Tryd.prog 166 #[.string s] w fun e w' => e = .returned (.int .i64 1) ∧ w = w' := by
  go_enter Tryd.func166, Tryd.ntmps166
  go_wp2
  go_ret
  exact ⟨rfl, rfl⟩
theorem impl_level_1 (s : ByteArray) (w : World) (h : s.toList = [63]) : Calls Tryd.prog 166 #[.string s] w fun e w' => e = .returned (.int .i64 2) ∧ w = w' := by
  go_enter Tryd.func166, Tryd.ntmps166
  go_wp2
  go_ret
  exact ⟨rfl, rfl⟩
theorem impl_level_2 (s : ByteArray) (w : World) (h : s.toList = [58, 61]) : Calls Tryd.prog 166 #[.string s] w fun e w' => e = .returned (.int .i64 3) ∧ w = w' := by
  go_enter Tryd.func166, Tryd.ntmps166
  go_wp2
  go_ret
  exact ⟨rfl, rfl⟩
theorem impl_level_3 (s : ByteArray) (w : World) (h : s.toList = [60, 45]) : Calls Tryd.prog 166 #[.string s] w fun e w' => e = .returned (.int .i64 3) ∧ w = w' := by
  go_enter Tryd.func166, Tryd.ntmps166
  go_wp2
  go_ret
  exact ⟨rfl, rfl⟩
theorem impl_level_4 (s : ByteArray) (w : World) (h : s.toList = [58, 61, 58]) : Calls Tryd.prog 166 #[.string s] w fun e w' => e = .returned (.int .i64 3) ∧ w = w' := by
  go_enter Tryd.func166, Tryd.ntmps166
  go_wp2
  go_ret
  exact ⟨rfl, rfl⟩
theorem impl_level_5 (s : ByteArray) (w : World) (h : s.toList = [60, 45, 62]) : Calls Tryd.prog 166 #[.string s] w fun e w' => e = .returned (.int .i64 3) ∧ w = w' := by
  go_enter Tryd.func166, Tryd.ntmps166
  go_wp2
  go_ret
  exact ⟨rfl, rfl⟩
theorem impl_level_6 (s : ByteArray) (w : World) (h : s.toList = [43, 58, 61]) : Calls Tryd.prog 166 #[.string s] w fun e w' => e = .returned (.int .i64 3) ∧ w = w' := by
  go_enter Tryd.func166, Tryd.ntmps166
  go_wp2
  go_ret
  exact ⟨rfl, rfl⟩
theorem impl_level_7 (s : ByteArray) (w : World) (h : s.toList = [45, 58, 61]) : Calls Tryd.prog 166 #[.string s] w fun e w' => e = .returned (.int .i64 3) ∧ w = w' := by
  go_enter Tryd.func166, Tryd.ntmps166
  go_wp2
  go_ret
  exact ⟨rfl, rfl⟩
theorem impl_level_8 (s : ByteArray) (w : World) (h : s.toList = [42, 58, 61]) : Calls Tryd.prog 166 #[.string s] w fun e w' => e = .returned (.int .i64 3) ∧ w = w' := by
  go_enter Tryd.func166, Tryd.ntmps166
  go_wp2
  go_ret
  exact ⟨rfl, rfl⟩
theorem impl_level_9 (s : ByteArray) (w : World) (h : s.toList = [47, 58, 61]) : Calls Tryd.prog 166 #[.string s] w fun e w' => e = .returned (.int .i64 3) ∧ w = w' := by
  go_enter Tryd.func166, Tryd.ntmps166
  go_wp2
  go_ret
  exact ⟨rfl, rfl⟩
theorem impl_level_10 (s : ByteArray) (w : World) (h : s.toList = [37, 58, 61]) : Calls Tryd.prog 166 #[.string s] w fun e w' => e = .returned (.int .i64 3) ∧ w = w' := by
  go_enter Tryd.func166, Tryd.ntmps166
  go_wp2
  go_ret
  exact ⟨rfl, rfl⟩
theorem impl_level_11 (s : ByteArray) (w : World) (h : s.toList = [94, 58, 61]) : Calls Tryd.prog 166 #[.string s] w fun e w' => e = .returned (.int .i64 3) ∧ w = w' := by
  go_enter Tryd.func166, Tryd.ntmps166
  go_wp2
  go_ret
  exact ⟨rfl, rfl⟩
theorem impl_level_12 (s : ByteArray) (w : World) (h : s.toList = [124, 124, 58, 61]) : Calls Tryd.prog 166 #[.string s] w fun e w' => e = .returned (.int .i64 3) ∧ w = w' := by
  go_enter Tryd.func166, Tryd.ntmps166
  go_wp2
  go_ret
  exact ⟨rfl, rfl⟩
theorem impl_level_13 (s : ByteArray) (w : World) (h : s.toList = [124, 124, 124, 58, 61]) : Calls Tryd.prog 166 #[.string s] w fun e w' => e = .returned (.int .i64 3) ∧ w = w' := by
  go_enter Tryd.func166, Tryd.ntmps166
  go_wp2
  go_ret
  exact ⟨rfl, rfl⟩
theorem impl_level_14 (s : ByteArray) (w : World) (h : s.toList = [43, 43, 58, 61]) : Calls Tryd.prog 166 #[.string s] w fun e w' => e = .returned (.int .i64 3) ∧ w = w' := by
  go_enter Tryd.func166, Tryd.ntmps166
  go_wp2
  go_ret
  exact ⟨rfl, rfl⟩
theorem impl_level_15 (s : ByteArray) (w : World) (h : s.toList = [45, 45, 58, 61]) : Calls Tryd.prog 166 #[.string s] w fun e w' => e = .returned (.int .i64 3) ∧ w = w' := by
  go_enter Tryd.func166, Tryd.ntmps166
  go_wp2
  go_ret
  exact ⟨rfl, rfl⟩
theorem impl_level_16 (s : ByteArray) (w : World) (h : s.toList = [42, 42, 58, 61]) : Calls Tryd.prog 166 #[.string s] w fun e w' => e = .returned (.int .i64 3) ∧ w = w' := by
  go_enter Tryd.func166, Tryd.ntmps166
  go_wp2
  go_ret
  exact ⟨rfl, rfl⟩
theorem impl_level_17 (s : ByteArray) (w : World) (h : s.toList = [124]) : Calls Tryd.prog 166 #[.string s] w fun e w' => e = .returned (.int .i64 5) ∧ w = w' := by
  go_enter Tryd.func166, Tryd.ntmps166
  go_wp2
  go_ret
  exact ⟨rfl, rfl⟩
theorem impl_level_18 (s : ByteArray) (w : World) (h : s.toList = [46, 124]) : Calls Tryd.prog 166 #[.string s] w fun e w' => e = .returned (.int .i64 5) ∧ w = w' := by
  go_enter Tryd.func166, Tryd.ntmps166
  go_wp2
  go_ret
  exact ⟨rfl, rfl⟩
theorem impl_level_19 (s : ByteArray) (w : World) (h : s.toList = [60]) : Calls Tryd.prog 166 #[.string s] w fun e w' => e = .returned (.int .i64 6) ∧ w = w' := by
  go_enter Tryd.func166, Tryd.ntmps166
  go_wp2
  go_ret
  exact ⟨rfl, rfl⟩
theorem impl_level_20 (s : ByteArray) (w : World) (h : s.toList = [60, 61]) : Calls Tryd.prog 166 #[.string s] w fun e w' => e = .returned (.int .i64 6) ∧ w = w' := by
  go_enter Tryd.func166, Tryd.ntmps166
  go_wp2
  go_ret
  exact ⟨rfl, rfl⟩
theorem impl_level_21 (s : ByteArray) (w : World) (h : s.toList = [61]) : Calls Tryd.prog 166 #[.string s] w fun e w' => e = .returned (.int .i64 6) ∧ w = w' := by
  go_enter Tryd.func166, Tryd.ntmps166
  go_wp2
  go_ret
  exact ⟨rfl, rfl⟩
theorem impl_level_22 (s : ByteArray) (w : World) (h : s.toList = [62, 61]) : Calls Tryd.prog 166 #[.string s] w fun e w' => e = .returned (.int .i64 6) ∧ w = w' := by
  go_enter Tryd.func166, Tryd.ntmps166
  go_wp2
  go_ret
  exact ⟨rfl, rfl⟩
theorem impl_level_23 (s : ByteArray) (w : World) (h : s.toList = [62]) : Calls Tryd.prog 166 #[.string s] w fun e w' => e = .returned (.int .i64 6) ∧ w = w' := by
  go_enter Tryd.func166, Tryd.ntmps166
  go_wp2
  go_ret
  exact ⟨rfl, rfl⟩
theorem impl_level_24 (s : ByteArray) (w : World) (h : s.toList = [126, 61]) : Calls Tryd.prog 166 #[.string s] w fun e w' => e = .returned (.int .i64 6) ∧ w = w' := by
  go_enter Tryd.func166, Tryd.ntmps166
  go_wp2
  go_ret
  exact ⟨rfl, rfl⟩
theorem impl_level_25 (s : ByteArray) (w : World) (h : s.toList = [60, 60]) : Calls Tryd.prog 166 #[.string s] w fun e w' => e = .returned (.int .i64 6) ∧ w = w' := by
  go_enter Tryd.func166, Tryd.ntmps166
  go_wp2
  go_ret
  exact ⟨rfl, rfl⟩
theorem impl_level_26 (s : ByteArray) (w : World) (h : s.toList = [60, 60, 61]) : Calls Tryd.prog 166 #[.string s] w fun e w' => e = .returned (.int .i64 6) ∧ w = w' := by
  go_enter Tryd.func166, Tryd.ntmps166
  go_wp2
  go_ret
  exact ⟨rfl, rfl⟩
theorem impl_level_27 (s : ByteArray) (w : World) (h : s.toList = [61, 61]) : Calls Tryd.prog 166 #[.string s] w fun e w' => e = .returned (.int .i64 6) ∧ w = w' := by
  go_enter Tryd.func166, Tryd.ntmps166
  go_wp2
  go_ret
  exact ⟨rfl, rfl⟩
theorem impl_level_28 (s : ByteArray) (w : World) (h : s.toList = [62, 62, 61]) : Calls Tryd.prog 166 #[.string s] w fun e w' => e = .returned (.int .i64 6) ∧ w = w' := by
  go_enter Tryd.func166, Tryd.ntmps166
  go_wp2
  go_ret
  exact ⟨rfl, rfl⟩
theorem impl_level_29 (s : ByteArray) (w : World) (h : s.toList = [62, 62]) : Calls Tryd.prog 166 #[.string s] w fun e w' => e = .returned (.int .i64 6) ∧ w = w' := by
  go_enter Tryd.func166, Tryd.ntmps166
  go_wp2
  go_ret
  exact ⟨rfl, rfl⟩
theorem impl_level_30 (s : ByteArray) (w : World) (h : s.toList = [126, 61, 61]) : Calls Tryd.prog 166 #[.string s] w fun e w' => e = .returned (.int .i64 6) ∧ w = w' := by
  go_enter Tryd.func166, Tryd.ntmps166
  go_wp2
  go_ret
  exact ⟨rfl, rfl⟩
theorem impl_level_31 (s : ByteArray) (w : World) (h : s.toList = [61, 61, 61]) : Calls Tryd.prog 166 #[.string s] w fun e w' => e = .returned (.int .i64 6) ∧ w = w' := by
  go_enter Tryd.func166, Tryd.ntmps166
  go_wp2
  go_ret
  exact ⟨rfl, rfl⟩
theorem impl_level_32 (s : ByteArray) (w : World) (h : s.toList = [126, 61, 61, 61]) : Calls Tryd.prog 166 #[.string s] w fun e w' => e = .returned (.int .i64 6) ∧ w = w' := by
  go_enter Tryd.func166, Tryd.ntmps166
  go_wp2
  go_ret
  exact ⟨rfl, rfl⟩
theorem impl_level_33 (s : ByteArray) (w : World) (h : s.toList = [63, 63]) : Calls Tryd.prog 166 #[.string s] w fun e w' => e = .returned (.int .i64 6) ∧ w = w' := by
  go_enter Tryd.func166, Tryd.ntmps166
  go_wp2
  go_ret
  exact ⟨rfl, rfl⟩
theorem impl_level_34 (s : ByteArray) (w : World) (h : s.toList = [124, 124]) : Calls Tryd.prog 166 #[.string s] w fun e w' => e = .returned (.int .i64 7) ∧ w = w' := by
  go_enter Tryd.func166, Tryd.ntmps166
  go_wp2
  go_ret
  exact ⟨rfl, rfl⟩
theorem impl_level_35 (s : ByteArray) (w : World) (h : s.toList = [124, 124, 124]) : Calls Tryd.prog 166 #[.string s] w fun e w' => e = .returned (.int .i64 7) ∧ w = w' := by
  go_enter Tryd.func166, Tryd.ntmps166
  go_wp2
  go_ret
  exact ⟨rfl, rfl⟩
theorem impl_level_36 (s : ByteArray) (w : World) (h : s.toList = [43]) : Calls Tryd.prog 166 #[.string s] w fun e w' => e = .returned (.int .i64 8) ∧ w = w' := by
  go_enter Tryd.func166, Tryd.ntmps166
  go_wp2
  go_ret
  exact ⟨rfl, rfl⟩
theorem impl_level_37 (s : ByteArray) (w : World) (h : s.toList = [45]) : Calls Tryd.prog 166 #[.string s] w fun e w' => e = .returned (.int .i64 8) ∧ w = w' := by
  go_enter Tryd.func166, Tryd.ntmps166
  go_wp2
  go_ret
  exact ⟨rfl, rfl⟩
theorem impl_level_38 (s : ByteArray) (w : World) (h : s.toList = [43, 43]) : Calls Tryd.prog 166 #[.string s] w fun e w' => e = .returned (.int .i64 8) ∧ w = w' := by
  go_enter Tryd.func166, Tryd.ntmps166
  go_wp2
  go_ret
  exact ⟨rfl, rfl⟩
theorem impl_level_39 (s : ByteArray) (w : World) (h : s.toList = [45, 45]) : Calls Tryd.prog 166 #[.string s] w fun e w' => e = .returned (.int .i64 8) ∧ w = w' := by
  go_enter Tryd.func166, Tryd.ntmps166
  go_wp2
  go_ret
  exact ⟨rfl, rfl⟩
theorem impl_level_40 (s : ByteArray) (w : World) (h : s.toList = [42]) : Calls Tryd.prog 166 #[.string s] w fun e w' => e = .returned (.int .i64 9) ∧ w = w' := by
  go_enter Tryd.func166, Tryd.ntmps166
  go_wp2
  go_ret
  exact ⟨rfl, rfl⟩
theorem impl_level_41 (s : ByteArray) (w : World) (h : s.toList = [47]) : Calls Tryd.prog 166 #[.string s] w fun e w' => e = .returned (.int .i64 9) ∧ w = w' := by
  go_enter Tryd.func166, Tryd.ntmps166
  go_wp2
  go_ret
  exact ⟨rfl, rfl⟩
theorem impl_level_42 (s : ByteArray) (w : World) (h : s.toList = [37]) : Calls Tryd.prog 166 #[.string s] w fun e w' => e = .returned (.int .i64 9) ∧ w = w' := by
  go_enter Tryd.func166, Tryd.ntmps166
  go_wp2
  go_ret
  exact ⟨rfl, rfl⟩
theorem impl_level_43 (s : ByteArray) (w : World) (h : s.toList = [42, 42]) : Calls Tryd.prog 166 #[.string s] w fun e w' => e = .returned (.int .i64 9) ∧ w = w' := by
  go_enter Tryd.func166, Tryd.ntmps166
  go_wp2
  go_ret
  exact ⟨rfl, rfl⟩
theorem impl_level_44 (s : ByteArray) (w : World) (h : s.toList = [94]) : Calls Tryd.prog 166 #[.string s] w fun e w' => e = .returned (.int .i64 10) ∧ w = w' := by
  go_enter Tryd.func166, Tryd.ntmps166
  go_wp2
  go_ret
  exact ⟨rfl, rfl⟩
theorem impl_level_45 (s : ByteArray) (w : World) (h : s.toList = [92]) : Calls Tryd.prog 166 #[.string s] w fun e w' => e = .returned (.int .i64 11) ∧ w = w' := by
  go_enter Tryd.func166, Tryd.ntmps166
  go_wp2
  go_ret
  exact ⟨rfl, rfl⟩
theorem impl_level_46 (s : ByteArray) (w : World) (h : s.toList = [45, 62]) : Calls Tryd.prog 166 #[.string s] w fun e w' => e = .returned (.int .i64 11) ∧ w = w' := by
  go_enter Tryd.func166, Tryd.ntmps166
  go_wp2
  go_ret
  exact ⟨rfl, rfl⟩
theorem impl_level_47 (s : ByteArray) (w : World) (h : s.toList = [61, 62]) : Calls Tryd.prog 166 #[.string s] w fun e w' => e = .returned (.int .i64 11) ∧ w = w' := by
  go_enter Tryd.func166, Tryd.ntmps166
  go_wp2
  go_ret
  exact ⟨rfl, rfl⟩
theorem impl_level_no (s : ByteArray) (w : World) (h0 : (s.toList == [38]) = false) (h1 : (s.toList == [63]) = false) (h2 : (s.toList == [58, 61]) = false) (h3 : (s.toList == [60, 45]) = false) (h4 : (s.toList == [58, 61, 58]) = false) (h5 : (s.toList == [60, 45, 62]) = false) (h6 : (s.toList == [43, 58, 61]) = false) (h7 : (s.toList == [45, 58, 61]) = false) (h8 : (s.toList == [42, 58, 61]) = false) (h9 : (s.toList == [47, 58, 61]) = false) (h10 : (s.toList == [37, 58, 61]) = false) (h11 : (s.toList == [94, 58, 61]) = false) (h12 : (s.toList == [124, 124, 58, 61]) = false) (h13 : (s.toList == [124, 124, 124, 58, 61]) = false) (h14 : (s.toList == [43, 43, 58, 61]) = false) (h15 : (s.toList == [45, 45, 58, 61]) = false) (h16 : (s.toList == [42, 42, 58, 61]) = false) (h17 : (s.toList == [124]) = false) (h18 : (s.toList == [46, 124]) = false) (h19 : (s.toList == [60]) = false) (h20 : (s.toList == [60, 61]) = false) (h21 : (s.toList == [61]) = false) (h22 : (s.toList == [62, 61]) = false) (h23 : (s.toList == [62]) = false) (h24 : (s.toList == [126, 61]) = false) (h25 : (s.toList == [60, 60]) = false) (h26 : (s.toList == [60, 60, 61]) = false) (h27 : (s.toList == [61, 61]) = false) (h28 : (s.toList == [62, 62, 61]) = false) (h29 : (s.toList == [62, 62]) = false) (h30 : (s.toList == [126, 61, 61]) = false) (h31 : (s.toList == [61, 61, 61]) = false) (h32 : (s.toList == [126, 61, 61, 61]) = false) (h33 : (s.toList == [63, 63]) = false) (h34 : (s.toList == [124, 124]) = false) (h35 : (s.toList == [124, 124, 124]) = false) (h36 : (s.toList == [43]) = false) (h37 : (s.toList == [45]) = false) (h38 : (s.toList == [43, 43]) = false) (h39 : (s.toList == [45, 45]) = false) (h40 : (s.toList == [42]) = false) (h41 : (s.toList == [47]) = false) (h42 : (s.toList == [37]) = false) (h43 : (s.toList == [42, 42]) = false) (h44 : (s.toList == [94]) = false) (h45 : (s.toList == [92]) = false) (h46 : (s.toList == [45, 62]) = false) (h47 : (s.toList == [61, 62]) = false) : Calls Tryd.prog 166 #[.string s] w fun e w' => e = .returned (.int .i64 0) ∧ w = w' := by
  go_enter Tryd.func166, Tryd.ntmps166
  go_wp2
  go_ret
  exact ⟨rfl, rfl⟩
theorem impl_level (s : ByteArray) (w : World) : Calls Tryd.prog 166 #[.string s] w fun e w' => e = .returned (.int .i64 (Ex.lvl s.data.toList)) ∧ w = w' := by
  rw [← ByteArray.toList_eq]
  by_cases h0 : s.toList = [38]
  · rw [show Ex.lvl s.toList = 1 by rw [h0]; decide]; exact impl_level_0 s w h0
  by_cases h1 : s.toList = [63]
  · rw [show Ex.lvl s.toList = 2 by rw [h1]; decide]; exact impl_level_1 s w h1
  by_cases h2 : s.toList = [58, 61]
  · rw [show Ex.lvl s.toList = 3 by rw [h2]; decide]; exact impl_level_2 s w h2
  by_cases h3 : s.toList = [60, 45]
  · rw [show Ex.lvl s.toList = 3 by rw [h3]; decide]; exact impl_level_3 s w h3
  by_cases h4 : s.toList = [58, 61, 58]
  · rw [show Ex.lvl s.toList = 3 by rw [h4]; decide]; exact impl_level_4 s w h4
  by_cases h5 : s.toList = [60, 45, 62]
  · rw [show Ex.lvl s.toList = 3 by rw [h5]; decide]; exact impl_level_5 s w h5
  by_cases h6 : s.toList = [43, 58, 61]
  · rw [show Ex.lvl s.toList = 3 by rw [h6]; decide]; exact impl_level_6 s w h6
  by_cases h7 : s.toList = [45, 58, 61]
  · rw [show Ex.lvl s.toList = 3 by rw [h7]; decide]; exact impl_level_7 s w h7
  by_cases h8 : s.toList = [42, 58, 61]
  · rw [show Ex.lvl s.toList = 3 by rw [h8]; decide]; exact impl_level_8 s w h8
  by_cases h9 : s.toList = [47, 58, 61]
  · rw [show Ex.lvl s.toList = 3 by rw [h9]; decide]; exact impl_level_9 s w h9
  by_cases h10 : s.toList = [37, 58, 61]
  · rw [show Ex.lvl s.toList = 3 by rw [h10]; decide]; exact impl_level_10 s w h10
  by_cases h11 : s.toList = [94, 58, 61]
  · rw [show Ex.lvl s.toList = 3 by rw [h11]; decide]; exact impl_level_11 s w h11
  by_cases h12 : s.toList = [124, 124, 58, 61]
  · rw [show Ex.lvl s.toList = 3 by rw [h12]; decide]; exact impl_level_12 s w h12
  by_cases h13 : s.toList = [124, 124, 124, 58, 61]
  · rw [show Ex.lvl s.toList = 3 by rw [h13]; decide]; exact impl_level_13 s w h13
  by_cases h14 : s.toList = [43, 43, 58, 61]
  · rw [show Ex.lvl s.toList = 3 by rw [h14]; decide]; exact impl_level_14 s w h14
  by_cases h15 : s.toList = [45, 45, 58, 61]
  · rw [show Ex.lvl s.toList = 3 by rw [h15]; decide]; exact impl_level_15 s w h15
  by_cases h16 : s.toList = [42, 42, 58, 61]
  · rw [show Ex.lvl s.toList = 3 by rw [h16]; decide]; exact impl_level_16 s w h16
  by_cases h17 : s.toList = [124]
  · rw [show Ex.lvl s.toList = 5 by rw [h17]; decide]; exact impl_level_17 s w h17
  by_cases h18 : s.toList = [46, 124]
  · rw [show Ex.lvl s.toList = 5 by rw [h18]; decide]; exact impl_level_18 s w h18
  by_cases h19 : s.toList = [60]
  · rw [show Ex.lvl s.toList = 6 by rw [h19]; decide]; exact impl_level_19 s w h19
  by_cases h20 : s.toList = [60, 61]
  · rw [show Ex.lvl s.toList = 6 by rw [h20]; decide]; exact impl_level_20 s w h20
  by_cases h21 : s.toList = [61]
  · rw [show Ex.lvl s.toList = 6 by rw [h21]; decide]; exact impl_level_21 s w h21
  by_cases h22 : s.toList = [62, 61]
  · rw [show Ex.lvl s.toList = 6 by rw [h22]; decide]; exact impl_level_22 s w h22
  by_cases h23 : s.toList = [62]
  · rw [show Ex.lvl s.toList = 6 by rw [h23]; decide]; exact impl_level_23 s w h23
  by_cases h24 : s.toList = [126, 61]
  · rw [show Ex.lvl s.toList = 6 by rw [h24]; decide]; exact impl_level_24 s w h24
  by_cases h25 : s.toList = [60, 60]
  · rw [show Ex.lvl s.toList = 6 by rw [h25]; decide]; exact impl_level_25 s w h25
  by_cases h26 : s.toList = [60, 60, 61]
  · rw [show Ex.lvl s.toList = 6 by rw [h26]; decide]; exact impl_level_26 s w h26
  by_cases h27 : s.toList = [61, 61]
  · rw [show Ex.lvl s.toList = 6 by rw [h27]; decide]; exact impl_level_27 s w h27
  by_cases h28 : s.toList = [62, 62, 61]
  · rw [show Ex.lvl s.toList = 6 by rw [h28]; decide]; exact impl_level_28 s w h28
  by_cases h29 : s.toList = [62, 62]
  · rw [show Ex.lvl s.toList = 6 by rw [h29]; decide]; exact impl_level_29 s w h29
  by_cases h30 : s.toList = [126, 61, 61]
  · rw [show Ex.lvl s.toList = 6 by rw [h30]; decide]; exact impl_level_30 s w h30
  by_cases h31 : s.toList = [61, 61, 61]
  · rw [show Ex.lvl s.toList = 6 by rw [h31]; decide]; exact impl_level_31 s w h31
  by_cases h32 : s.toList = [126, 61, 61, 61]
  · rw [show Ex.lvl s.toList = 6 by rw [h32]; decide]; exact impl_level_32 s w h32
  by_cases h33 : s.toList = [63, 63]
  · rw [show Ex.lvl s.toList = 6 by rw [h33]; decide]; exact impl_level_33 s w h33
  by_cases h34 : s.toList = [124, 124]
  · rw [show Ex.lvl s.toList = 7 by rw [h34]; decide]; exact impl_level_34 s w h34
  by_cases h35 : s.toList = [124, 124, 124]
  · rw [show Ex.lvl s.toList = 7 by rw [h35]; decide]; exact impl_level_35 s w h35
  by_cases h36 : s.toList = [43]
  · rw [show Ex.lvl s.toList = 8 by rw [h36]; decide]; exact impl_level_36 s w h36
  by_cases h37 : s.toList = [45]
  · rw [show Ex.lvl s.toList = 8 by rw [h37]; decide]; exact impl_level_37 s w h37
  by_cases h38 : s.toList = [43, 43]
  · rw [show Ex.lvl s.toList = 8 by rw [h38]; decide]; exact impl_level_38 s w h38
  by_cases h39 : s.toList = [45, 45]
  · rw [show Ex.lvl s.toList = 8 by rw [h39]; decide]; exact impl_level_39 s w h39
  by_cases h40 : s.toList = [42]
  · rw [show Ex.lvl s.toList = 9 by rw [h40]; decide]; exact impl_level_40 s w h40
  by_cases h41 : s.toList = [47]
  · rw [show Ex.lvl s.toList = 9 by rw [h41]; decide]; exact impl_level_41 s w h41
  by_cases h42 : s.toList = [37]
  · rw [show Ex.lvl s.toList = 9 by rw [h42]; decide]; exact impl_level_42 s w h42
  by_cases h43 : s.toList = [42, 42]
  · rw [show Ex.lvl s.toList = 9 by rw [h43]; decide]; exact impl_level_43 s w h43
  by_cases h44 : s.toList = [94]
  · rw [show Ex.lvl s.toList = 10 by rw [h44]; decide]; exact impl_level_44 s w h44
  by_cases h45 : s.toList = [92]
  · rw [show Ex.lvl s.toList = 11 by rw [h45]; decide]; exact impl_level_45 s w h45
  by_cases h46 : s.toList = [45, 62]
  · rw [show Ex.lvl s.toList = 11 by rw [h46]; decide]; exact impl_level_46 s w h46
  by_cases h47 : s.toList = [61, 62]
  · rw [show Ex.lvl s.toList = 11 by rw [h47]; decide]; exact impl_level_47 s w h47
  rw [show Ex.lvl s.toList = 0 by simp only [Ex.lvl, Ex.levels, List.find?_cons, List.find?_nil, beq_eq_false_iff_ne.2 h0, beq_eq_false_iff_ne.2 h1, beq_eq_false_iff_ne.2 h2, beq_eq_false_iff_ne.2 h3, beq_eq_false_iff_ne.2 h4, beq_eq_false_iff_ne.2 h5, beq_eq_false_iff_ne.2 h6, beq_eq_false_iff_ne.2 h7, beq_eq_false_iff_ne.2 h8, beq_eq_false_iff_ne.2 h9, beq_eq_false_iff_ne.2 h10, beq_eq_false_iff_ne.2 h11, beq_eq_false_iff_ne.2 h12, beq_eq_false_iff_ne.2 h13, beq_eq_false_iff_ne.2 h14, beq_eq_false_iff_ne.2 h15, beq_eq_false_iff_ne.2 h16, beq_eq_false_iff_ne.2 h17, beq_eq_false_iff_ne.2 h18, beq_eq_false_iff_ne.2 h19, beq_eq_false_iff_ne.2 h20, beq_eq_false_iff_ne.2 h21, beq_eq_false_iff_ne.2 h22, beq_eq_false_iff_ne.2 h23, beq_eq_false_iff_ne.2 h24, beq_eq_false_iff_ne.2 h25, beq_eq_false_iff_ne.2 h26, beq_eq_false_iff_ne.2 h27, beq_eq_false_iff_ne.2 h28, beq_eq_false_iff_ne.2 h29, beq_eq_false_iff_ne.2 h30, beq_eq_false_iff_ne.2 h31, beq_eq_false_iff_ne.2 h32, beq_eq_false_iff_ne.2 h33, beq_eq_false_iff_ne.2 h34, beq_eq_false_iff_ne.2 h35, beq_eq_false_iff_ne.2 h36, beq_eq_false_iff_ne.2 h37, beq_eq_false_iff_ne.2 h38, beq_eq_false_iff_ne.2 h39, beq_eq_false_iff_ne.2 h40, beq_eq_false_iff_ne.2 h41, beq_eq_false_iff_ne.2 h42, beq_eq_false_iff_ne.2 h43, beq_eq_false_iff_ne.2 h44, beq_eq_false_iff_ne.2 h45, beq_eq_false_iff_ne.2 h46, beq_eq_false_iff_ne.2 h47]]
  exact impl_level_no s w (beq_eq_false_iff_ne.2 h0) (beq_eq_false_iff_ne.2 h1) (beq_eq_false_iff_ne.2 h2) (beq_eq_false_iff_ne.2 h3) (beq_eq_false_iff_ne.2 h4) (beq_eq_false_iff_ne.2 h5) (beq_eq_false_iff_ne.2 h6) (beq_eq_false_iff_ne.2 h7) (beq_eq_false_iff_ne.2 h8) (beq_eq_false_iff_ne.2 h9) (beq_eq_false_iff_ne.2 h10) (beq_eq_false_iff_ne.2 h11) (beq_eq_false_iff_ne.2 h12) (beq_eq_false_iff_ne.2 h13) (beq_eq_false_iff_ne.2 h14) (beq_eq_false_iff_ne.2 h15) (beq_eq_false_iff_ne.2 h16) (beq_eq_false_iff_ne.2 h17) (beq_eq_false_iff_ne.2 h18) (beq_eq_false_iff_ne.2 h19) (beq_eq_false_iff_ne.2 h20) (beq_eq_false_iff_ne.2 h21) (beq_eq_false_iff_ne.2 h22) (beq_eq_false_iff_ne.2 h23) (beq_eq_false_iff_ne.2 h24) (beq_eq_false_iff_ne.2 h25) (beq_eq_false_iff_ne.2 h26) (beq_eq_false_iff_ne.2 h27) (beq_eq_false_iff_ne.2 h28) (beq_eq_false_iff_ne.2 h29) (beq_eq_false_iff_ne.2 h30) (beq_eq_false_iff_ne.2 h31) (beq_eq_false_iff_ne.2 h32) (beq_eq_false_iff_ne.2 h33) (beq_eq_false_iff_ne.2 h34) (beq_eq_false_iff_ne.2 h35) (beq_eq_false_iff_ne.2 h36) (beq_eq_false_iff_ne.2 h37) (beq_eq_false_iff_ne.2 h38) (beq_eq_false_iff_ne.2 h39) (beq_eq_false_iff_ne.2 h40) (beq_eq_false_iff_ne.2 h41) (beq_eq_false_iff_ne.2 h42) (beq_eq_false_iff_ne.2 h43) (beq_eq_false_iff_ne.2 h44) (beq_eq_false_iff_ne.2 h45) (beq_eq_false_iff_ne.2 h46) (beq_eq_false_iff_ne.2 h47)
theorem impl_unary_0 (s : ByteArray) (w : World) (h : s.toList = [45]) : Calls Tryd.prog 165 #[.string s] w fun e w' => e = .returned (.bool true) ∧ w = w' := by
  go_enter Tryd.func165, Tryd.ntmps165
  go_wp2
  go_ret
  exact ⟨rfl, rfl⟩
theorem impl_unary_1 (s : ByteArray) (w : World) (h : s.toList = [43]) : Calls Tryd.prog 165 #[.string s] w fun e w' => e = .returned (.bool true) ∧ w = w' := by
  go_enter Tryd.func165, Tryd.ntmps165
  go_wp2
  go_ret
  exact ⟨rfl, rfl⟩
theorem impl_unary_2 (s : ByteArray) (w : World) (h : s.toList = [42]) : Calls Tryd.prog 165 #[.string s] w fun e w' => e = .returned (.bool true) ∧ w = w' := by
  go_enter Tryd.func165, Tryd.ntmps165
  go_wp2
  go_ret
  exact ⟨rfl, rfl⟩
theorem impl_unary_3 (s : ByteArray) (w : World) (h : s.toList = [47]) : Calls Tryd.prog 165 #[.string s] w fun e w' => e = .returned (.bool true) ∧ w = w' := by
  go_enter Tryd.func165, Tryd.ntmps165
  go_wp2
  go_ret
  exact ⟨rfl, rfl⟩
theorem impl_unary_4 (s : ByteArray) (w : World) (h : s.toList = [92]) : Calls Tryd.prog 165 #[.string s] w fun e w' => e = .returned (.bool true) ∧ w = w' := by
  go_enter Tryd.func165, Tryd.ntmps165
  go_wp2
  go_ret
  exact ⟨rfl, rfl⟩
theorem impl_unary_5 (s : ByteArray) (w : World) (h : s.toList = [126]) : Calls Tryd.prog 165 #[.string s] w fun e w' => e = .returned (.bool true) ∧ w = w' := by
  go_enter Tryd.func165, Tryd.ntmps165
  go_wp2
  go_ret
  exact ⟨rfl, rfl⟩
theorem impl_unary_6 (s : ByteArray) (w : World) (h : s.toList = [33]) : Calls Tryd.prog 165 #[.string s] w fun e w' => e = .returned (.bool true) ∧ w = w' := by
  go_enter Tryd.func165, Tryd.ntmps165
  go_wp2
  go_ret
  exact ⟨rfl, rfl⟩
theorem impl_unary_7 (s : ByteArray) (w : World) (h : s.toList = [61]) : Calls Tryd.prog 165 #[.string s] w fun e w' => e = .returned (.bool true) ∧ w = w' := by
  go_enter Tryd.func165, Tryd.ntmps165
  go_wp2
  go_ret
  exact ⟨rfl, rfl⟩
theorem impl_unary_8 (s : ByteArray) (w : World) (h : s.toList = [124]) : Calls Tryd.prog 165 #[.string s] w fun e w' => e = .returned (.bool true) ∧ w = w' := by
  go_enter Tryd.func165, Tryd.ntmps165
  go_wp2
  go_ret
  exact ⟨rfl, rfl⟩
theorem impl_unary_9 (s : ByteArray) (w : World) (h : s.toList = [64]) : Calls Tryd.prog 165 #[.string s] w fun e w' => e = .returned (.bool true) ∧ w = w' := by
  go_enter Tryd.func165, Tryd.ntmps165
  go_wp2
  go_ret
  exact ⟨rfl, rfl⟩
theorem impl_unary_10 (s : ByteArray) (w : World) (h : s.toList = [94]) : Calls Tryd.prog 165 #[.string s] w fun e w' => e = .returned (.bool true) ∧ w = w' := by
  go_enter Tryd.func165, Tryd.ntmps165
  go_wp2
  go_ret
  exact ⟨rfl, rfl⟩
theorem impl_unary_11 (s : ByteArray) (w : World) (h : s.toList = [46]) : Calls Tryd.prog 165 #[.string s] w fun e w' => e = .returned (.bool true) ∧ w = w' := by
  go_enter Tryd.func165, Tryd.ntmps165
  go_wp2
  go_ret
  exact ⟨rfl, rfl⟩
theorem impl_unary_12 (s : ByteArray) (w : World) (h : s.toList = [46, 62]) : Calls Tryd.prog 165 #[.string s] w fun e w' => e = .returned (.bool true) ∧ w = w' := by
  go_enter Tryd.func165, Tryd.ntmps165
  go_wp2
  go_ret
  exact ⟨rfl, rfl⟩
theorem impl_unary_no (s : ByteArray) (w : World) (h0 : (s.toList == [45]) = false) (h1 : (s.toList == [43]) = false) (h2 : (s.toList == [42]) = false) (h3 : (s.toList == [47]) = false) (h4 : (s.toList == [92]) = false) (h5 : (s.toList == [126]) = false) (h6 : (s.toList == [33]) = false) (h7 : (s.toList == [61]) = false) (h8 : (s.toList == [124]) = false) (h9 : (s.toList == [64]) = false) (h10 : (s.toList == [94]) = false) (h11 : (s.toList == [46]) = false) (h12 : (s.toList == [46, 62]) = false) : Calls Tryd.prog 165 #[.string s] w fun e w' => e = .returned (.bool false) ∧ w = w' := by
  go_enter Tryd.func165, Tryd.ntmps165
  go_wp2
  go_ret
  exact ⟨rfl, rfl⟩
theorem impl_unary (s : ByteArray) (w : World) : Calls Tryd.prog 165 #[.string s] w fun e w' => e = .returned (.bool (hasW Ex.unary s.data.toList)) ∧ w = w' := by
  rw [← ByteArray.toList_eq]
  by_cases h0 : s.toList = [45]
  · rw [show hasW Ex.unary s.toList = true by rw [h0]; decide]; exact impl_unary_0 s w h0
  by_cases h1 : s.toList = [43]
  · rw [show hasW Ex.unary s.toList = true by rw [h1]; decide]; exact impl_unary_1 s w h1
  by_cases h2 : s.toList = [42]
  · rw [show hasW Ex.unary s.toList = true by rw [h2]; decide]; exact impl_unary_2 s w h2
  by_cases h3 : s.toList = [47]
  · rw [show hasW Ex.unary s.toList = true by rw [h3]; decide]; exact impl_unary_3 s w h3
  by_cases h4 : s.toList = [92]
  · rw [show hasW Ex.unary s.toList = true by rw [h4]; decide]; exact impl_unary_4 s w h4
  by_cases h5 : s.toList = [126]
  · rw [show hasW Ex.unary s.toList = true by rw [h5]; decide]; exact impl_unary_5 s w h5
  by_cases h6 : s.toList = [33]
  · rw [show hasW Ex.unary s.toList = true by rw [h6]; decide]; exact impl_unary_6 s w h6
  by_cases h7 : s.toList = [61]
  · rw [show hasW Ex.unary s.toList = true by rw [h7]; decide]; exact impl_unary_7 s w h7
  by_cases h8 : s.toList = [124]
  · rw [show hasW Ex.unary s.toList = true by rw [h8]; decide]; exact impl_unary_8 s w h8
  by_cases h9 : s.toList = [64]
  · rw [show hasW Ex.unary s.toList = true by rw [h9]; decide]; exact impl_unary_9 s w h9
  by_cases h10 : s.toList = [94]
  · rw [show hasW Ex.unary s.toList = true by rw [h10]; decide]; exact impl_unary_10 s w h10
  by_cases h11 : s.toList = [46]
  · rw [show hasW Ex.unary s.toList = true by rw [h11]; decide]; exact impl_unary_11 s w h11
  by_cases h12 : s.toList = [46, 62]
  · rw [show hasW Ex.unary s.toList = true by rw [h12]; decide]; exact impl_unary_12 s w h12
  rw [show hasW Ex.unary s.toList = false by simp only [hasW, Ex.unary, beq_eq_false_iff_ne.2 h0, beq_eq_false_iff_ne.2 h1, beq_eq_false_iff_ne.2 h2, beq_eq_false_iff_ne.2 h3, beq_eq_false_iff_ne.2 h4, beq_eq_false_iff_ne.2 h5, beq_eq_false_iff_ne.2 h6, beq_eq_false_iff_ne.2 h7, beq_eq_false_iff_ne.2 h8, beq_eq_false_iff_ne.2 h9, beq_eq_false_iff_ne.2 h10, beq_eq_false_iff_ne.2 h11, beq_eq_false_iff_ne.2 h12, List.contains_cons, List.contains_nil, Bool.or_false]]
  exact impl_unary_no s w (beq_eq_false_iff_ne.2 h0) (beq_eq_false_iff_ne.2 h1) (beq_eq_false_iff_ne.2 h2) (beq_eq_false_iff_ne.2 h3) (beq_eq_false_iff_ne.2 h4) (beq_eq_false_iff_ne.2 h5) (beq_eq_false_iff_ne.2 h6) (beq_eq_false_iff_ne.2 h7) (beq_eq_false_iff_ne.2 h8) (beq_eq_false_iff_ne.2 h9) (beq_eq_false_iff_ne.2 h10) (beq_eq_false_iff_ne.2 h11) (beq_eq_false_iff_ne.2 h12)
end Go.Proofs.YtbadepiakkhabaaDoor
/- The program: texts that are the elements of a set. No conditions. -/
namespace Go.Proofs.YtbadepiakkhabaaDoor
open Go.RowKit
set_option linter.unusedVariables false

set_option maxHeartbeats 800000 in
theorem elems_impl (s : ByteArray) (w : World) (hs : (s.size : Int) ≤ 1048576) : Calls Tryd.prog 129 #[.string s] w fun e w' => e = .returned (.bool (Cs.good s && ((txt (Cs.text (Cs.newL s) (Cs.newH s))).toList == s.toList))) ∧ Below w.heap.size w w' := by
  have HC := Lib.hid (fun wr => impl_new s (by unfold maxLen; omega) wr)
  have HT := Lib.hid (fun wr => impl_text (Cs.newL s) (Cs.newH s) wr)
  unfold RetText at HT
  clear hs
  cases hg : Cs.good s
  · rw [hg] at HC
    rw [Bool.false_and]
    clear hg HT
    generalize Cs.newL s = x at HC
    generalize Cs.newH s = y at HC
    go_enter Tryd.func129, Tryd.ntmps129
    go_wp2_with fail
    refine (HC.out _).mono ?_
    rintro e w1 ⟨rfl, b1⟩
    have B1 := Lib.hid (below_then b1 (bl1 w1 (.cells #[.int .i64 x, .int .i64 y] 28)))
    clear b1
    go_wp2
    go_ret
    exact ⟨rfl, B1.out⟩
  · rw [hg] at HC
    rw [Bool.true_and]
    clear hg
    generalize Cs.newL s = x at HC HT ⊢
    generalize Cs.newH s = y at HC HT ⊢
    generalize txt (Cs.text x y) = z at HT ⊢
    go_enter Tryd.func129, Tryd.ntmps129
    go_wp2_with fail
    refine (HC.out _).mono ?_
    rintro e w1 ⟨rfl, b1⟩
    have B1 := Lib.hid (below_then b1 (bl1 w1 (.cells #[.int .i64 x, .int .i64 y] 28)))
    clear b1
    go_wp2_with fail
    refine (HT.out _).mono ?_
    rintro e w2 ⟨rfl, b2⟩
    have B2 := Lib.hid (below_then B1.out b2)
    clear b2
    go_wp2
    go_ret
    exact ⟨rfl, B2.out⟩
end Go.Proofs.YtbadepiakkhabaaDoor
