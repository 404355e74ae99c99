/- Joined texts: A21, H5. No conditions besides those that each states. -/
import Derived.Test.YtbadepiakkhabaaDoorZ7
import Derived.Test.YtbadepiakkhabaaDoorZ8
import Derived.Test.YtbadepiakkhabaaDoorZ9
import Derived.Test.YtbadepiakkhabaaDoorZ10
import Derived.Test.YtbadepiakkhabaaDoorZ15
/- Numbers of kids and numbers of core nodes, in the reference model. No conditions. -/
namespace Go.Proofs.YtbadepiakkhabaaDoor.Cr
open Go.RowKit
set_option linter.unusedVariables false

theorem spec_inr (x lo hi : Int) (w : World) : Calls Tryd.prog 27 #[.int .i64 x, .int .i64 lo, .int .i64 hi] w fun e w' => e = .returned (.bool (Co.inR x lo hi)) ∧ w = w' := by
  by_cases h1 : lo ≤ x
  · by_cases h2 : x ≤ hi
    · rw [show Co.inR x lo hi = true from decide_eq_true ⟨h1, h2⟩]
      go_enter Tryd.func27, Tryd.ntmps27
      go_wp2
      go_ret
      exact ⟨rfl, rfl⟩
    · rw [show Co.inR x lo hi = false from decide_eq_false (fun h => h2 h.2)]
      go_enter Tryd.func27, Tryd.ntmps27
      go_wp2
      go_ret
      exact ⟨rfl, rfl⟩
  · rw [show Co.inR x lo hi = false from decide_eq_false (fun h => h1 h.1)]
    go_enter Tryd.func27, Tryd.ntmps27
    go_wp2
    go_ret
    exact ⟨rfl, rfl⟩

theorem spec_counts_11 (p n l : Int) (s : ByteArray) (v : Value) (w : World) : Calls Tryd.prog 58 #[.agg #[.int .i64 11, .int .i64 p, .int .i64 n, .int .i64 l, .string s, v]] w fun e w' => e = .returned (.tuple #[.int .i64 (arLo p), .int .i64 (arHi p)]) ∧ Below w.heap.size w w' := by
  have HA := Lib.hid (fun W => spec_arity p W)
  go_enter Tryd.func58, Tryd.ntmps58
  go_wp2_with fail
  refine (HA.out _).mono ?_
  rintro e w1 ⟨rfl, b1⟩
  have B1 := Lib.hid (below_then (bl1 _ _) b1)
  clear b1
  go_wp2
  go_ret2
  exact ⟨rfl, B1.out⟩
theorem spec_counts_12 (p n l : Int) (s : ByteArray) (v : Value) (w : World) : Calls Tryd.prog 58 #[.agg #[.int .i64 12, .int .i64 p, .int .i64 n, .int .i64 l, .string s, v]] w fun e w' => e = .returned (.tuple #[.int .i64 1, .int .i64 9]) ∧ Below w.heap.size w w' := by
  go_enter Tryd.func58, Tryd.ntmps58
  go_wp2
  go_ret2
  exact ⟨rfl, bl1 _ _⟩
theorem spec_counts_16 (p n l : Int) (s : ByteArray) (v : Value) (w : World) : Calls Tryd.prog 58 #[.agg #[.int .i64 16, .int .i64 p, .int .i64 n, .int .i64 l, .string s, v]] w fun e w' => e = .returned (.tuple #[.int .i64 1, .int .i64 24]) ∧ Below w.heap.size w w' := by
  go_enter Tryd.func58, Tryd.ntmps58
  go_wp2
  go_ret2
  exact ⟨rfl, bl1 _ _⟩
theorem spec_counts_14 (p n l : Int) (s : ByteArray) (v : Value) (w : World) : Calls Tryd.prog 58 #[.agg #[.int .i64 14, .int .i64 p, .int .i64 n, .int .i64 l, .string s, v]] w fun e w' => e = .returned (.tuple #[.int .i64 1, .int .i64 1]) ∧ Below w.heap.size w w' := by
  go_enter Tryd.func58, Tryd.ntmps58
  go_wp2
  go_ret2
  exact ⟨rfl, bl1 _ _⟩
theorem spec_counts_20 (p n l : Int) (s : ByteArray) (v : Value) (w : World) : Calls Tryd.prog 58 #[.agg #[.int .i64 20, .int .i64 p, .int .i64 n, .int .i64 l, .string s, v]] w fun e w' => e = .returned (.tuple #[.int .i64 1, .int .i64 1]) ∧ Below w.heap.size w w' := by
  go_enter Tryd.func58, Tryd.ntmps58
  go_wp2
  go_ret2
  exact ⟨rfl, bl1 _ _⟩
theorem spec_counts_23 (p n l : Int) (s : ByteArray) (v : Value) (w : World) : Calls Tryd.prog 58 #[.agg #[.int .i64 23, .int .i64 p, .int .i64 n, .int .i64 l, .string s, v]] w fun e w' => e = .returned (.tuple #[.int .i64 1, .int .i64 1]) ∧ Below w.heap.size w w' := by
  go_enter Tryd.func58, Tryd.ntmps58
  go_wp2
  go_ret2
  exact ⟨rfl, bl1 _ _⟩
theorem spec_counts_26 (p n l : Int) (s : ByteArray) (v : Value) (w : World) : Calls Tryd.prog 58 #[.agg #[.int .i64 26, .int .i64 p, .int .i64 n, .int .i64 l, .string s, v]] w fun e w' => e = .returned (.tuple #[.int .i64 1, .int .i64 1]) ∧ Below w.heap.size w w' := by
  go_enter Tryd.func58, Tryd.ntmps58
  go_wp2
  go_ret2
  exact ⟨rfl, bl1 _ _⟩
theorem spec_counts_27 (p n l : Int) (s : ByteArray) (v : Value) (w : World) : Calls Tryd.prog 58 #[.agg #[.int .i64 27, .int .i64 p, .int .i64 n, .int .i64 l, .string s, v]] w fun e w' => e = .returned (.tuple #[.int .i64 1, .int .i64 1]) ∧ Below w.heap.size w w' := by
  go_enter Tryd.func58, Tryd.ntmps58
  go_wp2
  go_ret2
  exact ⟨rfl, bl1 _ _⟩
theorem spec_counts_13 (p n l : Int) (s : ByteArray) (v : Value) (w : World) : Calls Tryd.prog 58 #[.agg #[.int .i64 13, .int .i64 p, .int .i64 n, .int .i64 l, .string s, v]] w fun e w' => e = .returned (.tuple #[.int .i64 2, .int .i64 2]) ∧ Below w.heap.size w w' := by
  go_enter Tryd.func58, Tryd.ntmps58
  go_wp2
  go_ret2
  exact ⟨rfl, bl1 _ _⟩
theorem spec_counts_15 (p n l : Int) (s : ByteArray) (v : Value) (w : World) : Calls Tryd.prog 58 #[.agg #[.int .i64 15, .int .i64 p, .int .i64 n, .int .i64 l, .string s, v]] w fun e w' => e = .returned (.tuple #[.int .i64 2, .int .i64 2]) ∧ Below w.heap.size w w' := by
  go_enter Tryd.func58, Tryd.ntmps58
  go_wp2
  go_ret2
  exact ⟨rfl, bl1 _ _⟩
theorem spec_counts_18 (p n l : Int) (s : ByteArray) (v : Value) (w : World) : Calls Tryd.prog 58 #[.agg #[.int .i64 18, .int .i64 p, .int .i64 n, .int .i64 l, .string s, v]] w fun e w' => e = .returned (.tuple #[.int .i64 2, .int .i64 2]) ∧ Below w.heap.size w w' := by
  go_enter Tryd.func58, Tryd.ntmps58
  go_wp2
  go_ret2
  exact ⟨rfl, bl1 _ _⟩
theorem spec_counts_19 (p n l : Int) (s : ByteArray) (v : Value) (w : World) : Calls Tryd.prog 58 #[.agg #[.int .i64 19, .int .i64 p, .int .i64 n, .int .i64 l, .string s, v]] w fun e w' => e = .returned (.tuple #[.int .i64 2, .int .i64 2]) ∧ Below w.heap.size w w' := by
  go_enter Tryd.func58, Tryd.ntmps58
  go_wp2
  go_ret2
  exact ⟨rfl, bl1 _ _⟩
theorem spec_counts_22 (p n l : Int) (s : ByteArray) (v : Value) (w : World) : Calls Tryd.prog 58 #[.agg #[.int .i64 22, .int .i64 p, .int .i64 n, .int .i64 l, .string s, v]] w fun e w' => e = .returned (.tuple #[.int .i64 2, .int .i64 2]) ∧ Below w.heap.size w w' := by
  go_enter Tryd.func58, Tryd.ntmps58
  go_wp2
  go_ret2
  exact ⟨rfl, bl1 _ _⟩
theorem spec_counts_25 (p n l : Int) (s : ByteArray) (v : Value) (w : World) : Calls Tryd.prog 58 #[.agg #[.int .i64 25, .int .i64 p, .int .i64 n, .int .i64 l, .string s, v]] w fun e w' => e = .returned (.tuple #[.int .i64 2, .int .i64 2]) ∧ Below w.heap.size w w' := by
  go_enter Tryd.func58, Tryd.ntmps58
  go_wp2
  go_ret2
  exact ⟨rfl, bl1 _ _⟩
theorem spec_counts_17 (p n l : Int) (s : ByteArray) (v : Value) (w : World) : Calls Tryd.prog 58 #[.agg #[.int .i64 17, .int .i64 p, .int .i64 n, .int .i64 l, .string s, v]] w fun e w' => e = .returned (.tuple #[.int .i64 3, .int .i64 3]) ∧ Below w.heap.size w w' := by
  go_enter Tryd.func58, Tryd.ntmps58
  go_wp2
  go_ret2
  exact ⟨rfl, bl1 _ _⟩
theorem spec_counts_n (k p n l : Int) (s : ByteArray) (v : Value) (b11 : (k == 11) = false) (b12 : (k == 12) = false) (b16 : (k == 16) = false) (b14 : (k == 14) = false) (b20 : (k == 20) = false) (b23 : (k == 23) = false) (b26 : (k == 26) = false) (b27 : (k == 27) = false) (b13 : (k == 13) = false) (b15 : (k == 15) = false) (b18 : (k == 18) = false) (b19 : (k == 19) = false) (b22 : (k == 22) = false) (b25 : (k == 25) = false) (b17 : (k == 17) = false) (w : World) : Calls Tryd.prog 58 #[.agg #[.int .i64 k, .int .i64 p, .int .i64 n, .int .i64 l, .string s, v]] w fun e w' => e = .returned (.tuple #[.int .i64 0, .int .i64 0]) ∧ Below w.heap.size w w' := by
  go_enter Tryd.func58, Tryd.ntmps58
  go_wp2
  go_ret2
  exact ⟨rfl, bl1 _ _⟩
/-- The model's numbers of kids. -/
theorem spec_counts (k p n l : Int) (s : ByteArray) (v : Value) (w : World) : Calls Tryd.prog 58 #[.agg #[.int .i64 k, .int .i64 p, .int .i64 n, .int .i64 l, .string s, v]] w fun e w' => e = .returned (.tuple #[.int .i64 (Co.cLo k p), .int .i64 (Co.cHi k p)]) ∧ Below w.heap.size w w' := by

  by_cases h11 : k = 11
  · subst h11; exact spec_counts_11 p n l s v w
  by_cases h12 : k = 12
  · subst h12; exact spec_counts_12 p n l s v w
  by_cases h16 : k = 16
  · subst h16; exact spec_counts_16 p n l s v w
  by_cases h14 : k = 14
  · subst h14; exact spec_counts_14 p n l s v w
  by_cases h20 : k = 20
  · subst h20; exact spec_counts_20 p n l s v w
  by_cases h23 : k = 23
  · subst h23; exact spec_counts_23 p n l s v w
  by_cases h26 : k = 26
  · subst h26; exact spec_counts_26 p n l s v w
  by_cases h27 : k = 27
  · subst h27; exact spec_counts_27 p n l s v w
  by_cases h13 : k = 13
  · subst h13; exact spec_counts_13 p n l s v w
  by_cases h15 : k = 15
  · subst h15; exact spec_counts_15 p n l s v w
  by_cases h18 : k = 18
  · subst h18; exact spec_counts_18 p n l s v w
  by_cases h19 : k = 19
  · subst h19; exact spec_counts_19 p n l s v w
  by_cases h22 : k = 22
  · subst h22; exact spec_counts_22 p n l s v w
  by_cases h25 : k = 25
  · subst h25; exact spec_counts_25 p n l s v w
  by_cases h17 : k = 17
  · subst h17; exact spec_counts_17 p n l s v w
  have e1 : Co.cLo k p = 0 := by unfold Co.cLo; rw [if_neg h11, if_neg (by omega), if_neg (by omega), if_neg (by omega), if_neg h17]
  have e2 : Co.cHi k p = 0 := by unfold Co.cHi; rw [if_neg h11, if_neg h12, if_neg h16, if_neg (by omega), if_neg (by omega), if_neg h17]
  rw [e1, e2]
  exact spec_counts_n k p n l s v (beq_eq_false_iff_ne.2 h11) (beq_eq_false_iff_ne.2 h12) (beq_eq_false_iff_ne.2 h16) (beq_eq_false_iff_ne.2 h14) (beq_eq_false_iff_ne.2 h20) (beq_eq_false_iff_ne.2 h23) (beq_eq_false_iff_ne.2 h26) (beq_eq_false_iff_ne.2 h27) (beq_eq_false_iff_ne.2 h13) (beq_eq_false_iff_ne.2 h15) (beq_eq_false_iff_ne.2 h18) (beq_eq_false_iff_ne.2 h19) (beq_eq_false_iff_ne.2 h22) (beq_eq_false_iff_ne.2 h25) (beq_eq_false_iff_ne.2 h17) w
theorem leaf_1 (a1 a2 a3 : Option Addr) (z1 z2 z3 c1 c2 c3 : Nat) (mn sl p n l : Int) (s : ByteArray) (v : Value) (q1 : (z1 : Int) ≤ 1048576) (q2 : (z2 : Int) ≤ 1048576) (q3 : (z3 : Int) ≤ 1048576) (s0 : 0 ≤ sl) (s1 : sl ≤ 1048576) (w : World) : Calls Tryd.prog 59 #[(.agg #[.slice a1 z1 c1, .slice a2 z2 c2, .slice a3 z3 c3, .int .i64 mn]), .int .i64 sl, .agg #[.int .i64 1, .int .i64 p, .int .i64 n, .int .i64 l, .string s, v]] w fun e w' => e = .returned (.bool (Co.inR n (-999999999999) 999999999999)) ∧ Below w.heap.size w w' := by
  by_cases h1 : -999999999999 ≤ n
  · by_cases h2 : n ≤ 999999999999
    · rw [show Co.inR n (-999999999999) 999999999999 = true from decide_eq_true ⟨h1, h2⟩]
      go_enter Tryd.func59, Tryd.ntmps59
      go_wp2
      go_ret
      exact ⟨rfl, below_then (bl1 _ _) (bl1 _ _)⟩
    · rw [show Co.inR n (-999999999999) 999999999999 = false from decide_eq_false (fun h => h2 h.2)]
      go_enter Tryd.func59, Tryd.ntmps59
      go_wp2
      go_ret
      exact ⟨rfl, below_then (bl1 _ _) (bl1 _ _)⟩
  · rw [show Co.inR n (-999999999999) 999999999999 = false from decide_eq_false (fun h => h1 h.1)]
    go_enter Tryd.func59, Tryd.ntmps59
    go_wp2
    go_ret
    exact ⟨rfl, below_then (bl1 _ _) (bl1 _ _)⟩
theorem leaf_5 (a1 a2 a3 : Option Addr) (z1 z2 z3 c1 c2 c3 : Nat) (mn sl p n l : Int) (s : ByteArray) (v : Value) (q1 : (z1 : Int) ≤ 1048576) (q2 : (z2 : Int) ≤ 1048576) (q3 : (z3 : Int) ≤ 1048576) (s0 : 0 ≤ sl) (s1 : sl ≤ 1048576) (w : World) : Calls Tryd.prog 59 #[(.agg #[.slice a1 z1 c1, .slice a2 z2 c2, .slice a3 z3 c3, .int .i64 mn]), .int .i64 sl, .agg #[.int .i64 5, .int .i64 p, .int .i64 n, .int .i64 l, .string s, v]] w fun e w' => e = .returned (.bool (Co.inR n 0 (sl - 1))) ∧ Below w.heap.size w w' := by
  have HI := Lib.hid (fun W => spec_inr n 0 (sl - 1) W)
  have hw : IntKind.i64.wrap (sl - 1) = sl - 1 := by rw [IntKind.wrap_i64]; omega
  go_enter Tryd.func59, Tryd.ntmps59
  go_wp2_with fail
  refine (HI.out _).mono ?_
  rintro e w1 ⟨rfl, rfl⟩
  go_wp2
  go_ret
  exact ⟨rfl, below_then (bl1 _ _) (bl1 _ _)⟩
theorem leaf_6 (a1 a2 a3 : Option Addr) (z1 z2 z3 c1 c2 c3 : Nat) (mn sl p n l : Int) (s : ByteArray) (v : Value) (q1 : (z1 : Int) ≤ 1048576) (q2 : (z2 : Int) ≤ 1048576) (q3 : (z3 : Int) ≤ 1048576) (s0 : 0 ≤ sl) (s1 : sl ≤ 1048576) (w : World) : Calls Tryd.prog 59 #[(.agg #[.slice a1 z1 c1, .slice a2 z2 c2, .slice a3 z3 c3, .int .i64 mn]), .int .i64 sl, .agg #[.int .i64 6, .int .i64 p, .int .i64 n, .int .i64 l, .string s, v]] w fun e w' => e = .returned (.bool (Co.inR n 0 ((z3 : Int) - 1))) ∧ Below w.heap.size w w' := by
  have HI := Lib.hid (fun W => spec_inr n 0 ((z3 : Int) - 1) W)
  have hw : IntKind.i64.wrap ((z3 : Int) - 1) = (z3 : Int) - 1 := by rw [IntKind.wrap_i64]; omega
  go_enter Tryd.func59, Tryd.ntmps59
  go_wp2_with fail
  refine (HI.out _).mono ?_
  rintro e w1 ⟨rfl, rfl⟩
  go_wp2
  go_ret
  exact ⟨rfl, below_then (bl1 _ _) (bl1 _ _)⟩
theorem leaf_7 (a1 a2 a3 : Option Addr) (z1 z2 z3 c1 c2 c3 : Nat) (mn sl p n l : Int) (s : ByteArray) (v : Value) (q1 : (z1 : Int) ≤ 1048576) (q2 : (z2 : Int) ≤ 1048576) (q3 : (z3 : Int) ≤ 1048576) (s0 : 0 ≤ sl) (s1 : sl ≤ 1048576) (w : World) : Calls Tryd.prog 59 #[(.agg #[.slice a1 z1 c1, .slice a2 z2 c2, .slice a3 z3 c3, .int .i64 mn]), .int .i64 sl, .agg #[.int .i64 7, .int .i64 p, .int .i64 n, .int .i64 l, .string s, v]] w fun e w' => e = .returned (.bool (Co.inR n 0 ((z1 : Int) - 1))) ∧ Below w.heap.size w w' := by
  have HI := Lib.hid (fun W => spec_inr n 0 ((z1 : Int) - 1) W)
  have hw : IntKind.i64.wrap ((z1 : Int) - 1) = (z1 : Int) - 1 := by rw [IntKind.wrap_i64]; omega
  go_enter Tryd.func59, Tryd.ntmps59
  go_wp2_with fail
  refine (HI.out _).mono ?_
  rintro e w1 ⟨rfl, rfl⟩
  go_wp2
  go_ret
  exact ⟨rfl, below_then (bl1 _ _) (bl1 _ _)⟩
theorem leaf_9 (a1 a2 a3 : Option Addr) (z1 z2 z3 c1 c2 c3 : Nat) (mn sl p n l : Int) (s : ByteArray) (v : Value) (q1 : (z1 : Int) ≤ 1048576) (q2 : (z2 : Int) ≤ 1048576) (q3 : (z3 : Int) ≤ 1048576) (s0 : 0 ≤ sl) (s1 : sl ≤ 1048576) (w : World) : Calls Tryd.prog 59 #[(.agg #[.slice a1 z1 c1, .slice a2 z2 c2, .slice a3 z3 c3, .int .i64 mn]), .int .i64 sl, .agg #[.int .i64 9, .int .i64 p, .int .i64 n, .int .i64 l, .string s, v]] w fun e w' => e = .returned (.bool (Co.inR n 0 ((z2 : Int) - 1))) ∧ Below w.heap.size w w' := by
  have HI := Lib.hid (fun W => spec_inr n 0 ((z2 : Int) - 1) W)
  have hw : IntKind.i64.wrap ((z2 : Int) - 1) = (z2 : Int) - 1 := by rw [IntKind.wrap_i64]; omega
  go_enter Tryd.func59, Tryd.ntmps59
  go_wp2_with fail
  refine (HI.out _).mono ?_
  rintro e w1 ⟨rfl, rfl⟩
  go_wp2
  go_ret
  exact ⟨rfl, below_then (bl1 _ _) (bl1 _ _)⟩
theorem leaf_8 (a1 a2 a3 : Option Addr) (z1 z2 z3 c1 c2 c3 : Nat) (mn sl p n l : Int) (s : ByteArray) (v : Value) (q1 : (z1 : Int) ≤ 1048576) (q2 : (z2 : Int) ≤ 1048576) (q3 : (z3 : Int) ≤ 1048576) (s0 : 0 ≤ sl) (s1 : sl ≤ 1048576) (w : World) : Calls Tryd.prog 59 #[(.agg #[.slice a1 z1 c1, .slice a2 z2 c2, .slice a3 z3 c3, .int .i64 mn]), .int .i64 sl, .agg #[.int .i64 8, .int .i64 p, .int .i64 n, .int .i64 l, .string s, v]] w fun e w' => e = .returned (.bool (Co.inR n 0 54)) ∧ Below w.heap.size w w' := by
  have HI := Lib.hid (fun W => spec_inr n 0 54 W)
  go_enter Tryd.func59, Tryd.ntmps59
  go_wp2_with fail
  refine (HI.out _).mono ?_
  rintro e w1 ⟨rfl, rfl⟩
  go_wp2
  go_ret
  exact ⟨rfl, below_then (bl1 _ _) (bl1 _ _)⟩
theorem leaf_10 (a1 a2 a3 : Option Addr) (z1 z2 z3 c1 c2 c3 : Nat) (mn sl p n l : Int) (s : ByteArray) (v : Value) (q1 : (z1 : Int) ≤ 1048576) (q2 : (z2 : Int) ≤ 1048576) (q3 : (z3 : Int) ≤ 1048576) (s0 : 0 ≤ sl) (s1 : sl ≤ 1048576) (w : World) : Calls Tryd.prog 59 #[(.agg #[.slice a1 z1 c1, .slice a2 z2 c2, .slice a3 z3 c3, .int .i64 mn]), .int .i64 sl, .agg #[.int .i64 10, .int .i64 p, .int .i64 n, .int .i64 l, .string s, v]] w fun e w' => e = .returned (.bool (Co.inR n 1 2)) ∧ Below w.heap.size w w' := by
  have HI := Lib.hid (fun W => spec_inr n 1 2 W)
  go_enter Tryd.func59, Tryd.ntmps59
  go_wp2_with fail
  refine (HI.out _).mono ?_
  rintro e w1 ⟨rfl, rfl⟩
  go_wp2
  go_ret
  exact ⟨rfl, below_then (bl1 _ _) (bl1 _ _)⟩
theorem leaf_n (a1 a2 a3 : Option Addr) (z1 z2 z3 c1 c2 c3 : Nat) (mn sl p n l : Int) (s : ByteArray) (v : Value) (k : Int) (b1 : (k == 1) = false) (b5 : (k == 5) = false) (b6 : (k == 6) = false) (b7 : (k == 7) = false) (b8 : (k == 8) = false) (b9 : (k == 9) = false) (b10 : (k == 10) = false) (q1 : (z1 : Int) ≤ 1048576) (q2 : (z2 : Int) ≤ 1048576) (q3 : (z3 : Int) ≤ 1048576) (s0 : 0 ≤ sl) (s1 : sl ≤ 1048576) (w : World) : Calls Tryd.prog 59 #[(.agg #[.slice a1 z1 c1, .slice a2 z2 c2, .slice a3 z3 c3, .int .i64 mn]), .int .i64 sl, .agg #[.int .i64 k, .int .i64 p, .int .i64 n, .int .i64 l, .string s, v]] w fun e w' => e = .returned (.bool (decide (n = 0))) ∧ Below w.heap.size w w' := by
  by_cases h : n = 0
  · subst h
    go_enter Tryd.func59, Tryd.ntmps59
    go_wp2
    go_ret
    exact ⟨rfl, below_then (bl1 _ _) (bl1 _ _)⟩
  · rw [decide_eq_false h]
    have hb : (n == 0) = false := beq_eq_false_iff_ne.2 h
    clear h
    go_enter Tryd.func59, Tryd.ntmps59
    go_wp2
    go_ret
    exact ⟨rfl, below_then (bl1 _ _) (bl1 _ _)⟩
theorem spec_leaf (a1 a2 a3 : Option Addr) (z1 z2 z3 c1 c2 c3 : Nat) (mn sl p n l : Int) (s : ByteArray) (v : Value) (k : Int) (q1 : (z1 : Int) ≤ 1048576) (q2 : (z2 : Int) ≤ 1048576) (q3 : (z3 : Int) ≤ 1048576) (s0 : 0 ≤ sl) (s1 : sl ≤ 1048576) (w : World) : Calls Tryd.prog 59 #[(.agg #[.slice a1 z1 c1, .slice a2 z2 c2, .slice a3 z3 c3, .int .i64 mn]), .int .i64 sl, .agg #[.int .i64 k, .int .i64 p, .int .i64 n, .int .i64 l, .string s, v]] w fun e w' => e = .returned (.bool (Co.numOk ⟨sl, z3, z1, z2⟩ k n)) ∧ Below w.heap.size w w' := by
  by_cases h1 : k = 1
  · subst h1; exact leaf_1 a1 a2 a3 z1 z2 z3 c1 c2 c3 mn sl p n l s v q1 q2 q3 s0 s1 w
  by_cases h5 : k = 5
  · subst h5; exact leaf_5 a1 a2 a3 z1 z2 z3 c1 c2 c3 mn sl p n l s v q1 q2 q3 s0 s1 w
  by_cases h6 : k = 6
  · subst h6; exact leaf_6 a1 a2 a3 z1 z2 z3 c1 c2 c3 mn sl p n l s v q1 q2 q3 s0 s1 w
  by_cases h7 : k = 7
  · subst h7; exact leaf_7 a1 a2 a3 z1 z2 z3 c1 c2 c3 mn sl p n l s v q1 q2 q3 s0 s1 w
  by_cases h8 : k = 8
  · subst h8; exact leaf_8 a1 a2 a3 z1 z2 z3 c1 c2 c3 mn sl p n l s v q1 q2 q3 s0 s1 w
  by_cases h9 : k = 9
  · subst h9; exact leaf_9 a1 a2 a3 z1 z2 z3 c1 c2 c3 mn sl p n l s v q1 q2 q3 s0 s1 w
  by_cases h10 : k = 10
  · subst h10; exact leaf_10 a1 a2 a3 z1 z2 z3 c1 c2 c3 mn sl p n l s v q1 q2 q3 s0 s1 w
  have e1 : Co.numOk ⟨sl, z3, z1, z2⟩ k n = decide (n = 0) := by unfold Co.numOk; rw [if_neg h1, if_neg h5, if_neg h6, if_neg h7, if_neg h8, if_neg h9, if_neg h10]
  rw [e1]
  exact leaf_n a1 a2 a3 z1 z2 z3 c1 c2 c3 mn sl p n l s v k (beq_eq_false_iff_ne.2 h1) (beq_eq_false_iff_ne.2 h5) (beq_eq_false_iff_ne.2 h6) (beq_eq_false_iff_ne.2 h7) (beq_eq_false_iff_ne.2 h8) (beq_eq_false_iff_ne.2 h9) (beq_eq_false_iff_ne.2 h10) q1 q2 q3 s0 s1 w
end Go.Proofs.YtbadepiakkhabaaDoor.Cr
/- The laws' copy of a tree. No conditions. -/
namespace Go.Proofs.YtbadepiakkhabaaDoor.Cr
open Go.RowKit
set_option linter.unusedVariables false

theorem info_core : (Tryd.prog.info? 68).map (fun i => (i.zero, i.size, i.bytes)) = some (some (.agg #[.int .i64 0, .int .i64 0, .int .i64 0, .int .i64 0, .string ByteArray.empty, .slice none 0 0]), 6, 72) := by kernel_rfl
def ToT (t : Co.T) : Prop := t.bulk ≤ 1048576 → ∀ (w : World) (v : Value), Kids w v t.kids → Calls Tryd.prog 93 #[exV t v] w (RetE w t)
theorem foot_if {B : Nat} {w : World} {g : Nat} {G : List Nat} {l : List Co.T} (hB : B ≤ g) (h : ∀ b ∈ G, g < b ∧ b < w.heap.size) (hg : g < w.heap.size) : Foot B w (if l = [] then [] else g :: G) := by
  intro b hb
  split at hb
  · cases hb
  · rcases List.mem_cons.1 hb with rfl | hb
    · exact ⟨hB, hg⟩
    · have := h b hb; exact ⟨by omega, this.2⟩
theorem FillAt.done {w wr : World} {g : Nat} {ks : List Co.T} (h : FillAt w g ks ks.length wr) (hg : w.heap.size ≤ g) : RetK w ks (.returned (.slice (some ⟨g, 0, none⟩) ks.length ks.length)) wr := by
  obtain ⟨xs, G, hr, hR, hG, hB⟩ := h
  rw [List.take_length] at hR
  exact ⟨_, _, rfl, ownK_of hr hR (fun h => by have := (hG g h).1; omega), foot_if hg hG hr.lt, hB⟩
theorem FillAt.later {w wr w1 : World} {g k : Nat} {ks : List Co.T} (h : FillAt w g ks k wr) (j : Nat) (hj : j < ks.length * 6) (hb : Below wr.heap.size wr w1) : (∃ u, w1.cell? ⟨g, j, none⟩ = some u) ∧ w1.frozen? ⟨g, j, none⟩ = false := by
  obtain ⟨xs, G, hr, _⟩ := h
  exact (hr.keep (hb.block g hr.lt)).cell j hj

set_option maxHeartbeats 1600000 in
theorem to_list (ks : List Co.T) (hI : ∀ x ∈ ks, ToT x) (hl : ks.length + Co.bulks ks ≤ 1048576) (w : World) (v : Value) (hk : Kids w v ks) : Calls Tryd.prog 121 #[v] w (RetK w ks) := by
  obtain ⟨i0, hi, hz0, hz1, hz2⟩ := info_parts info_core
  obtain ⟨a, c, rfl⟩ := kids_len hk
  have HK := Lib.hid hk
  have HI := Lib.hid hI
  have HL := Lib.hid hl
  have hln : ks.length ≤ 1048576 := by omega
  clear hk hI hl
  go_enter Tryd.func121, Tryd.ntmps121
  go_wp2_with (at_make; refine wpList_make_full _ rfl _ _ 66 rfl 0 68 i0 (.agg #[.int .i64 0, .int .i64 0, .int .i64 0, .int .i64 0, .string ByteArray.empty, .slice none 0 0]) 6 Tryd.underlying66 hi hz0 hz1 _ _ _ _ ks.length rfl rfl (by omega) (by omega) (by rw [hz2]; omega) (by unfold maxLen; omega) (Nat.zero_le _) ?_)
  intro w1 hown hgr
  have HB1 := Lib.hid (show Below w.heap.size w w1 from (Below.refl _ _).grown hgr (Nat.le_refl _) (fun k hk => by cases hk))
  have HST : Hid (FillAt w w.heap.size ks 0 w1) := Lib.hid ⟨_, [], hown, by rw [List.take_zero, OwnR], (fun b hb => by cases hb), HB1.out⟩
  clear hown hgr
  go_wp2
  go_loopw [4] (fun i wr => ∃ k : Nat, i = .int .i64 k ∧ k ≤ ks.length ∧ FillAt w w.heap.size ks k wr) (fun i _ => ks.length - (intOf i).toNat)
  case atStart => exact ⟨0, rfl, Nat.zero_le _, HST.out⟩
  case round =>
    clear HST
    obtain ⟨k, rfl, hk, hat⟩ := hrel
    have HAT := Lib.hid hat
    have HK2 := Lib.hid (HK.out.later hat.choose_spec.choose_spec.2.2.2)
    clear hat
    by_cases hlt : k < ks.length
    · obtain ⟨g, o, rfl, ht⟩ := kids_at HK2.out k hlt
      obtain ⟨⟨q0, q1, q2, q3, q4⟩, v, q5, hkv⟩ := tree_cells ht
      have hbk : ks[k].bulk ≤ 1048576 := by have h1 := Co.bulks_mem (List.getElem_mem hlt); have h2 := HL.out; omega
      have HC := Lib.hid (HI.out ks[k] (List.getElem_mem hlt) hbk wr v hkv)
      unfold RetE at HC
      have HN := Lib.hid (fun w1 v F h1 h2 h3 => HAT.out.next (w1 := w1) (v := v) (F := F) (Nat.le_refl _) hlt h1 h2 h3)
      have HF := Lib.hid (fun w1 j hj hb => HAT.out.later (w1 := w1) j hj hb)
      have hlt5 : k * 6 + 5 < ks.length * 6 := by omega
      have k0 : (0 : Int) ≤ k := by omega
      have k1 : (k : Int) < ks.length := by omega
      clear hbk ht hkv HAT
      generalize ks[k] = x at q0 q1 q2 q3 q4 HC HN
      go_wp2_with (go_at_call 93; refine HC.out.mono ?_; rintro e w2 ⟨v2, F2, rfl, ho2, hf2, hb2⟩; obtain ⟨z2, d2, rfl⟩ := kids_len (OwnK.kids _ ho2); have HN2 := Lib.hid (HN.out w2 _ F2 hb2 ho2 hf2); obtain ⟨⟨u0, c0⟩, f0⟩ := HF.out w2 (k * 6) (by omega) hb2; obtain ⟨⟨u1, c1⟩, f1⟩ := HF.out w2 (k * 6 + 1) (by omega) hb2; obtain ⟨⟨u2, c2⟩, f2⟩ := HF.out w2 (k * 6 + 2) (by omega) hb2; obtain ⟨⟨u3, c3⟩, f3⟩ := HF.out w2 (k * 6 + 3) (by omega) hb2; obtain ⟨⟨u4, c4⟩, f4⟩ := HF.out w2 (k * 6 + 4) (by omega) hb2; obtain ⟨⟨u5, c5⟩, f5⟩ := HF.out w2 (k * 6 + 5) (by omega) hb2; clear hb2 ho2 hf2)
      go_roundw
      case rel => exact ⟨k + 1, by go_num, by omega, HN2.out⟩
      case measure => first | (simp [intOf]; done) | (simp [intOf]; omega)
    · obtain rfl : k = ks.length := by omega
      have HD := Lib.hid (HAT.out.done (Nat.le_refl _))
      go_wp2
      go_ret
      exact HD.out
set_option maxHeartbeats 1600000 in
theorem to_tree : ∀ (N : Nat) (t : Co.T), t.count ≤ N → ToT t := by
  intro N
  induction N with
  | zero => intro t h; have := Co.count_pos t; omega
  | succ N ih =>
    intro t hN hb w v hk
    have HB := bulk_eq t
    have HL := Lib.hid (fun W hW => to_list t.kids (fun x hx => ih x (by have := kids_count hx; omega)) (by omega) W v (hk.later hW))
    unfold RetK at HL
    unfold RetE
    obtain ⟨a, c, rfl⟩ := kids_len hk
    clear ih hN hb HB hk
    generalize hW1 : w.alloc (.cells #[.int .i64 t.kind, .int .i64 t.op, .int .i64 t.num, .int .i64 t.line, .string t.text, .slice a t.kids.length c] 119) = W1 at *
    have B1 : Below w.heap.size w W1 := by rw [← hW1]; exact bl1 _ _
    have Z1 : W1.heap.size = w.heap.size + 1 := by rw [← hW1]; simp
    have B2 := Below.alloc B1 B1.size (.cells #[.int .i64 0, .int .i64 0, .int .i64 0, .int .i64 0, .string ⟨#[]⟩, .slice none 0 0] 68)
    have B3 := Below.alloc B2 B2.size (.cells #[.int .i64 t.kind, .int .i64 t.op, .int .i64 t.num, .int .i64 t.line, .string t.text, .slice none 0 0] 68)
    have HL3 := Lib.hid (HL.out _ B3)
    have F2 := Lib.hid ((FreeE.new W1 0 0 0 0 ⟨#[]⟩ (.slice none 0 0) 68).later (bl1 _ (.cells #[.int .i64 t.kind, .int .i64 t.op, .int .i64 t.num, .int .i64 t.line, .string t.text, .slice none 0 0] 68)))
    have F3 := Lib.hid (FreeE.new (W1.alloc (.cells #[.int .i64 0, .int .i64 0, .int .i64 0, .int .i64 0, .string ⟨#[]⟩, .slice none 0 0] 68)) t.kind t.op t.num t.line t.text (.slice none 0 0) 68)
    have Z2 : (W1.alloc (.cells #[.int .i64 0, .int .i64 0, .int .i64 0, .int .i64 0, .string ⟨#[]⟩, .slice none 0 0] 68)).heap.size = w.heap.size + 2 := by simp; omega
    have Z3 : ((W1.alloc (.cells #[.int .i64 0, .int .i64 0, .int .i64 0, .int .i64 0, .string ⟨#[]⟩, .slice none 0 0] 68)).alloc (.cells #[.int .i64 t.kind, .int .i64 t.op, .int .i64 t.num, .int .i64 t.line, .string t.text, .slice none 0 0] 68)).heap.size = w.heap.size + 3 := by simp; omega
    rw [Z1] at F2
    rw [Z2] at F3
    have HZ3 := Lib.hid Z3
    have HB3 := Lib.hid B3
    subst hW1
    clear B1 Z1 B2 B3 Z2 Z3 HL
    go_enter Tryd.func93, Tryd.ntmps93
    go_wp2_with (go_at_call 121; refine HL3.out.mono ?_; rintro e w1 ⟨v1, F, rfl, ho, hf, hb⟩; obtain ⟨z2, d2, rfl⟩ := kids_len (OwnK.kids _ ho); obtain ⟨⟨r0, r1, r2, r3, r4, r5⟩, s0, s1, s2, s3, s4, s5⟩ := F2.out.later hb; obtain ⟨⟨t0, t1, t2, t3, t4, t5⟩, u0, u1, u2, u3, u4, u5⟩ := F3.out.later hb; have HO := Lib.hid ho; have HF := Lib.hid hf; have HB := Lib.hid hb; clear ho hf hb)
    have hne : ∀ b ∈ F, b ≠ w.heap.size + 1 ∧ b ≠ w.heap.size + 1 + 1 := fun b hb => by have h1 := (HF.out b hb).1; rw [HZ3.out] at h1; omega
    have hbw : Below w.heap.size w w1 := HB3.out.trans (HB.out.mono HB3.out.size)
    refine bodyPost_ret (v := exV t (.slice z2 t.kids.length d2)) (by simp [results, Tryd.results93, go_sem, r0, r1, r2, r3, r4, r5]) rfl ⟨_, F, rfl, OwnK.keep _ (fun b hb => ?_) HO.out, fun b hb => ?_, ?_⟩
    · obtain ⟨h1, h2⟩ := hne b hb
      rw [Below.heap_setCell _ _ _ _ h1, Below.heap_setCell _ _ _ _ h1, Below.heap_setCell _ _ _ _ h1, Below.heap_setCell _ _ _ _ h1, Below.heap_setCell _ _ _ _ h1, Below.heap_setCell _ _ _ _ h1, Below.heap_setCell _ _ _ _ h2]
    · have h1 := HF.out b hb
      rw [HZ3.out] at h1
      have h2 := h1.2
      refine ⟨by omega, ?_⟩
      simpa [World.setCell] using h2
    · exact (((((((hbw.setCell (p := ⟨w.heap.size + 1 + 1, 5, none⟩) (by show _ ≤ _ + 1 + 1; omega) _).setCell (p := ⟨w.heap.size + 1, 0, none⟩) (Nat.le_succ _) _).setCell (p := ⟨w.heap.size + 1, 1, none⟩) (Nat.le_succ _) _).setCell (p := ⟨w.heap.size + 1, 2, none⟩) (Nat.le_succ _) _).setCell (p := ⟨w.heap.size + 1, 3, none⟩) (Nat.le_succ _) _).setCell (p := ⟨w.heap.size + 1, 4, none⟩) (Nat.le_succ _) _).setCell (p := ⟨w.heap.size + 1, 5, none⟩) (Nat.le_succ _) _)
end Go.Proofs.YtbadepiakkhabaaDoor.Cr
