/- Joined texts: G15. No conditions besides those that each states. -/
import Derived.Test.YtfachlcahainhaaZ32
import Derived.Test.YtfachlcahainhaaZ41
/- Trees that are valid, in the reference model. No conditions. -/
namespace Go.Proofs.Ytfachlcahainhaa
open Go.RowKit
set_option linter.unusedVariables false

def CountsC (t : Ex.T) (v : Value) (lo hi : Int) : Prop := ∀ wr : World, Calls Try.prog 67 #[exV t v] wr fun e w' => e = .returned (.tuple #[.int .i64 lo, .int .i64 hi]) ∧ Below wr.heap.size wr w'
def WordsC (t : Ex.T) (v : Value) (b : Bool) : Prop := ∀ wr : World, Calls Try.prog 68 #[exV t v] wr fun e w' => e = .returned (.bool b) ∧ Below wr.heap.size wr w'
def RetV (w : World) (b : Bool) (e : Ending) (w' : World) : Prop := e = .returned (.bool b) ∧ Below w.heap.size w w'
theorem valid_h0 (t : Ex.T) (a : Option Addr) (c : Nat) (w : World) (d lo hi : Int) (hln : t.kids.length ≤ 1048576) (d0 : 0 ≤ d) (d1 : d ≤ 1000) (HC : Hid (CountsC t (.slice a t.kids.length c) lo hi)) (q0 : 40 < d) : Calls Try.prog 49 #[exV t (.slice a t.kids.length c), .int .i64 d] w (RetV w false) := by
  have HE := Lib.hid (CellsE.new w t (.slice a t.kids.length c) 47)
  go_enter Try.func49, Try.ntmps49
  go_wp2_with fail
  refine (HC.out _).mono ?_
  rintro e w1 ⟨rfl, b1⟩
  have B1 := Lib.hid (below_then (bl1 _ _) b1)
  have E1 := Lib.hid (HE.out.later b1)
  obtain ⟨e0, e1, e2, e3, e4⟩ := E1.out
  clear b1 HE
  go_wp2
  go_ret
  exact ⟨rfl, B1.out⟩
theorem valid_h1 (t : Ex.T) (a : Option Addr) (c : Nat) (w : World) (d lo hi : Int) (hln : t.kids.length ≤ 1048576) (d0 : 0 ≤ d) (d1 : d ≤ 1000) (HC : Hid (CountsC t (.slice a t.kids.length c) lo hi)) (q0 : d ≤ 40) (q1 : t.kind < 1) : Calls Try.prog 49 #[exV t (.slice a t.kids.length c), .int .i64 d] w (RetV w false) := by
  have HE := Lib.hid (CellsE.new w t (.slice a t.kids.length c) 47)
  go_enter Try.func49, Try.ntmps49
  go_wp2_with fail
  refine (HC.out _).mono ?_
  rintro e w1 ⟨rfl, b1⟩
  have B1 := Lib.hid (below_then (bl1 _ _) b1)
  have E1 := Lib.hid (HE.out.later b1)
  obtain ⟨e0, e1, e2, e3, e4⟩ := E1.out
  clear b1 HE
  go_wp2
  go_ret
  exact ⟨rfl, B1.out⟩
theorem valid_h2 (t : Ex.T) (a : Option Addr) (c : Nat) (w : World) (d lo hi : Int) (hln : t.kids.length ≤ 1048576) (d0 : 0 ≤ d) (d1 : d ≤ 1000) (HC : Hid (CountsC t (.slice a t.kids.length c) lo hi)) (q0 : d ≤ 40) (q1 : 1 ≤ t.kind) (q2 : 29 < t.kind) : Calls Try.prog 49 #[exV t (.slice a t.kids.length c), .int .i64 d] w (RetV w false) := by
  have HE := Lib.hid (CellsE.new w t (.slice a t.kids.length c) 47)
  go_enter Try.func49, Try.ntmps49
  go_wp2_with fail
  refine (HC.out _).mono ?_
  rintro e w1 ⟨rfl, b1⟩
  have B1 := Lib.hid (below_then (bl1 _ _) b1)
  have E1 := Lib.hid (HE.out.later b1)
  obtain ⟨e0, e1, e2, e3, e4⟩ := E1.out
  clear b1 HE
  go_wp2
  go_ret
  exact ⟨rfl, B1.out⟩
theorem valid_h3 (t : Ex.T) (a : Option Addr) (c : Nat) (w : World) (d lo hi : Int) (hln : t.kids.length ≤ 1048576) (d0 : 0 ≤ d) (d1 : d ≤ 1000) (HC : Hid (CountsC t (.slice a t.kids.length c) lo hi)) (q0 : d ≤ 40) (q1 : 1 ≤ t.kind) (q2 : t.kind ≤ 29) (q3 : t.line < 0) : Calls Try.prog 49 #[exV t (.slice a t.kids.length c), .int .i64 d] w (RetV w false) := by
  have HE := Lib.hid (CellsE.new w t (.slice a t.kids.length c) 47)
  go_enter Try.func49, Try.ntmps49
  go_wp2_with fail
  refine (HC.out _).mono ?_
  rintro e w1 ⟨rfl, b1⟩
  have B1 := Lib.hid (below_then (bl1 _ _) b1)
  have E1 := Lib.hid (HE.out.later b1)
  obtain ⟨e0, e1, e2, e3, e4⟩ := E1.out
  clear b1 HE
  go_wp2
  go_ret
  exact ⟨rfl, B1.out⟩
theorem valid_h4 (t : Ex.T) (a : Option Addr) (c : Nat) (w : World) (d lo hi : Int) (hln : t.kids.length ≤ 1048576) (d0 : 0 ≤ d) (d1 : d ≤ 1000) (HC : Hid (CountsC t (.slice a t.kids.length c) lo hi)) (q0 : d ≤ 40) (q1 : 1 ≤ t.kind) (q2 : t.kind ≤ 29) (q3 : 0 ≤ t.line) (q4 : (t.kids.length : Int) < lo) : Calls Try.prog 49 #[exV t (.slice a t.kids.length c), .int .i64 d] w (RetV w false) := by
  have HE := Lib.hid (CellsE.new w t (.slice a t.kids.length c) 47)
  go_enter Try.func49, Try.ntmps49
  go_wp2_with fail
  refine (HC.out _).mono ?_
  rintro e w1 ⟨rfl, b1⟩
  have B1 := Lib.hid (below_then (bl1 _ _) b1)
  have E1 := Lib.hid (HE.out.later b1)
  obtain ⟨e0, e1, e2, e3, e4⟩ := E1.out
  clear b1 HE
  go_wp2
  go_ret
  exact ⟨rfl, B1.out⟩
theorem valid_h5 (t : Ex.T) (a : Option Addr) (c : Nat) (w : World) (d lo hi : Int) (hln : t.kids.length ≤ 1048576) (d0 : 0 ≤ d) (d1 : d ≤ 1000) (HC : Hid (CountsC t (.slice a t.kids.length c) lo hi)) (q0 : d ≤ 40) (q1 : 1 ≤ t.kind) (q2 : t.kind ≤ 29) (q3 : 0 ≤ t.line) (q4 : lo ≤ t.kids.length) (q5 : hi < t.kids.length) : Calls Try.prog 49 #[exV t (.slice a t.kids.length c), .int .i64 d] w (RetV w false) := by
  have HE := Lib.hid (CellsE.new w t (.slice a t.kids.length c) 47)
  go_enter Try.func49, Try.ntmps49
  go_wp2_with fail
  refine (HC.out _).mono ?_
  rintro e w1 ⟨rfl, b1⟩
  have B1 := Lib.hid (below_then (bl1 _ _) b1)
  have E1 := Lib.hid (HE.out.later b1)
  obtain ⟨e0, e1, e2, e3, e4⟩ := E1.out
  clear b1 HE
  go_wp2
  go_ret
  exact ⟨rfl, B1.out⟩
theorem valid_h6 (t : Ex.T) (a : Option Addr) (c : Nat) (w : World) (d lo hi : Int) (hln : t.kids.length ≤ 1048576) (d0 : 0 ≤ d) (d1 : d ≤ 1000) (HC : Hid (CountsC t (.slice a t.kids.length c) lo hi)) (HW : Hid (WordsC t (.slice a t.kids.length c) false)) (q0 : d ≤ 40) (q1 : 1 ≤ t.kind) (q2 : t.kind ≤ 29) (q3 : 0 ≤ t.line) (q4 : lo ≤ t.kids.length) (q5 : (t.kids.length : Int) ≤ hi) : Calls Try.prog 49 #[exV t (.slice a t.kids.length c), .int .i64 d] w (RetV w false) := by
  have HE := Lib.hid (CellsE.new w t (.slice a t.kids.length c) 47)
  go_enter Try.func49, Try.ntmps49
  go_wp2_with fail
  refine (HC.out _).mono ?_
  rintro e w1 ⟨rfl, b1⟩
  have B1 := Lib.hid (below_then (bl1 _ _) b1)
  have E1 := Lib.hid (HE.out.later b1)
  obtain ⟨e0, e1, e2, e3, e4⟩ := E1.out
  clear b1 HE
  go_wp2_with fail
  refine (HW.out _).mono ?_
  rintro e w2 ⟨rfl, b2⟩
  have B2 := Lib.hid (below_then B1.out b2)
  have E2 := Lib.hid (E1.out.later b2)
  clear b2 e0 e1 e2 e3 e4 E1
  obtain ⟨e0, e1, e2, e3, e4⟩ := E2.out
  go_wp2
  go_ret
  exact ⟨rfl, B2.out⟩
set_option maxHeartbeats 600000 in
theorem valid_n1a (t : Ex.T) (a : Option Addr) (c : Nat) (w : World) (d lo hi : Int) (hln : t.kids.length ≤ 1048576) (d0 : 0 ≤ d) (d1 : d ≤ 1000) (HC : Hid (CountsC t (.slice a t.kids.length c) lo hi)) (HW : Hid (WordsC t (.slice a t.kids.length c) true)) (q0 : d ≤ 40) (q1 : 1 ≤ t.kind) (q2 : t.kind ≤ 29) (q3 : 0 ≤ t.line) (q4 : lo ≤ t.kids.length) (q5 : (t.kids.length : Int) ≤ hi) (k1 : (t.kind == 1) = true) (n0 : t.num < 0) : Calls Try.prog 49 #[exV t (.slice a t.kids.length c), .int .i64 d] w (RetV w false) := by
  have HE := Lib.hid (CellsE.new w t (.slice a t.kids.length c) 47)
  go_enter Try.func49, Try.ntmps49
  go_wp2_with fail
  refine (HC.out _).mono ?_
  rintro e w1 ⟨rfl, b1⟩
  have B1 := Lib.hid (below_then (bl1 _ _) b1)
  have E1 := Lib.hid (HE.out.later b1)
  obtain ⟨e0, e1, e2, e3, e4⟩ := E1.out
  clear b1 HE
  go_wp2_with fail
  refine (HW.out _).mono ?_
  rintro e w2 ⟨rfl, b2⟩
  have B2 := Lib.hid (below_then B1.out b2)
  have E2 := Lib.hid (E1.out.later b2)
  clear b2 e0 e1 e2 e3 e4 E1
  obtain ⟨e0, e1, e2, e3, e4⟩ := E2.out
  go_wp2
  go_ret
  exact ⟨rfl, B2.out⟩
set_option maxHeartbeats 600000 in
theorem valid_n1b (t : Ex.T) (a : Option Addr) (c : Nat) (w : World) (d lo hi : Int) (hln : t.kids.length ≤ 1048576) (d0 : 0 ≤ d) (d1 : d ≤ 1000) (HC : Hid (CountsC t (.slice a t.kids.length c) lo hi)) (HW : Hid (WordsC t (.slice a t.kids.length c) true)) (q0 : d ≤ 40) (q1 : 1 ≤ t.kind) (q2 : t.kind ≤ 29) (q3 : 0 ≤ t.line) (q4 : lo ≤ t.kids.length) (q5 : (t.kids.length : Int) ≤ hi) (k1 : (t.kind == 1) = true) (n0 : 0 ≤ t.num) (n1 : 999999999999 < t.num) : Calls Try.prog 49 #[exV t (.slice a t.kids.length c), .int .i64 d] w (RetV w false) := by
  have HE := Lib.hid (CellsE.new w t (.slice a t.kids.length c) 47)
  go_enter Try.func49, Try.ntmps49
  go_wp2_with fail
  refine (HC.out _).mono ?_
  rintro e w1 ⟨rfl, b1⟩
  have B1 := Lib.hid (below_then (bl1 _ _) b1)
  have E1 := Lib.hid (HE.out.later b1)
  obtain ⟨e0, e1, e2, e3, e4⟩ := E1.out
  clear b1 HE
  go_wp2_with fail
  refine (HW.out _).mono ?_
  rintro e w2 ⟨rfl, b2⟩
  have B2 := Lib.hid (below_then B1.out b2)
  have E2 := Lib.hid (E1.out.later b2)
  clear b2 e0 e1 e2 e3 e4 E1
  obtain ⟨e0, e1, e2, e3, e4⟩ := E2.out
  go_wp2
  go_ret
  exact ⟨rfl, B2.out⟩
set_option maxHeartbeats 600000 in
theorem valid_n20a (t : Ex.T) (a : Option Addr) (c : Nat) (w : World) (d lo hi : Int) (hln : t.kids.length ≤ 1048576) (d0 : 0 ≤ d) (d1 : d ≤ 1000) (HC : Hid (CountsC t (.slice a t.kids.length c) lo hi)) (HW : Hid (WordsC t (.slice a t.kids.length c) true)) (q0 : d ≤ 40) (q1 : 1 ≤ t.kind) (q2 : t.kind ≤ 29) (q3 : 0 ≤ t.line) (q4 : lo ≤ t.kids.length) (q5 : (t.kids.length : Int) ≤ hi) (k1 : (t.kind == 1) = false) (k20 : (t.kind == 20) = true) (n0 : t.num < 0) : Calls Try.prog 49 #[exV t (.slice a t.kids.length c), .int .i64 d] w (RetV w false) := by
  have HE := Lib.hid (CellsE.new w t (.slice a t.kids.length c) 47)
  go_enter Try.func49, Try.ntmps49
  go_wp2_with fail
  refine (HC.out _).mono ?_
  rintro e w1 ⟨rfl, b1⟩
  have B1 := Lib.hid (below_then (bl1 _ _) b1)
  have E1 := Lib.hid (HE.out.later b1)
  obtain ⟨e0, e1, e2, e3, e4⟩ := E1.out
  clear b1 HE
  go_wp2_with fail
  refine (HW.out _).mono ?_
  rintro e w2 ⟨rfl, b2⟩
  have B2 := Lib.hid (below_then B1.out b2)
  have E2 := Lib.hid (E1.out.later b2)
  clear b2 e0 e1 e2 e3 e4 E1
  obtain ⟨e0, e1, e2, e3, e4⟩ := E2.out
  go_wp2
  go_ret
  exact ⟨rfl, B2.out⟩
set_option maxHeartbeats 600000 in
theorem valid_n20b (t : Ex.T) (a : Option Addr) (c : Nat) (w : World) (d lo hi : Int) (hln : t.kids.length ≤ 1048576) (d0 : 0 ≤ d) (d1 : d ≤ 1000) (HC : Hid (CountsC t (.slice a t.kids.length c) lo hi)) (HW : Hid (WordsC t (.slice a t.kids.length c) true)) (q0 : d ≤ 40) (q1 : 1 ≤ t.kind) (q2 : t.kind ≤ 29) (q3 : 0 ≤ t.line) (q4 : lo ≤ t.kids.length) (q5 : (t.kids.length : Int) ≤ hi) (k1 : (t.kind == 1) = false) (k20 : (t.kind == 20) = true) (n0 : 0 ≤ t.num) (n1 : 1 < t.num) : Calls Try.prog 49 #[exV t (.slice a t.kids.length c), .int .i64 d] w (RetV w false) := by
  have HE := Lib.hid (CellsE.new w t (.slice a t.kids.length c) 47)
  go_enter Try.func49, Try.ntmps49
  go_wp2_with fail
  refine (HC.out _).mono ?_
  rintro e w1 ⟨rfl, b1⟩
  have B1 := Lib.hid (below_then (bl1 _ _) b1)
  have E1 := Lib.hid (HE.out.later b1)
  obtain ⟨e0, e1, e2, e3, e4⟩ := E1.out
  clear b1 HE
  go_wp2_with fail
  refine (HW.out _).mono ?_
  rintro e w2 ⟨rfl, b2⟩
  have B2 := Lib.hid (below_then B1.out b2)
  have E2 := Lib.hid (E1.out.later b2)
  clear b2 e0 e1 e2 e3 e4 E1
  obtain ⟨e0, e1, e2, e3, e4⟩ := E2.out
  go_wp2
  go_ret
  exact ⟨rfl, B2.out⟩
set_option maxHeartbeats 600000 in
theorem valid_nxa (t : Ex.T) (a : Option Addr) (c : Nat) (w : World) (d lo hi : Int) (hln : t.kids.length ≤ 1048576) (d0 : 0 ≤ d) (d1 : d ≤ 1000) (HC : Hid (CountsC t (.slice a t.kids.length c) lo hi)) (HW : Hid (WordsC t (.slice a t.kids.length c) true)) (q0 : d ≤ 40) (q1 : 1 ≤ t.kind) (q2 : t.kind ≤ 29) (q3 : 0 ≤ t.line) (q4 : lo ≤ t.kids.length) (q5 : (t.kids.length : Int) ≤ hi) (k1 : (t.kind == 1) = false) (k20 : (t.kind == 20) = false) (n0 : (t.num != 0) = true) : Calls Try.prog 49 #[exV t (.slice a t.kids.length c), .int .i64 d] w (RetV w false) := by
  have HE := Lib.hid (CellsE.new w t (.slice a t.kids.length c) 47)
  go_enter Try.func49, Try.ntmps49
  go_wp2_with fail
  refine (HC.out _).mono ?_
  rintro e w1 ⟨rfl, b1⟩
  have B1 := Lib.hid (below_then (bl1 _ _) b1)
  have E1 := Lib.hid (HE.out.later b1)
  obtain ⟨e0, e1, e2, e3, e4⟩ := E1.out
  clear b1 HE
  go_wp2_with fail
  refine (HW.out _).mono ?_
  rintro e w2 ⟨rfl, b2⟩
  have B2 := Lib.hid (below_then B1.out b2)
  have E2 := Lib.hid (E1.out.later b2)
  clear b2 e0 e1 e2 e3 e4 E1
  obtain ⟨e0, e1, e2, e3, e4⟩ := E2.out
  go_wp2
  go_ret
  exact ⟨rfl, B2.out⟩
end Go.Proofs.Ytfachlcahainhaa
