/- Joined texts: G15, G16, G17. No conditions besides those that each states. -/
import Derived.Test.YtbadepiakkhabaaDoorZ10
import Derived.Test.YtbadepiakkhabaaDoorZ18
/- Trees that are valid, in the reference model. No conditions. -/
namespace Go.Proofs.YtbadepiakkhabaaDoor
open Go.RowKit
set_option linter.unusedVariables false

def CountsC (t : Ex.T) (v : Value) (lo hi : Int) : Prop := ∀ wr : World, Calls Tryd.prog 108 #[exV t v] wr fun e w' => e = .returned (.tuple #[.int .i64 lo, .int .i64 hi]) ∧ Below wr.heap.size wr w'
def WordsC (t : Ex.T) (v : Value) (b : Bool) : Prop := ∀ wr : World, Calls Tryd.prog 137 #[exV t v] wr fun e w' => e = .returned (.bool b) ∧ Below wr.heap.size wr w'
def RetV (w : World) (b : Bool) (e : Ending) (w' : World) : Prop := e = .returned (.bool b) ∧ Below w.heap.size w w'
theorem valid_h0 (t : Ex.T) (a : Option Addr) (c : Nat) (w : World) (d lo hi : Int) (hln : t.kids.length ≤ 1048576) (d0 : 0 ≤ d) (d1 : d ≤ 1000) (HC : Hid (CountsC t (.slice a t.kids.length c) lo hi)) (q0 : 40 < d) : Calls Tryd.prog 118 #[exV t (.slice a t.kids.length c), .int .i64 d] w (RetV w false) := by
  have HE := Lib.hid (CellsE.new w t (.slice a t.kids.length c) 105)
  go_enter Tryd.func118, Tryd.ntmps118
  go_wp2_with fail
  refine (HC.out _).mono ?_
  rintro e w1 ⟨rfl, b1⟩
  have B1 := Lib.hid (below_then (bl1 _ _) b1)
  have E1 := Lib.hid (HE.out.later b1)
  obtain ⟨e0, e1, e2, e3, e4⟩ := E1.out
  clear b1 HE
  go_wp2
  go_ret
  exact ⟨rfl, B1.out⟩
theorem valid_h1 (t : Ex.T) (a : Option Addr) (c : Nat) (w : World) (d lo hi : Int) (hln : t.kids.length ≤ 1048576) (d0 : 0 ≤ d) (d1 : d ≤ 1000) (HC : Hid (CountsC t (.slice a t.kids.length c) lo hi)) (q0 : d ≤ 40) (q1 : t.kind < 1) : Calls Tryd.prog 118 #[exV t (.slice a t.kids.length c), .int .i64 d] w (RetV w false) := by
  have HE := Lib.hid (CellsE.new w t (.slice a t.kids.length c) 105)
  go_enter Tryd.func118, Tryd.ntmps118
  go_wp2_with fail
  refine (HC.out _).mono ?_
  rintro e w1 ⟨rfl, b1⟩
  have B1 := Lib.hid (below_then (bl1 _ _) b1)
  have E1 := Lib.hid (HE.out.later b1)
  obtain ⟨e0, e1, e2, e3, e4⟩ := E1.out
  clear b1 HE
  go_wp2
  go_ret
  exact ⟨rfl, B1.out⟩
theorem valid_h2 (t : Ex.T) (a : Option Addr) (c : Nat) (w : World) (d lo hi : Int) (hln : t.kids.length ≤ 1048576) (d0 : 0 ≤ d) (d1 : d ≤ 1000) (HC : Hid (CountsC t (.slice a t.kids.length c) lo hi)) (q0 : d ≤ 40) (q1 : 1 ≤ t.kind) (q2 : 29 < t.kind) : Calls Tryd.prog 118 #[exV t (.slice a t.kids.length c), .int .i64 d] w (RetV w false) := by
  have HE := Lib.hid (CellsE.new w t (.slice a t.kids.length c) 105)
  go_enter Tryd.func118, Tryd.ntmps118
  go_wp2_with fail
  refine (HC.out _).mono ?_
  rintro e w1 ⟨rfl, b1⟩
  have B1 := Lib.hid (below_then (bl1 _ _) b1)
  have E1 := Lib.hid (HE.out.later b1)
  obtain ⟨e0, e1, e2, e3, e4⟩ := E1.out
  clear b1 HE
  go_wp2
  go_ret
  exact ⟨rfl, B1.out⟩
theorem valid_h3 (t : Ex.T) (a : Option Addr) (c : Nat) (w : World) (d lo hi : Int) (hln : t.kids.length ≤ 1048576) (d0 : 0 ≤ d) (d1 : d ≤ 1000) (HC : Hid (CountsC t (.slice a t.kids.length c) lo hi)) (q0 : d ≤ 40) (q1 : 1 ≤ t.kind) (q2 : t.kind ≤ 29) (q3 : t.line < 0) : Calls Tryd.prog 118 #[exV t (.slice a t.kids.length c), .int .i64 d] w (RetV w false) := by
  have HE := Lib.hid (CellsE.new w t (.slice a t.kids.length c) 105)
  go_enter Tryd.func118, Tryd.ntmps118
  go_wp2_with fail
  refine (HC.out _).mono ?_
  rintro e w1 ⟨rfl, b1⟩
  have B1 := Lib.hid (below_then (bl1 _ _) b1)
  have E1 := Lib.hid (HE.out.later b1)
  obtain ⟨e0, e1, e2, e3, e4⟩ := E1.out
  clear b1 HE
  go_wp2
  go_ret
  exact ⟨rfl, B1.out⟩
theorem valid_h4 (t : Ex.T) (a : Option Addr) (c : Nat) (w : World) (d lo hi : Int) (hln : t.kids.length ≤ 1048576) (d0 : 0 ≤ d) (d1 : d ≤ 1000) (HC : Hid (CountsC t (.slice a t.kids.length c) lo hi)) (q0 : d ≤ 40) (q1 : 1 ≤ t.kind) (q2 : t.kind ≤ 29) (q3 : 0 ≤ t.line) (q4 : (t.kids.length : Int) < lo) : Calls Tryd.prog 118 #[exV t (.slice a t.kids.length c), .int .i64 d] w (RetV w false) := by
  have HE := Lib.hid (CellsE.new w t (.slice a t.kids.length c) 105)
  go_enter Tryd.func118, Tryd.ntmps118
  go_wp2_with fail
  refine (HC.out _).mono ?_
  rintro e w1 ⟨rfl, b1⟩
  have B1 := Lib.hid (below_then (bl1 _ _) b1)
  have E1 := Lib.hid (HE.out.later b1)
  obtain ⟨e0, e1, e2, e3, e4⟩ := E1.out
  clear b1 HE
  go_wp2
  go_ret
  exact ⟨rfl, B1.out⟩
theorem valid_h5 (t : Ex.T) (a : Option Addr) (c : Nat) (w : World) (d lo hi : Int) (hln : t.kids.length ≤ 1048576) (d0 : 0 ≤ d) (d1 : d ≤ 1000) (HC : Hid (CountsC t (.slice a t.kids.length c) lo hi)) (q0 : d ≤ 40) (q1 : 1 ≤ t.kind) (q2 : t.kind ≤ 29) (q3 : 0 ≤ t.line) (q4 : lo ≤ t.kids.length) (q5 : hi < t.kids.length) : Calls Tryd.prog 118 #[exV t (.slice a t.kids.length c), .int .i64 d] w (RetV w false) := by
  have HE := Lib.hid (CellsE.new w t (.slice a t.kids.length c) 105)
  go_enter Tryd.func118, Tryd.ntmps118
  go_wp2_with fail
  refine (HC.out _).mono ?_
  rintro e w1 ⟨rfl, b1⟩
  have B1 := Lib.hid (below_then (bl1 _ _) b1)
  have E1 := Lib.hid (HE.out.later b1)
  obtain ⟨e0, e1, e2, e3, e4⟩ := E1.out
  clear b1 HE
  go_wp2
  go_ret
  exact ⟨rfl, B1.out⟩
theorem valid_h6 (t : Ex.T) (a : Option Addr) (c : Nat) (w : World) (d lo hi : Int) (hln : t.kids.length ≤ 1048576) (d0 : 0 ≤ d) (d1 : d ≤ 1000) (HC : Hid (CountsC t (.slice a t.kids.length c) lo hi)) (HW : Hid (WordsC t (.slice a t.kids.length c) false)) (q0 : d ≤ 40) (q1 : 1 ≤ t.kind) (q2 : t.kind ≤ 29) (q3 : 0 ≤ t.line) (q4 : lo ≤ t.kids.length) (q5 : (t.kids.length : Int) ≤ hi) : Calls Tryd.prog 118 #[exV t (.slice a t.kids.length c), .int .i64 d] w (RetV w false) := by
  have HE := Lib.hid (CellsE.new w t (.slice a t.kids.length c) 105)
  go_enter Tryd.func118, Tryd.ntmps118
  go_wp2_with fail
  refine (HC.out _).mono ?_
  rintro e w1 ⟨rfl, b1⟩
  have B1 := Lib.hid (below_then (bl1 _ _) b1)
  have E1 := Lib.hid (HE.out.later b1)
  obtain ⟨e0, e1, e2, e3, e4⟩ := E1.out
  clear b1 HE
  go_wp2_with fail
  refine (HW.out _).mono ?_
  rintro e w2 ⟨rfl, b2⟩
  have B2 := Lib.hid (below_then B1.out b2)
  have E2 := Lib.hid (E1.out.later b2)
  clear b2 e0 e1 e2 e3 e4 E1
  obtain ⟨e0, e1, e2, e3, e4⟩ := E2.out
  go_wp2
  go_ret
  exact ⟨rfl, B2.out⟩
set_option maxHeartbeats 600000 in
theorem valid_n1a (t : Ex.T) (a : Option Addr) (c : Nat) (w : World) (d lo hi : Int) (hln : t.kids.length ≤ 1048576) (d0 : 0 ≤ d) (d1 : d ≤ 1000) (HC : Hid (CountsC t (.slice a t.kids.length c) lo hi)) (HW : Hid (WordsC t (.slice a t.kids.length c) true)) (q0 : d ≤ 40) (q1 : 1 ≤ t.kind) (q2 : t.kind ≤ 29) (q3 : 0 ≤ t.line) (q4 : lo ≤ t.kids.length) (q5 : (t.kids.length : Int) ≤ hi) (k1 : (t.kind == 1) = true) (n0 : t.num < 0) : Calls Tryd.prog 118 #[exV t (.slice a t.kids.length c), .int .i64 d] w (RetV w false) := by
  have HE := Lib.hid (CellsE.new w t (.slice a t.kids.length c) 105)
  go_enter Tryd.func118, Tryd.ntmps118
  go_wp2_with fail
  refine (HC.out _).mono ?_
  rintro e w1 ⟨rfl, b1⟩
  have B1 := Lib.hid (below_then (bl1 _ _) b1)
  have E1 := Lib.hid (HE.out.later b1)
  obtain ⟨e0, e1, e2, e3, e4⟩ := E1.out
  clear b1 HE
  go_wp2_with fail
  refine (HW.out _).mono ?_
  rintro e w2 ⟨rfl, b2⟩
  have B2 := Lib.hid (below_then B1.out b2)
  have E2 := Lib.hid (E1.out.later b2)
  clear b2 e0 e1 e2 e3 e4 E1
  obtain ⟨e0, e1, e2, e3, e4⟩ := E2.out
  go_wp2
  go_ret
  exact ⟨rfl, B2.out⟩
set_option maxHeartbeats 600000 in
theorem valid_n1b (t : Ex.T) (a : Option Addr) (c : Nat) (w : World) (d lo hi : Int) (hln : t.kids.length ≤ 1048576) (d0 : 0 ≤ d) (d1 : d ≤ 1000) (HC : Hid (CountsC t (.slice a t.kids.length c) lo hi)) (HW : Hid (WordsC t (.slice a t.kids.length c) true)) (q0 : d ≤ 40) (q1 : 1 ≤ t.kind) (q2 : t.kind ≤ 29) (q3 : 0 ≤ t.line) (q4 : lo ≤ t.kids.length) (q5 : (t.kids.length : Int) ≤ hi) (k1 : (t.kind == 1) = true) (n0 : 0 ≤ t.num) (n1 : 999999999999 < t.num) : Calls Tryd.prog 118 #[exV t (.slice a t.kids.length c), .int .i64 d] w (RetV w false) := by
  have HE := Lib.hid (CellsE.new w t (.slice a t.kids.length c) 105)
  go_enter Tryd.func118, Tryd.ntmps118
  go_wp2_with fail
  refine (HC.out _).mono ?_
  rintro e w1 ⟨rfl, b1⟩
  have B1 := Lib.hid (below_then (bl1 _ _) b1)
  have E1 := Lib.hid (HE.out.later b1)
  obtain ⟨e0, e1, e2, e3, e4⟩ := E1.out
  clear b1 HE
  go_wp2_with fail
  refine (HW.out _).mono ?_
  rintro e w2 ⟨rfl, b2⟩
  have B2 := Lib.hid (below_then B1.out b2)
  have E2 := Lib.hid (E1.out.later b2)
  clear b2 e0 e1 e2 e3 e4 E1
  obtain ⟨e0, e1, e2, e3, e4⟩ := E2.out
  go_wp2
  go_ret
  exact ⟨rfl, B2.out⟩
set_option maxHeartbeats 600000 in
theorem valid_n20a (t : Ex.T) (a : Option Addr) (c : Nat) (w : World) (d lo hi : Int) (hln : t.kids.length ≤ 1048576) (d0 : 0 ≤ d) (d1 : d ≤ 1000) (HC : Hid (CountsC t (.slice a t.kids.length c) lo hi)) (HW : Hid (WordsC t (.slice a t.kids.length c) true)) (q0 : d ≤ 40) (q1 : 1 ≤ t.kind) (q2 : t.kind ≤ 29) (q3 : 0 ≤ t.line) (q4 : lo ≤ t.kids.length) (q5 : (t.kids.length : Int) ≤ hi) (k1 : (t.kind == 1) = false) (k20 : (t.kind == 20) = true) (n0 : t.num < 0) : Calls Tryd.prog 118 #[exV t (.slice a t.kids.length c), .int .i64 d] w (RetV w false) := by
  have HE := Lib.hid (CellsE.new w t (.slice a t.kids.length c) 105)
  go_enter Tryd.func118, Tryd.ntmps118
  go_wp2_with fail
  refine (HC.out _).mono ?_
  rintro e w1 ⟨rfl, b1⟩
  have B1 := Lib.hid (below_then (bl1 _ _) b1)
  have E1 := Lib.hid (HE.out.later b1)
  obtain ⟨e0, e1, e2, e3, e4⟩ := E1.out
  clear b1 HE
  go_wp2_with fail
  refine (HW.out _).mono ?_
  rintro e w2 ⟨rfl, b2⟩
  have B2 := Lib.hid (below_then B1.out b2)
  have E2 := Lib.hid (E1.out.later b2)
  clear b2 e0 e1 e2 e3 e4 E1
  obtain ⟨e0, e1, e2, e3, e4⟩ := E2.out
  go_wp2
  go_ret
  exact ⟨rfl, B2.out⟩
set_option maxHeartbeats 600000 in
theorem valid_n20b (t : Ex.T) (a : Option Addr) (c : Nat) (w : World) (d lo hi : Int) (hln : t.kids.length ≤ 1048576) (d0 : 0 ≤ d) (d1 : d ≤ 1000) (HC : Hid (CountsC t (.slice a t.kids.length c) lo hi)) (HW : Hid (WordsC t (.slice a t.kids.length c) true)) (q0 : d ≤ 40) (q1 : 1 ≤ t.kind) (q2 : t.kind ≤ 29) (q3 : 0 ≤ t.line) (q4 : lo ≤ t.kids.length) (q5 : (t.kids.length : Int) ≤ hi) (k1 : (t.kind == 1) = false) (k20 : (t.kind == 20) = true) (n0 : 0 ≤ t.num) (n1 : 1 < t.num) : Calls Tryd.prog 118 #[exV t (.slice a t.kids.length c), .int .i64 d] w (RetV w false) := by
  have HE := Lib.hid (CellsE.new w t (.slice a t.kids.length c) 105)
  go_enter Tryd.func118, Tryd.ntmps118
  go_wp2_with fail
  refine (HC.out _).mono ?_
  rintro e w1 ⟨rfl, b1⟩
  have B1 := Lib.hid (below_then (bl1 _ _) b1)
  have E1 := Lib.hid (HE.out.later b1)
  obtain ⟨e0, e1, e2, e3, e4⟩ := E1.out
  clear b1 HE
  go_wp2_with fail
  refine (HW.out _).mono ?_
  rintro e w2 ⟨rfl, b2⟩
  have B2 := Lib.hid (below_then B1.out b2)
  have E2 := Lib.hid (E1.out.later b2)
  clear b2 e0 e1 e2 e3 e4 E1
  obtain ⟨e0, e1, e2, e3, e4⟩ := E2.out
  go_wp2
  go_ret
  exact ⟨rfl, B2.out⟩
set_option maxHeartbeats 600000 in
theorem valid_nxa (t : Ex.T) (a : Option Addr) (c : Nat) (w : World) (d lo hi : Int) (hln : t.kids.length ≤ 1048576) (d0 : 0 ≤ d) (d1 : d ≤ 1000) (HC : Hid (CountsC t (.slice a t.kids.length c) lo hi)) (HW : Hid (WordsC t (.slice a t.kids.length c) true)) (q0 : d ≤ 40) (q1 : 1 ≤ t.kind) (q2 : t.kind ≤ 29) (q3 : 0 ≤ t.line) (q4 : lo ≤ t.kids.length) (q5 : (t.kids.length : Int) ≤ hi) (k1 : (t.kind == 1) = false) (k20 : (t.kind == 20) = false) (n0 : (t.num != 0) = true) : Calls Tryd.prog 118 #[exV t (.slice a t.kids.length c), .int .i64 d] w (RetV w false) := by
  have HE := Lib.hid (CellsE.new w t (.slice a t.kids.length c) 105)
  go_enter Tryd.func118, Tryd.ntmps118
  go_wp2_with fail
  refine (HC.out _).mono ?_
  rintro e w1 ⟨rfl, b1⟩
  have B1 := Lib.hid (below_then (bl1 _ _) b1)
  have E1 := Lib.hid (HE.out.later b1)
  obtain ⟨e0, e1, e2, e3, e4⟩ := E1.out
  clear b1 HE
  go_wp2_with fail
  refine (HW.out _).mono ?_
  rintro e w2 ⟨rfl, b2⟩
  have B2 := Lib.hid (below_then B1.out b2)
  have E2 := Lib.hid (E1.out.later b2)
  clear b2 e0 e1 e2 e3 e4 E1
  obtain ⟨e0, e1, e2, e3, e4⟩ := E2.out
  go_wp2
  go_ret
  exact ⟨rfl, B2.out⟩
end Go.Proofs.YtbadepiakkhabaaDoor
/- Trees that are valid, in the reference model: kids. No conditions. -/
namespace Go.Proofs.YtbadepiakkhabaaDoor
open Go.RowKit
set_option linter.unusedVariables false

/-- What a node must be, its kids apart. -/
def Ex.headB (k : Int) (s : ByteArray) (n l : Int) (z : Nat) (d : Int) : Bool :=
  (decide (d ≤ 40) && decide (1 ≤ k) && decide (k ≤ 29) && decide (0 ≤ l) && decide ((Ex.kidsOf k).1 ≤ z) && decide ((z : Int) ≤ (Ex.kidsOf k).2) && Ex.words k s) &&
  (if k = 1 then decide (0 ≤ n) && decide (n ≤ 999999999999) else if k = 20 then decide (0 ≤ n) && decide (n ≤ 1) && decide (((z : Int) - 1 - n).tmod 2 = 0) && decide (1 + n ≤ z) else n == 0)
mutual
/-- A tree that is valid, at a depth. -/
def Ex.T.valid : Ex.T → Int → Bool
  | .node k s n l ks, d => Ex.headB k s n l ks.length d && Ex.valids ks (d + 1)
def Ex.valids : List Ex.T → Int → Bool
  | [], _ => true
  | x :: r, d => x.valid d && Ex.valids r d
end
theorem Ex.valid_eq (t : Ex.T) (d : Int) : t.valid d = (Ex.headB t.kind t.text t.num t.line t.kids.length d && Ex.valids t.kids (d + 1)) := by cases t; rw [Ex.T.valid]; rfl
theorem Ex.valids_app (a b : List Ex.T) (d : Int) : Ex.valids (a ++ b) d = (Ex.valids a d && Ex.valids b d) := by
  induction a with
  | nil => simp [Ex.valids]
  | cons x r ih => simp [Ex.valids, ih, Bool.and_assoc]
def ValAt (ks : List Ex.T) (d : Int) (k : Nat) : Prop := Ex.valids (ks.take k) d = true
theorem ValAt.start (ks : List Ex.T) (d : Int) : ValAt ks d 0 := by simp [ValAt, Ex.valids]
theorem ValAt.next {ks : List Ex.T} {d : Int} {k : Nat} (h : ValAt ks d k) (hk : k < ks.length) (hx : ks[k].valid d = true) : ValAt ks d (k + 1) := by
  unfold ValAt at h ⊢
  rw [List.take_succ_eq_append_getElem hk, Ex.valids_app, h, Ex.valids, Ex.valids, hx]; rfl
theorem ValAt.over {ks : List Ex.T} {d : Int} (h : ValAt ks d ks.length) : Ex.valids ks d = true := by
  unfold ValAt at h
  rw [List.take_length] at h; exact h
theorem valids_bad {ks : List Ex.T} {d : Int} {k : Nat} (hk : k < ks.length) (hx : ks[k].valid d = false) : Ex.valids ks d = false := by
  have e : ks = ks.take k ++ (ks[k] :: ks.drop (k + 1)) := by rw [← List.drop_eq_getElem_cons hk, List.take_append_drop]
  rw [e, Ex.valids_app, Ex.valids, hx, Bool.false_and, Bool.and_false]
def KidsC (t : Ex.T) (d : Int) : Prop := ∀ x ∈ t.kids, ∀ (w : World) (v : Value), Kids w v x.kids → Calls Tryd.prog 118 #[exV x v, .int .i64 d] w fun e w' => e = .returned (.bool (x.valid d)) ∧ Below w.heap.size w w'
set_option maxHeartbeats 1600000 in
theorem valid_n20c (t : Ex.T) (a : Option Addr) (c : Nat) (w : World) (d lo hi : Int) (hln : t.kids.length ≤ 1048576) (d0 : 0 ≤ d) (d1 : d ≤ 1000) (HC : Hid (CountsC t (.slice a t.kids.length c) lo hi)) (HW : Hid (WordsC t (.slice a t.kids.length c) true)) (q0 : d ≤ 40) (q1 : 1 ≤ t.kind) (q2 : t.kind ≤ 29) (q3 : 0 ≤ t.line) (q4 : lo ≤ t.kids.length) (q5 : (t.kids.length : Int) ≤ hi) (k1 : (t.kind == 1) = false) (k20 : (t.kind == 20) = true) (n0 : 0 ≤ t.num) (n1 : t.num ≤ 1) (p : ¬ ((t.kids.length : Int) - 1 - t.num).tmod 2 = 0) : Calls Tryd.prog 118 #[exV t (.slice a t.kids.length c), .int .i64 d] w (RetV w false) := by
  have HE := Lib.hid (CellsE.new w t (.slice a t.kids.length c) 105)
  go_enter Tryd.func118, Tryd.ntmps118
  go_wp2_with fail
  refine (HC.out _).mono ?_
  rintro e w1 ⟨rfl, b1⟩
  have B1 := Lib.hid (below_then (bl1 _ _) b1)
  have E1 := Lib.hid (HE.out.later b1)
  obtain ⟨e0, e1, e2, e3, e4⟩ := E1.out
  clear b1 HE
  go_wp2_with fail
  refine (HW.out _).mono ?_
  rintro e w2 ⟨rfl, b2⟩
  have B2 := Lib.hid (below_then B1.out b2)
  have E2 := Lib.hid (E1.out.later b2)
  clear b2 e0 e1 e2 e3 e4 E1
  obtain ⟨e0, e1, e2, e3, e4⟩ := E2.out
  go_wp2
  all_goals first | (go_ret; exact ⟨rfl, B2.out⟩) | (exfalso; omega)
set_option maxHeartbeats 1600000 in
theorem valid_n20d (t : Ex.T) (a : Option Addr) (c : Nat) (w : World) (d lo hi : Int) (hln : t.kids.length ≤ 1048576) (d0 : 0 ≤ d) (d1 : d ≤ 1000) (HC : Hid (CountsC t (.slice a t.kids.length c) lo hi)) (HW : Hid (WordsC t (.slice a t.kids.length c) true)) (q0 : d ≤ 40) (q1 : 1 ≤ t.kind) (q2 : t.kind ≤ 29) (q3 : 0 ≤ t.line) (q4 : lo ≤ t.kids.length) (q5 : (t.kids.length : Int) ≤ hi) (k1 : (t.kind == 1) = false) (k20 : (t.kind == 20) = true) (n0 : 0 ≤ t.num) (n1 : t.num ≤ 1) (p : ((t.kids.length : Int) - 1 - t.num).tmod 2 = 0) (m : (t.kids.length : Int) < 1 + t.num) : Calls Tryd.prog 118 #[exV t (.slice a t.kids.length c), .int .i64 d] w (RetV w false) := by
  have HE := Lib.hid (CellsE.new w t (.slice a t.kids.length c) 105)
  go_enter Tryd.func118, Tryd.ntmps118
  go_wp2_with fail
  refine (HC.out _).mono ?_
  rintro e w1 ⟨rfl, b1⟩
  have B1 := Lib.hid (below_then (bl1 _ _) b1)
  have E1 := Lib.hid (HE.out.later b1)
  obtain ⟨e0, e1, e2, e3, e4⟩ := E1.out
  clear b1 HE
  go_wp2_with fail
  refine (HW.out _).mono ?_
  rintro e w2 ⟨rfl, b2⟩
  have B2 := Lib.hid (below_then B1.out b2)
  have E2 := Lib.hid (E1.out.later b2)
  clear b2 e0 e1 e2 e3 e4 E1
  obtain ⟨e0, e1, e2, e3, e4⟩ := E2.out
  go_wp2
  all_goals first | (go_ret; exact ⟨rfl, B2.out⟩) | (exfalso; omega)
set_option maxHeartbeats 1600000 in
theorem valid_px (t : Ex.T) (a : Option Addr) (c : Nat) (w : World) (d lo hi : Int) (hln : t.kids.length ≤ 1048576) (d0 : 0 ≤ d) (d1 : d ≤ 1000) (HC : Hid (CountsC t (.slice a t.kids.length c) lo hi)) (HW : Hid (WordsC t (.slice a t.kids.length c) true)) (q0 : d ≤ 40) (q1 : 1 ≤ t.kind) (q2 : t.kind ≤ 29) (q3 : 0 ≤ t.line) (q4 : lo ≤ t.kids.length) (q5 : (t.kids.length : Int) ≤ hi) (k1 : (t.kind == 1) = false) (k20 : (t.kind == 20) = false) (n0 : (t.num != 0) = false) (HK : Hid (Kids w (.slice a t.kids.length c) t.kids)) (HI : Hid (KidsC t (d + 1))) : Calls Tryd.prog 118 #[exV t (.slice a t.kids.length c), .int .i64 d] w (RetV w (Ex.valids t.kids (d + 1))) := by
  have HE := Lib.hid (CellsE.new w t (.slice a t.kids.length c) 105)
  go_enter Tryd.func118, Tryd.ntmps118
  go_wp2_with fail
  refine (HC.out _).mono ?_
  rintro e w1 ⟨rfl, b1⟩
  have B1 := Lib.hid (below_then (bl1 _ _) b1)
  have E1 := Lib.hid (HE.out.later b1)
  obtain ⟨e0, e1, e2, e3, e4⟩ := E1.out
  clear b1 HE
  go_wp2_with fail
  refine (HW.out _).mono ?_
  rintro e w2 ⟨rfl, b2⟩
  have B2 := Lib.hid (below_then B1.out b2)
  have E2 := Lib.hid (E1.out.later b2)
  clear b2 e0 e1 e2 e3 e4 E1
  obtain ⟨e0, e1, e2, e3, e4⟩ := E2.out
  go_wp2_with fail
  go_loopw [4, 7] (fun r i wr => ∃ k : Nat, r = .bool false ∧ i = .int .i64 k ∧ k ≤ t.kids.length ∧ ValAt t.kids (d + 1) k ∧ CellsE wr w.heap.size t (.slice a t.kids.length c) ∧ Below w.heap.size w wr) (fun _ i _ => t.kids.length - (intOf i).toNat)
  case atStart => exact ⟨0, rfl, rfl, by omega, ValAt.start _ _, E2.out, B2.out⟩
  case round =>
    obtain ⟨k, rfl, rfl, hkk, hat, hce, hb⟩ := hrel
    have HAT := Lib.hid hat
    have HB := Lib.hid hb
    have HE := Lib.hid hce
    have HK2 := Lib.hid (HK.out.later hb)
    obtain ⟨f0, f1, f2, f3, f4⟩ := hce
    clear hat hb f0 f1 f2 f3
    by_cases hlt : k < t.kids.length
    · obtain ⟨g, o, rfl, ht⟩ := kids_at HK2.out k hlt
      obtain ⟨⟨x0, x1, x2, x3⟩, v, x4, hkv⟩ := tree_cells ht
      have HR := Lib.hid (HI.out t.kids[k] (List.getElem_mem hlt) wr v hkv)
      have k0 : (0 : Int) ≤ k := by omega
      have k2 : (k : Int) < t.kids.length := by omega
      by_cases hv : t.kids[k].valid (d + 1) = true
      · have HN := Lib.hid (HAT.out.next hlt hv)
        rw [hv] at HR
        clear ht hkv HAT hv
        generalize t.kids[k] = x at x0 x1 x2 x3 HR
        go_wp2_with (go_at_call 118; refine HR.out.mono ?_; rintro e w3 ⟨rfl, b3⟩; have B3 := Lib.hid (below_then HB.out b3); have E3 := Lib.hid (HE.out.later b3); clear b3)
        go_roundw
        case rel => exact ⟨k + 1, rfl, by go_num, by omega, HN.out, E3.out, B3.out⟩
        case measure => first | (simp [intOf]; done) | (simp [intOf]; omega)
      · rw [Bool.not_eq_true] at hv
        have HN := Lib.hid (valids_bad hlt hv)
        rw [hv] at HR
        clear ht hkv HAT hv
        generalize t.kids[k] = x at x0 x1 x2 x3 HR
        go_wp2_with (go_at_call 118; refine HR.out.mono ?_; rintro e w3 ⟨rfl, b3⟩; have B3 := Lib.hid (below_then HB.out b3); clear b3)
        go_ret
        exact ⟨by rw [HN.out]; rfl, B3.out⟩
    · obtain rfl : k = t.kids.length := by omega
      have HN := Lib.hid HAT.out.over
      go_wp2
      go_ret
      exact ⟨by rw [HN.out]; rfl, HB.out⟩
set_option maxHeartbeats 1600000 in
theorem valid_p1 (t : Ex.T) (a : Option Addr) (c : Nat) (w : World) (d lo hi : Int) (hln : t.kids.length ≤ 1048576) (d0 : 0 ≤ d) (d1 : d ≤ 1000) (HC : Hid (CountsC t (.slice a t.kids.length c) lo hi)) (HW : Hid (WordsC t (.slice a t.kids.length c) true)) (q0 : d ≤ 40) (q1 : 1 ≤ t.kind) (q2 : t.kind ≤ 29) (q3 : 0 ≤ t.line) (q4 : lo ≤ t.kids.length) (q5 : (t.kids.length : Int) ≤ hi) (k1 : (t.kind == 1) = true) (n0 : 0 ≤ t.num) (n1 : t.num ≤ 999999999999) (HK : Hid (Kids w (.slice a t.kids.length c) t.kids)) (HI : Hid (KidsC t (d + 1))) : Calls Tryd.prog 118 #[exV t (.slice a t.kids.length c), .int .i64 d] w (RetV w (Ex.valids t.kids (d + 1))) := by
  have HE := Lib.hid (CellsE.new w t (.slice a t.kids.length c) 105)
  go_enter Tryd.func118, Tryd.ntmps118
  go_wp2_with fail
  refine (HC.out _).mono ?_
  rintro e w1 ⟨rfl, b1⟩
  have B1 := Lib.hid (below_then (bl1 _ _) b1)
  have E1 := Lib.hid (HE.out.later b1)
  obtain ⟨e0, e1, e2, e3, e4⟩ := E1.out
  clear b1 HE
  go_wp2_with fail
  refine (HW.out _).mono ?_
  rintro e w2 ⟨rfl, b2⟩
  have B2 := Lib.hid (below_then B1.out b2)
  have E2 := Lib.hid (E1.out.later b2)
  clear b2 e0 e1 e2 e3 e4 E1
  obtain ⟨e0, e1, e2, e3, e4⟩ := E2.out
  go_wp2_with fail
  go_loopw [4, 7] (fun r i wr => ∃ k : Nat, r = .bool false ∧ i = .int .i64 k ∧ k ≤ t.kids.length ∧ ValAt t.kids (d + 1) k ∧ CellsE wr w.heap.size t (.slice a t.kids.length c) ∧ Below w.heap.size w wr) (fun _ i _ => t.kids.length - (intOf i).toNat)
  case atStart => exact ⟨0, rfl, rfl, by omega, ValAt.start _ _, E2.out, B2.out⟩
  case round =>
    obtain ⟨k, rfl, rfl, hkk, hat, hce, hb⟩ := hrel
    have HAT := Lib.hid hat
    have HB := Lib.hid hb
    have HE := Lib.hid hce
    have HK2 := Lib.hid (HK.out.later hb)
    obtain ⟨f0, f1, f2, f3, f4⟩ := hce
    clear hat hb f0 f1 f2 f3
    by_cases hlt : k < t.kids.length
    · obtain ⟨g, o, rfl, ht⟩ := kids_at HK2.out k hlt
      obtain ⟨⟨x0, x1, x2, x3⟩, v, x4, hkv⟩ := tree_cells ht
      have HR := Lib.hid (HI.out t.kids[k] (List.getElem_mem hlt) wr v hkv)
      have k0 : (0 : Int) ≤ k := by omega
      have k2 : (k : Int) < t.kids.length := by omega
      by_cases hv : t.kids[k].valid (d + 1) = true
      · have HN := Lib.hid (HAT.out.next hlt hv)
        rw [hv] at HR
        clear ht hkv HAT hv
        generalize t.kids[k] = x at x0 x1 x2 x3 HR
        go_wp2_with (go_at_call 118; refine HR.out.mono ?_; rintro e w3 ⟨rfl, b3⟩; have B3 := Lib.hid (below_then HB.out b3); have E3 := Lib.hid (HE.out.later b3); clear b3)
        go_roundw
        case rel => exact ⟨k + 1, rfl, by go_num, by omega, HN.out, E3.out, B3.out⟩
        case measure => first | (simp [intOf]; done) | (simp [intOf]; omega)
      · rw [Bool.not_eq_true] at hv
        have HN := Lib.hid (valids_bad hlt hv)
        rw [hv] at HR
        clear ht hkv HAT hv
        generalize t.kids[k] = x at x0 x1 x2 x3 HR
        go_wp2_with (go_at_call 118; refine HR.out.mono ?_; rintro e w3 ⟨rfl, b3⟩; have B3 := Lib.hid (below_then HB.out b3); clear b3)
        go_ret
        exact ⟨by rw [HN.out]; rfl, B3.out⟩
    · obtain rfl : k = t.kids.length := by omega
      have HN := Lib.hid HAT.out.over
      go_wp2
      go_ret
      exact ⟨by rw [HN.out]; rfl, HB.out⟩
set_option maxHeartbeats 1600000 in
theorem valid_p20 (t : Ex.T) (a : Option Addr) (c : Nat) (w : World) (d lo hi : Int) (hln : t.kids.length ≤ 1048576) (d0 : 0 ≤ d) (d1 : d ≤ 1000) (HC : Hid (CountsC t (.slice a t.kids.length c) lo hi)) (HW : Hid (WordsC t (.slice a t.kids.length c) true)) (q0 : d ≤ 40) (q1 : 1 ≤ t.kind) (q2 : t.kind ≤ 29) (q3 : 0 ≤ t.line) (q4 : lo ≤ t.kids.length) (q5 : (t.kids.length : Int) ≤ hi) (k1 : (t.kind == 1) = false) (k20 : (t.kind == 20) = true) (n0 : 0 ≤ t.num) (n1 : t.num ≤ 1) (p : ((t.kids.length : Int) - 1 - t.num).tmod 2 = 0) (m : 1 + t.num ≤ (t.kids.length : Int)) (HK : Hid (Kids w (.slice a t.kids.length c) t.kids)) (HI : Hid (KidsC t (d + 1))) : Calls Tryd.prog 118 #[exV t (.slice a t.kids.length c), .int .i64 d] w (RetV w (Ex.valids t.kids (d + 1))) := by
  have HE := Lib.hid (CellsE.new w t (.slice a t.kids.length c) 105)
  go_enter Tryd.func118, Tryd.ntmps118
  go_wp2_with fail
  refine (HC.out _).mono ?_
  rintro e w1 ⟨rfl, b1⟩
  have B1 := Lib.hid (below_then (bl1 _ _) b1)
  have E1 := Lib.hid (HE.out.later b1)
  obtain ⟨e0, e1, e2, e3, e4⟩ := E1.out
  clear b1 HE
  go_wp2_with fail
  refine (HW.out _).mono ?_
  rintro e w2 ⟨rfl, b2⟩
  have B2 := Lib.hid (below_then B1.out b2)
  have E2 := Lib.hid (E1.out.later b2)
  clear b2 e0 e1 e2 e3 e4 E1
  obtain ⟨e0, e1, e2, e3, e4⟩ := E2.out
  go_wp2_with fail
  all_goals try (exfalso; omega)
  go_loopw [4, 7] (fun r i wr => ∃ k : Nat, r = .bool false ∧ i = .int .i64 k ∧ k ≤ t.kids.length ∧ ValAt t.kids (d + 1) k ∧ CellsE wr w.heap.size t (.slice a t.kids.length c) ∧ Below w.heap.size w wr) (fun _ i _ => t.kids.length - (intOf i).toNat)
  case atStart => exact ⟨0, rfl, rfl, by omega, ValAt.start _ _, E2.out, B2.out⟩
  case round =>
    obtain ⟨k, rfl, rfl, hkk, hat, hce, hb⟩ := hrel
    have HAT := Lib.hid hat
    have HB := Lib.hid hb
    have HE := Lib.hid hce
    have HK2 := Lib.hid (HK.out.later hb)
    obtain ⟨f0, f1, f2, f3, f4⟩ := hce
    clear hat hb f0 f1 f2 f3
    by_cases hlt : k < t.kids.length
    · obtain ⟨g, o, rfl, ht⟩ := kids_at HK2.out k hlt
      obtain ⟨⟨x0, x1, x2, x3⟩, v, x4, hkv⟩ := tree_cells ht
      have HR := Lib.hid (HI.out t.kids[k] (List.getElem_mem hlt) wr v hkv)
      have k0 : (0 : Int) ≤ k := by omega
      have k2 : (k : Int) < t.kids.length := by omega
      by_cases hv : t.kids[k].valid (d + 1) = true
      · have HN := Lib.hid (HAT.out.next hlt hv)
        rw [hv] at HR
        clear ht hkv HAT hv
        generalize t.kids[k] = x at x0 x1 x2 x3 HR
        go_wp2_with (go_at_call 118; refine HR.out.mono ?_; rintro e w3 ⟨rfl, b3⟩; have B3 := Lib.hid (below_then HB.out b3); have E3 := Lib.hid (HE.out.later b3); clear b3)
        go_roundw
        case rel => exact ⟨k + 1, rfl, by go_num, by omega, HN.out, E3.out, B3.out⟩
        case measure => first | (simp [intOf]; done) | (simp [intOf]; omega)
      · rw [Bool.not_eq_true] at hv
        have HN := Lib.hid (valids_bad hlt hv)
        rw [hv] at HR
        clear ht hkv HAT hv
        generalize t.kids[k] = x at x0 x1 x2 x3 HR
        go_wp2_with (go_at_call 118; refine HR.out.mono ?_; rintro e w3 ⟨rfl, b3⟩; have B3 := Lib.hid (below_then HB.out b3); clear b3)
        go_ret
        exact ⟨by rw [HN.out]; rfl, B3.out⟩
    · obtain rfl : k = t.kids.length := by omega
      have HN := Lib.hid HAT.out.over
      go_wp2
      go_ret
      exact ⟨by rw [HN.out]; rfl, HB.out⟩
end Go.Proofs.YtbadepiakkhabaaDoor
/- Trees that are valid, in the reference model: every tree; IsValidExpr. No conditions. -/
namespace Go.Proofs.YtbadepiakkhabaaDoor
open Go.RowKit
set_option linter.unusedVariables false

theorem spec_valid : ∀ (N : Nat) (t : Ex.T), t.count ≤ N → t.bulk ≤ 1048576 → ∀ (d : Int), 0 ≤ d → d ≤ 1000 → ∀ (w : World) (v : Value), Kids w v t.kids → Calls Tryd.prog 118 #[exV t v, .int .i64 d] w (RetV w (t.valid d)) := by
  intro N
  induction N with
  | zero => intro t h; have := Ex.count_pos t; omega
  | succ N ih =>
    intro t hN hb d d0 d1 w v hk
    have hbe := bulk_eq t
    obtain ⟨a, c, rfl⟩ := kids_len hk
    have hln : t.kids.length ≤ 1048576 := by omega
    have hts : (t.text.size : Int) ≤ 1048576 := by omega
    have HC : Hid (CountsC t (.slice a t.kids.length c) (Ex.kidsOf t.kind).1 (Ex.kidsOf t.kind).2) := Lib.hid fun wr => spec_counts t _ wr
    have HW0 : WordsC t (.slice a t.kids.length c) (Ex.words t.kind t.text) := fun wr => spec_words t _ wr hts
    have HV := Ex.valid_eq t d
    unfold Ex.headB at HV
    by_cases q0 : d ≤ 40
    case neg => rw [show t.valid d = false by rw [HV, decide_eq_false q0]; simp only [Bool.false_and]]; exact valid_h0 t a c w d _ _ hln d0 d1 HC  (by omega)
    by_cases q1 : 1 ≤ t.kind
    case neg => rw [show t.valid d = false by rw [HV, decide_eq_false q1]; simp only [Bool.false_and, Bool.and_false]]; exact valid_h1 t a c w d _ _ hln d0 d1 HC q0 (by omega)
    by_cases q2 : t.kind ≤ 29
    case neg => rw [show t.valid d = false by rw [HV, decide_eq_false q2]; simp only [Bool.false_and, Bool.and_false]]; exact valid_h2 t a c w d _ _ hln d0 d1 HC q0 q1 (by omega)
    by_cases q3 : 0 ≤ t.line
    case neg => rw [show t.valid d = false by rw [HV, decide_eq_false q3]; simp only [Bool.false_and, Bool.and_false]]; exact valid_h3 t a c w d _ _ hln d0 d1 HC q0 q1 q2 (by omega)
    by_cases q4 : (Ex.kidsOf t.kind).1 ≤ t.kids.length
    case neg => rw [show t.valid d = false by rw [HV, decide_eq_false q4]; simp only [Bool.false_and, Bool.and_false]]; exact valid_h4 t a c w d _ _ hln d0 d1 HC q0 q1 q2 q3 (by omega)
    by_cases q5 : (t.kids.length : Int) ≤ (Ex.kidsOf t.kind).2
    case neg => rw [show t.valid d = false by rw [HV, decide_eq_false q5]; simp only [Bool.false_and, Bool.and_false]]; exact valid_h5 t a c w d _ _ hln d0 d1 HC q0 q1 q2 q3 q4 (by omega)
    rw [decide_eq_true q0, decide_eq_true q1, decide_eq_true q2, decide_eq_true q3, decide_eq_true q4, decide_eq_true q5] at HV
    cases hw : Ex.words t.kind t.text
    · rw [hw] at HV HW0
      rw [show t.valid d = false by rw [HV]; simp only [Bool.false_and, Bool.and_false]]
      exact valid_h6 t a c w d _ _ hln d0 d1 HC (Lib.hid HW0) q0 q1 q2 q3 q4 q5
    rw [hw] at HV HW0
    have HK := Lib.hid hk
    have HI : Hid (KidsC t (d + 1)) := Lib.hid fun x hx wx vx hkx => ih x (by have := kids_count hx; omega) (by have := Ex.bulks_mem hx; omega) (d + 1) (by omega) (by omega) wx vx hkx
    simp only [Bool.and_self, Bool.true_and] at HV
    by_cases k1 : t.kind = 1
    · rw [if_pos k1] at HV
      by_cases n0 : 0 ≤ t.num
      case neg => rw [show t.valid d = false by rw [HV, decide_eq_false n0]; simp only [Bool.false_and]]; exact valid_n1a t a c w d _ _ hln d0 d1 HC (Lib.hid HW0) q0 q1 q2 q3 q4 q5 (beq_iff_eq.2 k1) (by omega)
      by_cases n1 : t.num ≤ 999999999999
      case neg => rw [show t.valid d = false by rw [HV, decide_eq_false n1]; simp only [Bool.false_and, Bool.and_false]]; exact valid_n1b t a c w d _ _ hln d0 d1 HC (Lib.hid HW0) q0 q1 q2 q3 q4 q5 (beq_iff_eq.2 k1) n0 (by omega)
      rw [show t.valid d = Ex.valids t.kids (d + 1) by rw [HV, decide_eq_true n0, decide_eq_true n1]; simp only [Bool.true_and]]
      exact valid_p1 t a c w d _ _ hln d0 d1 HC (Lib.hid HW0) q0 q1 q2 q3 q4 q5 (beq_iff_eq.2 k1) n0 n1 HK HI
    · rw [if_neg k1] at HV
      have b1 : (t.kind == 1) = false := beq_eq_false_iff_ne.2 k1
      by_cases k20 : t.kind = 20
      · rw [if_pos k20] at HV
        have b20 : (t.kind == 20) = true := beq_iff_eq.2 k20
        by_cases n0 : 0 ≤ t.num
        case neg => rw [show t.valid d = false by rw [HV, decide_eq_false n0]; simp only [Bool.false_and]]; exact valid_n20a t a c w d _ _ hln d0 d1 HC (Lib.hid HW0) q0 q1 q2 q3 q4 q5 b1 b20 (by omega)
        by_cases n1 : t.num ≤ 1
        case neg => rw [show t.valid d = false by rw [HV, decide_eq_false n1]; simp only [Bool.false_and, Bool.and_false]]; exact valid_n20b t a c w d _ _ hln d0 d1 HC (Lib.hid HW0) q0 q1 q2 q3 q4 q5 b1 b20 n0 (by omega)
        by_cases p : ((t.kids.length : Int) - 1 - t.num).tmod 2 = 0
        case neg => rw [show t.valid d = false by rw [HV, decide_eq_false p]; simp only [Bool.false_and, Bool.and_false]]; exact valid_n20c t a c w d _ _ hln d0 d1 HC (Lib.hid HW0) q0 q1 q2 q3 q4 q5 b1 b20 n0 n1 p
        by_cases m : 1 + t.num ≤ (t.kids.length : Int)
        case neg => rw [show t.valid d = false by rw [HV, decide_eq_false m]; simp only [Bool.false_and, Bool.and_false]]; exact valid_n20d t a c w d _ _ hln d0 d1 HC (Lib.hid HW0) q0 q1 q2 q3 q4 q5 b1 b20 n0 n1 p (by omega)
        rw [show t.valid d = Ex.valids t.kids (d + 1) by rw [HV, decide_eq_true n0, decide_eq_true n1, decide_eq_true p, decide_eq_true m]; simp only [Bool.true_and]]
        exact valid_p20 t a c w d _ _ hln d0 d1 HC (Lib.hid HW0) q0 q1 q2 q3 q4 q5 b1 b20 n0 n1 p m HK HI
      · rw [if_neg k20] at HV
        have b20 : (t.kind == 20) = false := beq_eq_false_iff_ne.2 k20
        by_cases n0 : t.num = 0
        · rw [show t.valid d = Ex.valids t.kids (d + 1) by rw [HV, n0]; simp only [beq_self_eq_true, Bool.true_and]]
          exact valid_px t a c w d _ _ hln d0 d1 HC (Lib.hid HW0) q0 q1 q2 q3 q4 q5 b1 b20 (by rw [n0]; simp) HK HI
        · rw [show t.valid d = false by rw [HV, beq_eq_false_iff_ne.2 n0]; simp only [Bool.false_and]]
          exact valid_nxa t a c w d _ _ hln d0 d1 HC (Lib.hid HW0) q0 q1 q2 q3 q4 q5 b1 b20 (bne_iff_ne.2 n0)
theorem spec_isvalid (t : Ex.T) (hb : t.bulk ≤ 1048576) (w : World) (v : Value) (hk : Kids w v t.kids) : Calls Tryd.prog 85 #[exV t v] w fun e w' => e = .returned (.bool (decide (t.count ≤ 600) && t.valid 1)) ∧ Below w.heap.size w w' := by
  have HL := Lib.hid (fun W hW => spec_leftT _ t (Nat.le_refl _) hb W v 600 (by decide) (hk.later hW))
  have HV : Hid (∀ W, Below w.heap.size w W → Calls Tryd.prog 118 #[exV t v, .int .i64 1] W fun e w' => e = .returned (.bool (t.valid 1)) ∧ Below W.heap.size W w') := Lib.hid (fun W hW => spec_valid _ t (Nat.le_refl _) hb 1 (by decide) (by decide) W v (hk.later hW))
  obtain ⟨a, c, rfl⟩ := kids_len hk
  have HE := Lib.hid (CellsE.new w t (.slice a t.kids.length c) 105)
  by_cases hc : t.count ≤ 600
  · rw [decide_eq_true hc, Bool.true_and]
    rw [szR_yes hc] at HL
    have l1 : decide (0 ≤ ((600 - t.count : Nat) : Int)) = true := decide_eq_true (by omega)
    generalize ((600 - t.count : Nat) : Int) = left at HL l1
    generalize t.valid 1 = r at HV ⊢
    clear hb hk hc
    go_enter Tryd.func85, Tryd.ntmps85
    go_wp2_with fail
    refine (HL.out _ (bl1 _ _)).mono ?_
    rintro e w1 ⟨rfl, b1⟩
    have B1 := Lib.hid (below_then (bl1 _ _) b1)
    obtain ⟨e0, e1, e2, e3, e4⟩ := HE.out.later b1
    clear b1
    go_wp2_with fail
    refine (HV.out _ B1.out).mono ?_
    rintro e w2 ⟨rfl, b2⟩
    have B2 := Lib.hid (below_then B1.out b2)
    clear b2 e0 e1 e2 e3 e4
    go_wp2
    go_ret
    exact ⟨rfl, B2.out⟩
  · rw [decide_eq_false hc, Bool.false_and]
    rw [szR_no hc] at HL
    clear hb hk hc HV
    go_enter Tryd.func85, Tryd.ntmps85
    go_wp2_with fail
    refine (HL.out _ (bl1 _ _)).mono ?_
    rintro e w1 ⟨rfl, b1⟩
    have B1 := Lib.hid (below_then (bl1 _ _) b1)
    clear b1
    go_wp2
    go_ret
    exact ⟨rfl, B1.out⟩
end Go.Proofs.YtbadepiakkhabaaDoor
