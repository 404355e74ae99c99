/- Joined texts: A22. No conditions besides those that each states. -/
import Derived.StillTailTactics
import Derived.Deep.RegionHeld3
import Derived.BigQuiet
import Derived.WalkSmall
import Derived.Test.YtbadepiakkhabaaDoorZ12
import Derived.Test.YtbadepiakkhabaaDoorZ28
/- Valid core trees, in the reference model. No conditions. -/
namespace Go.Proofs.YtbadepiakkhabaaDoor.Cr
open Go.RowKit
set_option linter.unusedVariables false

/-- A variable's six cells. -/
def Six (w : World) (b : Nat) (k p n l : Int) (s : ByteArray) (v : Value) : Prop := w.cell? ⟨b, 0, none⟩ = some (.int .i64 k) ∧ w.cell? ⟨b, 1, none⟩ = some (.int .i64 p) ∧ w.cell? ⟨b, 2, none⟩ = some (.int .i64 n) ∧ w.cell? ⟨b, 3, none⟩ = some (.int .i64 l) ∧ w.cell? ⟨b, 4, none⟩ = some (.string s) ∧ w.cell? ⟨b, 5, none⟩ = some v
theorem Six.later {w w' : World} {b : Nat} {k p n l : Int} {s : ByteArray} {v : Value} (h : Six w b k p n l s v) (hb : Below w.heap.size w w') : Six w' b k p n l s v :=
  ⟨subw_below hb _ _ _ h.1, subw_below hb _ _ _ h.2.1, subw_below hb _ _ _ h.2.2.1, subw_below hb _ _ _ h.2.2.2.1, subw_below hb _ _ _ h.2.2.2.2.1, subw_below hb _ _ _ h.2.2.2.2.2⟩
theorem Six.new (W : World) (k p n l : Int) (s : ByteArray) (v : Value) (T : TypeId) : Six (W.alloc (.cells #[.int .i64 k, .int .i64 p, .int .i64 n, .int .i64 l, .string s, v] T)) W.heap.size k p n l s v := by
  refine ⟨?_, ?_, ?_, ?_, ?_, ?_⟩ <;> go_simp
/-- The program's own four cells. -/
def Pg4 (w : World) (b : Nat) (x1 x2 x3 : Value) (mn : Int) : Prop := w.cell? ⟨b, 0, none⟩ = some x1 ∧ w.cell? ⟨b, 1, none⟩ = some x2 ∧ w.cell? ⟨b, 2, none⟩ = some x3 ∧ w.cell? ⟨b, 3, none⟩ = some (.int .i64 mn)
theorem Pg4.later {w w' : World} {b : Nat} {x1 x2 x3 : Value} {mn : Int} (h : Pg4 w b x1 x2 x3 mn) (hb : Below w.heap.size w w') : Pg4 w' b x1 x2 x3 mn :=
  ⟨subw_below hb _ _ _ h.1, subw_below hb _ _ _ h.2.1, subw_below hb _ _ _ h.2.2.1, subw_below hb _ _ _ h.2.2.2⟩
theorem Pg4.new (W : World) (x1 x2 x3 : Value) (mn : Int) (T : TypeId) : Pg4 (W.alloc (.cells #[x1, x2, x3, .int .i64 mn] T)) W.heap.size x1 x2 x3 mn := by
  refine ⟨?_, ?_, ?_, ?_⟩ <;> go_simp
def RetV (w : World) (b : Bool) (e : Ending) (w' : World) : Prop := e = .returned (.bool b) ∧ Below w.heap.size w w'
def KidsV (E : Co.Env) (pv : Value) (ks : List Co.T) (d : Int) : Prop := ∀ x ∈ ks, ∀ (loop made : Bool) (w : World) (v : Value), Kids w v x.kids → Calls Tryd.prog 30 #[pv, .int .i64 E.slots, exV x v, .bool loop, .bool made, .int .i64 d] w fun e w' => e = .returned (.bool (x.ok E loop made d)) ∧ Below w.heap.size w w'

set_option maxRecDepth 100000 in
set_option maxHeartbeats 1600000 in
theorem val_h0 (a1 a2 a3 : Option Addr) (z1 z2 z3 c1 c2 c3 : Nat) (mn sl : Int) (q1 : (z1 : Int) ≤ 1048576) (q2 : (z2 : Int) ≤ 1048576) (q3 : (z3 : Int) ≤ 1048576) (s0 : 0 ≤ sl) (s1 : sl ≤ 1048576) (p n l : Int) (s : ByteArray) (a : Option Addr) (z c : Nat) (hz : (z : Int) ≤ 1048576) (zs : (s.size : Int) ≤ 1048576) (d : Int) (d0 : 0 ≤ d) (d1 : d ≤ 1000) (k : Int) (q40 : 400 < d) (loop made : Bool) (w : World) : Calls Tryd.prog 30 #[.agg #[.slice a1 z1 c1, .slice a2 z2 c2, .slice a3 z3 c3, .int .i64 mn], .int .i64 sl, .agg #[.int .i64 k, .int .i64 p, .int .i64 n, .int .i64 l, .string s, .slice a z c], .bool loop, .bool made, .int .i64 d] w (RetV w false) := by
  have HP0 := Lib.hid (Pg4.new w (.slice a1 z1 c1) (.slice a2 z2 c2) (.slice a3 z3 c3) mn 43)
  have HB0 := Lib.hid (below_then (bl1 w (.cells #[.slice a1 z1 c1, .slice a2 z2 c2, .slice a3 z3 c3, .int .i64 mn] 43)) (bl1 _ (.cells #[.int .i64 k, .int .i64 p, .int .i64 n, .int .i64 l, .string s, .slice a z c] 68)))
  have HP1 := Lib.hid (HP0.out.later (bl1 _ (.cells #[.int .i64 k, .int .i64 p, .int .i64 n, .int .i64 l, .string s, .slice a z c] 68)))
  have HE1 := Six.new (w.alloc (.cells #[.slice a1 z1 c1, .slice a2 z2 c2, .slice a3 z3 c3, .int .i64 mn] 43)) k p n l s (.slice a z c) 68
  rw [World.size_alloc] at HE1
  replace HE1 := Lib.hid HE1
  have HC := Lib.hid (fun W => spec_counts k p n l s (.slice a z c) W)
  have HL := Lib.hid (fun W => spec_leaf a1 a2 a3 z1 z2 z3 c1 c2 c3 mn sl p n l s (.slice a z c) k q1 q2 q3 s0 s1 W)
  generalize Co.cLo k p = lo at HC
  generalize Co.cHi k p = hi at HC
  clear HP0
  go_enter Tryd.func30, Tryd.ntmps30
  go_wp2_with fail
  refine (HC.out _).mono ?_
  rintro e w1 ⟨rfl, b1⟩
  have B1 := Lib.hid (below_then HB0.out b1)
  have P1 := Lib.hid (HP1.out.later b1)
  have E1 := Lib.hid (HE1.out.later b1)
  clear b1 HC HB0 HP1 HE1
  obtain ⟨p0, p1, p2, p3⟩ := P1.out
  obtain ⟨e0, e1, e2, e3, e4, e5⟩ := E1.out
  go_wp2
  go_ret
  exact ⟨rfl, B1.out⟩
set_option maxRecDepth 100000 in
set_option maxHeartbeats 1600000 in
theorem val_h1 (a1 a2 a3 : Option Addr) (z1 z2 z3 c1 c2 c3 : Nat) (mn sl : Int) (q1 : (z1 : Int) ≤ 1048576) (q2 : (z2 : Int) ≤ 1048576) (q3 : (z3 : Int) ≤ 1048576) (s0 : 0 ≤ sl) (s1 : sl ≤ 1048576) (p n l : Int) (s : ByteArray) (a : Option Addr) (z c : Nat) (hz : (z : Int) ≤ 1048576) (zs : (s.size : Int) ≤ 1048576) (d : Int) (d0 : 0 ≤ d) (d1 : d ≤ 1000) (k : Int) (q40 : d ≤ 400) (k1 : k < 1) (loop made : Bool) (w : World) : Calls Tryd.prog 30 #[.agg #[.slice a1 z1 c1, .slice a2 z2 c2, .slice a3 z3 c3, .int .i64 mn], .int .i64 sl, .agg #[.int .i64 k, .int .i64 p, .int .i64 n, .int .i64 l, .string s, .slice a z c], .bool loop, .bool made, .int .i64 d] w (RetV w false) := by
  have HP0 := Lib.hid (Pg4.new w (.slice a1 z1 c1) (.slice a2 z2 c2) (.slice a3 z3 c3) mn 43)
  have HB0 := Lib.hid (below_then (bl1 w (.cells #[.slice a1 z1 c1, .slice a2 z2 c2, .slice a3 z3 c3, .int .i64 mn] 43)) (bl1 _ (.cells #[.int .i64 k, .int .i64 p, .int .i64 n, .int .i64 l, .string s, .slice a z c] 68)))
  have HP1 := Lib.hid (HP0.out.later (bl1 _ (.cells #[.int .i64 k, .int .i64 p, .int .i64 n, .int .i64 l, .string s, .slice a z c] 68)))
  have HE1 := Six.new (w.alloc (.cells #[.slice a1 z1 c1, .slice a2 z2 c2, .slice a3 z3 c3, .int .i64 mn] 43)) k p n l s (.slice a z c) 68
  rw [World.size_alloc] at HE1
  replace HE1 := Lib.hid HE1
  have HC := Lib.hid (fun W => spec_counts k p n l s (.slice a z c) W)
  have HL := Lib.hid (fun W => spec_leaf a1 a2 a3 z1 z2 z3 c1 c2 c3 mn sl p n l s (.slice a z c) k q1 q2 q3 s0 s1 W)
  generalize Co.cLo k p = lo at HC
  generalize Co.cHi k p = hi at HC
  clear HP0
  go_enter Tryd.func30, Tryd.ntmps30
  go_wp2_with fail
  refine (HC.out _).mono ?_
  rintro e w1 ⟨rfl, b1⟩
  have B1 := Lib.hid (below_then HB0.out b1)
  have P1 := Lib.hid (HP1.out.later b1)
  have E1 := Lib.hid (HE1.out.later b1)
  clear b1 HC HB0 HP1 HE1
  obtain ⟨p0, p1, p2, p3⟩ := P1.out
  obtain ⟨e0, e1, e2, e3, e4, e5⟩ := E1.out
  go_wp2
  go_ret
  exact ⟨rfl, B1.out⟩
set_option maxRecDepth 100000 in
set_option maxHeartbeats 1600000 in
theorem val_h2 (a1 a2 a3 : Option Addr) (z1 z2 z3 c1 c2 c3 : Nat) (mn sl : Int) (q1 : (z1 : Int) ≤ 1048576) (q2 : (z2 : Int) ≤ 1048576) (q3 : (z3 : Int) ≤ 1048576) (s0 : 0 ≤ sl) (s1 : sl ≤ 1048576) (p n l : Int) (s : ByteArray) (a : Option Addr) (z c : Nat) (hz : (z : Int) ≤ 1048576) (zs : (s.size : Int) ≤ 1048576) (d : Int) (d0 : 0 ≤ d) (d1 : d ≤ 1000) (k : Int) (q40 : d ≤ 400) (k1 : 1 ≤ k) (k2 : 28 < k) (loop made : Bool) (w : World) : Calls Tryd.prog 30 #[.agg #[.slice a1 z1 c1, .slice a2 z2 c2, .slice a3 z3 c3, .int .i64 mn], .int .i64 sl, .agg #[.int .i64 k, .int .i64 p, .int .i64 n, .int .i64 l, .string s, .slice a z c], .bool loop, .bool made, .int .i64 d] w (RetV w false) := by
  have HP0 := Lib.hid (Pg4.new w (.slice a1 z1 c1) (.slice a2 z2 c2) (.slice a3 z3 c3) mn 43)
  have HB0 := Lib.hid (below_then (bl1 w (.cells #[.slice a1 z1 c1, .slice a2 z2 c2, .slice a3 z3 c3, .int .i64 mn] 43)) (bl1 _ (.cells #[.int .i64 k, .int .i64 p, .int .i64 n, .int .i64 l, .string s, .slice a z c] 68)))
  have HP1 := Lib.hid (HP0.out.later (bl1 _ (.cells #[.int .i64 k, .int .i64 p, .int .i64 n, .int .i64 l, .string s, .slice a z c] 68)))
  have HE1 := Six.new (w.alloc (.cells #[.slice a1 z1 c1, .slice a2 z2 c2, .slice a3 z3 c3, .int .i64 mn] 43)) k p n l s (.slice a z c) 68
  rw [World.size_alloc] at HE1
  replace HE1 := Lib.hid HE1
  have HC := Lib.hid (fun W => spec_counts k p n l s (.slice a z c) W)
  have HL := Lib.hid (fun W => spec_leaf a1 a2 a3 z1 z2 z3 c1 c2 c3 mn sl p n l s (.slice a z c) k q1 q2 q3 s0 s1 W)
  generalize Co.cLo k p = lo at HC
  generalize Co.cHi k p = hi at HC
  clear HP0
  go_enter Tryd.func30, Tryd.ntmps30
  go_wp2_with fail
  refine (HC.out _).mono ?_
  rintro e w1 ⟨rfl, b1⟩
  have B1 := Lib.hid (below_then HB0.out b1)
  have P1 := Lib.hid (HP1.out.later b1)
  have E1 := Lib.hid (HE1.out.later b1)
  clear b1 HC HB0 HP1 HE1
  obtain ⟨p0, p1, p2, p3⟩ := P1.out
  obtain ⟨e0, e1, e2, e3, e4, e5⟩ := E1.out
  go_wp2
  go_ret
  exact ⟨rfl, B1.out⟩
set_option maxRecDepth 100000 in
set_option maxHeartbeats 1600000 in
theorem val_h3 (a1 a2 a3 : Option Addr) (z1 z2 z3 c1 c2 c3 : Nat) (mn sl : Int) (q1 : (z1 : Int) ≤ 1048576) (q2 : (z2 : Int) ≤ 1048576) (q3 : (z3 : Int) ≤ 1048576) (s0 : 0 ≤ sl) (s1 : sl ≤ 1048576) (p n l : Int) (s : ByteArray) (a : Option Addr) (z c : Nat) (hz : (z : Int) ≤ 1048576) (zs : (s.size : Int) ≤ 1048576) (d : Int) (d0 : 0 ≤ d) (d1 : d ≤ 1000) (k : Int) (q40 : d ≤ 400) (k1 : 1 ≤ k) (k2 : k ≤ 28) (l0 : l < 0) (loop made : Bool) (w : World) : Calls Tryd.prog 30 #[.agg #[.slice a1 z1 c1, .slice a2 z2 c2, .slice a3 z3 c3, .int .i64 mn], .int .i64 sl, .agg #[.int .i64 k, .int .i64 p, .int .i64 n, .int .i64 l, .string s, .slice a z c], .bool loop, .bool made, .int .i64 d] w (RetV w false) := by
  have HP0 := Lib.hid (Pg4.new w (.slice a1 z1 c1) (.slice a2 z2 c2) (.slice a3 z3 c3) mn 43)
  have HB0 := Lib.hid (below_then (bl1 w (.cells #[.slice a1 z1 c1, .slice a2 z2 c2, .slice a3 z3 c3, .int .i64 mn] 43)) (bl1 _ (.cells #[.int .i64 k, .int .i64 p, .int .i64 n, .int .i64 l, .string s, .slice a z c] 68)))
  have HP1 := Lib.hid (HP0.out.later (bl1 _ (.cells #[.int .i64 k, .int .i64 p, .int .i64 n, .int .i64 l, .string s, .slice a z c] 68)))
  have HE1 := Six.new (w.alloc (.cells #[.slice a1 z1 c1, .slice a2 z2 c2, .slice a3 z3 c3, .int .i64 mn] 43)) k p n l s (.slice a z c) 68
  rw [World.size_alloc] at HE1
  replace HE1 := Lib.hid HE1
  have HC := Lib.hid (fun W => spec_counts k p n l s (.slice a z c) W)
  have HL := Lib.hid (fun W => spec_leaf a1 a2 a3 z1 z2 z3 c1 c2 c3 mn sl p n l s (.slice a z c) k q1 q2 q3 s0 s1 W)
  generalize Co.cLo k p = lo at HC
  generalize Co.cHi k p = hi at HC
  clear HP0
  go_enter Tryd.func30, Tryd.ntmps30
  go_wp2_with fail
  refine (HC.out _).mono ?_
  rintro e w1 ⟨rfl, b1⟩
  have B1 := Lib.hid (below_then HB0.out b1)
  have P1 := Lib.hid (HP1.out.later b1)
  have E1 := Lib.hid (HE1.out.later b1)
  clear b1 HC HB0 HP1 HE1
  obtain ⟨p0, p1, p2, p3⟩ := P1.out
  obtain ⟨e0, e1, e2, e3, e4, e5⟩ := E1.out
  go_wp2
  go_ret
  exact ⟨rfl, B1.out⟩
set_option maxRecDepth 100000 in
set_option maxHeartbeats 1600000 in
theorem val_h4 (a1 a2 a3 : Option Addr) (z1 z2 z3 c1 c2 c3 : Nat) (mn sl : Int) (q1 : (z1 : Int) ≤ 1048576) (q2 : (z2 : Int) ≤ 1048576) (q3 : (z3 : Int) ≤ 1048576) (s0 : 0 ≤ sl) (s1 : sl ≤ 1048576) (p n l : Int) (s : ByteArray) (a : Option Addr) (z c : Nat) (hz : (z : Int) ≤ 1048576) (zs : (s.size : Int) ≤ 1048576) (d : Int) (d0 : 0 ≤ d) (d1 : d ≤ 1000) (k : Int) (q40 : d ≤ 400) (k1 : 1 ≤ k) (k2 : k ≤ 28) (l0 : 0 ≤ l) (q4 : (z : Int) < Co.cLo k p) (loop made : Bool) (w : World) : Calls Tryd.prog 30 #[.agg #[.slice a1 z1 c1, .slice a2 z2 c2, .slice a3 z3 c3, .int .i64 mn], .int .i64 sl, .agg #[.int .i64 k, .int .i64 p, .int .i64 n, .int .i64 l, .string s, .slice a z c], .bool loop, .bool made, .int .i64 d] w (RetV w false) := by
  have HP0 := Lib.hid (Pg4.new w (.slice a1 z1 c1) (.slice a2 z2 c2) (.slice a3 z3 c3) mn 43)
  have HB0 := Lib.hid (below_then (bl1 w (.cells #[.slice a1 z1 c1, .slice a2 z2 c2, .slice a3 z3 c3, .int .i64 mn] 43)) (bl1 _ (.cells #[.int .i64 k, .int .i64 p, .int .i64 n, .int .i64 l, .string s, .slice a z c] 68)))
  have HP1 := Lib.hid (HP0.out.later (bl1 _ (.cells #[.int .i64 k, .int .i64 p, .int .i64 n, .int .i64 l, .string s, .slice a z c] 68)))
  have HE1 := Six.new (w.alloc (.cells #[.slice a1 z1 c1, .slice a2 z2 c2, .slice a3 z3 c3, .int .i64 mn] 43)) k p n l s (.slice a z c) 68
  rw [World.size_alloc] at HE1
  replace HE1 := Lib.hid HE1
  have HC := Lib.hid (fun W => spec_counts k p n l s (.slice a z c) W)
  have HL := Lib.hid (fun W => spec_leaf a1 a2 a3 z1 z2 z3 c1 c2 c3 mn sl p n l s (.slice a z c) k q1 q2 q3 s0 s1 W)
  generalize Co.cLo k p = lo at HC q4
  generalize Co.cHi k p = hi at HC
  clear HP0
  go_enter Tryd.func30, Tryd.ntmps30
  go_wp2_with fail
  refine (HC.out _).mono ?_
  rintro e w1 ⟨rfl, b1⟩
  have B1 := Lib.hid (below_then HB0.out b1)
  have P1 := Lib.hid (HP1.out.later b1)
  have E1 := Lib.hid (HE1.out.later b1)
  clear b1 HC HB0 HP1 HE1
  obtain ⟨p0, p1, p2, p3⟩ := P1.out
  obtain ⟨e0, e1, e2, e3, e4, e5⟩ := E1.out
  go_wp2
  go_ret
  exact ⟨rfl, B1.out⟩
set_option maxRecDepth 100000 in
set_option maxHeartbeats 1600000 in
theorem val_h5 (a1 a2 a3 : Option Addr) (z1 z2 z3 c1 c2 c3 : Nat) (mn sl : Int) (q1 : (z1 : Int) ≤ 1048576) (q2 : (z2 : Int) ≤ 1048576) (q3 : (z3 : Int) ≤ 1048576) (s0 : 0 ≤ sl) (s1 : sl ≤ 1048576) (p n l : Int) (s : ByteArray) (a : Option Addr) (z c : Nat) (hz : (z : Int) ≤ 1048576) (zs : (s.size : Int) ≤ 1048576) (d : Int) (d0 : 0 ≤ d) (d1 : d ≤ 1000) (k : Int) (q40 : d ≤ 400) (k1 : 1 ≤ k) (k2 : k ≤ 28) (l0 : 0 ≤ l) (q4 : Co.cLo k p ≤ (z : Int)) (q5 : Co.cHi k p < (z : Int)) (loop made : Bool) (w : World) : Calls Tryd.prog 30 #[.agg #[.slice a1 z1 c1, .slice a2 z2 c2, .slice a3 z3 c3, .int .i64 mn], .int .i64 sl, .agg #[.int .i64 k, .int .i64 p, .int .i64 n, .int .i64 l, .string s, .slice a z c], .bool loop, .bool made, .int .i64 d] w (RetV w false) := by
  have HP0 := Lib.hid (Pg4.new w (.slice a1 z1 c1) (.slice a2 z2 c2) (.slice a3 z3 c3) mn 43)
  have HB0 := Lib.hid (below_then (bl1 w (.cells #[.slice a1 z1 c1, .slice a2 z2 c2, .slice a3 z3 c3, .int .i64 mn] 43)) (bl1 _ (.cells #[.int .i64 k, .int .i64 p, .int .i64 n, .int .i64 l, .string s, .slice a z c] 68)))
  have HP1 := Lib.hid (HP0.out.later (bl1 _ (.cells #[.int .i64 k, .int .i64 p, .int .i64 n, .int .i64 l, .string s, .slice a z c] 68)))
  have HE1 := Six.new (w.alloc (.cells #[.slice a1 z1 c1, .slice a2 z2 c2, .slice a3 z3 c3, .int .i64 mn] 43)) k p n l s (.slice a z c) 68
  rw [World.size_alloc] at HE1
  replace HE1 := Lib.hid HE1
  have HC := Lib.hid (fun W => spec_counts k p n l s (.slice a z c) W)
  have HL := Lib.hid (fun W => spec_leaf a1 a2 a3 z1 z2 z3 c1 c2 c3 mn sl p n l s (.slice a z c) k q1 q2 q3 s0 s1 W)
  generalize Co.cLo k p = lo at HC q4 q5
  generalize Co.cHi k p = hi at HC q5
  clear HP0
  go_enter Tryd.func30, Tryd.ntmps30
  go_wp2_with fail
  refine (HC.out _).mono ?_
  rintro e w1 ⟨rfl, b1⟩
  have B1 := Lib.hid (below_then HB0.out b1)
  have P1 := Lib.hid (HP1.out.later b1)
  have E1 := Lib.hid (HE1.out.later b1)
  clear b1 HC HB0 HP1 HE1
  obtain ⟨p0, p1, p2, p3⟩ := P1.out
  obtain ⟨e0, e1, e2, e3, e4, e5⟩ := E1.out
  go_wp2
  go_ret
  exact ⟨rfl, B1.out⟩
set_option maxRecDepth 100000 in
set_option maxHeartbeats 1600000 in
theorem val_h6 (a1 a2 a3 : Option Addr) (z1 z2 z3 c1 c2 c3 : Nat) (mn sl : Int) (q1 : (z1 : Int) ≤ 1048576) (q2 : (z2 : Int) ≤ 1048576) (q3 : (z3 : Int) ≤ 1048576) (s0 : 0 ≤ sl) (s1 : sl ≤ 1048576) (p n l : Int) (s : ByteArray) (a : Option Addr) (z c : Nat) (hz : (z : Int) ≤ 1048576) (zs : (s.size : Int) ≤ 1048576) (d : Int) (d0 : 0 ≤ d) (d1 : d ≤ 1000) (k : Int) (q40 : d ≤ 400) (k1 : 1 ≤ k) (k2 : k ≤ 28) (l0 : 0 ≤ l) (q4 : Co.cLo k p ≤ (z : Int)) (q5 : (z : Int) ≤ Co.cHi k p) (hn : Co.numOk ⟨sl, z3, z1, z2⟩ k n = false) (loop made : Bool) (w : World) : Calls Tryd.prog 30 #[.agg #[.slice a1 z1 c1, .slice a2 z2 c2, .slice a3 z3 c3, .int .i64 mn], .int .i64 sl, .agg #[.int .i64 k, .int .i64 p, .int .i64 n, .int .i64 l, .string s, .slice a z c], .bool loop, .bool made, .int .i64 d] w (RetV w false) := by
  have HP0 := Lib.hid (Pg4.new w (.slice a1 z1 c1) (.slice a2 z2 c2) (.slice a3 z3 c3) mn 43)
  have HB0 := Lib.hid (below_then (bl1 w (.cells #[.slice a1 z1 c1, .slice a2 z2 c2, .slice a3 z3 c3, .int .i64 mn] 43)) (bl1 _ (.cells #[.int .i64 k, .int .i64 p, .int .i64 n, .int .i64 l, .string s, .slice a z c] 68)))
  have HP1 := Lib.hid (HP0.out.later (bl1 _ (.cells #[.int .i64 k, .int .i64 p, .int .i64 n, .int .i64 l, .string s, .slice a z c] 68)))
  have HE1 := Six.new (w.alloc (.cells #[.slice a1 z1 c1, .slice a2 z2 c2, .slice a3 z3 c3, .int .i64 mn] 43)) k p n l s (.slice a z c) 68
  rw [World.size_alloc] at HE1
  replace HE1 := Lib.hid HE1
  have HC := Lib.hid (fun W => spec_counts k p n l s (.slice a z c) W)
  have HL := Lib.hid (fun W => spec_leaf a1 a2 a3 z1 z2 z3 c1 c2 c3 mn sl p n l s (.slice a z c) k q1 q2 q3 s0 s1 W)
  rw [hn] at HL
  generalize Co.cLo k p = lo at HC q4 q5
  generalize Co.cHi k p = hi at HC q5
  clear HP0
  go_enter Tryd.func30, Tryd.ntmps30
  go_wp2_with fail
  refine (HC.out _).mono ?_
  rintro e w1 ⟨rfl, b1⟩
  have B1 := Lib.hid (below_then HB0.out b1)
  have P1 := Lib.hid (HP1.out.later b1)
  have E1 := Lib.hid (HE1.out.later b1)
  clear b1 HC HB0 HP1 HE1
  obtain ⟨p0, p1, p2, p3⟩ := P1.out
  obtain ⟨e0, e1, e2, e3, e4, e5⟩ := E1.out
  go_wp2_with fail
  refine (HL.out _).mono ?_
  rintro e w2 ⟨rfl, b2⟩
  have B2 := Lib.hid (below_then B1.out b2)
  have P2 := Lib.hid (P1.out.later b2)
  have E2 := Lib.hid (E1.out.later b2)
  clear b2 HL B1 P1 E1 p0 p1 p2 p3 e0 e1 e2 e3 e4 e5
  obtain ⟨p0, p1, p2, p3⟩ := P2.out
  obtain ⟨e0, e1, e2, e3, e4, e5⟩ := E2.out
  go_wp2
  go_ret
  exact ⟨rfl, B2.out⟩
set_option maxRecDepth 100000 in
set_option maxHeartbeats 1600000 in
theorem val_f1 (a1 a2 a3 : Option Addr) (z1 z2 z3 c1 c2 c3 : Nat) (mn sl : Int) (q1 : (z1 : Int) ≤ 1048576) (q2 : (z2 : Int) ≤ 1048576) (q3 : (z3 : Int) ≤ 1048576) (s0 : 0 ≤ sl) (s1 : sl ≤ 1048576) (p n l : Int) (s : ByteArray) (a : Option Addr) (z c : Nat) (hz : (z : Int) ≤ 1048576) (zs : (s.size : Int) ≤ 1048576) (d : Int) (d0 : 0 ≤ d) (d1 : d ≤ 1000) (k : Int) (q40 : d ≤ 400) (k1 : 1 ≤ k) (k2 : k ≤ 28) (l0 : 0 ≤ l) (q4 : Co.cLo k p ≤ (z : Int)) (q5 : (z : Int) ≤ Co.cHi k p) (hn : Co.numOk ⟨sl, z3, z1, z2⟩ k n = true) (b11 : (k != 11) = true) (bp : (p != 0) = true) (loop : Bool) (made : Bool) (w : World) : Calls Tryd.prog 30 #[.agg #[.slice a1 z1 c1, .slice a2 z2 c2, .slice a3 z3 c3, .int .i64 mn], .int .i64 sl, .agg #[.int .i64 k, .int .i64 p, .int .i64 n, .int .i64 l, .string s, .slice a z c], .bool loop, .bool made, .int .i64 d] w (RetV w false) := by
  have HP0 := Lib.hid (Pg4.new w (.slice a1 z1 c1) (.slice a2 z2 c2) (.slice a3 z3 c3) mn 43)
  have HB0 := Lib.hid (below_then (bl1 w (.cells #[.slice a1 z1 c1, .slice a2 z2 c2, .slice a3 z3 c3, .int .i64 mn] 43)) (bl1 _ (.cells #[.int .i64 k, .int .i64 p, .int .i64 n, .int .i64 l, .string s, .slice a z c] 68)))
  have HP1 := Lib.hid (HP0.out.later (bl1 _ (.cells #[.int .i64 k, .int .i64 p, .int .i64 n, .int .i64 l, .string s, .slice a z c] 68)))
  have HE1 := Six.new (w.alloc (.cells #[.slice a1 z1 c1, .slice a2 z2 c2, .slice a3 z3 c3, .int .i64 mn] 43)) k p n l s (.slice a z c) 68
  rw [World.size_alloc] at HE1
  replace HE1 := Lib.hid HE1
  have HC := Lib.hid (fun W => spec_counts k p n l s (.slice a z c) W)
  have HL := Lib.hid (fun W => spec_leaf a1 a2 a3 z1 z2 z3 c1 c2 c3 mn sl p n l s (.slice a z c) k q1 q2 q3 s0 s1 W)
  rw [hn] at HL
  generalize Co.cLo k p = lo at HC q4 q5
  generalize Co.cHi k p = hi at HC q5
  clear HP0
  go_enter Tryd.func30, Tryd.ntmps30
  go_wp2_with fail
  refine (HC.out _).mono ?_
  rintro e w1 ⟨rfl, b1⟩
  have B1 := Lib.hid (below_then HB0.out b1)
  have P1 := Lib.hid (HP1.out.later b1)
  have E1 := Lib.hid (HE1.out.later b1)
  clear b1 HC HB0 HP1 HE1
  obtain ⟨p0, p1, p2, p3⟩ := P1.out
  obtain ⟨e0, e1, e2, e3, e4, e5⟩ := E1.out
  go_wp2_with fail
  refine (HL.out _).mono ?_
  rintro e w2 ⟨rfl, b2⟩
  have B2 := Lib.hid (below_then B1.out b2)
  have P2 := Lib.hid (P1.out.later b2)
  have E2 := Lib.hid (E1.out.later b2)
  clear b2 HL B1 P1 E1 p0 p1 p2 p3 e0 e1 e2 e3 e4 e5
  obtain ⟨p0, p1, p2, p3⟩ := P2.out
  obtain ⟨e0, e1, e2, e3, e4, e5⟩ := E2.out
  go_wp2
  go_ret
  exact ⟨rfl, B2.out⟩
set_option maxRecDepth 100000 in
set_option maxHeartbeats 1600000 in
theorem val_f2 (a1 a2 a3 : Option Addr) (z1 z2 z3 c1 c2 c3 : Nat) (mn sl : Int) (q1 : (z1 : Int) ≤ 1048576) (q2 : (z2 : Int) ≤ 1048576) (q3 : (z3 : Int) ≤ 1048576) (s0 : 0 ≤ sl) (s1 : sl ≤ 1048576) (p n l : Int) (s : ByteArray) (a : Option Addr) (z c : Nat) (hz : (z : Int) ≤ 1048576) (zs : (s.size : Int) ≤ 1048576) (d : Int) (d0 : 0 ≤ d) (d1 : d ≤ 1000) (k : Int) (q40 : d ≤ 400) (k1 : 1 ≤ k) (k2 : k ≤ 28) (l0 : 0 ≤ l) (q4 : Co.cLo k p ≤ (z : Int)) (q5 : (z : Int) ≤ Co.cHi k p) (hn : Co.numOk ⟨sl, z3, z1, z2⟩ k n = true) (b11 : (k != 11) = true) (bp : (p != 0) = false) (b2 : (k != 2) = true) (b3 : (k != 3) = true) (he : s.toList.isEmpty = false) (loop : Bool) (made : Bool) (w : World) : Calls Tryd.prog 30 #[.agg #[.slice a1 z1 c1, .slice a2 z2 c2, .slice a3 z3 c3, .int .i64 mn], .int .i64 sl, .agg #[.int .i64 k, .int .i64 p, .int .i64 n, .int .i64 l, .string s, .slice a z c], .bool loop, .bool made, .int .i64 d] w (RetV w false) := by
  have HP0 := Lib.hid (Pg4.new w (.slice a1 z1 c1) (.slice a2 z2 c2) (.slice a3 z3 c3) mn 43)
  have HB0 := Lib.hid (below_then (bl1 w (.cells #[.slice a1 z1 c1, .slice a2 z2 c2, .slice a3 z3 c3, .int .i64 mn] 43)) (bl1 _ (.cells #[.int .i64 k, .int .i64 p, .int .i64 n, .int .i64 l, .string s, .slice a z c] 68)))
  have HP1 := Lib.hid (HP0.out.later (bl1 _ (.cells #[.int .i64 k, .int .i64 p, .int .i64 n, .int .i64 l, .string s, .slice a z c] 68)))
  have HE1 := Six.new (w.alloc (.cells #[.slice a1 z1 c1, .slice a2 z2 c2, .slice a3 z3 c3, .int .i64 mn] 43)) k p n l s (.slice a z c) 68
  rw [World.size_alloc] at HE1
  replace HE1 := Lib.hid HE1
  have HC := Lib.hid (fun W => spec_counts k p n l s (.slice a z c) W)
  have HL := Lib.hid (fun W => spec_leaf a1 a2 a3 z1 z2 z3 c1 c2 c3 mn sl p n l s (.slice a z c) k q1 q2 q3 s0 s1 W)
  rw [hn] at HL
  generalize Co.cLo k p = lo at HC q4 q5
  generalize Co.cHi k p = hi at HC q5
  clear HP0
  go_enter Tryd.func30, Tryd.ntmps30
  go_wp2_with fail
  refine (HC.out _).mono ?_
  rintro e w1 ⟨rfl, b1⟩
  have B1 := Lib.hid (below_then HB0.out b1)
  have P1 := Lib.hid (HP1.out.later b1)
  have E1 := Lib.hid (HE1.out.later b1)
  clear b1 HC HB0 HP1 HE1
  obtain ⟨p0, p1, p2, p3⟩ := P1.out
  obtain ⟨e0, e1, e2, e3, e4, e5⟩ := E1.out
  go_wp2_with fail
  refine (HL.out _).mono ?_
  rintro e w2 ⟨rfl, b2⟩
  have B2 := Lib.hid (below_then B1.out b2)
  have P2 := Lib.hid (P1.out.later b2)
  have E2 := Lib.hid (E1.out.later b2)
  clear b2 HL B1 P1 E1 p0 p1 p2 p3 e0 e1 e2 e3 e4 e5
  obtain ⟨p0, p1, p2, p3⟩ := P2.out
  obtain ⟨e0, e1, e2, e3, e4, e5⟩ := E2.out
  go_wp2
  go_ret
  exact ⟨rfl, B2.out⟩
set_option maxRecDepth 100000 in
set_option maxHeartbeats 1600000 in
theorem val_f3 (a1 a2 a3 : Option Addr) (z1 z2 z3 c1 c2 c3 : Nat) (mn sl : Int) (q1 : (z1 : Int) ≤ 1048576) (q2 : (z2 : Int) ≤ 1048576) (q3 : (z3 : Int) ≤ 1048576) (s0 : 0 ≤ sl) (s1 : sl ≤ 1048576) (p n l : Int) (s : ByteArray) (a : Option Addr) (z c : Nat) (hz : (z : Int) ≤ 1048576) (zs : (s.size : Int) ≤ 1048576) (d : Int) (d0 : 0 ≤ d) (d1 : d ≤ 1000) (q40 : d ≤ 400) (l0 : 0 ≤ l) (q4 : Co.cLo 11 p ≤ (z : Int)) (q5 : (z : Int) ≤ Co.cHi 11 p) (hn : Co.numOk ⟨sl, z3, z1, z2⟩ 11 n = true) (he : s.toList.isEmpty = false) (loop : Bool) (made : Bool) (w : World) : Calls Tryd.prog 30 #[.agg #[.slice a1 z1 c1, .slice a2 z2 c2, .slice a3 z3 c3, .int .i64 mn], .int .i64 sl, .agg #[.int .i64 11, .int .i64 p, .int .i64 n, .int .i64 l, .string s, .slice a z c], .bool loop, .bool made, .int .i64 d] w (RetV w false) := by
  have HP0 := Lib.hid (Pg4.new w (.slice a1 z1 c1) (.slice a2 z2 c2) (.slice a3 z3 c3) mn 43)
  have HB0 := Lib.hid (below_then (bl1 w (.cells #[.slice a1 z1 c1, .slice a2 z2 c2, .slice a3 z3 c3, .int .i64 mn] 43)) (bl1 _ (.cells #[.int .i64 11, .int .i64 p, .int .i64 n, .int .i64 l, .string s, .slice a z c] 68)))
  have HP1 := Lib.hid (HP0.out.later (bl1 _ (.cells #[.int .i64 11, .int .i64 p, .int .i64 n, .int .i64 l, .string s, .slice a z c] 68)))
  have HE1 := Six.new (w.alloc (.cells #[.slice a1 z1 c1, .slice a2 z2 c2, .slice a3 z3 c3, .int .i64 mn] 43)) 11 p n l s (.slice a z c) 68
  rw [World.size_alloc] at HE1
  replace HE1 := Lib.hid HE1
  have HC := Lib.hid (fun W => spec_counts 11 p n l s (.slice a z c) W)
  have HL := Lib.hid (fun W => spec_leaf a1 a2 a3 z1 z2 z3 c1 c2 c3 mn sl p n l s (.slice a z c) 11 q1 q2 q3 s0 s1 W)
  rw [hn] at HL
  generalize Co.cLo 11 p = lo at HC q4 q5
  generalize Co.cHi 11 p = hi at HC q5
  clear HP0
  go_enter Tryd.func30, Tryd.ntmps30
  go_wp2_with fail
  refine (HC.out _).mono ?_
  rintro e w1 ⟨rfl, b1⟩
  have B1 := Lib.hid (below_then HB0.out b1)
  have P1 := Lib.hid (HP1.out.later b1)
  have E1 := Lib.hid (HE1.out.later b1)
  clear b1 HC HB0 HP1 HE1
  obtain ⟨p0, p1, p2, p3⟩ := P1.out
  obtain ⟨e0, e1, e2, e3, e4, e5⟩ := E1.out
  go_wp2_with fail
  refine (HL.out _).mono ?_
  rintro e w2 ⟨rfl, b2⟩
  have B2 := Lib.hid (below_then B1.out b2)
  have P2 := Lib.hid (P1.out.later b2)
  have E2 := Lib.hid (E1.out.later b2)
  clear b2 HL B1 P1 E1 p0 p1 p2 p3 e0 e1 e2 e3 e4 e5
  obtain ⟨p0, p1, p2, p3⟩ := P2.out
  obtain ⟨e0, e1, e2, e3, e4, e5⟩ := E2.out
  go_wp2
  go_ret
  exact ⟨rfl, B2.out⟩
set_option maxRecDepth 100000 in
set_option maxHeartbeats 1600000 in
theorem val_f4 (a1 a2 a3 : Option Addr) (z1 z2 z3 c1 c2 c3 : Nat) (mn sl : Int) (q1 : (z1 : Int) ≤ 1048576) (q2 : (z2 : Int) ≤ 1048576) (q3 : (z3 : Int) ≤ 1048576) (s0 : 0 ≤ sl) (s1 : sl ≤ 1048576) (p n l : Int) (s : ByteArray) (a : Option Addr) (z c : Nat) (hz : (z : Int) ≤ 1048576) (zs : (s.size : Int) ≤ 1048576) (d : Int) (d0 : 0 ≤ d) (d1 : d ≤ 1000) (q40 : d ≤ 400) (l0 : 0 ≤ l) (q4 : Co.cLo 2 p ≤ (z : Int)) (q5 : (z : Int) ≤ Co.cHi 2 p) (hn : Co.numOk ⟨sl, z3, z1, z2⟩ 2 n = true) (bp : (p != 0) = false) (hs : (128 : Int) < s.size) (loop : Bool) (made : Bool) (w : World) : Calls Tryd.prog 30 #[.agg #[.slice a1 z1 c1, .slice a2 z2 c2, .slice a3 z3 c3, .int .i64 mn], .int .i64 sl, .agg #[.int .i64 2, .int .i64 p, .int .i64 n, .int .i64 l, .string s, .slice a z c], .bool loop, .bool made, .int .i64 d] w (RetV w false) := by
  have HP0 := Lib.hid (Pg4.new w (.slice a1 z1 c1) (.slice a2 z2 c2) (.slice a3 z3 c3) mn 43)
  have HB0 := Lib.hid (below_then (bl1 w (.cells #[.slice a1 z1 c1, .slice a2 z2 c2, .slice a3 z3 c3, .int .i64 mn] 43)) (bl1 _ (.cells #[.int .i64 2, .int .i64 p, .int .i64 n, .int .i64 l, .string s, .slice a z c] 68)))
  have HP1 := Lib.hid (HP0.out.later (bl1 _ (.cells #[.int .i64 2, .int .i64 p, .int .i64 n, .int .i64 l, .string s, .slice a z c] 68)))
  have HE1 := Six.new (w.alloc (.cells #[.slice a1 z1 c1, .slice a2 z2 c2, .slice a3 z3 c3, .int .i64 mn] 43)) 2 p n l s (.slice a z c) 68
  rw [World.size_alloc] at HE1
  replace HE1 := Lib.hid HE1
  have HC := Lib.hid (fun W => spec_counts 2 p n l s (.slice a z c) W)
  have HL := Lib.hid (fun W => spec_leaf a1 a2 a3 z1 z2 z3 c1 c2 c3 mn sl p n l s (.slice a z c) 2 q1 q2 q3 s0 s1 W)
  rw [hn] at HL
  generalize Co.cLo 2 p = lo at HC q4 q5
  generalize Co.cHi 2 p = hi at HC q5
  clear HP0
  go_enter Tryd.func30, Tryd.ntmps30
  go_wp2_with fail
  refine (HC.out _).mono ?_
  rintro e w1 ⟨rfl, b1⟩
  have B1 := Lib.hid (below_then HB0.out b1)
  have P1 := Lib.hid (HP1.out.later b1)
  have E1 := Lib.hid (HE1.out.later b1)
  clear b1 HC HB0 HP1 HE1
  obtain ⟨p0, p1, p2, p3⟩ := P1.out
  obtain ⟨e0, e1, e2, e3, e4, e5⟩ := E1.out
  go_wp2_with fail
  refine (HL.out _).mono ?_
  rintro e w2 ⟨rfl, b2⟩
  have B2 := Lib.hid (below_then B1.out b2)
  have P2 := Lib.hid (P1.out.later b2)
  have E2 := Lib.hid (E1.out.later b2)
  clear b2 HL B1 P1 E1 p0 p1 p2 p3 e0 e1 e2 e3 e4 e5
  obtain ⟨p0, p1, p2, p3⟩ := P2.out
  obtain ⟨e0, e1, e2, e3, e4, e5⟩ := E2.out
  go_wp2
  go_ret
  exact ⟨rfl, B2.out⟩
set_option maxRecDepth 100000 in
set_option maxHeartbeats 1600000 in
theorem val_f5 (a1 a2 a3 : Option Addr) (z1 z2 z3 c1 c2 c3 : Nat) (mn sl : Int) (q1 : (z1 : Int) ≤ 1048576) (q2 : (z2 : Int) ≤ 1048576) (q3 : (z3 : Int) ≤ 1048576) (s0 : 0 ≤ sl) (s1 : sl ≤ 1048576) (p n l : Int) (s : ByteArray) (a : Option Addr) (z c : Nat) (hz : (z : Int) ≤ 1048576) (zs : (s.size : Int) ≤ 1048576) (d : Int) (d0 : 0 ≤ d) (d1 : d ≤ 1000) (q40 : d ≤ 400) (l0 : 0 ≤ l) (q4 : Co.cLo 2 p ≤ (z : Int)) (q5 : (z : Int) ≤ Co.cHi 2 p) (hn : Co.numOk ⟨sl, z3, z1, z2⟩ 2 n = true) (bp : (p != 0) = false) (hs : (s.size : Int) ≤ 128) (hs2 : (120 : Int) < s.size) (loop : Bool) (made : Bool) (w : World) : Calls Tryd.prog 30 #[.agg #[.slice a1 z1 c1, .slice a2 z2 c2, .slice a3 z3 c3, .int .i64 mn], .int .i64 sl, .agg #[.int .i64 2, .int .i64 p, .int .i64 n, .int .i64 l, .string s, .slice a z c], .bool loop, .bool made, .int .i64 d] w (RetV w false) := by
  have HP0 := Lib.hid (Pg4.new w (.slice a1 z1 c1) (.slice a2 z2 c2) (.slice a3 z3 c3) mn 43)
  have HB0 := Lib.hid (below_then (bl1 w (.cells #[.slice a1 z1 c1, .slice a2 z2 c2, .slice a3 z3 c3, .int .i64 mn] 43)) (bl1 _ (.cells #[.int .i64 2, .int .i64 p, .int .i64 n, .int .i64 l, .string s, .slice a z c] 68)))
  have HP1 := Lib.hid (HP0.out.later (bl1 _ (.cells #[.int .i64 2, .int .i64 p, .int .i64 n, .int .i64 l, .string s, .slice a z c] 68)))
  have HE1 := Six.new (w.alloc (.cells #[.slice a1 z1 c1, .slice a2 z2 c2, .slice a3 z3 c3, .int .i64 mn] 43)) 2 p n l s (.slice a z c) 68
  rw [World.size_alloc] at HE1
  replace HE1 := Lib.hid HE1
  have HC := Lib.hid (fun W => spec_counts 2 p n l s (.slice a z c) W)
  have HL := Lib.hid (fun W => spec_leaf a1 a2 a3 z1 z2 z3 c1 c2 c3 mn sl p n l s (.slice a z c) 2 q1 q2 q3 s0 s1 W)
  rw [hn] at HL
  generalize Co.cLo 2 p = lo at HC q4 q5
  generalize Co.cHi 2 p = hi at HC q5
  clear HP0
  go_enter Tryd.func30, Tryd.ntmps30
  go_wp2_with fail
  refine (HC.out _).mono ?_
  rintro e w1 ⟨rfl, b1⟩
  have B1 := Lib.hid (below_then HB0.out b1)
  have P1 := Lib.hid (HP1.out.later b1)
  have E1 := Lib.hid (HE1.out.later b1)
  clear b1 HC HB0 HP1 HE1
  obtain ⟨p0, p1, p2, p3⟩ := P1.out
  obtain ⟨e0, e1, e2, e3, e4, e5⟩ := E1.out
  go_wp2_with fail
  refine (HL.out _).mono ?_
  rintro e w2 ⟨rfl, b2⟩
  have B2 := Lib.hid (below_then B1.out b2)
  have P2 := Lib.hid (P1.out.later b2)
  have E2 := Lib.hid (E1.out.later b2)
  clear b2 HL B1 P1 E1 p0 p1 p2 p3 e0 e1 e2 e3 e4 e5
  obtain ⟨p0, p1, p2, p3⟩ := P2.out
  obtain ⟨e0, e1, e2, e3, e4, e5⟩ := E2.out
  go_wp2
  go_ret
  exact ⟨rfl, B2.out⟩
set_option maxRecDepth 100000 in
set_option maxHeartbeats 1600000 in
theorem val_f6 (a1 a2 a3 : Option Addr) (z1 z2 z3 c1 c2 c3 : Nat) (mn sl : Int) (q1 : (z1 : Int) ≤ 1048576) (q2 : (z2 : Int) ≤ 1048576) (q3 : (z3 : Int) ≤ 1048576) (s0 : 0 ≤ sl) (s1 : sl ≤ 1048576) (p n l : Int) (s : ByteArray) (a : Option Addr) (z c : Nat) (hz : (z : Int) ≤ 1048576) (zs : (s.size : Int) ≤ 1048576) (d : Int) (d0 : 0 ≤ d) (d1 : d ≤ 1000) (q40 : d ≤ 400) (l0 : 0 ≤ l) (q4 : Co.cLo 3 p ≤ (z : Int)) (q5 : (z : Int) ≤ Co.cHi 3 p) (hn : Co.numOk ⟨sl, z3, z1, z2⟩ 3 n = true) (bp : (p != 0) = false) (hs : (128 : Int) < s.size) (loop : Bool) (made : Bool) (w : World) : Calls Tryd.prog 30 #[.agg #[.slice a1 z1 c1, .slice a2 z2 c2, .slice a3 z3 c3, .int .i64 mn], .int .i64 sl, .agg #[.int .i64 3, .int .i64 p, .int .i64 n, .int .i64 l, .string s, .slice a z c], .bool loop, .bool made, .int .i64 d] w (RetV w false) := by
  have HP0 := Lib.hid (Pg4.new w (.slice a1 z1 c1) (.slice a2 z2 c2) (.slice a3 z3 c3) mn 43)
  have HB0 := Lib.hid (below_then (bl1 w (.cells #[.slice a1 z1 c1, .slice a2 z2 c2, .slice a3 z3 c3, .int .i64 mn] 43)) (bl1 _ (.cells #[.int .i64 3, .int .i64 p, .int .i64 n, .int .i64 l, .string s, .slice a z c] 68)))
  have HP1 := Lib.hid (HP0.out.later (bl1 _ (.cells #[.int .i64 3, .int .i64 p, .int .i64 n, .int .i64 l, .string s, .slice a z c] 68)))
  have HE1 := Six.new (w.alloc (.cells #[.slice a1 z1 c1, .slice a2 z2 c2, .slice a3 z3 c3, .int .i64 mn] 43)) 3 p n l s (.slice a z c) 68
  rw [World.size_alloc] at HE1
  replace HE1 := Lib.hid HE1
  have HC := Lib.hid (fun W => spec_counts 3 p n l s (.slice a z c) W)
  have HL := Lib.hid (fun W => spec_leaf a1 a2 a3 z1 z2 z3 c1 c2 c3 mn sl p n l s (.slice a z c) 3 q1 q2 q3 s0 s1 W)
  rw [hn] at HL
  generalize Co.cLo 3 p = lo at HC q4 q5
  generalize Co.cHi 3 p = hi at HC q5
  clear HP0
  go_enter Tryd.func30, Tryd.ntmps30
  go_wp2_with fail
  refine (HC.out _).mono ?_
  rintro e w1 ⟨rfl, b1⟩
  have B1 := Lib.hid (below_then HB0.out b1)
  have P1 := Lib.hid (HP1.out.later b1)
  have E1 := Lib.hid (HE1.out.later b1)
  clear b1 HC HB0 HP1 HE1
  obtain ⟨p0, p1, p2, p3⟩ := P1.out
  obtain ⟨e0, e1, e2, e3, e4, e5⟩ := E1.out
  go_wp2_with fail
  refine (HL.out _).mono ?_
  rintro e w2 ⟨rfl, b2⟩
  have B2 := Lib.hid (below_then B1.out b2)
  have P2 := Lib.hid (P1.out.later b2)
  have E2 := Lib.hid (E1.out.later b2)
  clear b2 HL B1 P1 E1 p0 p1 p2 p3 e0 e1 e2 e3 e4 e5
  obtain ⟨p0, p1, p2, p3⟩ := P2.out
  obtain ⟨e0, e1, e2, e3, e4, e5⟩ := E2.out
  go_wp2
  go_ret
  exact ⟨rfl, B2.out⟩
set_option maxRecDepth 100000 in
set_option maxHeartbeats 1600000 in
theorem val_s1 (a1 a2 a3 : Option Addr) (z1 z2 z3 c1 c2 c3 : Nat) (mn sl : Int) (q1 : (z1 : Int) ≤ 1048576) (q2 : (z2 : Int) ≤ 1048576) (q3 : (z3 : Int) ≤ 1048576) (s0 : 0 ≤ sl) (s1 : sl ≤ 1048576) (p n l : Int) (s : ByteArray) (a : Option Addr) (z c : Nat) (hz : (z : Int) ≤ 1048576) (zs : (s.size : Int) ≤ 1048576) (d : Int) (d0 : 0 ≤ d) (d1 : d ≤ 1000) (q40 : d ≤ 400) (l0 : 0 ≤ l) (q4 : Co.cLo 3 p ≤ (z : Int)) (q5 : (z : Int) ≤ Co.cHi 3 p) (hn : Co.numOk ⟨sl, z3, z1, z2⟩ 3 n = true) (bp : (p != 0) = false) (hs : (s.size : Int) ≤ 128) (hg : Cs.good s = false) (loop : Bool) (made : Bool) (w : World) : Calls Tryd.prog 30 #[.agg #[.slice a1 z1 c1, .slice a2 z2 c2, .slice a3 z3 c3, .int .i64 mn], .int .i64 sl, .agg #[.int .i64 3, .int .i64 p, .int .i64 n, .int .i64 l, .string s, .slice a z c], .bool loop, .bool made, .int .i64 d] w (RetV w false) := by
  have HS := Lib.hid (fun wr => spec_new s (by unfold maxLen; omega) wr)
  rw [hg] at HS
  have HT := Lib.hid (fun wr => spec_text (Cs.newL s) (Cs.newH s) wr)
  unfold RetText at HT
  generalize Cs.newL s = x at HS HT
  generalize Cs.newH s = y at HS HT
  have HP0 := Lib.hid (Pg4.new w (.slice a1 z1 c1) (.slice a2 z2 c2) (.slice a3 z3 c3) mn 43)
  have HB0 := Lib.hid (below_then (bl1 w (.cells #[.slice a1 z1 c1, .slice a2 z2 c2, .slice a3 z3 c3, .int .i64 mn] 43)) (bl1 _ (.cells #[.int .i64 3, .int .i64 p, .int .i64 n, .int .i64 l, .string s, .slice a z c] 68)))
  have HP1 := Lib.hid (HP0.out.later (bl1 _ (.cells #[.int .i64 3, .int .i64 p, .int .i64 n, .int .i64 l, .string s, .slice a z c] 68)))
  have HE1 := Six.new (w.alloc (.cells #[.slice a1 z1 c1, .slice a2 z2 c2, .slice a3 z3 c3, .int .i64 mn] 43)) 3 p n l s (.slice a z c) 68
  rw [World.size_alloc] at HE1
  replace HE1 := Lib.hid HE1
  have HC := Lib.hid (fun W => spec_counts 3 p n l s (.slice a z c) W)
  have HL := Lib.hid (fun W => spec_leaf a1 a2 a3 z1 z2 z3 c1 c2 c3 mn sl p n l s (.slice a z c) 3 q1 q2 q3 s0 s1 W)
  rw [hn] at HL
  generalize Co.cLo 3 p = lo at HC q4 q5
  generalize Co.cHi 3 p = hi at HC q5
  clear HP0
  go_enter Tryd.func30, Tryd.ntmps30
  go_wp2_with fail
  refine (HC.out _).mono ?_
  rintro e w1 ⟨rfl, b1⟩
  have B1 := Lib.hid (below_then HB0.out b1)
  have P1 := Lib.hid (HP1.out.later b1)
  have E1 := Lib.hid (HE1.out.later b1)
  clear b1 HC HB0 HP1 HE1
  obtain ⟨p0, p1, p2, p3⟩ := P1.out
  obtain ⟨e0, e1, e2, e3, e4, e5⟩ := E1.out
  go_wp2_with fail
  refine (HL.out _).mono ?_
  rintro e w2 ⟨rfl, b2⟩
  have B2 := Lib.hid (below_then B1.out b2)
  have P2 := Lib.hid (P1.out.later b2)
  have E2 := Lib.hid (E1.out.later b2)
  clear b2 HL B1 P1 E1 p0 p1 p2 p3 e0 e1 e2 e3 e4 e5
  obtain ⟨p0, p1, p2, p3⟩ := P2.out
  obtain ⟨e0, e1, e2, e3, e4, e5⟩ := E2.out
  go_wp2_with fail
  refine (HS.out _).mono ?_
  rintro e w3 ⟨rfl, b3⟩
  have B3 := Lib.hid (below_then B2.out b3)
  have P3 := Lib.hid (P2.out.later b3)
  have E3 := Lib.hid (E2.out.later b3)
  clear b3 HS B2 P2 E2 p0 p1 p2 p3 e0 e1 e2 e3 e4 e5
  obtain ⟨p0, p1, p2, p3⟩ := P3.out
  obtain ⟨e0, e1, e2, e3, e4, e5⟩ := E3.out
  go_wp2_with fail
  go_quiet (fail)
  go_wp2
  go_ret
  exact ⟨rfl, drewN_a (below_then B3.out (bl1 _ _)) _⟩
theorem held_x {p : Prop} {w W w1 : World} (h : p ∧ Below w.heap.size w W) (b : Below W.heap.size W w1) : Below w.heap.size w w1 := below_then h.2 b
theorem set_new (w : World) (x y : Int) : (w.alloc (.cells #[.int .i64 x, .int .i64 y] 28)).cell? ⟨w.heap.size, 0, none⟩ = some (.int .i64 x) ∧ (w.alloc (.cells #[.int .i64 x, .int .i64 y] 28)).cell? ⟨w.heap.size, 1, none⟩ = some (.int .i64 y) := by
  constructor <;> go_simp
theorem kLoop_x {k : Int} (h18 : (k == 18) = false) (h19 : (k == 19) = false) (h20 : (k == 20) = false) (h26 : (k == 26) = false) (loop : Bool) (i : Nat) : Co.kLoop k loop i = loop := by
  have := beq_eq_false_iff_ne.1 h18
  have := beq_eq_false_iff_ne.1 h19
  have := beq_eq_false_iff_ne.1 h20
  have := beq_eq_false_iff_ne.1 h26
  unfold Co.kLoop
  rw [if_neg (by omega), if_neg (by omega)]
theorem made_x {k : Int} (h26 : (k == 26) = false) (made : Bool) : (made || decide (k = 26)) = made := by
  rw [decide_eq_false (beq_eq_false_iff_ne.1 h26), Bool.or_false]
def OkAt (E : Co.Env) (ks : List Co.T) (k : Int) (loop made : Bool) (d : Int) (j : Nat) : Prop := Co.oks E (ks.take j) k loop made d 0 = true
theorem OkAt.next {E : Co.Env} {ks : List Co.T} {k : Int} {loop made : Bool} {d : Int} {j : Nat} (h : OkAt E ks k loop made d j) (hj : j < ks.length) (hx : ks[j].ok E (Co.kLoop k loop j) made d = true) : OkAt E ks k loop made d (j + 1) := by
  unfold OkAt at h ⊢
  rw [Co.oks_take E ks k loop made d j hj, h, hx]; rfl
theorem OkAt.over {E : Co.Env} {ks : List Co.T} {k : Int} {loop made : Bool} {d : Int} (h : OkAt E ks k loop made d ks.length) : Co.oks E ks k loop made d 0 = true := by
  unfold OkAt at h
  rw [List.take_length] at h; exact h
theorem ret_vb {a b : Bool} (h : a = b) : Ending.returned (.bool a) = .returned (.bool b) := by rw [h]

set_option maxRecDepth 100000 in
set_option maxHeartbeats 1600000 in
theorem val_s2 (a1 a2 a3 : Option Addr) (z1 z2 z3 c1 c2 c3 : Nat) (mn sl : Int) (q1 : (z1 : Int) ≤ 1048576) (q2 : (z2 : Int) ≤ 1048576) (q3 : (z3 : Int) ≤ 1048576) (s0 : 0 ≤ sl) (s1 : sl ≤ 1048576) (p n l : Int) (s : ByteArray) (a : Option Addr) (z c : Nat) (hz : (z : Int) ≤ 1048576) (zs : (s.size : Int) ≤ 1048576) (d : Int) (d0 : 0 ≤ d) (d1 : d ≤ 1000) (q40 : d ≤ 400) (l0 : 0 ≤ l) (q4 : Co.cLo 3 p ≤ (z : Int)) (q5 : (z : Int) ≤ Co.cHi 3 p) (hn : Co.numOk ⟨sl, z3, z1, z2⟩ 3 n = true) (bp : (p != 0) = false) (hs : (s.size : Int) ≤ 128) (hg : Cs.good s = true) (ht : ((txt (Cs.text (Cs.newL s) (Cs.newH s))).toList == s.toList) = false) (loop : Bool) (made : Bool) (w : World) : Calls Tryd.prog 30 #[.agg #[.slice a1 z1 c1, .slice a2 z2 c2, .slice a3 z3 c3, .int .i64 mn], .int .i64 sl, .agg #[.int .i64 3, .int .i64 p, .int .i64 n, .int .i64 l, .string s, .slice a z c], .bool loop, .bool made, .int .i64 d] w (RetV w false) := by
  have HS := Lib.hid (fun wr => spec_new s (by unfold maxLen; omega) wr)
  rw [hg] at HS
  have HT := Lib.hid (fun wr => spec_text (Cs.newL s) (Cs.newH s) wr)
  unfold RetText at HT
  generalize Cs.newL s = x at HS HT ht
  generalize Cs.newH s = y at HS HT ht
  have HP0 := Lib.hid (Pg4.new w (.slice a1 z1 c1) (.slice a2 z2 c2) (.slice a3 z3 c3) mn 43)
  have HB0 := Lib.hid (below_then (bl1 w (.cells #[.slice a1 z1 c1, .slice a2 z2 c2, .slice a3 z3 c3, .int .i64 mn] 43)) (bl1 _ (.cells #[.int .i64 3, .int .i64 p, .int .i64 n, .int .i64 l, .string s, .slice a z c] 68)))
  have HP1 := Lib.hid (HP0.out.later (bl1 _ (.cells #[.int .i64 3, .int .i64 p, .int .i64 n, .int .i64 l, .string s, .slice a z c] 68)))
  have HE1 := Six.new (w.alloc (.cells #[.slice a1 z1 c1, .slice a2 z2 c2, .slice a3 z3 c3, .int .i64 mn] 43)) 3 p n l s (.slice a z c) 68
  rw [World.size_alloc] at HE1
  replace HE1 := Lib.hid HE1
  have HC := Lib.hid (fun W => spec_counts 3 p n l s (.slice a z c) W)
  have HL := Lib.hid (fun W => spec_leaf a1 a2 a3 z1 z2 z3 c1 c2 c3 mn sl p n l s (.slice a z c) 3 q1 q2 q3 s0 s1 W)
  rw [hn] at HL
  generalize Co.cLo 3 p = lo at HC q4 q5
  generalize Co.cHi 3 p = hi at HC q5
  clear HP0
  go_enter Tryd.func30, Tryd.ntmps30
  go_wp2_with fail
  refine (HC.out _).mono ?_
  rintro e w1 ⟨rfl, b1⟩
  have B1 := Lib.hid (below_then HB0.out b1)
  have P1 := Lib.hid (HP1.out.later b1)
  have E1 := Lib.hid (HE1.out.later b1)
  clear b1 HC HB0 HP1 HE1
  obtain ⟨p0, p1, p2, p3⟩ := P1.out
  obtain ⟨e0, e1, e2, e3, e4, e5⟩ := E1.out
  go_wp2_with fail
  refine (HL.out _).mono ?_
  rintro e w2 ⟨rfl, b2⟩
  have B2 := Lib.hid (below_then B1.out b2)
  have P2 := Lib.hid (P1.out.later b2)
  have E2 := Lib.hid (E1.out.later b2)
  clear b2 HL B1 P1 E1 p0 p1 p2 p3 e0 e1 e2 e3 e4 e5
  obtain ⟨p0, p1, p2, p3⟩ := P2.out
  obtain ⟨e0, e1, e2, e3, e4, e5⟩ := E2.out
  go_wp2_with fail
  refine (HS.out _).mono ?_
  rintro e w3 ⟨rfl, b3⟩
  have B3 := Lib.hid (below_then B2.out b3)
  have P3 := Lib.hid (P2.out.later b3)
  have E3 := Lib.hid (E2.out.later b3)
  clear b3 HS B2 P2 E2 p0 p1 p2 p3 e0 e1 e2 e3 e4 e5
  obtain ⟨p0, p1, p2, p3⟩ := P3.out
  obtain ⟨e0, e1, e2, e3, e4, e5⟩ := E3.out
  go_wp2_with fail
  have HX : Hid (∀ W, Below (w3.alloc (.cells #[.int .i64 x, .int .i64 y] 28)).heap.size (w3.alloc (.cells #[.int .i64 x, .int .i64 y] 28)) W → (W.cell? ⟨w.heap.size + 1, 4, none⟩ = some (.string s) ∧ W.cell? ⟨w3.heap.size, 0, none⟩ = some (.int .i64 x) ∧ W.cell? ⟨w3.heap.size, 1, none⟩ = some (.int .i64 y)) ∧ Below (w3.alloc (.cells #[.int .i64 x, .int .i64 y] 28)).heap.size (w3.alloc (.cells #[.int .i64 x, .int .i64 y] 28)) W) := Lib.hid (fun W hW => ⟨⟨subw_below hW _ _ _ (subw_below (bl1 w3 (.cells #[.int .i64 x, .int .i64 y] 28)) _ _ _ e4), subw_below hW _ _ _ (set_new w3 x y).1, subw_below hW _ _ _ (set_new w3 x y).2⟩, hW⟩)
  go_region_held3 (fun W => (W.cell? ⟨w.heap.size + 1, 4, none⟩ = some (.string s) ∧ W.cell? ⟨w3.heap.size, 0, none⟩ = some (.int .i64 x) ∧ W.cell? ⟨w3.heap.size, 1, none⟩ = some (.int .i64 y)) ∧ Below (w3.alloc (.cells #[.int .i64 x, .int .i64 y] 28)).heap.size (w3.alloc (.cells #[.int .i64 x, .int .i64 y] 28)) W) (first | (with_reducible assumption) | (with_reducible exact HX.out _ (Below.refl _ _).drew) | (with_reducible exact HX.out _ (held_x (by assumption) b4))) (first | (go_at_call 61; with_reducible refine (HT.out _).mono ?_; rintro e w4 ⟨rfl, b4⟩))
  have h4 := below_then (below_then (bl1 w3 (.cells #[.int .i64 x, .int .i64 y] 28)) (Below.refl _ _).drew) b4
  have B4 := Lib.hid (below_then B3.out h4)
  have P4 := Lib.hid (P3.out.later h4)
  have E4 := Lib.hid (E3.out.later h4)
  clear h4 b4 HX HT B3 P3 E3 p0 p1 p2 p3 e0 e1 e2 e3 e4 e5
  obtain ⟨p0, p1, p2, p3⟩ := P4.out
  obtain ⟨e0, e1, e2, e3, e4, e5⟩ := E4.out
  go_wp2
  go_ret
  exact ⟨rfl, B4.out⟩
theorem kLoop_off {k : Int} (h : k = 20 ∨ k = 26) (loop : Bool) (i : Nat) : Co.kLoop k loop i = false := by
  unfold Co.kLoop
  rw [if_neg (by omega), if_pos h]
theorem kLoop_one {k : Int} (h : k = 18 ∨ k = 19) (loop : Bool) {i : Nat} (hi : i = 1) : Co.kLoop k loop i = true := by
  unfold Co.kLoop
  rw [if_pos h, hi]; rfl
theorem kLoop_not {k : Int} (h : k = 18 ∨ k = 19) (loop : Bool) {i : Nat} (hi : ¬ i = 1) : Co.kLoop k loop i = false := by
  unfold Co.kLoop
  rw [if_pos h, decide_eq_false hi]
theorem made_t {k : Int} (h : k = 26) (made : Bool) : (made || decide (k = 26)) = true := by
  rw [decide_eq_true h, Bool.or_true]
end Go.Proofs.YtbadepiakkhabaaDoor.Cr
