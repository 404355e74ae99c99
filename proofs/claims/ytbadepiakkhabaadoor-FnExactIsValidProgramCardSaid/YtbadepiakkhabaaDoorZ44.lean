/- Joined texts: A23r. No conditions besides those that each states. -/
import Derived.Test.YtbadepiakkhabaaDoorZ29
/- Valid core trees, in the reference model: kids (r). No conditions. -/
namespace Go.Proofs.YtbadepiakkhabaaDoor.Cr
open Go.RowKit
set_option linter.unusedVariables false

set_option maxRecDepth 100000 in
set_option maxHeartbeats 6400000 in
theorem val_r20 (a1 a2 a3 : Option Addr) (z1 z2 z3 c1 c2 c3 : Nat) (mn sl : Int) (q1 : (z1 : Int) ≤ 1048576) (q2 : (z2 : Int) ≤ 1048576) (q3 : (z3 : Int) ≤ 1048576) (s0 : 0 ≤ sl) (s1 : sl ≤ 1048576) (p n l : Int) (s : ByteArray) (a : Option Addr) (ks : List Co.T) (c : Nat) (hz : (ks.length : Int) ≤ 1048576) (zs : (s.size : Int) ≤ 1048576) (d : Int) (d0 : 0 ≤ d) (d1 : d ≤ 1000) (q40 : d ≤ 400) (l0 : 0 ≤ l) (q4 : Co.cLo 20 p ≤ (ks.length : Int)) (q5 : (ks.length : Int) ≤ Co.cHi 20 p) (hn : Co.numOk ⟨sl, z3, z1, z2⟩ 20 n = true) (he : s.toList.isEmpty = true) (hs : (s.size : Int) ≤ 128) (bp : (p != 0) = false) (made : Bool) (w : World) (hk : Kids w (.slice a ks.length c) ks) (hI : KidsV ⟨sl, z3, z1, z2⟩ (.agg #[.slice a1 z1 c1, .slice a2 z2 c2, .slice a3 z3 c3, .int .i64 mn]) ks (d + 1)) : Calls Tryd.prog 30 #[.agg #[.slice a1 z1 c1, .slice a2 z2 c2, .slice a3 z3 c3, .int .i64 mn], .int .i64 sl, .agg #[.int .i64 20, .int .i64 p, .int .i64 n, .int .i64 l, .string s, .slice a ks.length c], .bool false, .bool made, .int .i64 d] w (RetV w false) := by
  have HK := Lib.hid hk
  have HI := Lib.hid hI
  have hw : IntKind.i64.wrap (d + 1) = d + 1 := by rw [IntKind.wrap_i64]; omega
  clear hk hI
  have HP0 := Lib.hid (Pg4.new w (.slice a1 z1 c1) (.slice a2 z2 c2) (.slice a3 z3 c3) mn 43)
  have HB0 := Lib.hid (below_then (bl1 w (.cells #[.slice a1 z1 c1, .slice a2 z2 c2, .slice a3 z3 c3, .int .i64 mn] 43)) (bl1 _ (.cells #[.int .i64 20, .int .i64 p, .int .i64 n, .int .i64 l, .string s, .slice a ks.length c] 68)))
  have HP1 := Lib.hid (HP0.out.later (bl1 _ (.cells #[.int .i64 20, .int .i64 p, .int .i64 n, .int .i64 l, .string s, .slice a ks.length c] 68)))
  have HE1 := Six.new (w.alloc (.cells #[.slice a1 z1 c1, .slice a2 z2 c2, .slice a3 z3 c3, .int .i64 mn] 43)) 20 p n l s (.slice a ks.length c) 68
  rw [World.size_alloc] at HE1
  replace HE1 := Lib.hid HE1
  have HC := Lib.hid (fun W => spec_counts 20 p n l s (.slice a ks.length c) W)
  have HL := Lib.hid (fun W => spec_leaf a1 a2 a3 z1 z2 z3 c1 c2 c3 mn sl p n l s (.slice a ks.length c) 20 q1 q2 q3 s0 s1 W)
  rw [hn] at HL
  generalize Co.cLo 20 p = lo at HC q4 q5
  generalize Co.cHi 20 p = hi at HC q5
  clear HP0
  go_enter Tryd.func30, Tryd.ntmps30
  go_wp2_with fail
  refine (HC.out _).mono ?_
  rintro e w1 ⟨rfl, b1⟩
  have B1 := Lib.hid (below_then HB0.out b1)
  have P1 := Lib.hid (HP1.out.later b1)
  have E1 := Lib.hid (HE1.out.later b1)
  clear b1 HC HB0 HP1 HE1
  obtain ⟨p0, p1, p2, p3⟩ := P1.out
  obtain ⟨e0, e1, e2, e3, e4, e5⟩ := E1.out
  go_wp2_with fail
  refine (HL.out _).mono ?_
  rintro e w2 ⟨rfl, b2⟩
  have B2 := Lib.hid (below_then B1.out b2)
  have P2 := Lib.hid (P1.out.later b2)
  have E2 := Lib.hid (E1.out.later b2)
  clear b2 HL B1 P1 E1 p0 p1 p2 p3 e0 e1 e2 e3 e4 e5
  obtain ⟨p0, p1, p2, p3⟩ := P2.out
  obtain ⟨e0, e1, e2, e3, e4, e5⟩ := E2.out
  go_wp2
  go_ret
  exact ⟨rfl, B2.out⟩
set_option maxRecDepth 100000 in
set_option maxHeartbeats 6400000 in
theorem val_r21 (a1 a2 a3 : Option Addr) (z1 z2 z3 c1 c2 c3 : Nat) (mn sl : Int) (q1 : (z1 : Int) ≤ 1048576) (q2 : (z2 : Int) ≤ 1048576) (q3 : (z3 : Int) ≤ 1048576) (s0 : 0 ≤ sl) (s1 : sl ≤ 1048576) (p n l : Int) (s : ByteArray) (a : Option Addr) (ks : List Co.T) (c : Nat) (hz : (ks.length : Int) ≤ 1048576) (zs : (s.size : Int) ≤ 1048576) (d : Int) (d0 : 0 ≤ d) (d1 : d ≤ 1000) (q40 : d ≤ 400) (l0 : 0 ≤ l) (q4 : Co.cLo 21 p ≤ (ks.length : Int)) (q5 : (ks.length : Int) ≤ Co.cHi 21 p) (hn : Co.numOk ⟨sl, z3, z1, z2⟩ 21 n = true) (he : s.toList.isEmpty = true) (hs : (s.size : Int) ≤ 128) (bp : (p != 0) = false) (made : Bool) (w : World) (hk : Kids w (.slice a ks.length c) ks) (hI : KidsV ⟨sl, z3, z1, z2⟩ (.agg #[.slice a1 z1 c1, .slice a2 z2 c2, .slice a3 z3 c3, .int .i64 mn]) ks (d + 1)) : Calls Tryd.prog 30 #[.agg #[.slice a1 z1 c1, .slice a2 z2 c2, .slice a3 z3 c3, .int .i64 mn], .int .i64 sl, .agg #[.int .i64 21, .int .i64 p, .int .i64 n, .int .i64 l, .string s, .slice a ks.length c], .bool false, .bool made, .int .i64 d] w (RetV w false) := by
  have HK := Lib.hid hk
  have HI := Lib.hid hI
  have hw : IntKind.i64.wrap (d + 1) = d + 1 := by rw [IntKind.wrap_i64]; omega
  clear hk hI
  have HP0 := Lib.hid (Pg4.new w (.slice a1 z1 c1) (.slice a2 z2 c2) (.slice a3 z3 c3) mn 43)
  have HB0 := Lib.hid (below_then (bl1 w (.cells #[.slice a1 z1 c1, .slice a2 z2 c2, .slice a3 z3 c3, .int .i64 mn] 43)) (bl1 _ (.cells #[.int .i64 21, .int .i64 p, .int .i64 n, .int .i64 l, .string s, .slice a ks.length c] 68)))
  have HP1 := Lib.hid (HP0.out.later (bl1 _ (.cells #[.int .i64 21, .int .i64 p, .int .i64 n, .int .i64 l, .string s, .slice a ks.length c] 68)))
  have HE1 := Six.new (w.alloc (.cells #[.slice a1 z1 c1, .slice a2 z2 c2, .slice a3 z3 c3, .int .i64 mn] 43)) 21 p n l s (.slice a ks.length c) 68
  rw [World.size_alloc] at HE1
  replace HE1 := Lib.hid HE1
  have HC := Lib.hid (fun W => spec_counts 21 p n l s (.slice a ks.length c) W)
  have HL := Lib.hid (fun W => spec_leaf a1 a2 a3 z1 z2 z3 c1 c2 c3 mn sl p n l s (.slice a ks.length c) 21 q1 q2 q3 s0 s1 W)
  rw [hn] at HL
  generalize Co.cLo 21 p = lo at HC q4 q5
  generalize Co.cHi 21 p = hi at HC q5
  clear HP0
  go_enter Tryd.func30, Tryd.ntmps30
  go_wp2_with fail
  refine (HC.out _).mono ?_
  rintro e w1 ⟨rfl, b1⟩
  have B1 := Lib.hid (below_then HB0.out b1)
  have P1 := Lib.hid (HP1.out.later b1)
  have E1 := Lib.hid (HE1.out.later b1)
  clear b1 HC HB0 HP1 HE1
  obtain ⟨p0, p1, p2, p3⟩ := P1.out
  obtain ⟨e0, e1, e2, e3, e4, e5⟩ := E1.out
  go_wp2_with fail
  refine (HL.out _).mono ?_
  rintro e w2 ⟨rfl, b2⟩
  have B2 := Lib.hid (below_then B1.out b2)
  have P2 := Lib.hid (P1.out.later b2)
  have E2 := Lib.hid (E1.out.later b2)
  clear b2 HL B1 P1 E1 p0 p1 p2 p3 e0 e1 e2 e3 e4 e5
  obtain ⟨p0, p1, p2, p3⟩ := P2.out
  obtain ⟨e0, e1, e2, e3, e4, e5⟩ := E2.out
  go_wp2
  go_ret
  exact ⟨rfl, B2.out⟩
set_option maxRecDepth 100000 in
set_option maxHeartbeats 6400000 in
theorem val_rr (a1 a2 a3 : Option Addr) (z1 z2 z3 c1 c2 c3 : Nat) (mn sl : Int) (q1 : (z1 : Int) ≤ 1048576) (q2 : (z2 : Int) ≤ 1048576) (q3 : (z3 : Int) ≤ 1048576) (s0 : 0 ≤ sl) (s1 : sl ≤ 1048576) (p n l : Int) (s : ByteArray) (a : Option Addr) (ks : List Co.T) (c : Nat) (hz : (ks.length : Int) ≤ 1048576) (zs : (s.size : Int) ≤ 1048576) (d : Int) (d0 : 0 ≤ d) (d1 : d ≤ 1000) (k : Int) (q40 : d ≤ 400) (k1 : 1 ≤ k) (k2 : k ≤ 28) (l0 : 0 ≤ l) (q4 : Co.cLo k p ≤ (ks.length : Int)) (q5 : (ks.length : Int) ≤ Co.cHi k p) (hn : Co.numOk ⟨sl, z3, z1, z2⟩ k n = true) (he : s.toList.isEmpty = true) (hs : (s.size : Int) ≤ 128) (bp : (p != 0) = false) (m2 : (k == 2) = false) (m3 : (k == 3) = false) (m11 : (k == 11) = false) (m18 : (k == 18) = false) (m19 : (k == 19) = false) (m20 : (k == 20) = false) (m21 : (k == 21) = false) (m26 : (k == 26) = false) (n2 : (k != 2) = true) (n3 : (k != 3) = true) (n11 : (k != 11) = true) (n20 : (k != 20) = true) (n26 : (k != 26) = true) (k23 : 23 ≤ k) (k25 : k ≤ 25) (loop : Bool) (w : World) (hk : Kids w (.slice a ks.length c) ks) (hI : KidsV ⟨sl, z3, z1, z2⟩ (.agg #[.slice a1 z1 c1, .slice a2 z2 c2, .slice a3 z3 c3, .int .i64 mn]) ks (d + 1)) : Calls Tryd.prog 30 #[.agg #[.slice a1 z1 c1, .slice a2 z2 c2, .slice a3 z3 c3, .int .i64 mn], .int .i64 sl, .agg #[.int .i64 k, .int .i64 p, .int .i64 n, .int .i64 l, .string s, .slice a ks.length c], .bool loop, .bool true, .int .i64 d] w (RetV w false) := by
  have HK := Lib.hid hk
  have HI := Lib.hid hI
  have hw : IntKind.i64.wrap (d + 1) = d + 1 := by rw [IntKind.wrap_i64]; omega
  clear hk hI
  have HP0 := Lib.hid (Pg4.new w (.slice a1 z1 c1) (.slice a2 z2 c2) (.slice a3 z3 c3) mn 43)
  have HB0 := Lib.hid (below_then (bl1 w (.cells #[.slice a1 z1 c1, .slice a2 z2 c2, .slice a3 z3 c3, .int .i64 mn] 43)) (bl1 _ (.cells #[.int .i64 k, .int .i64 p, .int .i64 n, .int .i64 l, .string s, .slice a ks.length c] 68)))
  have HP1 := Lib.hid (HP0.out.later (bl1 _ (.cells #[.int .i64 k, .int .i64 p, .int .i64 n, .int .i64 l, .string s, .slice a ks.length c] 68)))
  have HE1 := Six.new (w.alloc (.cells #[.slice a1 z1 c1, .slice a2 z2 c2, .slice a3 z3 c3, .int .i64 mn] 43)) k p n l s (.slice a ks.length c) 68
  rw [World.size_alloc] at HE1
  replace HE1 := Lib.hid HE1
  have HC := Lib.hid (fun W => spec_counts k p n l s (.slice a ks.length c) W)
  have HL := Lib.hid (fun W => spec_leaf a1 a2 a3 z1 z2 z3 c1 c2 c3 mn sl p n l s (.slice a ks.length c) k q1 q2 q3 s0 s1 W)
  rw [hn] at HL
  generalize Co.cLo k p = lo at HC q4 q5
  generalize Co.cHi k p = hi at HC q5
  clear HP0
  go_enter Tryd.func30, Tryd.ntmps30
  go_wp2_with fail
  refine (HC.out _).mono ?_
  rintro e w1 ⟨rfl, b1⟩
  have B1 := Lib.hid (below_then HB0.out b1)
  have P1 := Lib.hid (HP1.out.later b1)
  have E1 := Lib.hid (HE1.out.later b1)
  clear b1 HC HB0 HP1 HE1
  obtain ⟨p0, p1, p2, p3⟩ := P1.out
  obtain ⟨e0, e1, e2, e3, e4, e5⟩ := E1.out
  go_wp2_with fail
  refine (HL.out _).mono ?_
  rintro e w2 ⟨rfl, b2⟩
  have B2 := Lib.hid (below_then B1.out b2)
  have P2 := Lib.hid (P1.out.later b2)
  have E2 := Lib.hid (E1.out.later b2)
  clear b2 HL B1 P1 E1 p0 p1 p2 p3 e0 e1 e2 e3 e4 e5
  obtain ⟨p0, p1, p2, p3⟩ := P2.out
  obtain ⟨e0, e1, e2, e3, e4, e5⟩ := E2.out
  go_wp2
  go_ret
  exact ⟨rfl, B2.out⟩
set_option maxRecDepth 100000 in
set_option maxHeartbeats 6400000 in
theorem val_r79a (a1 a2 a3 : Option Addr) (z1 z2 z3 c1 c2 c3 : Nat) (mn sl : Int) (q1 : (z1 : Int) ≤ 1048576) (q2 : (z2 : Int) ≤ 1048576) (q3 : (z3 : Int) ≤ 1048576) (s0 : 0 ≤ sl) (s1 : sl ≤ 1048576) (p n l : Int) (s : ByteArray) (a : Option Addr) (ks : List Co.T) (c : Nat) (hz : (ks.length : Int) ≤ 1048576) (zs : (s.size : Int) ≤ 1048576) (d : Int) (d0 : 0 ≤ d) (d1 : d ≤ 1000) (q40 : d ≤ 400) (l0 : 0 ≤ l) (q4 : Co.cLo 11 p ≤ (ks.length : Int)) (q5 : (ks.length : Int) ≤ Co.cHi 11 p) (hn : Co.numOk ⟨sl, z3, z1, z2⟩ 11 n = true) (he : s.toList.isEmpty = true) (hs : (s.size : Int) ≤ 128) (b79 : (p == 79) = true) (b81 : (p == 81) = false) (hi : 1 < ks.length) (hy : (ks[1].kind != 2) = true) (loop : Bool) (made : Bool) (w : World) (hk : Kids w (.slice a ks.length c) ks) (hI : KidsV ⟨sl, z3, z1, z2⟩ (.agg #[.slice a1 z1 c1, .slice a2 z2 c2, .slice a3 z3 c3, .int .i64 mn]) ks (d + 1)) : Calls Tryd.prog 30 #[.agg #[.slice a1 z1 c1, .slice a2 z2 c2, .slice a3 z3 c3, .int .i64 mn], .int .i64 sl, .agg #[.int .i64 11, .int .i64 p, .int .i64 n, .int .i64 l, .string s, .slice a ks.length c], .bool loop, .bool made, .int .i64 d] w (RetV w false) := by
  obtain ⟨g1, o1, ha, hti⟩ := kids_at hk 1 hi
  obtain ⟨⟨r0, r1, r2, r3, r4⟩, vi, r5, hki⟩ := tree_cells hti
  have HX : Hid (∀ W, Below w.heap.size w W → W.cell? ⟨g1, o1 + 6, none⟩ = some (.int .i64 ks[1].kind) ∧ W.cell? ⟨g1, o1 + 6 + 4, none⟩ = some (.string ks[1].text)) := Lib.hid (fun W hW => ⟨subw_below hW _ _ _ (by simpa using r0), subw_below hW _ _ _ (by simpa using r4)⟩)
  have hiz : (1 : Int) < ks.length := by omega
  have HA := Lib.hid ha
  clear hti hki r0 r1 r2 r3 r4 r5 ha
  generalize ks[1] = y at HX hy
  have HK := Lib.hid hk
  have HI := Lib.hid hI
  have hw : IntKind.i64.wrap (d + 1) = d + 1 := by rw [IntKind.wrap_i64]; omega
  clear hk hI
  have HP0 := Lib.hid (Pg4.new w (.slice a1 z1 c1) (.slice a2 z2 c2) (.slice a3 z3 c3) mn 43)
  have HB0 := Lib.hid (below_then (bl1 w (.cells #[.slice a1 z1 c1, .slice a2 z2 c2, .slice a3 z3 c3, .int .i64 mn] 43)) (bl1 _ (.cells #[.int .i64 11, .int .i64 p, .int .i64 n, .int .i64 l, .string s, .slice a ks.length c] 68)))
  have HP1 := Lib.hid (HP0.out.later (bl1 _ (.cells #[.int .i64 11, .int .i64 p, .int .i64 n, .int .i64 l, .string s, .slice a ks.length c] 68)))
  have HE1 := Six.new (w.alloc (.cells #[.slice a1 z1 c1, .slice a2 z2 c2, .slice a3 z3 c3, .int .i64 mn] 43)) 11 p n l s (.slice a ks.length c) 68
  rw [World.size_alloc] at HE1
  replace HE1 := Lib.hid HE1
  have HC := Lib.hid (fun W => spec_counts 11 p n l s (.slice a ks.length c) W)
  have HL := Lib.hid (fun W => spec_leaf a1 a2 a3 z1 z2 z3 c1 c2 c3 mn sl p n l s (.slice a ks.length c) 11 q1 q2 q3 s0 s1 W)
  rw [hn] at HL
  generalize Co.cLo 11 p = lo at HC q4 q5
  generalize Co.cHi 11 p = hi at HC q5
  clear HP0
  go_enter Tryd.func30, Tryd.ntmps30
  go_wp2_with fail
  refine (HC.out _).mono ?_
  rintro e w1 ⟨rfl, b1⟩
  have B1 := Lib.hid (below_then HB0.out b1)
  have P1 := Lib.hid (HP1.out.later b1)
  have E1 := Lib.hid (HE1.out.later b1)
  clear b1 HC HB0 HP1 HE1
  obtain ⟨p0, p1, p2, p3⟩ := P1.out
  obtain ⟨e0, e1, e2, e3, e4, e5⟩ := E1.out
  go_wp2_with fail
  refine (HL.out _).mono ?_
  rintro e w2 ⟨rfl, b2⟩
  have B2 := Lib.hid (below_then B1.out b2)
  have P2 := Lib.hid (P1.out.later b2)
  have E2 := Lib.hid (E1.out.later b2)
  clear b2 HL B1 P1 E1 p0 p1 p2 p3 e0 e1 e2 e3 e4 e5
  obtain ⟨p0, p1, p2, p3⟩ := P2.out
  obtain ⟨e0, e1, e2, e3, e4, e5⟩ := E2.out
  have ha := HA.out
  subst ha
  obtain ⟨r0, r4⟩ := HX.out _ B2.out
  go_wp2
  go_ret
  exact ⟨rfl, B2.out⟩
set_option maxRecDepth 100000 in
set_option maxHeartbeats 6400000 in
theorem val_r79b (a1 a2 a3 : Option Addr) (z1 z2 z3 c1 c2 c3 : Nat) (mn sl : Int) (q1 : (z1 : Int) ≤ 1048576) (q2 : (z2 : Int) ≤ 1048576) (q3 : (z3 : Int) ≤ 1048576) (s0 : 0 ≤ sl) (s1 : sl ≤ 1048576) (p n l : Int) (s : ByteArray) (a : Option Addr) (ks : List Co.T) (c : Nat) (hz : (ks.length : Int) ≤ 1048576) (zs : (s.size : Int) ≤ 1048576) (d : Int) (d0 : 0 ≤ d) (d1 : d ≤ 1000) (q40 : d ≤ 400) (l0 : 0 ≤ l) (q4 : Co.cLo 11 p ≤ (ks.length : Int)) (q5 : (ks.length : Int) ≤ Co.cHi 11 p) (hn : Co.numOk ⟨sl, z3, z1, z2⟩ 11 n = true) (he : s.toList.isEmpty = true) (hs : (s.size : Int) ≤ 128) (b79 : (p == 79) = true) (b81 : (p == 81) = false) (hi : 1 < ks.length) (hy : (ks[1].kind != 2) = false) (hys : (ks[1].text.size : Int) ≤ 1048576) (hnm : Tk.isName ks[1].text.data.toList = false) (loop : Bool) (made : Bool) (w : World) (hk : Kids w (.slice a ks.length c) ks) (hI : KidsV ⟨sl, z3, z1, z2⟩ (.agg #[.slice a1 z1 c1, .slice a2 z2 c2, .slice a3 z3 c3, .int .i64 mn]) ks (d + 1)) : Calls Tryd.prog 30 #[.agg #[.slice a1 z1 c1, .slice a2 z2 c2, .slice a3 z3 c3, .int .i64 mn], .int .i64 sl, .agg #[.int .i64 11, .int .i64 p, .int .i64 n, .int .i64 l, .string s, .slice a ks.length c], .bool loop, .bool made, .int .i64 d] w (RetV w false) := by
  obtain ⟨g1, o1, ha, hti⟩ := kids_at hk 1 hi
  obtain ⟨⟨r0, r1, r2, r3, r4⟩, vi, r5, hki⟩ := tree_cells hti
  have HX : Hid (∀ W, Below w.heap.size w W → W.cell? ⟨g1, o1 + 6, none⟩ = some (.int .i64 ks[1].kind) ∧ W.cell? ⟨g1, o1 + 6 + 4, none⟩ = some (.string ks[1].text)) := Lib.hid (fun W hW => ⟨subw_below hW _ _ _ (by simpa using r0), subw_below hW _ _ _ (by simpa using r4)⟩)
  have hiz : (1 : Int) < ks.length := by omega
  have HA := Lib.hid ha
  clear hti hki r0 r1 r2 r3 r4 r5 ha
  have HNM := Lib.hid (fun W => spec_name ks[1].text W hys)
  rw [hnm] at HNM
  generalize ks[1] = y at HX hy hys hnm HNM
  have HK := Lib.hid hk
  have HI := Lib.hid hI
  have hw : IntKind.i64.wrap (d + 1) = d + 1 := by rw [IntKind.wrap_i64]; omega
  clear hk hI
  have HP0 := Lib.hid (Pg4.new w (.slice a1 z1 c1) (.slice a2 z2 c2) (.slice a3 z3 c3) mn 43)
  have HB0 := Lib.hid (below_then (bl1 w (.cells #[.slice a1 z1 c1, .slice a2 z2 c2, .slice a3 z3 c3, .int .i64 mn] 43)) (bl1 _ (.cells #[.int .i64 11, .int .i64 p, .int .i64 n, .int .i64 l, .string s, .slice a ks.length c] 68)))
  have HP1 := Lib.hid (HP0.out.later (bl1 _ (.cells #[.int .i64 11, .int .i64 p, .int .i64 n, .int .i64 l, .string s, .slice a ks.length c] 68)))
  have HE1 := Six.new (w.alloc (.cells #[.slice a1 z1 c1, .slice a2 z2 c2, .slice a3 z3 c3, .int .i64 mn] 43)) 11 p n l s (.slice a ks.length c) 68
  rw [World.size_alloc] at HE1
  replace HE1 := Lib.hid HE1
  have HC := Lib.hid (fun W => spec_counts 11 p n l s (.slice a ks.length c) W)
  have HL := Lib.hid (fun W => spec_leaf a1 a2 a3 z1 z2 z3 c1 c2 c3 mn sl p n l s (.slice a ks.length c) 11 q1 q2 q3 s0 s1 W)
  rw [hn] at HL
  generalize Co.cLo 11 p = lo at HC q4 q5
  generalize Co.cHi 11 p = hi at HC q5
  clear HP0
  go_enter Tryd.func30, Tryd.ntmps30
  go_wp2_with fail
  refine (HC.out _).mono ?_
  rintro e w1 ⟨rfl, b1⟩
  have B1 := Lib.hid (below_then HB0.out b1)
  have P1 := Lib.hid (HP1.out.later b1)
  have E1 := Lib.hid (HE1.out.later b1)
  clear b1 HC HB0 HP1 HE1
  obtain ⟨p0, p1, p2, p3⟩ := P1.out
  obtain ⟨e0, e1, e2, e3, e4, e5⟩ := E1.out
  go_wp2_with fail
  refine (HL.out _).mono ?_
  rintro e w2 ⟨rfl, b2⟩
  have B2 := Lib.hid (below_then B1.out b2)
  have P2 := Lib.hid (P1.out.later b2)
  have E2 := Lib.hid (E1.out.later b2)
  clear b2 HL B1 P1 E1 p0 p1 p2 p3 e0 e1 e2 e3 e4 e5
  obtain ⟨p0, p1, p2, p3⟩ := P2.out
  obtain ⟨e0, e1, e2, e3, e4, e5⟩ := E2.out
  have ha := HA.out
  subst ha
  obtain ⟨r0, r4⟩ := HX.out _ B2.out
  go_wp2_with fail
  refine (HNM.out _).mono ?_
  rintro e w3 ⟨rfl, b3⟩
  have B3 := Lib.hid (below_then B2.out b3)
  have P3 := Lib.hid (P2.out.later b3)
  have E3 := Lib.hid (E2.out.later b3)
  clear b3 B2 P2 E2 p0 p1 p2 p3 e0 e1 e2 e3 e4 e5 r0 r4
  obtain ⟨p0, p1, p2, p3⟩ := P3.out
  obtain ⟨e0, e1, e2, e3, e4, e5⟩ := E3.out
  go_wp2
  go_ret
  exact ⟨rfl, B3.out⟩
set_option maxRecDepth 100000 in
set_option maxHeartbeats 6400000 in
theorem val_r81 (a1 a2 a3 : Option Addr) (z1 z2 z3 c1 c2 c3 : Nat) (mn sl : Int) (q1 : (z1 : Int) ≤ 1048576) (q2 : (z2 : Int) ≤ 1048576) (q3 : (z3 : Int) ≤ 1048576) (s0 : 0 ≤ sl) (s1 : sl ≤ 1048576) (p n l : Int) (s : ByteArray) (a : Option Addr) (ks : List Co.T) (c : Nat) (hz : (ks.length : Int) ≤ 1048576) (zs : (s.size : Int) ≤ 1048576) (d : Int) (d0 : 0 ≤ d) (d1 : d ≤ 1000) (q40 : d ≤ 400) (l0 : 0 ≤ l) (q4 : Co.cLo 11 p ≤ (ks.length : Int)) (q5 : (ks.length : Int) ≤ Co.cHi 11 p) (hn : Co.numOk ⟨sl, z3, z1, z2⟩ 11 n = true) (he : s.toList.isEmpty = true) (hs : (s.size : Int) ≤ 128) (b79 : (p == 79) = false) (b81 : (p == 81) = true) (hi : 0 < ks.length) (hy5 : (ks[0].kind != 5) = true) (hy6 : (ks[0].kind != 6) = true) (loop : Bool) (made : Bool) (w : World) (hk : Kids w (.slice a ks.length c) ks) (hI : KidsV ⟨sl, z3, z1, z2⟩ (.agg #[.slice a1 z1 c1, .slice a2 z2 c2, .slice a3 z3 c3, .int .i64 mn]) ks (d + 1)) : Calls Tryd.prog 30 #[.agg #[.slice a1 z1 c1, .slice a2 z2 c2, .slice a3 z3 c3, .int .i64 mn], .int .i64 sl, .agg #[.int .i64 11, .int .i64 p, .int .i64 n, .int .i64 l, .string s, .slice a ks.length c], .bool loop, .bool made, .int .i64 d] w (RetV w false) := by
  obtain ⟨g1, o1, ha, hti⟩ := kids_at hk 0 hi
  obtain ⟨⟨r0, r1, r2, r3, r4⟩, vi, r5, hki⟩ := tree_cells hti
  have HX : Hid (∀ W, Below w.heap.size w W → W.cell? ⟨g1, o1, none⟩ = some (.int .i64 ks[0].kind) ∧ W.cell? ⟨g1, o1 + 4, none⟩ = some (.string ks[0].text)) := Lib.hid (fun W hW => ⟨subw_below hW _ _ _ (by simpa using r0), subw_below hW _ _ _ (by simpa using r4)⟩)
  have hiz : (0 : Int) < ks.length := by omega
  have HA := Lib.hid ha
  clear hti hki r0 r1 r2 r3 r4 r5 ha
  generalize ks[0] = y at HX hy5 hy6
  have HK := Lib.hid hk
  have HI := Lib.hid hI
  have hw : IntKind.i64.wrap (d + 1) = d + 1 := by rw [IntKind.wrap_i64]; omega
  clear hk hI
  have HP0 := Lib.hid (Pg4.new w (.slice a1 z1 c1) (.slice a2 z2 c2) (.slice a3 z3 c3) mn 43)
  have HB0 := Lib.hid (below_then (bl1 w (.cells #[.slice a1 z1 c1, .slice a2 z2 c2, .slice a3 z3 c3, .int .i64 mn] 43)) (bl1 _ (.cells #[.int .i64 11, .int .i64 p, .int .i64 n, .int .i64 l, .string s, .slice a ks.length c] 68)))
  have HP1 := Lib.hid (HP0.out.later (bl1 _ (.cells #[.int .i64 11, .int .i64 p, .int .i64 n, .int .i64 l, .string s, .slice a ks.length c] 68)))
  have HE1 := Six.new (w.alloc (.cells #[.slice a1 z1 c1, .slice a2 z2 c2, .slice a3 z3 c3, .int .i64 mn] 43)) 11 p n l s (.slice a ks.length c) 68
  rw [World.size_alloc] at HE1
  replace HE1 := Lib.hid HE1
  have HC := Lib.hid (fun W => spec_counts 11 p n l s (.slice a ks.length c) W)
  have HL := Lib.hid (fun W => spec_leaf a1 a2 a3 z1 z2 z3 c1 c2 c3 mn sl p n l s (.slice a ks.length c) 11 q1 q2 q3 s0 s1 W)
  rw [hn] at HL
  generalize Co.cLo 11 p = lo at HC q4 q5
  generalize Co.cHi 11 p = hi at HC q5
  clear HP0
  go_enter Tryd.func30, Tryd.ntmps30
  go_wp2_with fail
  refine (HC.out _).mono ?_
  rintro e w1 ⟨rfl, b1⟩
  have B1 := Lib.hid (below_then HB0.out b1)
  have P1 := Lib.hid (HP1.out.later b1)
  have E1 := Lib.hid (HE1.out.later b1)
  clear b1 HC HB0 HP1 HE1
  obtain ⟨p0, p1, p2, p3⟩ := P1.out
  obtain ⟨e0, e1, e2, e3, e4, e5⟩ := E1.out
  go_wp2_with fail
  refine (HL.out _).mono ?_
  rintro e w2 ⟨rfl, b2⟩
  have B2 := Lib.hid (below_then B1.out b2)
  have P2 := Lib.hid (P1.out.later b2)
  have E2 := Lib.hid (E1.out.later b2)
  clear b2 HL B1 P1 E1 p0 p1 p2 p3 e0 e1 e2 e3 e4 e5
  obtain ⟨p0, p1, p2, p3⟩ := P2.out
  obtain ⟨e0, e1, e2, e3, e4, e5⟩ := E2.out
  have ha := HA.out
  subst ha
  obtain ⟨r0, r4⟩ := HX.out _ B2.out
  go_wp2
  go_ret
  exact ⟨rfl, B2.out⟩
end Go.Proofs.YtbadepiakkhabaaDoor.Cr
