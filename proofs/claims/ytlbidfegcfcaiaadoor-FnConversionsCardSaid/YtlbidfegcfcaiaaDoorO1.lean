/- Values: what a value is, the laws' helpers. No conditions. -/
import Derived.Test.YtlbidfegcfcaiaaDoorC2
import Derived.Test.YtlbidfegcfcaiaaDoorT1
import Derived.Test.YtlbidfegcfcaiaaDoorU0
import Derived.BigQuiet
namespace Go.Proofs.YtlbidfegcfcaiaaDoor
open Go.RowKit
set_option linter.unusedVariables false

abbrev vlV (k n i : Int) (t : ByteArray) (a b : Int) : Value := .agg #[.int .i64 k, .int .i64 n, .int .i64 i, .string t, .int .i64 a, .int .i64 b]
abbrev vlL (k n i : Int) (t : ByteArray) (a b : Int) : List Value := [.int .i64 k, .int .i64 n, .int .i64 i, .string t, .int .i64 a, .int .i64 b]
/-- The fields of a value, by its kind. -/
def Vl.numF (k n : Int) : Bool := if k = 1 then decide (-999999999999 ≤ n) && decide (n ≤ 999999999999) else if k = 0 ∨ k = 2 ∨ k = 3 ∨ k = 14 ∨ k = 18 then decide (n = 0) else decide (0 ≤ n)
def Vl.idxF (k i : Int) : Bool := if k = 13 ∨ k = 14 ∨ k = 15 ∨ k = 16 then decide (0 ≤ i) else if k = 18 then decide (i = 1) || decide (i = 2) else decide (i = 0)
def Vl.txtF (k : Int) (t : ByteArray) : Bool := t.toList.isEmpty || (decide (k = 2) && decide ((t.size : Int) ≤ 120))
def Vl.setF (k a b : Int) : Bool := decide (k = 3) || (decide (a = 0) && decide (b = 0))
def Vl.kndF (k : Int) : Bool := decide (0 ≤ k) && decide (k ≤ 20)
/-- A value that is well-formed. -/
def Vl.wf (k n i : Int) (t : ByteArray) (a b : Int) : Bool := Vl.kndF k && (Vl.numF k n && (Vl.idxF k i && (Vl.txtF k t && Vl.setF k a b)))
theorem vl_eb {a b : Bool} (h : a = b) : Ending.returned (.bool a) = .returned (.bool b) := by rw [h]

theorem three_vars {w w1 : World} {A B C : Array Value} {T1 T2 T3 : TypeId} (b1 : Below (((w.alloc (.cells A T1)).alloc (.cells B T2)).alloc (.cells C T3)).heap.size (((w.alloc (.cells A T1)).alloc (.cells B T2)).alloc (.cells C T3)) w1) : Var w1 (w.heap.size + 1) B.toList ∧ Var w1 (w.heap.size + 1 + 1) C.toList ∧ Below w.heap.size w w1 := by
  have e1 : (w.alloc (.cells A T1)).heap.size = w.heap.size + 1 := World.size_alloc _ _
  have e2 : ((w.alloc (.cells A T1)).alloc (.cells B T2)).heap.size = w.heap.size + 1 + 1 := by rw [World.size_alloc, e1]
  refine ⟨?_, ?_, below_then (bl3 _ _ _ _) b1⟩
  · rw [← e1]; exact ((Var.new (w.alloc (.cells A T1)) B T2).later (bl1 _ _)).later b1
  · rw [← e2]; exact (Var.new _ C T3).later b1
theorem two_vars {w w1 : World} {A B : Array Value} {T1 T2 : TypeId} (b1 : Below ((w.alloc (.cells A T1)).alloc (.cells B T2)).heap.size ((w.alloc (.cells A T1)).alloc (.cells B T2)) w1) : Var w1 w.heap.size A.toList ∧ Var w1 (w.heap.size + 1) B.toList ∧ Below w.heap.size w w1 := by
  have e1 : (w.alloc (.cells A T1)).heap.size = w.heap.size + 1 := World.size_alloc _ _
  refine ⟨((Var.new w A T1).later (bl1 _ _)).later b1, ?_, below_then (bl2 _ _ _) b1⟩
  rw [← e1]; exact (Var.new _ B T2).later b1
theorem below_set6 {B g : Nat} {w0 w : World} (h : Below B w0 w) (hg : B ≤ g) (u0 u1 u2 u3 u4 u5 : Value) : Below B w0 ((((((w.setCell ⟨g, 0, none⟩ u0).setCell ⟨g, 1, none⟩ u1).setCell ⟨g, 2, none⟩ u2).setCell ⟨g, 3, none⟩ u3).setCell ⟨g, 4, none⟩ u4).setCell ⟨g, 5, none⟩ u5) :=
  (((((h.setCell (p := ⟨g, 0, none⟩) hg _).setCell (p := ⟨g, 1, none⟩) hg _).setCell (p := ⟨g, 2, none⟩) hg _).setCell (p := ⟨g, 3, none⟩) hg _).setCell (p := ⟨g, 4, none⟩) hg _).setCell (p := ⟨g, 5, none⟩) hg _
set_option maxHeartbeats 800000 in
theorem to_val (k n i : Int) (t : ByteArray) (a b : Int) (w : World) : Calls Tryd.prog 14 #[vlV k n i t a b] w fun e w' => e = .returned (vlV k n i t a b) ∧ Below w.heap.size w w' := by
  unfold vlV
  have HC := Lib.hid (fun W => to_set a b W)
  unfold RetSet at HC
  go_enter Tryd.func14, Tryd.ntmps14
  go_wp2_with fail
  (with_reducible refine (HC.out _).mono ?_)
  rintro e w1 ⟨rfl, b1⟩
  obtain ⟨V2, V3, b0⟩ := three_vars b1
  have B1 := Lib.hid b0
  obtain ⟨c0, f0⟩ := V2 0 _ rfl
  obtain ⟨c1, f1⟩ := V2 1 _ rfl
  obtain ⟨c2, f2⟩ := V2 2 _ rfl
  obtain ⟨c3, f3⟩ := V2 3 _ rfl
  obtain ⟨c4, f4⟩ := V2 4 _ rfl
  obtain ⟨c5, f5⟩ := V2 5 _ rfl
  obtain ⟨d0, g0⟩ := V3 0 _ rfl
  obtain ⟨d1, g1⟩ := V3 1 _ rfl
  obtain ⟨d2, g2⟩ := V3 2 _ rfl
  obtain ⟨d3, g3⟩ := V3 3 _ rfl
  obtain ⟨d4, g4⟩ := V3 4 _ rfl
  obtain ⟨d5, g5⟩ := V3 5 _ rfl
  clear V2 V3 b1 b0
  go_wp2
  exact bodyPost_ret (v := vlV k n i t a b) (by simp [results, Tryd.results14, go_sem, c0, c1, c2, c3, c4, c5]) rfl ⟨rfl, below_set6 ((B1.out.setCell (p := ⟨w.heap.size + 1 + 1, 4, none⟩) (by show w.heap.size ≤ _ + 1 + 1; omega) _).setCell (p := ⟨w.heap.size + 1 + 1, 5, none⟩) (by show w.heap.size ≤ _ + 1 + 1; omega) _) (Nat.le_succ _) _ _ _ _ _ _⟩
theorem sz_val (k n i : Int) (t : ByteArray) (a b : Int) (w : World) (hs : t.size ≤ maxLen) : Calls Tryd.prog 12 #[vlV k n i t a b, .int .i64 1048576] w fun e w' => e = .returned (.int .i64 (if (t.size : Int) ≤ 1048576 then 1048576 - t.size else -1)) ∧ Below w.heap.size w w' := by
  unfold vlV
  have hm : (t.size : Int) ≤ 9223372036854775807 := by unfold maxLen at hs; omega
  by_cases h : (t.size : Int) ≤ 1048576
  · rw [if_pos h]
    go_enter Tryd.func12, Tryd.ntmps12
    go_wp2
    go_ret
    exact ⟨rfl, bl1 _ _⟩
  · rw [if_neg h]
    go_enter Tryd.func12, Tryd.ntmps12
    go_wp2
    go_ret
    exact ⟨rfl, bl1 _ _⟩
end Go.Proofs.YtlbidfegcfcaiaaDoor
