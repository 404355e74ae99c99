/- The laws on values: IsWellFormed, IsReference, IntegerValue, StringValue. No conditions. -/
import Derived.Test.YtlbidfegcfcaiaaDoorO2
import Derived.Test.YtlbidfegcfcaiaaDoorO3
namespace Go.Proofs.YtlbidfegcfcaiaaDoor
open Go.RowKit
set_option linter.unusedVariables false

/-- What a function answers: a value and whether there is one. -/
def RetV (w : World) (k n i : Int) (t : ByteArray) (a b : Int) (ok : Bool) (e : Ending) (w' : World) : Prop := e = .returned (.tuple #[vlV k n i t a b, .bool ok]) ∧ Below w.heap.size w w'
abbrev vl0 : Array Value := #[.int .i64 0, .int .i64 0, .int .i64 0, .string ⟨#[]⟩, .int .i64 0, .int .i64 0]
theorem wfd_no (k n i : Int) (t : ByteArray) (a b : Int) (hr : Vl.wf k n i t a b = false) (w : World) : Calls Tryd.prog 17 #[vlV k n i t a b] w (RetV w 0 0 0 ⟨#[]⟩ 0 0 false) := by
  have HI := Lib.hid (fun W => impl_wf k n i t a b W)
  rw [hr] at HI
  clear hr
  unfold RetV
  unfold vlV at HI ⊢
  go_enter Tryd.func17, Tryd.ntmps17
  go_wp2_with fail
  (with_reducible refine (HI.out _).mono ?_)
  rintro e w1 ⟨rfl, b1⟩
  obtain ⟨V1, V2, B1⟩ := two_vars b1
  obtain ⟨d0, g0⟩ := V2 0 _ rfl
  obtain ⟨d1, g1⟩ := V2 1 _ rfl
  obtain ⟨d2, g2⟩ := V2 2 _ rfl
  obtain ⟨d3, g3⟩ := V2 3 _ rfl
  obtain ⟨d4, g4⟩ := V2 4 _ rfl
  obtain ⟨d5, g5⟩ := V2 5 _ rfl
  have HB := Lib.hid B1
  clear V1 V2 B1 b1
  go_wp2
  exact bodyPost_ret (v := .tuple #[vlV 0 0 0 ⟨#[]⟩ 0 0, .bool false]) (by simp [results, Tryd.results17, go_sem, d0, d1, d2, d3, d4, d5]) rfl ⟨rfl, below_set6 HB.out (Nat.le_succ _) _ _ _ _ _ _⟩
theorem wfd_yes (k n i : Int) (t : ByteArray) (a b : Int) (hr : Vl.wf k n i t a b = true) (w : World) : Calls Tryd.prog 17 #[vlV k n i t a b] w (RetV w k n i t a b true) := by
  have HI := Lib.hid (fun W => impl_wf k n i t a b W)
  rw [hr] at HI
  clear hr
  unfold RetV
  unfold vlV at HI ⊢
  go_enter Tryd.func17, Tryd.ntmps17
  go_wp2_with fail
  (with_reducible refine (HI.out _).mono ?_)
  rintro e w1 ⟨rfl, b1⟩
  obtain ⟨V1, V2, B1⟩ := two_vars b1
  obtain ⟨c0, f0⟩ := V1 0 _ rfl
  obtain ⟨c1, f1⟩ := V1 1 _ rfl
  obtain ⟨c2, f2⟩ := V1 2 _ rfl
  obtain ⟨c3, f3⟩ := V1 3 _ rfl
  obtain ⟨c4, f4⟩ := V1 4 _ rfl
  obtain ⟨c5, f5⟩ := V1 5 _ rfl
  obtain ⟨d0, g0⟩ := V2 0 _ rfl
  obtain ⟨d1, g1⟩ := V2 1 _ rfl
  obtain ⟨d2, g2⟩ := V2 2 _ rfl
  obtain ⟨d3, g3⟩ := V2 3 _ rfl
  obtain ⟨d4, g4⟩ := V2 4 _ rfl
  obtain ⟨d5, g5⟩ := V2 5 _ rfl
  have HB := Lib.hid B1
  clear V1 V2 B1 b1
  go_wp2
  exact bodyPost_ret (v := .tuple #[vlV k n i t a b, .bool true]) (by simp [results, Tryd.results17, go_sem, d0, d1, d2, d3, d4, d5]) rfl ⟨rfl, below_set6 HB.out (Nat.le_succ _) _ _ _ _ _ _⟩

/-- An integer of the language. -/
def inInt (n : Int) : Bool := decide (-999999999999 ≤ n) && decide (n ≤ 999999999999)
theorem wf_of_int (n : Int) : Vl.wf 1 n 0 ⟨#[]⟩ 0 0 = inInt n := by
  simp [Vl.wf, Vl.kndF, Vl.numF, Vl.idxF, Vl.txtF, Vl.setF, inInt]
theorem wf_of_text (s : ByteArray) : Vl.wf 2 0 0 s 0 0 = decide ((s.size : Int) ≤ 120) := by
  by_cases h : s.toList = []
  · have hz := empty_size h
    simp [Vl.wf, Vl.kndF, Vl.numF, Vl.idxF, Vl.txtF, Vl.setF, h]
    omega
  · simp [Vl.wf, Vl.kndF, Vl.numF, Vl.idxF, Vl.txtF, Vl.setF, h]
theorem impl_intv_no (n : Int) (hr : inInt n = false) (w : World) : Calls Tryd.prog 7 #[.int .i64 n] w (RetV w 0 0 0 ⟨#[]⟩ 0 0 false) := by
  have HI := Lib.hid (fun W => wfd_no 1 n 0 ⟨#[]⟩ 0 0 ((wf_of_int n).trans hr) W)
  clear hr
  unfold RetV at HI ⊢
  unfold vlV at HI ⊢
  go_enter Tryd.func7, Tryd.ntmps7
  go_wp2_with fail
  (with_reducible refine (HI.out _).mono ?_)
  rintro e w1 ⟨rfl, b1⟩
  have V2 := (Var.new w vl0 28).later b1
  have HB := Lib.hid (below_then (bl1 _ _) b1)
  obtain ⟨d0, g0⟩ := V2 0 _ rfl
  obtain ⟨d1, g1⟩ := V2 1 _ rfl
  obtain ⟨d2, g2⟩ := V2 2 _ rfl
  obtain ⟨d3, g3⟩ := V2 3 _ rfl
  obtain ⟨d4, g4⟩ := V2 4 _ rfl
  obtain ⟨d5, g5⟩ := V2 5 _ rfl
  clear V2 b1
  go_wp2
  exact bodyPost_ret (v := .tuple #[vlV 0 0 0 ⟨#[]⟩ 0 0, .bool false]) (by simp [results, Tryd.results7, go_sem, d0, d1, d2, d3, d4, d5]) rfl ⟨rfl, below_set6 HB.out (Nat.le_refl _) _ _ _ _ _ _⟩
theorem impl_intv_yes (n : Int) (hr : inInt n = true) (w : World) : Calls Tryd.prog 7 #[.int .i64 n] w (RetV w 1 n 0 ⟨#[]⟩ 0 0 true) := by
  have HI := Lib.hid (fun W => wfd_yes 1 n 0 ⟨#[]⟩ 0 0 ((wf_of_int n).trans hr) W)
  clear hr
  unfold RetV at HI ⊢
  unfold vlV at HI ⊢
  go_enter Tryd.func7, Tryd.ntmps7
  go_wp2_with fail
  (with_reducible refine (HI.out _).mono ?_)
  rintro e w1 ⟨rfl, b1⟩
  have V2 := (Var.new w vl0 28).later b1
  have HB := Lib.hid (below_then (bl1 _ _) b1)
  obtain ⟨d0, g0⟩ := V2 0 _ rfl
  obtain ⟨d1, g1⟩ := V2 1 _ rfl
  obtain ⟨d2, g2⟩ := V2 2 _ rfl
  obtain ⟨d3, g3⟩ := V2 3 _ rfl
  obtain ⟨d4, g4⟩ := V2 4 _ rfl
  obtain ⟨d5, g5⟩ := V2 5 _ rfl
  clear V2 b1
  go_wp2
  exact bodyPost_ret (v := .tuple #[vlV 1 n 0 ⟨#[]⟩ 0 0, .bool true]) (by simp [results, Tryd.results7, go_sem, d0, d1, d2, d3, d4, d5]) rfl ⟨rfl, below_set6 HB.out (Nat.le_refl _) _ _ _ _ _ _⟩
end Go.Proofs.YtlbidfegcfcaiaaDoor
