/- The law on ToText. No conditions. -/
import Derived.Test.YtlbidfegcfcaiaaS1
namespace Go.Proofs.Ytlbidfegcfcaiaa
open Go.RowKit
set_option linter.unusedVariables false

theorem int_bounds {n : Int} (h : (Lit.int .i64 n).wf = true) : -9223372036854775808 ≤ n ∧ n ≤ 9223372036854775807 := by
  simpa [Lit.wf, IntKind.min, IntKind.max, IntKind.signed, IntKind.bits] using h
theorem FnExactToText_walk (k n i : Int) (t : ByteArray) (a b : Int) (wk : (Lit.int .i64 k).wf = true) (wn : (Lit.int .i64 n).wf = true) (wi : (Lit.int .i64 i).wf = true) (wt : t.size ≤ maxLen) (w : World) : Calls Try.prog 3 #[vlV k n i t a b] w fun e w' => e = .returned (.bool true) ∧ Below w.heap.size w w' := by
  obtain ⟨hn0, hn1⟩ := int_bounds wn
  clear wk wn wi
  have HZ := Lib.hid (fun W => sz_val k n i t a b W wt)
  have HT := Lib.hid (fun W => to_val k n i t a b W)
  have V0 := Lib.hid (Var.new w #[.int .i64 k, .int .i64 n, .int .i64 i, .string t, .int .i64 a, .int .i64 b] 25)
  by_cases h : (t.size : Int) ≤ 1048576
  · have HS := Lib.hid (fun W => spec_totext k n i t a b hn0 hn1 W)
    have HI := Lib.hid (fun W => impl_totext k n i t a b hn0 hn1 (by omega) W)
    generalize Cv.txt k n t a b = s at HS HI
    generalize Cv.ok k a b = ok at HS HI
    rw [if_pos h] at HZ
    have hm : ¬ (1048576 - (t.size : Int)) < 0 := by omega
    unfold RetTx at HS HI
    clear hn0 hn1
    unfold vlV at HZ HT HS HI ⊢
    go_enter Try.func3, Try.ntmps3
    go_wp2_with fail
    (with_reducible refine (HZ.out _).mono ?_)
    rintro e w1 ⟨rfl, b1⟩
    have B1 := Lib.hid (below_then (bl1 _ _) b1)
    have V1 := Lib.hid (V0.out.later b1)
    clear b1
    obtain ⟨c0, _⟩ := V1.out 0 _ rfl
    obtain ⟨c1, _⟩ := V1.out 1 _ rfl
    obtain ⟨c2, _⟩ := V1.out 2 _ rfl
    obtain ⟨c3, _⟩ := V1.out 3 _ rfl
    obtain ⟨c4, _⟩ := V1.out 4 _ rfl
    obtain ⟨c5, _⟩ := V1.out 5 _ rfl
    go_wp2_with fail
    (with_reducible refine (HT.out _).mono ?_)
    rintro e w2 ⟨rfl, b2⟩
    have B2 := Lib.hid (below_then B1.out b2)
    have V2 := Lib.hid (V1.out.later b2)
    clear b2 c0 c1 c2 c3 c4 c5
    go_wp2_with fail
    (with_reducible refine (HS.out _).mono ?_)
    rintro e w3 ⟨rfl, b3⟩
    have B3 := Lib.hid (below_then B2.out b3)
    have V3 := Lib.hid (V2.out.later b3)
    clear b3
    obtain ⟨c0, _⟩ := V3.out 0 _ rfl
    obtain ⟨c1, _⟩ := V3.out 1 _ rfl
    obtain ⟨c2, _⟩ := V3.out 2 _ rfl
    obtain ⟨c3, _⟩ := V3.out 3 _ rfl
    obtain ⟨c4, _⟩ := V3.out 4 _ rfl
    obtain ⟨c5, _⟩ := V3.out 5 _ rfl
    go_wp2_with fail
    (with_reducible refine (HT.out _).mono ?_)
    rintro e w4 ⟨rfl, b4⟩
    have B4 := Lib.hid (below_then B3.out b4)
    clear b4 c0 c1 c2 c3 c4 c5
    go_wp2_with fail
    (with_reducible refine (HI.out _).mono ?_)
    rintro e w5 ⟨rfl, b5⟩
    have B5 := Lib.hid (below_then B4.out b5)
    clear b5
    go_wp2
    all_goals go_ret
    all_goals exact ⟨rfl, B5.out⟩
  · rw [if_neg h] at HZ
    clear hn0 hn1
    unfold vlV at HZ HT ⊢
    go_enter Try.func3, Try.ntmps3
    go_wp2_with fail
    (with_reducible refine (HZ.out _).mono ?_)
    rintro e w1 ⟨rfl, b1⟩
    have B1 := Lib.hid (below_then (bl1 _ _) b1)
    clear b1
    go_wp2
    go_ret
    exact ⟨rfl, B1.out⟩
end Go.Proofs.Ytlbidfegcfcaiaa
