/- The law FnConversions answers true at every code. No conditions. -/
import Derived.Test.YtlbidfegcfcaiaaDoorS3
import Derived.Test.YtlbidfegcfcaiaaDoorS5
import Derived.Test.YtlbidfegcfcaiaaDoorO7
import Derived.Test.YtlbidfegcfcaiaaDoorD4
import Derived.Deep.RegionHeld
namespace Go.Proofs.YtlbidfegcfcaiaaDoor
open Go.RowKit
set_option linter.unusedVariables false

set_option maxHeartbeats 400000 in
theorem draw_intv (v : Value) (n : Nat) (w : World) (hc : Code w.heap.size w v n) (hn : (n : Int) ≤ 1048576) :
    Calls Tryd.prog 6 #[v] w fun e w' => ∃ x : Int, e = .returned (.int .i64 x) ∧ -9223372036854775808 ≤ x ∧ x ≤ 9223372036854775807 ∧ Below w.heap.size w w' := by
  have HN := Lib.hid (draw_new v n w hc hn)
  clear hc
  go_enter Tryd.func6, Tryd.ntmps6
  go_wp2_with fail
  refine HN.out.mono ?_
  rintro e w1 ⟨cb, rfl, hcb, hlt, hcur, hb⟩
  have HW := Lib.hid (draw_whole _ cb w1 hcur hb.size)
  have HB := Lib.hid hb
  clear hcur hb
  go_wp2_with fail
  refine HW.out.mono ?_
  rintro e w2 ⟨x, rfl, hx0, hx1, hc2, ho2⟩
  have HB2 := Lib.hid (HB.out.trans (ho2.below hcb HB.out.size))
  clear hc2 ho2
  go_wp2
  go_ret
  exact ⟨x, rfl, hx0, hx1, HB2.out⟩
theorem fmt_short (n : Int) (h0 : -9223372036854775808 ≤ n) (h1 : n ≤ 9223372036854775807) : ((⟨(Dec.fmt n).toArray⟩ : ByteArray).size : Int) ≤ 120 := by
  have h2 : (Dec.fmt n).length ≤ 21 := by
    unfold Dec.fmt
    have h3 := Dec.digs_lt 20 n.natAbs (Nat.lt_of_le_of_lt (show n.natAbs ≤ 9223372036854775808 by omega) (by decide))
    split
    · simp
    · split
      · simp; omega
      · omega
  have h3 : (⟨(Dec.fmt n).toArray⟩ : ByteArray).size = (Dec.fmt n).length := by simp [ByteArray.size]
  rw [h3]; omega
theorem tr_mk (l : List UInt8) : tr ⟨l.toArray⟩ = Lib.trimB l 32 := by unfold tr; simp
abbrev vC (k n : Int) (s : ByteArray) : Array Value := #[.int .i64 k, .int .i64 n, .int .i64 0, .string s, .int .i64 0, .int .i64 0]
set_option maxRecDepth 100000 in
set_option maxHeartbeats 3200000 in
theorem FnConversions_walk (a0 : Option Addr) (len0 cap0 : Nat) (z0 : List Int) (w : World) (w0 : IsRow .u8 w a0 len0 cap0 z0) :
    Calls Tryd.prog 3 #[.slice a0 len0 cap0] w fun e w' => e = .returned (.bool true) ∧ Below w.heap.size w w' := by
  have HC := Lib.hid (code_of_in w0)
  have hl : (len0 : Int) ≤ 9223372036854775807 := by
    rcases w0 with ⟨_, rfl, _⟩ | ⟨x, _, h1, h2, _⟩
    · omega
    · unfold maxLen at h2; omega
  clear w0
  by_cases hbig : (1048576 : Int) < len0
  · go_enter Tryd.func3, Tryd.ntmps3
    go_wp2
    go_ret
    exact ⟨rfl, Below.refl _ _⟩
  · have hs0 : (len0 : Int) ≤ 1048576 := by omega
    have HD := Lib.hid (draw_intv _ len0 w HC.out hs0)
    go_enter Tryd.func3, Tryd.ntmps3
    go_wp2_with fail
    refine (big_no a0 len0 cap0 _ hs0).mono ?_
    rintro e wz ⟨rfl, rfl⟩
    go_wp2_with fail
    refine HD.out.mono ?_
    rintro e w1 ⟨n, rfl, hn0, hn1, b1⟩
    have B1 := Lib.hid b1
    clear b1 HD HC
    cases hw : inInt n with
    | false =>
      have HI := Lib.hid (fun W => impl_intv_no n hw W)
      have HT := Lib.hid (fun W => impl_totext 0 0 0 ⟨#[]⟩ 0 0 (by decide) (by decide) (by decide) W)
      have e1 : Cv.txt 0 0 ⟨#[]⟩ 0 0 = ⟨#[]⟩ := rfl
      have e2 : Cv.ok 0 0 0 = false := rfl
      rw [e1, e2] at HT
      have HS := Lib.hid (fun W => impl_strv_yes ⟨#[]⟩ (by decide) W)
      have HN := Lib.hid (fun W => impl_toint 2 0 0 ⟨#[]⟩ 0 0 (by decide) (by decide) (by decide) W)
      generalize Cv.intV 2 0 ⟨#[]⟩ 0 0 = x at HN
      generalize Cv.intB 2 0 ⟨#[]⟩ 0 0 = okx at HN
      have hc : n < -999999999999 ∨ (-999999999999 ≤ n ∧ 999999999999 < n) := by
        unfold inInt at hw
        rw [Bool.and_eq_false_iff, decide_eq_false_iff_not, decide_eq_false_iff_not] at hw
        omega
      clear e1 e2 hw
      unfold RetV at HI HS
      unfold RetTx at HT
      unfold RetIB at HN
      unfold vlV at HI HS HT HN
      rcases hc with hc | ⟨hc, hc2⟩
      all_goals
        go_wp2_with fail
        (with_reducible refine (HI.out _).mono ?_)
        rintro e w2 ⟨rfl, b2⟩
        have B2 := Lib.hid (below_then (below_then B1.out b2) (bl1 w2 (.cells (vC 0 0 ⟨#[]⟩) 28)))
        have V2 := Lib.hid (Var.new w2 (vC 0 0 ⟨#[]⟩) 28)
        clear b2
        obtain ⟨c0, _⟩ := V2.out 0 _ rfl
        obtain ⟨c1, _⟩ := V2.out 1 _ rfl
        obtain ⟨c2, _⟩ := V2.out 2 _ rfl
        obtain ⟨c3, _⟩ := V2.out 3 _ rfl
        obtain ⟨c4, _⟩ := V2.out 4 _ rfl
        obtain ⟨c5, _⟩ := V2.out 5 _ rfl
        go_wp2_with fail
        (with_reducible refine (HT.out _).mono ?_)
        rintro e w3 ⟨rfl, b3⟩
        have B3 := Lib.hid (below_then B2.out b3)
        have V3 := Lib.hid (V2.out.later b3)
        clear b3 c0 c1 c2 c3 c4 c5
        go_wp2_with fail
        (with_reducible refine (HS.out _).mono ?_)
        rintro e w4 ⟨rfl, b4⟩
        have B4 := Lib.hid (below_then (below_then B3.out b4) (bl1 w4 (.cells (vC 2 0 ⟨#[]⟩) 28)))
        have V4 := Lib.hid (Var.new w4 (vC 2 0 ⟨#[]⟩) 28)
        clear b4
        obtain ⟨c0, _⟩ := V4.out 0 _ rfl
        obtain ⟨c1, _⟩ := V4.out 1 _ rfl
        obtain ⟨c2, _⟩ := V4.out 2 _ rfl
        obtain ⟨c3, _⟩ := V4.out 3 _ rfl
        obtain ⟨c4, _⟩ := V4.out 4 _ rfl
        obtain ⟨c5, _⟩ := V4.out 5 _ rfl
        go_wp2_with fail
        (with_reducible refine (HN.out _).mono ?_)
        rintro e w5 ⟨rfl, b5⟩
        have B5 := Lib.hid (below_then B4.out b5)
        clear b5 c0 c1 c2 c3 c4 c5
        go_wp2
        go_ret
        exact ⟨rfl, B5.out⟩
    | true =>
      have HI := Lib.hid (fun W => impl_intv_yes n hw W)
      have hc : -999999999999 ≤ n ∧ n ≤ 999999999999 := by
        unfold inInt at hw
        rw [Bool.and_eq_true, decide_eq_true_iff, decide_eq_true_iff] at hw
        exact hw
      obtain ⟨hc1, hc2⟩ := hc
      have HT := Lib.hid (fun W => impl_totext 1 n 0 ⟨#[]⟩ 0 0 (by omega) (by omega) (by decide) W)
      have e1 : Cv.txt 1 n ⟨#[]⟩ 0 0 = ⟨(Dec.fmt n).toArray⟩ := rfl
      have e2 : Cv.ok 1 0 0 = true := rfl
      rw [e1, e2] at HT
      have hs := fmt_short n (by omega) (by omega)
      have hb := fmt_again n hc1 hc2
      have hq := tr_mk (Dec.fmt n)
      rw [← hq] at hb
      clear hq e1 e2
      generalize (⟨(Dec.fmt n).toArray⟩ : ByteArray) = s at HT hs hb
      have HS := Lib.hid (fun W => impl_strv_yes s hs W)
      have HN := Lib.hid (fun W => impl_toint 2 0 0 s 0 0 (by decide) (by decide) (by omega) W)
      have e3 : Cv.intV 2 0 s 0 0 = itV (tr s) := rfl
      have e4 : Cv.intB 2 0 s 0 0 = itB (tr s) := rfl
      rw [e3, e4, hb.1, hb.2] at HN
      have HA := Lib.hid (fun W => impl_wf 1 n 0 ⟨#[]⟩ 0 0 W)
      rw [wf_of_int, hw] at HA
      have HE := Lib.hid (fun W => impl_wf 2 0 0 s 0 0 W)
      rw [wf_of_text, decide_eq_true hs] at HE
      clear e3 e4 hb hs hw
      unfold RetV at HI HS
      unfold RetTx at HT
      unfold RetIB at HN
      unfold vlV at HI HS HT HN HA HE
      go_wp2_with fail
      (with_reducible refine (HI.out _).mono ?_)
      rintro e w2 ⟨rfl, b2⟩
      have B2 := Lib.hid (below_then (below_then B1.out b2) (bl1 w2 (.cells (vC 1 n ⟨#[]⟩) 28)))
      have V2 := Lib.hid (Var.new w2 (vC 1 n ⟨#[]⟩) 28)
      clear b2
      obtain ⟨c0, _⟩ := V2.out 0 _ rfl
      obtain ⟨c1, _⟩ := V2.out 1 _ rfl
      obtain ⟨c2, _⟩ := V2.out 2 _ rfl
      obtain ⟨c3, _⟩ := V2.out 3 _ rfl
      obtain ⟨c4, _⟩ := V2.out 4 _ rfl
      obtain ⟨c5, _⟩ := V2.out 5 _ rfl
      go_wp2_with fail
      (with_reducible refine (HT.out _).mono ?_)
      rintro e w3 ⟨rfl, b3⟩
      have B3 := Lib.hid (below_then B2.out b3)
      have V3 := Lib.hid (V2.out.later b3)
      clear b3 c0 c1 c2 c3 c4 c5
      go_wp2_with fail
      (with_reducible refine (HS.out _).mono ?_)
      rintro e w4 ⟨rfl, b4⟩
      have B4 := Lib.hid (below_then (below_then B3.out b4) (bl1 w4 (.cells (vC 2 0 s) 28)))
      have V4 := Lib.hid (Var.new w4 (vC 2 0 s) 28)
      have V3b := Lib.hid ((V3.out.later b4).later (bl1 w4 (.cells (vC 2 0 s) 28)))
      clear b4
      obtain ⟨c0, _⟩ := V4.out 0 _ rfl
      obtain ⟨c1, _⟩ := V4.out 1 _ rfl
      obtain ⟨c2, _⟩ := V4.out 2 _ rfl
      obtain ⟨c3, _⟩ := V4.out 3 _ rfl
      obtain ⟨c4, _⟩ := V4.out 4 _ rfl
      obtain ⟨c5, _⟩ := V4.out 5 _ rfl
      go_wp2_with fail
      (with_reducible refine (HN.out _).mono ?_)
      rintro e w5 ⟨rfl, b5⟩
      have B5 := Lib.hid (below_then B4.out b5)
      have V5 := Lib.hid (V3b.out.later b5)
      have U5 := Lib.hid (V4.out.later b5)
      clear b5 c0 c1 c2 c3 c4 c5 V2 V3 V4 V3b B1 B2 B3 B4
      obtain ⟨c0, _⟩ := V5.out 0 _ rfl
      obtain ⟨c1, _⟩ := V5.out 1 _ rfl
      obtain ⟨c2, _⟩ := V5.out 2 _ rfl
      obtain ⟨c3, _⟩ := V5.out 3 _ rfl
      obtain ⟨c4, _⟩ := V5.out 4 _ rfl
      obtain ⟨c5, _⟩ := V5.out 5 _ rfl
      go_wp2_with fail
      (with_reducible refine (HA.out _).mono ?_)
      rintro e w6 ⟨rfl, b6⟩
      have B6 := Lib.hid (below_then B5.out b6)
      have U6 := Lib.hid (U5.out.later b6)
      clear b6 c0 c1 c2 c3 c4 c5
      obtain ⟨c0, _⟩ := U6.out 0 _ rfl
      obtain ⟨c1, _⟩ := U6.out 1 _ rfl
      obtain ⟨c2, _⟩ := U6.out 2 _ rfl
      obtain ⟨c3, _⟩ := U6.out 3 _ rfl
      obtain ⟨c4, _⟩ := U6.out 4 _ rfl
      obtain ⟨c5, _⟩ := U6.out 5 _ rfl
      go_wp2_with fail
      (with_reducible refine (HE.out _).mono ?_)
      rintro e w7 ⟨rfl, b7⟩
      have B7 := Lib.hid (below_then B6.out b7)
      clear b7
      go_wp2
      go_ret
      exact ⟨rfl, B7.out⟩
end Go.Proofs.YtlbidfegcfcaiaaDoor
