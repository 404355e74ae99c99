/- The law FnExactSplitByte answers true at every string and byte. No conditions. -/
import Derived.Test.YtmaahoanlgjpgaaW7
import Derived.Test.YtmaahoanlgjpgaaW8
namespace Go.Proofs.Ytmaahoanlgjpgaa
open Go.RowKit
set_option linter.unusedVariables false

/-- What is owned stays so where only blocks from a later base on are written. -/
theorem owns_far {w w0 w1 : World} {base B : Nat} {v : Value} {l : List ByteArray} (h : Owns w0 base v l) (hB : w0.heap.size ≤ B) (h1 : Owns w base v l) (hb : Below B w w1) : Owns w1 base v l := by
  refine ⟨h1.1, ?_⟩
  rcases h1.2 with hn | ⟨g, cap, cur, hv, hg, hgg, r⟩
  · exact .inl hn
  · subst hv
    exact .inr ⟨g, cap, cur, rfl, hg, by rw [hb.block g (Nat.lt_of_lt_of_le (h.lt g rfl).2 hB)]; exact hgg, r⟩

set_option maxHeartbeats 800000 in
theorem FnExactSplitByte_walk (a0 : ByteArray) (a1 : Int) (w0 : a0.size ≤ maxLen) (w1 : (Lit.int .u8 a1).wf = true) (w : World) :
    Calls Try.prog 7 #[.string a0, .int .u8 a1] w fun e w' => e = .returned (.bool true) ∧ Below w.heap.size w w' := by
  obtain ⟨hb0, hb1⟩ : 0 ≤ a1 ∧ a1 ≤ 255 := by simpa [Lit.wf, IntKind.min, IntKind.max, IntKind.signed, IntKind.bits] using w1
  clear w1
  by_cases hlen : (1048576 : Int) < a0.size
  · go_enter Try.func7, Try.ntmps7
    go_wp2
    go_ret
    exact ⟨rfl, Below.refl _ _⟩
  · have hs : (a0.size : Int) ≤ 1048576 := by omega
    have hL := Cut.all_len a0 a1
    generalize hl : Cut.all a0 a1 = l at *
    have hS : ∀ W, Calls Try.prog 20 #[.string a0, .int .u8 a1] W fun e w' => ∃ v, e = .returned v ∧ Owns w' W.heap.size v l ∧ Below W.heap.size W w' := fun W => by rw [← hl]; exact spec_split a0 a1 W hs hb0 hb1
    have hI : ∀ W, Calls Try.prog 15 #[.string a0, .int .u8 a1] W fun e w' => ∃ v, e = .returned v ∧ Owns w' W.heap.size v l ∧ Below W.heap.size W w' := fun W => by rw [← hl]; exact impl_split a0 a1 W hs hb0 hb1
    have HS := Lib.hid hS
    have HI := Lib.hid hI
    clear hS hI hl
    have hl2 : l.length ≤ 1048577 := by omega
    go_enter Try.func7, Try.ntmps7
    go_wp2_with fail
    refine (HS.out _).mono ?_
    rintro e wa ⟨va, rfl, oa, ba⟩
    have OA := Lib.hid oa
    have BA := Lib.hid ba
    clear oa ba
    go_wp2_with fail
    refine (HI.out _).mono ?_
    rintro e wb ⟨vb, rfl, ob, bb⟩
    have OA1 := Lib.hid (owns_below OA.out bb)
    have BB := Lib.hid (BA.out.trans (bb.mono BA.out.size))
    have OB := Lib.hid ob
    have S1 := Lib.hid bb.size
    clear ob bb
    go_wp2_with fail
    refine (eq_strs vb va l _ (reads_of_owns OB.out) (reads_of_owns OA1.out)).mono ?_
    rintro e wc ⟨rfl, bc⟩
    have OA2 := Lib.hid (owns_below OA1.out bc)
    have OB2 := Lib.hid (owns_below OB.out bc)
    have BC := Lib.hid (BB.out.trans (bc.mono BB.out.size))
    have S2 := Lib.hid (Nat.le_trans S1.out bc.size)
    clear bc
    go_wp2_with fail
    refine (mark_strs vb l _ _ OB2.out S2.out hl2).mono ?_
    rintro e wd ⟨rfl, od, bd⟩
    have OA3 := Lib.hid (owns_far OA.out (Nat.le_refl _) OA2.out bd)
    have BD := Lib.hid (BC.out.trans (bd.mono BA.out.size))
    have OB3 := Lib.hid od
    clear od bd
    go_wp2_with fail
    have R3 := reads_of_owns OB3.out
    refine (held_strs vb l.length _ R3 hl2).mono ?_
    rintro e we ⟨rfl, be⟩
    clear R3
    have OA4 := Lib.hid (owns_below OA3.out be)
    have OB4 := Lib.hid (owns_below OB3.out be)
    have BE := Lib.hid (BD.out.trans (be.mono BD.out.size))
    clear be
    go_wp2_with fail
    refine (HI.out _).mono ?_
    rintro e wf ⟨vf, rfl, of, bf⟩
    have OA5 := Lib.hid (owns_below OA4.out bf)
    have OB5 := Lib.hid (owns_below OB4.out bf)
    have BF := Lib.hid (BE.out.trans (bf.mono BE.out.size))
    have OF := Lib.hid of
    clear of bf
    go_wp2_with fail
    refine (eq_strs vf va l _ (reads_of_owns OF.out) (reads_of_owns OA5.out)).mono ?_
    rintro e wg ⟨rfl, bg⟩
    have OB6 := Lib.hid (owns_below OB5.out bg)
    have BG := Lib.hid (BF.out.trans (bg.mono BF.out.size))
    clear bg
    go_wp2_with fail
    have R6 := reads_of_owns OB6.out
    refine (held_strs vb l.length _ R6 hl2).mono ?_
    rintro e wh ⟨rfl, bh⟩
    clear R6
    have BH := Lib.hid (BG.out.trans (bh.mono BG.out.size))
    clear bh
    go_wp2
    go_ret
    exact ⟨rfl, BH.out⟩
end Go.Proofs.Ytmaahoanlgjpgaa
