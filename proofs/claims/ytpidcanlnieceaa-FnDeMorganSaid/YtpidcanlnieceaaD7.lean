/- The reference model's draw of two sets. -/
import Derived.Test.YtpidcanlnieceaaD6
namespace Go.Proofs.Ytpidcanlnieceaa
open Go.RowKit
set_option linter.unusedVariables false

/-- Two sets are drawn. -/
def DrawnTwo (w : World) (e : Ending) (w' : World) : Prop := ∃ a b c d : Int, e = .returned (.tuple #[.agg #[.int .i64 a, .int .i64 b], .agg #[.int .i64 c, .int .i64 d]]) ∧ (Cs.Fits a ∧ Cs.Fits b) ∧ (Cs.Fits c ∧ Cs.Fits d) ∧ Below w.heap.size w w'

theorem code_later {B B' : Nat} {w : World} {v : Value} {n : Nat} (h : Code B w v n) (hB : B ≤ B') : Code B' w v n := by
  rcases h with h | ⟨g, off, c, hv, hg, r⟩
  · exact .inl h
  · exact .inr ⟨g, off, c, hv, Nat.lt_of_lt_of_le hg hB, r⟩

set_option maxHeartbeats 800000 in
theorem draw_two (v : Value) (n : Nat) (w : World) (hc : Code w.heap.size w v n) (hn : (n : Int) ≤ 1048576) :
    Calls Try.prog 14 #[v] w (DrawnTwo w) := by
  obtain ⟨w0, hw0⟩ : ∃ w0, w0 = (w.alloc (.cells #[.int .i64 0, .int .i64 0] 25)).alloc (.cells #[.int .i64 0, .int .i64 0] 25) := ⟨_, rfl⟩
  have hsz : w0.heap.size = w.heap.size + 1 + 1 := by rw [hw0]; simp
  have hf := NewAt.start w 25
  rw [← hw0] at hf
  have hb0 : Below w.heap.size w w0 := by rw [hw0]; exact bl2 _ _ _
  have HC := Lib.hid (draw_new v n w0 (code_later (code_below hc hb0) (by omega)) hn)
  have HF := Lib.hid hf
  have HW0 := Lib.hid hw0
  rw [hw0] at HC
  clear hf hb0 hc hw0
  have HZ := Lib.hid hsz
  clear hsz
  go_enter Try.func14, Try.ntmps14
  go_wp2_with fail
  refine HC.out.mono ?_
  rw [← HW0.out]
  rintro e w1 ⟨cb, rfl, hcb, hlt, hcur, hb1⟩
  have HF1 := Lib.hid (HF.out.later hb1)
  have HS := Lib.hid (draw_set w0.heap.size cb w1 hcur hb1.size)
  have hne1 : w.heap.size ≠ cb := by have := HZ.out; omega
  have hne2 : w.heap.size + 1 ≠ cb := by have := HZ.out; omega
  have hlc : w.heap.size ≤ cb := by have := HZ.out; omega
  have hz1 := hb1.size
  clear hcur hb1
  go_wp2_with fail
  refine HS.out.mono ?_
  rintro e w2 ⟨a, b, rfl, hab, hc2, ho2⟩
  have HF2 := Lib.hid (show FreeSet w2 w.heap.size 0 0 ∧ FreeSet w2 (w.heap.size + 1) 0 0 ∧ Below w.heap.size w w2 from ⟨HF1.out.1.only ho2 hne1, HF1.out.2.1.only ho2 hne2, HF1.out.2.2.trans (ho2.below (by omega) HF1.out.2.2.size)⟩)
  have HS2 := Lib.hid (draw_set w0.heap.size cb w2 hc2 (Nat.le_trans hz1 ho2.size))
  clear hc2 ho2 HS
  go_wp2_with fail
  refine HS2.out.mono ?_
  rintro e w3 ⟨c, d, rfl, hcd, hc3, ho3⟩
  have HF3 := Lib.hid (show FreeSet w3 w.heap.size 0 0 ∧ FreeSet w3 (w.heap.size + 1) 0 0 ∧ Below w.heap.size w w3 from ⟨HF2.out.1.only ho3 hne1, HF2.out.2.1.only ho3 hne2, HF2.out.2.2.trans (ho3.below (by omega) HF2.out.2.2.size)⟩)
  obtain ⟨⟨⟨r0, r1⟩, r2, r3⟩, ⟨⟨s0, s1⟩, s2, s3⟩, _⟩ := HF3.out
  clear hc3 ho3 HS2
  go_wp2
  exact bodyPost_ret (v := .tuple #[.agg #[.int .i64 a, .int .i64 b], .agg #[.int .i64 c, .int .i64 d]]) (by simp [results, Try.results14, go_sem, r0, r1, s0, s1]) rfl ⟨a, b, c, d, rfl, hab, hcd, below_store (below_store HF3.out.2.2 (Nat.le_refl _) _ _) (by omega) _ _⟩
end Go.Proofs.Ytpidcanlnieceaa
