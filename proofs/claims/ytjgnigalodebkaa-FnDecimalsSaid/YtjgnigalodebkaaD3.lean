/- The reference model's draws of an integer, and of a text and a letter. -/
import Derived.Test.YtjgnigalodebkaaD4
namespace Go.Proofs.Ytjgnigalodebkaa
open Go.RowKit
set_option linter.unusedVariables false

set_option maxHeartbeats 400000 in
theorem draw_format (v : Value) (n : Nat) (w : World) (hc : Code w.heap.size w v n) (hn : (n : Int) ≤ 1048576) :
    Calls Try.prog 9 #[v] w fun e w' => ∃ x : Int, e = .returned (.int .i64 x) ∧ -9223372036854775808 ≤ x ∧ x ≤ 9223372036854775807 ∧ Below w.heap.size w w' := by
  have HN := Lib.hid (draw_new v n w hc hn)
  clear hc
  go_enter Try.func9, Try.ntmps9
  go_wp2_with fail
  refine HN.out.mono ?_
  rintro e w1 ⟨cb, rfl, hcb, hlt, hcur, hb⟩
  have HW := Lib.hid (draw_whole _ cb w1 hcur hb.size)
  have HB := Lib.hid hb
  clear hcur hb
  go_wp2_with fail
  refine HW.out.mono ?_
  rintro e w2 ⟨x, rfl, hx0, hx1, hc2, ho2⟩
  have HB2 := Lib.hid (HB.out.trans (ho2.below hcb HB.out.size))
  clear hc2 ho2
  go_wp2
  go_ret
  exact ⟨x, rfl, hx0, hx1, HB2.out⟩

/-- A short text and a letter are drawn. -/
def DrawnPart (w : World) (e : Ending) (w' : World) : Prop := ∃ (s : ByteArray) (b : Int), e = .returned (.tuple #[.string s, .int .u8 b]) ∧ s.size ≤ 20 ∧ 0 ≤ b ∧ b ≤ 255 ∧ Below w.heap.size w w'

set_option maxHeartbeats 400000 in
theorem draw_split (v : Value) (n : Nat) (w : World) (hc : Code w.heap.size w v n) (hn : (n : Int) ≤ 1048576) :
    Calls Try.prog 10 #[v] w (DrawnPart w) := by
  have HN := Lib.hid (draw_new v n w hc hn)
  clear hc
  go_enter Try.func10, Try.ntmps10
  go_wp2_with fail
  refine HN.out.mono ?_
  rintro e w1 ⟨cb, rfl, hcb, hlt, hcur, hb⟩
  have HCur := Lib.hid hcur
  have HB := Lib.hid hb
  have hB1 := hb.size
  clear hcur hb
  go_wp2_with fail
  refine (pick_text _ cb w1.heap.size 6 [⟨#[]⟩, ⟨#[97]⟩, ⟨#[97, 44, 98]⟩, ⟨#[44]⟩, ⟨#[97, 44, 44, 98, 44]⟩, ⟨#[97, 10, 98, 10]⟩] _ (cur_alloc HCur.out hB1 _) (by decide) (by decide) (by omega) (new_cells Value.string _ ByteArray.empty w1 _ _ rfl)).mono ?_
  rintro e w2 ⟨s, hs, rfl, hc2, ho2⟩
  have HC2 := Lib.hid hc2
  have HB2 := Lib.hid (HB.out.trans ((((Below.refl _ _).alloc hB1 _)).trans (ho2.below hcb (by simp; omega))))
  have hB2 := HB2.out.size
  have hcl := cur_lt hc2
  have HS : Hid (s.size ≤ 20) := by
    simp only [List.mem_cons, List.not_mem_nil, or_false] at hs
    rcases hs with rfl | rfl | rfl | rfl | rfl | rfl <;> (show _ ≤ _; decide)
  clear hs hc2 ho2
  go_wp2_with fail
  refine (pick_int _ cb w2.heap.size 2 [44, 10] _ (cur_alloc HC2.out hB2 _) (by decide) (by decide) (by omega) (new_cells (Value.int .i64) _ 0 w2 _ _ rfl)).mono ?_
  rintro e w3 ⟨y, hy, rfl, hc3, ho3⟩
  have HB3 := Lib.hid (HB2.out.trans ((((Below.refl _ _).alloc hB2 _)).trans (ho3.below hcb (by simp; omega))))
  obtain ⟨hy0, hy1⟩ : 0 ≤ y ∧ y ≤ 255 := by
    simp only [List.mem_cons, List.not_mem_nil, or_false] at hy
    omega
  clear hy hc3 ho3
  go_wp2
  go_ret2
  exact ⟨s, y, rfl, HS.out, hy0, hy1, HB3.out⟩
end Go.Proofs.Ytjgnigalodebkaa
