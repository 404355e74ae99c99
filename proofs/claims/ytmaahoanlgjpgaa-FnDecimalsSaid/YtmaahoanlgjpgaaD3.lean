/- The reference model's draws of an integer, and of a text and a letter. -/
import Derived.Test.YtmaahoanlgjpgaaD2
namespace Go.Proofs.Ytmaahoanlgjpgaa
open Go.RowKit
set_option linter.unusedVariables false

/-- The cells of a new block. -/
theorem new_cells {α : Type} (mk : α → Value) (l : List α) (d : α) (w : World) (t : TypeId) (arr : Array Value) (ha : arr = (l.map mk).toArray) : ∀ i, i < l.length → (w.alloc (.cells arr t)).cell? ⟨w.heap.size, i, none⟩ = some (mk (l.getD i d)) := by
  intro i hi
  subst ha
  rw [World.cell?_alloc_mark]
  simp [List.getD, List.getElem?_eq_getElem hi]

theorem only_alloc {cb : Nat} {w : World} (o : Obj) : Only cb w (w.alloc o) := ⟨rfl, rfl, rfl, by simp, fun k hk _ => Below.heap_alloc _ _ _ hk⟩
theorem cur_alloc {B cb : Nat} {w : World} (h : IsCur B w cb) (hB : B ≤ w.heap.size) (o : Obj) : IsCur B (w.alloc o) cb := cur_below h hB ((Below.refl _ _).alloc (Nat.le_refl _) o)
theorem cur_lt {B cb : Nat} {w : World} (h : IsCur B w cb) : cb < w.heap.size := by
  obtain ⟨v, n, i, h, hcb, hc, hh⟩ := h
  exact (Array.getElem?_eq_some_iff.1 hh).1

/-- An integer of 64 bits is drawn. -/
def DrawnInt (B cb : Nat) (w : World) (e : Ending) (w' : World) : Prop := ∃ x : Int, e = .returned (.int .i64 x) ∧ -9223372036854775808 ≤ x ∧ x ≤ 9223372036854775807 ∧ IsCur B w' cb ∧ Only cb w w'

set_option maxHeartbeats 400000 in
theorem draw_whole (B cb : Nat) (w : World) (hp : IsCur B w cb) (hB : B ≤ w.heap.size) :
    Calls Try.prog 27 #[.pointer (some ⟨cb, 0, none⟩)] w (DrawnInt B cb w) := by
  have HB := Lib.hid (draw_below B cb 3 w hp (by omega) (by omega))
  clear hp
  go_enter Try.func27, Try.ntmps27
  go_wp2_with fail
  refine HB.out.mono ?_
  rintro e w1 ⟨x, rfl, hx0, hx1, hcur, ho⟩
  have HCur := Lib.hid hcur
  have HO := Lib.hid ho
  have hB1 : B ≤ w1.heap.size := Nat.le_trans hB ho.size
  have hcb := cur_lt hcur
  clear hcur ho
  by_cases h0 : x = 0
  · have hx : (x == 0) = true := by simpa using h0
    subst h0
    go_wp2_with fail
    refine (pick_int B cb w1.heap.size 12 [0, 1, -1, 9, 10, 999999, 1000000, 999999999999, 1000000000000, -999999999999, 9223372036854775807, -9223372036854775808] _ (cur_alloc HCur.out hB1 _) (by decide) (by decide) (by omega) (new_cells (Value.int .i64) _ 0 w1 _ _ rfl)).mono ?_
    rintro e w2 ⟨y, hy, rfl, hc2, ho2⟩
    have HC2 := Lib.hid hc2
    have HO2 := Lib.hid (HO.out.trans ((only_alloc _).trans ho2))
    have HY : Hid (-9223372036854775808 ≤ y ∧ y ≤ 9223372036854775807) := by
      simp only [List.mem_cons, List.not_mem_nil, or_false] at hy
      show _ ∧ _
      omega
    clear hy hc2 ho2
    go_wp2
    go_ret
    exact ⟨y, rfl, HY.out.1, HY.out.2, HC2.out, HO2.out⟩
  · have hx : (x == 0) = false := by simpa using h0
    by_cases h1 : x = 1
    · have hx2 : (x == 1) = true := by simpa using h1
      subst h1
      have HD := Lib.hid (draw_below B cb 1000000 w1 HCur.out (by omega) (by omega))
      go_wp2_with fail
      refine HD.out.mono ?_
      rintro e w2 ⟨y, rfl, hy0, hy1, hc2, ho2⟩
      have HC2 := Lib.hid hc2
      have HO2 := Lib.hid (HO.out.trans ho2)
      clear hc2 ho2
      go_wp2
      go_ret
      exact ⟨y - 500000, rfl, by omega, by omega, HC2.out, HO2.out⟩
    · have hx2 : (x == 1) = false := by simpa using h1
      have HD := Lib.hid (draw_below B cb 20 w1 HCur.out (by omega) (by omega))
      go_wp2_with fail
      refine HD.out.mono ?_
      rintro e w2 ⟨y, rfl, hy0, hy1, hc2, ho2⟩
      have HC2 := Lib.hid hc2
      have HO2 := Lib.hid (HO.out.trans ho2)
      clear hc2 ho2
      go_wp2
      go_ret
      exact ⟨y, rfl, by omega, by omega, HC2.out, HO2.out⟩

set_option maxHeartbeats 400000 in
theorem draw_format (v : Value) (n : Nat) (w : World) (hc : Code w.heap.size w v n) (hn : (n : Int) ≤ 1048576) :
    Calls Try.prog 10 #[v] w fun e w' => ∃ x : Int, e = .returned (.int .i64 x) ∧ -9223372036854775808 ≤ x ∧ x ≤ 9223372036854775807 ∧ Below w.heap.size w w' := by
  have HN := Lib.hid (draw_new v n w hc hn)
  clear hc
  go_enter Try.func10, Try.ntmps10
  go_wp2_with fail
  refine HN.out.mono ?_
  rintro e w1 ⟨cb, rfl, hcb, hlt, hcur, hb⟩
  have HW := Lib.hid (draw_whole _ cb w1 hcur hb.size)
  have HB := Lib.hid hb
  clear hcur hb
  go_wp2_with fail
  refine HW.out.mono ?_
  rintro e w2 ⟨x, rfl, hx0, hx1, hc2, ho2⟩
  have HB2 := Lib.hid (HB.out.trans (ho2.below hcb HB.out.size))
  clear hc2 ho2
  go_wp2
  go_ret
  exact ⟨x, rfl, hx0, hx1, HB2.out⟩

/-- A short text and a letter are drawn. -/
def DrawnPart (w : World) (e : Ending) (w' : World) : Prop := ∃ (s : ByteArray) (b : Int), e = .returned (.tuple #[.string s, .int .u8 b]) ∧ s.size ≤ 20 ∧ 0 ≤ b ∧ b ≤ 255 ∧ Below w.heap.size w w'

set_option maxHeartbeats 400000 in
theorem draw_split (v : Value) (n : Nat) (w : World) (hc : Code w.heap.size w v n) (hn : (n : Int) ≤ 1048576) :
    Calls Try.prog 11 #[v] w (DrawnPart w) := by
  have HN := Lib.hid (draw_new v n w hc hn)
  clear hc
  go_enter Try.func11, Try.ntmps11
  go_wp2_with fail
  refine HN.out.mono ?_
  rintro e w1 ⟨cb, rfl, hcb, hlt, hcur, hb⟩
  have HCur := Lib.hid hcur
  have HB := Lib.hid hb
  have hB1 := hb.size
  clear hcur hb
  go_wp2_with fail
  refine (pick_text _ cb w1.heap.size 6 [⟨#[]⟩, ⟨#[97]⟩, ⟨#[97, 44, 98]⟩, ⟨#[44]⟩, ⟨#[97, 44, 44, 98, 44]⟩, ⟨#[97, 10, 98, 10]⟩] _ (cur_alloc HCur.out hB1 _) (by decide) (by decide) (by omega) (new_cells Value.string _ ByteArray.empty w1 _ _ rfl)).mono ?_
  rintro e w2 ⟨s, hs, rfl, hc2, ho2⟩
  have HC2 := Lib.hid hc2
  have HB2 := Lib.hid (HB.out.trans ((((Below.refl _ _).alloc hB1 _)).trans (ho2.below hcb (by simp; omega))))
  have hB2 := HB2.out.size
  have hcl := cur_lt hc2
  have HS : Hid (s.size ≤ 20) := by
    simp only [List.mem_cons, List.not_mem_nil, or_false] at hs
    rcases hs with rfl | rfl | rfl | rfl | rfl | rfl <;> (show _ ≤ _; decide)
  clear hs hc2 ho2
  go_wp2_with fail
  refine (pick_int _ cb w2.heap.size 2 [44, 10] _ (cur_alloc HC2.out hB2 _) (by decide) (by decide) (by omega) (new_cells (Value.int .i64) _ 0 w2 _ _ rfl)).mono ?_
  rintro e w3 ⟨y, hy, rfl, hc3, ho3⟩
  have HB3 := Lib.hid (HB2.out.trans ((((Below.refl _ _).alloc hB2 _)).trans (ho3.below hcb (by simp; omega))))
  obtain ⟨hy0, hy1⟩ : 0 ≤ y ∧ y ≤ 255 := by
    simp only [List.mem_cons, List.not_mem_nil, or_false] at hy
    omega
  clear hy hc3 ho3
  go_wp2
  go_ret2
  exact ⟨s, y, rfl, HS.out, hy0, hy1, HB3.out⟩
end Go.Proofs.Ytmaahoanlgjpgaa
