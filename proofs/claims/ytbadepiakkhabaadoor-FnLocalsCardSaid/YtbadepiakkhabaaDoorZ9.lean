/- Joined texts: D6, N36, C6, C7, C8. No conditions besides those that each states. -/
import Derived.Laws.Bits128
import Derived.Deep.QuietTactic
import Derived.BigQuiet
import Derived.Laws.BytesArg
import Derived.OwnWalk
import Derived.Test.YtbadepiakkhabaaDoorZ2
import Derived.Test.YtbadepiakkhabaaDoorZ3
import Derived.Test.YtbadepiakkhabaaDoorZ6
import Derived.Test.YtbadepiakkhabaaDoorZ7
import Derived.Test.YtbadepiakkhabaaDoorZ8
/- The reference model's draws of a set, and of two. -/
namespace Go.Proofs.YtbadepiakkhabaaDoor
open Go.RowKit
set_option linter.unusedVariables false

theorem FreeSet.only {w w' : World} {cb g : Nat} {l h : Int} (s : FreeSet w g l h) (ho : Only cb w w') (hne : g ≠ cb) : FreeSet w' g l h := by
  have hb := ho.block g s.1.lt (fun e => hne (by simpa using e))
  obtain ⟨⟨s0, s1⟩, s2, s3⟩ := s
  refine ⟨⟨?_, ?_⟩, ?_, ?_⟩
  · rw [World.cell?_of_block hb]; exact s0
  · rw [World.cell?_of_block hb]; exact s1
  · simpa [World.frozen?, hb] using s2
  · simpa [World.frozen?, hb] using s3
theorem SetAt.only {w w' : World} {cb g : Nat} {l h : Int} (s : SetAt w g l h) (ho : Only cb w w') (hne : g ≠ cb) : SetAt w' g l h := by
  have hb := ho.block g s.lt (fun e => hne (by simpa using e))
  exact ⟨by rw [World.cell?_of_block hb]; exact s.1, by rw [World.cell?_of_block hb]; exact s.2⟩
theorem Only.store {cb g : Nat} {w wa : World} (h : Only cb w wa) (hg : w.heap.size ≤ g) (x y : Value) : Only cb w ((wa.setCell ⟨g, 0, none⟩ x).setCell ⟨g, 1, none⟩ y) :=
  ⟨h.os, h.tape, h.output, by simpa [World.setCell] using h.size, fun k hk hne => by
    rw [Below.heap_setCell _ _ _ _ (by show k ≠ g; omega), Below.heap_setCell _ _ _ _ (by show k ≠ g; omega)]
    exact h.block k hk hne⟩
theorem cur_store {B cb g : Nat} {wa : World} (h : IsCur B wa cb) (hg : B ≤ g) (hne : cb ≠ g) (x y : Value) : IsCur B ((wa.setCell ⟨g, 0, none⟩ x).setCell ⟨g, 1, none⟩ y) cb := by
  obtain ⟨v, n, i, k, hcb, hc, hh⟩ := h
  refine ⟨v, n, i, k, hcb, code_below hc (((Below.refl _ _).setCell hg _).setCell hg _), ?_⟩
  rw [Below.heap_setCell _ _ _ _ (by show cb ≠ g; exact hne), Below.heap_setCell _ _ _ _ (by show cb ≠ g; exact hne)]
  exact hh

/-- A set is drawn. -/
def DrawnSet (B cb : Nat) (w : World) (e : Ending) (w' : World) : Prop := ∃ l h : Int, e = .returned (.agg #[.int .i64 l, .int .i64 h]) ∧ (Cs.Fits l ∧ Cs.Fits h) ∧ IsCur B w' cb ∧ Only cb w w'
/-- The state of the draw: the result's variable, the cursor. -/
def DrawAt (B cb : Nat) (w wr : World) : Prop := FreeSet wr w.heap.size 0 0 ∧ IsCur B wr cb ∧ Only cb w wr
theorem DrawAt.only {B cb : Nat} {w wr wx : World} (h : DrawAt B cb w wr) (hc : IsCur B wx cb) (ho : Only cb wr wx) (hne : w.heap.size ≠ cb) : DrawAt B cb w wx := ⟨h.1.only ho hne, hc, h.2.2.trans ho⟩
theorem DrawAt.later {B cb : Nat} {w wr wx : World} (h : DrawAt B cb w wr) (hb : Below wr.heap.size wr wx) (hB : B ≤ w.heap.size) : DrawAt B cb w wx :=
  ⟨h.1.later hb, cur_below h.2.1 (Nat.le_trans hB h.2.2.size) hb, h.2.2.trans (Only.of_below hb)⟩
theorem DrawAt.lt {B cb : Nat} {w wr : World} (h : DrawAt B cb w wr) : w.heap.size < wr.heap.size := h.1.1.lt
/-- The draw's end. -/
theorem DrawAt.done {B cb : Nat} {w wr : World} (h : DrawAt B cb w wr) (hB : B ≤ w.heap.size) (hne : w.heap.size ≠ cb) (l k : Int) (f1 : Cs.Fits l) (f2 : Cs.Fits k) :
    DrawnSet B cb w (.returned (.agg #[.int .i64 l, .int .i64 k])) ((wr.setCell ⟨w.heap.size, 0, none⟩ (.int .i64 l)).setCell ⟨w.heap.size, 1, none⟩ (.int .i64 k)) :=
  ⟨l, k, rfl, ⟨f1, f2⟩, cur_store h.2.1 hB (Ne.symm hne) _ _, h.2.2.store (Nat.le_refl _) _ _⟩

theorem Cs.new_fits (s : ByteArray) : Cs.Fits (Cs.newL s) ∧ Cs.Fits (Cs.newH s) := by
  unfold Cs.newL Cs.newH
  constructor <;> split <;> first | exact Cs.allL_fits _ | exact Cs.allH_fits _ | exact Cs.fits_zero
/-- The texts that a draw picks from. -/
def drawTexts : List ByteArray := [⟨#[]⟩, ⟨#[97]⟩, ⟨#[97, 98, 99]⟩, ⟨#[120, 121, 122]⟩, ⟨#[48, 49, 50, 51, 52, 53, 54, 55, 56, 57]⟩, ⟨#[97, 101, 105, 111, 117]⟩, ⟨#[0, 63, 64, 127]⟩, ⟨#[32, 9, 10]⟩]
theorem drawTexts_small : ∀ s ∈ drawTexts, s.size ≤ maxLen := by
  intro s hs
  have h : s.size ≤ 10 := by
    simp only [drawTexts, List.mem_cons, List.not_mem_nil, or_false] at hs
    rcases hs with rfl | rfl | rfl | rfl | rfl | rfl | rfl | rfl <;> (show _ ≤ _; decide)
  unfold maxLen; omega

set_option maxHeartbeats 1600000 in
theorem draw_set (B cb : Nat) (w : World) (hp : IsCur B w cb) (hB : B ≤ w.heap.size) : Calls Tryd.prog 133 #[.pointer (some ⟨cb, 0, none⟩)] w (DrawnSet B cb w) := by
  have hcl := cur_lt hp
  have hne : w.heap.size ≠ cb := by omega
  have hz : (w.alloc (.cells #[.int .i64 0, .int .i64 0] 28)).heap.size = w.heap.size + 1 := by simp
  have hd : DrawAt B cb w (w.alloc (.cells #[.int .i64 0, .int .i64 0] 28)) := ⟨FreeSet.new _ _ _ _, cur_alloc hp hB _, only_alloc _⟩
  have hnc := new_cells Value.string drawTexts ByteArray.empty (w.alloc (.cells #[.int .i64 0, .int .i64 0] 28)) 9 _ rfl
  rw [hz] at hnc
  have HP := Lib.hid (pick_text B cb (w.heap.size + 1) 8 drawTexts _ (cur_alloc hd.2.1 (by omega) _) (by decide) (by decide) (by omega) hnc)
  have HD := Lib.hid (hd.later (bl1 _ (.cells (List.map Value.string drawTexts).toArray 9)) hB)
  clear hp hd hz hnc
  go_enter Tryd.func133, Tryd.ntmps133
  go_wp2_with fail
  refine HP.out.mono ?_
  rintro e w1 ⟨s, hs, rfl, hc1, ho1⟩
  have HD1 := Lib.hid (HD.out.only hc1 ho1 hne)
  have HN := Lib.hid (fun W => spec_new s (drawTexts_small s hs) W)
  have HF := Lib.hid (Cs.new_fits s)
  generalize Cs.newL s = l at HN HF
  generalize Cs.newH s = h at HN HF
  generalize Cs.good s = ok at HN
  clear hs hc1 ho1 HD HP
  go_wp2_with fail
  refine (HN.out _).mono ?_
  rintro e w2 ⟨rfl, hb2⟩
  have HD2 := Lib.hid ((HD1.out.later hb2 hB).later (bl1 w2 (.cells #[.int .i64 l, .int .i64 h] 28)) hB)
  have HX := Lib.hid (SetAt.new w2 l h 28)
  have hx : w.heap.size < w2.heap.size := (HD1.out.later hb2 hB).lt
  have hcx : cb < w2.heap.size := cur_lt (HD1.out.later hb2 hB).2.1
  have HB5 := Lib.hid (draw_below B cb 5 _ HD2.out.2.1 (by omega) (by omega))
  clear hb2 HD1 HN
  obtain ⟨g, hg⟩ : ∃ g, g = w2.heap.size := ⟨_, rfl⟩
  rw [← hg] at hx hcx
  have HGG := Lib.hid hg
  clear hg
  go_wp2_with fail
  refine HB5.out.mono ?_
  rintro e w3 ⟨n, rfl, hn0, hn1, hc3, ho3⟩
  have HD3 := Lib.hid (HD2.out.only hc3 ho3 hne)
  have HX3 := Lib.hid (HX.out.only ho3 (by have := HGG.out; omega))
  clear hc3 ho3 HD2 HX HB5
  by_cases hn : n = 0
  · subst hn
    obtain ⟨x0, x1⟩ := HX3.out
    go_wp2_with fail
    refine (spec_not _ _ _).mono ?_
    rintro e w4 ⟨rfl, hb4⟩
    have HD4 := Lib.hid (HD3.out.later hb4 hB)
    clear hb4 x0 x1
    obtain ⟨⟨⟨r0, r1⟩, r2, r3⟩, _, _⟩ := HD4.out
    go_wp2
    exact bodyPost_ret (v := .agg #[.int .i64 (bits .xor .i64 (-1) l), .int .i64 (bits .xor .i64 (-1) h)]) (by simp [results, Tryd.results133, go_sem, r0, r1]) rfl (HD4.out.done hB hne _ _ (Cs.bits_fits _ _ _) (Cs.bits_fits _ _ _))
  have n0 : (n == 0) = false := by simpa using hn
  by_cases hn1' : n = 1
  · subst hn1'
    have HW := Lib.hid (draw_whole B cb _ HD3.out.2.1 (Nat.le_trans hB (Nat.le_of_lt HD3.out.lt)))
    go_wp2_with fail
    refine HW.out.mono ?_
    rintro e w4 ⟨u, rfl, hu0, hu1, hc4, ho4⟩
    have HD4 := Lib.hid (HD3.out.only hc4 ho4 hne)
    have HW2 := Lib.hid (draw_whole B cb _ HD4.out.2.1 (Nat.le_trans hB (Nat.le_of_lt HD4.out.lt)))
    clear hc4 ho4
    go_wp2_with fail
    refine HW2.out.mono ?_
    rintro e w5 ⟨v, rfl, hv0, hv1, hc5, ho5⟩
    have HD5 := Lib.hid (HD4.out.only hc5 ho5 hne)
    clear hc5 ho5
    obtain ⟨⟨⟨r0, r1⟩, r2, r3⟩, _, _⟩ := HD5.out
    go_wp2
    exact bodyPost_ret (v := .agg #[.int .i64 u, .int .i64 v]) (by simp [results, Tryd.results133, go_sem, r0, r1]) rfl (HD5.out.done hB hne _ _ ⟨hu0, hu1⟩ ⟨hv0, hv1⟩)
  have n1 : (n == 1) = false := by simpa using hn1'
  by_cases hn2 : n = 2
  · subst hn2
    have HW := Lib.hid (draw_below B cb 64 _ HD3.out.2.1 (by omega) (by omega))
    go_wp2_with fail
    refine HW.out.mono ?_
    rintro e w4 ⟨u, rfl, hu0, hu1, hc4, ho4⟩
    have HD4 := Lib.hid (HD3.out.only hc4 ho4 hne)
    have HX4 := Lib.hid (HX3.out.only ho4 (by have := HGG.out; omega))
    have HW2 := Lib.hid (draw_below B cb 64 _ HD4.out.2.1 (by omega) (by omega))
    clear hc4 ho4
    go_wp2_with fail
    refine HW2.out.mono ?_
    rintro e w5 ⟨v, rfl, hv0, hv1, hc5, ho5⟩
    have HD5 := Lib.hid (HD4.out.only hc5 ho5 hne)
    have HX5 := Lib.hid (HX4.out.only ho5 (by have := HGG.out; omega))
    clear hc5 ho5
    obtain ⟨a, rfl⟩ : ∃ a : Nat, u = a := ⟨u.toNat, by omega⟩
    obtain ⟨b, rfl⟩ : ∃ b : Nat, v = b := ⟨v.toNat, by omega⟩
    have hr : ∀ W, Calls Tryd.prog 146 #[.int .u8 (a : Int), .int .u8 (64 + (b : Int))] W (RetNew W (Cs.rngL a (64 + b)) (Cs.rngH a (64 + b)) (Cs.rngOk a (64 + b))) := fun W => by
      have := spec_range a (64 + b) (by omega) (by omega) W
      rwa [show ((64 + b : Nat) : Int) = 64 + (b : Int) by omega] at this
    have HR := Lib.hid hr
    clear hr
    generalize Cs.rngL a (64 + b) = p at HR
    generalize Cs.rngH a (64 + b) = q at HR
    generalize Cs.rngOk a (64 + b) = ok2 at HR
    go_wp2_with fail
    refine (HR.out _).mono ?_
    rintro e w6 ⟨rfl, hb6⟩
    have HD6 := Lib.hid ((HD5.out.later hb6 hB).later (bl1 w6 (.cells #[.int .i64 p, .int .i64 q] 28)) hB)
    obtain ⟨x0, x1⟩ := (HX5.out.later hb6).later (bl1 w6 (.cells #[.int .i64 p, .int .i64 q] 28))
    clear hb6
    go_wp2_with fail
    refine (spec_sub _ _ _ _ _).mono ?_
    rintro e w7 ⟨rfl, hb7⟩
    have HD7 := Lib.hid (HD6.out.later hb7 hB)
    clear hb7 x0 x1
    obtain ⟨⟨⟨r0, r1⟩, r2, r3⟩, _, _⟩ := HD7.out
    go_wp2
    exact bodyPost_ret (v := .agg #[.int .i64 (bits .andNot .i64 p l), .int .i64 (bits .andNot .i64 q h)]) (by simp [results, Tryd.results133, go_sem, r0, r1]) rfl (HD7.out.done hB hne _ _ (Cs.bits_fits _ _ _) (Cs.bits_fits _ _ _))
  · have n2 : (n == 2) = false := by simpa using hn2
    obtain ⟨x0, x1⟩ := HX3.out
    obtain ⟨⟨⟨r0, r1⟩, r2, r3⟩, _, _⟩ := HD3.out
    go_wp2
    exact bodyPost_ret (v := .agg #[.int .i64 l, .int .i64 h]) (by simp [results, Tryd.results133, go_sem, r0, r1]) rfl (HD3.out.done hB hne _ _ HF.out.1 HF.out.2)
end Go.Proofs.YtbadepiakkhabaaDoor
/- Drawn trees: leaves. No conditions. -/
namespace Go.Proofs.YtbadepiakkhabaaDoor
open Go.RowKit
set_option linter.unusedVariables false

theorem once_at (B cb : Nat) (n : Int) (w : World) (hp : IsCur B w cb) (h0 : 0 < n) (h1 : n ≤ 2147483647) :
    Calls Tryd.prog 75 #[.pointer (some ⟨cb, 0, none⟩), .int .i64 n] w fun e w' => ∃ b : Bool, e = .returned (.bool b) ∧ IsCur B w' cb ∧ Only cb w w' := by
  have HB := Lib.hid (draw_below B cb n w hp h0 h1)
  clear hp
  go_enter Tryd.func75, Tryd.ntmps75
  go_wp2_with fail
  refine HB.out.mono ?_
  rintro e w1 ⟨x, rfl, hx0, hx1, hc, ho⟩
  have HC := Lib.hid hc
  have HO := Lib.hid ho
  clear hc ho
  go_wp2
  go_ret
  exact ⟨_, rfl, HC.out, HO.out⟩
def leafTexts : List ByteArray := [⟨#[]⟩, ⟨#[97, 34, 98]⟩, ⟨#[105, 116, 39, 115]⟩, ⟨#[116, 97, 98, 9, 104, 101, 114, 101]⟩, ⟨#[108, 105, 110, 101, 10, 101, 110, 100]⟩, ⟨#[98, 97, 99, 107, 92, 115, 108, 97, 115, 104]⟩, ⟨#[0, 127]⟩, ⟨#[255]⟩, ⟨#[112, 108, 97, 105, 110]⟩]
theorem leafTexts_small : ∀ s ∈ leafTexts, s.size ≤ 10 := by decide
def DrawnS (m : Nat) (B cb : Nat) (w : World) (e : Ending) (w' : World) : Prop := ∃ s : ByteArray, e = .returned (.string s) ∧ s.size ≤ m ∧ IsCur B w' cb ∧ Only cb w w'
theorem draw_leafText (B cb : Nat) (w : World) (hp : IsCur B w cb) (hB : B ≤ w.heap.size) :
    Calls Tryd.prog 132 #[.pointer (some ⟨cb, 0, none⟩)] w (DrawnS 10 B cb w) := by
  have hcb := cur_lt hp
  have HP := Lib.hid (pick_text B cb w.heap.size 9 leafTexts _ (cur_alloc hp hB _) (by decide) (by decide) (by omega) (new_cells Value.string leafTexts ByteArray.empty w 9 _ rfl))
  clear hp
  go_enter Tryd.func132, Tryd.ntmps132
  go_wp2_with fail
  refine HP.out.mono ?_
  rintro e w2 ⟨s, hs, rfl, hc2, ho2⟩
  have HC2 := Lib.hid hc2
  have HO2 := Lib.hid ((only_alloc _).trans ho2)
  have hz : s.size ≤ 10 := leafTexts_small s hs
  clear hs hc2 ho2
  go_wp2
  go_ret
  exact ⟨s, rfl, hz, HC2.out, HO2.out⟩
/-- A drawn tree. -/
def DrawnT (M B cb : Nat) (w : World) (e : Ending) (w' : World) : Prop := ∃ (t : Ex.T) (v : Value) (F : List Nat), e = .returned (exV t v) ∧ OwnK w' v t.kids F ∧ Foot w.heap.size w' F ∧ t.bulk ≤ M ∧ IsCur B w' cb ∧ Only cb w w'
/-- Where the drawing of a leaf stands. -/
def LeafSt (B cb : Nat) (w wr : World) : Prop := FreeE wr w.heap.size 0 ⟨#[]⟩ 0 0 (.slice none 0 0) ∧ IsCur B wr cb ∧ Only cb w wr
theorem FreeE.only {w w' : World} {cb b : Nat} {k n l : Int} {t : ByteArray} {v : Value} (h : FreeE w b k t n l v) (ho : Only cb w w') (hne : b ≠ cb) : FreeE w' b k t n l v := h.keep (ho.block b h.lt (fun e => hne (Option.some.inj e)))
theorem LeafSt.lt {B cb : Nat} {w wr : World} (h : LeafSt B cb w wr) : w.heap.size < wr.heap.size := h.1.lt
theorem LeafSt.only {B cb : Nat} {w wr wx : World} (h : LeafSt B cb w wr) (hc : IsCur B wx cb) (ho : Only cb wr wx) (hne : w.heap.size ≠ cb) : LeafSt B cb w wx := ⟨h.1.only ho hne, hc, h.2.2.trans ho⟩
theorem LeafSt.later {B cb : Nat} {w wr wx : World} (h : LeafSt B cb w wr) (hb : Below wr.heap.size wr wx) (hB : B ≤ w.heap.size) : LeafSt B cb w wx :=
  ⟨h.1.later hb, cur_below h.2.1 (Nat.le_trans hB (Nat.le_of_lt h.lt)) hb, h.2.2.trans (Only.of_below hb)⟩
theorem LeafSt.done {B cb : Nat} {w wr : World} (h : LeafSt B cb w wr) (hB : B ≤ w.heap.size) (hne : w.heap.size ≠ cb) (k n : Int) (s : ByteArray) (M : Nat) (hs : s.size ≤ M) :
    DrawnT M B cb w (.returned (.agg #[.int .i64 k, .string s, .int .i64 n, .int .i64 0, .slice none 0 0])) (((((wr.setCell ⟨w.heap.size, 0, none⟩ (.int .i64 k)).setCell ⟨w.heap.size, 1, none⟩ (.string s)).setCell ⟨w.heap.size, 2, none⟩ (.int .i64 n)).setCell ⟨w.heap.size, 3, none⟩ (.int .i64 0)).setCell ⟨w.heap.size, 4, none⟩ (.slice none 0 0)) := by
  have hset : ∀ (A : World) (o : Nat) (u : Value), Only cb w A → IsCur B A cb → Only cb w (A.setCell ⟨w.heap.size, o, none⟩ u) ∧ IsCur B (A.setCell ⟨w.heap.size, o, none⟩ u) cb := by
    intro A o u hA hc
    refine ⟨⟨hA.1, hA.2, hA.3, by simp [World.setCell]; exact hA.size, fun b h1 h2 => (Below.heap_setCell A ⟨w.heap.size, o, none⟩ u b (show b ≠ w.heap.size by omega)).trans (hA.block b h1 h2)⟩, ?_⟩
    obtain ⟨v, m, i, x, h1, h2, h3⟩ := hc
    refine ⟨v, m, i, x, h1, code_below h2 ((Below.refl B A).setCell (p := ⟨w.heap.size, o, none⟩) hB u), ?_⟩
    rw [Below.heap_setCell A ⟨w.heap.size, o, none⟩ u cb (fun e => hne e.symm)]; exact h3
  obtain ⟨h1, h2, h3⟩ := h
  obtain ⟨o1, c1⟩ := hset _ 0 (.int .i64 k) h3 h2
  obtain ⟨o2, c2⟩ := hset _ 1 (.string s) o1 c1
  obtain ⟨o3, c3⟩ := hset _ 2 (.int .i64 n) o2 c2
  obtain ⟨o4, c4⟩ := hset _ 3 (.int .i64 0) o3 c3
  obtain ⟨o5, c5⟩ := hset _ 4 (.slice none 0 0) o4 c4
  refine ⟨.node k s n 0 [], .slice none 0 0, [], rfl, ?_, (fun b hb => by cases hb), ?_, c5, o5⟩
  · show OwnK _ _ [] []
    rw [OwnK]; exact ⟨rfl, _, _, rfl⟩
  · rw [Ex.T.bulk]; simp [Ex.bulks]; exact hs
end Go.Proofs.YtbadepiakkhabaaDoor
/- OnesCount64 counts the ones of a word. No conditions. -/
namespace Go.Proofs.YtbadepiakkhabaaDoor
open Go.RowKit
set_option linter.unusedVariables false

theorem Cs.wrap_u64 {n : Int} (h0 : 0 ≤ n) (h1 : n < 18446744073709551616) : IntKind.u64.wrap n = n := by
  have : IntKind.u64.wrap n = n % 18446744073709551616 := by simp [IntKind.wrap, IntKind.bits, IntKind.signed]
  rw [this]; omega
theorem Cs.mask1 : Cs.mask 1 32 = 6148914691236517205 := by decide
theorem Cs.mask2 : Cs.mask 2 16 = 3689348814741910323 := by decide
theorem Cs.mask4 : Cs.mask 4 8 = 1085102592571150095 := by decide
theorem Cs.step_and (x d m : Nat) (hx : x < 18446744073709551616) (hm : m < 18446744073709551616) : bits .and .u64 ((x : Int) / (d : Nat)) (m : Nat) = ((x / d &&& m : Nat) : Int) := by
  rw [← Int.natCast_ediv]
  exact u64_and_nat _ _ (Nat.lt_of_le_of_lt (Nat.div_le_self _ _) hx) hm
theorem Cs.step1 (x : Nat) (hx : x < 18446744073709551616) : IntKind.u64.wrap (bits .and .u64 ((x : Int) / 2) 6148914691236517205 + bits .and .u64 (x : Int) 6148914691236517205) = ((Cs.pair 1 32 x : Nat) : Int) := by
  have h1 : bits .and .u64 ((x : Int) / 2) 6148914691236517205 = ((x / 2 &&& 6148914691236517205 : Nat) : Int) := Cs.step_and x 2 6148914691236517205 hx (by decide)
  have h2 : bits .and .u64 (x : Int) 6148914691236517205 = ((x &&& 6148914691236517205 : Nat) : Int) := u64_and_nat x 6148914691236517205 hx (by decide)
  have h3 := Cs.pair_lt 1 32 x
  have e : Cs.pair 1 32 x = (x / 2 &&& 6148914691236517205) + (x &&& 6148914691236517205) := by unfold Cs.pair; rw [Cs.mask1]
  rw [Cs.mask1] at h3
  rw [e] at h3
  rw [h1, h2, e]
  rw [Cs.wrap_u64 (by omega) (by omega)]; rfl
theorem Cs.step2 (x : Nat) (hx : x < 18446744073709551616) : IntKind.u64.wrap (bits .and .u64 ((x : Int) / 4) 3689348814741910323 + bits .and .u64 (x : Int) 3689348814741910323) = ((Cs.pair 2 16 x : Nat) : Int) := by
  have h1 : bits .and .u64 ((x : Int) / 4) 3689348814741910323 = ((x / 4 &&& 3689348814741910323 : Nat) : Int) := Cs.step_and x 4 3689348814741910323 hx (by decide)
  have h2 : bits .and .u64 (x : Int) 3689348814741910323 = ((x &&& 3689348814741910323 : Nat) : Int) := u64_and_nat x 3689348814741910323 hx (by decide)
  have h3 := Cs.pair_lt 2 16 x
  have e : Cs.pair 2 16 x = (x / 4 &&& 3689348814741910323) + (x &&& 3689348814741910323) := by unfold Cs.pair; rw [Cs.mask2]
  rw [Cs.mask2] at h3
  rw [e] at h3
  rw [h1, h2, e]
  rw [Cs.wrap_u64 (by omega) (by omega)]; rfl
theorem Cs.step3 (x : Nat) (hx : x ≤ 7378697629483820646) (hs : Cs.small 4 4 16 x) : bits .and .u64 (IntKind.u64.wrap ((x : Int) / 16 + x)) 1085102592571150095 = ((Cs.pair 4 8 x : Nat) : Int) := by
  have e := Cs.lump_step 4 4 (by decide) 8 x hs
  rw [Cs.mask4, show (2 : Nat) ^ 4 = 16 from rfl] at e
  rw [Cs.wrap_u64 (by omega) (by omega), ← e]
  have := u64_and_nat (x / 16 + x) 1085102592571150095 (by omega) (by decide)
  rw [← this]; rfl
theorem Cs.step4 (x d : Nat) (hx : x + x / d < 18446744073709551616) : IntKind.u64.wrap ((x : Int) + (x : Int) / (d : Nat)) = ((x + x / d : Nat) : Int) := by
  rw [← Int.natCast_ediv, ← Int.natCast_add]
  exact Cs.wrap_u64 (Int.natCast_nonneg _) (by omega)
/-- The steps together. -/
theorem Cs.steps (x : Nat) (hx : x < 18446744073709551616) (y1 y2 y3 z1 z2 z3 : Nat) (h1 : y1 = Cs.pair 1 32 x) (h2 : y2 = Cs.pair 2 16 y1) (h3 : y3 = Cs.pair 4 8 y2) (e1 : z1 = y3 + y3 / 256) (e2 : z2 = z1 + z1 / 65536) (e3 : z3 = z2 + z2 / 4294967296) :
    y1 < 18446744073709551616 ∧ y2 ≤ 7378697629483820646 ∧ Cs.small 4 4 16 y2 ∧ y3 < 18446744073709551616 ∧ z1 < 18446744073709551616 ∧ z2 < 18446744073709551616 ∧ z3 < 18446744073709551616 ∧ z3 % 128 = Cs.dsum 1 64 x := by
  obtain ⟨s1, t1⟩ := Cs.pair_step 1 1 (by decide) 32 x (Cs.small_one 64 x)
  rw [← h1] at s1 t1
  obtain ⟨s2, t2⟩ := Cs.pair_step 2 2 (by decide) 16 y1 t1
  rw [← h2] at s2 t2
  obtain ⟨s3, t3⟩ := Cs.pair_step 4 4 (by decide) 8 y2 t2
  rw [← h3] at s3 t3
  have l1 := Cs.pair_lt 1 32 x
  have l2 := Cs.pair_lt 2 16 y1
  have l3 := Cs.pair_lt 4 8 y2
  rw [← h1, Cs.mask1] at l1
  rw [← h2, Cs.mask2] at l2
  rw [← h3, Cs.mask4] at l3
  obtain ⟨f1, f2, f3, f4⟩ := Cs.fold_bytes y3 t3 (by omega) z1 z2 z3 e1 e2 e3
  exact ⟨by omega, by omega, t2, by omega, f1, f2, f3, by rw [f4, s3, s2, s1]⟩
theorem ret_i {k : IntKind} {a b : Int} (h : a = b) : Ending.returned (.int k a) = .returned (.int k b) := by rw [h]

theorem Cs.last (z s : Nat) (h : z % 128 = s) : wrap64 (z : Int) % 128 = (s : Int) := by
  unfold wrap64; omega
theorem ones (x : Nat) (hx : x < 18446744073709551616) (w : World) : Calls Tryd.prog 161 #[.int .u64 x] w fun e w' => e = .returned (.int .i64 ((Cs.dsum 1 64 x : Nat) : Int)) ∧ w = w' := by
  go_enter Tryd.func161, Tryd.ntmps161
  go_wp2
  go_ret
  refine ⟨ret_i ?_, rfl⟩
  obtain ⟨a1, a2, a3, a4, b1, b2, b3, b4⟩ := Cs.steps x hx _ _ _ _ _ _ rfl rfl rfl rfl rfl rfl
  rw [Cs.step1 x hx, Cs.step2 _ a1, Cs.step3 _ a2 a3]
  generalize Cs.pair 4 8 (Cs.pair 2 16 (Cs.pair 1 32 x)) = y at *
  have c1 : IntKind.u64.wrap ((y : Int) + (y : Int) / 256) = ((y + y / 256 : Nat) : Int) := Cs.step4 y 256 b1
  rw [c1]
  generalize y + y / 256 = y1 at *
  have c2 : IntKind.u64.wrap ((y1 : Int) + (y1 : Int) / 65536) = ((y1 + y1 / 65536 : Nat) : Int) := Cs.step4 y1 65536 b2
  rw [c2]
  generalize y1 + y1 / 65536 = y2 at *
  have c3 : IntKind.u64.wrap ((y2 : Int) + (y2 : Int) / 4294967296) = ((y2 + y2 / 4294967296 : Nat) : Int) := Cs.step4 y2 4294967296 b3
  rw [c3, i64_and127]
  exact Cs.last _ _ b4
end Go.Proofs.YtbadepiakkhabaaDoor
/- CsetSize of the program: how many elements a set has. No conditions. -/
namespace Go.Proofs.YtbadepiakkhabaaDoor
open Go.RowKit
set_option linter.unusedVariables false

/-- A word as a number without sign. -/
def Cs.word (l : Int) : Nat := (BitVec.ofInt 64 l).toNat
theorem Cs.word_lt (l : Int) : Cs.word l < 18446744073709551616 := (BitVec.ofInt 64 l).isLt
theorem Cs.wrap_word (l : Int) : IntKind.u64.wrap l = (Cs.word l : Int) := by
  have : IntKind.u64.wrap l = l % 18446744073709551616 := by simp [IntKind.wrap, IntKind.bits, IntKind.signed]
  rw [this]; unfold Cs.word
  rw [BitVec.toNat_ofInt]
  omega
/-- How many elements lie in a word. -/
def Cs.pop (l : Int) : Nat := ((List.range 64).filter (Cs.bitAt l)).length
theorem Cs.dsum_pop (l : Int) : Cs.dsum 1 64 (Cs.word l) = Cs.pop l := Cs.dsum_bits 64 _
theorem Cs.pop_le (l : Int) : Cs.pop l ≤ 64 := by
  have := List.length_filter_le (Cs.bitAt l) (List.range 64)
  simpa [Cs.pop] using this
theorem Cs.text_pop (l h : Int) : (Cs.text l h).length = Cs.pop l + Cs.pop h := by
  unfold Cs.text Cs.pop
  rw [show List.range 128 = List.range 64 ++ (List.range 64).map (64 + ·) from by decide, List.filter_append, List.length_append, List.filter_map, List.length_map]
  have e1 : List.filter (Cs.mem l h) (List.range 64) = List.filter (Cs.bitAt l) (List.range 64) := List.filter_congr fun x hx => Cs.mem_low (by rw [List.mem_range] at hx; exact hx)
  have e2 : List.filter (Cs.mem l h ∘ fun x => 64 + x) (List.range 64) = List.filter (Cs.bitAt h) (List.range 64) := List.filter_congr fun x hx => by
    rw [List.mem_range] at hx
    show Cs.mem l h (64 + x) = _
    rw [Cs.mem_high (by omega) (by omega), Nat.add_sub_cancel_left]
  rw [e1, e2]

theorem ones_word (l : Int) (w : World) : Calls Tryd.prog 161 #[.int .u64 (IntKind.u64.wrap l)] w fun e w' => e = .returned (.int .i64 (Cs.pop l)) ∧ w' = w := by
  rw [← Cs.dsum_pop, Cs.wrap_word]
  exact (ones _ (Cs.word_lt l) w).mono fun e w' ⟨h1, h2⟩ => ⟨h1, h2.symm⟩
theorem impl_size (a b : Int) (w : World) : Calls Tryd.prog 155 #[.agg #[.int .i64 a, .int .i64 b]] w fun e w' => e = .returned (.int .i64 ((Cs.text a b).length : Nat)) ∧ Below w.heap.size w w' := by
  rw [Cs.text_pop]
  have h1 := Cs.pop_le a
  have h2 := Cs.pop_le b
  go_enter Tryd.func155, Tryd.ntmps155
  go_wp2
  go_quiet ((go_at_call 161; exact Calls.quiet_of_same (ones_word _ _)))
  go_wp2
  go_ret
  exact ⟨ret_i (Int.natCast_add _ _).symm, below_drewN (bl1 _ _) _⟩
end Go.Proofs.YtbadepiakkhabaaDoor
/- CsetText of the program and of the reference model: the elements in ascending order. No conditions. -/
namespace Go.Proofs.YtbadepiakkhabaaDoor
open Go.RowKit
set_option linter.unusedVariables false

theorem info_u8 : (Tryd.prog.info? 5).map (fun i => (i.zero, i.size, i.bytes)) = some (some (.int .u8 0), 1, 1) := by kernel_rfl

/-- Bytes of the call's own: a slice whose elements are l, in a block from base on. -/
def OwnB (w : World) (base : Nat) (v : Value) (l : List Nat) : Prop := w.ownsRow base 5 1 v l.length (l.map fun n : Nat => Value.int .u8 n)
/-- Bytes as a string. -/
def txt (l : List Nat) : ByteArray := ⟨(l.map UInt8.ofNat).toArray⟩
theorem txt_size (l : List Nat) : (txt l).size = l.length := by simp [txt, ByteArray.size]
theorem txt_nums (l : List Nat) : strOfNums (l.map fun n : Nat => (n : Int)) = txt l := by
  unfold strOfNums txt; simp
theorem ownB_app {w1 : World} {base : Nat} {v' : Value} {l : List Nat} {x : Nat} (h : w1.ownsRow base 5 1 v' (l.length + 1) ((l.map fun n : Nat => Value.int .u8 n) ++ [Value.int .u8 x])) : OwnB w1 base v' (l ++ [x]) := by
  unfold OwnB; rw [List.map_append, List.length_append]; exact h
theorem belowB_app {w wr w1 : World} {B : Nat} {v : Value} {l : List Nat} {o : Obj} (hb : Below w.heap.size w wr) (hB : w.heap.size ≤ B) (hB2 : B ≤ wr.heap.size) (hown : OwnB wr B v l) (hg : (wr.alloc o).grownBy w1 v.ownBlock) : Below w.heap.size w w1 :=
  (hb.alloc hb.size o).grown hg (by have := hb.size; simp; omega) (fun k hk => Nat.le_trans hB (hown.lt k hk).1)
/-- What lies below the row is as it was. -/
theorem belowB_row {wr w1 : World} {B : Nat} {v : Value} {l : List Nat} {o : Obj} (hB2 : B ≤ wr.heap.size) (hown : OwnB wr B v l) (hg : (wr.alloc o).grownBy w1 v.ownBlock) : Below B wr w1 :=
  ((Below.refl B wr).alloc hB2 o).grown hg (by simp; omega) (fun k hk => (hown.lt k hk).1)
theorem ownB_below {w w1 : World} {base : Nat} {v : Value} {l : List Nat} (h : OwnB w base v l) (hb : Below w.heap.size w w1) : OwnB w1 base v l := by
  refine ⟨h.1, ?_⟩
  rcases h.2 with hn | ⟨g, cap, cur, hv, hg, hgg, r⟩
  · exact .inl hn
  · exact .inr ⟨g, cap, cur, hv, hg, by rw [hb.block g (Array.getElem?_eq_some_iff.1 hgg).1]; exact hgg, r⟩
theorem new_byte (w : World) (x : Value) (t : TypeId) : ∀ (j : Nat) (u : Value), [x][j]? = some u → (w.alloc (.cells #[x] t)).cell? ((⟨w.heap.size, 0, none⟩ : Addr).add j) = some u := by
  intro j u hj
  match j, hj with
  | 0, hj => simp at hj; subst hj; simp [Addr.add]
theorem one_byte (k : IntKind) (x : Int) : ∀ u ∈ [Value.int k x], u.oneCell' = true := by
  intro u hu; simp at hu; subst hu; rfl
theorem conv_own {w : World} {base : Nat} {v : Value} {l : List Nat} (h : OwnB w base v l) : (convert 47 9 v).run Tryd.prog w = .ok (.string (txt l)) w := by
  have h2 := h.2
  rcases h2 with ⟨rfl, h0⟩ | ⟨g, cap, cur, rfl, hg⟩
  · have : l = [] := List.length_eq_zero_iff.1 h0
    subst this
    exact run_convert_bytes_nil (P := Tryd.prog) w 47 5 Tryd.underlying47 Tryd.underlying5 0 0 9 Tryd.underlying9
  · have e := run_convert_bytes_arg (P := Tryd.prog) w 47 5 Tryd.underlying47 Tryd.underlying5 g 0 l.length cap (l.map fun n : Nat => (n : Int)) (by simp) (fun i hi => by
      rw [Nat.zero_add, h.cellAt i (by omega)]
      simp [List.getD, List.getElem?_eq_getElem hi]) 9 Tryd.underlying9
    rw [txt_nums] at e
    exact e

theorem SetAt.below {w wx : World} {B b : Nat} {l h : Int} (s : SetAt w b l h) (hb : Below B w wx) (hB : b < B) : SetAt wx b l h :=
  ⟨(hb.cell (p := ⟨b, 0, none⟩) hB).trans s.1, (hb.cell (p := ⟨b, 1, none⟩) hB).trans s.2⟩

/-- The state of the loops: the set's variable, the bytes so far. -/
def TextAt (w : World) (a b : Int) (k : Nat) (v : Value) (wr : World) : Prop := SetAt wr w.heap.size a b ∧ OwnB wr (w.heap.size + 1) v (Cs.textTo a b k) ∧ Below w.heap.size w wr
theorem TextAt.lt {w wr : World} {a b : Int} {k : Nat} {v : Value} (h : TextAt w a b k v wr) : w.heap.size < wr.heap.size := h.1.lt
theorem TextAt.later {w wr wx : World} {a b : Int} {k : Nat} {v : Value} (h : TextAt w a b k v wr) (hb : Below wr.heap.size wr wx) : TextAt w a b k v wx :=
  ⟨h.1.later hb, ownB_below h.2.1 hb, below_step h.2.2 hb⟩
theorem TextAt.no {w wr : World} {a b : Int} {k : Nat} {v : Value} (h : TextAt w a b k v wr) (hm : Cs.mem a b k = false) : TextAt w a b (k + 1) v wr := by
  refine ⟨h.1, ?_, h.2.2⟩
  rw [Cs.textTo_succ, if_neg (by simp [hm]), List.append_nil]; exact h.2.1
theorem TextAt.yes {w wr w1 : World} {a b : Int} {k : Nat} {v v' : Value} {o : Obj} (h : TextAt w a b k v wr) (hm : Cs.mem a b k = true)
    (hown : w1.ownsRow (w.heap.size + 1) 5 1 v' ((Cs.textTo a b k).length + 1) (((Cs.textTo a b k).map fun n : Nat => Value.int .u8 n) ++ [Value.int .u8 k])) (hg : (wr.alloc o).grownBy w1 v.ownBlock) : TextAt w a b (k + 1) v' w1 := by
  refine ⟨h.1.below (belowB_row h.lt h.2.1 hg) (Nat.lt_succ_self _), ?_, belowB_app h.2.2 (Nat.le_succ _) h.lt h.2.1 hg⟩
  rw [Cs.textTo_succ, if_pos hm]; exact ownB_app hown
theorem TextAt.start (w : World) (a b : Int) (T : TypeId) : TextAt w a b 0 (.slice (some ⟨w.heap.size + 1, 0, none⟩) 0 0) ((w.alloc (.cells #[.int .i64 a, .int .i64 b] T)).alloc (.cells #[] 5)) := by
  have hz : (w.alloc (.cells #[.int .i64 a, .int .i64 b] T)).heap.size = w.heap.size + 1 := by simp
  have h := World.ownsRow_made (base := w.heap.size + 1) (e := 5) (size := 1) (w.alloc (.cells #[.int .i64 a, .int .i64 b] T)) #[] 0 (Nat.le_of_eq hz.symm) (by unfold maxLen; omega) rfl
  rw [hz] at h
  exact ⟨(SetAt.new w a b T).later (bl1 _ _), h, bl2 _ _ _⟩
theorem len_small {n : Nat} (h : n ≤ 128) : n + 1 ≤ maxLen := by unfold maxLen; omega
def RetText (w : World) (s : ByteArray) (e : Ending) (w' : World) : Prop := e = .returned (.string s) ∧ Below w.heap.size w w'

set_option maxHeartbeats 800000 in
theorem spec_text (a b : Int) (w : World) : Calls Tryd.prog 61 #[.agg #[.int .i64 a, .int .i64 b]] w (RetText w (txt (Cs.text a b))) := by
  obtain ⟨i0, hi, hz0, hz1, hz2⟩ := info_parts info_u8
  go_enter Tryd.func61, Tryd.ntmps61
  go_wp2
  go_loopw [3, 4] (fun v i wr => ∃ k : Nat, i = .int .i64 k ∧ k ≤ 128 ∧ TextAt w a b k v wr) (fun _ i _ => 128 - (intOf i).toNat)
  case atStart => exact ⟨0, rfl, by omega, TextAt.start w a b _⟩
  case round =>
    obtain ⟨k, rfl, hk, ht⟩ := hrel
    have HT := Lib.hid ht
    by_cases hlt : (k : Int) < 128
    · obtain ⟨c0, c1⟩ := ht.1
      have hl := ht.lt
      have hle := Cs.textTo_len a b k
      clear ht
      go_wp2_with fail
      refine (spec_has _ _ _ _ (by omega) (by omega)).mono ?_
      rw [Int.toNat_natCast]
      rintro e w1 ⟨rfl, hb1⟩
      have HT1 := Lib.hid (HT.out.later hb1)
      have hl1 := HT1.out.lt
      clear hb1 c0 c1
      by_cases hm : Cs.mem a b k = true
      · go_wp2_with (at_builtin; refine wpList_append_own _ rfl _ _ 47 rfl (w.heap.size + 1) 5 i0 (.int .u8 0) 1 1 Tryd.underlying47 hi hz0 hz1 hz2 rfl (by decide) _ _ _ rfl (HT1.out.2.1.alloc _) ⟨w1.heap.size, 0, none⟩ 1 1 [.int .u8 k] rfl rfl ?c1 ?c2 ?c3 ?c4 ?c5 ?_)
        case c1 => exact new_byte _ _ _
        case c2 => exact one_byte _ _
        case c3 => exact len_small (by omega)
        case c4 => omega
        case c5 => simp; omega
        intro v' w2 hown' hgrow _
        have ho := Lib.hid (HT1.out.yes hm hown' hgrow)
        clear hown' hgrow
        go_wp2
        go_roundw
        case rel => exact ⟨k + 1, by go_num, by omega, ho.out⟩
        case measure => first | (simp [intOf]; done) | (simp [intOf]; omega)
      · have hm2 : Cs.mem a b k = false := by simpa using hm
        clear hm
        have ho := Lib.hid (HT1.out.no hm2)
        go_wp2
        go_roundw
        case rel => exact ⟨k + 1, by go_num, by omega, ho.out⟩
        case measure => first | (simp [intOf]; done) | (simp [intOf]; omega)
    · obtain rfl : k = 128 := by omega
      have hc := conv_own ht.2.1
      have HB := Lib.hid ht.2.2
      clear ht
      go_wp2
      go_ret
      exact ⟨rfl, HB.out⟩

set_option maxHeartbeats 800000 in
theorem impl_text (a b : Int) (w : World) : Calls Tryd.prog 143 #[.agg #[.int .i64 a, .int .i64 b]] w (RetText w (txt (Cs.text a b))) := by
  obtain ⟨i0, hi, hz0, hz1, hz2⟩ := info_parts info_u8
  have hsz := Cs.textTo_len a b 128
  have HS := Lib.hid (fun W => impl_size a b W)
  go_enter Tryd.func143, Tryd.ntmps143
  go_wp2_with fail
  refine (HS.out _).mono ?_
  rintro e w0 ⟨rfl, hb0⟩
  have HS0 := Lib.hid ((SetAt.new w a b _).later hb0)
  have HB0 := Lib.hid (below_step (bl1 _ _) hb0)
  have hl0 := HS0.out.lt
  clear hb0
  have hsz2 : (Cs.text a b).length ≤ 128 := hsz
  obtain ⟨w1, hmk, hown, hgr⟩ := run_make_own (P := Tryd.prog) w0 (w.heap.size + 1) 47 5 i0 (.int .u8 0) 1 Tryd.underlying47 hi hz0 hz1 .i64 .i64 (Cs.text a b).length (by rw [hz2]; omega) (by unfold maxLen; omega) hl0
  have hb1 : Below w0.heap.size w0 w1 := (Below.refl _ _).grown hgr (Nat.le_refl _) (fun k hk => by cases hk)
  have HT := Lib.hid (show TextAt w a b 0 _ w1 from ⟨HS0.out.later hb1, hown, below_step HB0.out hb1⟩)
  clear hown hgr hb1
  go_wp2
  go_loopw [3, 4, 8] (fun v _ i wr => ∃ k : Nat, i = .int .u8 k ∧ k ≤ 128 ∧ TextAt w a b k v wr) (fun _ _ i _ => 128 - (intOf i).toNat)
  case atStart => exact ⟨0, rfl, by omega, HT.out⟩
  case round =>
    clear hmk HT HS0 HB0
    obtain ⟨k, rfl, hk, ht⟩ := hrel
    have HT := Lib.hid ht
    by_cases hlt : (k : Int) < 128
    · obtain ⟨c0, c1⟩ := ht.1
      have hl := ht.lt
      have hle := Cs.textTo_len a b k
      clear ht
      go_wp2_with fail
      refine (impl_has _ _ _ _ (by omega) (by omega)).mono ?_
      rw [Int.toNat_natCast]
      rintro e w2 ⟨rfl, hb2⟩
      have HT1 := Lib.hid (HT.out.later hb2)
      have hl1 := HT1.out.lt
      clear hb2 c0 c1
      by_cases hm : Cs.mem a b k = true
      · go_wp2_with (at_builtin; refine wpList_append_own _ rfl _ _ 47 rfl (w.heap.size + 1) 5 i0 (.int .u8 0) 1 1 Tryd.underlying47 hi hz0 hz1 hz2 rfl (by decide) _ _ _ rfl (HT1.out.2.1.alloc _) ⟨w2.heap.size, 0, none⟩ 1 1 [.int .u8 k] rfl rfl ?c1 ?c2 ?c3 ?c4 ?c5 ?_)
        case c1 => exact new_byte _ _ _
        case c2 => exact one_byte _ _
        case c3 => exact len_small (by omega)
        case c4 => omega
        case c5 => simp; omega
        intro v' w3 hown' hgrow _
        have ho := Lib.hid (HT1.out.yes hm hown' hgrow)
        clear hown' hgrow
        go_wp2
        go_roundw
        case rel => exact ⟨k + 1, by go_num, by omega, ho.out⟩
        case measure => first | (simp [intOf]; done) | (simp [intOf]; omega)
      · have hm2 : Cs.mem a b k = false := by simpa using hm
        clear hm
        have ho := Lib.hid (HT1.out.no hm2)
        go_wp2
        go_roundw
        case rel => exact ⟨k + 1, by go_num, by omega, ho.out⟩
        case measure => first | (simp [intOf]; done) | (simp [intOf]; omega)
    · obtain rfl : k = 128 := by omega
      have hc := conv_own ht.2.1
      have HB := Lib.hid ht.2.2
      clear ht
      go_wp2
      go_ret
      exact ⟨rfl, HB.out⟩

end Go.Proofs.YtbadepiakkhabaaDoor
