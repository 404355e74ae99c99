/- Joined texts: D6, T1. No conditions besides those that each states. -/
import Derived.Laws.BytesArg
import Derived.Laws.CopyOwn
import Derived.Lib.AppendStr
import Derived.Lib.BufferWrite
import Derived.OwnWalk
import Derived.Test.YtkkopnhbafjnaaaZ8
import Derived.Test.YtkkopnhbafjnaaaZ9
/- The reference model's draws of a set, and of two. -/
namespace Go.Proofs.Ytkkopnhbafjnaaa
open Go.RowKit
set_option linter.unusedVariables false

theorem FreeSet.only {w w' : World} {cb g : Nat} {l h : Int} (s : FreeSet w g l h) (ho : Only cb w w') (hne : g ≠ cb) : FreeSet w' g l h := by
  have hb := ho.block g s.1.lt (fun e => hne (by simpa using e))
  obtain ⟨⟨s0, s1⟩, s2, s3⟩ := s
  refine ⟨⟨?_, ?_⟩, ?_, ?_⟩
  · rw [World.cell?_of_block hb]; exact s0
  · rw [World.cell?_of_block hb]; exact s1
  · simpa [World.frozen?, hb] using s2
  · simpa [World.frozen?, hb] using s3
theorem SetAt.only {w w' : World} {cb g : Nat} {l h : Int} (s : SetAt w g l h) (ho : Only cb w w') (hne : g ≠ cb) : SetAt w' g l h := by
  have hb := ho.block g s.lt (fun e => hne (by simpa using e))
  exact ⟨by rw [World.cell?_of_block hb]; exact s.1, by rw [World.cell?_of_block hb]; exact s.2⟩
theorem Only.store {cb g : Nat} {w wa : World} (h : Only cb w wa) (hg : w.heap.size ≤ g) (x y : Value) : Only cb w ((wa.setCell ⟨g, 0, none⟩ x).setCell ⟨g, 1, none⟩ y) :=
  ⟨h.os, h.tape, h.output, by simpa [World.setCell] using h.size, fun k hk hne => by
    rw [Below.heap_setCell _ _ _ _ (by show k ≠ g; omega), Below.heap_setCell _ _ _ _ (by show k ≠ g; omega)]
    exact h.block k hk hne⟩
theorem cur_store {B cb g : Nat} {wa : World} (h : IsCur B wa cb) (hg : B ≤ g) (hne : cb ≠ g) (x y : Value) : IsCur B ((wa.setCell ⟨g, 0, none⟩ x).setCell ⟨g, 1, none⟩ y) cb := by
  obtain ⟨v, n, i, k, hcb, hc, hh⟩ := h
  refine ⟨v, n, i, k, hcb, code_below hc (((Below.refl _ _).setCell hg _).setCell hg _), ?_⟩
  rw [Below.heap_setCell _ _ _ _ (by show cb ≠ g; exact hne), Below.heap_setCell _ _ _ _ (by show cb ≠ g; exact hne)]
  exact hh

/-- A set is drawn. -/
def DrawnSet (B cb : Nat) (w : World) (e : Ending) (w' : World) : Prop := ∃ l h : Int, e = .returned (.agg #[.int .i64 l, .int .i64 h]) ∧ (Cs.Fits l ∧ Cs.Fits h) ∧ IsCur B w' cb ∧ Only cb w w'
/-- The state of the draw: the result's variable, the cursor. -/
def DrawAt (B cb : Nat) (w wr : World) : Prop := FreeSet wr w.heap.size 0 0 ∧ IsCur B wr cb ∧ Only cb w wr
theorem DrawAt.only {B cb : Nat} {w wr wx : World} (h : DrawAt B cb w wr) (hc : IsCur B wx cb) (ho : Only cb wr wx) (hne : w.heap.size ≠ cb) : DrawAt B cb w wx := ⟨h.1.only ho hne, hc, h.2.2.trans ho⟩
theorem DrawAt.later {B cb : Nat} {w wr wx : World} (h : DrawAt B cb w wr) (hb : Below wr.heap.size wr wx) (hB : B ≤ w.heap.size) : DrawAt B cb w wx :=
  ⟨h.1.later hb, cur_below h.2.1 (Nat.le_trans hB h.2.2.size) hb, h.2.2.trans (Only.of_below hb)⟩
theorem DrawAt.lt {B cb : Nat} {w wr : World} (h : DrawAt B cb w wr) : w.heap.size < wr.heap.size := h.1.1.lt
/-- The draw's end. -/
theorem DrawAt.done {B cb : Nat} {w wr : World} (h : DrawAt B cb w wr) (hB : B ≤ w.heap.size) (hne : w.heap.size ≠ cb) (l k : Int) (f1 : Cs.Fits l) (f2 : Cs.Fits k) :
    DrawnSet B cb w (.returned (.agg #[.int .i64 l, .int .i64 k])) ((wr.setCell ⟨w.heap.size, 0, none⟩ (.int .i64 l)).setCell ⟨w.heap.size, 1, none⟩ (.int .i64 k)) :=
  ⟨l, k, rfl, ⟨f1, f2⟩, cur_store h.2.1 hB (Ne.symm hne) _ _, h.2.2.store (Nat.le_refl _) _ _⟩

theorem Cs.new_fits (s : ByteArray) : Cs.Fits (Cs.newL s) ∧ Cs.Fits (Cs.newH s) := by
  unfold Cs.newL Cs.newH
  constructor <;> split <;> first | exact Cs.allL_fits _ | exact Cs.allH_fits _ | exact Cs.fits_zero
theorem Cs.rng_fits (f t : Nat) : Cs.Fits (Cs.rngL f t) ∧ Cs.Fits (Cs.rngH f t) := by
  unfold Cs.rngL Cs.rngH
  constructor <;> split <;> first | exact Cs.allL_fits _ | exact Cs.allH_fits _ | exact Cs.fits_zero

/-- The texts that a draw picks from. -/
def drawTexts : List ByteArray := [⟨#[]⟩, ⟨#[97]⟩, ⟨#[97, 98, 99]⟩, ⟨#[120, 121, 122]⟩, ⟨#[48, 49, 50, 51, 52, 53, 54, 55, 56, 57]⟩, ⟨#[97, 101, 105, 111, 117]⟩, ⟨#[0, 63, 64, 127]⟩, ⟨#[32, 9, 10]⟩]
theorem drawTexts_small : ∀ s ∈ drawTexts, s.size ≤ maxLen := by
  intro s hs
  have h : s.size ≤ 10 := by
    simp only [drawTexts, List.mem_cons, List.not_mem_nil, or_false] at hs
    rcases hs with rfl | rfl | rfl | rfl | rfl | rfl | rfl | rfl <;> (show _ ≤ _; decide)
  unfold maxLen; omega

set_option maxHeartbeats 1600000 in
theorem draw_set (B cb : Nat) (w : World) (hp : IsCur B w cb) (hB : B ≤ w.heap.size) : Calls Try.prog 76 #[.pointer (some ⟨cb, 0, none⟩)] w (DrawnSet B cb w) := by
  have hcl := cur_lt hp
  have hne : w.heap.size ≠ cb := by omega
  have hz : (w.alloc (.cells #[.int .i64 0, .int .i64 0] 78)).heap.size = w.heap.size + 1 := by simp
  have hd : DrawAt B cb w (w.alloc (.cells #[.int .i64 0, .int .i64 0] 78)) := ⟨FreeSet.new _ _ _ _, cur_alloc hp hB _, only_alloc _⟩
  have hnc := new_cells Value.string drawTexts ByteArray.empty (w.alloc (.cells #[.int .i64 0, .int .i64 0] 78)) 9 _ rfl
  rw [hz] at hnc
  have HP := Lib.hid (pick_text B cb (w.heap.size + 1) 8 drawTexts _ (cur_alloc hd.2.1 (by omega) _) (by decide) (by decide) (by omega) hnc)
  have HD := Lib.hid (hd.later (bl1 _ (.cells (List.map Value.string drawTexts).toArray 9)) hB)
  clear hp hd hz hnc
  go_enter Try.func76, Try.ntmps76
  go_wp2_with fail
  refine HP.out.mono ?_
  rintro e w1 ⟨s, hs, rfl, hc1, ho1⟩
  have HD1 := Lib.hid (HD.out.only hc1 ho1 hne)
  have HN := Lib.hid (fun W => spec_new s (drawTexts_small s hs) W)
  have HF := Lib.hid (Cs.new_fits s)
  generalize Cs.newL s = l at HN HF
  generalize Cs.newH s = h at HN HF
  generalize Cs.good s = ok at HN
  clear hs hc1 ho1 HD HP
  go_wp2_with fail
  refine (HN.out _).mono ?_
  rintro e w2 ⟨rfl, hb2⟩
  have HD2 := Lib.hid ((HD1.out.later hb2 hB).later (bl1 w2 (.cells #[.int .i64 l, .int .i64 h] 78)) hB)
  have HX := Lib.hid (SetAt.new w2 l h 78)
  have hx : w.heap.size < w2.heap.size := (HD1.out.later hb2 hB).lt
  have hcx : cb < w2.heap.size := cur_lt (HD1.out.later hb2 hB).2.1
  have HB5 := Lib.hid (draw_below B cb 5 _ HD2.out.2.1 (by omega) (by omega))
  clear hb2 HD1 HN
  obtain ⟨g, hg⟩ : ∃ g, g = w2.heap.size := ⟨_, rfl⟩
  rw [← hg] at hx hcx
  have HGG := Lib.hid hg
  clear hg
  go_wp2_with fail
  refine HB5.out.mono ?_
  rintro e w3 ⟨n, rfl, hn0, hn1, hc3, ho3⟩
  have HD3 := Lib.hid (HD2.out.only hc3 ho3 hne)
  have HX3 := Lib.hid (HX.out.only ho3 (by have := HGG.out; omega))
  clear hc3 ho3 HD2 HX HB5
  by_cases hn : n = 0
  · subst hn
    obtain ⟨x0, x1⟩ := HX3.out
    go_wp2_with fail
    refine (spec_not _ _ _).mono ?_
    rintro e w4 ⟨rfl, hb4⟩
    have HD4 := Lib.hid (HD3.out.later hb4 hB)
    clear hb4 x0 x1
    obtain ⟨⟨⟨r0, r1⟩, r2, r3⟩, _, _⟩ := HD4.out
    go_wp2
    exact bodyPost_ret (v := .agg #[.int .i64 (bits .xor .i64 (-1) l), .int .i64 (bits .xor .i64 (-1) h)]) (by simp [results, Try.results76, go_sem, r0, r1]) rfl (HD4.out.done hB hne _ _ (Cs.bits_fits _ _ _) (Cs.bits_fits _ _ _))
  have n0 : (n == 0) = false := by simpa using hn
  by_cases hn1' : n = 1
  · subst hn1'
    have HW := Lib.hid (draw_whole B cb _ HD3.out.2.1 (Nat.le_trans hB (Nat.le_of_lt HD3.out.lt)))
    go_wp2_with fail
    refine HW.out.mono ?_
    rintro e w4 ⟨u, rfl, hu0, hu1, hc4, ho4⟩
    have HD4 := Lib.hid (HD3.out.only hc4 ho4 hne)
    have HW2 := Lib.hid (draw_whole B cb _ HD4.out.2.1 (Nat.le_trans hB (Nat.le_of_lt HD4.out.lt)))
    clear hc4 ho4
    go_wp2_with fail
    refine HW2.out.mono ?_
    rintro e w5 ⟨v, rfl, hv0, hv1, hc5, ho5⟩
    have HD5 := Lib.hid (HD4.out.only hc5 ho5 hne)
    clear hc5 ho5
    obtain ⟨⟨⟨r0, r1⟩, r2, r3⟩, _, _⟩ := HD5.out
    go_wp2
    exact bodyPost_ret (v := .agg #[.int .i64 u, .int .i64 v]) (by simp [results, Try.results76, go_sem, r0, r1]) rfl (HD5.out.done hB hne _ _ ⟨hu0, hu1⟩ ⟨hv0, hv1⟩)
  have n1 : (n == 1) = false := by simpa using hn1'
  by_cases hn2 : n = 2
  · subst hn2
    have HW := Lib.hid (draw_below B cb 64 _ HD3.out.2.1 (by omega) (by omega))
    go_wp2_with fail
    refine HW.out.mono ?_
    rintro e w4 ⟨u, rfl, hu0, hu1, hc4, ho4⟩
    have HD4 := Lib.hid (HD3.out.only hc4 ho4 hne)
    have HX4 := Lib.hid (HX3.out.only ho4 (by have := HGG.out; omega))
    have HW2 := Lib.hid (draw_below B cb 64 _ HD4.out.2.1 (by omega) (by omega))
    clear hc4 ho4
    go_wp2_with fail
    refine HW2.out.mono ?_
    rintro e w5 ⟨v, rfl, hv0, hv1, hc5, ho5⟩
    have HD5 := Lib.hid (HD4.out.only hc5 ho5 hne)
    have HX5 := Lib.hid (HX4.out.only ho5 (by have := HGG.out; omega))
    clear hc5 ho5
    obtain ⟨a, rfl⟩ : ∃ a : Nat, u = a := ⟨u.toNat, by omega⟩
    obtain ⟨b, rfl⟩ : ∃ b : Nat, v = b := ⟨v.toNat, by omega⟩
    have hr : ∀ W, Calls Try.prog 92 #[.int .u8 (a : Int), .int .u8 (64 + (b : Int))] W (RetNew W (Cs.rngL a (64 + b)) (Cs.rngH a (64 + b)) (Cs.rngOk a (64 + b))) := fun W => by
      have := spec_range a (64 + b) (by omega) (by omega) W
      rwa [show ((64 + b : Nat) : Int) = 64 + (b : Int) by omega] at this
    have HR := Lib.hid hr
    clear hr
    generalize Cs.rngL a (64 + b) = p at HR
    generalize Cs.rngH a (64 + b) = q at HR
    generalize Cs.rngOk a (64 + b) = ok2 at HR
    go_wp2_with fail
    refine (HR.out _).mono ?_
    rintro e w6 ⟨rfl, hb6⟩
    have HD6 := Lib.hid ((HD5.out.later hb6 hB).later (bl1 w6 (.cells #[.int .i64 p, .int .i64 q] 78)) hB)
    obtain ⟨x0, x1⟩ := (HX5.out.later hb6).later (bl1 w6 (.cells #[.int .i64 p, .int .i64 q] 78))
    clear hb6
    go_wp2_with fail
    refine (spec_sub _ _ _ _ _).mono ?_
    rintro e w7 ⟨rfl, hb7⟩
    have HD7 := Lib.hid (HD6.out.later hb7 hB)
    clear hb7 x0 x1
    obtain ⟨⟨⟨r0, r1⟩, r2, r3⟩, _, _⟩ := HD7.out
    go_wp2
    exact bodyPost_ret (v := .agg #[.int .i64 (bits .andNot .i64 p l), .int .i64 (bits .andNot .i64 q h)]) (by simp [results, Try.results76, go_sem, r0, r1]) rfl (HD7.out.done hB hne _ _ (Cs.bits_fits _ _ _) (Cs.bits_fits _ _ _))
  · have n2 : (n == 2) = false := by simpa using hn2
    obtain ⟨x0, x1⟩ := HX3.out
    obtain ⟨⟨⟨r0, r1⟩, r2, r3⟩, _, _⟩ := HD3.out
    go_wp2
    exact bodyPost_ret (v := .agg #[.int .i64 l, .int .i64 h]) (by simp [results, Try.results76, go_sem, r0, r1]) rfl (HD3.out.done hB hne _ _ HF.out.1 HF.out.2)
end Go.Proofs.Ytkkopnhbafjnaaa
/- Bytes of a call's own, as a list of bytes: append, conversion to a string, what stays. No conditions. -/
namespace Go.Proofs.Ytkkopnhbafjnaaa
open Go.RowKit
set_option linter.unusedVariables false

theorem info8 : (Try.prog.info? 5).map (fun i => (i.zero, i.size, i.bytes)) = some (some (.int .u8 0), 1, 1) := by kernel_rfl
/-- Bytes of the call's own: a slice whose elements are l, in a block from base on. -/
def Own8 (w : World) (base : Nat) (v : Value) (l : List UInt8) : Prop := w.ownsRow base 5 1 v l.length (Lib.byteCells l)
/-- Bytes as a string. -/
def str8 (l : List UInt8) : ByteArray := ⟨l.toArray⟩
theorem str8_size (l : List UInt8) : (str8 l).size = l.length := by simp [str8, ByteArray.size]
theorem str8_data (s : ByteArray) : str8 s.data.toList = s := by cases s; simp [str8]
theorem str8_list (l : List UInt8) : (str8 l).data.toList = l := by simp [str8]
theorem str8_nil : str8 [] = ByteArray.empty := rfl
theorem str8_inj {s : ByteArray} {l : List UInt8} (h : s.data.toList = l) : s = str8 l := by rw [← h, str8_data]
theorem len8 (s : ByteArray) : s.data.toList.length = s.size := rfl
theorem cells8_app (l m : List UInt8) : Lib.byteCells (l ++ m) = Lib.byteCells l ++ Lib.byteCells m := by simp [Lib.byteCells]
theorem own8_app {w1 : World} {base : Nat} {v' : Value} {l : List UInt8} {x : UInt8} (h : w1.ownsRow base 5 1 v' (l.length + 1) (Lib.byteCells l ++ [Value.int .u8 (x.toNat : Int)])) : Own8 w1 base v' (l ++ [x]) := by
  unfold Own8; rw [cells8_app, List.length_append]; exact h
theorem own8_str {w1 : World} {base : Nat} {v' : Value} {l : List UInt8} {s : ByteArray} (h : w1.ownsRow base 5 1 v' (l.length + s.size) (Lib.byteCells l ++ Lib.strCells s)) : Own8 w1 base v' (l ++ s.data.toList) := by
  unfold Own8; rw [cells8_app, List.length_append]; exact h
theorem own8_made {w1 : World} {base : Nat} {v : Value} (h : w1.ownsRow base 5 1 v 0 []) : Own8 w1 base v [] := h
theorem below8_app {w wr w1 : World} {v : Value} {l : List UInt8} {o : Obj} (hb : Below w.heap.size w wr) (hown : Own8 wr w.heap.size v l) (hg : (wr.alloc o).grownBy w1 v.ownBlock) : Below w.heap.size w w1 :=
  (hb.alloc hb.size o).grown hg (by have := hb.size; simp; omega) (fun k hk => (hown.lt k hk).1)
theorem below8_str {w wr w1 : World} {v : Value} {l : List UInt8} (hb : Below w.heap.size w wr) (hown : Own8 wr w.heap.size v l) (hg : wr.grownBy w1 v.ownBlock) : Below w.heap.size w w1 :=
  hb.grown hg hb.size (fun k hk => (hown.lt k hk).1)
theorem own8_below {w w1 : World} {base : Nat} {v : Value} {l : List UInt8} (h : Own8 w base v l) (hb : Below w.heap.size w w1) : Own8 w1 base v l := by
  refine ⟨h.1, ?_⟩
  rcases h.2 with hn | ⟨g, cap, cur, hv, hg, hgg, r⟩
  · exact .inl hn
  · exact .inr ⟨g, cap, cur, hv, hg, by rw [hb.block g (Array.getElem?_eq_some_iff.1 hgg).1]; exact hgg, r⟩
theorem new8 (w : World) (x : Value) (t : TypeId) : ∀ (j : Nat) (u : Value), [x][j]? = some u → (w.alloc (.cells #[x] t)).cell? ((⟨w.heap.size, 0, none⟩ : Addr).add j) = some u := by
  intro j u hj
  match j, hj with
  | 0, hj => simp at hj; subst hj; simp [Addr.add]
theorem one8 (k : IntKind) (x : Int) : ∀ u ∈ [Value.int k x], u.oneCell' = true := by
  intro u hu; simp at hu; subst hu; rfl
theorem max8 {n : Nat} (h : n ≤ 1048577) : n ≤ maxLen := by unfold maxLen; omega
theorem nums8 (l : List UInt8) : strOfNums (l.map fun b : UInt8 => (b.toNat : Int)) = str8 l := by
  unfold strOfNums str8
  congr 1
  rw [List.map_map]
  congr 1
  conv => rhs; rw [← List.map_id l]
  exact List.map_congr_left fun b _ => by simp
/-- A string made of bytes that can be read. -/
theorem conv8_cells {w : World} (g cap : Nat) (l : List UInt8) (h : ∀ j, j < l.length → w.cell? ⟨g, j, none⟩ = (Lib.byteCells l)[j]?) : (convert 22 9 (.slice (some ⟨g, 0, none⟩) l.length cap)).run Try.prog w = .ok (.string (str8 l)) w := by
  have e := run_convert_bytes_arg (P := Try.prog) w 22 5 Try.underlying22 Try.underlying5 g 0 l.length cap (l.map fun b : UInt8 => (b.toNat : Int)) (by simp) (fun i hi => by
    rw [Nat.zero_add, h i (by omega)]
    simp [Lib.byteCells, List.getD, List.getElem?_eq_getElem hi]) 9 Try.underlying9
  rw [nums8] at e
  exact e
theorem conv8 {w : World} {base : Nat} {v : Value} {l : List UInt8} (h : Own8 w base v l) : (convert 22 9 v).run Try.prog w = .ok (.string (str8 l)) w := by
  have h2 := h.2
  rcases h2 with ⟨rfl, h0⟩ | ⟨g, cap, cur, rfl, hg⟩
  · have : l = [] := List.length_eq_zero_iff.1 h0
    subst this
    exact run_convert_bytes_nil (P := Try.prog) w 22 5 Try.underlying22 Try.underlying5 0 0 9 Try.underlying9
  · exact conv8_cells g cap l (fun j hj => h.cellAt j (by omega))
/-- A call that returns a text, and makes memory alone. -/
def RetT (w : World) (s : ByteArray) (e : Ending) (w' : World) : Prop := e = .returned (.string s) ∧ Below w.heap.size w w'
theorem below_then {w wa wb : World} (h : Below w.heap.size w wa) (hb : Below wa.heap.size wa wb) : Below w.heap.size w wb := h.trans (hb.mono h.size)
end Go.Proofs.Ytkkopnhbafjnaaa
