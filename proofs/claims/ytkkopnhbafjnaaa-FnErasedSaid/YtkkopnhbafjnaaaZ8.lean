/- Joined texts: D4, C2, C3. No conditions besides those that each states. -/
import Derived.Test.YtkkopnhbafjnaaaProg
import Derived.WalkKit
import Derived.ProofKit
import Derived.WalkLawsBesides
import Derived.WalkSpells
import Derived.Below
import Derived.Lib.Hide
import Derived.Deep.RegionHeld3
import Derived.Deep.DrawnRows
import Derived.Test.YtkkopnhbafjnaaaZ1
import Derived.Test.YtkkopnhbafjnaaaZ7
/- The reference model's draws of an integer; a code that came in. -/
namespace Go.Proofs.Ytkkopnhbafjnaaa
open Go.RowKit
set_option linter.unusedVariables false

/-- The cells of a new block. -/
theorem new_cells {α : Type} (mk : α → Value) (l : List α) (d : α) (w : World) (t : TypeId) (arr : Array Value) (ha : arr = (l.map mk).toArray) : ∀ i, i < l.length → (w.alloc (.cells arr t)).cell? ⟨w.heap.size, i, none⟩ = some (mk (l.getD i d)) := by
  intro i hi
  subst ha
  rw [World.cell?_alloc_mark]
  simp [List.getD, List.getElem?_eq_getElem hi]

theorem only_alloc {cb : Nat} {w : World} (o : Obj) : Only cb w (w.alloc o) := ⟨rfl, rfl, rfl, by simp, fun k hk _ => Below.heap_alloc _ _ _ hk⟩
theorem cur_alloc {B cb : Nat} {w : World} (h : IsCur B w cb) (hB : B ≤ w.heap.size) (o : Obj) : IsCur B (w.alloc o) cb := cur_below h hB ((Below.refl _ _).alloc (Nat.le_refl _) o)
theorem cur_lt {B cb : Nat} {w : World} (h : IsCur B w cb) : cb < w.heap.size := by
  obtain ⟨v, n, i, h, hcb, hc, hh⟩ := h
  exact (Array.getElem?_eq_some_iff.1 hh).1

/-- An integer of 64 bits is drawn. -/
def DrawnInt (B cb : Nat) (w : World) (e : Ending) (w' : World) : Prop := ∃ x : Int, e = .returned (.int .i64 x) ∧ -9223372036854775808 ≤ x ∧ x ≤ 9223372036854775807 ∧ IsCur B w' cb ∧ Only cb w w'

set_option maxHeartbeats 400000 in
theorem draw_whole (B cb : Nat) (w : World) (hp : IsCur B w cb) (hB : B ≤ w.heap.size) :
    Calls Try.prog 91 #[.pointer (some ⟨cb, 0, none⟩)] w (DrawnInt B cb w) := by
  have HB := Lib.hid (draw_below B cb 3 w hp (by omega) (by omega))
  clear hp
  go_enter Try.func91, Try.ntmps91
  go_wp2_with fail
  refine HB.out.mono ?_
  rintro e w1 ⟨x, rfl, hx0, hx1, hcur, ho⟩
  have HCur := Lib.hid hcur
  have HO := Lib.hid ho
  have hB1 : B ≤ w1.heap.size := Nat.le_trans hB ho.size
  have hcb := cur_lt hcur
  clear hcur ho
  by_cases h0 : x = 0
  · have hx : (x == 0) = true := by simpa using h0
    subst h0
    go_wp2_with fail
    refine (pick_int B cb w1.heap.size 12 [0, 1, -1, 9, 10, 999999, 1000000, 999999999999, 1000000000000, -999999999999, 9223372036854775807, -9223372036854775808] _ (cur_alloc HCur.out hB1 _) (by decide) (by decide) (by omega) (new_cells (Value.int .i64) _ 0 w1 _ _ rfl)).mono ?_
    rintro e w2 ⟨y, hy, rfl, hc2, ho2⟩
    have HC2 := Lib.hid hc2
    have HO2 := Lib.hid (HO.out.trans ((only_alloc _).trans ho2))
    have HY : Hid (-9223372036854775808 ≤ y ∧ y ≤ 9223372036854775807) := by
      simp only [List.mem_cons, List.not_mem_nil, or_false] at hy
      show _ ∧ _
      omega
    clear hy hc2 ho2
    go_wp2
    go_ret
    exact ⟨y, rfl, HY.out.1, HY.out.2, HC2.out, HO2.out⟩
  · have hx : (x == 0) = false := by simpa using h0
    by_cases h1 : x = 1
    · have hx2 : (x == 1) = true := by simpa using h1
      subst h1
      have HD := Lib.hid (draw_below B cb 1000000 w1 HCur.out (by omega) (by omega))
      go_wp2_with fail
      refine HD.out.mono ?_
      rintro e w2 ⟨y, rfl, hy0, hy1, hc2, ho2⟩
      have HC2 := Lib.hid hc2
      have HO2 := Lib.hid (HO.out.trans ho2)
      clear hc2 ho2
      go_wp2
      go_ret
      exact ⟨y - 500000, rfl, by omega, by omega, HC2.out, HO2.out⟩
    · have hx2 : (x == 1) = false := by simpa using h1
      have HD := Lib.hid (draw_below B cb 20 w1 HCur.out (by omega) (by omega))
      go_wp2_with fail
      refine HD.out.mono ?_
      rintro e w2 ⟨y, rfl, hy0, hy1, hc2, ho2⟩
      have HC2 := Lib.hid hc2
      have HO2 := Lib.hid (HO.out.trans ho2)
      clear hc2 ho2
      go_wp2
      go_ret
      exact ⟨y, rfl, by omega, by omega, HC2.out, HO2.out⟩

theorem add_off (g o i : Nat) : (⟨g, o, none⟩ : Addr).add i = ⟨g, o + i, none⟩ := by
  unfold Addr.add; split <;> simp_all

/-- Bytes that came in, as a draw wants them. -/
theorem code_of_in {w : World} {a : Option Addr} {len cap : Nat} {z : List Int} (h : IsRow .u8 w a len cap z) : Code w.heap.size w (.slice a len cap) len := by
  rcases h with ⟨rfl, rfl, rfl, rfl⟩ | ⟨x, rfl, hl, hm, hz, hc, hs⟩
  · exact .inl ⟨⟨_, _, rfl⟩, rfl⟩
  · by_cases h0 : len = 0
    · subst h0; exact .inl ⟨⟨_, _, rfl⟩, rfl⟩
    · obtain ⟨b, off, spot⟩ := x
      have hspot : spot = none := by simpa [Addr.add] using World.cell?_spot (hc 0 (by omega))
      subst hspot
      have hc0 := hc 0 (by omega)
      refine .inr ⟨b, off, cap, rfl, World.block_lt_of_cell? w _ hc0, by omega, fun j hj => ⟨z.getD j 0, ?_, ?_⟩⟩
      · rw [← add_off b off j]; exact hc j (by omega)
      · have h1 : z.getD j 0 = z[j]'(by omega) := by simp [List.getD, List.getElem?_eq_getElem (show j < z.length by omega)]
        rw [h1]
        have h2 := hs _ (List.getElem_mem (show j < z.length by omega))
        simpa [Lit.wf, IntKind.min, IntKind.max, IntKind.signed, IntKind.bits] using h2

/-- A code that is not too long. -/
theorem big_no (a : Option Addr) (len cap : Nat) (w : World) (h : (len : Int) ≤ 1048576) :
    Calls Try.prog 11 #[.slice a len cap] w fun e w' => e = .returned (.bool false) ∧ w = w' := by
  have h2 : decide ((1048576 : Int) < len) = false := by simp; omega
  go_enter Try.func11, Try.ntmps11
  go_wp2
  go_ret
  exact ⟨by rw [show Value.bool false = Value.bool (decide ((1048576 : Int) < len)) from by rw [h2]]; first | rfl | simp, rfl⟩

end Go.Proofs.Ytkkopnhbafjnaaa
/- The set operations on two words, and the law's own conversions: what each returns. No conditions. -/
namespace Go.Proofs.Ytkkopnhbafjnaaa
open Go.RowKit
set_option linter.unusedVariables false

/-- A call that returns a set, and makes memory alone. -/
def RetSet (w : World) (l h : Int) (e : Ending) (w' : World) : Prop := e = .returned (.agg #[.int .i64 l, .int .i64 h]) ∧ Below w.heap.size w w'
/-- A call that returns a bool, and makes memory alone. -/
def RetBool (w : World) (b : Bool) (e : Ending) (w' : World) : Prop := e = .returned (.bool b) ∧ Below w.heap.size w w'
theorem bl1 (w : World) (o : Obj) : Below w.heap.size w (w.alloc o) := (Below.refl _ _).alloc (Nat.le_refl _) _
theorem bl2 (w : World) (o p : Obj) : Below w.heap.size w ((w.alloc o).alloc p) := (bl1 w o).alloc (by simp) _
theorem bl3 (w : World) (o p q : Obj) : Below w.heap.size w (((w.alloc o).alloc p).alloc q) := (bl2 w o p).alloc (by simp; omega) _

theorem impl_and (a b c d : Int) (w : World) : Calls Try.prog 95 #[.agg #[.int .i64 a, .int .i64 b], .agg #[.int .i64 c, .int .i64 d]] w (RetSet w (bits .and .i64 a c) (bits .and .i64 b d)) := by
  go_enter Try.func95, Try.ntmps95
  go_wp2
  exact bodyPost_ret (v := .agg #[.int .i64 (bits .and .i64 a c), .int .i64 (bits .and .i64 b d)]) (by simp [results, Try.results95, go_sem]) rfl ⟨rfl, bl3 _ _ _ _⟩
theorem impl_or (a b c d : Int) (w : World) : Calls Try.prog 82 #[.agg #[.int .i64 a, .int .i64 b], .agg #[.int .i64 c, .int .i64 d]] w (RetSet w (bits .or .i64 a c) (bits .or .i64 b d)) := by
  go_enter Try.func82, Try.ntmps82
  go_wp2
  exact bodyPost_ret (v := .agg #[.int .i64 (bits .or .i64 a c), .int .i64 (bits .or .i64 b d)]) (by simp [results, Try.results82, go_sem]) rfl ⟨rfl, bl3 _ _ _ _⟩
theorem spec_sub (a b c d : Int) (w : World) : Calls Try.prog 93 #[.agg #[.int .i64 a, .int .i64 b], .agg #[.int .i64 c, .int .i64 d]] w (RetSet w (bits .andNot .i64 a c) (bits .andNot .i64 b d)) := by
  go_enter Try.func93, Try.ntmps93
  go_wp2
  exact bodyPost_ret (v := .agg #[.int .i64 (bits .andNot .i64 a c), .int .i64 (bits .andNot .i64 b d)]) (by simp [results, Try.results93, go_sem]) rfl ⟨rfl, bl3 _ _ _ _⟩
theorem spec_not (a b : Int) (w : World) : Calls Try.prog 90 #[.agg #[.int .i64 a, .int .i64 b]] w (RetSet w (bits .xor .i64 (-1) a) (bits .xor .i64 (-1) b)) := by
  go_enter Try.func90, Try.ntmps90
  go_wp2
  exact bodyPost_ret (v := .agg #[.int .i64 (bits .xor .i64 (-1) a), .int .i64 (bits .xor .i64 (-1) b)]) (by simp [results, Try.results90, go_sem]) rfl ⟨rfl, bl2 _ _ _⟩
/-- The words of the set of one byte. -/
def Cs.oneL (x : Int) : Int := if x < 64 then Cs.unit x.toNat else 0
def Cs.oneH (x : Int) : Int := if x < 64 then 0 else if x < 128 then Cs.unit (x - 64).toNat else 0
theorem impl_one (x : Int) (w : World) (h0 : 0 ≤ x) (h1 : x ≤ 255) : Calls Try.prog 83 #[.int .u8 x] w (RetSet w (Cs.oneL x) (Cs.oneH x)) := by
  unfold Cs.oneL Cs.oneH Cs.unit
  by_cases ha : x < 64
  · rw [if_pos ha, if_pos ha]
    go_enter Try.func83, Try.ntmps83
    go_wp2
    exact bodyPost_ret (v := .agg #[.int .i64 (wrap64 (2 ^ x.toNat)), .int .i64 0]) (by simp [results, Try.results83, go_sem]) rfl ⟨rfl, bl1 _ _⟩
  · rw [if_neg ha, if_neg ha]
    by_cases hb : x < 128
    · rw [if_pos hb]
      go_enter Try.func83, Try.ntmps83
      go_wp2
      exact bodyPost_ret (v := .agg #[.int .i64 0, .int .i64 (wrap64 (2 ^ (x - 64).toNat))]) (by simp [results, Try.results83, go_sem]) rfl ⟨rfl, bl1 _ _⟩
    · rw [if_neg hb]
      go_enter Try.func83, Try.ntmps83
      go_wp2
      exact bodyPost_ret (v := .agg #[.int .i64 0, .int .i64 0]) (by simp [results, Try.results83, go_sem]) rfl ⟨rfl, bl1 _ _⟩
theorem spec_add (a b x : Int) (w : World) (h0 : 0 ≤ x) (h1 : x < 128) : Calls Try.prog 77 #[.agg #[.int .i64 a, .int .i64 b], .int .u8 x] w (RetSet w (Cs.addL a x.toNat) (Cs.addH b x.toNat)) := by
  by_cases ha : x < 64
  · have e1 : Cs.addL a x.toNat = bits .or .i64 a (wrap64 (2 ^ x.toNat)) := if_pos (by omega)
    have e2 : Cs.addH b x.toNat = b := if_pos (by omega)
    rw [e1, e2]
    clear e1 e2
    go_enter Try.func77, Try.ntmps77
    go_wp2
    exact bodyPost_ret (v := .agg #[.int .i64 (bits .or .i64 a (wrap64 (2 ^ x.toNat))), .int .i64 b]) (by simp [results, Try.results77, go_sem]) rfl ⟨rfl, bl2 _ _ _⟩
  · have e0 : x.toNat - 64 = (x - 64).toNat := by omega
    have e1 : Cs.addL a x.toNat = a := if_neg (by omega)
    have e2 : Cs.addH b x.toNat = bits .or .i64 b (wrap64 (2 ^ (x - 64).toNat)) := by rw [← e0]; exact if_neg (by omega)
    rw [e1, e2]
    clear e0 e1 e2
    go_enter Try.func77, Try.ntmps77
    go_wp2
    exact bodyPost_ret (v := .agg #[.int .i64 a, .int .i64 (bits .or .i64 b (wrap64 (2 ^ (x - 64).toNat)))]) (by simp [results, Try.results77, go_sem]) rfl ⟨rfl, bl2 _ _ _⟩
theorem spec_has (a b x : Int) (w : World) (h0 : 0 ≤ x) (h1 : x ≤ 255) : Calls Try.prog 78 #[.agg #[.int .i64 a, .int .i64 b], .int .u8 x] w (RetBool w (Cs.mem a b x.toNat)) := by
  by_cases ha : x < 64
  · rw [Cs.mem_low (by omega), ← Cs.test_bit a x.toNat (by omega)]
    unfold Cs.unit
    go_enter Try.func78, Try.ntmps78
    go_wp2
    go_ret
    exact ⟨rfl, bl1 _ _⟩
  · by_cases hb : x < 128
    · have e0 : x.toNat - 64 = (x - 64).toNat := by omega
      rw [Cs.mem_high (by omega) (by omega), e0, ← Cs.test_bit b (x - 64).toNat (by omega)]
      clear e0
      unfold Cs.unit
      go_enter Try.func78, Try.ntmps78
      go_wp2
      go_ret
      exact ⟨rfl, bl1 _ _⟩
    · rw [Cs.mem_out (by omega)]
      go_enter Try.func78, Try.ntmps78
      go_wp2
      go_ret
      exact ⟨rfl, bl1 _ _⟩
end Go.Proofs.Ytkkopnhbafjnaaa
/- HasByte of the program, and the walks of the laws on HasByte and on the four set operations. No conditions. -/
namespace Go.Proofs.Ytkkopnhbafjnaaa
open Go.RowKit
attribute [local go_sem ↓] Go.wp_at_zero Go.wp_at_succ
set_option linter.unusedVariables false

theorem Cs.has_one (a b x : Int) (h0 : 0 ≤ x) (h1 : x ≤ 255) : (!(bits .and .i64 a (Cs.oneL x) == 0) || !(bits .and .i64 b (Cs.oneH x) == 0)) = Cs.mem a b x.toNat := by
  unfold Cs.oneL Cs.oneH
  by_cases ha : x < 64
  · rw [if_pos ha, if_pos ha, Cs.mem_low (by omega), Cs.and_zero, ← Cs.test_bit a x.toNat (by omega)]
    simp [bne]
  · rw [if_neg ha, if_neg ha, Cs.and_zero]
    by_cases hb : x < 128
    · have e0 : x.toNat - 64 = (x - 64).toNat := by omega
      rw [if_pos hb, Cs.mem_high (by omega) (by omega), e0, ← Cs.test_bit b (x - 64).toNat (by omega)]
      simp [bne]
    · rw [if_neg hb, Cs.mem_out (by omega), Cs.and_zero]; rfl

theorem below_step {w wa wb : World} (h : Below w.heap.size w wa) (hb : Below wa.heap.size wa wb) : Below w.heap.size w wb := h.trans (hb.mono h.size)
theorem keep_cells {B : Nat} {w0 w1 w2 : World} {cs : Array Value} {T : TypeId} {fr : Nat × Nat} (h : w1.heap[B]? = some (.cells cs T fr)) (hb : Below w1.heap.size w1 w2) : w2.heap[B]? = some (.cells cs T fr) := by
  rw [hb.block B (Array.getElem?_eq_some_iff.1 h).1]; exact h

/-- What HasByte returns, by the two words of the intersection. -/
theorem has_by (a b x p q : Int) (w : World) (h0 : 0 ≤ x) (h1 : x ≤ 255) (HI : Hid (∀ W, Calls Try.prog 95 #[.agg #[.int .i64 a, .int .i64 b], .agg #[.int .i64 (Cs.oneL x), .int .i64 (Cs.oneH x)]] W (RetSet W p q))) (r : Bool)
    (hr : (p ≠ 0 ∧ r = true) ∨ (p = 0 ∧ q ≠ 0 ∧ r = true) ∨ (p = 0 ∧ q = 0 ∧ r = false)) : Calls Try.prog 85 #[.agg #[.int .i64 a, .int .i64 b], .int .u8 x] w (RetBool w r) := by
  rcases hr with ⟨hp, rfl⟩ | ⟨rfl, hq, rfl⟩ | ⟨rfl, rfl, rfl⟩
  · have hp2 : (p == 0) = false := by simpa using hp
    clear hp
    go_enter Try.func85, Try.ntmps85
    go_wp2
    go_region_held3 (fun w' => w'.cell? ⟨w.heap.size, 0, none⟩ = some (.int .i64 a) ∧ w'.cell? ⟨w.heap.size, 1, none⟩ = some (.int .i64 b) ∧ Below w.heap.size w w')
      (first | ((refine ⟨?_, ?_, (bl1 _ _).drew⟩) <;> go_keep) | (go_split_ands; exact ⟨cell_later (by assumption) (by assumption), cell_later (by assumption) (by assumption), below_step (by assumption) (by assumption)⟩))
      (first | (go_at_call 83; refine (impl_one x _ h0 h1).mono ?_; rintro e w1 ⟨rfl, hb1⟩) | (go_at_call 95; refine (HI.out _).mono ?_; rintro e w2 ⟨rfl, hb2⟩))
    have hB : Below w.heap.size w w2 := by
      have hh := ‹w2.cell? ⟨w.heap.size, 0, none⟩ = some (.int .i64 a) ∧ w2.cell? ⟨w.heap.size, 1, none⟩ = some (.int .i64 b) ∧ Below w.heap.size w w2›
      exact hh.2.2
    go_wp2
    go_ret
    exact ⟨rfl, hB⟩
  · have hq2 : (q == 0) = false := by simpa using hq
    clear hq
    go_enter Try.func85, Try.ntmps85
    go_wp2
    go_region_held3 (fun w' => w'.cell? ⟨w.heap.size, 0, none⟩ = some (.int .i64 a) ∧ w'.cell? ⟨w.heap.size, 1, none⟩ = some (.int .i64 b) ∧ Below w.heap.size w w')
      (first | ((refine ⟨?_, ?_, (bl1 _ _).drew⟩) <;> go_keep) | (go_split_ands; exact ⟨cell_later (by assumption) (by assumption), cell_later (by assumption) (by assumption), below_step (by assumption) (by assumption)⟩))
      (first | (go_at_call 83; refine (impl_one x _ h0 h1).mono ?_; rintro e w1 ⟨rfl, hb1⟩) | (go_at_call 95; refine (HI.out _).mono ?_; rintro e w2 ⟨rfl, hb2⟩))
    have hB : Below w.heap.size w w2 := by
      have hh := ‹w2.cell? ⟨w.heap.size, 0, none⟩ = some (.int .i64 a) ∧ w2.cell? ⟨w.heap.size, 1, none⟩ = some (.int .i64 b) ∧ Below w.heap.size w w2›
      exact hh.2.2
    go_wp2
    go_ret
    exact ⟨rfl, hB⟩
  · go_enter Try.func85, Try.ntmps85
    go_wp2
    go_region_held3 (fun w' => w'.cell? ⟨w.heap.size, 0, none⟩ = some (.int .i64 a) ∧ w'.cell? ⟨w.heap.size, 1, none⟩ = some (.int .i64 b) ∧ Below w.heap.size w w')
      (first | ((refine ⟨?_, ?_, (bl1 _ _).drew⟩) <;> go_keep) | (go_split_ands; exact ⟨cell_later (by assumption) (by assumption), cell_later (by assumption) (by assumption), below_step (by assumption) (by assumption)⟩))
      (first | (go_at_call 83; refine (impl_one x _ h0 h1).mono ?_; rintro e w1 ⟨rfl, hb1⟩) | (go_at_call 95; refine (HI.out _).mono ?_; rintro e w2 ⟨rfl, hb2⟩))
    have hB : Below w.heap.size w w2 := by
      have hh := ‹w2.cell? ⟨w.heap.size, 0, none⟩ = some (.int .i64 a) ∧ w2.cell? ⟨w.heap.size, 1, none⟩ = some (.int .i64 b) ∧ Below w.heap.size w w2›
      exact hh.2.2
    go_wp2
    go_ret
    exact ⟨rfl, hB⟩

theorem impl_has (a b x : Int) (w : World) (h0 : 0 ≤ x) (h1 : x ≤ 255) : Calls Try.prog 85 #[.agg #[.int .i64 a, .int .i64 b], .int .u8 x] w (RetBool w (Cs.mem a b x.toNat)) := by
  rw [← Cs.has_one a b x h0 h1]
  refine has_by a b x _ _ w h0 h1 (fun W => impl_and _ _ _ _ W) _ ?_
  generalize bits .and .i64 a (Cs.oneL x) = p
  generalize bits .and .i64 b (Cs.oneH x) = q
  by_cases hp : p = 0
  · by_cases hq : q = 0
    · exact .inr (.inr ⟨hp, hq, by simp [hp, hq]⟩)
    · exact .inr (.inl ⟨hp, hq, by simp [hp, hq]⟩)
  · exact .inl ⟨hp, by simp [hp]⟩

end Go.Proofs.Ytkkopnhbafjnaaa
