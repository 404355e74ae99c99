/- Joined texts: B0, C2, C3, C4, C9, C6, C7. No conditions besides those that each states. -/
import Derived.Test.YtbadepiakkhabaaDoorProg
import Derived.WalkKit
import Derived.ProofKit
import Derived.OpenShut
import Derived.ShutString
import Derived.ChangeOld
import Derived.Below
import Derived.SliceStrings
import Derived.WalkLawsBesides
import Derived.WalkSpells
import Derived.Lib.Hide
import Derived.Deep.RegionHeld3
import Derived.Deep.DrawnRows
import Derived.Deep.DeepCutAuto
import Derived.Laws.Bits128
import Derived.Deep.QuietTactic
import Derived.BigQuiet
import Derived.Test.YtbadepiakkhabaaDoorZ2
import Derived.Test.YtbadepiakkhabaaDoorZ3
/- What a walk is told of slices that came in, and two closed facts about the program. No conditions. -/
namespace Go.Proofs.YtbadepiakkhabaaDoor
open Go.ChangeShapes Go.WideShapes Go.ChangeAt Go.RowKit

theorem own : ownKnob Tryd.prog.godebug = none := by kernel_rfl
theorem laidOut : laidOutB Tryd.prog = true := by kernel_rfl

/-- A slice of integers that came in: nil, or a row of cells. -/
def IsRow (k : IntKind) (w : World) (a : Option Addr) (len cap : Nat) (zs : List Int) : Prop :=
  (a = none ∧ len = 0 ∧ cap = 0 ∧ zs = []) ∨
  ∃ x, a = some x ∧ len ≤ cap ∧ cap ≤ maxLen ∧ zs.length = cap ∧ (∀ i, i < zs.length → w.cell? (x.add i) = some (.int k (zs.getD i 0))) ∧ ∀ n ∈ zs, (Lit.int k n).wf = true

/-- A slice of strings that came in. -/
def IsStrs (w : World) (a : Option Addr) (len cap : Nat) (zs : List ByteArray) : Prop :=
  (a = none ∧ len = 0 ∧ cap = 0 ∧ zs = []) ∨
  ∃ x, a = some x ∧ len ≤ cap ∧ cap ≤ maxLen ∧ zs.length = cap ∧ (∀ i, i < zs.length → w.cell? (x.add i) = some (.string (zs.getD i ByteArray.empty))) ∧ ∀ s ∈ zs, s.size ≤ maxLen

end Go.Proofs.YtbadepiakkhabaaDoor
/- The set operations on two words, and the law's own conversions: what each returns. No conditions. -/
namespace Go.Proofs.YtbadepiakkhabaaDoor
open Go.RowKit
set_option linter.unusedVariables false

/-- A call that returns a set, and makes memory alone. -/
def RetSet (w : World) (l h : Int) (e : Ending) (w' : World) : Prop := e = .returned (.agg #[.int .i64 l, .int .i64 h]) ∧ Below w.heap.size w w'
/-- A call that returns a bool, and makes memory alone. -/
def RetBool (w : World) (b : Bool) (e : Ending) (w' : World) : Prop := e = .returned (.bool b) ∧ Below w.heap.size w w'
theorem bl1 (w : World) (o : Obj) : Below w.heap.size w (w.alloc o) := (Below.refl _ _).alloc (Nat.le_refl _) _
theorem bl2 (w : World) (o p : Obj) : Below w.heap.size w ((w.alloc o).alloc p) := (bl1 w o).alloc (by simp) _
theorem bl3 (w : World) (o p q : Obj) : Below w.heap.size w (((w.alloc o).alloc p).alloc q) := (bl2 w o p).alloc (by simp; omega) _

theorem impl_and (a b c d : Int) (w : World) : Calls Tryd.prog 162 #[.agg #[.int .i64 a, .int .i64 b], .agg #[.int .i64 c, .int .i64 d]] w (RetSet w (bits .and .i64 a c) (bits .and .i64 b d)) := by
  go_enter Tryd.func162, Tryd.ntmps162
  go_wp2
  exact bodyPost_ret (v := .agg #[.int .i64 (bits .and .i64 a c), .int .i64 (bits .and .i64 b d)]) (by simp [results, Tryd.results162, go_sem]) rfl ⟨rfl, bl3 _ _ _ _⟩
theorem impl_or (a b c d : Int) (w : World) : Calls Tryd.prog 153 #[.agg #[.int .i64 a, .int .i64 b], .agg #[.int .i64 c, .int .i64 d]] w (RetSet w (bits .or .i64 a c) (bits .or .i64 b d)) := by
  go_enter Tryd.func153, Tryd.ntmps153
  go_wp2
  exact bodyPost_ret (v := .agg #[.int .i64 (bits .or .i64 a c), .int .i64 (bits .or .i64 b d)]) (by simp [results, Tryd.results153, go_sem]) rfl ⟨rfl, bl3 _ _ _ _⟩
theorem spec_sub (a b c d : Int) (w : World) : Calls Tryd.prog 147 #[.agg #[.int .i64 a, .int .i64 b], .agg #[.int .i64 c, .int .i64 d]] w (RetSet w (bits .andNot .i64 a c) (bits .andNot .i64 b d)) := by
  go_enter Tryd.func147, Tryd.ntmps147
  go_wp2
  exact bodyPost_ret (v := .agg #[.int .i64 (bits .andNot .i64 a c), .int .i64 (bits .andNot .i64 b d)]) (by simp [results, Tryd.results147, go_sem]) rfl ⟨rfl, bl3 _ _ _ _⟩
theorem spec_not (a b : Int) (w : World) : Calls Tryd.prog 144 #[.agg #[.int .i64 a, .int .i64 b]] w (RetSet w (bits .xor .i64 (-1) a) (bits .xor .i64 (-1) b)) := by
  go_enter Tryd.func144, Tryd.ntmps144
  go_wp2
  exact bodyPost_ret (v := .agg #[.int .i64 (bits .xor .i64 (-1) a), .int .i64 (bits .xor .i64 (-1) b)]) (by simp [results, Tryd.results144, go_sem]) rfl ⟨rfl, bl2 _ _ _⟩
theorem to_set (a b : Int) (w : World) : Calls Tryd.prog 21 #[.agg #[.int .i64 a, .int .i64 b]] w (RetSet w a b) := by
  go_enter Tryd.func21, Tryd.ntmps21
  go_wp2
  exact bodyPost_ret (v := .agg #[.int .i64 a, .int .i64 b]) (by simp [results, Tryd.results21, go_sem]) rfl ⟨rfl, bl3 _ _ _ _⟩

/-- The words of the set of one byte. -/
def Cs.oneL (x : Int) : Int := if x < 64 then Cs.unit x.toNat else 0
def Cs.oneH (x : Int) : Int := if x < 64 then 0 else if x < 128 then Cs.unit (x - 64).toNat else 0
theorem impl_one (x : Int) (w : World) (h0 : 0 ≤ x) (h1 : x ≤ 255) : Calls Tryd.prog 154 #[.int .u8 x] w (RetSet w (Cs.oneL x) (Cs.oneH x)) := by
  unfold Cs.oneL Cs.oneH Cs.unit
  by_cases ha : x < 64
  · rw [if_pos ha, if_pos ha]
    go_enter Tryd.func154, Tryd.ntmps154
    go_wp2
    exact bodyPost_ret (v := .agg #[.int .i64 (wrap64 (2 ^ x.toNat)), .int .i64 0]) (by simp [results, Tryd.results154, go_sem]) rfl ⟨rfl, bl1 _ _⟩
  · rw [if_neg ha, if_neg ha]
    by_cases hb : x < 128
    · rw [if_pos hb]
      go_enter Tryd.func154, Tryd.ntmps154
      go_wp2
      exact bodyPost_ret (v := .agg #[.int .i64 0, .int .i64 (wrap64 (2 ^ (x - 64).toNat))]) (by simp [results, Tryd.results154, go_sem]) rfl ⟨rfl, bl1 _ _⟩
    · rw [if_neg hb]
      go_enter Tryd.func154, Tryd.ntmps154
      go_wp2
      exact bodyPost_ret (v := .agg #[.int .i64 0, .int .i64 0]) (by simp [results, Tryd.results154, go_sem]) rfl ⟨rfl, bl1 _ _⟩
theorem spec_add (a b x : Int) (w : World) (h0 : 0 ≤ x) (h1 : x < 128) : Calls Tryd.prog 91 #[.agg #[.int .i64 a, .int .i64 b], .int .u8 x] w (RetSet w (Cs.addL a x.toNat) (Cs.addH b x.toNat)) := by
  by_cases ha : x < 64
  · have e1 : Cs.addL a x.toNat = bits .or .i64 a (wrap64 (2 ^ x.toNat)) := if_pos (by omega)
    have e2 : Cs.addH b x.toNat = b := if_pos (by omega)
    rw [e1, e2]
    clear e1 e2
    go_enter Tryd.func91, Tryd.ntmps91
    go_wp2
    exact bodyPost_ret (v := .agg #[.int .i64 (bits .or .i64 a (wrap64 (2 ^ x.toNat))), .int .i64 b]) (by simp [results, Tryd.results91, go_sem]) rfl ⟨rfl, bl2 _ _ _⟩
  · have e0 : x.toNat - 64 = (x - 64).toNat := by omega
    have e1 : Cs.addL a x.toNat = a := if_neg (by omega)
    have e2 : Cs.addH b x.toNat = bits .or .i64 b (wrap64 (2 ^ (x - 64).toNat)) := by rw [← e0]; exact if_neg (by omega)
    rw [e1, e2]
    clear e0 e1 e2
    go_enter Tryd.func91, Tryd.ntmps91
    go_wp2
    exact bodyPost_ret (v := .agg #[.int .i64 a, .int .i64 (bits .or .i64 b (wrap64 (2 ^ (x - 64).toNat)))]) (by simp [results, Tryd.results91, go_sem]) rfl ⟨rfl, bl2 _ _ _⟩
theorem spec_has (a b x : Int) (w : World) (h0 : 0 ≤ x) (h1 : x ≤ 255) : Calls Tryd.prog 92 #[.agg #[.int .i64 a, .int .i64 b], .int .u8 x] w (RetBool w (Cs.mem a b x.toNat)) := by
  by_cases ha : x < 64
  · rw [Cs.mem_low (by omega), ← Cs.test_bit a x.toNat (by omega)]
    unfold Cs.unit
    go_enter Tryd.func92, Tryd.ntmps92
    go_wp2
    go_ret
    exact ⟨rfl, bl1 _ _⟩
  · by_cases hb : x < 128
    · have e0 : x.toNat - 64 = (x - 64).toNat := by omega
      rw [Cs.mem_high (by omega) (by omega), e0, ← Cs.test_bit b (x - 64).toNat (by omega)]
      clear e0
      unfold Cs.unit
      go_enter Tryd.func92, Tryd.ntmps92
      go_wp2
      go_ret
      exact ⟨rfl, bl1 _ _⟩
    · rw [Cs.mem_out (by omega)]
      go_enter Tryd.func92, Tryd.ntmps92
      go_wp2
      go_ret
      exact ⟨rfl, bl1 _ _⟩
end Go.Proofs.YtbadepiakkhabaaDoor
/- HasByte of the program, and the walks of the laws on HasByte and on the four set operations. No conditions. -/
namespace Go.Proofs.YtbadepiakkhabaaDoor
open Go.RowKit
attribute [local go_sem ↓] Go.wp_at_zero Go.wp_at_succ
set_option linter.unusedVariables false

theorem Cs.has_one (a b x : Int) (h0 : 0 ≤ x) (h1 : x ≤ 255) : (!(bits .and .i64 a (Cs.oneL x) == 0) || !(bits .and .i64 b (Cs.oneH x) == 0)) = Cs.mem a b x.toNat := by
  unfold Cs.oneL Cs.oneH
  by_cases ha : x < 64
  · rw [if_pos ha, if_pos ha, Cs.mem_low (by omega), Cs.and_zero, ← Cs.test_bit a x.toNat (by omega)]
    simp [bne]
  · rw [if_neg ha, if_neg ha, Cs.and_zero]
    by_cases hb : x < 128
    · have e0 : x.toNat - 64 = (x - 64).toNat := by omega
      rw [if_pos hb, Cs.mem_high (by omega) (by omega), e0, ← Cs.test_bit b (x - 64).toNat (by omega)]
      simp [bne]
    · rw [if_neg hb, Cs.mem_out (by omega), Cs.and_zero]; rfl

theorem below_step {w wa wb : World} (h : Below w.heap.size w wa) (hb : Below wa.heap.size wa wb) : Below w.heap.size w wb := h.trans (hb.mono h.size)
theorem keep_cells {B : Nat} {w0 w1 w2 : World} {cs : Array Value} {T : TypeId} {fr : Nat × Nat} (h : w1.heap[B]? = some (.cells cs T fr)) (hb : Below w1.heap.size w1 w2) : w2.heap[B]? = some (.cells cs T fr) := by
  rw [hb.block B (Array.getElem?_eq_some_iff.1 h).1]; exact h

/-- What HasByte returns, by the two words of the intersection. -/
theorem has_by (a b x p q : Int) (w : World) (h0 : 0 ≤ x) (h1 : x ≤ 255) (HI : Hid (∀ W, Calls Tryd.prog 162 #[.agg #[.int .i64 a, .int .i64 b], .agg #[.int .i64 (Cs.oneL x), .int .i64 (Cs.oneH x)]] W (RetSet W p q))) (r : Bool)
    (hr : (p ≠ 0 ∧ r = true) ∨ (p = 0 ∧ q ≠ 0 ∧ r = true) ∨ (p = 0 ∧ q = 0 ∧ r = false)) : Calls Tryd.prog 156 #[.agg #[.int .i64 a, .int .i64 b], .int .u8 x] w (RetBool w r) := by
  rcases hr with ⟨hp, rfl⟩ | ⟨rfl, hq, rfl⟩ | ⟨rfl, rfl, rfl⟩
  · have hp2 : (p == 0) = false := by simpa using hp
    clear hp
    go_enter Tryd.func156, Tryd.ntmps156
    go_wp2
    go_region_held3 (fun w' => w'.cell? ⟨w.heap.size, 0, none⟩ = some (.int .i64 a) ∧ w'.cell? ⟨w.heap.size, 1, none⟩ = some (.int .i64 b) ∧ Below w.heap.size w w')
      (first | ((refine ⟨?_, ?_, (bl1 _ _).drew⟩) <;> go_keep) | (go_split_ands; exact ⟨cell_later (by assumption) (by assumption), cell_later (by assumption) (by assumption), below_step (by assumption) (by assumption)⟩))
      (first | (go_at_call 154; refine (impl_one x _ h0 h1).mono ?_; rintro e w1 ⟨rfl, hb1⟩) | (go_at_call 162; refine (HI.out _).mono ?_; rintro e w2 ⟨rfl, hb2⟩))
    have hB : Below w.heap.size w w2 := by
      have hh := ‹w2.cell? ⟨w.heap.size, 0, none⟩ = some (.int .i64 a) ∧ w2.cell? ⟨w.heap.size, 1, none⟩ = some (.int .i64 b) ∧ Below w.heap.size w w2›
      exact hh.2.2
    go_wp2
    go_ret
    exact ⟨rfl, hB⟩
  · have hq2 : (q == 0) = false := by simpa using hq
    clear hq
    go_enter Tryd.func156, Tryd.ntmps156
    go_wp2
    go_region_held3 (fun w' => w'.cell? ⟨w.heap.size, 0, none⟩ = some (.int .i64 a) ∧ w'.cell? ⟨w.heap.size, 1, none⟩ = some (.int .i64 b) ∧ Below w.heap.size w w')
      (first | ((refine ⟨?_, ?_, (bl1 _ _).drew⟩) <;> go_keep) | (go_split_ands; exact ⟨cell_later (by assumption) (by assumption), cell_later (by assumption) (by assumption), below_step (by assumption) (by assumption)⟩))
      (first | (go_at_call 154; refine (impl_one x _ h0 h1).mono ?_; rintro e w1 ⟨rfl, hb1⟩) | (go_at_call 162; refine (HI.out _).mono ?_; rintro e w2 ⟨rfl, hb2⟩))
    have hB : Below w.heap.size w w2 := by
      have hh := ‹w2.cell? ⟨w.heap.size, 0, none⟩ = some (.int .i64 a) ∧ w2.cell? ⟨w.heap.size, 1, none⟩ = some (.int .i64 b) ∧ Below w.heap.size w w2›
      exact hh.2.2
    go_wp2
    go_ret
    exact ⟨rfl, hB⟩
  · go_enter Tryd.func156, Tryd.ntmps156
    go_wp2
    go_region_held3 (fun w' => w'.cell? ⟨w.heap.size, 0, none⟩ = some (.int .i64 a) ∧ w'.cell? ⟨w.heap.size, 1, none⟩ = some (.int .i64 b) ∧ Below w.heap.size w w')
      (first | ((refine ⟨?_, ?_, (bl1 _ _).drew⟩) <;> go_keep) | (go_split_ands; exact ⟨cell_later (by assumption) (by assumption), cell_later (by assumption) (by assumption), below_step (by assumption) (by assumption)⟩))
      (first | (go_at_call 154; refine (impl_one x _ h0 h1).mono ?_; rintro e w1 ⟨rfl, hb1⟩) | (go_at_call 162; refine (HI.out _).mono ?_; rintro e w2 ⟨rfl, hb2⟩))
    have hB : Below w.heap.size w w2 := by
      have hh := ‹w2.cell? ⟨w.heap.size, 0, none⟩ = some (.int .i64 a) ∧ w2.cell? ⟨w.heap.size, 1, none⟩ = some (.int .i64 b) ∧ Below w.heap.size w w2›
      exact hh.2.2
    go_wp2
    go_ret
    exact ⟨rfl, hB⟩

theorem impl_has (a b x : Int) (w : World) (h0 : 0 ≤ x) (h1 : x ≤ 255) : Calls Tryd.prog 156 #[.agg #[.int .i64 a, .int .i64 b], .int .u8 x] w (RetBool w (Cs.mem a b x.toNat)) := by
  rw [← Cs.has_one a b x h0 h1]
  refine has_by a b x _ _ w h0 h1 (fun W => impl_and _ _ _ _ W) _ ?_
  generalize bits .and .i64 a (Cs.oneL x) = p
  generalize bits .and .i64 b (Cs.oneH x) = q
  by_cases hp : p = 0
  · by_cases hq : q = 0
    · exact .inr (.inr ⟨hp, hq, by simp [hp, hq]⟩)
    · exact .inr (.inl ⟨hp, hq, by simp [hp, hq]⟩)
  · exact .inl ⟨hp, by simp [hp]⟩

end Go.Proofs.YtbadepiakkhabaaDoor
/- Sets in memory, and the walks of the laws on HasByte and ComplementCset. No conditions. -/
namespace Go.Proofs.YtbadepiakkhabaaDoor
open Go.RowKit
attribute [local go_sem ↓] Go.wp_at_zero Go.wp_at_succ
set_option linter.unusedVariables false

/-- A set lies in memory. -/
abbrev SetAt (w : World) (b : Nat) (l h : Int) : Prop := w.cell? ⟨b, 0, none⟩ = some (.int .i64 l) ∧ w.cell? ⟨b, 1, none⟩ = some (.int .i64 h)
theorem SetAt.later {w wx : World} {b : Nat} {l h : Int} (s : SetAt w b l h) (hb : Below w.heap.size w wx) : SetAt wx b l h := ⟨cell_later hb s.1, cell_later hb s.2⟩
theorem SetAt.lt {w : World} {b : Nat} {l h : Int} (s : SetAt w b l h) : b < w.heap.size := World.block_lt_of_cell? _ _ s.1
theorem SetAt.drew {w : World} {b : Nat} {l h : Int} (s : SetAt w b l h) : SetAt w.drew b l h := s
theorem SetAt.new (w : World) (l h : Int) (T : TypeId) : SetAt (w.alloc (.cells #[.int .i64 l, .int .i64 h] T)) w.heap.size l h := by
  refine ⟨?_, ?_⟩ <;> go_simp
theorem SetAt.far {w : World} {b g : Nat} {l h : Int} (s : SetAt w b l h) (hne : b ≠ g) (x y : Value) : SetAt ((w.setCell ⟨g, 0, none⟩ x).setCell ⟨g, 1, none⟩ y) b l h := by
  obtain ⟨s0, s1⟩ := s
  exact ⟨by rw [World.cell?_setCell_far _ _ _ _ (by simpa using Ne.symm hne), World.cell?_setCell_far _ _ _ _ (by simpa using Ne.symm hne)]; exact s0, by rw [World.cell?_setCell_far _ _ _ _ (by simpa using Ne.symm hne), World.cell?_setCell_far _ _ _ _ (by simpa using Ne.symm hne)]; exact s1⟩
/-- A new variable for a set. -/
def VarAt (wx : World) (g : Nat) : Prop := SetAt wx g 0 0 ∧ wx.frozen? ⟨g, 0, none⟩ = false ∧ wx.frozen? ⟨g, 1, none⟩ = false
theorem free_later {w wx : World} {g o : Nat} (hb : Below w.heap.size w wx) (hl : g < w.heap.size) (h : w.frozen? ⟨g, o, none⟩ = false) : wx.frozen? ⟨g, o, none⟩ = false := (hb.frozen (p := ⟨g, o, none⟩) hl).trans h
theorem VarAt.later {wa wb : World} {g : Nat} (h : VarAt wa g) (hb : Below wa.heap.size wa wb) : VarAt wb g :=
  ⟨h.1.later hb, free_later hb h.1.lt h.2.1, free_later hb h.1.lt h.2.2⟩
theorem var_new {W : World} {T : TypeId} : VarAt (W.alloc (.cells #[.int .i64 0, .int .i64 0] T)) W.heap.size := by
  refine ⟨SetAt.new _ _ _ _, ?_, ?_⟩ <;> go_simp
theorem var_newd {W : World} {T : TypeId} : VarAt (W.alloc (.cells #[.int .i64 0, .int .i64 0] T)).drew W.heap.size := by
  refine ⟨SetAt.new _ _ _ _, ?_, ?_⟩ <;> go_simp
theorem SetAt.stored {w : World} {g : Nat} (h : VarAt w g) (l k : Int) : SetAt ((w.setCell ⟨g, 0, none⟩ (.int .i64 l)).setCell ⟨g, 1, none⟩ (.int .i64 k)) g l k := by
  obtain ⟨⟨h0, h1⟩, h2, h3⟩ := h
  refine ⟨?_, ?_⟩ <;> go_simp
theorem below_store {B g : Nat} {w wa : World} (h : Below B w wa) (hg : B ≤ g) (x y : Value) : Below B w ((wa.setCell ⟨g, 0, none⟩ x).setCell ⟨g, 1, none⟩ y) := (h.setCell hg _).setCell hg _

/-- Two sets lie in memory, and what was there before is as it was. -/
abbrev Sets2 (w : World) (x y : Nat) (a0 b0 a1 b1 : Int) (w' : World) : Prop := (SetAt w' x a0 b0 ∧ SetAt w' y a1 b1) ∧ Below w.heap.size w w'
theorem Sets2.later {w : World} {x y : Nat} {a0 b0 a1 b1 : Int} {wa wb : World} (h : Sets2 w x y a0 b0 a1 b1 wa) (hb : Below wa.heap.size wa wb) : Sets2 w x y a0 b0 a1 b1 wb :=
  ⟨⟨h.1.1.later hb, h.1.2.later hb⟩, below_step h.2 hb⟩
theorem Sets2.far {w : World} {x y g : Nat} {a0 b0 a1 b1 : Int} {wa : World} (h : Sets2 w x y a0 b0 a1 b1 wa) (hx : x ≠ g) (hy : y ≠ g) (hg : w.heap.size ≤ g) (u v : Value) : Sets2 w x y a0 b0 a1 b1 ((wa.setCell ⟨g, 0, none⟩ u).setCell ⟨g, 1, none⟩ v) :=
  ⟨⟨h.1.1.far hx _ _, h.1.2.far hy _ _⟩, below_store h.2 hg _ _⟩
theorem sets_start (w : World) (a0 b0 a1 b1 : Int) {T : TypeId} : Sets2 w w.heap.size (w.heap.size + 1) a0 b0 a1 b1 (((w.alloc (.cells #[.int .i64 a0, .int .i64 b0] T)).alloc (.cells #[.int .i64 a1, .int .i64 b1] T)).drew) := by
  refine ⟨⟨⟨?_, ?_⟩, ⟨?_, ?_⟩⟩, (bl2 _ _ _).drew⟩ <;> go_simp
theorem var_newd2 {w : World} {o p : Obj} {T : TypeId} : VarAt ((((w.alloc o).alloc p).alloc (.cells #[.int .i64 0, .int .i64 0] T)).drew) (w.heap.size + 1 + 1) := by
  refine ⟨⟨?_, ?_⟩, ?_, ?_⟩ <;> go_simp
/-- Three sets lie in memory. -/
abbrev Sets3 (w : World) (x y z : Nat) (a0 b0 a1 b1 p q : Int) (w' : World) : Prop := (SetAt w' x a0 b0 ∧ SetAt w' y a1 b1 ∧ SetAt w' z p q) ∧ Below w.heap.size w w'
theorem Sets3.later {w : World} {x y z : Nat} {a0 b0 a1 b1 p q : Int} {wa wb : World} (h : Sets3 w x y z a0 b0 a1 b1 p q wa) (hb : Below wa.heap.size wa wb) : Sets3 w x y z a0 b0 a1 b1 p q wb :=
  ⟨⟨h.1.1.later hb, h.1.2.1.later hb, h.1.2.2.later hb⟩, below_step h.2 hb⟩
theorem Sets3.far {w : World} {x y z g : Nat} {a0 b0 a1 b1 p q : Int} {wa : World} (h : Sets3 w x y z a0 b0 a1 b1 p q wa) (hx : x ≠ g) (hy : y ≠ g) (hz : z ≠ g) (hg : w.heap.size ≤ g) (u v : Value) : Sets3 w x y z a0 b0 a1 b1 p q ((wa.setCell ⟨g, 0, none⟩ u).setCell ⟨g, 1, none⟩ v) :=
  ⟨⟨h.1.1.far hx _ _, h.1.2.1.far hy _ _, h.1.2.2.far hz _ _⟩, below_store h.2 hg _ _⟩
theorem below_le {w w' : World} (h : Below w.heap.size w w') : w.heap.size ≤ w'.heap.size := h.size

end Go.Proofs.YtbadepiakkhabaaDoor
/- NewCset of the reference model: the set of a string's bytes. No conditions. -/
namespace Go.Proofs.YtbadepiakkhabaaDoor
open Go.RowKit
attribute [local go_sem ↓] Go.wp_at_zero Go.wp_at_succ
set_option linter.unusedVariables false

/-- The first k bytes. -/
def Cs.pre (s : ByteArray) (k : Nat) : List Nat := (s.data.toList.take k).map UInt8.toNat
/-- None of the first k bytes is above 127. -/
def Cs.okTo (s : ByteArray) (k : Nat) : Bool := (s.data.toList.take k).all fun c => decide (c.toNat < 128)
def Cs.good (s : ByteArray) : Bool := s.data.toList.all fun c => decide (c.toNat < 128)
def Cs.newL (s : ByteArray) : Int := if Cs.good s = true then Cs.allL (s.data.toList.map UInt8.toNat) else 0
def Cs.newH (s : ByteArray) : Int := if Cs.good s = true then Cs.allH (s.data.toList.map UInt8.toNat) else 0
theorem Cs.take_snoc (s : ByteArray) (k : Nat) (h : k < s.size) : s.data.toList.take (k + 1) = s.data.toList.take k ++ [s[k]] := by
  rw [List.take_succ_eq_append_getElem (by simpa using h)]; rfl
theorem Cs.pre_succ (s : ByteArray) (k : Nat) (h : k < s.size) : Cs.pre s (k + 1) = Cs.pre s k ++ [s[k].toNat] := by
  unfold Cs.pre; rw [Cs.take_snoc s k h, List.map_append]; rfl
theorem Cs.okTo_succ (s : ByteArray) (k : Nat) (h : k < s.size) : Cs.okTo s (k + 1) = (Cs.okTo s k && decide (s[k].toNat < 128)) := by
  unfold Cs.okTo; rw [Cs.take_snoc s k h, List.all_append]; simp
theorem Cs.good_end (s : ByteArray) (h : Cs.okTo s s.size = true) : Cs.good s = true ∧ Cs.newL s = Cs.allL (Cs.pre s s.size) ∧ Cs.newH s = Cs.allH (Cs.pre s s.size) := by
  have e : s.data.toList.take s.size = s.data.toList := List.take_of_length_le (by simp)
  unfold Cs.okTo at h; rw [e] at h
  refine ⟨h, ?_, ?_⟩
  · unfold Cs.newL Cs.pre Cs.good; rw [if_pos h, e]
  · unfold Cs.newH Cs.pre Cs.good; rw [if_pos h, e]
theorem Cs.good_bad (s : ByteArray) (k : Nat) (hk : k < s.size) (h : 128 ≤ s[k].toNat) : Cs.good s = false ∧ Cs.newL s = 0 ∧ Cs.newH s = 0 := by
  have hg : Cs.good s = false := by
    rw [Cs.good, List.all_eq_false]
    exact ⟨s[k], by have := List.getElem_mem (l := s.data.toList) (n := k) (by simpa using hk); exact this, by simp; omega⟩
  refine ⟨hg, ?_, ?_⟩
  · unfold Cs.newL; rw [if_neg (by rw [hg]; simp)]
  · unfold Cs.newH; rw [if_neg (by rw [hg]; simp)]

/-- A set's variable that may be written. -/
def FreeSet (w : World) (b : Nat) (l h : Int) : Prop := SetAt w b l h ∧ w.frozen? ⟨b, 0, none⟩ = false ∧ w.frozen? ⟨b, 1, none⟩ = false
theorem FreeSet.later {wa wb : World} {g : Nat} {l k : Int} (h : FreeSet wa g l k) (hb : Below wa.heap.size wa wb) : FreeSet wb g l k :=
  ⟨h.1.later hb, free_later hb h.1.lt h.2.1, free_later hb h.1.lt h.2.2⟩
theorem FreeSet.new (W : World) (l k : Int) (T : TypeId) : FreeSet (W.alloc (.cells #[.int .i64 l, .int .i64 k] T)) W.heap.size l k := by
  refine ⟨SetAt.new _ _ _ _, ?_, ?_⟩ <;> go_simp
theorem FreeSet.stored {w : World} {g : Nat} {l0 k0 : Int} (h : FreeSet w g l0 k0) (l k : Int) : FreeSet ((w.setCell ⟨g, 0, none⟩ (.int .i64 l)).setCell ⟨g, 1, none⟩ (.int .i64 k)) g l k := by
  obtain ⟨⟨h0, h1⟩, h2, h3⟩ := h
  refine ⟨⟨?_, ?_⟩, ?_, ?_⟩ <;> go_simp
theorem FreeSet.far {w : World} {b g : Nat} {l h : Int} (s : FreeSet w b l h) (hne : b ≠ g) (x y : Value) : FreeSet ((w.setCell ⟨g, 0, none⟩ x).setCell ⟨g, 1, none⟩ y) b l h := by
  obtain ⟨s0, s1, s2⟩ := s
  refine ⟨s0.far hne x y, ?_, ?_⟩ <;> simp [s1, s2]
theorem FreeSet.drew {w : World} {b : Nat} {l h : Int} (s : FreeSet w b l h) : FreeSet w.drew b l h := s

/-- A set and a bool are returned. -/
def RetNew (w : World) (l h : Int) (b : Bool) (e : Ending) (w' : World) : Prop := e = .returned (.tuple #[.agg #[.int .i64 l, .int .i64 h], .bool b]) ∧ Below w.heap.size w w'
/-- The state of the loops: the result's variable and the set so far. -/
def NewAt (w : World) (l h : Int) (wr : World) : Prop := FreeSet wr w.heap.size 0 0 ∧ FreeSet wr (w.heap.size + 1) l h ∧ Below w.heap.size w wr
theorem NewAt.later {w wr wx : World} {l h : Int} (s : NewAt w l h wr) (hb : Below wr.heap.size wr wx) : NewAt w l h wx := ⟨s.1.later hb, s.2.1.later hb, below_step s.2.2 hb⟩
theorem NewAt.drew {w wr : World} {l h : Int} (s : NewAt w l h wr) : NewAt w l h wr.drew := ⟨s.1.drew, s.2.1.drew, s.2.2.drew⟩
theorem NewAt.stored {w wr : World} {l h : Int} (s : NewAt w l h wr) (l2 h2 : Int) : NewAt w l2 h2 ((wr.setCell ⟨w.heap.size + 1, 0, none⟩ (.int .i64 l2)).setCell ⟨w.heap.size + 1, 1, none⟩ (.int .i64 h2)) :=
  ⟨s.1.far (by omega) _ _, s.2.1.stored l2 h2, below_store s.2.2 (by omega) _ _⟩
theorem NewAt.start (w : World) (T : TypeId) : NewAt w 0 0 ((w.alloc (.cells #[.int .i64 0, .int .i64 0] T)).alloc (.cells #[.int .i64 0, .int .i64 0] T)) := by
  have h := FreeSet.new (w.alloc (.cells #[.int .i64 0, .int .i64 0] T)) 0 0 T
  rw [show (w.alloc (.cells #[.int .i64 0, .int .i64 0] T)).heap.size = w.heap.size + 1 by simp] at h
  exact ⟨(FreeSet.new w 0 0 T).later (bl1 _ _), h, bl2 _ _ _⟩

theorem Cs.or_one {l h : Int} (f1 : Cs.Fits l) (f2 : Cs.Fits h) {x : Int} (h0 : 0 ≤ x) (h1 : x < 128) : bits .or .i64 l (Cs.oneL x) = Cs.addL l x.toNat ∧ bits .or .i64 h (Cs.oneH x) = Cs.addH h x.toNat := by
  unfold Cs.oneL Cs.oneH Cs.addL Cs.addH
  by_cases ha : x < 64
  · have hb : x.toNat < 64 := by omega
    rw [if_pos ha, if_pos ha, if_pos hb, if_pos hb, Cs.or_zero f2]; exact ⟨rfl, rfl⟩
  · have hb : ¬ x.toNat < 64 := by omega
    have e0 : x.toNat - 64 = (x - 64).toNat := by omega
    rw [if_neg ha, if_neg ha, if_neg hb, if_neg hb, if_pos h1, Cs.or_zero f1, e0]; exact ⟨rfl, rfl⟩
set_option maxHeartbeats 800000 in
theorem spec_new (s : ByteArray) (hs : s.size ≤ maxLen) (w : World) : Calls Tryd.prog 60 #[.string s] w (RetNew w (Cs.newL s) (Cs.newH s) (Cs.good s)) := by
  unfold maxLen at hs
  go_enter Tryd.func60, Tryd.ntmps60
  go_wp2
  go_loopw [5] (fun i wr => ∃ k : Nat, i = .int .i64 k ∧ k ≤ s.size ∧ Cs.okTo s k = true ∧ NewAt w (Cs.allL (Cs.pre s k)) (Cs.allH (Cs.pre s k)) wr) (fun i _ => s.size - (intOf i).toNat)
  case atStart => exact ⟨0, rfl, by omega, rfl, NewAt.start w _⟩
  case round =>
    obtain ⟨k, rfl, hk, hok, hn⟩ := hrel
    have HO := Lib.hid hok
    have HN := Lib.hid hn
    clear hok
    by_cases hlt : k < s.size
    · by_cases hbad : 128 ≤ (s[k].toNat : Int)
      · obtain ⟨⟨⟨r0, r1⟩, r2, r3⟩, _, hB⟩ := hn
        have HB := Lib.hid hB
        have HG := Lib.hid (Cs.good_bad s k hlt (by omega))
        clear hB
        go_wp2
        exact bodyPost_ret (v := .tuple #[.agg #[.int .i64 0, .int .i64 0], .bool false]) (by simp [results, Tryd.results60, go_sem, r0, r1]) rfl ⟨by rw [HG.out.1, HG.out.2.1, HG.out.2.2], below_store HB.out (Nat.le_refl _) _ _⟩
      · obtain ⟨⟨⟨r0, r1⟩, r2, r3⟩, ⟨⟨t0, t1⟩, t2, t3⟩, hB⟩ := hn
        have hx : s[k].toNat < 128 := by omega
        have HX := Lib.hid (Cs.okTo_succ s k hlt)
        have HP := Lib.hid (Cs.pre_succ s k hlt)
        have HL := Lib.hid (Cs.all_snoc (Cs.pre s k) s[k].toNat)
        clear hB
        have k0 : (0 : Int) ≤ k := by omega
        have k1 : (k : Int) < s.size := by omega
        go_wp2_with fail
        go_region_with (first | (go_at_call 91; refine (spec_add _ _ _ _ (by omega) (by omega)).mono ?_; rw [Int.toNat_natCast]; rintro e w1 ⟨rfl, hb1⟩; have HN1 := Lib.hid (HN.out.drew.later hb1); obtain ⟨⟨q0, q1⟩, q2, q3⟩ := HN1.out.2.1))
        all_goals go_wp2
        all_goals go_roundw
        all_goals first
          | exact ⟨k + 1, by go_num, by omega, by rw [HX.out, HO.out]; simpa using hx, by rw [HP.out, HL.out.1, HL.out.2]; exact HN1.out.stored _ _⟩
          | (simp [intOf]; done)
          | (simp [intOf]; omega)
    · obtain rfl : k = s.size := by omega
      obtain ⟨⟨⟨r0, r1⟩, r2, r3⟩, ⟨⟨t0, t1⟩, t2, t3⟩, hB⟩ := hn
      have HB := Lib.hid hB
      have HG := Lib.hid (Cs.good_end s HO.out)
      clear hB
      go_wp2
      exact bodyPost_ret (v := .tuple #[.agg #[.int .i64 (Cs.allL (Cs.pre s s.size)), .int .i64 (Cs.allH (Cs.pre s s.size))], .bool true]) (by simp [results, Tryd.results60, go_sem, r0, r1]) rfl ⟨by rw [HG.out.1, HG.out.2.1, HG.out.2.2], below_store HB.out (Nat.le_refl _) _ _⟩

set_option maxHeartbeats 800000 in
theorem impl_new (s : ByteArray) (hs : s.size ≤ maxLen) (w : World) : Calls Tryd.prog 142 #[.string s] w (RetNew w (Cs.newL s) (Cs.newH s) (Cs.good s)) := by
  unfold maxLen at hs
  go_enter Tryd.func142, Tryd.ntmps142
  go_wp2
  go_loopw [5, 8] (fun _ i wr => ∃ k : Nat, i = .int .i64 k ∧ k ≤ s.size ∧ Cs.okTo s k = true ∧ NewAt w (Cs.allL (Cs.pre s k)) (Cs.allH (Cs.pre s k)) wr) (fun _ i _ => s.size - (intOf i).toNat)
  case atStart => exact ⟨0, rfl, by omega, rfl, NewAt.start w _⟩
  case round =>
    obtain ⟨k, rfl, hk, hok, hn⟩ := hrel
    have HO := Lib.hid hok
    have HN := Lib.hid hn
    clear hok
    by_cases hlt : k < s.size
    · by_cases hbad : 128 ≤ (s[k].toNat : Int)
      · obtain ⟨⟨⟨r0, r1⟩, r2, r3⟩, _, hB⟩ := hn
        have HB := Lib.hid hB
        have HG := Lib.hid (Cs.good_bad s k hlt (by omega))
        clear hB
        go_wp2
        exact bodyPost_ret (v := .tuple #[.agg #[.int .i64 0, .int .i64 0], .bool false]) (by simp [results, Tryd.results142, go_sem, r0, r1]) rfl ⟨by rw [HG.out.1, HG.out.2.1, HG.out.2.2], below_store HB.out (Nat.le_refl _) _ _⟩
      · obtain ⟨⟨⟨r0, r1⟩, r2, r3⟩, ⟨⟨t0, t1⟩, t2, t3⟩, hB⟩ := hn
        have hx : s[k].toNat < 128 := by omega
        have HX := Lib.hid (Cs.okTo_succ s k hlt)
        have HP := Lib.hid (Cs.pre_succ s k hlt)
        have HL := Lib.hid (Cs.all_snoc (Cs.pre s k) s[k].toNat)
        clear hB
        have k0 : (0 : Int) ≤ k := by omega
        have k1 : (k : Int) < s.size := by omega
        go_wp2_with fail
        have HR := Lib.hid (Cs.or_one (Cs.allL_fits (Cs.pre s k)) (Cs.allH_fits (Cs.pre s k)) (x := s[k].toNat) (by omega) (by omega))
        go_region_with (first | (go_at_call 154; refine (impl_one _ _ (by omega) (by omega)).mono ?_; rintro e w1 ⟨rfl, hb1⟩; have HN1 := Lib.hid (HN.out.drew.later hb1); obtain ⟨⟨q0, q1⟩, q2, q3⟩ := HN1.out.2.1) | (go_at_call 153; refine (impl_or _ _ _ _ _).mono ?_; rintro e w2 ⟨rfl, hb2⟩; have HN2 := Lib.hid (HN1.out.later hb2); obtain ⟨⟨q0, q1⟩, q2, q3⟩ := HN2.out.2.1))
        all_goals go_wp2
        all_goals go_roundw
        all_goals first
          | exact ⟨k + 1, by go_num, by omega, by rw [HX.out, HO.out]; simpa using hx, by rw [HP.out, HL.out.1, HL.out.2]; rw [HR.out.1, HR.out.2]; exact HN2.out.stored _ _⟩
          | (simp [intOf]; done)
          | (simp [intOf]; omega)
    · obtain rfl : k = s.size := by omega
      obtain ⟨⟨⟨r0, r1⟩, r2, r3⟩, ⟨⟨t0, t1⟩, t2, t3⟩, hB⟩ := hn
      have HB := Lib.hid hB
      have HG := Lib.hid (Cs.good_end s HO.out)
      clear hB
      go_wp2
      exact bodyPost_ret (v := .tuple #[.agg #[.int .i64 (Cs.allL (Cs.pre s s.size)), .int .i64 (Cs.allH (Cs.pre s s.size))], .bool true]) (by simp [results, Tryd.results142, go_sem, r0, r1]) rfl ⟨by rw [HG.out.1, HG.out.2.1, HG.out.2.2], below_store HB.out (Nat.le_refl _) _ _⟩
end Go.Proofs.YtbadepiakkhabaaDoor
/- OnesCount64 counts the ones of a word. No conditions. -/
namespace Go.Proofs.YtbadepiakkhabaaDoor
open Go.RowKit
set_option linter.unusedVariables false

theorem Cs.wrap_u64 {n : Int} (h0 : 0 ≤ n) (h1 : n < 18446744073709551616) : IntKind.u64.wrap n = n := by
  have : IntKind.u64.wrap n = n % 18446744073709551616 := by simp [IntKind.wrap, IntKind.bits, IntKind.signed]
  rw [this]; omega
theorem Cs.mask1 : Cs.mask 1 32 = 6148914691236517205 := by decide
theorem Cs.mask2 : Cs.mask 2 16 = 3689348814741910323 := by decide
theorem Cs.mask4 : Cs.mask 4 8 = 1085102592571150095 := by decide
theorem Cs.step_and (x d m : Nat) (hx : x < 18446744073709551616) (hm : m < 18446744073709551616) : bits .and .u64 ((x : Int) / (d : Nat)) (m : Nat) = ((x / d &&& m : Nat) : Int) := by
  rw [← Int.natCast_ediv]
  exact u64_and_nat _ _ (Nat.lt_of_le_of_lt (Nat.div_le_self _ _) hx) hm
theorem Cs.step1 (x : Nat) (hx : x < 18446744073709551616) : IntKind.u64.wrap (bits .and .u64 ((x : Int) / 2) 6148914691236517205 + bits .and .u64 (x : Int) 6148914691236517205) = ((Cs.pair 1 32 x : Nat) : Int) := by
  have h1 : bits .and .u64 ((x : Int) / 2) 6148914691236517205 = ((x / 2 &&& 6148914691236517205 : Nat) : Int) := Cs.step_and x 2 6148914691236517205 hx (by decide)
  have h2 : bits .and .u64 (x : Int) 6148914691236517205 = ((x &&& 6148914691236517205 : Nat) : Int) := u64_and_nat x 6148914691236517205 hx (by decide)
  have h3 := Cs.pair_lt 1 32 x
  have e : Cs.pair 1 32 x = (x / 2 &&& 6148914691236517205) + (x &&& 6148914691236517205) := by unfold Cs.pair; rw [Cs.mask1]
  rw [Cs.mask1] at h3
  rw [e] at h3
  rw [h1, h2, e]
  rw [Cs.wrap_u64 (by omega) (by omega)]; rfl
theorem Cs.step2 (x : Nat) (hx : x < 18446744073709551616) : IntKind.u64.wrap (bits .and .u64 ((x : Int) / 4) 3689348814741910323 + bits .and .u64 (x : Int) 3689348814741910323) = ((Cs.pair 2 16 x : Nat) : Int) := by
  have h1 : bits .and .u64 ((x : Int) / 4) 3689348814741910323 = ((x / 4 &&& 3689348814741910323 : Nat) : Int) := Cs.step_and x 4 3689348814741910323 hx (by decide)
  have h2 : bits .and .u64 (x : Int) 3689348814741910323 = ((x &&& 3689348814741910323 : Nat) : Int) := u64_and_nat x 3689348814741910323 hx (by decide)
  have h3 := Cs.pair_lt 2 16 x
  have e : Cs.pair 2 16 x = (x / 4 &&& 3689348814741910323) + (x &&& 3689348814741910323) := by unfold Cs.pair; rw [Cs.mask2]
  rw [Cs.mask2] at h3
  rw [e] at h3
  rw [h1, h2, e]
  rw [Cs.wrap_u64 (by omega) (by omega)]; rfl
theorem Cs.step3 (x : Nat) (hx : x ≤ 7378697629483820646) (hs : Cs.small 4 4 16 x) : bits .and .u64 (IntKind.u64.wrap ((x : Int) / 16 + x)) 1085102592571150095 = ((Cs.pair 4 8 x : Nat) : Int) := by
  have e := Cs.lump_step 4 4 (by decide) 8 x hs
  rw [Cs.mask4, show (2 : Nat) ^ 4 = 16 from rfl] at e
  rw [Cs.wrap_u64 (by omega) (by omega), ← e]
  have := u64_and_nat (x / 16 + x) 1085102592571150095 (by omega) (by decide)
  rw [← this]; rfl
theorem Cs.step4 (x d : Nat) (hx : x + x / d < 18446744073709551616) : IntKind.u64.wrap ((x : Int) + (x : Int) / (d : Nat)) = ((x + x / d : Nat) : Int) := by
  rw [← Int.natCast_ediv, ← Int.natCast_add]
  exact Cs.wrap_u64 (Int.natCast_nonneg _) (by omega)
/-- The steps together. -/
theorem Cs.steps (x : Nat) (hx : x < 18446744073709551616) (y1 y2 y3 z1 z2 z3 : Nat) (h1 : y1 = Cs.pair 1 32 x) (h2 : y2 = Cs.pair 2 16 y1) (h3 : y3 = Cs.pair 4 8 y2) (e1 : z1 = y3 + y3 / 256) (e2 : z2 = z1 + z1 / 65536) (e3 : z3 = z2 + z2 / 4294967296) :
    y1 < 18446744073709551616 ∧ y2 ≤ 7378697629483820646 ∧ Cs.small 4 4 16 y2 ∧ y3 < 18446744073709551616 ∧ z1 < 18446744073709551616 ∧ z2 < 18446744073709551616 ∧ z3 < 18446744073709551616 ∧ z3 % 128 = Cs.dsum 1 64 x := by
  obtain ⟨s1, t1⟩ := Cs.pair_step 1 1 (by decide) 32 x (Cs.small_one 64 x)
  rw [← h1] at s1 t1
  obtain ⟨s2, t2⟩ := Cs.pair_step 2 2 (by decide) 16 y1 t1
  rw [← h2] at s2 t2
  obtain ⟨s3, t3⟩ := Cs.pair_step 4 4 (by decide) 8 y2 t2
  rw [← h3] at s3 t3
  have l1 := Cs.pair_lt 1 32 x
  have l2 := Cs.pair_lt 2 16 y1
  have l3 := Cs.pair_lt 4 8 y2
  rw [← h1, Cs.mask1] at l1
  rw [← h2, Cs.mask2] at l2
  rw [← h3, Cs.mask4] at l3
  obtain ⟨f1, f2, f3, f4⟩ := Cs.fold_bytes y3 t3 (by omega) z1 z2 z3 e1 e2 e3
  exact ⟨by omega, by omega, t2, by omega, f1, f2, f3, by rw [f4, s3, s2, s1]⟩
theorem ret_i {k : IntKind} {a b : Int} (h : a = b) : Ending.returned (.int k a) = .returned (.int k b) := by rw [h]

theorem Cs.last (z s : Nat) (h : z % 128 = s) : wrap64 (z : Int) % 128 = (s : Int) := by
  unfold wrap64; omega
theorem ones (x : Nat) (hx : x < 18446744073709551616) (w : World) : Calls Tryd.prog 161 #[.int .u64 x] w fun e w' => e = .returned (.int .i64 ((Cs.dsum 1 64 x : Nat) : Int)) ∧ w = w' := by
  go_enter Tryd.func161, Tryd.ntmps161
  go_wp2
  go_ret
  refine ⟨ret_i ?_, rfl⟩
  obtain ⟨a1, a2, a3, a4, b1, b2, b3, b4⟩ := Cs.steps x hx _ _ _ _ _ _ rfl rfl rfl rfl rfl rfl
  rw [Cs.step1 x hx, Cs.step2 _ a1, Cs.step3 _ a2 a3]
  generalize Cs.pair 4 8 (Cs.pair 2 16 (Cs.pair 1 32 x)) = y at *
  have c1 : IntKind.u64.wrap ((y : Int) + (y : Int) / 256) = ((y + y / 256 : Nat) : Int) := Cs.step4 y 256 b1
  rw [c1]
  generalize y + y / 256 = y1 at *
  have c2 : IntKind.u64.wrap ((y1 : Int) + (y1 : Int) / 65536) = ((y1 + y1 / 65536 : Nat) : Int) := Cs.step4 y1 65536 b2
  rw [c2]
  generalize y1 + y1 / 65536 = y2 at *
  have c3 : IntKind.u64.wrap ((y2 : Int) + (y2 : Int) / 4294967296) = ((y2 + y2 / 4294967296 : Nat) : Int) := Cs.step4 y2 4294967296 b3
  rw [c3, i64_and127]
  exact Cs.last _ _ b4
end Go.Proofs.YtbadepiakkhabaaDoor
/- CsetSize of the program: how many elements a set has. No conditions. -/
namespace Go.Proofs.YtbadepiakkhabaaDoor
open Go.RowKit
set_option linter.unusedVariables false

/-- A word as a number without sign. -/
def Cs.word (l : Int) : Nat := (BitVec.ofInt 64 l).toNat
theorem Cs.word_lt (l : Int) : Cs.word l < 18446744073709551616 := (BitVec.ofInt 64 l).isLt
theorem Cs.wrap_word (l : Int) : IntKind.u64.wrap l = (Cs.word l : Int) := by
  have : IntKind.u64.wrap l = l % 18446744073709551616 := by simp [IntKind.wrap, IntKind.bits, IntKind.signed]
  rw [this]; unfold Cs.word
  rw [BitVec.toNat_ofInt]
  omega
/-- How many elements lie in a word. -/
def Cs.pop (l : Int) : Nat := ((List.range 64).filter (Cs.bitAt l)).length
theorem Cs.dsum_pop (l : Int) : Cs.dsum 1 64 (Cs.word l) = Cs.pop l := Cs.dsum_bits 64 _
theorem Cs.pop_le (l : Int) : Cs.pop l ≤ 64 := by
  have := List.length_filter_le (Cs.bitAt l) (List.range 64)
  simpa [Cs.pop] using this
theorem Cs.text_pop (l h : Int) : (Cs.text l h).length = Cs.pop l + Cs.pop h := by
  unfold Cs.text Cs.pop
  rw [show List.range 128 = List.range 64 ++ (List.range 64).map (64 + ·) from by decide, List.filter_append, List.length_append, List.filter_map, List.length_map]
  have e1 : List.filter (Cs.mem l h) (List.range 64) = List.filter (Cs.bitAt l) (List.range 64) := List.filter_congr fun x hx => Cs.mem_low (by rw [List.mem_range] at hx; exact hx)
  have e2 : List.filter (Cs.mem l h ∘ fun x => 64 + x) (List.range 64) = List.filter (Cs.bitAt h) (List.range 64) := List.filter_congr fun x hx => by
    rw [List.mem_range] at hx
    show Cs.mem l h (64 + x) = _
    rw [Cs.mem_high (by omega) (by omega), Nat.add_sub_cancel_left]
  rw [e1, e2]

theorem ones_word (l : Int) (w : World) : Calls Tryd.prog 161 #[.int .u64 (IntKind.u64.wrap l)] w fun e w' => e = .returned (.int .i64 (Cs.pop l)) ∧ w' = w := by
  rw [← Cs.dsum_pop, Cs.wrap_word]
  exact (ones _ (Cs.word_lt l) w).mono fun e w' ⟨h1, h2⟩ => ⟨h1, h2.symm⟩
theorem impl_size (a b : Int) (w : World) : Calls Tryd.prog 155 #[.agg #[.int .i64 a, .int .i64 b]] w fun e w' => e = .returned (.int .i64 ((Cs.text a b).length : Nat)) ∧ Below w.heap.size w w' := by
  rw [Cs.text_pop]
  have h1 := Cs.pop_le a
  have h2 := Cs.pop_le b
  go_enter Tryd.func155, Tryd.ntmps155
  go_wp2
  go_quiet ((go_at_call 161; exact Calls.quiet_of_same (ones_word _ _)))
  go_wp2
  go_ret
  exact ⟨ret_i (Int.natCast_add _ _).symm, below_drewN (bl1 _ _) _⟩
end Go.Proofs.YtbadepiakkhabaaDoor
