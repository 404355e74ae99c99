/- Joined texts: V61, C3, C4, C9, C10. No conditions besides those that each states. -/
import Derived.Deep.RegionHeld3
import Derived.Deep.DrawnRows
import Derived.Deep.DeepCutAuto
import Derived.Test.YtbadepiakkhabaaDoorZ1
import Derived.Test.YtbadepiakkhabaaDoorZ3
import Derived.Test.YtbadepiakkhabaaDoorZ7
/- Words on the drawing of units: what the draws do to the world, what lies in new blocks. No conditions. -/
namespace Go.Proofs.YtbadepiakkhabaaDoor
open Go.RowKit
set_option linter.unusedVariables false

/-- Nothing that lay is turned but the cursor's block and one more. -/
def Turn (cb : Nat) (rb : Option Nat) (w1 w2 : World) : Prop := (w2.os = w1.os ∧ w2.tape = w1.tape ∧ w2.output = w1.output ∧ w1.heap.size ≤ w2.heap.size) ∧ ∀ b, b < w1.heap.size → b ≠ cb → rb ≠ some b → w2.heap[b]? = w1.heap[b]?
theorem Turn.refl (cb : Nat) (rb : Option Nat) (w : World) : Turn cb rb w w := ⟨⟨rfl, rfl, rfl, Nat.le_refl _⟩, fun _ _ _ _ => rfl⟩
theorem Turn.trans {cb : Nat} {rb : Option Nat} {w1 w2 w3 : World} (h : Turn cb rb w1 w2) (k : Turn cb rb w2 w3) : Turn cb rb w1 w3 :=
  ⟨⟨k.1.1.trans h.1.1, k.1.2.1.trans h.1.2.1, k.1.2.2.1.trans h.1.2.2.1, Nat.le_trans h.1.2.2.2 k.1.2.2.2⟩, fun b hb h1 h2 => (k.2 b (Nat.lt_of_lt_of_le hb h.1.2.2.2) h1 h2).trans (h.2 b hb h1 h2)⟩
theorem Turn.of_grown {cb : Nat} {rb : Option Nat} {w1 w2 : World} {r : Option Nat} (h : w1.grownBy w2 r) (hr : ∀ b, r = some b → b = cb ∨ rb = some b) : Turn cb rb w1 w2 :=
  ⟨⟨h.os, h.tape, h.output, h.size⟩, fun b hb h1 h2 => h.block b hb fun e => by
    rcases hr b e.symm with h3 | h3
    · exact h1 h3
    · exact h2 h3⟩
theorem Turn.of_only {cb : Nat} {rb : Option Nat} {w1 w2 : World} (h : Only cb w1 w2) : Turn cb rb w1 w2 := .of_grown h fun b e => .inl (Option.some.inj e).symm
theorem Turn.of_below {cb : Nat} {rb : Option Nat} {w1 w2 : World} (h : Below w1.heap.size w1 w2) : Turn cb rb w1 w2 := ⟨⟨h.os, h.tape, h.output, h.size⟩, fun b hb _ _ => h.block b hb⟩
theorem Turn.wide {cb : Nat} {rb : Option Nat} {w1 w2 : World} (h : Turn cb none w1 w2) : Turn cb rb w1 w2 := ⟨h.1, fun b hb h1 _ => h.2 b hb h1 (by simp)⟩
theorem Turn.below {cb B : Nat} {rb : Option Nat} {w1 w2 : World} (h : Turn cb rb w1 w2) (h1 : B ≤ cb) (h2 : ∀ b, rb = some b → B ≤ b) (h3 : B ≤ w1.heap.size) : Below B w1 w2 :=
  ⟨h.1.1, h.1.2.1, h.1.2.2.1, h.1.2.2.2, fun b hb => h.2 b (by omega) (by omega) (fun e => by have := h2 b e; omega)⟩
theorem Turn.only {cb : Nat} {w1 w2 : World} (h : Turn cb none w1 w2) : Only cb w1 w2 := ⟨h.1.1, h.1.2.1, h.1.2.2.1, h.1.2.2.2, fun b hb h1 => h.2 b hb (fun e => h1 (by rw [e])) (by simp)⟩
/-- A new block and its cells. -/
def NewB (Z : Nat) (w : World) (b : Nat) (cs : Array Value) (T : TypeId) : Prop := Z ≤ b ∧ w.heap[b]? = some (.cells cs T (0, 0))
theorem NewB.lt {Z b : Nat} {w : World} {cs : Array Value} {T : TypeId} (h : NewB Z w b cs T) : b < w.heap.size := (Array.getElem?_eq_some_iff.1 h.2).1
theorem NewB.keep {Z b cb : Nat} {rb : Option Nat} {w1 w2 : World} {cs : Array Value} {T : TypeId} (h : NewB Z w1 b cs T) (ht : Turn cb rb w1 w2) (hc : cb < Z) (hr : ∀ r, rb = some r → r < Z) : NewB Z w2 b cs T :=
  ⟨h.1, (ht.2 b h.lt (by have := h.1; omega) (fun e => by have h1 := hr b e; have h2 := h.1; omega)).trans h.2⟩
theorem NewB.made {Z : Nat} (w : World) (cs : Array Value) (T : TypeId) (h : Z ≤ w.heap.size) : NewB Z (w.alloc (.cells cs T)) w.heap.size cs T := ⟨h, World.alloc_heap_new w _⟩
theorem NewB.cell {Z b : Nat} {w : World} {cs : Array Value} {T : TypeId} (h : NewB Z w b cs T) (j : Nat) : w.cell? ⟨b, j, none⟩ = cs[j]? := heap_cell h.2 j
theorem NewB.free {Z b : Nat} {w : World} {cs : Array Value} {T : TypeId} (h : NewB Z w b cs T) (j : Nat) : w.frozen? ⟨b, j, none⟩ = false := heap_free h.2 j
theorem NewB.var {Z b : Nat} {w : World} {cs : Array Value} {T : TypeId} (h : NewB Z w b cs T) : Var w b cs.toList := fun j u hj => ⟨by rw [h.cell j]; simpa using hj, h.free j⟩
theorem NewB.ne {Z b c : Nat} {w : World} {cs ds : Array Value} {T U : TypeId} (h : NewB Z w b cs T) (k : NewB Z w c ds U) (hne : T ≠ U) : b ≠ c := fun e => by
  subst e
  have := Option.some.inj (h.2.symm.trans k.2)
  injection this with _ h2 _
  exact hne h2
theorem NewB.ne_cells {Z b c : Nat} {w : World} {cs ds : Array Value} {T U : TypeId} (h : NewB Z w b cs T) (k : NewB Z w c ds U) (hne : cs ≠ ds) : b ≠ c := fun e => by
  subst e
  have := Option.some.inj (h.2.symm.trans k.2)
  injection this with h1 _ _
  exact hne h1
/-- The first strings of two. -/
theorem NewB.strs {Z b : Nat} {w : World} {s t : ByteArray} {T : TypeId} (h : NewB Z w b #[.string s, .string t] T) {n : Nat} (hn : n ≤ 2) : ∃ (l : List ByteArray) (F : List Nat), l.length = n ∧ strsB l ≤ 2 + s.size + t.size ∧ Own w (strsD l) (.slice (some ⟨b, 0, none⟩) n 2) F ∧ ∀ x ∈ F, x = b := by
  have c0 : w.cell? ⟨b, 0, none⟩ = some (.string s) := h.cell 0
  have c1 : w.cell? ⟨b, 1, none⟩ = some (.string t) := h.cell 1
  rcases (show n = 0 ∨ n = 1 ∨ n = 2 by omega) with rfl | rfl | rfl
  · exact ⟨[], [], rfl, by unfold strsB; simp [wsum], own_nil, fun x hx => by cases hx⟩
  · refine ⟨[s], [b], rfl, by unfold strsB; simp [wsum]; omega, ?_, fun x hx => by simpa using hx⟩
    have hr : RowD w b 0 [D.str s] [[]] := ⟨⟨by simp, by simp⟩, rfl, fun j d hj => by
      match j, hj with
      | 0, hj => obtain rfl := Option.some.inj hj; exact ⟨_, [], rfl, c0, h.free 0, own_str'⟩⟩
    exact own_of_rowD (n := 1) (c := 2) hr (by simp) (by omega)
  · refine ⟨[s, t], [b], rfl, by unfold strsB; simp [wsum]; omega, ?_, fun x hx => by simpa using hx⟩
    have hr : RowD w b 0 [D.str s, D.str t] [[], []] := ⟨⟨by simp, by simp [apart_nil]⟩, rfl, fun j d hj => by
      match j, hj with
      | 0, hj => obtain rfl := Option.some.inj hj; exact ⟨_, [], rfl, c0, h.free 0, own_str'⟩
      | 1, hj => obtain rfl := Option.some.inj hj; exact ⟨_, [], rfl, c1, h.free 1, own_str'⟩⟩
    exact own_of_rowD (n := 2) (c := 2) hr (by simp) (by omega)
end Go.Proofs.YtbadepiakkhabaaDoor
/- HasByte of the program, and the walks of the laws on HasByte and on the four set operations. No conditions. -/
namespace Go.Proofs.YtbadepiakkhabaaDoor
open Go.RowKit
attribute [local go_sem ↓] Go.wp_at_zero Go.wp_at_succ
set_option linter.unusedVariables false

theorem Cs.has_one (a b x : Int) (h0 : 0 ≤ x) (h1 : x ≤ 255) : (!(bits .and .i64 a (Cs.oneL x) == 0) || !(bits .and .i64 b (Cs.oneH x) == 0)) = Cs.mem a b x.toNat := by
  unfold Cs.oneL Cs.oneH
  by_cases ha : x < 64
  · rw [if_pos ha, if_pos ha, Cs.mem_low (by omega), Cs.and_zero, ← Cs.test_bit a x.toNat (by omega)]
    simp [bne]
  · rw [if_neg ha, if_neg ha, Cs.and_zero]
    by_cases hb : x < 128
    · have e0 : x.toNat - 64 = (x - 64).toNat := by omega
      rw [if_pos hb, Cs.mem_high (by omega) (by omega), e0, ← Cs.test_bit b (x - 64).toNat (by omega)]
      simp [bne]
    · rw [if_neg hb, Cs.mem_out (by omega), Cs.and_zero]; rfl

theorem below_step {w wa wb : World} (h : Below w.heap.size w wa) (hb : Below wa.heap.size wa wb) : Below w.heap.size w wb := h.trans (hb.mono h.size)
/-- What HasByte returns, by the two words of the intersection. -/
theorem has_by (a b x p q : Int) (w : World) (h0 : 0 ≤ x) (h1 : x ≤ 255) (HI : Hid (∀ W, Calls Tryd.prog 162 #[.agg #[.int .i64 a, .int .i64 b], .agg #[.int .i64 (Cs.oneL x), .int .i64 (Cs.oneH x)]] W (RetSet W p q))) (r : Bool)
    (hr : (p ≠ 0 ∧ r = true) ∨ (p = 0 ∧ q ≠ 0 ∧ r = true) ∨ (p = 0 ∧ q = 0 ∧ r = false)) : Calls Tryd.prog 156 #[.agg #[.int .i64 a, .int .i64 b], .int .u8 x] w (RetBool w r) := by
  rcases hr with ⟨hp, rfl⟩ | ⟨rfl, hq, rfl⟩ | ⟨rfl, rfl, rfl⟩
  · have hp2 : (p == 0) = false := by simpa using hp
    clear hp
    go_enter Tryd.func156, Tryd.ntmps156
    go_wp2
    go_region_held3 (fun w' => w'.cell? ⟨w.heap.size, 0, none⟩ = some (.int .i64 a) ∧ w'.cell? ⟨w.heap.size, 1, none⟩ = some (.int .i64 b) ∧ Below w.heap.size w w')
      (first | ((refine ⟨?_, ?_, (bl1 _ _).drew⟩) <;> go_keep) | (go_split_ands; exact ⟨cell_later (by assumption) (by assumption), cell_later (by assumption) (by assumption), below_step (by assumption) (by assumption)⟩))
      (first | (go_at_call 154; refine (impl_one x _ h0 h1).mono ?_; rintro e w1 ⟨rfl, hb1⟩) | (go_at_call 162; refine (HI.out _).mono ?_; rintro e w2 ⟨rfl, hb2⟩))
    have hB : Below w.heap.size w w2 := by
      have hh := ‹w2.cell? ⟨w.heap.size, 0, none⟩ = some (.int .i64 a) ∧ w2.cell? ⟨w.heap.size, 1, none⟩ = some (.int .i64 b) ∧ Below w.heap.size w w2›
      exact hh.2.2
    go_wp2
    go_ret
    exact ⟨rfl, hB⟩
  · have hq2 : (q == 0) = false := by simpa using hq
    clear hq
    go_enter Tryd.func156, Tryd.ntmps156
    go_wp2
    go_region_held3 (fun w' => w'.cell? ⟨w.heap.size, 0, none⟩ = some (.int .i64 a) ∧ w'.cell? ⟨w.heap.size, 1, none⟩ = some (.int .i64 b) ∧ Below w.heap.size w w')
      (first | ((refine ⟨?_, ?_, (bl1 _ _).drew⟩) <;> go_keep) | (go_split_ands; exact ⟨cell_later (by assumption) (by assumption), cell_later (by assumption) (by assumption), below_step (by assumption) (by assumption)⟩))
      (first | (go_at_call 154; refine (impl_one x _ h0 h1).mono ?_; rintro e w1 ⟨rfl, hb1⟩) | (go_at_call 162; refine (HI.out _).mono ?_; rintro e w2 ⟨rfl, hb2⟩))
    have hB : Below w.heap.size w w2 := by
      have hh := ‹w2.cell? ⟨w.heap.size, 0, none⟩ = some (.int .i64 a) ∧ w2.cell? ⟨w.heap.size, 1, none⟩ = some (.int .i64 b) ∧ Below w.heap.size w w2›
      exact hh.2.2
    go_wp2
    go_ret
    exact ⟨rfl, hB⟩
  · go_enter Tryd.func156, Tryd.ntmps156
    go_wp2
    go_region_held3 (fun w' => w'.cell? ⟨w.heap.size, 0, none⟩ = some (.int .i64 a) ∧ w'.cell? ⟨w.heap.size, 1, none⟩ = some (.int .i64 b) ∧ Below w.heap.size w w')
      (first | ((refine ⟨?_, ?_, (bl1 _ _).drew⟩) <;> go_keep) | (go_split_ands; exact ⟨cell_later (by assumption) (by assumption), cell_later (by assumption) (by assumption), below_step (by assumption) (by assumption)⟩))
      (first | (go_at_call 154; refine (impl_one x _ h0 h1).mono ?_; rintro e w1 ⟨rfl, hb1⟩) | (go_at_call 162; refine (HI.out _).mono ?_; rintro e w2 ⟨rfl, hb2⟩))
    have hB : Below w.heap.size w w2 := by
      have hh := ‹w2.cell? ⟨w.heap.size, 0, none⟩ = some (.int .i64 a) ∧ w2.cell? ⟨w.heap.size, 1, none⟩ = some (.int .i64 b) ∧ Below w.heap.size w w2›
      exact hh.2.2
    go_wp2
    go_ret
    exact ⟨rfl, hB⟩

theorem impl_has (a b x : Int) (w : World) (h0 : 0 ≤ x) (h1 : x ≤ 255) : Calls Tryd.prog 156 #[.agg #[.int .i64 a, .int .i64 b], .int .u8 x] w (RetBool w (Cs.mem a b x.toNat)) := by
  rw [← Cs.has_one a b x h0 h1]
  refine has_by a b x _ _ w h0 h1 (fun W => impl_and _ _ _ _ W) _ ?_
  generalize bits .and .i64 a (Cs.oneL x) = p
  generalize bits .and .i64 b (Cs.oneH x) = q
  by_cases hp : p = 0
  · by_cases hq : q = 0
    · exact .inr (.inr ⟨hp, hq, by simp [hp, hq]⟩)
    · exact .inr (.inl ⟨hp, hq, by simp [hp, hq]⟩)
  · exact .inl ⟨hp, by simp [hp]⟩

end Go.Proofs.YtbadepiakkhabaaDoor
/- Sets in memory, and the walks of the laws on HasByte and ComplementCset. No conditions. -/
namespace Go.Proofs.YtbadepiakkhabaaDoor
open Go.RowKit
attribute [local go_sem ↓] Go.wp_at_zero Go.wp_at_succ
set_option linter.unusedVariables false

/-- A set lies in memory. -/
abbrev SetAt (w : World) (b : Nat) (l h : Int) : Prop := w.cell? ⟨b, 0, none⟩ = some (.int .i64 l) ∧ w.cell? ⟨b, 1, none⟩ = some (.int .i64 h)
theorem SetAt.later {w wx : World} {b : Nat} {l h : Int} (s : SetAt w b l h) (hb : Below w.heap.size w wx) : SetAt wx b l h := ⟨cell_later hb s.1, cell_later hb s.2⟩
theorem SetAt.lt {w : World} {b : Nat} {l h : Int} (s : SetAt w b l h) : b < w.heap.size := World.block_lt_of_cell? _ _ s.1
theorem SetAt.drew {w : World} {b : Nat} {l h : Int} (s : SetAt w b l h) : SetAt w.drew b l h := s
theorem SetAt.new (w : World) (l h : Int) (T : TypeId) : SetAt (w.alloc (.cells #[.int .i64 l, .int .i64 h] T)) w.heap.size l h := by
  refine ⟨?_, ?_⟩ <;> go_simp
theorem SetAt.far {w : World} {b g : Nat} {l h : Int} (s : SetAt w b l h) (hne : b ≠ g) (x y : Value) : SetAt ((w.setCell ⟨g, 0, none⟩ x).setCell ⟨g, 1, none⟩ y) b l h := by
  obtain ⟨s0, s1⟩ := s
  exact ⟨by rw [World.cell?_setCell_far _ _ _ _ (by simpa using Ne.symm hne), World.cell?_setCell_far _ _ _ _ (by simpa using Ne.symm hne)]; exact s0, by rw [World.cell?_setCell_far _ _ _ _ (by simpa using Ne.symm hne), World.cell?_setCell_far _ _ _ _ (by simpa using Ne.symm hne)]; exact s1⟩
/-- A new variable for a set. -/
def VarAt (wx : World) (g : Nat) : Prop := SetAt wx g 0 0 ∧ wx.frozen? ⟨g, 0, none⟩ = false ∧ wx.frozen? ⟨g, 1, none⟩ = false
theorem free_later {w wx : World} {g o : Nat} (hb : Below w.heap.size w wx) (hl : g < w.heap.size) (h : w.frozen? ⟨g, o, none⟩ = false) : wx.frozen? ⟨g, o, none⟩ = false := (hb.frozen (p := ⟨g, o, none⟩) hl).trans h
theorem VarAt.later {wa wb : World} {g : Nat} (h : VarAt wa g) (hb : Below wa.heap.size wa wb) : VarAt wb g :=
  ⟨h.1.later hb, free_later hb h.1.lt h.2.1, free_later hb h.1.lt h.2.2⟩
theorem SetAt.stored {w : World} {g : Nat} (h : VarAt w g) (l k : Int) : SetAt ((w.setCell ⟨g, 0, none⟩ (.int .i64 l)).setCell ⟨g, 1, none⟩ (.int .i64 k)) g l k := by
  obtain ⟨⟨h0, h1⟩, h2, h3⟩ := h
  refine ⟨?_, ?_⟩ <;> go_simp
theorem below_store {B g : Nat} {w wa : World} (h : Below B w wa) (hg : B ≤ g) (x y : Value) : Below B w ((wa.setCell ⟨g, 0, none⟩ x).setCell ⟨g, 1, none⟩ y) := (h.setCell hg _).setCell hg _

/-- Two sets lie in memory, and what was there before is as it was. -/
abbrev Sets2 (w : World) (x y : Nat) (a0 b0 a1 b1 : Int) (w' : World) : Prop := (SetAt w' x a0 b0 ∧ SetAt w' y a1 b1) ∧ Below w.heap.size w w'
theorem Sets2.later {w : World} {x y : Nat} {a0 b0 a1 b1 : Int} {wa wb : World} (h : Sets2 w x y a0 b0 a1 b1 wa) (hb : Below wa.heap.size wa wb) : Sets2 w x y a0 b0 a1 b1 wb :=
  ⟨⟨h.1.1.later hb, h.1.2.later hb⟩, below_step h.2 hb⟩
theorem Sets2.far {w : World} {x y g : Nat} {a0 b0 a1 b1 : Int} {wa : World} (h : Sets2 w x y a0 b0 a1 b1 wa) (hx : x ≠ g) (hy : y ≠ g) (hg : w.heap.size ≤ g) (u v : Value) : Sets2 w x y a0 b0 a1 b1 ((wa.setCell ⟨g, 0, none⟩ u).setCell ⟨g, 1, none⟩ v) :=
  ⟨⟨h.1.1.far hx _ _, h.1.2.far hy _ _⟩, below_store h.2 hg _ _⟩
/-- Three sets lie in memory. -/
abbrev Sets3 (w : World) (x y z : Nat) (a0 b0 a1 b1 p q : Int) (w' : World) : Prop := (SetAt w' x a0 b0 ∧ SetAt w' y a1 b1 ∧ SetAt w' z p q) ∧ Below w.heap.size w w'
theorem Sets3.later {w : World} {x y z : Nat} {a0 b0 a1 b1 p q : Int} {wa wb : World} (h : Sets3 w x y z a0 b0 a1 b1 p q wa) (hb : Below wa.heap.size wa wb) : Sets3 w x y z a0 b0 a1 b1 p q wb :=
  ⟨⟨h.1.1.later hb, h.1.2.1.later hb, h.1.2.2.later hb⟩, below_step h.2 hb⟩
theorem Sets3.far {w : World} {x y z g : Nat} {a0 b0 a1 b1 p q : Int} {wa : World} (h : Sets3 w x y z a0 b0 a1 b1 p q wa) (hx : x ≠ g) (hy : y ≠ g) (hz : z ≠ g) (hg : w.heap.size ≤ g) (u v : Value) : Sets3 w x y z a0 b0 a1 b1 p q ((wa.setCell ⟨g, 0, none⟩ u).setCell ⟨g, 1, none⟩ v) :=
  ⟨⟨h.1.1.far hx _ _, h.1.2.1.far hy _ _, h.1.2.2.far hz _ _⟩, below_store h.2 hg _ _⟩
end Go.Proofs.YtbadepiakkhabaaDoor
/- NewCset of the reference model: the set of a string's bytes. No conditions. -/
namespace Go.Proofs.YtbadepiakkhabaaDoor
open Go.RowKit
attribute [local go_sem ↓] Go.wp_at_zero Go.wp_at_succ
set_option linter.unusedVariables false

/-- The first k bytes. -/
def Cs.pre (s : ByteArray) (k : Nat) : List Nat := (s.data.toList.take k).map UInt8.toNat
/-- None of the first k bytes is above 127. -/
def Cs.okTo (s : ByteArray) (k : Nat) : Bool := (s.data.toList.take k).all fun c => decide (c.toNat < 128)
def Cs.good (s : ByteArray) : Bool := s.data.toList.all fun c => decide (c.toNat < 128)
def Cs.newL (s : ByteArray) : Int := if Cs.good s = true then Cs.allL (s.data.toList.map UInt8.toNat) else 0
def Cs.newH (s : ByteArray) : Int := if Cs.good s = true then Cs.allH (s.data.toList.map UInt8.toNat) else 0
theorem Cs.take_snoc (s : ByteArray) (k : Nat) (h : k < s.size) : s.data.toList.take (k + 1) = s.data.toList.take k ++ [s[k]] := by
  rw [List.take_succ_eq_append_getElem (by simpa using h)]; rfl
theorem Cs.pre_succ (s : ByteArray) (k : Nat) (h : k < s.size) : Cs.pre s (k + 1) = Cs.pre s k ++ [s[k].toNat] := by
  unfold Cs.pre; rw [Cs.take_snoc s k h, List.map_append]; rfl
theorem Cs.okTo_succ (s : ByteArray) (k : Nat) (h : k < s.size) : Cs.okTo s (k + 1) = (Cs.okTo s k && decide (s[k].toNat < 128)) := by
  unfold Cs.okTo; rw [Cs.take_snoc s k h, List.all_append]; simp
theorem Cs.good_end (s : ByteArray) (h : Cs.okTo s s.size = true) : Cs.good s = true ∧ Cs.newL s = Cs.allL (Cs.pre s s.size) ∧ Cs.newH s = Cs.allH (Cs.pre s s.size) := by
  have e : s.data.toList.take s.size = s.data.toList := List.take_of_length_le (by simp)
  unfold Cs.okTo at h; rw [e] at h
  refine ⟨h, ?_, ?_⟩
  · unfold Cs.newL Cs.pre Cs.good; rw [if_pos h, e]
  · unfold Cs.newH Cs.pre Cs.good; rw [if_pos h, e]
theorem Cs.good_bad (s : ByteArray) (k : Nat) (hk : k < s.size) (h : 128 ≤ s[k].toNat) : Cs.good s = false ∧ Cs.newL s = 0 ∧ Cs.newH s = 0 := by
  have hg : Cs.good s = false := by
    rw [Cs.good, List.all_eq_false]
    exact ⟨s[k], by have := List.getElem_mem (l := s.data.toList) (n := k) (by simpa using hk); exact this, by simp; omega⟩
  refine ⟨hg, ?_, ?_⟩
  · unfold Cs.newL; rw [if_neg (by rw [hg]; simp)]
  · unfold Cs.newH; rw [if_neg (by rw [hg]; simp)]

/-- A set's variable that may be written. -/
def FreeSet (w : World) (b : Nat) (l h : Int) : Prop := SetAt w b l h ∧ w.frozen? ⟨b, 0, none⟩ = false ∧ w.frozen? ⟨b, 1, none⟩ = false
theorem FreeSet.later {wa wb : World} {g : Nat} {l k : Int} (h : FreeSet wa g l k) (hb : Below wa.heap.size wa wb) : FreeSet wb g l k :=
  ⟨h.1.later hb, free_later hb h.1.lt h.2.1, free_later hb h.1.lt h.2.2⟩
theorem FreeSet.new (W : World) (l k : Int) (T : TypeId) : FreeSet (W.alloc (.cells #[.int .i64 l, .int .i64 k] T)) W.heap.size l k := by
  refine ⟨SetAt.new _ _ _ _, ?_, ?_⟩ <;> go_simp
theorem FreeSet.stored {w : World} {g : Nat} {l0 k0 : Int} (h : FreeSet w g l0 k0) (l k : Int) : FreeSet ((w.setCell ⟨g, 0, none⟩ (.int .i64 l)).setCell ⟨g, 1, none⟩ (.int .i64 k)) g l k := by
  obtain ⟨⟨h0, h1⟩, h2, h3⟩ := h
  refine ⟨⟨?_, ?_⟩, ?_, ?_⟩ <;> go_simp
theorem FreeSet.far {w : World} {b g : Nat} {l h : Int} (s : FreeSet w b l h) (hne : b ≠ g) (x y : Value) : FreeSet ((w.setCell ⟨g, 0, none⟩ x).setCell ⟨g, 1, none⟩ y) b l h := by
  obtain ⟨s0, s1, s2⟩ := s
  refine ⟨s0.far hne x y, ?_, ?_⟩ <;> simp [s1, s2]
theorem FreeSet.drew {w : World} {b : Nat} {l h : Int} (s : FreeSet w b l h) : FreeSet w.drew b l h := s

/-- A set and a bool are returned. -/
def RetNew (w : World) (l h : Int) (b : Bool) (e : Ending) (w' : World) : Prop := e = .returned (.tuple #[.agg #[.int .i64 l, .int .i64 h], .bool b]) ∧ Below w.heap.size w w'
/-- The state of the loops: the result's variable and the set so far. -/
def NewAt (w : World) (l h : Int) (wr : World) : Prop := FreeSet wr w.heap.size 0 0 ∧ FreeSet wr (w.heap.size + 1) l h ∧ Below w.heap.size w wr
theorem NewAt.later {w wr wx : World} {l h : Int} (s : NewAt w l h wr) (hb : Below wr.heap.size wr wx) : NewAt w l h wx := ⟨s.1.later hb, s.2.1.later hb, below_step s.2.2 hb⟩
theorem NewAt.drew {w wr : World} {l h : Int} (s : NewAt w l h wr) : NewAt w l h wr.drew := ⟨s.1.drew, s.2.1.drew, s.2.2.drew⟩
theorem NewAt.stored {w wr : World} {l h : Int} (s : NewAt w l h wr) (l2 h2 : Int) : NewAt w l2 h2 ((wr.setCell ⟨w.heap.size + 1, 0, none⟩ (.int .i64 l2)).setCell ⟨w.heap.size + 1, 1, none⟩ (.int .i64 h2)) :=
  ⟨s.1.far (by omega) _ _, s.2.1.stored l2 h2, below_store s.2.2 (by omega) _ _⟩
theorem NewAt.start (w : World) (T : TypeId) : NewAt w 0 0 ((w.alloc (.cells #[.int .i64 0, .int .i64 0] T)).alloc (.cells #[.int .i64 0, .int .i64 0] T)) := by
  have h := FreeSet.new (w.alloc (.cells #[.int .i64 0, .int .i64 0] T)) 0 0 T
  rw [show (w.alloc (.cells #[.int .i64 0, .int .i64 0] T)).heap.size = w.heap.size + 1 by simp] at h
  exact ⟨(FreeSet.new w 0 0 T).later (bl1 _ _), h, bl2 _ _ _⟩

theorem Cs.or_one {l h : Int} (f1 : Cs.Fits l) (f2 : Cs.Fits h) {x : Int} (h0 : 0 ≤ x) (h1 : x < 128) : bits .or .i64 l (Cs.oneL x) = Cs.addL l x.toNat ∧ bits .or .i64 h (Cs.oneH x) = Cs.addH h x.toNat := by
  unfold Cs.oneL Cs.oneH Cs.addL Cs.addH
  by_cases ha : x < 64
  · have hb : x.toNat < 64 := by omega
    rw [if_pos ha, if_pos ha, if_pos hb, if_pos hb, Cs.or_zero f2]; exact ⟨rfl, rfl⟩
  · have hb : ¬ x.toNat < 64 := by omega
    have e0 : x.toNat - 64 = (x - 64).toNat := by omega
    rw [if_neg ha, if_neg ha, if_neg hb, if_neg hb, if_pos h1, Cs.or_zero f1, e0]; exact ⟨rfl, rfl⟩
set_option maxHeartbeats 800000 in
theorem spec_new (s : ByteArray) (hs : s.size ≤ maxLen) (w : World) : Calls Tryd.prog 60 #[.string s] w (RetNew w (Cs.newL s) (Cs.newH s) (Cs.good s)) := by
  unfold maxLen at hs
  go_enter Tryd.func60, Tryd.ntmps60
  go_wp2
  go_loopw [5] (fun i wr => ∃ k : Nat, i = .int .i64 k ∧ k ≤ s.size ∧ Cs.okTo s k = true ∧ NewAt w (Cs.allL (Cs.pre s k)) (Cs.allH (Cs.pre s k)) wr) (fun i _ => s.size - (intOf i).toNat)
  case atStart => exact ⟨0, rfl, by omega, rfl, NewAt.start w _⟩
  case round =>
    obtain ⟨k, rfl, hk, hok, hn⟩ := hrel
    have HO := Lib.hid hok
    have HN := Lib.hid hn
    clear hok
    by_cases hlt : k < s.size
    · by_cases hbad : 128 ≤ (s[k].toNat : Int)
      · obtain ⟨⟨⟨r0, r1⟩, r2, r3⟩, _, hB⟩ := hn
        have HB := Lib.hid hB
        have HG := Lib.hid (Cs.good_bad s k hlt (by omega))
        clear hB
        go_wp2
        exact bodyPost_ret (v := .tuple #[.agg #[.int .i64 0, .int .i64 0], .bool false]) (by simp [results, Tryd.results60, go_sem, r0, r1]) rfl ⟨by rw [HG.out.1, HG.out.2.1, HG.out.2.2], below_store HB.out (Nat.le_refl _) _ _⟩
      · obtain ⟨⟨⟨r0, r1⟩, r2, r3⟩, ⟨⟨t0, t1⟩, t2, t3⟩, hB⟩ := hn
        have hx : s[k].toNat < 128 := by omega
        have HX := Lib.hid (Cs.okTo_succ s k hlt)
        have HP := Lib.hid (Cs.pre_succ s k hlt)
        have HL := Lib.hid (Cs.all_snoc (Cs.pre s k) s[k].toNat)
        clear hB
        have k0 : (0 : Int) ≤ k := by omega
        have k1 : (k : Int) < s.size := by omega
        go_wp2_with fail
        go_region_with (first | (go_at_call 91; refine (spec_add _ _ _ _ (by omega) (by omega)).mono ?_; rw [Int.toNat_natCast]; rintro e w1 ⟨rfl, hb1⟩; have HN1 := Lib.hid (HN.out.drew.later hb1); obtain ⟨⟨q0, q1⟩, q2, q3⟩ := HN1.out.2.1))
        all_goals go_wp2
        all_goals go_roundw
        all_goals first
          | exact ⟨k + 1, by go_num, by omega, by rw [HX.out, HO.out]; simpa using hx, by rw [HP.out, HL.out.1, HL.out.2]; exact HN1.out.stored _ _⟩
          | (simp [intOf]; done)
          | (simp [intOf]; omega)
    · obtain rfl : k = s.size := by omega
      obtain ⟨⟨⟨r0, r1⟩, r2, r3⟩, ⟨⟨t0, t1⟩, t2, t3⟩, hB⟩ := hn
      have HB := Lib.hid hB
      have HG := Lib.hid (Cs.good_end s HO.out)
      clear hB
      go_wp2
      exact bodyPost_ret (v := .tuple #[.agg #[.int .i64 (Cs.allL (Cs.pre s s.size)), .int .i64 (Cs.allH (Cs.pre s s.size))], .bool true]) (by simp [results, Tryd.results60, go_sem, r0, r1]) rfl ⟨by rw [HG.out.1, HG.out.2.1, HG.out.2.2], below_store HB.out (Nat.le_refl _) _ _⟩

set_option maxHeartbeats 800000 in
theorem impl_new (s : ByteArray) (hs : s.size ≤ maxLen) (w : World) : Calls Tryd.prog 142 #[.string s] w (RetNew w (Cs.newL s) (Cs.newH s) (Cs.good s)) := by
  unfold maxLen at hs
  go_enter Tryd.func142, Tryd.ntmps142
  go_wp2
  go_loopw [5, 8] (fun _ i wr => ∃ k : Nat, i = .int .i64 k ∧ k ≤ s.size ∧ Cs.okTo s k = true ∧ NewAt w (Cs.allL (Cs.pre s k)) (Cs.allH (Cs.pre s k)) wr) (fun _ i _ => s.size - (intOf i).toNat)
  case atStart => exact ⟨0, rfl, by omega, rfl, NewAt.start w _⟩
  case round =>
    obtain ⟨k, rfl, hk, hok, hn⟩ := hrel
    have HO := Lib.hid hok
    have HN := Lib.hid hn
    clear hok
    by_cases hlt : k < s.size
    · by_cases hbad : 128 ≤ (s[k].toNat : Int)
      · obtain ⟨⟨⟨r0, r1⟩, r2, r3⟩, _, hB⟩ := hn
        have HB := Lib.hid hB
        have HG := Lib.hid (Cs.good_bad s k hlt (by omega))
        clear hB
        go_wp2
        exact bodyPost_ret (v := .tuple #[.agg #[.int .i64 0, .int .i64 0], .bool false]) (by simp [results, Tryd.results142, go_sem, r0, r1]) rfl ⟨by rw [HG.out.1, HG.out.2.1, HG.out.2.2], below_store HB.out (Nat.le_refl _) _ _⟩
      · obtain ⟨⟨⟨r0, r1⟩, r2, r3⟩, ⟨⟨t0, t1⟩, t2, t3⟩, hB⟩ := hn
        have hx : s[k].toNat < 128 := by omega
        have HX := Lib.hid (Cs.okTo_succ s k hlt)
        have HP := Lib.hid (Cs.pre_succ s k hlt)
        have HL := Lib.hid (Cs.all_snoc (Cs.pre s k) s[k].toNat)
        clear hB
        have k0 : (0 : Int) ≤ k := by omega
        have k1 : (k : Int) < s.size := by omega
        go_wp2_with fail
        have HR := Lib.hid (Cs.or_one (Cs.allL_fits (Cs.pre s k)) (Cs.allH_fits (Cs.pre s k)) (x := s[k].toNat) (by omega) (by omega))
        go_region_with (first | (go_at_call 154; refine (impl_one _ _ (by omega) (by omega)).mono ?_; rintro e w1 ⟨rfl, hb1⟩; have HN1 := Lib.hid (HN.out.drew.later hb1); obtain ⟨⟨q0, q1⟩, q2, q3⟩ := HN1.out.2.1) | (go_at_call 153; refine (impl_or _ _ _ _ _).mono ?_; rintro e w2 ⟨rfl, hb2⟩; have HN2 := Lib.hid (HN1.out.later hb2); obtain ⟨⟨q0, q1⟩, q2, q3⟩ := HN2.out.2.1))
        all_goals go_wp2
        all_goals go_roundw
        all_goals first
          | exact ⟨k + 1, by go_num, by omega, by rw [HX.out, HO.out]; simpa using hx, by rw [HP.out, HL.out.1, HL.out.2]; rw [HR.out.1, HR.out.2]; exact HN2.out.stored _ _⟩
          | (simp [intOf]; done)
          | (simp [intOf]; omega)
    · obtain rfl : k = s.size := by omega
      obtain ⟨⟨⟨r0, r1⟩, r2, r3⟩, ⟨⟨t0, t1⟩, t2, t3⟩, hB⟩ := hn
      have HB := Lib.hid hB
      have HG := Lib.hid (Cs.good_end s HO.out)
      clear hB
      go_wp2
      exact bodyPost_ret (v := .tuple #[.agg #[.int .i64 (Cs.allL (Cs.pre s s.size)), .int .i64 (Cs.allH (Cs.pre s s.size))], .bool true]) (by simp [results, Tryd.results142, go_sem, r0, r1]) rfl ⟨by rw [HG.out.1, HG.out.2.1, HG.out.2.2], below_store HB.out (Nat.le_refl _) _ _⟩
end Go.Proofs.YtbadepiakkhabaaDoor
/- RangeCset of the program and of the reference model, and the walks of the laws on NewCset and RangeCset. No conditions. -/
namespace Go.Proofs.YtbadepiakkhabaaDoor
open Go.RowKit
attribute [local go_sem ↓] Go.wp_at_zero Go.wp_at_succ
set_option linter.unusedVariables false

/-- Is there such a range? -/
def Cs.rngOk (f t : Nat) : Bool := decide (f ≤ t) && decide (t < 128)
def Cs.rngL (f t : Nat) : Int := if Cs.rngOk f t = true then Cs.allL (List.range' f (t + 1 - f)) else 0
def Cs.rngH (f t : Nat) : Int := if Cs.rngOk f t = true then Cs.allH (List.range' f (t + 1 - f)) else 0
theorem Cs.rng_no {f t : Nat} (h : t < f ∨ 128 ≤ t) : Cs.rngOk f t = false ∧ Cs.rngL f t = 0 ∧ Cs.rngH f t = 0 := by
  have e : Cs.rngOk f t = false := by unfold Cs.rngOk; rcases h with h | h <;> simp <;> omega
  exact ⟨e, by unfold Cs.rngL; rw [if_neg (by rw [e]; simp)], by unfold Cs.rngH; rw [if_neg (by rw [e]; simp)]⟩
theorem Cs.rng_yes {f t : Nat} (h1 : f ≤ t) (h2 : t < 128) : Cs.rngOk f t = true ∧ Cs.rngL f t = Cs.allL (List.range' f (t + 1 - f)) ∧ Cs.rngH f t = Cs.allH (List.range' f (t + 1 - f)) := by
  have e : Cs.rngOk f t = true := by unfold Cs.rngOk; simp; omega
  exact ⟨e, by unfold Cs.rngL; rw [if_pos e], by unfold Cs.rngH; rw [if_pos e]⟩
theorem Cs.rng_snoc (f k : Nat) : Cs.allL (List.range' f (k + 1)) = Cs.addL (Cs.allL (List.range' f k)) (f + k) ∧ Cs.allH (List.range' f (k + 1)) = Cs.addH (Cs.allH (List.range' f k)) (f + k) := by
  rw [List.range'_1_concat]; exact Cs.all_snoc _ _

set_option maxHeartbeats 800000 in
theorem spec_range_no (f t : Nat) (h0 : f ≤ 255) (h1 : t ≤ 255) (hn : t < f ∨ 128 ≤ t) (w : World) : Calls Tryd.prog 146 #[.int .u8 f, .int .u8 t] w (RetNew w (Cs.rngL f t) (Cs.rngH f t) (Cs.rngOk f t)) := by
  have HG := Lib.hid (Cs.rng_no hn)
  by_cases ha : (t : Int) < f
  · go_enter Tryd.func146, Tryd.ntmps146
    go_wp2
    all_goals exact bodyPost_ret (v := .tuple #[.agg #[.int .i64 0, .int .i64 0], .bool false]) (by simp [results, Tryd.results146, go_sem]) rfl ⟨by rw [HG.out.1, HG.out.2.1, HG.out.2.2], bl1 _ _⟩
  · have hb : (128 : Int) ≤ t := by omega
    have hb2 : (127 : Int) < t := by omega
    have ha2 : (f : Int) ≤ t := by omega
    go_enter Tryd.func146, Tryd.ntmps146
    go_wp2
    all_goals exact bodyPost_ret (v := .tuple #[.agg #[.int .i64 0, .int .i64 0], .bool false]) (by simp [results, Tryd.results146, go_sem]) rfl ⟨by rw [HG.out.1, HG.out.2.1, HG.out.2.2], bl1 _ _⟩

set_option maxHeartbeats 800000 in
theorem spec_range_yes (f t : Nat) (h0 : f ≤ t) (h1 : t < 128) (w : World) : Calls Tryd.prog 146 #[.int .u8 f, .int .u8 t] w (RetNew w (Cs.rngL f t) (Cs.rngH f t) (Cs.rngOk f t)) := by
  have HG := Lib.hid (Cs.rng_yes h0 h1)
  have ha : ¬ (t : Int) < f := by omega
  have ha2 : (f : Int) ≤ t := by omega
  have hb : ¬ (128 : Int) ≤ t := by omega
  have hb2 : ¬ (127 : Int) < t := by omega
  go_enter Tryd.func146, Tryd.ntmps146
  go_wp2
  go_loopw [7] (fun i wr => ∃ k : Nat, i = .int .i64 ((f + k : Nat) : Int) ∧ f + k ≤ t + 1 ∧ NewAt w (Cs.allL (List.range' f k)) (Cs.allH (List.range' f k)) wr) (fun i _ => t + 1 - (intOf i).toNat)
  case atStart => exact ⟨0, rfl, by omega, NewAt.start w _⟩
  case round =>
    obtain ⟨k, rfl, hk, hn⟩ := hrel
    have HN := Lib.hid hn
    have HK := Lib.hid (Cs.rng_snoc f k)
    generalize hm : f + k = m at *
    have HM := Lib.hid hm
    clear hm
    by_cases hlt : (m : Int) ≤ t
    · obtain ⟨⟨⟨r0, r1⟩, r2, r3⟩, ⟨⟨t0, t1⟩, t2, t3⟩, hB⟩ := hn
      clear hB
      go_wp2_with fail
      refine (spec_add _ _ _ _ (by omega) (by omega)).mono ?_
      rw [Int.toNat_natCast]
      rintro e w1 ⟨rfl, hb1⟩
      have HN1 := Lib.hid (HN.out.later hb1)
      obtain ⟨⟨q0, q1⟩, q2, q3⟩ := HN1.out.2.1
      clear r0 r1 r2 r3 t0 t1 t2 t3
      go_wp2
      all_goals go_roundw
      all_goals first
        | exact ⟨k + 1, by rw [← Nat.add_assoc, HM.out]; go_num, by have := HM.out; omega, by rw [HK.out.1, HK.out.2]; exact HN1.out.stored _ _⟩
        | (simp [intOf]; done)
        | (simp [intOf]; omega)
    · obtain ⟨⟨⟨r0, r1⟩, r2, r3⟩, ⟨⟨t0, t1⟩, t2, t3⟩, hB⟩ := hn
      have HB := Lib.hid hB
      have HE : Hid (k = t + 1 - f) := by have := HM.out; show _ = _; omega
      clear hB
      go_wp2
      exact bodyPost_ret (v := .tuple #[.agg #[.int .i64 (Cs.allL (List.range' f k)), .int .i64 (Cs.allH (List.range' f k))], .bool true]) (by simp [results, Tryd.results146, go_sem, r0, r1]) rfl ⟨by rw [HG.out.1, HG.out.2.1, HG.out.2.2, HE.out], below_store HB.out (Nat.le_refl _) _ _⟩
theorem spec_range (f t : Nat) (h0 : f ≤ 255) (h1 : t ≤ 255) (w : World) : Calls Tryd.prog 146 #[.int .u8 f, .int .u8 t] w (RetNew w (Cs.rngL f t) (Cs.rngH f t) (Cs.rngOk f t)) := by
  by_cases h : f ≤ t ∧ t < 128
  · exact spec_range_yes f t h.1 h.2 w
  · exact spec_range_no f t h0 h1 (by omega) w

end Go.Proofs.YtbadepiakkhabaaDoor
