/- Sets in memory, and the walks of the laws on HasByte and ComplementCset. No conditions. -/
import Derived.Test.YtlbidfegcfcaiaaDoorC3
import Derived.Deep.DeepCutAuto
namespace Go.Proofs.YtlbidfegcfcaiaaDoor
open Go.RowKit
attribute [local go_sem ↓] Go.wp_at_zero Go.wp_at_succ
set_option linter.unusedVariables false

/-- A set lies in memory. -/
abbrev SetAt (w : World) (b : Nat) (l h : Int) : Prop := w.cell? ⟨b, 0, none⟩ = some (.int .i64 l) ∧ w.cell? ⟨b, 1, none⟩ = some (.int .i64 h)
theorem SetAt.later {w wx : World} {b : Nat} {l h : Int} (s : SetAt w b l h) (hb : Below w.heap.size w wx) : SetAt wx b l h := ⟨cell_later hb s.1, cell_later hb s.2⟩
theorem SetAt.lt {w : World} {b : Nat} {l h : Int} (s : SetAt w b l h) : b < w.heap.size := World.block_lt_of_cell? _ _ s.1
theorem SetAt.drew {w : World} {b : Nat} {l h : Int} (s : SetAt w b l h) : SetAt w.drew b l h := s
theorem SetAt.new (w : World) (l h : Int) (T : TypeId) : SetAt (w.alloc (.cells #[.int .i64 l, .int .i64 h] T)) w.heap.size l h := by
  refine ⟨?_, ?_⟩ <;> go_simp
theorem SetAt.far {w : World} {b g : Nat} {l h : Int} (s : SetAt w b l h) (hne : b ≠ g) (x y : Value) : SetAt ((w.setCell ⟨g, 0, none⟩ x).setCell ⟨g, 1, none⟩ y) b l h := by
  obtain ⟨s0, s1⟩ := s
  exact ⟨by rw [World.cell?_setCell_far _ _ _ _ (by simpa using Ne.symm hne), World.cell?_setCell_far _ _ _ _ (by simpa using Ne.symm hne)]; exact s0, by rw [World.cell?_setCell_far _ _ _ _ (by simpa using Ne.symm hne), World.cell?_setCell_far _ _ _ _ (by simpa using Ne.symm hne)]; exact s1⟩
/-- A new variable for a set. -/
def VarAt (wx : World) (g : Nat) : Prop := SetAt wx g 0 0 ∧ wx.frozen? ⟨g, 0, none⟩ = false ∧ wx.frozen? ⟨g, 1, none⟩ = false
theorem free_later {w wx : World} {g o : Nat} (hb : Below w.heap.size w wx) (hl : g < w.heap.size) (h : w.frozen? ⟨g, o, none⟩ = false) : wx.frozen? ⟨g, o, none⟩ = false := (hb.frozen (p := ⟨g, o, none⟩) hl).trans h
theorem VarAt.later {wa wb : World} {g : Nat} (h : VarAt wa g) (hb : Below wa.heap.size wa wb) : VarAt wb g :=
  ⟨h.1.later hb, free_later hb h.1.lt h.2.1, free_later hb h.1.lt h.2.2⟩
theorem var_new {W : World} {T : TypeId} : VarAt (W.alloc (.cells #[.int .i64 0, .int .i64 0] T)) W.heap.size := by
  refine ⟨SetAt.new _ _ _ _, ?_, ?_⟩ <;> go_simp
theorem var_newd {W : World} {T : TypeId} : VarAt (W.alloc (.cells #[.int .i64 0, .int .i64 0] T)).drew W.heap.size := by
  refine ⟨SetAt.new _ _ _ _, ?_, ?_⟩ <;> go_simp
theorem SetAt.stored {w : World} {g : Nat} (h : VarAt w g) (l k : Int) : SetAt ((w.setCell ⟨g, 0, none⟩ (.int .i64 l)).setCell ⟨g, 1, none⟩ (.int .i64 k)) g l k := by
  obtain ⟨⟨h0, h1⟩, h2, h3⟩ := h
  refine ⟨?_, ?_⟩ <;> go_simp
theorem below_store {B g : Nat} {w wa : World} (h : Below B w wa) (hg : B ≤ g) (x y : Value) : Below B w ((wa.setCell ⟨g, 0, none⟩ x).setCell ⟨g, 1, none⟩ y) := (h.setCell hg _).setCell hg _

/-- Two sets lie in memory, and what was there before is as it was. -/
abbrev Sets2 (w : World) (x y : Nat) (a0 b0 a1 b1 : Int) (w' : World) : Prop := (SetAt w' x a0 b0 ∧ SetAt w' y a1 b1) ∧ Below w.heap.size w w'
theorem Sets2.later {w : World} {x y : Nat} {a0 b0 a1 b1 : Int} {wa wb : World} (h : Sets2 w x y a0 b0 a1 b1 wa) (hb : Below wa.heap.size wa wb) : Sets2 w x y a0 b0 a1 b1 wb :=
  ⟨⟨h.1.1.later hb, h.1.2.later hb⟩, below_step h.2 hb⟩
theorem Sets2.far {w : World} {x y g : Nat} {a0 b0 a1 b1 : Int} {wa : World} (h : Sets2 w x y a0 b0 a1 b1 wa) (hx : x ≠ g) (hy : y ≠ g) (hg : w.heap.size ≤ g) (u v : Value) : Sets2 w x y a0 b0 a1 b1 ((wa.setCell ⟨g, 0, none⟩ u).setCell ⟨g, 1, none⟩ v) :=
  ⟨⟨h.1.1.far hx _ _, h.1.2.far hy _ _⟩, below_store h.2 hg _ _⟩
theorem sets_start (w : World) (a0 b0 a1 b1 : Int) {T : TypeId} : Sets2 w w.heap.size (w.heap.size + 1) a0 b0 a1 b1 (((w.alloc (.cells #[.int .i64 a0, .int .i64 b0] T)).alloc (.cells #[.int .i64 a1, .int .i64 b1] T)).drew) := by
  refine ⟨⟨⟨?_, ?_⟩, ⟨?_, ?_⟩⟩, (bl2 _ _ _).drew⟩ <;> go_simp
theorem var_newd2 {w : World} {o p : Obj} {T : TypeId} : VarAt ((((w.alloc o).alloc p).alloc (.cells #[.int .i64 0, .int .i64 0] T)).drew) (w.heap.size + 1 + 1) := by
  refine ⟨⟨?_, ?_⟩, ?_, ?_⟩ <;> go_simp
/-- Three sets lie in memory. -/
abbrev Sets3 (w : World) (x y z : Nat) (a0 b0 a1 b1 p q : Int) (w' : World) : Prop := (SetAt w' x a0 b0 ∧ SetAt w' y a1 b1 ∧ SetAt w' z p q) ∧ Below w.heap.size w w'
theorem Sets3.later {w : World} {x y z : Nat} {a0 b0 a1 b1 p q : Int} {wa wb : World} (h : Sets3 w x y z a0 b0 a1 b1 p q wa) (hb : Below wa.heap.size wa wb) : Sets3 w x y z a0 b0 a1 b1 p q wb :=
  ⟨⟨h.1.1.later hb, h.1.2.1.later hb, h.1.2.2.later hb⟩, below_step h.2 hb⟩
theorem Sets3.far {w : World} {x y z g : Nat} {a0 b0 a1 b1 p q : Int} {wa : World} (h : Sets3 w x y z a0 b0 a1 b1 p q wa) (hx : x ≠ g) (hy : y ≠ g) (hz : z ≠ g) (hg : w.heap.size ≤ g) (u v : Value) : Sets3 w x y z a0 b0 a1 b1 p q ((wa.setCell ⟨g, 0, none⟩ u).setCell ⟨g, 1, none⟩ v) :=
  ⟨⟨h.1.1.far hx _ _, h.1.2.1.far hy _ _, h.1.2.2.far hz _ _⟩, below_store h.2 hg _ _⟩
theorem below_le {w w' : World} (h : Below w.heap.size w w') : w.heap.size ≤ w'.heap.size := h.size

end Go.Proofs.YtlbidfegcfcaiaaDoor
