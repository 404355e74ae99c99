/- Sets in memory, and the walks of the laws on HasByte and ComplementCset. No conditions. -/
import Derived.Test.YtpidcanlnieceaaC3
import Derived.Deep.DeepCutAuto
namespace Go.Proofs.Ytpidcanlnieceaa
open Go.RowKit
attribute [local go_sem ↓] Go.wp_at_zero Go.wp_at_succ
set_option linter.unusedVariables false

/-- A set lies in memory. -/
abbrev SetAt (w : World) (b : Nat) (l h : Int) : Prop := w.cell? ⟨b, 0, none⟩ = some (.int .i64 l) ∧ w.cell? ⟨b, 1, none⟩ = some (.int .i64 h)
theorem SetAt.later {w wx : World} {b : Nat} {l h : Int} (s : SetAt w b l h) (hb : Below w.heap.size w wx) : SetAt wx b l h := ⟨cell_later hb s.1, cell_later hb s.2⟩
theorem SetAt.lt {w : World} {b : Nat} {l h : Int} (s : SetAt w b l h) : b < w.heap.size := World.block_lt_of_cell? _ _ s.1
theorem SetAt.drew {w : World} {b : Nat} {l h : Int} (s : SetAt w b l h) : SetAt w.drew b l h := s
theorem SetAt.new (w : World) (l h : Int) (T : TypeId) : SetAt (w.alloc (.cells #[.int .i64 l, .int .i64 h] T)) w.heap.size l h := by
  refine ⟨?_, ?_⟩ <;> go_simp
theorem SetAt.far {w : World} {b g : Nat} {l h : Int} (s : SetAt w b l h) (hne : b ≠ g) (x y : Value) : SetAt ((w.setCell ⟨g, 0, none⟩ x).setCell ⟨g, 1, none⟩ y) b l h := by
  obtain ⟨s0, s1⟩ := s
  exact ⟨by rw [World.cell?_setCell_far _ _ _ _ (by simpa using Ne.symm hne), World.cell?_setCell_far _ _ _ _ (by simpa using Ne.symm hne)]; exact s0, by rw [World.cell?_setCell_far _ _ _ _ (by simpa using Ne.symm hne), World.cell?_setCell_far _ _ _ _ (by simpa using Ne.symm hne)]; exact s1⟩
/-- A new variable for a set. -/
def VarAt (wx : World) (g : Nat) : Prop := SetAt wx g 0 0 ∧ wx.frozen? ⟨g, 0, none⟩ = false ∧ wx.frozen? ⟨g, 1, none⟩ = false
theorem free_later {w wx : World} {g o : Nat} (hb : Below w.heap.size w wx) (hl : g < w.heap.size) (h : w.frozen? ⟨g, o, none⟩ = false) : wx.frozen? ⟨g, o, none⟩ = false := (hb.frozen (p := ⟨g, o, none⟩) hl).trans h
theorem VarAt.later {wa wb : World} {g : Nat} (h : VarAt wa g) (hb : Below wa.heap.size wa wb) : VarAt wb g :=
  ⟨h.1.later hb, free_later hb h.1.lt h.2.1, free_later hb h.1.lt h.2.2⟩
theorem var_new {W : World} {T : TypeId} : VarAt (W.alloc (.cells #[.int .i64 0, .int .i64 0] T)) W.heap.size := by
  refine ⟨SetAt.new _ _ _ _, ?_, ?_⟩ <;> go_simp
theorem var_newd {W : World} {T : TypeId} : VarAt (W.alloc (.cells #[.int .i64 0, .int .i64 0] T)).drew W.heap.size := by
  refine ⟨SetAt.new _ _ _ _, ?_, ?_⟩ <;> go_simp
theorem SetAt.stored {w : World} {g : Nat} (h : VarAt w g) (l k : Int) : SetAt ((w.setCell ⟨g, 0, none⟩ (.int .i64 l)).setCell ⟨g, 1, none⟩ (.int .i64 k)) g l k := by
  obtain ⟨⟨h0, h1⟩, h2, h3⟩ := h
  refine ⟨?_, ?_⟩ <;> go_simp
theorem below_store {B g : Nat} {w wa : World} (h : Below B w wa) (hg : B ≤ g) (x y : Value) : Below B w ((wa.setCell ⟨g, 0, none⟩ x).setCell ⟨g, 1, none⟩ y) := (h.setCell hg _).setCell hg _

/-- Two sets lie in memory, and what was there before is as it was. -/
abbrev Sets2 (w : World) (x y : Nat) (a0 b0 a1 b1 : Int) (w' : World) : Prop := (SetAt w' x a0 b0 ∧ SetAt w' y a1 b1) ∧ Below w.heap.size w w'
theorem Sets2.later {w : World} {x y : Nat} {a0 b0 a1 b1 : Int} {wa wb : World} (h : Sets2 w x y a0 b0 a1 b1 wa) (hb : Below wa.heap.size wa wb) : Sets2 w x y a0 b0 a1 b1 wb :=
  ⟨⟨h.1.1.later hb, h.1.2.later hb⟩, below_step h.2 hb⟩
theorem Sets2.far {w : World} {x y g : Nat} {a0 b0 a1 b1 : Int} {wa : World} (h : Sets2 w x y a0 b0 a1 b1 wa) (hx : x ≠ g) (hy : y ≠ g) (hg : w.heap.size ≤ g) (u v : Value) : Sets2 w x y a0 b0 a1 b1 ((wa.setCell ⟨g, 0, none⟩ u).setCell ⟨g, 1, none⟩ v) :=
  ⟨⟨h.1.1.far hx _ _, h.1.2.far hy _ _⟩, below_store h.2 hg _ _⟩
theorem sets_start (w : World) (a0 b0 a1 b1 : Int) {T : TypeId} : Sets2 w w.heap.size (w.heap.size + 1) a0 b0 a1 b1 (((w.alloc (.cells #[.int .i64 a0, .int .i64 b0] T)).alloc (.cells #[.int .i64 a1, .int .i64 b1] T)).drew) := by
  refine ⟨⟨⟨?_, ?_⟩, ⟨?_, ?_⟩⟩, (bl2 _ _ _).drew⟩ <;> go_simp
theorem var_newd2 {w : World} {o p : Obj} {T : TypeId} : VarAt ((((w.alloc o).alloc p).alloc (.cells #[.int .i64 0, .int .i64 0] T)).drew) (w.heap.size + 1 + 1) := by
  refine ⟨⟨?_, ?_⟩, ?_, ?_⟩ <;> go_simp
/-- Three sets lie in memory. -/
abbrev Sets3 (w : World) (x y z : Nat) (a0 b0 a1 b1 p q : Int) (w' : World) : Prop := (SetAt w' x a0 b0 ∧ SetAt w' y a1 b1 ∧ SetAt w' z p q) ∧ Below w.heap.size w w'
theorem Sets3.later {w : World} {x y z : Nat} {a0 b0 a1 b1 p q : Int} {wa wb : World} (h : Sets3 w x y z a0 b0 a1 b1 p q wa) (hb : Below wa.heap.size wa wb) : Sets3 w x y z a0 b0 a1 b1 p q wb :=
  ⟨⟨h.1.1.later hb, h.1.2.1.later hb, h.1.2.2.later hb⟩, below_step h.2 hb⟩
theorem Sets3.far {w : World} {x y z g : Nat} {a0 b0 a1 b1 p q : Int} {wa : World} (h : Sets3 w x y z a0 b0 a1 b1 p q wa) (hx : x ≠ g) (hy : y ≠ g) (hz : z ≠ g) (hg : w.heap.size ≤ g) (u v : Value) : Sets3 w x y z a0 b0 a1 b1 p q ((wa.setCell ⟨g, 0, none⟩ u).setCell ⟨g, 1, none⟩ v) :=
  ⟨⟨h.1.1.far hx _ _, h.1.2.1.far hy _ _, h.1.2.2.far hz _ _⟩, below_store h.2 hg _ _⟩
theorem below_le {w w' : World} (h : Below w.heap.size w w') : w.heap.size ≤ w'.heap.size := h.size

set_option maxHeartbeats 800000 in
theorem FnExactHasByte_walk (a0 b0 a1 : Int) (w0 : (Lit.int .i64 a0).wf = true) (x0 : (Lit.int .i64 b0).wf = true) (w1 : (Lit.int .u8 a1).wf = true) (w : World) :
    Calls Try.prog 4 #[.agg #[.int .i64 a0, .int .i64 b0], .int .u8 a1] w fun e w' => e = .returned (.bool true) ∧ Below w.heap.size w w' := by
  obtain ⟨hb0, hb1⟩ : 0 ≤ a1 ∧ a1 ≤ 255 := by simpa [Lit.wf, IntKind.min, IntKind.max, IntKind.signed, IntKind.bits] using w1
  clear w0 x0 w1
  go_enter Try.func4, Try.ntmps4
  go_wp2_with fail
  refine (to_set _ _ _).mono ?_
  rintro e wa ⟨rfl, ha⟩
  have HA := Lib.hid (below_step (bl1 _ _) ha)
  obtain ⟨c0, c1⟩ := (SetAt.new w a0 b0 _).later ha
  clear ha
  go_wp2_with fail
  refine (spec_has _ _ _ _ hb0 hb1).mono ?_
  rintro e wb ⟨rfl, hb⟩
  have HB := Lib.hid (below_step HA.out hb)
  have d0 := cell_later hb c0
  have d1 := cell_later hb c1
  clear hb c0 c1
  go_wp2_with fail
  refine (to_set _ _ _).mono ?_
  rintro e wc ⟨rfl, hc⟩
  have HC := Lib.hid (below_step HB.out hc)
  clear hc d0 d1
  go_wp2_with fail
  refine (impl_has _ _ _ _ hb0 hb1).mono ?_
  rintro e wd ⟨rfl, hd⟩
  have HD := Lib.hid (below_step HC.out hd)
  clear hd
  go_wp2
  go_ret
  exact ⟨rfl, HD.out⟩

set_option maxHeartbeats 800000 in
theorem FnExactComplementCset_walk (a0 b0 : Int) (w0 : (Lit.int .i64 a0).wf = true) (x0 : (Lit.int .i64 b0).wf = true) (w : World) :
    Calls Try.prog 12 #[.agg #[.int .i64 a0, .int .i64 b0]] w fun e w' => e = .returned (.bool true) ∧ Below w.heap.size w w' := by
  clear w0 x0
  have HS := Lib.hid (fun W => spec_not a0 b0 W)
  have HI := Lib.hid (fun W => impl_not a0 b0 W)
  generalize bits .xor .i64 (-1) a0 = p at HS HI
  generalize bits .xor .i64 (-1) b0 = q at HS HI
  go_enter Try.func12, Try.ntmps12
  go_wp2_with fail
  refine (to_set _ _ _).mono ?_
  rintro e wa ⟨rfl, ha⟩
  have HA := Lib.hid (below_step (bl1 _ _) ha)
  have SA := Lib.hid ((SetAt.new w a0 b0 _).later ha)
  clear ha
  go_wp2_with fail
  refine (HS.out _).mono ?_
  rintro e wb ⟨rfl, hb⟩
  have HB := Lib.hid ((below_step HA.out hb).alloc (below_step HA.out hb).size (.cells #[.int .i64 p, .int .i64 q] 25))
  have SB := Lib.hid ((SA.out.later hb).later (bl1 wb (.cells #[.int .i64 p, .int .i64 q] 25)))
  have TB := Lib.hid (SetAt.new wb p q 25)
  clear hb
  obtain ⟨c0, c1⟩ := SB.out
  go_wp2_with fail
  refine (to_set _ _ _).mono ?_
  rintro e wc ⟨rfl, hc⟩
  have HC := Lib.hid (below_step HB.out hc)
  have TC := Lib.hid (TB.out.later hc)
  clear hc c0 c1
  go_wp2_with fail
  refine (HI.out _).mono ?_
  rintro e wd ⟨rfl, hd⟩
  have HD := Lib.hid ((below_step HC.out hd).alloc (below_step HC.out hd).size (.cells #[.int .i64 p, .int .i64 q] 25))
  obtain ⟨c0, c1⟩ := (TC.out.later hd).later (bl1 wd (.cells #[.int .i64 p, .int .i64 q] 25))
  clear hd
  go_wp2_with fail
  refine (eq_set _ _ _).mono ?_
  rintro e we ⟨rfl, he⟩
  have HE := Lib.hid (below_step HD.out he)
  clear he
  go_wp2
  go_ret
  exact ⟨rfl, HE.out⟩
end Go.Proofs.Ytpidcanlnieceaa
