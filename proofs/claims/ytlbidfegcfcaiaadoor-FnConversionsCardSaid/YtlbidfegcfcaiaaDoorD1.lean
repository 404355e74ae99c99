/- The reference model's draws: a cursor over bytes, and numbers and texts that are drawn from it. -/
import Derived.Test.YtlbidfegcfcaiaaDoorProg
import Derived.WalkKit
import Derived.ProofKit
import Derived.WalkLawsBesides
import Derived.WalkSpells
import Derived.Lib.Hide
import Derived.Deep.QuietTactic
import Derived.BigQuiet
namespace Go.Proofs.YtlbidfegcfcaiaaDoor
open Go.RowKit
set_option linter.unusedVariables false

/-- Bytes that came in: below block B, each readable. -/
def Code (B : Nat) (w : World) (v : Value) (n : Nat) : Prop :=
  ((∃ a c, v = .slice a 0 c) ∧ n = 0) ∨ ∃ g off c, v = .slice (some ⟨g, off, none⟩) n c ∧ g < B ∧ n ≤ maxLen ∧ ∀ j, j < n → ∃ x : Int, w.cell? ⟨g, off + j, none⟩ = some (.int .u8 x) ∧ 0 ≤ x ∧ x ≤ 255

/-- A cursor over them, in a block of the call's own. -/
def IsCur (B : Nat) (w : World) (cb : Nat) : Prop :=
  ∃ (v : Value) (n i : Nat) (h : Int), B ≤ cb ∧ Code B w v n ∧ w.heap[cb]? = some (.cells #[v, .int .i64 i, .int .i64 h] 55 (0, 0))

theorem code_below {B : Nat} {w w1 : World} {v : Value} {n : Nat} (h : Code B w v n) (hb : Below B w w1) : Code B w1 v n := by
  rcases h with h | ⟨g, off, c, hv, hg, hm, hc⟩
  · exact .inl h
  · refine .inr ⟨g, off, c, hv, hg, hm, fun j hj => ?_⟩
    obtain ⟨x, hx, h0⟩ := hc j hj
    exact ⟨x, (hb.cell hg).trans hx, h0⟩
theorem cur_below {B : Nat} {w w1 : World} {cb : Nat} (h : IsCur B w cb) (hB : B ≤ w.heap.size) (hb : Below w.heap.size w w1) : IsCur B w1 cb := by
  obtain ⟨v, n, i, h, hcb, hc, hh⟩ := h
  exact ⟨v, n, i, h, hcb, code_below hc (hb.mono hB), by rw [hb.block cb (Array.getElem?_eq_some_iff.1 hh).1]; exact hh⟩

theorem heap_cell {w : World} {b : Nat} {cs : Array Value} {T : TypeId} {fr : Nat × Nat} (hb : w.heap[b]? = some (.cells cs T fr)) (j : Nat) : w.cell? ⟨b, j, none⟩ = cs[j]? := by
  simp [World.cell?, hb]
theorem heap_free {w : World} {b : Nat} {cs : Array Value} {T : TypeId} (hb : w.heap[b]? = some (.cells cs T (0, 0))) (j : Nat) : w.frozen? ⟨b, j, none⟩ = false := by
  simp [World.frozen?, hb]

theorem and255 (n : Int) : 0 ≤ bits .and .i64 n 255 ∧ bits .and .i64 n 255 ≤ 255 := by
  have h : bits .and .i64 n 255 = n % 256 := by
    have h127 : (BitVec.ofInt 64 255).toNat = 2 ^ 8 - 1 := by decide
    have key : (BitVec.ofInt 64 n &&& BitVec.ofInt 64 255).toNat = (n % ((2 ^ 64 : Nat) : Int)).toNat % 2 ^ 8 := by
      rw [BitVec.toNat_and, BitVec.toNat_ofInt, h127, Nat.and_two_pow_sub_one_eq_mod]
    show IntKind.i64.wrap ((BitVec.ofInt 64 n &&& BitVec.ofInt 64 255).toNat : Nat) = n % 256
    rw [key, IntKind.wrap_i64]
    omega
  rw [h]; omega

theorem heap_set {w : World} {b j : Nat} {cs : Array Value} {T : TypeId} {u : Value} (hb : w.heap[b]? = some (.cells cs T (0, 0))) : (w.setCell ⟨b, j, none⟩ u).heap[b]? = some (.cells (cs.setIfInBounds j u) T (0, 0)) := heap_setCell_same w b j cs T u hb

theorem drewN_heap (w : World) (n : Nat) : (w.drewN n).heap = w.heap := rfl

/-- Only block cb may have changed, and blocks may be new. -/
def Only (cb : Nat) (w w' : World) : Prop := w.grownBy w' (some cb)
theorem Only.refl (cb : Nat) (w : World) : Only cb w w := ⟨rfl, rfl, rfl, Nat.le_refl _, fun _ _ _ => rfl⟩
theorem Only.trans {cb : Nat} {w w1 w2 : World} (h : Only cb w w1) (k : Only cb w1 w2) : Only cb w w2 :=
  ⟨k.os.trans h.os, k.tape.trans h.tape, k.output.trans h.output, Nat.le_trans h.size k.size, fun i hi hne => (k.block i (Nat.lt_of_lt_of_le hi h.size) hne).trans (h.block i hi hne)⟩
theorem Only.setCell {cb : Nat} {w w1 : World} (h : Only cb w w1) (j : Nat) (v : Value) : Only cb w (w1.setCell ⟨cb, j, none⟩ v) :=
  h.trans ⟨rfl, rfl, rfl, by simp [World.setCell], fun k _ hk => Below.heap_setCell _ _ _ _ (fun e => hk (by simp [e]))⟩
theorem Only.drewN {cb : Nat} {w w1 : World} (h : Only cb w w1) (n : Nat) : Only cb w (w1.drewN n) := h.trans ⟨rfl, rfl, rfl, Nat.le_refl _, fun _ _ _ => rfl⟩
theorem Only.of_below {cb : Nat} {w w1 : World} (h : Below w.heap.size w w1) : Only cb w w1 := ⟨h.os, h.tape, h.output, h.size, fun k hk _ => h.block k hk⟩
theorem Only.below {cb B : Nat} {w w1 : World} (h : Only cb w w1) (h1 : B ≤ cb) (h2 : B ≤ w.heap.size) : Below B w w1 :=
  (Below.refl _ _).grown h h2 (fun k hk => by cases hk; exact h1)

/-- A cursor's parts. -/
def Cur (B : Nat) (w : World) (cb : Nat) (v : Value) (n i : Nat) (h : Int) : Prop := B ≤ cb ∧ Code B w v n ∧ w.heap[cb]? = some (.cells #[v, .int .i64 i, .int .i64 h] 55 (0, 0))
theorem cur_of {B : Nat} {w : World} {cb : Nat} {v : Value} {n i : Nat} {h : Int} (c : Cur B w cb v n i h) : IsCur B w cb := ⟨v, n, i, h, c.1, c.2.1, c.2.2⟩
theorem cur_set2 {B : Nat} {w : World} {cb : Nat} {v : Value} {n i : Nat} {h : Int} (c : Cur B w cb v n i h) (h2 : Int) : Cur B (w.setCell ⟨cb, 2, none⟩ (.int .i64 h2)) cb v n i h2 :=
  ⟨c.1, code_below c.2.1 ((Below.refl _ _).setCell c.1 _), by have := heap_set (j := 2) (u := .int .i64 h2) c.2.2; simpa using this⟩
theorem cur_set1 {B : Nat} {w : World} {cb : Nat} {v : Value} {n i : Nat} {h : Int} (c : Cur B w cb v n i h) (i2 : Nat) (x : Value) (hx : x = .int .i64 i2) : Cur B (w.setCell ⟨cb, 1, none⟩ x) cb v n i2 h := by
  subst hx
  exact ⟨c.1, code_below c.2.1 ((Below.refl _ _).setCell c.1 _), by have := heap_set (j := 1) (u := .int .i64 i2) c.2.2; simpa using this⟩
theorem cur_drewN {B : Nat} {w : World} {cb : Nat} {v : Value} {n i : Nat} {h : Int} (c : Cur B w cb v n i h) (k : Nat) : Cur B (w.drewN k) cb v n i h :=
  ⟨c.1, code_below c.2.1 (below_drewN (Below.refl _ _) _), c.2.2⟩

theorem cur_drewN' {B : Nat} {w : World} {cb : Nat} {v : Value} {n i : Nat} {h : Int} (c : Cur B w cb v n i h) (k : Nat) : Cur B (w.drewN k) cb v n i h := cur_drewN c k

set_option maxHeartbeats 400000 in
theorem draw_byte (B cb : Nat) (w : World) (hp : IsCur B w cb) :
    Calls Tryd.prog 43 #[.pointer (some ⟨cb, 0, none⟩)] w fun e w' => ∃ x : Int, e = .returned (.int .i64 x) ∧ 0 ≤ x ∧ x ≤ 255 ∧ IsCur B w' cb ∧ Only cb w w' := by
  obtain ⟨v, n, i, h, hcb, hc, hh⟩ := hp
  have HCur := Lib.hid (show Cur B w cb v n i h from ⟨hcb, hc, hh⟩)
  have c1 : w.cell? ⟨cb, 1, none⟩ = some (.int .i64 i) := by rw [heap_cell hh]; rfl
  have c2 : w.cell? ⟨cb, 2, none⟩ = some (.int .i64 h) := by rw [heap_cell hh]; rfl
  have f1 := heap_free hh 1
  have f2 := heap_free hh 2
  obtain ⟨a, c, rfl⟩ : ∃ a c, v = .slice a n c := by
    rcases hc with ⟨⟨a, c, rfl⟩, rfl⟩ | ⟨g, off, c, rfl, _⟩
    · exact ⟨_, _, rfl⟩
    · exact ⟨_, _, rfl⟩
  have c0 : w.cell? ⟨cb, 0, none⟩ = some (.slice a n c) := by rw [heap_cell hh]; rfl
  by_cases hlt : (i : Int) < n
  case neg =>
    clear hc hh
    go_enter Tryd.func43, Tryd.ntmps43
    go_wp2
    generalize wrap64 (wrap64 (h * 6364136223846793005) + 1442695040888963407) = h2
    go_quiet (fail)
    generalize hy : bits BinOp.and IntKind.i64 (bits BinOp.xor IntKind.i64 (h2 / 8589934592) (h2 / 35184372088832)) 255 = y
    obtain ⟨hy0, hy1⟩ : 0 ≤ y ∧ y ≤ 255 := by rw [← hy]; exact and255 _
    clear hy
    go_wp2
    go_quiet (fail)
    go_wp2
    go_ret
    exact ⟨y, rfl, hy0, hy1, cur_of (cur_drewN (cur_drewN (cur_set2 HCur.out h2) _) _), (((Only.refl _ _).setCell _ _).drewN _).drewN _⟩
  case pos =>
    obtain ⟨g, off, c', hv, hg, hm, hcc⟩ : ∃ g off c', Value.slice a n c = .slice (some ⟨g, off, none⟩) n c' ∧ g < B ∧ n ≤ maxLen ∧ ∀ j, j < n → ∃ x : Int, w.cell? ⟨g, off + j, none⟩ = some (.int .u8 x) ∧ 0 ≤ x ∧ x ≤ 255 := by
      rcases hc with ⟨_, h0⟩ | h
      · omega
      · exact h
    simp only [Value.slice.injEq, true_and] at hv
    obtain ⟨rfl, rfl⟩ := hv
    obtain ⟨x, hx, hx0, hx1⟩ := hcc i (by omega)
    have hne : ¬ g = cb := by omega
    have i0 : (0 : Int) ≤ i := by omega
    unfold maxLen at hm
    have hi1 : (i : Int) + 1 ≤ 9223372036854775807 := by omega
    clear hc hh hcc
    go_enter Tryd.func43, Tryd.ntmps43
    go_wp2
    generalize wrap64 (wrap64 (h * 6364136223846793005) + 1442695040888963407) = h2
    go_quiet (fail)
    generalize hy : bits BinOp.and IntKind.i64 (bits BinOp.xor IntKind.i64 (h2 / 8589934592) (h2 / 35184372088832)) 255 = y
    obtain ⟨hy0, hy1⟩ : 0 ≤ y ∧ y ≤ 255 := by rw [← hy]; exact and255 _
    clear hy
    go_wp2
    go_quiet (fail)
    go_wp2
    go_quiet (fail)
    generalize hz : bits BinOp.and IntKind.i64 (y + x) 255 = z
    obtain ⟨hz0, hz1⟩ : 0 ≤ z ∧ z ≤ 255 := by rw [← hz]; exact and255 _
    clear hz
    go_wp2
    go_ret
    exact ⟨z, rfl, hz0, hz1, cur_of (cur_drewN' (cur_set1 (cur_set2 HCur.out h2) (i + 1) _ (by go_num)) _), (((Only.refl _ _).setCell _ _).setCell _ _).drewN _⟩

/-- A number below n. -/
def DrawnBelow (B cb : Nat) (w : World) (n : Int) (e : Ending) (w' : World) : Prop := ∃ x : Int, e = .returned (.int .i64 x) ∧ 0 ≤ x ∧ x < n ∧ IsCur B w' cb ∧ Only cb w w'

set_option maxHeartbeats 400000 in
theorem draw_small (B cb : Nat) (n : Int) (w : World) (hp : IsCur B w cb) (h0 : 0 < n) (h1 : n ≤ 256) :
    Calls Tryd.prog 31 #[.pointer (some ⟨cb, 0, none⟩), .int .i64 n] w (DrawnBelow B cb w n) := by
  have HB := Lib.hid (draw_byte B cb w hp)
  clear hp
  go_enter Tryd.func31, Tryd.ntmps31
  go_wp2_with fail
  refine HB.out.mono ?_
  rintro e w1 ⟨x, rfl, hx0, hx1, hc, hb⟩
  have HC := Lib.hid hc
  have HW := Lib.hid hb
  clear hc hb
  have hm0 : 0 ≤ x % n := Int.emod_nonneg _ (by omega)
  have hm1 : x % n < n := Int.emod_lt_of_pos _ h0
  go_wp2
  go_ret
  exact ⟨x % n, rfl, hm0, hm1, HC.out, HW.out⟩

set_option maxHeartbeats 400000 in
theorem draw_great (B cb : Nat) (n : Int) (w : World) (hp : IsCur B w cb) (h0 : 256 < n) (h1 : n ≤ 2147483647) :
    Calls Tryd.prog 31 #[.pointer (some ⟨cb, 0, none⟩), .int .i64 n] w (DrawnBelow B cb w n) := by
  have HB := Lib.hid (draw_byte B cb w hp)
  clear hp
  go_enter Tryd.func31, Tryd.ntmps31
  go_wp2_with fail
  refine HB.out.mono ?_
  rintro e w1 ⟨x, rfl, hx0, hx1, hc, hb⟩
  have HB1 := Lib.hid (draw_byte B cb w1 hc)
  have HW := Lib.hid hb
  clear hc hb
  go_wp2_with fail
  refine HB1.out.mono ?_
  rintro e w2 ⟨y, rfl, hy0, hy1, hc, hb⟩
  have HB2 := Lib.hid (draw_byte B cb w2 hc)
  have HW2 := Lib.hid (HW.out.trans hb)
  clear hc hb
  go_wp2_with fail
  refine HB2.out.mono ?_
  rintro e w3 ⟨z, rfl, hz0, hz1, hc, hb⟩
  have HB3 := Lib.hid (draw_byte B cb w3 hc)
  have HW3 := Lib.hid (HW2.out.trans hb)
  clear hc hb
  go_wp2_with fail
  refine HB3.out.mono ?_
  rintro e w4 ⟨t, rfl, ht0, ht1, hc, hb⟩
  have HC := Lib.hid hc
  have HW4 := Lib.hid (HW3.out.trans hb)
  clear hc hb
  go_wp2
  go_ret
  exact ⟨_, rfl, Int.emod_nonneg _ (by omega), Int.emod_lt_of_pos _ (by omega), HC.out, HW4.out⟩

/-- A number below n is drawn, for every n above 0. -/
theorem draw_below (B cb : Nat) (n : Int) (w : World) (hp : IsCur B w cb) (h0 : 0 < n) (h1 : n ≤ 2147483647) :
    Calls Tryd.prog 31 #[.pointer (some ⟨cb, 0, none⟩), .int .i64 n] w (DrawnBelow B cb w n) := by
  by_cases h : n ≤ 256
  · exact draw_small B cb n w hp h0 h
  · exact draw_great B cb n w hp (by omega) h1
end Go.Proofs.YtlbidfegcfcaiaaDoor
