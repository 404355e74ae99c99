/- The reference model's draws of an integer; a code that came in. -/
import Derived.Test.YtlbidfegcfcaiaaDoorD2
import Derived.Test.YtlbidfegcfcaiaaDoorB0
namespace Go.Proofs.YtlbidfegcfcaiaaDoor
open Go.RowKit
set_option linter.unusedVariables false

/-- The cells of a new block. -/
theorem new_cells {α : Type} (mk : α → Value) (l : List α) (d : α) (w : World) (t : TypeId) (arr : Array Value) (ha : arr = (l.map mk).toArray) : ∀ i, i < l.length → (w.alloc (.cells arr t)).cell? ⟨w.heap.size, i, none⟩ = some (mk (l.getD i d)) := by
  intro i hi
  subst ha
  rw [World.cell?_alloc_mark]
  simp [List.getD, List.getElem?_eq_getElem hi]

theorem only_alloc {cb : Nat} {w : World} (o : Obj) : Only cb w (w.alloc o) := ⟨rfl, rfl, rfl, by simp, fun k hk _ => Below.heap_alloc _ _ _ hk⟩
theorem cur_alloc {B cb : Nat} {w : World} (h : IsCur B w cb) (hB : B ≤ w.heap.size) (o : Obj) : IsCur B (w.alloc o) cb := cur_below h hB ((Below.refl _ _).alloc (Nat.le_refl _) o)
theorem cur_lt {B cb : Nat} {w : World} (h : IsCur B w cb) : cb < w.heap.size := by
  obtain ⟨v, n, i, h, hcb, hc, hh⟩ := h
  exact (Array.getElem?_eq_some_iff.1 hh).1

/-- An integer of 64 bits is drawn. -/
def DrawnInt (B cb : Nat) (w : World) (e : Ending) (w' : World) : Prop := ∃ x : Int, e = .returned (.int .i64 x) ∧ -9223372036854775808 ≤ x ∧ x ≤ 9223372036854775807 ∧ IsCur B w' cb ∧ Only cb w w'

set_option maxHeartbeats 400000 in
theorem draw_whole (B cb : Nat) (w : World) (hp : IsCur B w cb) (hB : B ≤ w.heap.size) :
    Calls Tryd.prog 16 #[.pointer (some ⟨cb, 0, none⟩)] w (DrawnInt B cb w) := by
  have HB := Lib.hid (draw_below B cb 3 w hp (by omega) (by omega))
  clear hp
  go_enter Tryd.func16, Tryd.ntmps16
  go_wp2_with fail
  refine HB.out.mono ?_
  rintro e w1 ⟨x, rfl, hx0, hx1, hcur, ho⟩
  have HCur := Lib.hid hcur
  have HO := Lib.hid ho
  have hB1 : B ≤ w1.heap.size := Nat.le_trans hB ho.size
  have hcb := cur_lt hcur
  clear hcur ho
  by_cases h0 : x = 0
  · have hx : (x == 0) = true := by simpa using h0
    subst h0
    go_wp2_with fail
    refine (pick_int B cb w1.heap.size 12 [0, 1, -1, 9, 10, 999999, 1000000, 999999999999, 1000000000000, -999999999999, 9223372036854775807, -9223372036854775808] _ (cur_alloc HCur.out hB1 _) (by decide) (by decide) (by omega) (new_cells (Value.int .i64) _ 0 w1 _ _ rfl)).mono ?_
    rintro e w2 ⟨y, hy, rfl, hc2, ho2⟩
    have HC2 := Lib.hid hc2
    have HO2 := Lib.hid (HO.out.trans ((only_alloc _).trans ho2))
    have HY : Hid (-9223372036854775808 ≤ y ∧ y ≤ 9223372036854775807) := by
      simp only [List.mem_cons, List.not_mem_nil, or_false] at hy
      show _ ∧ _
      omega
    clear hy hc2 ho2
    go_wp2
    go_ret
    exact ⟨y, rfl, HY.out.1, HY.out.2, HC2.out, HO2.out⟩
  · have hx : (x == 0) = false := by simpa using h0
    by_cases h1 : x = 1
    · have hx2 : (x == 1) = true := by simpa using h1
      subst h1
      have HD := Lib.hid (draw_below B cb 1000000 w1 HCur.out (by omega) (by omega))
      go_wp2_with fail
      refine HD.out.mono ?_
      rintro e w2 ⟨y, rfl, hy0, hy1, hc2, ho2⟩
      have HC2 := Lib.hid hc2
      have HO2 := Lib.hid (HO.out.trans ho2)
      clear hc2 ho2
      go_wp2
      go_ret
      exact ⟨y - 500000, rfl, by omega, by omega, HC2.out, HO2.out⟩
    · have hx2 : (x == 1) = false := by simpa using h1
      have HD := Lib.hid (draw_below B cb 20 w1 HCur.out (by omega) (by omega))
      go_wp2_with fail
      refine HD.out.mono ?_
      rintro e w2 ⟨y, rfl, hy0, hy1, hc2, ho2⟩
      have HC2 := Lib.hid hc2
      have HO2 := Lib.hid (HO.out.trans ho2)
      clear hc2 ho2
      go_wp2
      go_ret
      exact ⟨y, rfl, by omega, by omega, HC2.out, HO2.out⟩

theorem add_off (g o i : Nat) : (⟨g, o, none⟩ : Addr).add i = ⟨g, o + i, none⟩ := by
  unfold Addr.add; split <;> simp_all

/-- Bytes that came in, as a draw wants them. -/
theorem code_of_in {w : World} {a : Option Addr} {len cap : Nat} {z : List Int} (h : IsRow .u8 w a len cap z) : Code w.heap.size w (.slice a len cap) len := by
  rcases h with ⟨rfl, rfl, rfl, rfl⟩ | ⟨x, rfl, hl, hm, hz, hc, hs⟩
  · exact .inl ⟨⟨_, _, rfl⟩, rfl⟩
  · by_cases h0 : len = 0
    · subst h0; exact .inl ⟨⟨_, _, rfl⟩, rfl⟩
    · obtain ⟨b, off, spot⟩ := x
      have hspot : spot = none := by simpa [Addr.add] using World.cell?_spot (hc 0 (by omega))
      subst hspot
      have hc0 := hc 0 (by omega)
      refine .inr ⟨b, off, cap, rfl, World.block_lt_of_cell? w _ hc0, by omega, fun j hj => ⟨z.getD j 0, ?_, ?_⟩⟩
      · rw [← add_off b off j]; exact hc j (by omega)
      · have h1 : z.getD j 0 = z[j]'(by omega) := by simp [List.getD, List.getElem?_eq_getElem (show j < z.length by omega)]
        rw [h1]
        have h2 := hs _ (List.getElem_mem (show j < z.length by omega))
        simpa [Lit.wf, IntKind.min, IntKind.max, IntKind.signed, IntKind.bits] using h2

/-- A code that is not too long. -/
theorem big_no (a : Option Addr) (len cap : Nat) (w : World) (h : (len : Int) ≤ 1048576) :
    Calls Tryd.prog 5 #[.slice a len cap] w fun e w' => e = .returned (.bool false) ∧ w = w' := by
  have h2 : decide ((1048576 : Int) < len) = false := by simp; omega
  go_enter Tryd.func5, Tryd.ntmps5
  go_wp2
  go_ret
  exact ⟨by rw [show Value.bool false = Value.bool (decide ((1048576 : Int) < len)) from by rw [h2]]; first | rfl | simp, rfl⟩

end Go.Proofs.YtlbidfegcfcaiaaDoor
