/- HasByte of the program, and the walks of the laws on HasByte and on the four set operations. No conditions. -/
import Derived.Test.YtlbidfegcfcaiaaDoorC2
import Derived.Deep.RegionHeld3
import Derived.Deep.DrawnRows
namespace Go.Proofs.YtlbidfegcfcaiaaDoor
open Go.RowKit
attribute [local go_sem ↓] Go.wp_at_zero Go.wp_at_succ
set_option linter.unusedVariables false

theorem Cs.has_one (a b x : Int) (h0 : 0 ≤ x) (h1 : x ≤ 255) : (!(bits .and .i64 a (Cs.oneL x) == 0) || !(bits .and .i64 b (Cs.oneH x) == 0)) = Cs.mem a b x.toNat := by
  unfold Cs.oneL Cs.oneH
  by_cases ha : x < 64
  · rw [if_pos ha, if_pos ha, Cs.mem_low (by omega), Cs.and_zero, ← Cs.test_bit a x.toNat (by omega)]
    simp [bne]
  · rw [if_neg ha, if_neg ha, Cs.and_zero]
    by_cases hb : x < 128
    · have e0 : x.toNat - 64 = (x - 64).toNat := by omega
      rw [if_pos hb, Cs.mem_high (by omega) (by omega), e0, ← Cs.test_bit b (x - 64).toNat (by omega)]
      simp [bne]
    · rw [if_neg hb, Cs.mem_out (by omega), Cs.and_zero]; rfl

theorem below_step {w wa wb : World} (h : Below w.heap.size w wa) (hb : Below wa.heap.size wa wb) : Below w.heap.size w wb := h.trans (hb.mono h.size)
theorem keep_cells {B : Nat} {w0 w1 w2 : World} {cs : Array Value} {T : TypeId} {fr : Nat × Nat} (h : w1.heap[B]? = some (.cells cs T fr)) (hb : Below w1.heap.size w1 w2) : w2.heap[B]? = some (.cells cs T fr) := by
  rw [hb.block B (Array.getElem?_eq_some_iff.1 h).1]; exact h

/-- What HasByte returns, by the two words of the intersection. -/
theorem has_by (a b x p q : Int) (w : World) (h0 : 0 ≤ x) (h1 : x ≤ 255) (HI : Hid (∀ W, Calls Tryd.prog 56 #[.agg #[.int .i64 a, .int .i64 b], .agg #[.int .i64 (Cs.oneL x), .int .i64 (Cs.oneH x)]] W (RetSet W p q))) (r : Bool)
    (hr : (p ≠ 0 ∧ r = true) ∨ (p = 0 ∧ q ≠ 0 ∧ r = true) ∨ (p = 0 ∧ q = 0 ∧ r = false)) : Calls Tryd.prog 45 #[.agg #[.int .i64 a, .int .i64 b], .int .u8 x] w (RetBool w r) := by
  rcases hr with ⟨hp, rfl⟩ | ⟨rfl, hq, rfl⟩ | ⟨rfl, rfl, rfl⟩
  · have hp2 : (p == 0) = false := by simpa using hp
    clear hp
    go_enter Tryd.func45, Tryd.ntmps45
    go_wp2
    go_region_held3 (fun w' => w'.cell? ⟨w.heap.size, 0, none⟩ = some (.int .i64 a) ∧ w'.cell? ⟨w.heap.size, 1, none⟩ = some (.int .i64 b) ∧ Below w.heap.size w w')
      (first | ((refine ⟨?_, ?_, (bl1 _ _).drew⟩) <;> go_keep) | (go_split_ands; exact ⟨cell_later (by assumption) (by assumption), cell_later (by assumption) (by assumption), below_step (by assumption) (by assumption)⟩))
      (first | (go_at_call 57; refine (impl_one x _ h0 h1).mono ?_; rintro e w1 ⟨rfl, hb1⟩) | (go_at_call 56; refine (HI.out _).mono ?_; rintro e w2 ⟨rfl, hb2⟩))
    have hB : Below w.heap.size w w2 := by
      have hh := ‹w2.cell? ⟨w.heap.size, 0, none⟩ = some (.int .i64 a) ∧ w2.cell? ⟨w.heap.size, 1, none⟩ = some (.int .i64 b) ∧ Below w.heap.size w w2›
      exact hh.2.2
    go_wp2
    go_ret
    exact ⟨rfl, hB⟩
  · have hq2 : (q == 0) = false := by simpa using hq
    clear hq
    go_enter Tryd.func45, Tryd.ntmps45
    go_wp2
    go_region_held3 (fun w' => w'.cell? ⟨w.heap.size, 0, none⟩ = some (.int .i64 a) ∧ w'.cell? ⟨w.heap.size, 1, none⟩ = some (.int .i64 b) ∧ Below w.heap.size w w')
      (first | ((refine ⟨?_, ?_, (bl1 _ _).drew⟩) <;> go_keep) | (go_split_ands; exact ⟨cell_later (by assumption) (by assumption), cell_later (by assumption) (by assumption), below_step (by assumption) (by assumption)⟩))
      (first | (go_at_call 57; refine (impl_one x _ h0 h1).mono ?_; rintro e w1 ⟨rfl, hb1⟩) | (go_at_call 56; refine (HI.out _).mono ?_; rintro e w2 ⟨rfl, hb2⟩))
    have hB : Below w.heap.size w w2 := by
      have hh := ‹w2.cell? ⟨w.heap.size, 0, none⟩ = some (.int .i64 a) ∧ w2.cell? ⟨w.heap.size, 1, none⟩ = some (.int .i64 b) ∧ Below w.heap.size w w2›
      exact hh.2.2
    go_wp2
    go_ret
    exact ⟨rfl, hB⟩
  · go_enter Tryd.func45, Tryd.ntmps45
    go_wp2
    go_region_held3 (fun w' => w'.cell? ⟨w.heap.size, 0, none⟩ = some (.int .i64 a) ∧ w'.cell? ⟨w.heap.size, 1, none⟩ = some (.int .i64 b) ∧ Below w.heap.size w w')
      (first | ((refine ⟨?_, ?_, (bl1 _ _).drew⟩) <;> go_keep) | (go_split_ands; exact ⟨cell_later (by assumption) (by assumption), cell_later (by assumption) (by assumption), below_step (by assumption) (by assumption)⟩))
      (first | (go_at_call 57; refine (impl_one x _ h0 h1).mono ?_; rintro e w1 ⟨rfl, hb1⟩) | (go_at_call 56; refine (HI.out _).mono ?_; rintro e w2 ⟨rfl, hb2⟩))
    have hB : Below w.heap.size w w2 := by
      have hh := ‹w2.cell? ⟨w.heap.size, 0, none⟩ = some (.int .i64 a) ∧ w2.cell? ⟨w.heap.size, 1, none⟩ = some (.int .i64 b) ∧ Below w.heap.size w w2›
      exact hh.2.2
    go_wp2
    go_ret
    exact ⟨rfl, hB⟩

theorem impl_has (a b x : Int) (w : World) (h0 : 0 ≤ x) (h1 : x ≤ 255) : Calls Tryd.prog 45 #[.agg #[.int .i64 a, .int .i64 b], .int .u8 x] w (RetBool w (Cs.mem a b x.toNat)) := by
  rw [← Cs.has_one a b x h0 h1]
  refine has_by a b x _ _ w h0 h1 (fun W => impl_and _ _ _ _ W) _ ?_
  generalize bits .and .i64 a (Cs.oneL x) = p
  generalize bits .and .i64 b (Cs.oneH x) = q
  by_cases hp : p = 0
  · by_cases hq : q = 0
    · exact .inr (.inr ⟨hp, hq, by simp [hp, hq]⟩)
    · exact .inr (.inl ⟨hp, hq, by simp [hp, hq]⟩)
  · exact .inl ⟨hp, by simp [hp]⟩

end Go.Proofs.YtlbidfegcfcaiaaDoor
