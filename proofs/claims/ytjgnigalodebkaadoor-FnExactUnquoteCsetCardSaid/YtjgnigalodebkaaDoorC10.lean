/- RangeCset of the program and of the reference model, and the walks of the laws on NewCset and RangeCset. No conditions. -/
import Derived.Test.YtjgnigalodebkaaDoorC9
namespace Go.Proofs.YtjgnigalodebkaaDoor
open Go.RowKit
attribute [local go_sem ↓] Go.wp_at_zero Go.wp_at_succ
set_option linter.unusedVariables false

/-- Is there such a range? -/
def Cs.rngOk (f t : Nat) : Bool := decide (f ≤ t) && decide (t < 128)
def Cs.rngL (f t : Nat) : Int := if Cs.rngOk f t = true then Cs.allL (List.range' f (t + 1 - f)) else 0
def Cs.rngH (f t : Nat) : Int := if Cs.rngOk f t = true then Cs.allH (List.range' f (t + 1 - f)) else 0
theorem Cs.rng_no {f t : Nat} (h : t < f ∨ 128 ≤ t) : Cs.rngOk f t = false ∧ Cs.rngL f t = 0 ∧ Cs.rngH f t = 0 := by
  have e : Cs.rngOk f t = false := by unfold Cs.rngOk; rcases h with h | h <;> simp <;> omega
  exact ⟨e, by unfold Cs.rngL; rw [if_neg (by rw [e]; simp)], by unfold Cs.rngH; rw [if_neg (by rw [e]; simp)]⟩
theorem Cs.rng_yes {f t : Nat} (h1 : f ≤ t) (h2 : t < 128) : Cs.rngOk f t = true ∧ Cs.rngL f t = Cs.allL (List.range' f (t + 1 - f)) ∧ Cs.rngH f t = Cs.allH (List.range' f (t + 1 - f)) := by
  have e : Cs.rngOk f t = true := by unfold Cs.rngOk; simp; omega
  exact ⟨e, by unfold Cs.rngL; rw [if_pos e], by unfold Cs.rngH; rw [if_pos e]⟩
theorem Cs.rng_snoc (f k : Nat) : Cs.allL (List.range' f (k + 1)) = Cs.addL (Cs.allL (List.range' f k)) (f + k) ∧ Cs.allH (List.range' f (k + 1)) = Cs.addH (Cs.allH (List.range' f k)) (f + k) := by
  rw [List.range'_1_concat]; exact Cs.all_snoc _ _

set_option maxHeartbeats 800000 in
theorem spec_range_no (f t : Nat) (h0 : f ≤ 255) (h1 : t ≤ 255) (hn : t < f ∨ 128 ≤ t) (w : World) : Calls Tryd.prog 61 #[.int .u8 f, .int .u8 t] w (RetNew w (Cs.rngL f t) (Cs.rngH f t) (Cs.rngOk f t)) := by
  have HG := Lib.hid (Cs.rng_no hn)
  by_cases ha : (t : Int) < f
  · go_enter Tryd.func61, Tryd.ntmps61
    go_wp2
    all_goals exact bodyPost_ret (v := .tuple #[.agg #[.int .i64 0, .int .i64 0], .bool false]) (by simp [results, Tryd.results61, go_sem]) rfl ⟨by rw [HG.out.1, HG.out.2.1, HG.out.2.2], bl1 _ _⟩
  · have hb : (128 : Int) ≤ t := by omega
    have hb2 : (127 : Int) < t := by omega
    have ha2 : (f : Int) ≤ t := by omega
    go_enter Tryd.func61, Tryd.ntmps61
    go_wp2
    all_goals exact bodyPost_ret (v := .tuple #[.agg #[.int .i64 0, .int .i64 0], .bool false]) (by simp [results, Tryd.results61, go_sem]) rfl ⟨by rw [HG.out.1, HG.out.2.1, HG.out.2.2], bl1 _ _⟩

set_option maxHeartbeats 800000 in
theorem spec_range_yes (f t : Nat) (h0 : f ≤ t) (h1 : t < 128) (w : World) : Calls Tryd.prog 61 #[.int .u8 f, .int .u8 t] w (RetNew w (Cs.rngL f t) (Cs.rngH f t) (Cs.rngOk f t)) := by
  have HG := Lib.hid (Cs.rng_yes h0 h1)
  have ha : ¬ (t : Int) < f := by omega
  have ha2 : (f : Int) ≤ t := by omega
  have hb : ¬ (128 : Int) ≤ t := by omega
  have hb2 : ¬ (127 : Int) < t := by omega
  go_enter Tryd.func61, Tryd.ntmps61
  go_wp2
  go_loopw [7] (fun i wr => ∃ k : Nat, i = .int .i64 ((f + k : Nat) : Int) ∧ f + k ≤ t + 1 ∧ NewAt w (Cs.allL (List.range' f k)) (Cs.allH (List.range' f k)) wr) (fun i _ => t + 1 - (intOf i).toNat)
  case atStart => exact ⟨0, rfl, by omega, NewAt.start w _⟩
  case round =>
    obtain ⟨k, rfl, hk, hn⟩ := hrel
    have HN := Lib.hid hn
    have HK := Lib.hid (Cs.rng_snoc f k)
    generalize hm : f + k = m at *
    have HM := Lib.hid hm
    clear hm
    by_cases hlt : (m : Int) ≤ t
    · obtain ⟨⟨⟨r0, r1⟩, r2, r3⟩, ⟨⟨t0, t1⟩, t2, t3⟩, hB⟩ := hn
      clear hB
      go_wp2_with fail
      refine (spec_add _ _ _ _ (by omega) (by omega)).mono ?_
      rw [Int.toNat_natCast]
      rintro e w1 ⟨rfl, hb1⟩
      have HN1 := Lib.hid (HN.out.later hb1)
      obtain ⟨⟨q0, q1⟩, q2, q3⟩ := HN1.out.2.1
      clear r0 r1 r2 r3 t0 t1 t2 t3
      go_wp2
      all_goals go_roundw
      all_goals first
        | exact ⟨k + 1, by rw [← Nat.add_assoc, HM.out]; go_num, by have := HM.out; omega, by rw [HK.out.1, HK.out.2]; exact HN1.out.stored _ _⟩
        | (simp [intOf]; done)
        | (simp [intOf]; omega)
    · obtain ⟨⟨⟨r0, r1⟩, r2, r3⟩, ⟨⟨t0, t1⟩, t2, t3⟩, hB⟩ := hn
      have HB := Lib.hid hB
      have HE : Hid (k = t + 1 - f) := by have := HM.out; show _ = _; omega
      clear hB
      go_wp2
      exact bodyPost_ret (v := .tuple #[.agg #[.int .i64 (Cs.allL (List.range' f k)), .int .i64 (Cs.allH (List.range' f k))], .bool true]) (by simp [results, Tryd.results61, go_sem, r0, r1]) rfl ⟨by rw [HG.out.1, HG.out.2.1, HG.out.2.2, HE.out], below_store HB.out (Nat.le_refl _) _ _⟩
theorem spec_range (f t : Nat) (h0 : f ≤ 255) (h1 : t ≤ 255) (w : World) : Calls Tryd.prog 61 #[.int .u8 f, .int .u8 t] w (RetNew w (Cs.rngL f t) (Cs.rngH f t) (Cs.rngOk f t)) := by
  by_cases h : f ≤ t ∧ t < 128
  · exact spec_range_yes f t h.1 h.2 w
  · exact spec_range_no f t h0 h1 (by omega) w

end Go.Proofs.YtjgnigalodebkaaDoor
