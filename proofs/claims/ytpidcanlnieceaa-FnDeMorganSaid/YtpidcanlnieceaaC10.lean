/- RangeCset of the program and of the reference model, and the walks of the laws on NewCset and RangeCset. No conditions. -/
import Derived.Test.YtpidcanlnieceaaC9
namespace Go.Proofs.Ytpidcanlnieceaa
open Go.RowKit
attribute [local go_sem ↓] Go.wp_at_zero Go.wp_at_succ
set_option linter.unusedVariables false

/-- Is there such a range? -/
def Cs.rngOk (f t : Nat) : Bool := decide (f ≤ t) && decide (t < 128)
def Cs.rngL (f t : Nat) : Int := if Cs.rngOk f t = true then Cs.allL (List.range' f (t + 1 - f)) else 0
def Cs.rngH (f t : Nat) : Int := if Cs.rngOk f t = true then Cs.allH (List.range' f (t + 1 - f)) else 0
theorem Cs.rng_no {f t : Nat} (h : t < f ∨ 128 ≤ t) : Cs.rngOk f t = false ∧ Cs.rngL f t = 0 ∧ Cs.rngH f t = 0 := by
  have e : Cs.rngOk f t = false := by unfold Cs.rngOk; rcases h with h | h <;> simp <;> omega
  exact ⟨e, by unfold Cs.rngL; rw [if_neg (by rw [e]; simp)], by unfold Cs.rngH; rw [if_neg (by rw [e]; simp)]⟩
theorem Cs.rng_yes {f t : Nat} (h1 : f ≤ t) (h2 : t < 128) : Cs.rngOk f t = true ∧ Cs.rngL f t = Cs.allL (List.range' f (t + 1 - f)) ∧ Cs.rngH f t = Cs.allH (List.range' f (t + 1 - f)) := by
  have e : Cs.rngOk f t = true := by unfold Cs.rngOk; simp; omega
  exact ⟨e, by unfold Cs.rngL; rw [if_pos e], by unfold Cs.rngH; rw [if_pos e]⟩
theorem Cs.rng_snoc (f k : Nat) : Cs.allL (List.range' f (k + 1)) = Cs.addL (Cs.allL (List.range' f k)) (f + k) ∧ Cs.allH (List.range' f (k + 1)) = Cs.addH (Cs.allH (List.range' f k)) (f + k) := by
  rw [List.range'_1_concat]; exact Cs.all_snoc _ _

set_option maxHeartbeats 800000 in
theorem spec_range_no (f t : Nat) (h0 : f ≤ 255) (h1 : t ≤ 255) (hn : t < f ∨ 128 ≤ t) (w : World) : Calls Try.prog 27 #[.int .u8 f, .int .u8 t] w (RetNew w (Cs.rngL f t) (Cs.rngH f t) (Cs.rngOk f t)) := by
  have HG := Lib.hid (Cs.rng_no hn)
  by_cases ha : (t : Int) < f
  · go_enter Try.func27, Try.ntmps27
    go_wp2
    all_goals exact bodyPost_ret (v := .tuple #[.agg #[.int .i64 0, .int .i64 0], .bool false]) (by simp [results, Try.results27, go_sem]) rfl ⟨by rw [HG.out.1, HG.out.2.1, HG.out.2.2], bl1 _ _⟩
  · have hb : (128 : Int) ≤ t := by omega
    have hb2 : (127 : Int) < t := by omega
    have ha2 : (f : Int) ≤ t := by omega
    go_enter Try.func27, Try.ntmps27
    go_wp2
    all_goals exact bodyPost_ret (v := .tuple #[.agg #[.int .i64 0, .int .i64 0], .bool false]) (by simp [results, Try.results27, go_sem]) rfl ⟨by rw [HG.out.1, HG.out.2.1, HG.out.2.2], bl1 _ _⟩

set_option maxHeartbeats 800000 in
theorem spec_range_yes (f t : Nat) (h0 : f ≤ t) (h1 : t < 128) (w : World) : Calls Try.prog 27 #[.int .u8 f, .int .u8 t] w (RetNew w (Cs.rngL f t) (Cs.rngH f t) (Cs.rngOk f t)) := by
  have HG := Lib.hid (Cs.rng_yes h0 h1)
  have ha : ¬ (t : Int) < f := by omega
  have ha2 : (f : Int) ≤ t := by omega
  have hb : ¬ (128 : Int) ≤ t := by omega
  have hb2 : ¬ (127 : Int) < t := by omega
  go_enter Try.func27, Try.ntmps27
  go_wp2
  go_loopw [7] (fun i wr => ∃ k : Nat, i = .int .i64 ((f + k : Nat) : Int) ∧ f + k ≤ t + 1 ∧ NewAt w (Cs.allL (List.range' f k)) (Cs.allH (List.range' f k)) wr) (fun i _ => t + 1 - (intOf i).toNat)
  case atStart => exact ⟨0, rfl, by omega, NewAt.start w _⟩
  case round =>
    obtain ⟨k, rfl, hk, hn⟩ := hrel
    have HN := Lib.hid hn
    have HK := Lib.hid (Cs.rng_snoc f k)
    generalize hm : f + k = m at *
    have HM := Lib.hid hm
    clear hm
    by_cases hlt : (m : Int) ≤ t
    · obtain ⟨⟨⟨r0, r1⟩, r2, r3⟩, ⟨⟨t0, t1⟩, t2, t3⟩, hB⟩ := hn
      clear hB
      go_wp2_with fail
      refine (spec_add _ _ _ _ (by omega) (by omega)).mono ?_
      rw [Int.toNat_natCast]
      rintro e w1 ⟨rfl, hb1⟩
      have HN1 := Lib.hid (HN.out.later hb1)
      obtain ⟨⟨q0, q1⟩, q2, q3⟩ := HN1.out.2.1
      clear r0 r1 r2 r3 t0 t1 t2 t3
      go_wp2
      all_goals go_roundw
      all_goals first
        | exact ⟨k + 1, by rw [← Nat.add_assoc, HM.out]; go_num, by have := HM.out; omega, by rw [HK.out.1, HK.out.2]; exact HN1.out.stored _ _⟩
        | (simp [intOf]; done)
        | (simp [intOf]; omega)
    · obtain ⟨⟨⟨r0, r1⟩, r2, r3⟩, ⟨⟨t0, t1⟩, t2, t3⟩, hB⟩ := hn
      have HB := Lib.hid hB
      have HE : Hid (k = t + 1 - f) := by have := HM.out; show _ = _; omega
      clear hB
      go_wp2
      exact bodyPost_ret (v := .tuple #[.agg #[.int .i64 (Cs.allL (List.range' f k)), .int .i64 (Cs.allH (List.range' f k))], .bool true]) (by simp [results, Try.results27, go_sem, r0, r1]) rfl ⟨by rw [HG.out.1, HG.out.2.1, HG.out.2.2, HE.out], below_store HB.out (Nat.le_refl _) _ _⟩
theorem spec_range (f t : Nat) (h0 : f ≤ 255) (h1 : t ≤ 255) (w : World) : Calls Try.prog 27 #[.int .u8 f, .int .u8 t] w (RetNew w (Cs.rngL f t) (Cs.rngH f t) (Cs.rngOk f t)) := by
  by_cases h : f ≤ t ∧ t < 128
  · exact spec_range_yes f t h.1 h.2 w
  · exact spec_range_no f t h0 h1 (by omega) w

set_option maxHeartbeats 800000 in
theorem impl_range_no (f t : Nat) (h0 : f ≤ 255) (h1 : t ≤ 255) (hn : t < f ∨ 128 ≤ t) (w : World) : Calls Try.prog 28 #[.int .u8 f, .int .u8 t] w (RetNew w (Cs.rngL f t) (Cs.rngH f t) (Cs.rngOk f t)) := by
  have HG := Lib.hid (Cs.rng_no hn)
  by_cases ha : (t : Int) < f
  · go_enter Try.func28, Try.ntmps28
    go_wp2
    all_goals exact bodyPost_ret (v := .tuple #[.agg #[.int .i64 0, .int .i64 0], .bool false]) (by simp [results, Try.results28, go_sem]) rfl ⟨by rw [HG.out.1, HG.out.2.1, HG.out.2.2], bl1 _ _⟩
  · have hb : (128 : Int) ≤ t := by omega
    have hb2 : (127 : Int) < t := by omega
    have ha2 : (f : Int) ≤ t := by omega
    go_enter Try.func28, Try.ntmps28
    go_wp2
    all_goals exact bodyPost_ret (v := .tuple #[.agg #[.int .i64 0, .int .i64 0], .bool false]) (by simp [results, Try.results28, go_sem]) rfl ⟨by rw [HG.out.1, HG.out.2.1, HG.out.2.2], bl1 _ _⟩

set_option maxHeartbeats 800000 in
theorem impl_range_yes (f t : Nat) (h0 : f ≤ t) (h1 : t < 128) (w : World) : Calls Try.prog 28 #[.int .u8 f, .int .u8 t] w (RetNew w (Cs.rngL f t) (Cs.rngH f t) (Cs.rngOk f t)) := by
  have HG := Lib.hid (Cs.rng_yes h0 h1)
  have ha : ¬ (t : Int) < f := by omega
  have ha2 : (f : Int) ≤ t := by omega
  have hb : ¬ (128 : Int) ≤ t := by omega
  have hb2 : ¬ (127 : Int) < t := by omega
  go_enter Try.func28, Try.ntmps28
  go_wp2
  go_loopw [7] (fun i wr => ∃ k : Nat, i = .int .u8 ((f + k : Nat) : Int) ∧ f + k ≤ t + 1 ∧ NewAt w (Cs.allL (List.range' f k)) (Cs.allH (List.range' f k)) wr) (fun i _ => t + 1 - (intOf i).toNat)
  case atStart => exact ⟨0, rfl, by omega, NewAt.start w _⟩
  case round =>
    obtain ⟨k, rfl, hk, hn⟩ := hrel
    have HN := Lib.hid hn
    have HK := Lib.hid (Cs.rng_snoc f k)
    generalize hm : f + k = m at *
    have HM := Lib.hid hm
    clear hm
    by_cases hlt : (m : Int) ≤ t
    · obtain ⟨⟨⟨r0, r1⟩, r2, r3⟩, ⟨⟨t0, t1⟩, t2, t3⟩, hB⟩ := hn
      clear hB
      have HR := Lib.hid (Cs.or_one (Cs.allL_fits (List.range' f k)) (Cs.allH_fits (List.range' f k)) (x := m) (by omega) (by omega))
      go_wp2_with fail
      go_region_with (first | (go_at_call 37; refine (impl_one _ _ (by omega) (by omega)).mono ?_; rintro e w1 ⟨rfl, hb1⟩; have HN1 := Lib.hid (HN.out.drew.later hb1); obtain ⟨⟨q0, q1⟩, q2, q3⟩ := HN1.out.2.1) | (go_at_call 18; refine (impl_or _ _ _ _ _).mono ?_; rintro e w2 ⟨rfl, hb2⟩; have HN2 := Lib.hid (HN1.out.later hb2); obtain ⟨⟨q0, q1⟩, q2, q3⟩ := HN2.out.2.1))
      all_goals go_wp2
      all_goals go_roundw
      all_goals first
        | exact ⟨k + 1, by rw [← Nat.add_assoc, HM.out]; go_num, by have := HM.out; omega, by rw [HK.out.1, HK.out.2]; rw [HR.out.1, HR.out.2]; exact HN2.out.stored _ _⟩
        | (simp [intOf]; done)
        | (simp [intOf]; omega)
    · obtain ⟨⟨⟨r0, r1⟩, r2, r3⟩, ⟨⟨t0, t1⟩, t2, t3⟩, hB⟩ := hn
      have HB := Lib.hid hB
      have HE : Hid (k = t + 1 - f) := by have := HM.out; show _ = _; omega
      clear hB
      go_wp2
      exact bodyPost_ret (v := .tuple #[.agg #[.int .i64 (Cs.allL (List.range' f k)), .int .i64 (Cs.allH (List.range' f k))], .bool true]) (by simp [results, Try.results28, go_sem, r0, r1]) rfl ⟨by rw [HG.out.1, HG.out.2.1, HG.out.2.2, HE.out], below_store HB.out (Nat.le_refl _) _ _⟩
theorem impl_range (f t : Nat) (h0 : f ≤ 255) (h1 : t ≤ 255) (w : World) : Calls Try.prog 28 #[.int .u8 f, .int .u8 t] w (RetNew w (Cs.rngL f t) (Cs.rngH f t) (Cs.rngOk f t)) := by
  by_cases h : f ≤ t ∧ t < 128
  · exact impl_range_yes f t h.1 h.2 w
  · exact impl_range_no f t h0 h1 (by omega) w

set_option maxHeartbeats 800000 in
theorem FnExactNewCset_walk (a0 : ByteArray) (w0 : a0.size ≤ maxLen) (w : World) :
    Calls Try.prog 5 #[.string a0] w fun e w' => e = .returned (.bool true) ∧ Below w.heap.size w w' := by
  by_cases hlen : (1048576 : Int) < a0.size
  · go_enter Try.func5, Try.ntmps5
    go_wp2
    go_ret
    exact ⟨rfl, Below.refl _ _⟩
  have HS := Lib.hid (fun W => spec_new a0 w0 W)
  have HI := Lib.hid (fun W => impl_new a0 w0 W)
  generalize Cs.newL a0 = l at HS HI
  generalize Cs.newH a0 = h at HS HI
  generalize Cs.good a0 = ok at HS HI
  go_enter Try.func5, Try.ntmps5
  go_wp2_with fail
  refine (HS.out _).mono ?_
  rintro e wa ⟨rfl, ha⟩
  have HA := Lib.hid (ha.alloc ha.size (.cells #[.int .i64 l, .int .i64 h] 25))
  have SA := Lib.hid (SetAt.new wa l h 25)
  clear ha
  go_wp2_with fail
  refine (HI.out _).mono ?_
  rintro e wb ⟨rfl, hb⟩
  have HB := Lib.hid ((below_step HA.out hb).alloc (below_step HA.out hb).size (.cells #[.int .i64 l, .int .i64 h] 25))
  obtain ⟨c0, c1⟩ := (SA.out.later hb).later (bl1 wb (.cells #[.int .i64 l, .int .i64 h] 25))
  clear hb
  go_wp2_with fail
  refine (eq_set _ _ _).mono ?_
  rintro e wc ⟨rfl, hc⟩
  have HC := Lib.hid (below_step HB.out hc)
  clear hc
  go_wp2
  all_goals go_ret
  all_goals exact ⟨rfl, HC.out⟩

set_option maxHeartbeats 800000 in
theorem FnExactRangeCset_walk (a0 a1 : Int) (w0 : (Lit.int .u8 a0).wf = true) (w1 : (Lit.int .u8 a1).wf = true) (w : World) :
    Calls Try.prog 6 #[.int .u8 a0, .int .u8 a1] w fun e w' => e = .returned (.bool true) ∧ Below w.heap.size w w' := by
  obtain ⟨hf0, hf1⟩ : 0 ≤ a0 ∧ a0 ≤ 255 := by simpa [Lit.wf, IntKind.min, IntKind.max, IntKind.signed, IntKind.bits] using w0
  obtain ⟨ht0, ht1⟩ : 0 ≤ a1 ∧ a1 ≤ 255 := by simpa [Lit.wf, IntKind.min, IntKind.max, IntKind.signed, IntKind.bits] using w1
  clear w0 w1
  obtain ⟨f, rfl⟩ : ∃ f : Nat, a0 = f := ⟨a0.toNat, by omega⟩
  obtain ⟨t, rfl⟩ : ∃ t : Nat, a1 = t := ⟨a1.toNat, by omega⟩
  have HS := Lib.hid (fun W => spec_range f t (by omega) (by omega) W)
  have HI := Lib.hid (fun W => impl_range f t (by omega) (by omega) W)
  generalize Cs.rngL f t = l at HS HI
  generalize Cs.rngH f t = h at HS HI
  generalize Cs.rngOk f t = ok at HS HI
  go_enter Try.func6, Try.ntmps6
  go_wp2_with fail
  refine (HS.out _).mono ?_
  rintro e wa ⟨rfl, ha⟩
  have HA := Lib.hid (ha.alloc ha.size (.cells #[.int .i64 l, .int .i64 h] 25))
  have SA := Lib.hid (SetAt.new wa l h 25)
  clear ha
  go_wp2_with fail
  refine (HI.out _).mono ?_
  rintro e wb ⟨rfl, hb⟩
  have HB := Lib.hid ((below_step HA.out hb).alloc (below_step HA.out hb).size (.cells #[.int .i64 l, .int .i64 h] 25))
  obtain ⟨c0, c1⟩ := (SA.out.later hb).later (bl1 wb (.cells #[.int .i64 l, .int .i64 h] 25))
  clear hb
  go_wp2_with fail
  refine (eq_set _ _ _).mono ?_
  rintro e wc ⟨rfl, hc⟩
  have HC := Lib.hid (below_step HB.out hc)
  clear hc
  go_wp2
  all_goals go_ret
  all_goals exact ⟨rfl, HC.out⟩
end Go.Proofs.Ytpidcanlnieceaa
