/- Joined texts: G17. No conditions besides those that each states. -/
import Derived.Test.YtfachlcahainhaaZ43
/- Trees that are valid, in the reference model: every tree; IsValidExpr. No conditions. -/
namespace Go.Proofs.Ytfachlcahainhaa
open Go.RowKit
set_option linter.unusedVariables false

theorem spec_valid : ∀ (N : Nat) (t : Ex.T), t.count ≤ N → t.bulk ≤ 1048576 → ∀ (d : Int), 0 ≤ d → d ≤ 1000 → ∀ (w : World) (v : Value), Kids w v t.kids → Calls Try.prog 49 #[exV t v, .int .i64 d] w (RetV w (t.valid d)) := by
  intro N
  induction N with
  | zero => intro t h; have := Ex.count_pos t; omega
  | succ N ih =>
    intro t hN hb d d0 d1 w v hk
    have hbe := bulk_eq t
    obtain ⟨a, c, rfl⟩ := kids_len hk
    have hln : t.kids.length ≤ 1048576 := by omega
    have hts : (t.text.size : Int) ≤ 1048576 := by omega
    have HC : Hid (CountsC t (.slice a t.kids.length c) (Ex.kidsOf t.kind).1 (Ex.kidsOf t.kind).2) := Lib.hid fun wr => spec_counts t _ wr
    have HW0 : WordsC t (.slice a t.kids.length c) (Ex.words t.kind t.text) := fun wr => spec_words t _ wr hts
    have HV := Ex.valid_eq t d
    unfold Ex.headB at HV
    by_cases q0 : d ≤ 40
    case neg => rw [show t.valid d = false by rw [HV, decide_eq_false q0]; simp only [Bool.false_and]]; exact valid_h0 t a c w d _ _ hln d0 d1 HC  (by omega)
    by_cases q1 : 1 ≤ t.kind
    case neg => rw [show t.valid d = false by rw [HV, decide_eq_false q1]; simp only [Bool.false_and, Bool.and_false]]; exact valid_h1 t a c w d _ _ hln d0 d1 HC q0 (by omega)
    by_cases q2 : t.kind ≤ 29
    case neg => rw [show t.valid d = false by rw [HV, decide_eq_false q2]; simp only [Bool.false_and, Bool.and_false]]; exact valid_h2 t a c w d _ _ hln d0 d1 HC q0 q1 (by omega)
    by_cases q3 : 0 ≤ t.line
    case neg => rw [show t.valid d = false by rw [HV, decide_eq_false q3]; simp only [Bool.false_and, Bool.and_false]]; exact valid_h3 t a c w d _ _ hln d0 d1 HC q0 q1 q2 (by omega)
    by_cases q4 : (Ex.kidsOf t.kind).1 ≤ t.kids.length
    case neg => rw [show t.valid d = false by rw [HV, decide_eq_false q4]; simp only [Bool.false_and, Bool.and_false]]; exact valid_h4 t a c w d _ _ hln d0 d1 HC q0 q1 q2 q3 (by omega)
    by_cases q5 : (t.kids.length : Int) ≤ (Ex.kidsOf t.kind).2
    case neg => rw [show t.valid d = false by rw [HV, decide_eq_false q5]; simp only [Bool.false_and, Bool.and_false]]; exact valid_h5 t a c w d _ _ hln d0 d1 HC q0 q1 q2 q3 q4 (by omega)
    rw [decide_eq_true q0, decide_eq_true q1, decide_eq_true q2, decide_eq_true q3, decide_eq_true q4, decide_eq_true q5] at HV
    cases hw : Ex.words t.kind t.text
    · rw [hw] at HV HW0
      rw [show t.valid d = false by rw [HV]; simp only [Bool.false_and, Bool.and_false]]
      exact valid_h6 t a c w d _ _ hln d0 d1 HC (Lib.hid HW0) q0 q1 q2 q3 q4 q5
    rw [hw] at HV HW0
    have HK := Lib.hid hk
    have HI : Hid (KidsC t (d + 1)) := Lib.hid fun x hx wx vx hkx => ih x (by have := kids_count hx; omega) (by have := Ex.bulks_mem hx; omega) (d + 1) (by omega) (by omega) wx vx hkx
    simp only [Bool.and_self, Bool.true_and] at HV
    by_cases k1 : t.kind = 1
    · rw [if_pos k1] at HV
      by_cases n0 : 0 ≤ t.num
      case neg => rw [show t.valid d = false by rw [HV, decide_eq_false n0]; simp only [Bool.false_and]]; exact valid_n1a t a c w d _ _ hln d0 d1 HC (Lib.hid HW0) q0 q1 q2 q3 q4 q5 (beq_iff_eq.2 k1) (by omega)
      by_cases n1 : t.num ≤ 999999999999
      case neg => rw [show t.valid d = false by rw [HV, decide_eq_false n1]; simp only [Bool.false_and, Bool.and_false]]; exact valid_n1b t a c w d _ _ hln d0 d1 HC (Lib.hid HW0) q0 q1 q2 q3 q4 q5 (beq_iff_eq.2 k1) n0 (by omega)
      rw [show t.valid d = Ex.valids t.kids (d + 1) by rw [HV, decide_eq_true n0, decide_eq_true n1]; simp only [Bool.true_and]]
      exact valid_p1 t a c w d _ _ hln d0 d1 HC (Lib.hid HW0) q0 q1 q2 q3 q4 q5 (beq_iff_eq.2 k1) n0 n1 HK HI
    · rw [if_neg k1] at HV
      have b1 : (t.kind == 1) = false := beq_eq_false_iff_ne.2 k1
      by_cases k20 : t.kind = 20
      · rw [if_pos k20] at HV
        have b20 : (t.kind == 20) = true := beq_iff_eq.2 k20
        by_cases n0 : 0 ≤ t.num
        case neg => rw [show t.valid d = false by rw [HV, decide_eq_false n0]; simp only [Bool.false_and]]; exact valid_n20a t a c w d _ _ hln d0 d1 HC (Lib.hid HW0) q0 q1 q2 q3 q4 q5 b1 b20 (by omega)
        by_cases n1 : t.num ≤ 1
        case neg => rw [show t.valid d = false by rw [HV, decide_eq_false n1]; simp only [Bool.false_and, Bool.and_false]]; exact valid_n20b t a c w d _ _ hln d0 d1 HC (Lib.hid HW0) q0 q1 q2 q3 q4 q5 b1 b20 n0 (by omega)
        by_cases p : ((t.kids.length : Int) - 1 - t.num).tmod 2 = 0
        case neg => rw [show t.valid d = false by rw [HV, decide_eq_false p]; simp only [Bool.false_and, Bool.and_false]]; exact valid_n20c t a c w d _ _ hln d0 d1 HC (Lib.hid HW0) q0 q1 q2 q3 q4 q5 b1 b20 n0 n1 p
        by_cases m : 1 + t.num ≤ (t.kids.length : Int)
        case neg => rw [show t.valid d = false by rw [HV, decide_eq_false m]; simp only [Bool.false_and, Bool.and_false]]; exact valid_n20d t a c w d _ _ hln d0 d1 HC (Lib.hid HW0) q0 q1 q2 q3 q4 q5 b1 b20 n0 n1 p (by omega)
        rw [show t.valid d = Ex.valids t.kids (d + 1) by rw [HV, decide_eq_true n0, decide_eq_true n1, decide_eq_true p, decide_eq_true m]; simp only [Bool.true_and]]
        exact valid_p20 t a c w d _ _ hln d0 d1 HC (Lib.hid HW0) q0 q1 q2 q3 q4 q5 b1 b20 n0 n1 p m HK HI
      · rw [if_neg k20] at HV
        have b20 : (t.kind == 20) = false := beq_eq_false_iff_ne.2 k20
        by_cases n0 : t.num = 0
        · rw [show t.valid d = Ex.valids t.kids (d + 1) by rw [HV, n0]; simp only [beq_self_eq_true, Bool.true_and]]
          exact valid_px t a c w d _ _ hln d0 d1 HC (Lib.hid HW0) q0 q1 q2 q3 q4 q5 b1 b20 (by rw [n0]; simp) HK HI
        · rw [show t.valid d = false by rw [HV, beq_eq_false_iff_ne.2 n0]; simp only [Bool.false_and]]
          exact valid_nxa t a c w d _ _ hln d0 d1 HC (Lib.hid HW0) q0 q1 q2 q3 q4 q5 b1 b20 (bne_iff_ne.2 n0)
theorem spec_isvalid (t : Ex.T) (hb : t.bulk ≤ 1048576) (w : World) (v : Value) (hk : Kids w v t.kids) : Calls Try.prog 19 #[exV t v] w fun e w' => e = .returned (.bool (decide (t.count ≤ 600) && t.valid 1)) ∧ Below w.heap.size w w' := by
  have HL := Lib.hid (fun W hW => spec_leftT _ t (Nat.le_refl _) hb W v 600 (by decide) (hk.later hW))
  have HV : Hid (∀ W, Below w.heap.size w W → Calls Try.prog 49 #[exV t v, .int .i64 1] W fun e w' => e = .returned (.bool (t.valid 1)) ∧ Below W.heap.size W w') := Lib.hid (fun W hW => spec_valid _ t (Nat.le_refl _) hb 1 (by decide) (by decide) W v (hk.later hW))
  obtain ⟨a, c, rfl⟩ := kids_len hk
  have HE := Lib.hid (CellsE.new w t (.slice a t.kids.length c) 47)
  by_cases hc : t.count ≤ 600
  · rw [decide_eq_true hc, Bool.true_and]
    rw [szR_yes hc] at HL
    have l1 : decide (0 ≤ ((600 - t.count : Nat) : Int)) = true := decide_eq_true (by omega)
    generalize ((600 - t.count : Nat) : Int) = left at HL l1
    generalize t.valid 1 = r at HV ⊢
    clear hb hk hc
    go_enter Try.func19, Try.ntmps19
    go_wp2_with fail
    refine (HL.out _ (bl1 _ _)).mono ?_
    rintro e w1 ⟨rfl, b1⟩
    have B1 := Lib.hid (below_then (bl1 _ _) b1)
    obtain ⟨e0, e1, e2, e3, e4⟩ := HE.out.later b1
    clear b1
    go_wp2_with fail
    refine (HV.out _ B1.out).mono ?_
    rintro e w2 ⟨rfl, b2⟩
    have B2 := Lib.hid (below_then B1.out b2)
    clear b2 e0 e1 e2 e3 e4
    go_wp2
    go_ret
    exact ⟨rfl, B2.out⟩
  · rw [decide_eq_false hc, Bool.false_and]
    rw [szR_no hc] at HL
    clear hb hk hc HV
    go_enter Try.func19, Try.ntmps19
    go_wp2_with fail
    refine (HL.out _ (bl1 _ _)).mono ?_
    rintro e w1 ⟨rfl, b1⟩
    have B1 := Lib.hid (below_then (bl1 _ _) b1)
    clear b1
    go_wp2
    go_ret
    exact ⟨rfl, B1.out⟩
end Go.Proofs.Ytfachlcahainhaa
