/- Joined texts: N12. No conditions besides those that each states. -/
import Derived.Test.YtfachlcahainhaaZ30
import Derived.Test.YtfachlcahainhaaZ44
import Derived.Test.YtfachlcahainhaaZ50
/- IsValidExpr of the program and of the reference model say the same; the walk of its law. No conditions. -/
namespace Go.Proofs.Ytfachlcahainhaa
open Go.RowKit
set_option linter.unusedVariables false

theorem wrap64_in (x : Int) (h : -9223372036854775808 ≤ x ∧ x ≤ 9223372036854775807) : wrap64 x = x := by unfold wrap64; omega
theorem head_20 (n l lo hi : Int) (b : Bool) (z d : Nat) (hz : z ≤ 1048576) (hlo : lo = 1) :
    ((decide ((d : Int) ≤ 40) && decide (0 ≤ l) && decide (lo ≤ z) && decide ((z : Int) ≤ hi) && b) && (decide (0 ≤ n) && decide (n ≤ 1) && decide (((z : Int) - 1 - n).tmod 2 = 0) && decide (1 + n ≤ z)))
      = (decide (d ≤ 40) && (decide (0 ≤ l) && ((!((wrap64 ((z : Int) - 1 - n)).tmod 2 != 0)) && (decide (lo ≤ z) && decide ((z : Int) ≤ hi))) && b && (n == 0 || n == 1))) := by
  by_cases hn : n = 0 ∨ n = 1
  · rw [wrap64_in _ (by omega)]
    have hm : ((z : Int) - 1 - n).tmod 2 = 0 → 1 ≤ z → 1 + n ≤ z := by
      intro h h1
      rcases hn with rfl | rfl
      · omega
      · by_cases hz1 : z = 1
        · subst hz1; revert h; decide
        · omega
    by_cases hr : ((z : Int) - 1 - n).tmod 2 = 0
    · have hm2 := hm hr
      rw [decide_eq_true hr, hr]
      subst hlo
      have e1 : (n == 0 || n == 1) = true := by rcases hn with rfl | rfl <;> rfl
      have e2 : decide (0 ≤ n) = true := decide_eq_true (by omega)
      have e3 : decide (n ≤ 1) = true := decide_eq_true (by omega)
      rw [e1, e2, e3]
      by_cases hz1 : 1 ≤ z
      · have e4 : decide (1 + n ≤ z) = true := decide_eq_true (hm2 hz1)
        rw [e4]
        rw [Bool.eq_iff_iff]
        simp
        cases b <;> simp <;> omega
      · have e5 : decide ((1 : Int) ≤ z) = false := decide_eq_false (by omega)
        rw [e5]; simp
    · rw [decide_eq_false hr]
      have e0 : (((z : Int) - 1 - n).tmod 2 != 0) = true := bne_iff_ne.2 hr
      rw [e0]; simp
  · have e1 : (n == 0 || n == 1) = false := by
      rw [Bool.or_eq_false_iff]; exact ⟨beq_eq_false_iff_ne.2 fun h => hn (.inl h), beq_eq_false_iff_ne.2 fun h => hn (.inr h)⟩
    rw [e1]
    by_cases h0 : 0 ≤ n
    · have e3 : decide (n ≤ 1) = false := decide_eq_false (by omega)
      rw [e3]; simp
    · rw [decide_eq_false h0]; simp
theorem head_ok (k n l : Int) (s : ByteArray) (z d : Nat) (hz : z ≤ 1048576) : Ex.headB k s n l z d = (decide (d ≤ 40) && (decide (0 ≤ l) && Ex.kidsB k n z && Ex.words k s && Ex.numberB k n)) := by
  unfold Ex.headB Ex.kidsB Ex.numberB
  generalize Ex.words k s = b
  by_cases hk : 1 ≤ k ∧ k ≤ 29
  · rw [show Ex.rangeOf k = Ex.kidsOf k by unfold Ex.rangeOf; rw [if_pos hk]]
    rw [decide_eq_true hk.1, decide_eq_true hk.2, Bool.and_true, Bool.and_true]
    by_cases k20 : k = 20
    · subst k20
      rw [if_neg (by decide), if_pos rfl, if_pos rfl, if_neg (by decide), if_pos rfl]
      exact head_20 n l _ _ b z d hz (by decide)
    · rw [if_neg k20, if_neg k20]
      by_cases k1 : k = 1
      · rw [if_pos k1, if_pos k1]
        rw [Bool.eq_iff_iff]
        simp
        cases b <;> simp <;> omega
      · rw [if_neg k1, if_neg k1, if_neg k20]
        rw [Bool.eq_iff_iff]
        simp
        cases b <;> simp <;> omega
  · rw [show Ex.rangeOf k = (0, -1) by unfold Ex.rangeOf; rw [if_neg hk]]
    have e : decide ((z : Int) ≤ -1) = false := decide_eq_false (by omega)
    rw [e]
    have e2 : (decide (1 ≤ k) && decide (k ≤ 29)) = false := by
      rw [← Bool.decide_and]; exact decide_eq_false hk
    rw [Bool.and_assoc (decide ((d : Int) ≤ 40)), e2]
    simp
mutual
theorem valid_pre : ∀ (t : Ex.T) (d : Nat), t.bulk ≤ 1048576 → t.valid d = (t.pre d).all okP
  | .node k s n l ks, d, hb => by
    rw [Ex.T.bulk] at hb
    rw [Ex.T.valid, Ex.T.pre, List.all_cons, head_ok _ _ _ _ _ _ (by omega)]
    have h := valids_pres ks (d + 1) (by omega)
    rw [show ((d + 1 : Nat) : Int) = (d : Int) + 1 by omega] at h
    rw [h]; rfl
theorem valids_pres : ∀ (l : List Ex.T) (d : Nat), Ex.bulks l ≤ 1048576 → Ex.valids l d = (Ex.pres l d).all okP
  | [], d, hb => by rw [Ex.valids, Ex.pres]; rfl
  | x :: r, d, hb => by
    rw [Ex.bulks] at hb
    rw [Ex.valids, Ex.pres, List.all_append, valid_pre x d (by omega), valids_pres r d (by omega)]
end
theorem impl_isvalid (t : Ex.T) (hb : t.bulk ≤ 1048576) (w : World) (v : Value) (hk : Kids w v t.kids) : Calls Try.prog 55 #[exV t v] w fun e w' => e = .returned (.bool (decide (t.count ≤ 600) && t.valid 1)) ∧ Below w.heap.size w w' := by
  have h := (callsIn_wide (n := 6)).1 (valid_in t hb v w hk)
  rw [← valid_pre t 1 hb] at h
  exact h
end Go.Proofs.Ytfachlcahainhaa
