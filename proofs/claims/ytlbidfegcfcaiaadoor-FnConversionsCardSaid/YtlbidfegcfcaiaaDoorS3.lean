/- A decimal form that is trimmed and read again. No conditions. -/
import Derived.Test.YtlbidfegcfcaiaaDoorM5
import Derived.Test.YtlbidfegcfcaiaaDoorI2
namespace Go.Proofs.YtlbidfegcfcaiaaDoor
open Go.RowKit
set_option linter.unusedVariables false

theorem trim_none {l : List UInt8} (h : ∀ x ∈ l, x ≠ 32) : Lib.trimB l 32 = l := by
  have key : ∀ m : List UInt8, (∀ x ∈ m, x ≠ 32) → m.dropWhile (· == 32) = m := by
    intro m hm
    cases m with
    | nil => rfl
    | cons a r => rw [List.dropWhile_cons_of_neg]; simpa using hm a List.mem_cons_self
  unfold Lib.trimB Lib.trimLeftB Lib.trimRightB
  rw [key l.reverse (fun x hx => h x (by simpa using hx)), List.reverse_reverse, key l h]
theorem dig_nat {b : UInt8} (h : Dec.isDig b = true) : b ≠ 32 ∧ b ≠ 45 ∧ b ≠ 43 := by
  have h2 := Dec.isDig_le h
  refine ⟨?_, ?_, ?_⟩ <;> (rintro rfl; revert h2; decide)
theorem fmtN_at {n : Nat} : ∀ x ∈ Dec.fmtN n, x ≠ 32 ∧ x ≠ 45 ∧ x ≠ 43 := fun x hx => dig_nat (List.all_eq_true.1 (Dec.fmtN_back n).1 x hx)
theorem fmtN_dok {n : Nat} (h : n < 1000000000000) : Dec.dok 12 (Dec.fmtN n) = true ∧ Dec.dvv 12 (Dec.fmtN n) = n := by
  obtain ⟨h1, h2, h3⟩ := Dec.fmtN_back n
  have h4 : 1 ≤ (Dec.fmtN n).length := by
    cases h5 : Dec.fmtN n with
    | nil => exact absurd h5 h3
    | cons c l => simp
  have hk := Dec.dok_yes h4 ((Dec.fmtN_len n).2 h) h1
  exact ⟨hk, by unfold Dec.dvv; rw [if_pos hk, h2]⟩
/-- An integer of the language is read again. -/
theorem fmt_again (n : Int) (h0 : -999999999999 ≤ n) (h1 : n ≤ 999999999999) : itB (Lib.trimB (Dec.fmt n) 32) = true ∧ itV (Lib.trimB (Dec.fmt n) 32) = n := by
  by_cases hn : 0 ≤ n
  · rw [Dec.fmt_nn n hn, trim_none fun x hx => (fmtN_at x hx).1]
    obtain ⟨k1, k2⟩ := fmtN_dok (n := n.toNat) (by omega)
    have hh : ¬ ((Dec.fmtN n.toNat).head? = some 45 ∨ (Dec.fmtN n.toNat).head? = some 43) := by
      intro h
      cases hf : Dec.fmtN n.toNat with
      | nil => rw [hf] at h; simp at h
      | cons c l =>
        have hc := fmtN_at (n := n.toNat) c (by rw [hf]; exact List.mem_cons_self)
        rw [hf] at h
        simp only [List.head?_cons, Option.some.injEq] at h
        rcases h with h | h
        · exact hc.2.1 h
        · exact hc.2.2 h
    have hN : itN (Dec.fmtN n.toNat) = false := by
      unfold itN
      rw [beq_eq_false_iff_ne]
      exact fun h => hh (.inl h)
    have hD : itD (Dec.fmtN n.toNat) = Dec.fmtN n.toNat := if_neg hh
    refine ⟨by unfold itB; rw [hD]; exact k1, ?_⟩
    unfold itV
    rw [hN, if_neg (by simp), hD, k2]
    omega
  · rw [Dec.fmt_neg n (by omega), trim_none fun x hx => by
      rcases List.mem_cons.1 hx with rfl | hx
      · decide
      · exact (fmtN_at x hx).1]
    obtain ⟨k1, k2⟩ := fmtN_dok (n := (-n).toNat) (by omega)
    have hN : itN (45 :: Dec.fmtN (-n).toNat) = true := rfl
    have hD : itD (45 :: Dec.fmtN (-n).toNat) = Dec.fmtN (-n).toNat := by
      unfold itD
      rw [if_pos (.inl rfl)]
      rfl
    refine ⟨by unfold itB; rw [hD]; exact k1, ?_⟩
    unfold itV
    rw [hN, if_pos rfl, hD, k2]
    omega
end Go.Proofs.YtlbidfegcfcaiaaDoor
