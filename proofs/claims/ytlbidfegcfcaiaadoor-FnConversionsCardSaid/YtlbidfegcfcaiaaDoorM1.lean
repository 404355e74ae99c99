/- Plain facts on decimal digits, used by the proofs about FormatInt, ParseNumber and ParseInt. No conditions. -/
import Derived.Lib.Hide
namespace Go.Proofs.YtlbidfegcfcaiaaDoor.Dec

/-- The last digit's letter. -/
def dg (n : Nat) : UInt8 := UInt8.ofNat (48 + n % 10)

/-- The digits of a number, none for zero. -/
def digs (n : Nat) : List UInt8 := if n = 0 then [] else digs (n / 10) ++ [dg n]
decreasing_by omega

theorem digs_zero : digs 0 = [] := by unfold digs; rfl
theorem digs_pos {n : Nat} (h : 0 < n) : digs n = digs (n / 10) ++ [dg n] := by
  rw [digs.eq_1 n, if_neg (by omega)]

/-- The decimal form. -/
def fmt (n : Int) : List UInt8 := if n = 0 then [48] else if n < 0 then 45 :: digs n.natAbs else digs n.natAbs

theorem digs_len (n : Nat) : (digs n).length ≤ n := by
  induction n using Nat.strongRecOn with
  | _ n ih =>
    by_cases h : n = 0
    · subst h; rw [digs_zero]; simp
    · rw [digs_pos (by omega)]
      have := ih (n / 10) (by omega)
      simp; omega

theorem digs_lt (k : Nat) : ∀ n, n < 10 ^ k → (digs n).length ≤ k := by
  induction k with
  | zero => intro n h; have : n = 0 := by simpa using h
            subst this; rw [digs_zero]; simp
  | succ k ih =>
    intro n h
    by_cases h0 : n = 0
    · subst h0; rw [digs_zero]; simp
    · rw [digs_pos (by omega)]
      have := ih (n / 10) (by rw [Nat.pow_succ] at h; omega)
      simp; omega

theorem dg_toNat (n : Nat) : (dg n).toNat = 48 + n % 10 := by
  unfold dg; rw [UInt8.toNat_ofNat']; omega

theorem dg_byte (x : Int) (h0 : 0 ≤ x) : UInt8.ofNat (48 + x % 10).toNat = dg x.toNat := by
  unfold dg; congr 1; omega

/-- The digits of a number, one at least. -/
def fmtN (n : Nat) : List UInt8 := if n = 0 then [48] else digs n

theorem fmt_nn (n : Int) (h : 0 ≤ n) : fmt n = fmtN n.toNat := by
  unfold fmt fmtN
  by_cases h0 : n = 0
  · subst h0; rfl
  · rw [if_neg h0, if_neg (by omega), if_neg (by omega), show n.natAbs = n.toNat by omega]
theorem fmt_neg (n : Int) (h : n < 0) : fmt n = 45 :: fmtN (-n).toNat := by
  unfold fmt fmtN
  rw [if_neg (by omega), if_pos h, if_neg (by omega), show n.natAbs = (-n).toNat by omega]

/-- What is known at a round's head: n is the number, m what is left, l the digits that are written. -/
def Left (n m : Nat) (l : List UInt8) : Prop := (l = [] ∧ m = n) ∨ (0 < m ∧ digs n = digs m ++ l ∧ m * 10 ^ l.length ≤ n)

theorem left_start (n : Nat) : Left n n [] := .inl ⟨rfl, rfl⟩
theorem left_end {n m : Nat} {l : List UInt8} (h : Left n m l) (hm : m / 10 = 0) : fmtN n = dg m :: l := by
  rcases h with ⟨rfl, rfl⟩ | ⟨h0, h1, _⟩
  · unfold fmtN
    by_cases h0 : m = 0
    · subst h0; rfl
    · rw [if_neg h0, digs_pos (by omega), hm, digs_zero]; rfl
  · unfold fmtN
    rw [digs_pos h0, hm, digs_zero] at h1
    rw [if_neg (by intro e; subst e; rw [digs_zero] at h1; simp at h1), h1]; rfl
theorem left_next {n m : Nat} {l : List UInt8} (h : Left n m l) (hm : 0 < m / 10) : Left n (m / 10) (dg m :: l) := by
  refine .inr ⟨hm, ?_⟩
  rcases h with ⟨rfl, rfl⟩ | ⟨h0, h1, h2⟩
  · exact ⟨digs_pos (by omega), by simp; omega⟩
  · refine ⟨by rw [h1, digs_pos h0]; simp, Nat.le_trans ?_ h2⟩
    rw [List.length_cons, Nat.pow_succ, Nat.mul_comm (10 ^ l.length) 10, ← Nat.mul_assoc]
    exact Nat.mul_le_mul_right _ (by omega)
theorem left_short {n m : Nat} {l : List UInt8} (hn : n ≤ 9223372036854775808) (h : Left n m l) : l.length < 19 := by
  rcases h with ⟨rfl, rfl⟩ | ⟨h0, _, h2⟩
  · simp
  · rcases Nat.lt_or_ge l.length 19 with h | h
    · exact h
    · have h3 : 10 ^ 19 ≤ 10 ^ l.length := Nat.pow_le_pow_right (by omega) h
      have h4 : 1 * 10 ^ l.length ≤ m * 10 ^ l.length := Nat.mul_le_mul_right _ h0
      have h5 : (10 : Nat) ^ 19 = 10000000000000000000 := by rfl
      omega

end Go.Proofs.YtlbidfegcfcaiaaDoor.Dec
