/- Plain facts on counting the ones of a word by parallel sums. No conditions. -/
import Derived.Laws.BitsAllLaws
namespace Go.Proofs.YtlbidfegcfcaiaaDoor.Cs
set_option linter.unusedVariables false

/-- The digits' sum: n digits of k bits each. -/
def dsum (k : Nat) : Nat → Nat → Nat
  | 0, _ => 0
  | n + 1, x => x % 2 ^ k + dsum k n (x / 2 ^ k)
/-- Each of n digits of k bits is at most b. -/
def small (k b : Nat) : Nat → Nat → Prop
  | 0, _ => True
  | n + 1, x => x % 2 ^ k ≤ b ∧ small k b n (x / 2 ^ k)
/-- The mask that keeps every second digit of k bits. -/
def mask (k : Nat) : Nat → Nat
  | 0 => 0
  | n + 1 => (2 ^ k - 1) + 2 ^ (2 * k) * mask k n

theorem and_split (j a b c d : Nat) (ha : a < 2 ^ j) (hc : c < 2 ^ j) : (a + 2 ^ j * b) &&& (c + 2 ^ j * d) = (a &&& c) + 2 ^ j * (b &&& d) := by
  have hac : a &&& c < 2 ^ j := Nat.and_lt_two_pow _ hc
  apply Nat.eq_of_testBit_eq
  intro i
  rw [Nat.testBit_and, Nat.add_comm a, Nat.add_comm c, Nat.add_comm (a &&& c), Nat.testBit_two_pow_mul_add _ ha, Nat.testBit_two_pow_mul_add _ hc, Nat.testBit_two_pow_mul_add _ hac]
  split <;> rw [Nat.testBit_and]
theorem pow_two_mul (k : Nat) : 2 ^ (2 * k) = 2 ^ k * 2 ^ k := by rw [Nat.two_mul, Nat.pow_add]
/-- What the mask leaves. -/
theorem and_mask (k n x : Nat) : x &&& mask k (n + 1) = x % 2 ^ k + 2 ^ (2 * k) * (x / 2 ^ (2 * k) &&& mask k n) := by
  have hp : 0 < 2 ^ k := Nat.two_pow_pos k
  have hlt : 2 ^ k - 1 < 2 ^ (2 * k) := by
    rw [pow_two_mul]
    have : 2 ^ k * 1 ≤ 2 ^ k * 2 ^ k := Nat.mul_le_mul_left _ hp
    omega
  show x &&& ((2 ^ k - 1) + 2 ^ (2 * k) * mask k n) = _
  have hx : x = x % 2 ^ (2 * k) + 2 ^ (2 * k) * (x / 2 ^ (2 * k)) := (Nat.mod_add_div _ _).symm
  conv => lhs; rw [hx]
  rw [and_split _ _ _ _ _ (Nat.mod_lt _ (Nat.two_pow_pos _)) hlt, Nat.and_two_pow_sub_one_eq_mod]
  congr 1
  rw [pow_two_mul, Nat.mod_mul_right_mod]

/-- A step of the sum: neighbours are added. -/
def pair (k n x : Nat) : Nat := (x / 2 ^ k &&& mask k n) + (x &&& mask k n)
theorem pair_succ (k n x : Nat) : pair k (n + 1) x = (x / 2 ^ k % 2 ^ k + x % 2 ^ k) + 2 ^ (2 * k) * pair k n (x / 2 ^ (2 * k)) := by
  unfold pair
  rw [and_mask, and_mask, Nat.div_div_eq_div_mul, Nat.div_div_eq_div_mul, Nat.mul_comm (2 ^ k) (2 ^ (2 * k)), Nat.mul_add]
  omega
theorem dsum_two (k n x : Nat) : dsum k (2 * (n + 1)) x = x % 2 ^ k + x / 2 ^ k % 2 ^ k + dsum k (2 * n) (x / 2 ^ (2 * k)) := by
  show x % 2 ^ k + (x / 2 ^ k % 2 ^ k + dsum k (2 * n) (x / 2 ^ k / 2 ^ k)) = _
  rw [Nat.div_div_eq_div_mul, pow_two_mul]
  omega
theorem small_two (k b n x : Nat) (h : small k b (2 * (n + 1)) x) : x % 2 ^ k ≤ b ∧ x / 2 ^ k % 2 ^ k ≤ b ∧ small k b (2 * n) (x / 2 ^ (2 * k)) := by
  obtain ⟨h0, h1, h2⟩ := h
  rw [Nat.div_div_eq_div_mul, ← pow_two_mul] at h2
  exact ⟨h0, h1, h2⟩
/-- The step keeps the sum, and doubles the bound. -/
theorem pair_step (k b : Nat) (hb : 2 * b < 2 ^ (2 * k)) : ∀ n x, small k b (2 * n) x → dsum (2 * k) n (pair k n x) = dsum k (2 * n) x ∧ small (2 * k) (2 * b) n (pair k n x)
  | 0, x, _ => ⟨rfl, trivial⟩
  | n + 1, x, h => by
    obtain ⟨h0, h1, h2⟩ := small_two k b n x h
    obtain ⟨i1, i2⟩ := pair_step k b hb n _ h2
    have e := pair_succ k n x
    have hm : pair k (n + 1) x % 2 ^ (2 * k) = x / 2 ^ k % 2 ^ k + x % 2 ^ k := by
      rw [e, Nat.add_mul_mod_self_left, Nat.mod_eq_of_lt (by omega)]
    have hd : pair k (n + 1) x / 2 ^ (2 * k) = pair k n (x / 2 ^ (2 * k)) := by
      rw [e, Nat.add_mul_div_left _ _ (Nat.two_pow_pos _), Nat.div_eq_of_lt (by omega), Nat.zero_add]
    constructor
    · show pair k (n + 1) x % 2 ^ (2 * k) + dsum (2 * k) n (pair k (n + 1) x / 2 ^ (2 * k)) = _
      rw [hm, hd, i1, dsum_two]; omega
    · refine ⟨?_, ?_⟩
      · rw [hm]; omega
      · rw [hd]; exact i2
/-- The step with one mask, where sums don't overflow. -/
theorem lump_step (k b : Nat) (hb : 2 * b < 2 ^ k) : ∀ n x, small k b (2 * n) x → (x / 2 ^ k + x) &&& mask k n = pair k n x
  | 0, x, _ => by show _ &&& 0 = (_ &&& 0) + (_ &&& 0); simp
  | n + 1, x, h => by
    obtain ⟨h0, h1, h2⟩ := small_two k b n x h
    have i1 := lump_step k b hb n _ h2
    have hp : 0 < 2 ^ k := Nat.two_pow_pos k
    have hz : n = 0 ∨ (x / 2 ^ (2 * k)) % 2 ^ k ≤ b := by
      cases n with
      | zero => exact .inl rfl
      | succ n => exact .inr h2.1
    rw [and_mask, pair_succ]
    generalize hq : x / 2 ^ (2 * k) = q at *
    have e0 : x = x % 2 ^ k + 2 ^ k * (x / 2 ^ k % 2 ^ k) + 2 ^ (2 * k) * q := by
      have e1 := Nat.mod_add_div x (2 ^ k)
      have e2 := Nat.mod_add_div (x / 2 ^ k) (2 ^ k)
      rw [Nat.div_div_eq_div_mul, ← pow_two_mul, hq] at e2
      conv => lhs; rw [← e1, ← e2]
      rw [Nat.mul_add, ← Nat.mul_assoc, ← pow_two_mul]; omega
    have e3 : x / 2 ^ k = x / 2 ^ k % 2 ^ k + 2 ^ k * q := by
      have e2 := Nat.mod_add_div (x / 2 ^ k) (2 ^ k)
      rw [Nat.div_div_eq_div_mul, ← pow_two_mul, hq] at e2
      exact e2.symm
    generalize x % 2 ^ k = u at *
    generalize x / 2 ^ k % 2 ^ k = v at *
    have f1 : (x / 2 ^ k + x) % 2 ^ k = v + u := by
      have : x / 2 ^ k + x = (v + u) + 2 ^ k * (q + v + 2 ^ k * q) := by
        rw [e3]; conv => lhs; rhs; rw [e0]
        rw [pow_two_mul, Nat.mul_add, Nat.mul_add, ← Nat.mul_assoc]; omega
      rw [this, Nat.add_mul_mod_self_left, Nat.mod_eq_of_lt (by omega)]
    rw [f1]
    congr 2
    rcases hz with rfl | hz
    · show _ &&& 0 = (_ &&& 0) + (_ &&& 0); simp
    · have f2 : (x / 2 ^ k + x) / 2 ^ (2 * k) = q / 2 ^ k + q := by
        have hq2 := Nat.mod_add_div q (2 ^ k)
        have : x / 2 ^ k + x = ((v + u) + 2 ^ k * (q % 2 ^ k + v)) + 2 ^ (2 * k) * (q / 2 ^ k + q) := by
          rw [e3]; conv => lhs; rhs; rw [e0]
          conv => lhs; lhs; rhs; rw [← hq2]
          simp only [Nat.mul_add, pow_two_mul, ← Nat.mul_assoc]; omega
        rw [this, Nat.add_mul_div_left _ _ (Nat.two_pow_pos _), Nat.div_eq_of_lt, Nat.zero_add]
        rw [pow_two_mul]
        have h4 : q % 2 ^ k + v + 1 ≤ 2 ^ k := by omega
        have h5 := Nat.mul_le_mul_left (2 ^ k) h4
        rw [Nat.mul_add] at h5
        omega
      rw [f2, i1]

theorem small_one : ∀ n x, small 1 1 n x
  | 0, _ => trivial
  | n + 1, x => ⟨by omega, small_one n _⟩
theorem pair_lt (k : Nat) : ∀ n x, pair k n x ≤ 2 * mask k n
  | n, x => by
    have h1 : x / 2 ^ k &&& mask k n ≤ mask k n := Nat.and_le_right
    have h2 : x &&& mask k n ≤ mask k n := Nat.and_le_right
    unfold pair; omega
/-- The ones of a word. -/
theorem dsum_bits : ∀ n x, dsum 1 n x = ((List.range n).filter (Nat.testBit x)).length
  | 0, _ => rfl
  | n + 1, x => by
    have ih := dsum_bits n (x / 2)
    have e : (List.map Nat.succ (List.range n)).filter (Nat.testBit x) = ((List.range n).filter (Nat.testBit (x / 2))).map Nat.succ := by
      rw [List.filter_map]
      congr 1
      apply List.filter_congr
      intro i _
      simp [Nat.testBit_succ]
    rw [List.range_succ_eq_map, List.filter_cons, e]
    show x % 2 ^ 1 + dsum 1 n (x / 2 ^ 1) = _
    rw [show (2 : Nat) ^ 1 = 2 from rfl, ih]
    by_cases h : Nat.testBit x 0 = true
    · rw [if_pos h]
      rw [Nat.testBit_zero] at h
      have : x % 2 = 1 := by simpa using h
      simp; omega
    · rw [if_neg h]
      rw [Nat.testBit_zero] at h
      have : x % 2 = 0 := by have := Nat.mod_two_eq_zero_or_one x; simp at h; omega
      simp; omega

/-- A number by its bytes. -/
def val : List Nat → Nat
  | [] => 0
  | b :: l => b + 256 * val l
def addl : List Nat → List Nat → List Nat
  | [], m => m
  | l, [] => l
  | a :: l, b :: m => (a + b) :: addl l m
theorem val_add : ∀ l m, val l + val m = val (addl l m)
  | [], m => by simp [val, addl]
  | a :: l, [] => by simp [val, addl]
  | a :: l, b :: m => by
    have := val_add l m
    show (a + 256 * val l) + (b + 256 * val m) = (a + b) + 256 * val (addl l m)
    omega
theorem val_drop : ∀ j l, (∀ b ∈ l, b < 256) → val l / 256 ^ j = val (l.drop j)
  | 0, l, _ => by simp
  | j + 1, [], _ => by simp [val]
  | j + 1, b :: l, h => by
    have h1 := h b List.mem_cons_self
    rw [List.drop_succ_cons, ← val_drop j l (fun x hx => h x (List.mem_cons_of_mem _ hx)), Nat.pow_succ, Nat.mul_comm, ← Nat.div_div_eq_div_mul]
    congr 1
    show (b + 256 * val l) / 256 = val l
    omega
theorem val_lt : ∀ l, (∀ b ∈ l, b < 256) → val l < 256 ^ l.length
  | [], _ => by simp [val]
  | b :: l, h => by
    have h1 := h b List.mem_cons_self
    have h2 := val_lt l (fun x hx => h x (List.mem_cons_of_mem _ hx))
    rw [List.length_cons, Nat.pow_succ]
    show b + 256 * val l < _
    omega
theorem val_lt8 {a b c d e f g h : Nat} (H : ∀ x ∈ [a, b, c, d, e, f, g, h], x < 256) : val [a, b, c, d, e, f, g, h] < 18446744073709551616 :=
  Nat.lt_of_lt_of_eq (val_lt _ H) (by show 256 ^ 8 = _; decide)
theorem all8 {a b c d e f g h n : Nat} (h0 : a < n) (h1 : b < n) (h2 : c < n) (h3 : d < n) (h4 : e < n) (h5 : f < n) (h6 : g < n) (h7 : h < n) : ∀ x ∈ [a, b, c, d, e, f, g, h], x < n := by
  intro x hx
  simp only [List.mem_cons, List.not_mem_nil, or_false] at hx
  rcases hx with rfl | rfl | rfl | rfl | rfl | rfl | rfl | rfl <;> assumption
theorem fold_eight (b0 b1 b2 b3 b4 b5 b6 b7 : Nat) (h0 : b0 ≤ 8) (h1 : b1 ≤ 8) (h2 : b2 ≤ 8) (h3 : b3 ≤ 8) (h4 : b4 ≤ 8) (h5 : b5 ≤ 8) (h6 : b6 ≤ 8) (h7 : b7 ≤ 8) (y : Nat) (hy : y = val [b0, b1, b2, b3, b4, b5, b6, b7]) (z1 z2 z3 : Nat) (e1 : z1 = y + y / 256) (e2 : z2 = z1 + z1 / 65536) (e3 : z3 = z2 + z2 / 4294967296) :
    z1 < 18446744073709551616 ∧ z2 < 18446744073709551616 ∧ z3 < 18446744073709551616 ∧ z3 % 128 = b0 + b1 + b2 + b3 + b4 + b5 + b6 + b7 := by
  have f1 : y / 256 = val [b1, b2, b3, b4, b5, b6, b7] := by rw [hy]; exact val_drop 1 _ (all8 (by omega) (by omega) (by omega) (by omega) (by omega) (by omega) (by omega) (by omega))
  have g1 : z1 = val [(b0 + b1), (b1 + b2), (b2 + b3), (b3 + b4), (b4 + b5), (b5 + b6), (b6 + b7), b7] := by rw [e1, f1, hy, val_add]; rfl
  have a1 := all8 (n := 256) (a := (b0 + b1)) (b := (b1 + b2)) (c := (b2 + b3)) (d := (b3 + b4)) (e := (b4 + b5)) (f := (b5 + b6)) (g := (b6 + b7)) (h := b7) (by omega) (by omega) (by omega) (by omega) (by omega) (by omega) (by omega) (by omega)
  have f2 : z1 / 65536 = val [(b2 + b3), (b3 + b4), (b4 + b5), (b5 + b6), (b6 + b7), b7] := by rw [g1]; exact val_drop 2 _ a1
  have g2 : z2 = val [((b0 + b1) + (b2 + b3)), ((b1 + b2) + (b3 + b4)), ((b2 + b3) + (b4 + b5)), ((b3 + b4) + (b5 + b6)), ((b4 + b5) + (b6 + b7)), ((b5 + b6) + b7), (b6 + b7), b7] := by rw [e2, f2, g1, val_add]; rfl
  have a2 := all8 (n := 256) (a := ((b0 + b1) + (b2 + b3))) (b := ((b1 + b2) + (b3 + b4))) (c := ((b2 + b3) + (b4 + b5))) (d := ((b3 + b4) + (b5 + b6))) (e := ((b4 + b5) + (b6 + b7))) (f := ((b5 + b6) + b7)) (g := (b6 + b7)) (h := b7) (by omega) (by omega) (by omega) (by omega) (by omega) (by omega) (by omega) (by omega)
  have f3 : z2 / 4294967296 = val [((b4 + b5) + (b6 + b7)), ((b5 + b6) + b7), (b6 + b7), b7] := by rw [g2]; exact val_drop 4 _ a2
  have g3 : z3 = val [(((b0 + b1) + (b2 + b3)) + ((b4 + b5) + (b6 + b7))), (((b1 + b2) + (b3 + b4)) + ((b5 + b6) + b7)), (((b2 + b3) + (b4 + b5)) + (b6 + b7)), (((b3 + b4) + (b5 + b6)) + b7), ((b4 + b5) + (b6 + b7)), ((b5 + b6) + b7), (b6 + b7), b7] := by rw [e3, f3, g2, val_add]; rfl
  have a3 := all8 (n := 256) (a := (((b0 + b1) + (b2 + b3)) + ((b4 + b5) + (b6 + b7)))) (b := (((b1 + b2) + (b3 + b4)) + ((b5 + b6) + b7))) (c := (((b2 + b3) + (b4 + b5)) + (b6 + b7))) (d := (((b3 + b4) + (b5 + b6)) + b7)) (e := ((b4 + b5) + (b6 + b7))) (f := ((b5 + b6) + b7)) (g := (b6 + b7)) (h := b7) (by omega) (by omega) (by omega) (by omega) (by omega) (by omega) (by omega) (by omega)
  refine ⟨by rw [g1]; exact val_lt8 a1, by rw [g2]; exact val_lt8 a2, by rw [g3]; exact val_lt8 a3, ?_⟩
  rw [g3]
  show ((((b0 + b1) + (b2 + b3)) + ((b4 + b5) + (b6 + b7))) + 256 * val _) % 128 = _
  generalize val _ = v
  omega
def digits : Nat → Nat → List Nat
  | 0, _ => []
  | n + 1, y => y % 256 :: digits n (y / 256)
theorem val_digits : ∀ n y, y < 256 ^ n → y = val (digits n y)
  | 0, y, h => by simp at h; subst h; rfl
  | n + 1, y, h => by
    have h2 : y / 256 < 256 ^ n := by rw [Nat.pow_succ] at h; omega
    have e := val_digits n (y / 256) h2
    show y = y % 256 + 256 * val (digits n (y / 256))
    rw [← e]; omega
theorem fold_bytes (y : Nat) (hs : small 8 8 8 y) (hy : y < 18446744073709551616) (z1 z2 z3 : Nat) (e1 : z1 = y + y / 256) (e2 : z2 = z1 + z1 / 65536) (e3 : z3 = z2 + z2 / 4294967296) :
    z1 < 18446744073709551616 ∧ z2 < 18446744073709551616 ∧ z3 < 18446744073709551616 ∧ z3 % 128 = dsum 8 8 y := by
  obtain ⟨h0, h1, h2, h3, h4, h5, h6, h7, _⟩ := hs
  have hv : y = val (digits 8 y) := val_digits 8 y hy
  have hd : dsum 8 8 y = y % 2 ^ 8 + (y / 2 ^ 8 % 2 ^ 8 + (y / 2 ^ 8 / 2 ^ 8 % 2 ^ 8 + (y / 2 ^ 8 / 2 ^ 8 / 2 ^ 8 % 2 ^ 8 + (y / 2 ^ 8 / 2 ^ 8 / 2 ^ 8 / 2 ^ 8 % 2 ^ 8 + (y / 2 ^ 8 / 2 ^ 8 / 2 ^ 8 / 2 ^ 8 / 2 ^ 8 % 2 ^ 8 + (y / 2 ^ 8 / 2 ^ 8 / 2 ^ 8 / 2 ^ 8 / 2 ^ 8 / 2 ^ 8 % 2 ^ 8 + (y / 2 ^ 8 / 2 ^ 8 / 2 ^ 8 / 2 ^ 8 / 2 ^ 8 / 2 ^ 8 / 2 ^ 8 % 2 ^ 8 + 0))))))) := rfl
  obtain ⟨t1, t2, t3, t4⟩ := fold_eight _ _ _ _ _ _ _ _ h0 h1 h2 h3 h4 h5 h6 h7 y hv z1 z2 z3 e1 e2 e3
  refine ⟨t1, t2, t3, ?_⟩
  rw [t4, hd]
  simp only [Nat.add_zero, Nat.add_assoc]
end Go.Proofs.YtlbidfegcfcaiaaDoor.Cs
