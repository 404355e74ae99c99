/- Joined texts: C5, L1, M2, K1, K2, Q1. No conditions besides those that each states. -/
import Derived.Laws.BitsAllLaws
import Derived.Test.YtbadepiakkhabaaDoorZ1
/- Plain facts on counting the ones of a word by parallel sums. No conditions. -/
namespace Go.Proofs.YtbadepiakkhabaaDoor.Cs
set_option linter.unusedVariables false

/-- The digits' sum: n digits of k bits each. -/
def dsum (k : Nat) : Nat → Nat → Nat
  | 0, _ => 0
  | n + 1, x => x % 2 ^ k + dsum k n (x / 2 ^ k)
/-- Each of n digits of k bits is at most b. -/
def small (k b : Nat) : Nat → Nat → Prop
  | 0, _ => True
  | n + 1, x => x % 2 ^ k ≤ b ∧ small k b n (x / 2 ^ k)
/-- The mask that keeps every second digit of k bits. -/
def mask (k : Nat) : Nat → Nat
  | 0 => 0
  | n + 1 => (2 ^ k - 1) + 2 ^ (2 * k) * mask k n

theorem and_split (j a b c d : Nat) (ha : a < 2 ^ j) (hc : c < 2 ^ j) : (a + 2 ^ j * b) &&& (c + 2 ^ j * d) = (a &&& c) + 2 ^ j * (b &&& d) := by
  have hac : a &&& c < 2 ^ j := Nat.and_lt_two_pow _ hc
  apply Nat.eq_of_testBit_eq
  intro i
  rw [Nat.testBit_and, Nat.add_comm a, Nat.add_comm c, Nat.add_comm (a &&& c), Nat.testBit_two_pow_mul_add _ ha, Nat.testBit_two_pow_mul_add _ hc, Nat.testBit_two_pow_mul_add _ hac]
  split <;> rw [Nat.testBit_and]
theorem pow_two_mul (k : Nat) : 2 ^ (2 * k) = 2 ^ k * 2 ^ k := by rw [Nat.two_mul, Nat.pow_add]
/-- What the mask leaves. -/
theorem and_mask (k n x : Nat) : x &&& mask k (n + 1) = x % 2 ^ k + 2 ^ (2 * k) * (x / 2 ^ (2 * k) &&& mask k n) := by
  have hp : 0 < 2 ^ k := Nat.two_pow_pos k
  have hlt : 2 ^ k - 1 < 2 ^ (2 * k) := by
    rw [pow_two_mul]
    have : 2 ^ k * 1 ≤ 2 ^ k * 2 ^ k := Nat.mul_le_mul_left _ hp
    omega
  show x &&& ((2 ^ k - 1) + 2 ^ (2 * k) * mask k n) = _
  have hx : x = x % 2 ^ (2 * k) + 2 ^ (2 * k) * (x / 2 ^ (2 * k)) := (Nat.mod_add_div _ _).symm
  conv => lhs; rw [hx]
  rw [and_split _ _ _ _ _ (Nat.mod_lt _ (Nat.two_pow_pos _)) hlt, Nat.and_two_pow_sub_one_eq_mod]
  congr 1
  rw [pow_two_mul, Nat.mod_mul_right_mod]

/-- A step of the sum: neighbours are added. -/
def pair (k n x : Nat) : Nat := (x / 2 ^ k &&& mask k n) + (x &&& mask k n)
theorem pair_succ (k n x : Nat) : pair k (n + 1) x = (x / 2 ^ k % 2 ^ k + x % 2 ^ k) + 2 ^ (2 * k) * pair k n (x / 2 ^ (2 * k)) := by
  unfold pair
  rw [and_mask, and_mask, Nat.div_div_eq_div_mul, Nat.div_div_eq_div_mul, Nat.mul_comm (2 ^ k) (2 ^ (2 * k)), Nat.mul_add]
  omega
theorem dsum_two (k n x : Nat) : dsum k (2 * (n + 1)) x = x % 2 ^ k + x / 2 ^ k % 2 ^ k + dsum k (2 * n) (x / 2 ^ (2 * k)) := by
  show x % 2 ^ k + (x / 2 ^ k % 2 ^ k + dsum k (2 * n) (x / 2 ^ k / 2 ^ k)) = _
  rw [Nat.div_div_eq_div_mul, pow_two_mul]
  omega
theorem small_two (k b n x : Nat) (h : small k b (2 * (n + 1)) x) : x % 2 ^ k ≤ b ∧ x / 2 ^ k % 2 ^ k ≤ b ∧ small k b (2 * n) (x / 2 ^ (2 * k)) := by
  obtain ⟨h0, h1, h2⟩ := h
  rw [Nat.div_div_eq_div_mul, ← pow_two_mul] at h2
  exact ⟨h0, h1, h2⟩
/-- The step keeps the sum, and doubles the bound. -/
theorem pair_step (k b : Nat) (hb : 2 * b < 2 ^ (2 * k)) : ∀ n x, small k b (2 * n) x → dsum (2 * k) n (pair k n x) = dsum k (2 * n) x ∧ small (2 * k) (2 * b) n (pair k n x)
  | 0, x, _ => ⟨rfl, trivial⟩
  | n + 1, x, h => by
    obtain ⟨h0, h1, h2⟩ := small_two k b n x h
    obtain ⟨i1, i2⟩ := pair_step k b hb n _ h2
    have e := pair_succ k n x
    have hm : pair k (n + 1) x % 2 ^ (2 * k) = x / 2 ^ k % 2 ^ k + x % 2 ^ k := by
      rw [e, Nat.add_mul_mod_self_left, Nat.mod_eq_of_lt (by omega)]
    have hd : pair k (n + 1) x / 2 ^ (2 * k) = pair k n (x / 2 ^ (2 * k)) := by
      rw [e, Nat.add_mul_div_left _ _ (Nat.two_pow_pos _), Nat.div_eq_of_lt (by omega), Nat.zero_add]
    constructor
    · show pair k (n + 1) x % 2 ^ (2 * k) + dsum (2 * k) n (pair k (n + 1) x / 2 ^ (2 * k)) = _
      rw [hm, hd, i1, dsum_two]; omega
    · refine ⟨?_, ?_⟩
      · rw [hm]; omega
      · rw [hd]; exact i2
/-- The step with one mask, where sums don't overflow. -/
theorem lump_step (k b : Nat) (hb : 2 * b < 2 ^ k) : ∀ n x, small k b (2 * n) x → (x / 2 ^ k + x) &&& mask k n = pair k n x
  | 0, x, _ => by show _ &&& 0 = (_ &&& 0) + (_ &&& 0); simp
  | n + 1, x, h => by
    obtain ⟨h0, h1, h2⟩ := small_two k b n x h
    have i1 := lump_step k b hb n _ h2
    have hp : 0 < 2 ^ k := Nat.two_pow_pos k
    have hz : n = 0 ∨ (x / 2 ^ (2 * k)) % 2 ^ k ≤ b := by
      cases n with
      | zero => exact .inl rfl
      | succ n => exact .inr h2.1
    rw [and_mask, pair_succ]
    generalize hq : x / 2 ^ (2 * k) = q at *
    have e0 : x = x % 2 ^ k + 2 ^ k * (x / 2 ^ k % 2 ^ k) + 2 ^ (2 * k) * q := by
      have e1 := Nat.mod_add_div x (2 ^ k)
      have e2 := Nat.mod_add_div (x / 2 ^ k) (2 ^ k)
      rw [Nat.div_div_eq_div_mul, ← pow_two_mul, hq] at e2
      conv => lhs; rw [← e1, ← e2]
      rw [Nat.mul_add, ← Nat.mul_assoc, ← pow_two_mul]; omega
    have e3 : x / 2 ^ k = x / 2 ^ k % 2 ^ k + 2 ^ k * q := by
      have e2 := Nat.mod_add_div (x / 2 ^ k) (2 ^ k)
      rw [Nat.div_div_eq_div_mul, ← pow_two_mul, hq] at e2
      exact e2.symm
    generalize x % 2 ^ k = u at *
    generalize x / 2 ^ k % 2 ^ k = v at *
    have f1 : (x / 2 ^ k + x) % 2 ^ k = v + u := by
      have : x / 2 ^ k + x = (v + u) + 2 ^ k * (q + v + 2 ^ k * q) := by
        rw [e3]; conv => lhs; rhs; rw [e0]
        rw [pow_two_mul, Nat.mul_add, Nat.mul_add, ← Nat.mul_assoc]; omega
      rw [this, Nat.add_mul_mod_self_left, Nat.mod_eq_of_lt (by omega)]
    rw [f1]
    congr 2
    rcases hz with rfl | hz
    · show _ &&& 0 = (_ &&& 0) + (_ &&& 0); simp
    · have f2 : (x / 2 ^ k + x) / 2 ^ (2 * k) = q / 2 ^ k + q := by
        have hq2 := Nat.mod_add_div q (2 ^ k)
        have : x / 2 ^ k + x = ((v + u) + 2 ^ k * (q % 2 ^ k + v)) + 2 ^ (2 * k) * (q / 2 ^ k + q) := by
          rw [e3]; conv => lhs; rhs; rw [e0]
          conv => lhs; lhs; rhs; rw [← hq2]
          simp only [Nat.mul_add, pow_two_mul, ← Nat.mul_assoc]; omega
        rw [this, Nat.add_mul_div_left _ _ (Nat.two_pow_pos _), Nat.div_eq_of_lt, Nat.zero_add]
        rw [pow_two_mul]
        have h4 : q % 2 ^ k + v + 1 ≤ 2 ^ k := by omega
        have h5 := Nat.mul_le_mul_left (2 ^ k) h4
        rw [Nat.mul_add] at h5
        omega
      rw [f2, i1]

theorem small_one : ∀ n x, small 1 1 n x
  | 0, _ => trivial
  | n + 1, x => ⟨by omega, small_one n _⟩
theorem pair_lt (k : Nat) : ∀ n x, pair k n x ≤ 2 * mask k n
  | n, x => by
    have h1 : x / 2 ^ k &&& mask k n ≤ mask k n := Nat.and_le_right
    have h2 : x &&& mask k n ≤ mask k n := Nat.and_le_right
    unfold pair; omega
/-- The ones of a word. -/
theorem dsum_bits : ∀ n x, dsum 1 n x = ((List.range n).filter (Nat.testBit x)).length
  | 0, _ => rfl
  | n + 1, x => by
    have ih := dsum_bits n (x / 2)
    have e : (List.map Nat.succ (List.range n)).filter (Nat.testBit x) = ((List.range n).filter (Nat.testBit (x / 2))).map Nat.succ := by
      rw [List.filter_map]
      congr 1
      apply List.filter_congr
      intro i _
      simp [Nat.testBit_succ]
    rw [List.range_succ_eq_map, List.filter_cons, e]
    show x % 2 ^ 1 + dsum 1 n (x / 2 ^ 1) = _
    rw [show (2 : Nat) ^ 1 = 2 from rfl, ih]
    by_cases h : Nat.testBit x 0 = true
    · rw [if_pos h]
      rw [Nat.testBit_zero] at h
      have : x % 2 = 1 := by simpa using h
      simp; omega
    · rw [if_neg h]
      rw [Nat.testBit_zero] at h
      have : x % 2 = 0 := by have := Nat.mod_two_eq_zero_or_one x; simp at h; omega
      simp; omega

/-- A number by its bytes. -/
def val : List Nat → Nat
  | [] => 0
  | b :: l => b + 256 * val l
def addl : List Nat → List Nat → List Nat
  | [], m => m
  | l, [] => l
  | a :: l, b :: m => (a + b) :: addl l m
theorem val_add : ∀ l m, val l + val m = val (addl l m)
  | [], m => by simp [val, addl]
  | a :: l, [] => by simp [val, addl]
  | a :: l, b :: m => by
    have := val_add l m
    show (a + 256 * val l) + (b + 256 * val m) = (a + b) + 256 * val (addl l m)
    omega
theorem val_drop : ∀ j l, (∀ b ∈ l, b < 256) → val l / 256 ^ j = val (l.drop j)
  | 0, l, _ => by simp
  | j + 1, [], _ => by simp [val]
  | j + 1, b :: l, h => by
    have h1 := h b List.mem_cons_self
    rw [List.drop_succ_cons, ← val_drop j l (fun x hx => h x (List.mem_cons_of_mem _ hx)), Nat.pow_succ, Nat.mul_comm, ← Nat.div_div_eq_div_mul]
    congr 1
    show (b + 256 * val l) / 256 = val l
    omega
theorem val_lt : ∀ l, (∀ b ∈ l, b < 256) → val l < 256 ^ l.length
  | [], _ => by simp [val]
  | b :: l, h => by
    have h1 := h b List.mem_cons_self
    have h2 := val_lt l (fun x hx => h x (List.mem_cons_of_mem _ hx))
    rw [List.length_cons, Nat.pow_succ]
    show b + 256 * val l < _
    omega
theorem val_lt8 {a b c d e f g h : Nat} (H : ∀ x ∈ [a, b, c, d, e, f, g, h], x < 256) : val [a, b, c, d, e, f, g, h] < 18446744073709551616 :=
  Nat.lt_of_lt_of_eq (val_lt _ H) (by show 256 ^ 8 = _; decide)
theorem all8 {a b c d e f g h n : Nat} (h0 : a < n) (h1 : b < n) (h2 : c < n) (h3 : d < n) (h4 : e < n) (h5 : f < n) (h6 : g < n) (h7 : h < n) : ∀ x ∈ [a, b, c, d, e, f, g, h], x < n := by
  intro x hx
  simp only [List.mem_cons, List.not_mem_nil, or_false] at hx
  rcases hx with rfl | rfl | rfl | rfl | rfl | rfl | rfl | rfl <;> assumption
theorem fold_eight (b0 b1 b2 b3 b4 b5 b6 b7 : Nat) (h0 : b0 ≤ 8) (h1 : b1 ≤ 8) (h2 : b2 ≤ 8) (h3 : b3 ≤ 8) (h4 : b4 ≤ 8) (h5 : b5 ≤ 8) (h6 : b6 ≤ 8) (h7 : b7 ≤ 8) (y : Nat) (hy : y = val [b0, b1, b2, b3, b4, b5, b6, b7]) (z1 z2 z3 : Nat) (e1 : z1 = y + y / 256) (e2 : z2 = z1 + z1 / 65536) (e3 : z3 = z2 + z2 / 4294967296) :
    z1 < 18446744073709551616 ∧ z2 < 18446744073709551616 ∧ z3 < 18446744073709551616 ∧ z3 % 128 = b0 + b1 + b2 + b3 + b4 + b5 + b6 + b7 := by
  have f1 : y / 256 = val [b1, b2, b3, b4, b5, b6, b7] := by rw [hy]; exact val_drop 1 _ (all8 (by omega) (by omega) (by omega) (by omega) (by omega) (by omega) (by omega) (by omega))
  have g1 : z1 = val [(b0 + b1), (b1 + b2), (b2 + b3), (b3 + b4), (b4 + b5), (b5 + b6), (b6 + b7), b7] := by rw [e1, f1, hy, val_add]; rfl
  have a1 := all8 (n := 256) (a := (b0 + b1)) (b := (b1 + b2)) (c := (b2 + b3)) (d := (b3 + b4)) (e := (b4 + b5)) (f := (b5 + b6)) (g := (b6 + b7)) (h := b7) (by omega) (by omega) (by omega) (by omega) (by omega) (by omega) (by omega) (by omega)
  have f2 : z1 / 65536 = val [(b2 + b3), (b3 + b4), (b4 + b5), (b5 + b6), (b6 + b7), b7] := by rw [g1]; exact val_drop 2 _ a1
  have g2 : z2 = val [((b0 + b1) + (b2 + b3)), ((b1 + b2) + (b3 + b4)), ((b2 + b3) + (b4 + b5)), ((b3 + b4) + (b5 + b6)), ((b4 + b5) + (b6 + b7)), ((b5 + b6) + b7), (b6 + b7), b7] := by rw [e2, f2, g1, val_add]; rfl
  have a2 := all8 (n := 256) (a := ((b0 + b1) + (b2 + b3))) (b := ((b1 + b2) + (b3 + b4))) (c := ((b2 + b3) + (b4 + b5))) (d := ((b3 + b4) + (b5 + b6))) (e := ((b4 + b5) + (b6 + b7))) (f := ((b5 + b6) + b7)) (g := (b6 + b7)) (h := b7) (by omega) (by omega) (by omega) (by omega) (by omega) (by omega) (by omega) (by omega)
  have f3 : z2 / 4294967296 = val [((b4 + b5) + (b6 + b7)), ((b5 + b6) + b7), (b6 + b7), b7] := by rw [g2]; exact val_drop 4 _ a2
  have g3 : z3 = val [(((b0 + b1) + (b2 + b3)) + ((b4 + b5) + (b6 + b7))), (((b1 + b2) + (b3 + b4)) + ((b5 + b6) + b7)), (((b2 + b3) + (b4 + b5)) + (b6 + b7)), (((b3 + b4) + (b5 + b6)) + b7), ((b4 + b5) + (b6 + b7)), ((b5 + b6) + b7), (b6 + b7), b7] := by rw [e3, f3, g2, val_add]; rfl
  have a3 := all8 (n := 256) (a := (((b0 + b1) + (b2 + b3)) + ((b4 + b5) + (b6 + b7)))) (b := (((b1 + b2) + (b3 + b4)) + ((b5 + b6) + b7))) (c := (((b2 + b3) + (b4 + b5)) + (b6 + b7))) (d := (((b3 + b4) + (b5 + b6)) + b7)) (e := ((b4 + b5) + (b6 + b7))) (f := ((b5 + b6) + b7)) (g := (b6 + b7)) (h := b7) (by omega) (by omega) (by omega) (by omega) (by omega) (by omega) (by omega) (by omega)
  refine ⟨by rw [g1]; exact val_lt8 a1, by rw [g2]; exact val_lt8 a2, by rw [g3]; exact val_lt8 a3, ?_⟩
  rw [g3]
  show ((((b0 + b1) + (b2 + b3)) + ((b4 + b5) + (b6 + b7))) + 256 * val _) % 128 = _
  generalize val _ = v
  omega
def digits : Nat → Nat → List Nat
  | 0, _ => []
  | n + 1, y => y % 256 :: digits n (y / 256)
theorem val_digits : ∀ n y, y < 256 ^ n → y = val (digits n y)
  | 0, y, h => by simp at h; subst h; rfl
  | n + 1, y, h => by
    have h2 : y / 256 < 256 ^ n := by rw [Nat.pow_succ] at h; omega
    have e := val_digits n (y / 256) h2
    show y = y % 256 + 256 * val (digits n (y / 256))
    rw [← e]; omega
theorem fold_bytes (y : Nat) (hs : small 8 8 8 y) (hy : y < 18446744073709551616) (z1 z2 z3 : Nat) (e1 : z1 = y + y / 256) (e2 : z2 = z1 + z1 / 65536) (e3 : z3 = z2 + z2 / 4294967296) :
    z1 < 18446744073709551616 ∧ z2 < 18446744073709551616 ∧ z3 < 18446744073709551616 ∧ z3 % 128 = dsum 8 8 y := by
  obtain ⟨h0, h1, h2, h3, h4, h5, h6, h7, _⟩ := hs
  have hv : y = val (digits 8 y) := val_digits 8 y hy
  have hd : dsum 8 8 y = y % 2 ^ 8 + (y / 2 ^ 8 % 2 ^ 8 + (y / 2 ^ 8 / 2 ^ 8 % 2 ^ 8 + (y / 2 ^ 8 / 2 ^ 8 / 2 ^ 8 % 2 ^ 8 + (y / 2 ^ 8 / 2 ^ 8 / 2 ^ 8 / 2 ^ 8 % 2 ^ 8 + (y / 2 ^ 8 / 2 ^ 8 / 2 ^ 8 / 2 ^ 8 / 2 ^ 8 % 2 ^ 8 + (y / 2 ^ 8 / 2 ^ 8 / 2 ^ 8 / 2 ^ 8 / 2 ^ 8 / 2 ^ 8 % 2 ^ 8 + (y / 2 ^ 8 / 2 ^ 8 / 2 ^ 8 / 2 ^ 8 / 2 ^ 8 / 2 ^ 8 / 2 ^ 8 % 2 ^ 8 + 0))))))) := rfl
  obtain ⟨t1, t2, t3, t4⟩ := fold_eight _ _ _ _ _ _ _ _ h0 h1 h2 h3 h4 h5 h6 h7 y hv z1 z2 z3 e1 e2 e3
  refine ⟨t1, t2, t3, ?_⟩
  rw [t4, hd]
  simp only [Nat.add_zero, Nat.add_assoc]
end Go.Proofs.YtbadepiakkhabaaDoor.Cs
/- Plain facts on literals: what stands for a byte between two delimiters, what a literal denotes, and where it ends. No conditions. -/
namespace Go.Proofs.YtbadepiakkhabaaDoor.Lt
set_option linter.unusedVariables false

/-- May a byte stand for itself? -/
def plain (b : UInt8) : Bool := decide (32 ≤ b.toNat) && decide (b.toNat ≤ 126)
/-- The value of a hexadecimal digit. -/
def hexN (b : UInt8) : Option Nat := if 48 ≤ b.toNat ∧ b.toNat ≤ 57 then some (b.toNat - 48) else if 97 ≤ b.toNat ∧ b.toNat ≤ 102 then some (b.toNat - 87) else none
/-- An escape: the byte that it denotes, and what follows it; given what follows its backslash. -/
def esc : List UInt8 → Option (UInt8 × List UInt8)
  | [] => none
  | c :: r =>
    if c = 110 then some (10, r) else if c = 116 then some (9, r) else if c = 92 ∨ c = 34 ∨ c = 39 then some (c, r)
    else if c = 120 then match r with
      | h :: l :: r4 => match hexN h, hexN l with
        | some x, some y => some (UInt8.ofNat (16 * x + y), r4)
        | _, _ => none
      | _ => none
    else none
/-- The first element of what stands between two delimiters: the byte that it denotes, and what follows it. -/
def step (d : UInt8) : List UInt8 → Option (UInt8 × List UInt8)
  | [] => none
  | b :: r => if b = d ∨ plain b = false then none else if b = 92 then esc r else some (b, r)
theorem esc_len {l r : List UInt8} {b : UInt8} (h : esc l = some (b, r)) : r.length < l.length := by
  match l with
  | [] => cases h
  | c :: l =>
    simp only [esc] at h
    split at h
    · cases h; simp
    · split at h
      · cases h; simp
      · split at h
        · cases h; simp
        · split at h
          · split at h
            · split at h
              · cases h; simp; omega
              · cases h
            · cases h
          · cases h
theorem step_len {d : UInt8} {l r : List UInt8} {b : UInt8} (h : step d l = some (b, r)) : r.length < l.length := by
  match l with
  | [] => cases h
  | c :: l =>
    simp only [step] at h
    split at h
    · cases h
    · split at h
      · have := esc_len h; simp; omega
      · cases h; simp
/-- What stands between two delimiters denotes these bytes. -/
def uq (d : UInt8) (l : List UInt8) : Option (List UInt8) :=
  if l = [] then some [] else
  match h : step d l with
  | none => none
  | some (b, r) => (uq d r).map (b :: ·)
termination_by l.length
decreasing_by exact step_len h
/-- What a literal denotes, if it is one. -/
def lit (d : UInt8) (s : List UInt8) : Option (List UInt8) := if s.length < 2 ∨ s.head? ≠ some d ∨ s.getLast? ≠ some d then none else uq d (s.drop 1).dropLast
/-- How many bytes lie to the end of a literal, the delimiter that ends it counted. -/
def endL (d : UInt8) : List UInt8 → Option Nat
  | [] => none
  | b :: r => if b = d then some 1 else if plain b = false then none else if b = 92 then (match r with
      | [] => none
      | _ :: r2 => (endL d r2).map (· + 2)) else (endL d r).map (· + 1)
/-- Where a literal ends that begins at the start of s; behind the last byte at the most. -/
def ends (d : UInt8) (S : List UInt8) (k : Nat) : Option Nat := (endL d (S.drop k)).map (· + k)
end Go.Proofs.YtbadepiakkhabaaDoor.Lt
/- Plain facts on reading decimal forms: which letters are the form of their number. No conditions. -/
namespace Go.Proofs.YtbadepiakkhabaaDoor.Dec

theorem snocRec {P : List UInt8 → Prop} (h0 : P []) (h1 : ∀ l b, P l → P (l ++ [b])) (l : List UInt8) : P l := by
  have h : ∀ r : List UInt8, P r.reverse := by
    intro r
    induction r with
    | nil => exact h0
    | cons b r ih => rw [List.reverse_cons]; exact h1 _ _ ih
  have := h l.reverse
  rwa [List.reverse_reverse] at this

def isDig (b : UInt8) : Bool := decide (48 ≤ b.toNat) && decide (b.toNat ≤ 57)

/-- The number that digits denote. -/
def val (l : List UInt8) : Nat := l.foldl (fun a b => 10 * a + (b.toNat - 48)) 0

theorem val_nil : val [] = 0 := rfl
theorem val_snoc (l : List UInt8) (b : UInt8) : val (l ++ [b]) = 10 * val l + (b.toNat - 48) := by
  unfold val; rw [List.foldl_append]; rfl

theorem isDig_le {b : UInt8} (h : isDig b = true) : 48 ≤ b.toNat ∧ b.toNat ≤ 57 := by
  simpa [isDig] using h

theorem val_lt (l : List UInt8) (h : l.all isDig = true) : val l < 10 ^ l.length := by
  induction l using snocRec with
  | h0 => simp [val_nil]
  | h1 l b ih =>
    rw [List.all_append] at h
    simp at h
    have h1 := ih (by simpa using h.1)
    have h2 := isDig_le h.2
    rw [val_snoc, List.length_append, List.length_singleton, Nat.pow_succ]
    omega

/-- Whether the letters are the form of a number of at most m digits. -/
def good (m : Nat) (t : List UInt8) : Bool := decide (1 ≤ t.length ∧ t.length ≤ m) && (t.all isDig && (fmtN (val t) == t))

end Go.Proofs.YtbadepiakkhabaaDoor.Dec
/- Plain facts on tokens: words, the token that begins a text, the tokens of a source. No conditions. -/
namespace Go.Proofs.YtbadepiakkhabaaDoor.Tk
set_option linter.unusedVariables false

def letter (b : UInt8) : Bool := (decide (97 ≤ b.toNat) && decide (b.toNat ≤ 122)) || (decide (65 ≤ b.toNat) && decide (b.toNat ≤ 90)) || b == 95
def idb (b : UInt8) : Bool := letter b || Dec.isDig b
def reserved : List (List UInt8) := [[112, 114, 111, 99, 101, 100, 117, 114, 101], [101, 110, 100], [103, 108, 111, 98, 97, 108], [108, 111, 99, 97, 108], [114, 101, 99, 111, 114, 100], [105, 102], [116, 104, 101, 110], [101, 108, 115, 101], [119, 104, 105, 108, 101], [117, 110, 116, 105, 108], [101, 118, 101, 114, 121], [100, 111], [114, 101, 112, 101, 97, 116], [99, 97, 115, 101], [111, 102], [100, 101, 102, 97, 117, 108, 116], [114, 101, 116, 117, 114, 110], [115, 117, 115, 112, 101, 110, 100], [102, 97, 105, 108], [98, 114, 101, 97, 107], [110, 101, 120, 116], [99, 114, 101, 97, 116, 101], [116, 111], [98, 121], [110, 111, 116], [100, 101, 102, 101, 114]]
def keywords : List (List UInt8) := [[110, 117, 108, 108], [102, 97, 105, 108], [115, 117, 98, 106, 101, 99, 116], [112, 111, 115], [108, 99, 97, 115, 101], [117, 99, 97, 115, 101], [108, 101, 116, 116, 101, 114, 115], [100, 105, 103, 105, 116, 115]]
def operators : List (List UInt8) := [[124, 124, 124, 58, 61], [124, 124, 58, 61], [43, 43, 58, 61], [45, 45, 58, 61], [42, 42, 58, 61], [126, 61, 61, 61], [124, 124, 124], [61, 61, 61], [126, 61, 61], [60, 45, 62], [58, 61, 58], [60, 60, 61], [62, 62, 61], [43, 58, 61], [45, 58, 61], [42, 58, 61], [47, 58, 61], [37, 58, 61], [94, 58, 61], [58, 61], [60, 45], [60, 61], [62, 61], [126, 61], [60, 60], [62, 62], [61, 61], [124, 124], [43, 43], [45, 45], [42, 42], [63, 63], [45, 62], [61, 62], [46, 62], [46, 124], [43], [45], [42], [47], [37], [94], [60], [62], [61], [126], [124], [38], [33], [63], [64], [46], [92], [40], [41], [91], [93], [123], [125], [44], [59], [58]]
def beg2 : List (List UInt8) := [[105, 102], [119, 104, 105, 108, 101], [117, 110, 116, 105, 108], [101, 118, 101, 114, 121], [114, 101, 112, 101, 97, 116], [99, 97, 115, 101], [114, 101, 116, 117, 114, 110], [115, 117, 115, 112, 101, 110, 100], [102, 97, 105, 108], [98, 114, 101, 97, 107], [110, 101, 120, 116], [99, 114, 101, 97, 116, 101], [110, 111, 116], [100, 101, 102, 101, 114]]
def beg7 : List (List UInt8) := [[43], [45], [42], [47], [61], [126], [124], [33], [64], [46], [92], [94], [46, 62], [40], [91], [123]]
def end2 : List (List UInt8) := [[114, 101, 116, 117, 114, 110], [115, 117, 115, 112, 101, 110, 100], [102, 97, 105, 108], [98, 114, 101, 97, 107], [110, 101, 120, 116]]
def end7 : List (List UInt8) := [[41], [93], [125]]
def isReserved (w : List UInt8) : Bool := reserved.contains w
def isKeyword (w : List UInt8) : Bool := keywords.contains w
def isName (w : List UInt8) : Bool := decide (1 ≤ w.length) && decide (w.length ≤ 12) && (w.head?.map letter == some true) && !isReserved w && w.all idb
def begins (k : Int) (t : List UInt8) : Bool := if k = 2 then beg2.contains t else if k = 7 then beg7.contains t else k == 1 || (decide (3 ≤ k) && decide (k ≤ 6))
def ends (k : Int) (t : List UInt8) : Bool := if k = 2 then end2.contains t else if k = 7 then end7.contains t else k == 1 || (decide (3 ≤ k) && decide (k ≤ 6))

/-- What the word of an integer, a quoted text and a quoted set denote: left open here, so that this text needs no memory. -/
structure Den where
  int : List UInt8 → Option (List UInt8)
  str : List UInt8 → Option (List UInt8)
  set : List UInt8 → Option (List UInt8)
/-- The token that begins a text: its kind, its text, how many bytes it takes. -/
def one (D : Den) : List UInt8 → Option (Nat × List UInt8 × Nat)
  | [] => none
  | b :: r =>
    if letter b = true then
      if isReserved (b :: r.takeWhile idb) = true then some (2, b :: r.takeWhile idb, (r.takeWhile idb).length + 1)
      else if isName (b :: r.takeWhile idb) = true then some (1, b :: r.takeWhile idb, (r.takeWhile idb).length + 1) else none
    else if Dec.isDig b = true then (D.int (b :: r.takeWhile idb)).map fun t => (3, t, (r.takeWhile idb).length + 1)
    else if b = 34 then (Lt.endL 34 r).bind fun n => (D.str (b :: r.take n)).map fun t => (4, t, n + 1)
    else if b = 39 then (Lt.endL 39 r).bind fun n => (D.set (b :: r.take n)).map fun t => (5, t, n + 1)
    else if b = 38 ∧ r.head?.map letter = some true then
      if isKeyword (r.takeWhile letter) = true then some (6, r.takeWhile letter, (r.takeWhile letter).length + 1) else none
    else (operators.find? fun o => o.isPrefixOf (b :: r)).map fun o => (7, o, o.length)
end Go.Proofs.YtbadepiakkhabaaDoor.Tk
/- Plain facts on tokens: their texts, separated by blanks, give the same tokens. No conditions. -/
namespace Go.Proofs.YtbadepiakkhabaaDoor.Tk
set_option linter.unusedVariables false

theorem letter_dig {b : UInt8} (h : Dec.isDig b = true) : letter b = false := by
  have h2 := Dec.isDig_le h
  have h3 : b ≠ 95 := by rintro rfl; simp at h2
  unfold letter
  simp [h3]; omega
theorem take_all (p : UInt8 → Bool) (l : List UInt8) : (l.takeWhile p).all p = true := by
  induction l with
  | nil => rfl
  | cons b l ih => rw [List.takeWhile_cons]; split <;> simp_all
end Go.Proofs.YtbadepiakkhabaaDoor.Tk
/- Plain facts on how the program reads tokens: gaps, the size of a literal, the longest operator. No conditions. -/
namespace Go.Proofs.YtbadepiakkhabaaDoor.Tk
set_option linter.unusedVariables false

/-- The blanks, line ends and comments ahead of a token: how many bytes; c: a comment is under way. -/
def gapB : Bool → List UInt8 → Nat
  | _, [] => 0
  | c, b :: r => if b = 10 then gapB false r + 1 else if b = 35 then gapB true r + 1 else if b = 32 ∨ b = 9 then gapB c r + 1 else if c = true then gapB c r + 1 else 0
theorem gap_nil (c : Bool) : gapB c [] = 0 := by cases c <;> rfl
theorem gap_out {b : UInt8} (r : List UInt8) (h1 : b ≠ 10) (h2 : b ≠ 32) (h3 : b ≠ 9) (h4 : b ≠ 35) : gapB false (b :: r) = 0 := by
  rw [gapB, if_neg h1, if_neg h4, if_neg (by rintro (h | h); exact h2 h; exact h3 h), if_neg (by decide)]
/-- Where the look for the gap's end stands. -/
def GapAt (R : List UInt8) (k : Nat) (c : Bool) : Prop := gapB false R = k + gapB c (R.drop k)
theorem GapAt.start (R : List UInt8) : GapAt R 0 false := by unfold GapAt; rw [List.drop_zero, Nat.zero_add]
theorem GapAt.out {R : List UInt8} {k : Nat} (h : GapAt R k false) (hk : k < R.length) (h1 : R[k] ≠ 10) (h2 : R[k] ≠ 32) (h3 : R[k] ≠ 9) (h4 : R[k] ≠ 35) : gapB false R = k := by
  unfold GapAt at h
  rw [List.drop_eq_getElem_cons hk, gap_out _ h1 h2 h3 h4] at h; omega
theorem GapAt.over {R : List UInt8} {k : Nat} {c : Bool} (h : GapAt R k c) (hk : R.length ≤ k) : gapB false R = k := by
  unfold GapAt at h
  rw [List.drop_eq_nil_of_le hk, gap_nil] at h; omega

/-- Where a literal ends as the program looks for its end; all of the text if it has none. -/
def endP (d : UInt8) : List UInt8 → Nat
  | [] => 0
  | b :: r => if b = d then 1 else if b = 92 then (match r with
      | [] => 1
      | _ :: r2 => endP d r2 + 2) else endP d r + 1
theorem endP_nil (d : UInt8) : endP d [] = 0 := by rw [endP.eq_def]
theorem endP_hit (d : UInt8) (r : List UInt8) : endP d (d :: r) = 1 := by rw [endP.eq_def]; exact if_pos rfl
theorem endP_one {d b : UInt8} (r : List UInt8) (h : b ≠ d) (h2 : b ≠ 92) : endP d (b :: r) = endP d r + 1 := by rw [endP.eq_def]; dsimp only; rw [if_neg h, if_neg h2]
theorem endP_back {d : UInt8} (r : List UInt8) (h : (92 : UInt8) ≠ d) : endP d (92 :: r) = match r with
      | [] => 1
      | _ :: r2 => endP d r2 + 2 := by rw [endP.eq_def]; dsimp only; rw [if_neg h]; exact if_pos rfl
theorem endP_le {d : UInt8} (hd : (92 : UInt8) ≠ d) : ∀ (n : Nat) (r : List UInt8), r.length ≤ n → endP d r ≤ r.length := by
  intro n
  induction n with
  | zero => intro r h; rw [List.length_eq_zero_iff.1 (Nat.le_zero.1 h), endP_nil]; exact Nat.zero_le _
  | succ n ih =>
    intro r h
    match r with
    | [] => rw [endP_nil]; exact Nat.zero_le _
    | b :: r =>
      rw [List.length_cons] at h ⊢
      by_cases h1 : b = d
      · rw [h1, endP_hit]; omega
      · by_cases h2 : b = 92
        · rw [h2, endP_back _ hd]
          match r with
          | [] => simp
          | c :: r2 =>
            rw [List.length_cons] at h ⊢
            have := ih r2 (by omega)
            show endP d r2 + 2 ≤ _
            omega
        · rw [endP_one _ h1 h2]
          have := ih r (by omega); omega
/-- Where the look for a literal's end stands. -/
def LitAt (d : UInt8) (R : List UInt8) (z i : Nat) : Prop := z = min (i + endP d (R.drop i)) R.length
theorem LitAt.start (d : UInt8) (b : UInt8) (r : List UInt8) (hd : (92 : UInt8) ≠ d) : LitAt d (b :: r) (endP d r + 1) 1 := by
  have := endP_le hd _ r (Nat.le_refl _)
  unfold LitAt
  rw [List.drop_succ_cons, List.drop_zero, List.length_cons]; omega
theorem LitAt.one {d : UInt8} {R : List UInt8} {z i : Nat} (h : LitAt d R z i) (hi : i < R.length) (h1 : R[i] ≠ d) (h2 : R[i] ≠ 92) : LitAt d R z (i + 1) := by
  unfold LitAt at h ⊢
  rw [List.drop_eq_getElem_cons hi, endP_one _ h1 h2] at h; omega
theorem LitAt.over {d : UInt8} {R : List UInt8} {z i : Nat} (h : LitAt d R z i) (hi : R.length ≤ i) : z = R.length := by unfold LitAt at h; omega

end Go.Proofs.YtbadepiakkhabaaDoor.Tk
