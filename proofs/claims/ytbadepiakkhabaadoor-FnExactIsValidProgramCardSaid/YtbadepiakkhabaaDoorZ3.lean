/- Joined texts: C5, G1, K2. No conditions besides those that each states. -/
import Derived.Laws.BitsAllLaws
import Derived.Lib.Hide
import Derived.Test.YtbadepiakkhabaaDoorZ2
/- Plain facts on counting the ones of a word by parallel sums. No conditions. -/
namespace Go.Proofs.YtbadepiakkhabaaDoor.Cs
set_option linter.unusedVariables false

/-- The digits' sum: n digits of k bits each. -/
def dsum (k : Nat) : Nat → Nat → Nat
  | 0, _ => 0
  | n + 1, x => x % 2 ^ k + dsum k n (x / 2 ^ k)
/-- Each of n digits of k bits is at most b. -/
def small (k b : Nat) : Nat → Nat → Prop
  | 0, _ => True
  | n + 1, x => x % 2 ^ k ≤ b ∧ small k b n (x / 2 ^ k)
/-- The mask that keeps every second digit of k bits. -/
def mask (k : Nat) : Nat → Nat
  | 0 => 0
  | n + 1 => (2 ^ k - 1) + 2 ^ (2 * k) * mask k n

theorem and_split (j a b c d : Nat) (ha : a < 2 ^ j) (hc : c < 2 ^ j) : (a + 2 ^ j * b) &&& (c + 2 ^ j * d) = (a &&& c) + 2 ^ j * (b &&& d) := by
  have hac : a &&& c < 2 ^ j := Nat.and_lt_two_pow _ hc
  apply Nat.eq_of_testBit_eq
  intro i
  rw [Nat.testBit_and, Nat.add_comm a, Nat.add_comm c, Nat.add_comm (a &&& c), Nat.testBit_two_pow_mul_add _ ha, Nat.testBit_two_pow_mul_add _ hc, Nat.testBit_two_pow_mul_add _ hac]
  split <;> rw [Nat.testBit_and]
theorem pow_two_mul (k : Nat) : 2 ^ (2 * k) = 2 ^ k * 2 ^ k := by rw [Nat.two_mul, Nat.pow_add]
/-- What the mask leaves. -/
theorem and_mask (k n x : Nat) : x &&& mask k (n + 1) = x % 2 ^ k + 2 ^ (2 * k) * (x / 2 ^ (2 * k) &&& mask k n) := by
  have hp : 0 < 2 ^ k := Nat.two_pow_pos k
  have hlt : 2 ^ k - 1 < 2 ^ (2 * k) := by
    rw [pow_two_mul]
    have : 2 ^ k * 1 ≤ 2 ^ k * 2 ^ k := Nat.mul_le_mul_left _ hp
    omega
  show x &&& ((2 ^ k - 1) + 2 ^ (2 * k) * mask k n) = _
  have hx : x = x % 2 ^ (2 * k) + 2 ^ (2 * k) * (x / 2 ^ (2 * k)) := (Nat.mod_add_div _ _).symm
  conv => lhs; rw [hx]
  rw [and_split _ _ _ _ _ (Nat.mod_lt _ (Nat.two_pow_pos _)) hlt, Nat.and_two_pow_sub_one_eq_mod]
  congr 1
  rw [pow_two_mul, Nat.mod_mul_right_mod]

/-- A step of the sum: neighbours are added. -/
def pair (k n x : Nat) : Nat := (x / 2 ^ k &&& mask k n) + (x &&& mask k n)
theorem pair_succ (k n x : Nat) : pair k (n + 1) x = (x / 2 ^ k % 2 ^ k + x % 2 ^ k) + 2 ^ (2 * k) * pair k n (x / 2 ^ (2 * k)) := by
  unfold pair
  rw [and_mask, and_mask, Nat.div_div_eq_div_mul, Nat.div_div_eq_div_mul, Nat.mul_comm (2 ^ k) (2 ^ (2 * k)), Nat.mul_add]
  omega
theorem dsum_two (k n x : Nat) : dsum k (2 * (n + 1)) x = x % 2 ^ k + x / 2 ^ k % 2 ^ k + dsum k (2 * n) (x / 2 ^ (2 * k)) := by
  show x % 2 ^ k + (x / 2 ^ k % 2 ^ k + dsum k (2 * n) (x / 2 ^ k / 2 ^ k)) = _
  rw [Nat.div_div_eq_div_mul, pow_two_mul]
  omega
theorem small_two (k b n x : Nat) (h : small k b (2 * (n + 1)) x) : x % 2 ^ k ≤ b ∧ x / 2 ^ k % 2 ^ k ≤ b ∧ small k b (2 * n) (x / 2 ^ (2 * k)) := by
  obtain ⟨h0, h1, h2⟩ := h
  rw [Nat.div_div_eq_div_mul, ← pow_two_mul] at h2
  exact ⟨h0, h1, h2⟩
/-- The step keeps the sum, and doubles the bound. -/
theorem pair_step (k b : Nat) (hb : 2 * b < 2 ^ (2 * k)) : ∀ n x, small k b (2 * n) x → dsum (2 * k) n (pair k n x) = dsum k (2 * n) x ∧ small (2 * k) (2 * b) n (pair k n x)
  | 0, x, _ => ⟨rfl, trivial⟩
  | n + 1, x, h => by
    obtain ⟨h0, h1, h2⟩ := small_two k b n x h
    obtain ⟨i1, i2⟩ := pair_step k b hb n _ h2
    have e := pair_succ k n x
    have hm : pair k (n + 1) x % 2 ^ (2 * k) = x / 2 ^ k % 2 ^ k + x % 2 ^ k := by
      rw [e, Nat.add_mul_mod_self_left, Nat.mod_eq_of_lt (by omega)]
    have hd : pair k (n + 1) x / 2 ^ (2 * k) = pair k n (x / 2 ^ (2 * k)) := by
      rw [e, Nat.add_mul_div_left _ _ (Nat.two_pow_pos _), Nat.div_eq_of_lt (by omega), Nat.zero_add]
    constructor
    · show pair k (n + 1) x % 2 ^ (2 * k) + dsum (2 * k) n (pair k (n + 1) x / 2 ^ (2 * k)) = _
      rw [hm, hd, i1, dsum_two]; omega
    · refine ⟨?_, ?_⟩
      · rw [hm]; omega
      · rw [hd]; exact i2
/-- The step with one mask, where sums don't overflow. -/
theorem lump_step (k b : Nat) (hb : 2 * b < 2 ^ k) : ∀ n x, small k b (2 * n) x → (x / 2 ^ k + x) &&& mask k n = pair k n x
  | 0, x, _ => by show _ &&& 0 = (_ &&& 0) + (_ &&& 0); simp
  | n + 1, x, h => by
    obtain ⟨h0, h1, h2⟩ := small_two k b n x h
    have i1 := lump_step k b hb n _ h2
    have hp : 0 < 2 ^ k := Nat.two_pow_pos k
    have hz : n = 0 ∨ (x / 2 ^ (2 * k)) % 2 ^ k ≤ b := by
      cases n with
      | zero => exact .inl rfl
      | succ n => exact .inr h2.1
    rw [and_mask, pair_succ]
    generalize hq : x / 2 ^ (2 * k) = q at *
    have e0 : x = x % 2 ^ k + 2 ^ k * (x / 2 ^ k % 2 ^ k) + 2 ^ (2 * k) * q := by
      have e1 := Nat.mod_add_div x (2 ^ k)
      have e2 := Nat.mod_add_div (x / 2 ^ k) (2 ^ k)
      rw [Nat.div_div_eq_div_mul, ← pow_two_mul, hq] at e2
      conv => lhs; rw [← e1, ← e2]
      rw [Nat.mul_add, ← Nat.mul_assoc, ← pow_two_mul]; omega
    have e3 : x / 2 ^ k = x / 2 ^ k % 2 ^ k + 2 ^ k * q := by
      have e2 := Nat.mod_add_div (x / 2 ^ k) (2 ^ k)
      rw [Nat.div_div_eq_div_mul, ← pow_two_mul, hq] at e2
      exact e2.symm
    generalize x % 2 ^ k = u at *
    generalize x / 2 ^ k % 2 ^ k = v at *
    have f1 : (x / 2 ^ k + x) % 2 ^ k = v + u := by
      have : x / 2 ^ k + x = (v + u) + 2 ^ k * (q + v + 2 ^ k * q) := by
        rw [e3]; conv => lhs; rhs; rw [e0]
        rw [pow_two_mul, Nat.mul_add, Nat.mul_add, ← Nat.mul_assoc]; omega
      rw [this, Nat.add_mul_mod_self_left, Nat.mod_eq_of_lt (by omega)]
    rw [f1]
    congr 2
    rcases hz with rfl | hz
    · show _ &&& 0 = (_ &&& 0) + (_ &&& 0); simp
    · have f2 : (x / 2 ^ k + x) / 2 ^ (2 * k) = q / 2 ^ k + q := by
        have hq2 := Nat.mod_add_div q (2 ^ k)
        have : x / 2 ^ k + x = ((v + u) + 2 ^ k * (q % 2 ^ k + v)) + 2 ^ (2 * k) * (q / 2 ^ k + q) := by
          rw [e3]; conv => lhs; rhs; rw [e0]
          conv => lhs; lhs; rhs; rw [← hq2]
          simp only [Nat.mul_add, pow_two_mul, ← Nat.mul_assoc]; omega
        rw [this, Nat.add_mul_div_left _ _ (Nat.two_pow_pos _), Nat.div_eq_of_lt, Nat.zero_add]
        rw [pow_two_mul]
        have h4 : q % 2 ^ k + v + 1 ≤ 2 ^ k := by omega
        have h5 := Nat.mul_le_mul_left (2 ^ k) h4
        rw [Nat.mul_add] at h5
        omega
      rw [f2, i1]

theorem small_one : ∀ n x, small 1 1 n x
  | 0, _ => trivial
  | n + 1, x => ⟨by omega, small_one n _⟩
theorem pair_lt (k : Nat) : ∀ n x, pair k n x ≤ 2 * mask k n
  | n, x => by
    have h1 : x / 2 ^ k &&& mask k n ≤ mask k n := Nat.and_le_right
    have h2 : x &&& mask k n ≤ mask k n := Nat.and_le_right
    unfold pair; omega
/-- The ones of a word. -/
theorem dsum_bits : ∀ n x, dsum 1 n x = ((List.range n).filter (Nat.testBit x)).length
  | 0, _ => rfl
  | n + 1, x => by
    have ih := dsum_bits n (x / 2)
    have e : (List.map Nat.succ (List.range n)).filter (Nat.testBit x) = ((List.range n).filter (Nat.testBit (x / 2))).map Nat.succ := by
      rw [List.filter_map]
      congr 1
      apply List.filter_congr
      intro i _
      simp [Nat.testBit_succ]
    rw [List.range_succ_eq_map, List.filter_cons, e]
    show x % 2 ^ 1 + dsum 1 n (x / 2 ^ 1) = _
    rw [show (2 : Nat) ^ 1 = 2 from rfl, ih]
    by_cases h : Nat.testBit x 0 = true
    · rw [if_pos h]
      rw [Nat.testBit_zero] at h
      have : x % 2 = 1 := by simpa using h
      simp; omega
    · rw [if_neg h]
      rw [Nat.testBit_zero] at h
      have : x % 2 = 0 := by have := Nat.mod_two_eq_zero_or_one x; simp at h; omega
      simp; omega

/-- A number by its bytes. -/
def val : List Nat → Nat
  | [] => 0
  | b :: l => b + 256 * val l
def addl : List Nat → List Nat → List Nat
  | [], m => m
  | l, [] => l
  | a :: l, b :: m => (a + b) :: addl l m
theorem val_add : ∀ l m, val l + val m = val (addl l m)
  | [], m => by simp [val, addl]
  | a :: l, [] => by simp [val, addl]
  | a :: l, b :: m => by
    have := val_add l m
    show (a + 256 * val l) + (b + 256 * val m) = (a + b) + 256 * val (addl l m)
    omega
theorem val_drop : ∀ j l, (∀ b ∈ l, b < 256) → val l / 256 ^ j = val (l.drop j)
  | 0, l, _ => by simp
  | j + 1, [], _ => by simp [val]
  | j + 1, b :: l, h => by
    have h1 := h b List.mem_cons_self
    rw [List.drop_succ_cons, ← val_drop j l (fun x hx => h x (List.mem_cons_of_mem _ hx)), Nat.pow_succ, Nat.mul_comm, ← Nat.div_div_eq_div_mul]
    congr 1
    show (b + 256 * val l) / 256 = val l
    omega
theorem val_lt : ∀ l, (∀ b ∈ l, b < 256) → val l < 256 ^ l.length
  | [], _ => by simp [val]
  | b :: l, h => by
    have h1 := h b List.mem_cons_self
    have h2 := val_lt l (fun x hx => h x (List.mem_cons_of_mem _ hx))
    rw [List.length_cons, Nat.pow_succ]
    show b + 256 * val l < _
    omega
theorem val_lt8 {a b c d e f g h : Nat} (H : ∀ x ∈ [a, b, c, d, e, f, g, h], x < 256) : val [a, b, c, d, e, f, g, h] < 18446744073709551616 :=
  Nat.lt_of_lt_of_eq (val_lt _ H) (by show 256 ^ 8 = _; decide)
theorem all8 {a b c d e f g h n : Nat} (h0 : a < n) (h1 : b < n) (h2 : c < n) (h3 : d < n) (h4 : e < n) (h5 : f < n) (h6 : g < n) (h7 : h < n) : ∀ x ∈ [a, b, c, d, e, f, g, h], x < n := by
  intro x hx
  simp only [List.mem_cons, List.not_mem_nil, or_false] at hx
  rcases hx with rfl | rfl | rfl | rfl | rfl | rfl | rfl | rfl <;> assumption
theorem fold_eight (b0 b1 b2 b3 b4 b5 b6 b7 : Nat) (h0 : b0 ≤ 8) (h1 : b1 ≤ 8) (h2 : b2 ≤ 8) (h3 : b3 ≤ 8) (h4 : b4 ≤ 8) (h5 : b5 ≤ 8) (h6 : b6 ≤ 8) (h7 : b7 ≤ 8) (y : Nat) (hy : y = val [b0, b1, b2, b3, b4, b5, b6, b7]) (z1 z2 z3 : Nat) (e1 : z1 = y + y / 256) (e2 : z2 = z1 + z1 / 65536) (e3 : z3 = z2 + z2 / 4294967296) :
    z1 < 18446744073709551616 ∧ z2 < 18446744073709551616 ∧ z3 < 18446744073709551616 ∧ z3 % 128 = b0 + b1 + b2 + b3 + b4 + b5 + b6 + b7 := by
  have f1 : y / 256 = val [b1, b2, b3, b4, b5, b6, b7] := by rw [hy]; exact val_drop 1 _ (all8 (by omega) (by omega) (by omega) (by omega) (by omega) (by omega) (by omega) (by omega))
  have g1 : z1 = val [(b0 + b1), (b1 + b2), (b2 + b3), (b3 + b4), (b4 + b5), (b5 + b6), (b6 + b7), b7] := by rw [e1, f1, hy, val_add]; rfl
  have a1 := all8 (n := 256) (a := (b0 + b1)) (b := (b1 + b2)) (c := (b2 + b3)) (d := (b3 + b4)) (e := (b4 + b5)) (f := (b5 + b6)) (g := (b6 + b7)) (h := b7) (by omega) (by omega) (by omega) (by omega) (by omega) (by omega) (by omega) (by omega)
  have f2 : z1 / 65536 = val [(b2 + b3), (b3 + b4), (b4 + b5), (b5 + b6), (b6 + b7), b7] := by rw [g1]; exact val_drop 2 _ a1
  have g2 : z2 = val [((b0 + b1) + (b2 + b3)), ((b1 + b2) + (b3 + b4)), ((b2 + b3) + (b4 + b5)), ((b3 + b4) + (b5 + b6)), ((b4 + b5) + (b6 + b7)), ((b5 + b6) + b7), (b6 + b7), b7] := by rw [e2, f2, g1, val_add]; rfl
  have a2 := all8 (n := 256) (a := ((b0 + b1) + (b2 + b3))) (b := ((b1 + b2) + (b3 + b4))) (c := ((b2 + b3) + (b4 + b5))) (d := ((b3 + b4) + (b5 + b6))) (e := ((b4 + b5) + (b6 + b7))) (f := ((b5 + b6) + b7)) (g := (b6 + b7)) (h := b7) (by omega) (by omega) (by omega) (by omega) (by omega) (by omega) (by omega) (by omega)
  have f3 : z2 / 4294967296 = val [((b4 + b5) + (b6 + b7)), ((b5 + b6) + b7), (b6 + b7), b7] := by rw [g2]; exact val_drop 4 _ a2
  have g3 : z3 = val [(((b0 + b1) + (b2 + b3)) + ((b4 + b5) + (b6 + b7))), (((b1 + b2) + (b3 + b4)) + ((b5 + b6) + b7)), (((b2 + b3) + (b4 + b5)) + (b6 + b7)), (((b3 + b4) + (b5 + b6)) + b7), ((b4 + b5) + (b6 + b7)), ((b5 + b6) + b7), (b6 + b7), b7] := by rw [e3, f3, g2, val_add]; rfl
  have a3 := all8 (n := 256) (a := (((b0 + b1) + (b2 + b3)) + ((b4 + b5) + (b6 + b7)))) (b := (((b1 + b2) + (b3 + b4)) + ((b5 + b6) + b7))) (c := (((b2 + b3) + (b4 + b5)) + (b6 + b7))) (d := (((b3 + b4) + (b5 + b6)) + b7)) (e := ((b4 + b5) + (b6 + b7))) (f := ((b5 + b6) + b7)) (g := (b6 + b7)) (h := b7) (by omega) (by omega) (by omega) (by omega) (by omega) (by omega) (by omega) (by omega)
  refine ⟨by rw [g1]; exact val_lt8 a1, by rw [g2]; exact val_lt8 a2, by rw [g3]; exact val_lt8 a3, ?_⟩
  rw [g3]
  show ((((b0 + b1) + (b2 + b3)) + ((b4 + b5) + (b6 + b7))) + 256 * val _) % 128 = _
  generalize val _ = v
  omega
def digits : Nat → Nat → List Nat
  | 0, _ => []
  | n + 1, y => y % 256 :: digits n (y / 256)
theorem val_digits : ∀ n y, y < 256 ^ n → y = val (digits n y)
  | 0, y, h => by simp at h; subst h; rfl
  | n + 1, y, h => by
    have h2 : y / 256 < 256 ^ n := by rw [Nat.pow_succ] at h; omega
    have e := val_digits n (y / 256) h2
    show y = y % 256 + 256 * val (digits n (y / 256))
    rw [← e]; omega
theorem fold_bytes (y : Nat) (hs : small 8 8 8 y) (hy : y < 18446744073709551616) (z1 z2 z3 : Nat) (e1 : z1 = y + y / 256) (e2 : z2 = z1 + z1 / 65536) (e3 : z3 = z2 + z2 / 4294967296) :
    z1 < 18446744073709551616 ∧ z2 < 18446744073709551616 ∧ z3 < 18446744073709551616 ∧ z3 % 128 = dsum 8 8 y := by
  obtain ⟨h0, h1, h2, h3, h4, h5, h6, h7, _⟩ := hs
  have hv : y = val (digits 8 y) := val_digits 8 y hy
  have hd : dsum 8 8 y = y % 2 ^ 8 + (y / 2 ^ 8 % 2 ^ 8 + (y / 2 ^ 8 / 2 ^ 8 % 2 ^ 8 + (y / 2 ^ 8 / 2 ^ 8 / 2 ^ 8 % 2 ^ 8 + (y / 2 ^ 8 / 2 ^ 8 / 2 ^ 8 / 2 ^ 8 % 2 ^ 8 + (y / 2 ^ 8 / 2 ^ 8 / 2 ^ 8 / 2 ^ 8 / 2 ^ 8 % 2 ^ 8 + (y / 2 ^ 8 / 2 ^ 8 / 2 ^ 8 / 2 ^ 8 / 2 ^ 8 / 2 ^ 8 % 2 ^ 8 + (y / 2 ^ 8 / 2 ^ 8 / 2 ^ 8 / 2 ^ 8 / 2 ^ 8 / 2 ^ 8 / 2 ^ 8 % 2 ^ 8 + 0))))))) := rfl
  obtain ⟨t1, t2, t3, t4⟩ := fold_eight _ _ _ _ _ _ _ _ h0 h1 h2 h3 h4 h5 h6 h7 y hv z1 z2 z3 e1 e2 e3
  refine ⟨t1, t2, t3, ?_⟩
  rw [t4, hd]
  simp only [Nat.add_zero, Nat.add_assoc]
end Go.Proofs.YtbadepiakkhabaaDoor.Cs
/- Expression trees: their numbers of nodes, depths, sizes, equality. Plain. No conditions. -/
namespace Go.Proofs.YtbadepiakkhabaaDoor.Ex
set_option linter.unusedVariables false

/-- A tree: kind, text, number, line, kids. -/
inductive T where
  | node (k : Int) (t : ByteArray) (n l : Int) (ks : List T) : T
def T.kind : T → Int | .node k _ _ _ _ => k
def T.text : T → ByteArray | .node _ t _ _ _ => t
def T.num : T → Int | .node _ _ n _ _ => n
def T.line : T → Int | .node _ _ _ l _ => l
def T.kids : T → List T | .node _ _ _ _ ks => ks
mutual
/-- The number of nodes. -/
def T.count : T → Nat
  | .node _ _ _ _ ks => 1 + counts ks
def counts : List T → Nat
  | [] => 0
  | x :: r => x.count + counts r
end
mutual
/-- The depth. -/
def T.deep : T → Nat
  | .node _ _ _ _ ks => deeps ks + 1
def deeps : List T → Nat
  | [] => 0
  | x :: r => max x.deep (deeps r)
end
mutual
/-- The bytes and kids of a tree: what the laws bound. -/
def T.bulk : T → Nat
  | .node _ t _ _ ks => t.size + (ks.length + bulks ks)
def bulks : List T → Nat
  | [] => 0
  | x :: r => x.bulk + bulks r
end
mutual
/-- A tree whose numbers are of 64 bits, whose texts and lists are no longer than any in memory. -/
def T.Ok : T → Prop
  | .node k t n l ks => (-9223372036854775808 ≤ k ∧ k ≤ 9223372036854775807) ∧ (-9223372036854775808 ≤ n ∧ n ≤ 9223372036854775807) ∧ (-9223372036854775808 ≤ l ∧ l ≤ 9223372036854775807) ∧ (t.size ≤ 9223372036854775807 ∧ ks.length ≤ 9223372036854775807) ∧ Oks ks
def Oks : List T → Prop
  | [] => True
  | x :: r => x.Ok ∧ Oks r
end
theorem ok_node {x : T} (h : x.Ok) : x.text.size ≤ 9223372036854775807 ∧ x.kids.length ≤ 9223372036854775807 ∧ Oks x.kids := by
  cases x; rw [T.Ok] at h; exact ⟨h.2.2.2.1.1, h.2.2.2.1.2, h.2.2.2.2⟩
theorem count_pos (x : T) : 1 ≤ x.count := by cases x; simp [T.count]
theorem counts_mem : ∀ {l : List T} {x : T}, x ∈ l → x.count ≤ counts l := by
  intro l
  induction l with
  | nil => intro x h; cases h
  | cons y l ih =>
    intro x h
    rw [counts]
    rcases List.mem_cons.1 h with rfl | h
    · omega
    · have := ih h; omega
theorem bulks_mem : ∀ {l : List T} {x : T}, x ∈ l → x.bulk ≤ bulks l := by
  intro l
  induction l with
  | nil => intro x h; cases h
  | cons y l ih =>
    intro x h
    rw [bulks]
    rcases List.mem_cons.1 h with rfl | h
    · omega
    · have := ih h; omega
theorem oks_mem : ∀ {l : List T} {x : T}, Oks l → x ∈ l → x.Ok := by
  intro l
  induction l with
  | nil => intro x _ h; cases h
  | cons y l ih =>
    intro x ho h
    rw [Oks] at ho
    rcases List.mem_cons.1 h with rfl | h
    · exact ho.1
    · exact ih ho.2 h
theorem counts_snoc (l : List T) (x : T) : counts (l ++ [x]) = counts l + x.count := by
  induction l with
  | nil => simp [counts]
  | cons y l ih => rw [List.cons_append, counts, counts, ih]; omega
theorem deeps_snoc (l : List T) (x : T) : deeps (l ++ [x]) = max (deeps l) x.deep := by
  induction l with
  | nil => simp [deeps]
  | cons y l ih => rw [List.cons_append, deeps, deeps, ih]; omega
theorem bulks_snoc (l : List T) (x : T) : bulks (l ++ [x]) = bulks l + x.bulk := by
  induction l with
  | nil => simp [bulks]
  | cons y l ih => rw [List.cons_append, bulks, bulks, ih]; omega
theorem counts_take (l : List T) (k : Nat) (h : k < l.length) : counts (l.take (k + 1)) = counts (l.take k) + l[k].count := by
  rw [List.take_succ_eq_append_getElem h, counts_snoc]
theorem deeps_take (l : List T) (k : Nat) (h : k < l.length) : deeps (l.take (k + 1)) = max (deeps (l.take k)) l[k].deep := by
  rw [List.take_succ_eq_append_getElem h, deeps_snoc]
theorem bulks_take (l : List T) (k : Nat) (h : k < l.length) : bulks (l.take (k + 1)) = bulks (l.take k) + l[k].bulk := by
  rw [List.take_succ_eq_append_getElem h, bulks_snoc]
theorem counts_take_le (l : List T) (k : Nat) : counts (l.take k) ≤ counts l := by
  induction l generalizing k with
  | nil => simp [counts]
  | cons y l ih =>
    cases k with
    | zero => simp [counts]
    | succ k => rw [List.take_succ_cons, counts, counts]; have := ih k; omega
theorem bulks_take_le (l : List T) (k : Nat) : bulks (l.take k) ≤ bulks l := by
  induction l generalizing k with
  | nil => simp [bulks]
  | cons y l ih =>
    cases k with
    | zero => simp [bulks]
    | succ k => rw [List.take_succ_cons, bulks, bulks]; have := ih k; omega
/-- Fewer nodes than bytes and kids. -/
theorem count_bulk : ∀ (n : Nat) (x : T), x.count ≤ n → x.count ≤ x.bulk + 1 := by
  intro n
  induction n with
  | zero => intro x h; have := count_pos x; omega
  | succ n ih =>
    intro x h
    cases x with
    | node k t m l ks =>
      rw [T.count] at h ⊢
      rw [T.bulk]
      have : ∀ l : List T, counts l ≤ n → counts l ≤ l.length + bulks l := by
        intro l
        induction l with
        | nil => intro _; simp [counts]
        | cons y l ih2 =>
          intro h2
          rw [counts] at h2 ⊢
          rw [bulks, List.length_cons]
          have := ih y (by omega)
          have := ih2 (by omega)
          omega
      have := this ks (by omega)
      omega
theorem deep_pos (x : T) : 1 ≤ x.deep := by cases x; simp [T.deep]
theorem deep_count : ∀ (n : Nat) (x : T), x.count ≤ n → x.deep ≤ x.count := by
  intro n
  induction n with
  | zero => intro x h; have := count_pos x; omega
  | succ n ih =>
    intro x h
    cases x with
    | node k t m l ks =>
      rw [T.count] at h ⊢
      rw [T.deep]
      have : ∀ l : List T, counts l ≤ n → deeps l ≤ counts l := by
        intro l
        induction l with
        | nil => intro _; simp [counts, deeps]
        | cons y l ih2 =>
          intro h2
          rw [counts] at h2 ⊢
          rw [deeps]
          have := ih y (by omega)
          have := ih2 (by omega)
          omega
      have := this ks (by omega)
      omega
end Go.Proofs.YtbadepiakkhabaaDoor.Ex
/- Plain facts on tokens: their texts, separated by blanks, give the same tokens. No conditions. -/
namespace Go.Proofs.YtbadepiakkhabaaDoor.Tk
set_option linter.unusedVariables false

theorem Lt_el_end (d : UInt8) (hd : d = 34 ∨ d = 39) (b : UInt8) (r : List UInt8) : Lt.endL d (Lt.el d b ++ r) = (Lt.endL d r).map (· + (Lt.el d b).length) := by
  have hd1 : (92 : UInt8) ≠ d := by rcases hd with rfl | rfl <;> decide
  have hexok : ∀ n, n < 16 → Lt.hexC n ≠ d ∧ Lt.plain (Lt.hexC n) = true ∧ Lt.hexC n ≠ 92 := by
    intro n hn
    have h := Lt.hexC_nat n hn
    refine ⟨?_, (Lt.plain_iff _).2 (by rw [h]; split <;> omega), ?_⟩
    · rcases hd with rfl | rfl
      · intro e; rw [e] at h; simp at h; split at h <;> omega
      · intro e; rw [e] at h; simp at h; split at h <;> omega
    · intro e; rw [e] at h; simp at h; split at h <;> omega
  have hb := UInt8.toNat_lt b
  rcases Lt.el_cases d b with ⟨h1, e⟩ | ⟨h1, h2, e⟩ | ⟨h1, h2, h3, h4, e⟩ | ⟨h1, h2, e⟩ | ⟨h1, h2, e⟩ | ⟨h1, h2, h3, h4, h5, e⟩ | ⟨h1, h2, h3, h4, h5, e⟩
  · rw [e]; exact Lt.endL_back _ hd1
  · rw [e]; exact Lt.endL_back _ hd1
  · rw [e]; exact Lt.endL_one _ h1 ((Lt.plain_iff b).2 ⟨h3, h4⟩) h2
  · rw [e]; exact Lt.endL_back _ hd1
  · rw [e]; exact Lt.endL_back _ hd1
  all_goals
    obtain ⟨p1, p2, p3⟩ := hexok (b.toNat / 16) (by omega)
    obtain ⟨q1, q2, q3⟩ := hexok (b.toNat % 16) (by omega)
    rw [e]
    show Lt.endL d (92 :: 120 :: Lt.hexC (b.toNat / 16) :: Lt.hexC (b.toNat % 16) :: r) = _
    rw [Lt.endL_back _ hd1]
    show (Lt.endL d (Lt.hexC (b.toNat / 16) :: Lt.hexC (b.toNat % 16) :: r)).map (· + 2) = _
    rw [Lt.endL_one _ p1 p2 p3, Lt.endL_one _ q1 q2 q3]
    cases Lt.endL d r <;> simp
theorem Lt_els_end (d : UInt8) (hd : d = 34 ∨ d = 39) (l : List UInt8) (r : List UInt8) : Lt.endL d (l.flatMap (Lt.el d) ++ d :: r) = some ((l.flatMap (Lt.el d)).length + 1) := by
  induction l with
  | nil => exact Lt.endL_hit d r
  | cons b l ih =>
    rw [List.flatMap_cons, List.append_assoc, Lt_el_end d hd, ih]
    simp; omega

/-- The source form of a token. -/
def tx (k : Nat) (t : List UInt8) : List UInt8 := if k = 4 then Lt.quo 34 t else if k = 5 then Lt.quo 39 t else if k = 6 then 38 :: t else t
/-- What denotes is read again. -/
structure Again (D : Den) : Prop where
  int : ∀ w t, D.int w = some t → t ≠ [] ∧ t.all Dec.isDig = true ∧ D.int t = some t
  str : ∀ q t, D.str q = some t → D.str (Lt.quo 34 t) = some t
  set : ∀ q t, D.set q = some t → D.set (Lt.quo 39 t) = some t
/-- Nothing stands behind, or a blank. -/
def Gap (r : List UInt8) : Prop := r = [] ∨ r.head? = some 32
/-- A first byte that begins a token. -/
def firstOk (b : UInt8) : Bool := b != 10 && b != 32 && b != 9 && b != 35
theorem take_gap (p : UInt8 → Bool) (hp : p 32 = false) (w r : List UInt8) (hw : w.all p = true) (hr : Gap r) : (w ++ r).takeWhile p = w := by
  induction w with
  | nil =>
    rcases hr with rfl | h
    · rfl
    · cases r with
      | nil => rfl
      | cons c r => simp at h; subst h; simp [hp]
  | cons b w ih =>
    simp at hw
    rw [List.cons_append, List.takeWhile_cons, if_pos hw.1, ih (by simpa using hw.2)]
theorem letter_dig {b : UInt8} (h : Dec.isDig b = true) : letter b = false := by
  have h2 := Dec.isDig_le h
  have h3 : b ≠ 95 := by rintro rfl; simp at h2
  unfold letter
  simp [h3]; omega
theorem take_all (p : UInt8 → Bool) (l : List UInt8) : (l.takeWhile p).all p = true := by
  induction l with
  | nil => rfl
  | cons b l ih => rw [List.takeWhile_cons]; split <;> simp_all
theorem ops_first : ∀ o ∈ operators, (o.head?.map fun b => firstOk b && !letter b && !Dec.isDig b && b != 34 && b != 39) = some true := by decide
theorem ops_self : ∀ o ∈ operators, (operators.find? fun p => p.isPrefixOf o) = some o := by decide
theorem ops_blank : ∀ o ∈ operators, o.contains 32 = false := by decide
theorem prefix_gap (p o r : List UInt8) (hp : p.contains 32 = false) (hr : Gap r) : p.isPrefixOf (o ++ r) = p.isPrefixOf o := by
  induction p generalizing o with
  | nil => cases o <;> cases r <;> rfl
  | cons b p ih =>
    have hb : b ≠ 32 ∧ p.contains 32 = false := by
      simp at hp
      exact ⟨fun e => hp.1 e.symm, by simpa using hp.2⟩
    cases o with
    | nil =>
      rcases hr with rfl | h
      · rfl
      · cases r with
        | nil => rfl
        | cons c r =>
          simp at h; subst h
          have : (b == 32) = false := by simpa using hb.1
          simp [List.isPrefixOf, this]
    | cons c o =>
      show (b == c && p.isPrefixOf (o ++ r)) = (b == c && p.isPrefixOf o)
      rw [ih o hb.2]
theorem one_op (D : Den) (o r : List UInt8) (ho : o ∈ operators) (hr : Gap r) : one D (o ++ r) = some (7, o, o.length) := by
  have h1 := ops_first o ho
  have h2 := ops_self o ho
  have h3 : (operators.find? fun p => p.isPrefixOf (o ++ r)) = some o := by
    rw [← h2]
    have : ∀ l : List (List UInt8), (∀ p ∈ l, p.contains 32 = false) → l.find? (fun p => p.isPrefixOf (o ++ r)) = l.find? fun p => p.isPrefixOf o := by
      intro l
      induction l with
      | nil => intro _; rfl
      | cons p l ih =>
        intro h
        rw [List.find?_cons, List.find?_cons, prefix_gap p o r (h p (List.mem_cons_self)) hr, ih (fun q hq => h q (List.mem_cons_of_mem _ hq))]
    exact this operators ops_blank
  cases o with
  | nil => simp at h1
  | cons b o =>
    simp at h1
    obtain ⟨⟨⟨⟨h4, h5⟩, h6⟩, h7⟩, h8⟩ := h1
    rw [List.cons_append] at h3 ⊢
    have h9 : ¬ (b = 38 ∧ (o ++ r).head?.map letter = some true) := by
      rintro ⟨rfl, h⟩
      have : o = [] := by
        have hx : ∀ q ∈ operators, q.head? = some 38 → q = [38] := by decide
        have := hx _ ho rfl
        simpa using this
      subst this
      rcases hr with rfl | hr
      · simp at h
      · simp [hr] at h; exact absurd h (by decide)
    simp only [one]
    rw [if_neg (by simp [h5]), if_neg (by simp [h6]), if_neg (by simpa using h7), if_neg (by simpa using h8), if_neg h9, h3]
    rfl
/-- A token whose source form is read again as itself. -/
def OkT (D : Den) (k : Nat) (t : List UInt8) : Prop := (∃ b r, tx k t = b :: r ∧ firstOk b = true) ∧ ∀ r, Gap r → one D (tx k t ++ r) = some (k, t, (tx k t).length)
theorem okT_op (D : Den) (o : List UInt8) (ho : o ∈ operators) : OkT D 7 o := by
  refine ⟨?_, fun r hr => by show one D (o ++ r) = _; exact one_op D o r ho hr⟩
  have h1 := ops_first o ho
  cases o with
  | nil => simp at h1
  | cons b o => simp at h1; exact ⟨b, o, rfl, h1.1.1.1.1⟩
theorem letter_first {b : UInt8} (h : letter b = true) : firstOk b = true := by
  unfold firstOk
  have : ∀ c : UInt8, letter c = false → b ≠ c := fun c hc e => by rw [e, hc] at h; cases h
  have h1 := this 10 (by decide)
  have h2 := this 32 (by decide)
  have h3 := this 9 (by decide)
  have h4 := this 35 (by decide)
  simp [h1, h2, h3, h4]
theorem dig_first {b : UInt8} (h : Dec.isDig b = true) : firstOk b = true := by
  unfold firstOk
  have : ∀ c : UInt8, Dec.isDig c = false → b ≠ c := fun c hc e => by rw [e, hc] at h; cases h
  have h1 := this 10 (by decide)
  have h2 := this 32 (by decide)
  have h3 := this 9 (by decide)
  have h4 := this 35 (by decide)
  simp [h1, h2, h3, h4]
theorem idb_blank : idb 32 = false := by decide
theorem letter_blank : letter 32 = false := by decide
theorem kw_head : ∀ w ∈ keywords, ∃ b r, w = b :: r ∧ letter b = true ∧ w.all letter = true := by
  intro w hw
  have h : ∀ w ∈ keywords, w ≠ [] ∧ w.all letter = true := by decide
  obtain ⟨h1, h2⟩ := h w hw
  cases w with
  | nil => exact absurd rfl h1
  | cons b r => exact ⟨b, r, rfl, by simp at h2; exact h2.1, h2⟩
theorem dig_idb {l : List UInt8} (h : l.all Dec.isDig = true) : l.all idb = true := by
  rw [List.all_eq_true] at h ⊢
  intro x hx
  unfold idb
  rw [h x hx]; simp
/-- What is read is read again. -/
theorem one_again {D : Den} (A : Again D) {R t : List UInt8} {k n : Nat} (h : one D R = some (k, t, n)) : OkT D k t := by
  match R with
  | [] => cases h
  | b :: q =>
    simp only [one] at h
    split at h
    · rename_i hb
      have hid : (q.takeWhile idb).all idb = true := take_all _ _
      split at h
      · rename_i hres
        cases h
        refine ⟨⟨b, _, rfl, letter_first hb⟩, fun r hr => ?_⟩
        show one D (b :: (q.takeWhile idb ++ r)) = _
        simp only [one]
        rw [if_pos hb, take_gap idb idb_blank _ r hid hr, if_pos hres]; rfl
      · rename_i hres
        split at h
        · rename_i hnm
          cases h
          refine ⟨⟨b, _, rfl, letter_first hb⟩, fun r hr => ?_⟩
          show one D (b :: (q.takeWhile idb ++ r)) = _
          simp only [one]
          rw [if_pos hb, take_gap idb idb_blank _ r hid hr, if_neg hres, if_pos hnm]; rfl
        · cases h
    · split at h
      · cases hi : D.int (b :: q.takeWhile idb) with
        | none => rw [hi] at h; cases h
        | some x =>
          rw [hi] at h
          cases h
          obtain ⟨h1, h2, h3⟩ := A.int _ _ hi
          cases t with
          | nil => exact absurd rfl h1
          | cons c t =>
            have hc : Dec.isDig c = true := by simp at h2; exact h2.1
            have ht : t.all idb = true := dig_idb (by simp at h2; simpa using h2.2)
            refine ⟨⟨c, t, rfl, dig_first hc⟩, fun r hr => ?_⟩
            show one D (c :: (t ++ r)) = _
            simp only [one]
            rw [if_neg (by rw [letter_dig hc]; simp), if_pos hc, take_gap idb idb_blank _ r ht hr, h3]; rfl
      · split at h
        · cases he : Lt.endL 34 q with
          | none => rw [he] at h; cases h
          | some m =>
            rw [he] at h
            cases hs : D.str (b :: q.take m) with
            | none => simp [hs] at h
            | some x =>
              simp [hs] at h
              obtain ⟨rfl, rfl, _⟩ := h
              have h2 := A.str _ _ hs
              refine ⟨⟨34, _, rfl, rfl⟩, fun r hr => ?_⟩
              have h3 : tx 4 x ++ r = 34 :: (x.flatMap (Lt.el 34) ++ 34 :: r) := by show Lt.quo 34 x ++ r = _; simp [Lt.quo]
              rw [h3]
              simp only [one]
              rw [if_neg (by decide), if_neg (by decide)]
              rw [Lt_els_end 34 (.inl rfl) x r]
              have h4 : (34 : UInt8) :: (x.flatMap (Lt.el 34) ++ 34 :: r).take ((x.flatMap (Lt.el 34)).length + 1) = Lt.quo 34 x := by
                unfold Lt.quo
                rw [show x.flatMap (Lt.el 34) ++ 34 :: r = (x.flatMap (Lt.el 34) ++ [34]) ++ r by simp, List.take_left' (by simp)]
              rw [if_pos trivial]
              show (D.str _).map _ = _
              rw [h4, h2]
              show some (4, x, _) = some (4, x, (Lt.quo 34 x).length)
              simp [Lt.quo]
        · split at h
          · cases he : Lt.endL 39 q with
            | none => rw [he] at h; cases h
            | some m =>
              rw [he] at h
              cases hs : D.set (b :: q.take m) with
              | none => simp [hs] at h
              | some x =>
                simp [hs] at h
                obtain ⟨rfl, rfl, _⟩ := h
                have h2 := A.set _ _ hs
                refine ⟨⟨39, _, rfl, rfl⟩, fun r hr => ?_⟩
                have h3 : tx 5 x ++ r = 39 :: (x.flatMap (Lt.el 39) ++ 39 :: r) := by show Lt.quo 39 x ++ r = _; simp [Lt.quo]
                rw [h3]
                simp only [one]
                rw [if_neg (by decide), if_neg (by decide), if_neg (by decide)]
                rw [Lt_els_end 39 (.inr rfl) x r]
                have h4 : (39 : UInt8) :: (x.flatMap (Lt.el 39) ++ 39 :: r).take ((x.flatMap (Lt.el 39)).length + 1) = Lt.quo 39 x := by
                  unfold Lt.quo
                  rw [show x.flatMap (Lt.el 39) ++ 39 :: r = (x.flatMap (Lt.el 39) ++ [39]) ++ r by simp, List.take_left' (by simp)]
                rw [if_pos trivial]
                show (D.set _).map _ = _
                rw [h4, h2]
                show some (5, x, _) = some (5, x, (Lt.quo 39 x).length)
                simp [Lt.quo]
          · split at h
            · split at h
              · rename_i hk
                cases h
                obtain ⟨c, u, hc, hl, ha⟩ := kw_head _ (by unfold isKeyword at hk; simpa using hk)
                generalize q.takeWhile letter = w at hk hc ha
                subst hc
                refine ⟨⟨38, _, rfl, rfl⟩, fun r hr => ?_⟩
                show one D (38 :: (c :: u ++ r)) = _
                simp only [one]
                rw [if_neg (by decide), if_neg (by decide), if_neg (by decide), if_neg (by decide), if_pos ⟨trivial, by simp [hl]⟩, take_gap letter letter_blank _ r ha hr, if_pos hk]; rfl
              · cases h
            · cases hf : operators.find? fun o => o.isPrefixOf (b :: q) with
              | none => rw [hf] at h; cases h
              | some o =>
                rw [hf] at h
                cases h
                exact okT_op D _ (List.mem_of_find?_eq_some hf)
/-- The texts of tokens, separated by blanks. -/
def joined : List Tok → List UInt8
  | [] => []
  | [x] => tx x.1 x.2.1
  | x :: y :: l => tx x.1 x.2.1 ++ 32 :: joined (y :: l)
theorem lex_step {D : Den} {k : Nat} {t : List UInt8} (h : OkT D k t) (r : List UInt8) (hr : Gap r) (line : Nat) (out : List Tok) : lexW D (tx k t ++ r) line false out = lexW D r line false (out ++ [(k, t, line)]) := by
  obtain ⟨⟨b, q, hb, hf⟩, h2⟩ := h
  have h3 := h2 r hr
  unfold firstOk at hf
  simp at hf
  obtain ⟨⟨⟨f1, f2⟩, f3⟩, f4⟩ := hf
  have h4 : (tx k t ++ r).drop (tx k t).length = r := by simp
  rw [hb, List.cons_append] at h3 h4 ⊢
  rw [lexW_tok D _ line false out f1 f2 f3 f4 h3, h4]
  congr 1
  unfold semi
  cases out.getLast? <;> simp
theorem lex_joined {D : Den} (line : Nat) : ∀ (l : List Tok) (out : List Tok), (∀ x ∈ l, OkT D x.1 x.2.1) → lexW D (joined l) line false out = (0, out ++ l.map fun x => (x.1, x.2.1, line))
  | [], out, _ => by rw [joined, lexW_nil]; simp
  | [x], out, h => by
    have h1 := lex_step (h x (List.mem_cons_self)) [] (.inl rfl) line out
    rw [List.append_nil] at h1
    rw [joined, h1, lexW_nil]; rfl
  | x :: y :: l, out, h => by
    rw [joined, lex_step (h x (List.mem_cons_self)) _ (.inr rfl) line out, lexW_blank D _ line false _ (.inl rfl), lex_joined line (y :: l) _ (fun z hz => h z (List.mem_cons_of_mem _ hz))]
    simp
/-- Every token of a source is read again. -/
theorem lex_ok {D : Den} (A : Again D) : ∀ n (R : List UInt8) (line : Nat) (fresh : Bool) (out : List Tok), R.length ≤ n → (∀ x ∈ out, OkT D x.1 x.2.1) → ∀ x ∈ (lexW D R line fresh out).2, OkT D x.1 x.2.1 := by
  intro n
  induction n with
  | zero =>
    intro R line fresh out hn h x hx
    obtain rfl : R = [] := List.eq_nil_of_length_eq_zero (by omega)
    rw [lexW_nil] at hx; exact h x hx
  | succ n ih =>
    intro R line fresh out hn h x hx
    match R with
    | [] => rw [lexW_nil] at hx; exact h x hx
    | b :: r =>
      rw [List.length_cons] at hn
      by_cases h1 : b = 10
      · subst h1; rw [lexW_line] at hx; exact ih r _ _ _ (by omega) h x hx
      · by_cases h2 : b = 32 ∨ b = 9
        · rw [lexW_blank D r line fresh out h2] at hx; exact ih r _ _ _ (by omega) h x hx
        · by_cases h4 : b = 35
          · subst h4
            rw [lexW_note] at hx
            have := (List.dropWhile_sublist (p := fun c : UInt8 => c != 10) (l := r)).length_le
            exact ih _ _ _ _ (by omega) h x hx
          · have h5 : b ≠ 32 := fun e => h2 (.inl e)
            have h6 : b ≠ 9 := fun e => h2 (.inr e)
            cases ho : one D (b :: r) with
            | none => rw [lexW_bad D r line fresh out h1 h5 h6 h4 ho] at hx; cases hx
            | some y =>
              obtain ⟨k, t, m⟩ := y
              rw [lexW_tok D r line fresh out h1 h5 h6 h4 ho] at hx
              have hm := one_pos ho
              refine ih _ _ _ _ (by rw [List.length_drop, List.length_cons]; omega) ?_ x hx
              intro z hz
              rw [List.mem_append, List.mem_append] at hz
              rcases hz with (hz | hz) | hz
              · exact h z hz
              · unfold semi at hz
                split at hz
                · cases hz
                · split at hz
                  · rw [List.mem_singleton] at hz; subst hz; exact okT_op D [59] (by decide)
                  · cases hz
              · rw [List.mem_singleton] at hz; subst hz; exact one_again A ho
/-- The texts of a source's tokens give the same tokens, each in line 1. -/
theorem lex_again {D : Den} (A : Again D) (S : List UInt8) (h : (joined (lex D S).2).length ≤ 6000) : lex D (joined (lex D S).2) = (0, (lex D S).2.map fun x => (x.1, x.2.1, 1)) := by
  have hall : ∀ x ∈ (lex D S).2, OkT D x.1 x.2.1 := by
    unfold lex
    split
    · intro x hx; cases hx
    · exact lex_ok A S.length S 1 false [] (Nat.le_refl _) (fun x hx => by cases hx)
  have h2 := lex_joined (D := D) 1 (lex D S).2 [] hall
  rw [lex, if_neg (by omega), h2]; rfl
end Go.Proofs.YtbadepiakkhabaaDoor.Tk
