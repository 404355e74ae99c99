/- Plain facts on sets that are kept in two words of 64 bits: their bits, their elements, and how many there are. No conditions. -/
import Derived.Laws.BitsAllLaws
import Derived.Laws.BitsLemmas
import Derived.RowKit
import Derived.Lib.Hide
namespace Go.Proofs.YtlbidfegcfcaiaaDoor.Cs
open Go.RowKit
set_option linter.unusedVariables false

/-- A word's bit. -/
def bitAt (n : Int) (k : Nat) : Bool := (BitVec.ofInt 64 n).getLsbD k
/-- A word that is in range. -/
def Fits (n : Int) : Prop := -9223372036854775808 ≤ n ∧ n ≤ 9223372036854775807
/-- The word with one bit. -/
def unit (k : Nat) : Int := wrap64 (2 ^ k)

theorem wrap_fits (n : Int) : Fits (IntKind.i64.wrap n) := by rw [IntKind.wrap_i64]; unfold Fits; omega
theorem wrap64_fits (n : Int) : Fits (wrap64 n) := by unfold wrap64 Fits; omega
theorem bits_fits (op : BinOp) (a b : Int) : Fits (bits op .i64 a b) := wrap_fits _

theorem ofInt_wrap (n : Int) : BitVec.ofInt 64 (IntKind.i64.wrap n) = BitVec.ofInt 64 n := by
  rw [IntKind.wrap_i64]
  apply BitVec.eq_of_toNat_eq
  rw [BitVec.toNat_ofInt, BitVec.toNat_ofInt]
  omega
theorem ofInt_toNat (v : BitVec 64) : BitVec.ofInt 64 (v.toNat : Int) = v := by
  rw [BitVec.ofInt_natCast]; simp
theorem bit_word (v : BitVec 64) (k : Nat) : bitAt (IntKind.i64.wrap (v.toNat : Int)) k = v.getLsbD k := by
  unfold bitAt; rw [ofInt_wrap, ofInt_toNat]
theorem bit_and (a b : Int) (k : Nat) : bitAt (bits .and .i64 a b) k = (bitAt a k && bitAt b k) := by
  show bitAt (IntKind.i64.wrap ((BitVec.ofInt 64 a &&& BitVec.ofInt 64 b).toNat : Int)) k = _
  rw [bit_word, BitVec.getLsbD_and]; rfl
theorem bit_or (a b : Int) (k : Nat) : bitAt (bits .or .i64 a b) k = (bitAt a k || bitAt b k) := by
  show bitAt (IntKind.i64.wrap ((BitVec.ofInt 64 a ||| BitVec.ofInt 64 b).toNat : Int)) k = _
  rw [bit_word, BitVec.getLsbD_or]; rfl
theorem bit_andNot (a b : Int) (k : Nat) (hk : k < 64) : bitAt (bits .andNot .i64 a b) k = (bitAt a k && !bitAt b k) := by
  show bitAt (IntKind.i64.wrap ((BitVec.ofInt 64 a &&& ~~~BitVec.ofInt 64 b).toNat : Int)) k = _
  rw [bit_word, BitVec.getLsbD_and, BitVec.getLsbD_not]; simp [hk, bitAt]
theorem bit_not (a : Int) (k : Nat) (hk : k < 64) : bitAt (bits .xor .i64 (-1) a) k = !bitAt a k := by
  show bitAt (IntKind.i64.wrap ((BitVec.ofInt 64 (-1) ^^^ BitVec.ofInt 64 a).toNat : Int)) k = _
  rw [bit_word, BitVec.getLsbD_xor]
  have : (BitVec.ofInt 64 (-1)).getLsbD k = true := by
    have h : BitVec.ofInt 64 (-1) = BitVec.allOnes 64 := by decide
    rw [h, BitVec.getLsbD_allOnes]; simp [hk]
  rw [this]; simp [bitAt]
theorem bit_out (a : Int) (k : Nat) (hk : 64 ≤ k) : bitAt a k = false := BitVec.getLsbD_of_ge _ _ hk

theorem fits_toInt {a : Int} (h : Fits a) : (BitVec.ofInt 64 a).toInt = a := by
  unfold Fits at h
  rw [BitVec.toInt_ofInt]
  show Int.bmod a 18446744073709551616 = a
  rw [Int.bmod_def]
  split <;> omega
theorem word_ext {a b : Int} (ha : Fits a) (hb : Fits b) (h : ∀ k, k < 64 → bitAt a k = bitAt b k) : a = b := by
  rw [← fits_toInt ha, ← fits_toInt hb]
  congr 1
  exact BitVec.eq_of_getLsbD_eq fun k hk => h k hk

theorem unit_fits (k : Nat) : Fits (unit k) := wrap64_fits _
theorem bit_unit (k j : Nat) (hj : j < 64) : bitAt (unit k) j = decide (j = k) := by
  unfold bitAt unit
  have e : wrap64 (2 ^ k) = IntKind.i64.wrap (((2 ^ k : Nat)) : Int) := by rw [IntKind.wrap_i64]; unfold wrap64; simp
  rw [e, ofInt_wrap, BitVec.ofInt_natCast, BitVec.getLsbD_ofNat]
  simp [hj, Nat.testBit_two_pow, eq_comm]
theorem bit_zero (k : Nat) : bitAt 0 k = false := by
  unfold bitAt
  have : BitVec.ofInt 64 0 = 0#64 := by decide
  rw [this]; simp
theorem or_zero {a : Int} (h : Fits a) : bits .or .i64 a 0 = a :=
  word_ext (bits_fits _ _ _) h fun k _ => by rw [bit_or, bit_zero]; simp
theorem and_zero (a : Int) : bits .and .i64 a 0 = 0 :=
  word_ext (bits_fits _ _ _) (by unfold Fits; omega) fun k _ => by rw [bit_and, bit_zero]; simp
theorem test_bit (a : Int) (k : Nat) (hk : k < 64) : (bits .and .i64 a (unit k) != 0) = bitAt a k := by
  cases hb : bitAt a k
  · have : bits .and .i64 a (unit k) = 0 := word_ext (bits_fits _ _ _) (by unfold Fits; omega) fun j hj => by
      rw [bit_and, bit_zero, bit_unit k j hj]
      by_cases e : j = k
      · subst e; simp [hb]
      · simp [e]
    rw [this]; rfl
  · have : bits .and .i64 a (unit k) ≠ 0 := fun e => by
      have h1 := bit_and a (unit k) k
      rw [e, bit_zero, hb, bit_unit k k hk] at h1
      simp at h1
    simpa using this

/-- Is x an element of the set? -/
def mem (l h : Int) (x : Nat) : Bool := if x < 64 then bitAt l x else if x < 128 then bitAt h (x - 64) else false
theorem mem_low {l h : Int} {x : Nat} (hx : x < 64) : mem l h x = bitAt l x := if_pos hx
theorem mem_high {l h : Int} {x : Nat} (h1 : 64 ≤ x) (h2 : x < 128) : mem l h x = bitAt h (x - 64) := by unfold mem; rw [if_neg (by omega), if_pos h2]
theorem mem_out {l h : Int} {x : Nat} (h1 : 128 ≤ x) : mem l h x = false := by unfold mem; rw [if_neg (by omega), if_neg (by omega)]
theorem set_ext {l h l2 h2 : Int} (f1 : Fits l) (f2 : Fits h) (f3 : Fits l2) (f4 : Fits h2) (e : ∀ x, x < 128 → mem l h x = mem l2 h2 x) : l = l2 ∧ h = h2 :=
  ⟨word_ext f1 f3 fun k hk => by have := e k (by omega); rwa [mem_low hk, mem_low hk] at this,
   word_ext f2 f4 fun k hk => by have := e (64 + k) (by omega); rwa [mem_high (by omega) (by omega), mem_high (by omega) (by omega), Nat.add_sub_cancel_left] at this⟩
theorem mem_and (a b c d : Int) (x : Nat) : mem (bits .and .i64 a c) (bits .and .i64 b d) x = (mem a b x && mem c d x) := by
  unfold mem; split
  · exact bit_and _ _ _
  · split
    · exact bit_and _ _ _
    · rfl
theorem mem_or (a b c d : Int) (x : Nat) : mem (bits .or .i64 a c) (bits .or .i64 b d) x = (mem a b x || mem c d x) := by
  unfold mem; split
  · exact bit_or _ _ _
  · split
    · exact bit_or _ _ _
    · rfl
theorem mem_andNot (a b c d : Int) (x : Nat) : mem (bits .andNot .i64 a c) (bits .andNot .i64 b d) x = (mem a b x && !mem c d x) := by
  unfold mem; split
  · exact bit_andNot _ _ _ ‹_›
  · split
    · exact bit_andNot _ _ _ (by omega)
    · rfl
theorem mem_not (a b : Int) (x : Nat) (hx : x < 128) : mem (bits .xor .i64 (-1) a) (bits .xor .i64 (-1) b) x = !mem a b x := by
  unfold mem; split
  · exact bit_not _ _ ‹_›
  · exact bit_not b (x - 64) (by omega)

/-- The elements in ascending order. -/
def text (l h : Int) : List Nat := (List.range 128).filter (mem l h)
/-- The elements below n. -/
def textTo (l h : Int) (n : Nat) : List Nat := (List.range n).filter (mem l h)
theorem textTo_succ (l h : Int) (n : Nat) : textTo l h (n + 1) = textTo l h n ++ if mem l h n then [n] else [] := by
  unfold textTo
  rw [List.range_succ, List.filter_append]
  congr 1
  cases hm : mem l h n <;> simp [hm]
theorem textTo_len (l h : Int) (n : Nat) : (textTo l h n).length ≤ n := by
  have := List.length_filter_le (mem l h) (List.range n)
  simpa [textTo] using this
theorem mem_text (l h : Int) (x : Nat) : x ∈ text l h ↔ mem l h x = true := by
  unfold text
  rw [List.mem_filter, List.mem_range]
  constructor
  · exact fun h => h.2
  · intro hm
    refine ⟨?_, hm⟩
    rcases Nat.lt_or_ge x 128 with h | h
    · exact h
    · rw [mem_out h] at hm; cases hm

/-- One element more. -/
def addL (l : Int) (x : Nat) : Int := if x < 64 then bits .or .i64 l (unit x) else l
def addH (h : Int) (x : Nat) : Int := if x < 64 then h else bits .or .i64 h (unit (x - 64))
theorem addL_fits {l : Int} (f : Fits l) (x : Nat) : Fits (addL l x) := by unfold addL; split; exact bits_fits _ _ _; exact f
theorem addH_fits {h : Int} (f : Fits h) (x : Nat) : Fits (addH h x) := by unfold addH; split; exact f; exact bits_fits _ _ _
theorem mem_add (l h : Int) (x y : Nat) (hx : x < 128) (hy : y < 128) : mem (addL l x) (addH h x) y = (mem l h y || decide (y = x)) := by
  by_cases h1 : y < 64
  · rw [mem_low h1, mem_low h1]
    unfold addL
    by_cases h2 : x < 64
    · rw [if_pos h2, bit_or, bit_unit _ _ h1]
    · rw [if_neg h2]; simp; intro e; omega
  · rw [mem_high (by omega) hy, mem_high (by omega) hy]
    unfold addH
    by_cases h2 : x < 64
    · rw [if_pos h2]; simp; intro e; omega
    · rw [if_neg h2, bit_or, bit_unit _ _ (by omega)]
      congr 1
      simp; omega
/-- All elements of a list. -/
def allL (xs : List Nat) : Int := xs.foldl addL 0
def allH (xs : List Nat) : Int := xs.foldl addH 0
theorem all_snoc (xs : List Nat) (x : Nat) : allL (xs ++ [x]) = addL (allL xs) x ∧ allH (xs ++ [x]) = addH (allH xs) x := by
  unfold allL allH; simp
theorem fits_zero : Fits 0 := by unfold Fits; omega
theorem foldL_fits (xs : List Nat) : ∀ l, Fits l → Fits (xs.foldl addL l) := by
  induction xs with
  | nil => exact fun l h => h
  | cons x xs ih => exact fun l h => ih _ (addL_fits h x)
theorem foldH_fits (xs : List Nat) : ∀ l, Fits l → Fits (xs.foldl addH l) := by
  induction xs with
  | nil => exact fun l h => h
  | cons x xs ih => exact fun l h => ih _ (addH_fits h x)
theorem allL_fits (xs : List Nat) : Fits (allL xs) := foldL_fits xs 0 fits_zero
theorem allH_fits (xs : List Nat) : Fits (allH xs) := foldH_fits xs 0 fits_zero
theorem mem_fold (xs : List Nat) (hx : ∀ x ∈ xs, x < 128) (y : Nat) (hy : y < 128) : ∀ l h, mem (xs.foldl addL l) (xs.foldl addH h) y = (mem l h y || xs.contains y) := by
  induction xs with
  | nil => intro l h; simp
  | cons x xs ih =>
    intro l h
    rw [List.foldl_cons, List.foldl_cons, ih (fun z hz => hx z (List.mem_cons_of_mem _ hz)), mem_add _ _ _ _ (hx x (List.mem_cons_self)) hy, List.contains_cons, Bool.or_assoc]
    rfl
theorem mem_zero (y : Nat) : mem 0 0 y = false := by
  unfold mem; split
  · exact bit_zero _
  · split
    · exact bit_zero _
    · rfl
theorem mem_all (xs : List Nat) (hx : ∀ x ∈ xs, x < 128) (y : Nat) (hy : y < 128) : mem (allL xs) (allH xs) y = xs.contains y := by
  unfold allL allH
  rw [mem_fold xs hx y hy, mem_zero, Bool.false_or]
theorem text_below (l h : Int) : ∀ x ∈ text l h, x < 128 := fun x hx => by
  unfold text at hx; rw [List.mem_filter, List.mem_range] at hx; exact hx.1
/-- A set is its elements. -/
theorem all_text {l h : Int} (f1 : Fits l) (f2 : Fits h) : allL (text l h) = l ∧ allH (text l h) = h :=
  set_ext (allL_fits _) (allH_fits _) f1 f2 fun x hx => by
    rw [mem_all _ (text_below l h) x hx, Bool.eq_iff_iff, List.contains_iff_mem, mem_text]

theorem and_not (a b c d : Int) : bits .andNot .i64 a c = bits .and .i64 a (bits .xor .i64 (-1) c) :=
  word_ext (bits_fits _ _ _) (bits_fits _ _ _) fun k hk => by rw [bit_andNot _ _ _ hk, bit_and, bit_not _ _ hk]
theorem de_morgan (a c : Int) : bits .xor .i64 (-1) (bits .or .i64 a c) = bits .and .i64 (bits .xor .i64 (-1) a) (bits .xor .i64 (-1) c) :=
  word_ext (bits_fits _ _ _) (bits_fits _ _ _) fun k hk => by rw [bit_not _ _ hk, bit_or, bit_and, bit_not _ _ hk, bit_not _ _ hk]; cases bitAt a k <;> rfl

/-- Sizes of a union and an intersection. -/
theorem count_or_and (p q : Nat → Bool) (xs : List Nat) : (xs.filter fun x => p x || q x).length + (xs.filter fun x => p x && q x).length = (xs.filter p).length + (xs.filter q).length := by
  induction xs with
  | nil => rfl
  | cons x xs ih =>
    simp only [List.filter_cons]
    cases p x <;> cases q x <;> simp <;> omega
theorem text_sizes (a b c d : Int) : (text (bits .or .i64 a c) (bits .or .i64 b d)).length + (text (bits .and .i64 a c) (bits .and .i64 b d)).length = (text a b).length + (text c d).length := by
  unfold text
  rw [← count_or_and (mem a b) (mem c d)]
  congr 2
  · exact congrArg (fun f => List.filter f (List.range 128)) (funext fun x => mem_or a b c d x)
  · exact congrArg (fun f => List.filter f (List.range 128)) (funext fun x => mem_and a b c d x)
end Go.Proofs.YtlbidfegcfcaiaaDoor.Cs
