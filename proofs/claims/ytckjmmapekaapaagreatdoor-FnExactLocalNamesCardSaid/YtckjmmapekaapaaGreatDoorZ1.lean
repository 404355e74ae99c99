/- Joined texts: G1, C1, M1, M3. No conditions besides those that each states. -/
import Derived.Lib.Hide
import Derived.Laws.BitsAllLaws
import Derived.Laws.BitsLemmas
import Derived.RowKit
/- Expression trees: their numbers of nodes, depths, sizes, equality. Plain. No conditions. -/
namespace Go.Proofs.YtckjmmapekaapaaGreatDoor.Ex
set_option linter.unusedVariables false

/-- A tree: kind, text, number, line, kids. -/
inductive T where
  | node (k : Int) (t : ByteArray) (n l : Int) (ks : List T) : T
def T.kind : T → Int | .node k _ _ _ _ => k
def T.text : T → ByteArray | .node _ t _ _ _ => t
def T.num : T → Int | .node _ _ n _ _ => n
def T.line : T → Int | .node _ _ _ l _ => l
def T.kids : T → List T | .node _ _ _ _ ks => ks
mutual
/-- The number of nodes. -/
def T.count : T → Nat
  | .node _ _ _ _ ks => 1 + counts ks
def counts : List T → Nat
  | [] => 0
  | x :: r => x.count + counts r
end
mutual
/-- The depth. -/
def T.deep : T → Nat
  | .node _ _ _ _ ks => deeps ks + 1
def deeps : List T → Nat
  | [] => 0
  | x :: r => max x.deep (deeps r)
end
mutual
/-- The bytes and kids of a tree: what the laws bound. -/
def T.bulk : T → Nat
  | .node _ t _ _ ks => t.size + (ks.length + bulks ks)
def bulks : List T → Nat
  | [] => 0
  | x :: r => x.bulk + bulks r
end
mutual
/-- A tree whose numbers are of 64 bits, whose texts and lists are no longer than any in memory. -/
def T.Ok : T → Prop
  | .node k t n l ks => (-9223372036854775808 ≤ k ∧ k ≤ 9223372036854775807) ∧ (-9223372036854775808 ≤ n ∧ n ≤ 9223372036854775807) ∧ (-9223372036854775808 ≤ l ∧ l ≤ 9223372036854775807) ∧ (t.size ≤ 9223372036854775807 ∧ ks.length ≤ 9223372036854775807) ∧ Oks ks
def Oks : List T → Prop
  | [] => True
  | x :: r => x.Ok ∧ Oks r
end
theorem ok_node {x : T} (h : x.Ok) : x.text.size ≤ 9223372036854775807 ∧ x.kids.length ≤ 9223372036854775807 ∧ Oks x.kids := by
  cases x; rw [T.Ok] at h; exact ⟨h.2.2.2.1.1, h.2.2.2.1.2, h.2.2.2.2⟩
theorem count_pos (x : T) : 1 ≤ x.count := by cases x; simp [T.count]
theorem counts_mem : ∀ {l : List T} {x : T}, x ∈ l → x.count ≤ counts l := by
  intro l
  induction l with
  | nil => intro x h; cases h
  | cons y l ih =>
    intro x h
    rw [counts]
    rcases List.mem_cons.1 h with rfl | h
    · omega
    · have := ih h; omega
theorem bulks_mem : ∀ {l : List T} {x : T}, x ∈ l → x.bulk ≤ bulks l := by
  intro l
  induction l with
  | nil => intro x h; cases h
  | cons y l ih =>
    intro x h
    rw [bulks]
    rcases List.mem_cons.1 h with rfl | h
    · omega
    · have := ih h; omega
theorem oks_mem : ∀ {l : List T} {x : T}, Oks l → x ∈ l → x.Ok := by
  intro l
  induction l with
  | nil => intro x _ h; cases h
  | cons y l ih =>
    intro x ho h
    rw [Oks] at ho
    rcases List.mem_cons.1 h with rfl | h
    · exact ho.1
    · exact ih ho.2 h
theorem counts_snoc (l : List T) (x : T) : counts (l ++ [x]) = counts l + x.count := by
  induction l with
  | nil => simp [counts]
  | cons y l ih => rw [List.cons_append, counts, counts, ih]; omega
theorem deeps_snoc (l : List T) (x : T) : deeps (l ++ [x]) = max (deeps l) x.deep := by
  induction l with
  | nil => simp [deeps]
  | cons y l ih => rw [List.cons_append, deeps, deeps, ih]; omega
theorem bulks_snoc (l : List T) (x : T) : bulks (l ++ [x]) = bulks l + x.bulk := by
  induction l with
  | nil => simp [bulks]
  | cons y l ih => rw [List.cons_append, bulks, bulks, ih]; omega
theorem counts_take (l : List T) (k : Nat) (h : k < l.length) : counts (l.take (k + 1)) = counts (l.take k) + l[k].count := by
  rw [List.take_succ_eq_append_getElem h, counts_snoc]
theorem deeps_take (l : List T) (k : Nat) (h : k < l.length) : deeps (l.take (k + 1)) = max (deeps (l.take k)) l[k].deep := by
  rw [List.take_succ_eq_append_getElem h, deeps_snoc]
theorem bulks_take (l : List T) (k : Nat) (h : k < l.length) : bulks (l.take (k + 1)) = bulks (l.take k) + l[k].bulk := by
  rw [List.take_succ_eq_append_getElem h, bulks_snoc]
theorem counts_take_le (l : List T) (k : Nat) : counts (l.take k) ≤ counts l := by
  induction l generalizing k with
  | nil => simp [counts]
  | cons y l ih =>
    cases k with
    | zero => simp [counts]
    | succ k => rw [List.take_succ_cons, counts, counts]; have := ih k; omega
theorem bulks_take_le (l : List T) (k : Nat) : bulks (l.take k) ≤ bulks l := by
  induction l generalizing k with
  | nil => simp [bulks]
  | cons y l ih =>
    cases k with
    | zero => simp [bulks]
    | succ k => rw [List.take_succ_cons, bulks, bulks]; have := ih k; omega
/-- Fewer nodes than bytes and kids. -/
theorem count_bulk : ∀ (n : Nat) (x : T), x.count ≤ n → x.count ≤ x.bulk + 1 := by
  intro n
  induction n with
  | zero => intro x h; have := count_pos x; omega
  | succ n ih =>
    intro x h
    cases x with
    | node k t m l ks =>
      rw [T.count] at h ⊢
      rw [T.bulk]
      have : ∀ l : List T, counts l ≤ n → counts l ≤ l.length + bulks l := by
        intro l
        induction l with
        | nil => intro _; simp [counts]
        | cons y l ih2 =>
          intro h2
          rw [counts] at h2 ⊢
          rw [bulks, List.length_cons]
          have := ih y (by omega)
          have := ih2 (by omega)
          omega
      have := this ks (by omega)
      omega
theorem deep_pos (x : T) : 1 ≤ x.deep := by cases x; simp [T.deep]
theorem deep_count : ∀ (n : Nat) (x : T), x.count ≤ n → x.deep ≤ x.count := by
  intro n
  induction n with
  | zero => intro x h; have := count_pos x; omega
  | succ n ih =>
    intro x h
    cases x with
    | node k t m l ks =>
      rw [T.count] at h ⊢
      rw [T.deep]
      have : ∀ l : List T, counts l ≤ n → deeps l ≤ counts l := by
        intro l
        induction l with
        | nil => intro _; simp [counts, deeps]
        | cons y l ih2 =>
          intro h2
          rw [counts] at h2 ⊢
          rw [deeps]
          have := ih y (by omega)
          have := ih2 (by omega)
          omega
      have := this ks (by omega)
      omega
end Go.Proofs.YtckjmmapekaapaaGreatDoor.Ex
/- Plain facts on sets that are kept in two words of 64 bits: their bits, their elements, and how many there are. No conditions. -/
namespace Go.Proofs.YtckjmmapekaapaaGreatDoor.Cs
open Go.RowKit
set_option linter.unusedVariables false

/-- A word's bit. -/
def bitAt (n : Int) (k : Nat) : Bool := (BitVec.ofInt 64 n).getLsbD k
/-- A word that is in range. -/
def Fits (n : Int) : Prop := -9223372036854775808 ≤ n ∧ n ≤ 9223372036854775807
/-- The word with one bit. -/
def unit (k : Nat) : Int := wrap64 (2 ^ k)

theorem wrap_fits (n : Int) : Fits (IntKind.i64.wrap n) := by rw [IntKind.wrap_i64]; unfold Fits; omega
theorem wrap64_fits (n : Int) : Fits (wrap64 n) := by unfold wrap64 Fits; omega
theorem bits_fits (op : BinOp) (a b : Int) : Fits (bits op .i64 a b) := wrap_fits _

theorem ofInt_wrap (n : Int) : BitVec.ofInt 64 (IntKind.i64.wrap n) = BitVec.ofInt 64 n := by
  rw [IntKind.wrap_i64]
  apply BitVec.eq_of_toNat_eq
  rw [BitVec.toNat_ofInt, BitVec.toNat_ofInt]
  omega
theorem ofInt_toNat (v : BitVec 64) : BitVec.ofInt 64 (v.toNat : Int) = v := by
  rw [BitVec.ofInt_natCast]; simp
theorem bit_word (v : BitVec 64) (k : Nat) : bitAt (IntKind.i64.wrap (v.toNat : Int)) k = v.getLsbD k := by
  unfold bitAt; rw [ofInt_wrap, ofInt_toNat]
theorem bit_and (a b : Int) (k : Nat) : bitAt (bits .and .i64 a b) k = (bitAt a k && bitAt b k) := by
  show bitAt (IntKind.i64.wrap ((BitVec.ofInt 64 a &&& BitVec.ofInt 64 b).toNat : Int)) k = _
  rw [bit_word, BitVec.getLsbD_and]; rfl
theorem bit_or (a b : Int) (k : Nat) : bitAt (bits .or .i64 a b) k = (bitAt a k || bitAt b k) := by
  show bitAt (IntKind.i64.wrap ((BitVec.ofInt 64 a ||| BitVec.ofInt 64 b).toNat : Int)) k = _
  rw [bit_word, BitVec.getLsbD_or]; rfl
theorem bit_andNot (a b : Int) (k : Nat) (hk : k < 64) : bitAt (bits .andNot .i64 a b) k = (bitAt a k && !bitAt b k) := by
  show bitAt (IntKind.i64.wrap ((BitVec.ofInt 64 a &&& ~~~BitVec.ofInt 64 b).toNat : Int)) k = _
  rw [bit_word, BitVec.getLsbD_and, BitVec.getLsbD_not]; simp [hk, bitAt]
theorem bit_not (a : Int) (k : Nat) (hk : k < 64) : bitAt (bits .xor .i64 (-1) a) k = !bitAt a k := by
  show bitAt (IntKind.i64.wrap ((BitVec.ofInt 64 (-1) ^^^ BitVec.ofInt 64 a).toNat : Int)) k = _
  rw [bit_word, BitVec.getLsbD_xor]
  have : (BitVec.ofInt 64 (-1)).getLsbD k = true := by
    have h : BitVec.ofInt 64 (-1) = BitVec.allOnes 64 := by decide
    rw [h, BitVec.getLsbD_allOnes]; simp [hk]
  rw [this]; simp [bitAt]
theorem bit_out (a : Int) (k : Nat) (hk : 64 ≤ k) : bitAt a k = false := BitVec.getLsbD_of_ge _ _ hk

theorem fits_toInt {a : Int} (h : Fits a) : (BitVec.ofInt 64 a).toInt = a := by
  unfold Fits at h
  rw [BitVec.toInt_ofInt]
  show Int.bmod a 18446744073709551616 = a
  rw [Int.bmod_def]
  split <;> omega
theorem word_ext {a b : Int} (ha : Fits a) (hb : Fits b) (h : ∀ k, k < 64 → bitAt a k = bitAt b k) : a = b := by
  rw [← fits_toInt ha, ← fits_toInt hb]
  congr 1
  exact BitVec.eq_of_getLsbD_eq fun k hk => h k hk

theorem unit_fits (k : Nat) : Fits (unit k) := wrap64_fits _
theorem bit_unit (k j : Nat) (hj : j < 64) : bitAt (unit k) j = decide (j = k) := by
  unfold bitAt unit
  have e : wrap64 (2 ^ k) = IntKind.i64.wrap (((2 ^ k : Nat)) : Int) := by rw [IntKind.wrap_i64]; unfold wrap64; simp
  rw [e, ofInt_wrap, BitVec.ofInt_natCast, BitVec.getLsbD_ofNat]
  simp [hj, Nat.testBit_two_pow, eq_comm]
theorem bit_zero (k : Nat) : bitAt 0 k = false := by
  unfold bitAt
  have : BitVec.ofInt 64 0 = 0#64 := by decide
  rw [this]; simp
theorem or_zero {a : Int} (h : Fits a) : bits .or .i64 a 0 = a :=
  word_ext (bits_fits _ _ _) h fun k _ => by rw [bit_or, bit_zero]; simp
theorem and_zero (a : Int) : bits .and .i64 a 0 = 0 :=
  word_ext (bits_fits _ _ _) (by unfold Fits; omega) fun k _ => by rw [bit_and, bit_zero]; simp
theorem test_bit (a : Int) (k : Nat) (hk : k < 64) : (bits .and .i64 a (unit k) != 0) = bitAt a k := by
  cases hb : bitAt a k
  · have : bits .and .i64 a (unit k) = 0 := word_ext (bits_fits _ _ _) (by unfold Fits; omega) fun j hj => by
      rw [bit_and, bit_zero, bit_unit k j hj]
      by_cases e : j = k
      · subst e; simp [hb]
      · simp [e]
    rw [this]; rfl
  · have : bits .and .i64 a (unit k) ≠ 0 := fun e => by
      have h1 := bit_and a (unit k) k
      rw [e, bit_zero, hb, bit_unit k k hk] at h1
      simp at h1
    simpa using this

/-- Is x an element of the set? -/
def mem (l h : Int) (x : Nat) : Bool := if x < 64 then bitAt l x else if x < 128 then bitAt h (x - 64) else false
theorem mem_low {l h : Int} {x : Nat} (hx : x < 64) : mem l h x = bitAt l x := if_pos hx
theorem mem_high {l h : Int} {x : Nat} (h1 : 64 ≤ x) (h2 : x < 128) : mem l h x = bitAt h (x - 64) := by unfold mem; rw [if_neg (by omega), if_pos h2]
theorem mem_out {l h : Int} {x : Nat} (h1 : 128 ≤ x) : mem l h x = false := by unfold mem; rw [if_neg (by omega), if_neg (by omega)]
theorem set_ext {l h l2 h2 : Int} (f1 : Fits l) (f2 : Fits h) (f3 : Fits l2) (f4 : Fits h2) (e : ∀ x, x < 128 → mem l h x = mem l2 h2 x) : l = l2 ∧ h = h2 :=
  ⟨word_ext f1 f3 fun k hk => by have := e k (by omega); rwa [mem_low hk, mem_low hk] at this,
   word_ext f2 f4 fun k hk => by have := e (64 + k) (by omega); rwa [mem_high (by omega) (by omega), mem_high (by omega) (by omega), Nat.add_sub_cancel_left] at this⟩
theorem mem_and (a b c d : Int) (x : Nat) : mem (bits .and .i64 a c) (bits .and .i64 b d) x = (mem a b x && mem c d x) := by
  unfold mem; split
  · exact bit_and _ _ _
  · split
    · exact bit_and _ _ _
    · rfl
theorem mem_or (a b c d : Int) (x : Nat) : mem (bits .or .i64 a c) (bits .or .i64 b d) x = (mem a b x || mem c d x) := by
  unfold mem; split
  · exact bit_or _ _ _
  · split
    · exact bit_or _ _ _
    · rfl
theorem mem_andNot (a b c d : Int) (x : Nat) : mem (bits .andNot .i64 a c) (bits .andNot .i64 b d) x = (mem a b x && !mem c d x) := by
  unfold mem; split
  · exact bit_andNot _ _ _ ‹_›
  · split
    · exact bit_andNot _ _ _ (by omega)
    · rfl
theorem mem_not (a b : Int) (x : Nat) (hx : x < 128) : mem (bits .xor .i64 (-1) a) (bits .xor .i64 (-1) b) x = !mem a b x := by
  unfold mem; split
  · exact bit_not _ _ ‹_›
  · exact bit_not b (x - 64) (by omega)

/-- The elements in ascending order. -/
def text (l h : Int) : List Nat := (List.range 128).filter (mem l h)
/-- The elements below n. -/
def textTo (l h : Int) (n : Nat) : List Nat := (List.range n).filter (mem l h)
theorem textTo_succ (l h : Int) (n : Nat) : textTo l h (n + 1) = textTo l h n ++ if mem l h n then [n] else [] := by
  unfold textTo
  rw [List.range_succ, List.filter_append]
  congr 1
  cases hm : mem l h n <;> simp [hm]
theorem textTo_len (l h : Int) (n : Nat) : (textTo l h n).length ≤ n := by
  have := List.length_filter_le (mem l h) (List.range n)
  simpa [textTo] using this
theorem mem_text (l h : Int) (x : Nat) : x ∈ text l h ↔ mem l h x = true := by
  unfold text
  rw [List.mem_filter, List.mem_range]
  constructor
  · exact fun h => h.2
  · intro hm
    refine ⟨?_, hm⟩
    rcases Nat.lt_or_ge x 128 with h | h
    · exact h
    · rw [mem_out h] at hm; cases hm

/-- One element more. -/
def addL (l : Int) (x : Nat) : Int := if x < 64 then bits .or .i64 l (unit x) else l
def addH (h : Int) (x : Nat) : Int := if x < 64 then h else bits .or .i64 h (unit (x - 64))
theorem addL_fits {l : Int} (f : Fits l) (x : Nat) : Fits (addL l x) := by unfold addL; split; exact bits_fits _ _ _; exact f
theorem addH_fits {h : Int} (f : Fits h) (x : Nat) : Fits (addH h x) := by unfold addH; split; exact f; exact bits_fits _ _ _
theorem mem_add (l h : Int) (x y : Nat) (hx : x < 128) (hy : y < 128) : mem (addL l x) (addH h x) y = (mem l h y || decide (y = x)) := by
  by_cases h1 : y < 64
  · rw [mem_low h1, mem_low h1]
    unfold addL
    by_cases h2 : x < 64
    · rw [if_pos h2, bit_or, bit_unit _ _ h1]
    · rw [if_neg h2]; simp; intro e; omega
  · rw [mem_high (by omega) hy, mem_high (by omega) hy]
    unfold addH
    by_cases h2 : x < 64
    · rw [if_pos h2]; simp; intro e; omega
    · rw [if_neg h2, bit_or, bit_unit _ _ (by omega)]
      congr 1
      simp; omega
/-- All elements of a list. -/
def allL (xs : List Nat) : Int := xs.foldl addL 0
def allH (xs : List Nat) : Int := xs.foldl addH 0
theorem all_snoc (xs : List Nat) (x : Nat) : allL (xs ++ [x]) = addL (allL xs) x ∧ allH (xs ++ [x]) = addH (allH xs) x := by
  unfold allL allH; simp
theorem fits_zero : Fits 0 := by unfold Fits; omega
theorem foldL_fits (xs : List Nat) : ∀ l, Fits l → Fits (xs.foldl addL l) := by
  induction xs with
  | nil => exact fun l h => h
  | cons x xs ih => exact fun l h => ih _ (addL_fits h x)
theorem foldH_fits (xs : List Nat) : ∀ l, Fits l → Fits (xs.foldl addH l) := by
  induction xs with
  | nil => exact fun l h => h
  | cons x xs ih => exact fun l h => ih _ (addH_fits h x)
theorem allL_fits (xs : List Nat) : Fits (allL xs) := foldL_fits xs 0 fits_zero
theorem allH_fits (xs : List Nat) : Fits (allH xs) := foldH_fits xs 0 fits_zero
theorem mem_fold (xs : List Nat) (hx : ∀ x ∈ xs, x < 128) (y : Nat) (hy : y < 128) : ∀ l h, mem (xs.foldl addL l) (xs.foldl addH h) y = (mem l h y || xs.contains y) := by
  induction xs with
  | nil => intro l h; simp
  | cons x xs ih =>
    intro l h
    rw [List.foldl_cons, List.foldl_cons, ih (fun z hz => hx z (List.mem_cons_of_mem _ hz)), mem_add _ _ _ _ (hx x (List.mem_cons_self)) hy, List.contains_cons, Bool.or_assoc]
    rfl
theorem mem_zero (y : Nat) : mem 0 0 y = false := by
  unfold mem; split
  · exact bit_zero _
  · split
    · exact bit_zero _
    · rfl
theorem mem_all (xs : List Nat) (hx : ∀ x ∈ xs, x < 128) (y : Nat) (hy : y < 128) : mem (allL xs) (allH xs) y = xs.contains y := by
  unfold allL allH
  rw [mem_fold xs hx y hy, mem_zero, Bool.false_or]
theorem text_below (l h : Int) : ∀ x ∈ text l h, x < 128 := fun x hx => by
  unfold text at hx; rw [List.mem_filter, List.mem_range] at hx; exact hx.1
/-- A set is its elements. -/
theorem all_text {l h : Int} (f1 : Fits l) (f2 : Fits h) : allL (text l h) = l ∧ allH (text l h) = h :=
  set_ext (allL_fits _) (allH_fits _) f1 f2 fun x hx => by
    rw [mem_all _ (text_below l h) x hx, Bool.eq_iff_iff, List.contains_iff_mem, mem_text]

theorem and_not (a b c d : Int) : bits .andNot .i64 a c = bits .and .i64 a (bits .xor .i64 (-1) c) :=
  word_ext (bits_fits _ _ _) (bits_fits _ _ _) fun k hk => by rw [bit_andNot _ _ _ hk, bit_and, bit_not _ _ hk]
theorem de_morgan (a c : Int) : bits .xor .i64 (-1) (bits .or .i64 a c) = bits .and .i64 (bits .xor .i64 (-1) a) (bits .xor .i64 (-1) c) :=
  word_ext (bits_fits _ _ _) (bits_fits _ _ _) fun k hk => by rw [bit_not _ _ hk, bit_or, bit_and, bit_not _ _ hk, bit_not _ _ hk]; cases bitAt a k <;> rfl

/-- Sizes of a union and an intersection. -/
theorem count_or_and (p q : Nat → Bool) (xs : List Nat) : (xs.filter fun x => p x || q x).length + (xs.filter fun x => p x && q x).length = (xs.filter p).length + (xs.filter q).length := by
  induction xs with
  | nil => rfl
  | cons x xs ih =>
    simp only [List.filter_cons]
    cases p x <;> cases q x <;> simp <;> omega
theorem text_sizes (a b c d : Int) : (text (bits .or .i64 a c) (bits .or .i64 b d)).length + (text (bits .and .i64 a c) (bits .and .i64 b d)).length = (text a b).length + (text c d).length := by
  unfold text
  rw [← count_or_and (mem a b) (mem c d)]
  congr 2
  · exact congrArg (fun f => List.filter f (List.range 128)) (funext fun x => mem_or a b c d x)
  · exact congrArg (fun f => List.filter f (List.range 128)) (funext fun x => mem_and a b c d x)
end Go.Proofs.YtckjmmapekaapaaGreatDoor.Cs
/- Plain facts on decimal digits, used by the proofs about FormatInt, ParseNumber and ParseInt. No conditions. -/
namespace Go.Proofs.YtckjmmapekaapaaGreatDoor.Dec

/-- The last digit's letter. -/
def dg (n : Nat) : UInt8 := UInt8.ofNat (48 + n % 10)

/-- The digits of a number, none for zero. -/
def digs (n : Nat) : List UInt8 := if n = 0 then [] else digs (n / 10) ++ [dg n]
decreasing_by omega

theorem digs_zero : digs 0 = [] := by unfold digs; rfl
theorem digs_pos {n : Nat} (h : 0 < n) : digs n = digs (n / 10) ++ [dg n] := by
  rw [digs.eq_1 n, if_neg (by omega)]

/-- The decimal form. -/
def fmt (n : Int) : List UInt8 := if n = 0 then [48] else if n < 0 then 45 :: digs n.natAbs else digs n.natAbs

theorem digs_len (n : Nat) : (digs n).length ≤ n := by
  induction n using Nat.strongRecOn with
  | _ n ih =>
    by_cases h : n = 0
    · subst h; rw [digs_zero]; simp
    · rw [digs_pos (by omega)]
      have := ih (n / 10) (by omega)
      simp; omega

theorem digs_lt (k : Nat) : ∀ n, n < 10 ^ k → (digs n).length ≤ k := by
  induction k with
  | zero => intro n h; have : n = 0 := by simpa using h
            subst this; rw [digs_zero]; simp
  | succ k ih =>
    intro n h
    by_cases h0 : n = 0
    · subst h0; rw [digs_zero]; simp
    · rw [digs_pos (by omega)]
      have := ih (n / 10) (by rw [Nat.pow_succ] at h; omega)
      simp; omega

theorem dg_toNat (n : Nat) : (dg n).toNat = 48 + n % 10 := by
  unfold dg; rw [UInt8.toNat_ofNat']; omega

theorem dg_byte (x : Int) (h0 : 0 ≤ x) : UInt8.ofNat (48 + x % 10).toNat = dg x.toNat := by
  unfold dg; congr 1; omega

/-- The digits of a number, one at least. -/
def fmtN (n : Nat) : List UInt8 := if n = 0 then [48] else digs n

theorem fmt_nn (n : Int) (h : 0 ≤ n) : fmt n = fmtN n.toNat := by
  unfold fmt fmtN
  by_cases h0 : n = 0
  · subst h0; rfl
  · rw [if_neg h0, if_neg (by omega), if_neg (by omega), show n.natAbs = n.toNat by omega]
theorem fmt_neg (n : Int) (h : n < 0) : fmt n = 45 :: fmtN (-n).toNat := by
  unfold fmt fmtN
  rw [if_neg (by omega), if_pos h, if_neg (by omega), show n.natAbs = (-n).toNat by omega]

/-- What is known at a round's head: n is the number, m what is left, l the digits that are written. -/
def Left (n m : Nat) (l : List UInt8) : Prop := (l = [] ∧ m = n) ∨ (0 < m ∧ digs n = digs m ++ l ∧ m * 10 ^ l.length ≤ n)

theorem left_start (n : Nat) : Left n n [] := .inl ⟨rfl, rfl⟩
theorem left_end {n m : Nat} {l : List UInt8} (h : Left n m l) (hm : m / 10 = 0) : fmtN n = dg m :: l := by
  rcases h with ⟨rfl, rfl⟩ | ⟨h0, h1, _⟩
  · unfold fmtN
    by_cases h0 : m = 0
    · subst h0; rfl
    · rw [if_neg h0, digs_pos (by omega), hm, digs_zero]; rfl
  · unfold fmtN
    rw [digs_pos h0, hm, digs_zero] at h1
    rw [if_neg (by intro e; subst e; rw [digs_zero] at h1; simp at h1), h1]; rfl
theorem left_next {n m : Nat} {l : List UInt8} (h : Left n m l) (hm : 0 < m / 10) : Left n (m / 10) (dg m :: l) := by
  refine .inr ⟨hm, ?_⟩
  rcases h with ⟨rfl, rfl⟩ | ⟨h0, h1, h2⟩
  · exact ⟨digs_pos (by omega), by simp; omega⟩
  · refine ⟨by rw [h1, digs_pos h0]; simp, Nat.le_trans ?_ h2⟩
    rw [List.length_cons, Nat.pow_succ, Nat.mul_comm (10 ^ l.length) 10, ← Nat.mul_assoc]
    exact Nat.mul_le_mul_right _ (by omega)
theorem left_short {n m : Nat} {l : List UInt8} (hn : n ≤ 9223372036854775808) (h : Left n m l) : l.length < 19 := by
  rcases h with ⟨rfl, rfl⟩ | ⟨h0, _, h2⟩
  · simp
  · rcases Nat.lt_or_ge l.length 19 with h | h
    · exact h
    · have h3 : 10 ^ 19 ≤ 10 ^ l.length := Nat.pow_le_pow_right (by omega) h
      have h4 : 1 * 10 ^ l.length ≤ m * 10 ^ l.length := Nat.mul_le_mul_right _ h0
      have h5 : (10 : Nat) ^ 19 = 10000000000000000000 := by rfl
      omega

end Go.Proofs.YtckjmmapekaapaaGreatDoor.Dec
/- Plain facts on splitting a string at a byte. No conditions. -/
namespace Go.Proofs.YtckjmmapekaapaaGreatDoor.Cut

/-- What is split off among the first k letters, and where the next part begins. -/
def to (s : ByteArray) (b : Int) : Nat → List ByteArray × Nat
  | 0 => ([], 0)
  | k + 1 => if h : k < s.size then (if (s[k].toNat : Int) = b then ((to s b k).1 ++ [s.extract (to s b k).2 k], k + 1) else to s b k) else to s b k

/-- All parts. -/
def all (s : ByteArray) (b : Int) : List ByteArray := (to s b s.size).1 ++ [s.extract (to s b s.size).2 s.size]

theorem to_hit {s : ByteArray} {b : Int} {k : Nat} (h : k < s.size) (e : (s[k].toNat : Int) = b) : to s b (k + 1) = ((to s b k).1 ++ [s.extract (to s b k).2 k], k + 1) := by
  show (if h : k < s.size then _ else _) = _
  rw [dif_pos h, if_pos e]
theorem to_miss {s : ByteArray} {b : Int} {k : Nat} (h : k < s.size) (e : ¬ (s[k].toNat : Int) = b) : to s b (k + 1) = to s b k := by
  show (if h : k < s.size then _ else _) = _
  rw [dif_pos h, if_neg e]

theorem to_le (s : ByteArray) (b : Int) (k : Nat) : (to s b k).1.length ≤ k ∧ (to s b k).2 ≤ k := by
  induction k with
  | zero => exact ⟨Nat.le_refl _, Nat.le_refl _⟩
  | succ k ih =>
    by_cases h : k < s.size
    · by_cases e : (s[k].toNat : Int) = b
      · rw [to_hit h e]; simp; exact ih.1
      · rw [to_miss h e]; omega
    · have e : to s b (k + 1) = to s b k := by
        show (if h : k < s.size then _ else _) = _
        rw [dif_neg h]
      rw [e]; omega

theorem all_len (s : ByteArray) (b : Int) : (all s b).length ≤ s.size + 1 := by
  unfold all; have := (to_le s b s.size).1; simp; omega

theorem ext_le (s : ByteArray) (a c : Nat) : (s.extract a c).size ≤ s.size := by rw [ByteArray.size_extract]; omega
theorem to_mem (s : ByteArray) (b : Int) (k : Nat) : ∀ x ∈ (to s b k).1, x.size ≤ s.size := by
  induction k with
  | zero => intro x hx; exact absurd hx (by simp [to])
  | succ k ih =>
    by_cases h : k < s.size
    · by_cases e : (s[k].toNat : Int) = b
      · rw [to_hit h e]
        intro x hx
        rcases List.mem_append.1 hx with h1 | h1
        · exact ih x h1
        · rw [List.mem_singleton] at h1; subst h1; exact ext_le _ _ _
      · rw [to_miss h e]; exact ih
    · have e : to s b (k + 1) = to s b k := by
        show (if h : k < s.size then _ else _) = _
        rw [dif_neg h]
      rw [e]; exact ih
theorem all_mem (s : ByteArray) (b : Int) : ∀ x ∈ all s b, x.size ≤ s.size := by
  intro x hx
  rcases List.mem_append.1 hx with h1 | h1
  · exact to_mem s b _ x h1
  · rw [List.mem_singleton] at h1; subst h1; exact ext_le _ _ _

/-- What a loop over 0 .. size has gathered at its k-th round's head. -/
def At (s : ByteArray) (b : Int) (k : Nat) (l : List ByteArray) (f : Nat) : Prop :=
  (k ≤ s.size ∧ l = (to s b k).1 ∧ f = (to s b k).2) ∨ (k = s.size + 1 ∧ l = all s b)

theorem at_start (s : ByteArray) (b : Int) : At s b 0 [] 0 := .inl ⟨Nat.zero_le _, rfl, rfl⟩
theorem at_hit {s : ByteArray} {b : Int} {k : Nat} {l : List ByteArray} {f : Nat} (h : At s b k l f) (hk : k < s.size) (e : (s[k].toNat : Int) = b) : At s b (k + 1) (l ++ [s.extract f k]) (k + 1) := by
  rcases h with ⟨_, rfl, rfl⟩ | ⟨h1, _⟩
  · exact .inl ⟨hk, by rw [to_hit hk e], by rw [to_hit hk e]⟩
  · omega
theorem at_miss {s : ByteArray} {b : Int} {k : Nat} {l : List ByteArray} {f : Nat} (h : At s b k l f) (hk : k < s.size) (e : ¬ (s[k].toNat : Int) = b) : At s b (k + 1) l f := by
  rcases h with ⟨_, rfl, rfl⟩ | ⟨h1, _⟩
  · exact .inl ⟨hk, by rw [to_miss hk e], by rw [to_miss hk e]⟩
  · omega
theorem at_last {s : ByteArray} {b : Int} {l : List ByteArray} {f g : Nat} (h : At s b s.size l f) : At s b (s.size + 1) (l ++ [s.extract f s.size]) g := by
  rcases h with ⟨_, rfl, rfl⟩ | ⟨h1, _⟩
  · exact .inr ⟨rfl, rfl⟩
  · omega
theorem at_end {s : ByteArray} {b : Int} {k : Nat} {l : List ByteArray} {f : Nat} (h : At s b k l f) (hk : s.size < k) : l = all s b := by
  rcases h with ⟨h1, _⟩ | ⟨_, h2⟩
  · omega
  · exact h2
theorem at_bound {s : ByteArray} {b : Int} {k : Nat} {l : List ByteArray} {f : Nat} (h : At s b k l f) (hk : k ≤ s.size) : l.length ≤ s.size ∧ f ≤ k := by
  rcases h with ⟨_, rfl, rfl⟩ | ⟨h1, _⟩
  · have := to_le s b k; omega
  · omega
end Go.Proofs.YtckjmmapekaapaaGreatDoor.Cut
