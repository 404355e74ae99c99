/- Joined texts: M2, K1, C1. No conditions besides those that each states. -/
import Derived.Laws.BitsAllLaws
import Derived.Laws.BitsLemmas
import Derived.RowKit
import Derived.Lib.Hide
import Derived.Test.YtbadepiakkhabaaDoorZ1
/- Plain facts on reading decimal forms: which letters are the form of their number. No conditions. -/
namespace Go.Proofs.YtbadepiakkhabaaDoor.Dec

theorem snocRec {P : List UInt8 → Prop} (h0 : P []) (h1 : ∀ l b, P l → P (l ++ [b])) (l : List UInt8) : P l := by
  have h : ∀ r : List UInt8, P r.reverse := by
    intro r
    induction r with
    | nil => exact h0
    | cons b r ih => rw [List.reverse_cons]; exact h1 _ _ ih
  have := h l.reverse
  rwa [List.reverse_reverse] at this

def isDig (b : UInt8) : Bool := decide (48 ≤ b.toNat) && decide (b.toNat ≤ 57)

/-- The number that digits denote. -/
def val (l : List UInt8) : Nat := l.foldl (fun a b => 10 * a + (b.toNat - 48)) 0

theorem val_nil : val [] = 0 := rfl
theorem val_snoc (l : List UInt8) (b : UInt8) : val (l ++ [b]) = 10 * val l + (b.toNat - 48) := by
  unfold val; rw [List.foldl_append]; rfl

theorem isDig_le {b : UInt8} (h : isDig b = true) : 48 ≤ b.toNat ∧ b.toNat ≤ 57 := by
  simpa [isDig] using h

theorem val_lt (l : List UInt8) (h : l.all isDig = true) : val l < 10 ^ l.length := by
  induction l using snocRec with
  | h0 => simp [val_nil]
  | h1 l b ih =>
    rw [List.all_append] at h
    simp at h
    have h1 := ih (by simpa using h.1)
    have h2 := isDig_le h.2
    rw [val_snoc, List.length_append, List.length_singleton, Nat.pow_succ]
    omega

theorem dg_dig (b : UInt8) (h : isDig b = true) (n : Nat) : dg (10 * n + (b.toNat - 48)) = b := by
  have h2 := isDig_le h
  apply UInt8.toNat_inj.1
  rw [dg_toNat]; omega

/-- Digits that do not begin with 0 are the form of their number. -/
theorem digs_val (c : UInt8) (hc : c.toNat ≠ 48) (l : List UInt8) : (c :: l).all isDig = true → 0 < val (c :: l) ∧ digs (val (c :: l)) = c :: l := by
  induction l using snocRec with
  | h0 =>
    intro h
    simp at h
    have h2 := isDig_le h
    have e : val [c] = c.toNat - 48 := by unfold val; simp
    have e2 : val [c] = 10 * 0 + (c.toNat - 48) := by omega
    refine ⟨by omega, ?_⟩
    rw [digs_pos (by omega), show val [c] / 10 = 0 by omega, digs_zero, e2, dg_dig c h]; rfl
  | h1 l b ih =>
    intro h
    have h0 : (c :: l).all isDig = true ∧ isDig b = true := by
      rw [← List.cons_append, List.all_append] at h; simpa using h
    obtain ⟨h1, h2⟩ := ih h0.1
    have hb := isDig_le h0.2
    rw [← List.cons_append, val_snoc]
    refine ⟨by omega, ?_⟩
    rw [digs_pos (by omega), dg_dig b h0.2, show (10 * val (c :: l) + (b.toNat - 48)) / 10 = val (c :: l) by omega, h2]

theorem val_zero (l : List UInt8) : val (48 :: l) = val l := by
  unfold val; simp

/-- Which letters are the form of a number. -/
theorem form_iff (t : List UInt8) (h0 : t ≠ []) (h : t.all isDig = true) : fmtN (val t) = t ↔ ¬ (t.head? = some 48 ∧ t ≠ [48]) := by
  match t, h0 with
  | c :: l, _ =>
    by_cases hc : c = 48
    · subst hc
      by_cases hl : l = []
      · subst hl; simp; rfl
      · simp [hl]
        intro e
        have h1 := val_lt l (by simpa using (by simpa using h : isDig 48 = true ∧ l.all isDig = true).2)
        rw [val_zero] at e
        unfold fmtN at e
        by_cases h2 : val l = 0
        · rw [if_pos h2] at e; simp at e; exact hl e
        · rw [if_neg h2] at e
          have h3 := digs_lt l.length (val l) h1
          rw [e] at h3; simp at h3; omega
    · obtain ⟨h1, h2⟩ := digs_val c (fun e => hc (UInt8.toNat_inj.1 e)) l h
      simp [hc]
      unfold fmtN
      rw [if_neg (by omega), h2]

/-- Whether the letters are the form of a number of at most m digits. -/
def good (m : Nat) (t : List UInt8) : Bool := decide (1 ≤ t.length ∧ t.length ≤ m) && (t.all isDig && (fmtN (val t) == t))

theorem good_len {m : Nat} {t : List UInt8} (h : ¬ (1 ≤ t.length ∧ t.length ≤ m)) : good m t = false := by
  unfold good; rw [decide_eq_false h]; rfl
theorem good_dig {m : Nat} {t : List UInt8} (h : t.all isDig = false) : good m t = false := by
  unfold good; rw [h]; simp
theorem good_zero {m : Nat} {t : List UInt8} (h1 : t.head? = some 48) (h2 : t ≠ [48]) : good m t = false := by
  unfold good
  by_cases h : t.all isDig = true
  · have h0 : t ≠ [] := by intro e; subst e; simp at h1
    have := mt (form_iff t h0 h).1 (by simp [h1, h2])
    simp [this]
  · simp [h]
theorem good_yes {m : Nat} {t : List UInt8} (h0 : 1 ≤ t.length) (hm : t.length ≤ m) (h : t.all isDig = true) (hz : ¬ (t.head? = some 48 ∧ t ≠ [48])) : good m t = true := by
  unfold good
  rw [decide_eq_true ⟨h0, hm⟩, h, (form_iff t (by intro e; subst e; simp at h0) h).2 hz]; simp
theorem good_form {m : Nat} {t : List UInt8} (h0 : 1 ≤ t.length) (hm : t.length ≤ m) (h : t.all isDig = true) : good m t = (fmtN (val t) == t) := by
  unfold good
  rw [decide_eq_true ⟨h0, hm⟩, h]; simp
theorem good_bound {m : Nat} {t : List UInt8} (h : good m t = true) (hm : m ≤ 12) : val t < 1000000000000 := by
  unfold good at h
  simp at h
  have h1 := val_lt t (by simpa using h.2.1)
  have h2 : 10 ^ t.length ≤ 10 ^ 12 := Nat.pow_le_pow_right (by omega) (by omega)
  have h3 : (10 : Nat) ^ 12 = 1000000000000 := by rfl
  omega

/-- What parseDigits answers. -/
def pdv (m : Nat) (t : List UInt8) : Int := if good m t then val t else 0

/-- What a reading of a sign and digits answers. -/
def rdb (m : Nat) (s : List UInt8) : Bool := if s.head? = some 45 then good m s.tail && decide (0 < val s.tail) else good m s
def rdv (m : Nat) (s : List UInt8) : Int := if rdb m s then (if s.head? = some 45 then -(val s.tail : Int) else val s) else 0

theorem all_take_succ {t : List UInt8} {k : Nat} (hk : k < t.length) (h : (t.take k).all isDig = true) (hb : isDig t[k] = true) : (t.take (k + 1)).all isDig = true := by
  rw [List.take_succ_eq_append_getElem hk, List.all_append, h]; simp [hb]
theorem val_take_succ {t : List UInt8} {k : Nat} (hk : k < t.length) : val (t.take (k + 1)) = 10 * val (t.take k) + (t[k].toNat - 48) := by
  rw [List.take_succ_eq_append_getElem hk, val_snoc]
theorem val_take_bound {t : List UInt8} {k : Nat} (hk : k ≤ 12) (h : (t.take k).all isDig = true) : val (t.take k) < 1000000000000 := by
  have h1 := val_lt _ h
  have h2 : 10 ^ (t.take k).length ≤ 10 ^ 12 := Nat.pow_le_pow_right (by omega) (by have := List.length_take_le k t; omega)
  have h3 : (10 : Nat) ^ 12 = 1000000000000 := by rfl
  omega
theorem not_all {t : List UInt8} {k : Nat} (hk : k < t.length) (hb : isDig t[k] = false) : t.all isDig = false := by
  rw [List.all_eq_false]; exact ⟨t[k], List.getElem_mem hk, by simp [hb]⟩

/-- Whether the letters are 1 to m digits, and the number that they denote. -/
def dok (m : Nat) (t : List UInt8) : Bool := decide (1 ≤ t.length ∧ t.length ≤ m) && t.all isDig
def dvv (m : Nat) (t : List UInt8) : Int := if dok m t then val t else 0
theorem dok_len {m : Nat} {t : List UInt8} (h : ¬ (1 ≤ t.length ∧ t.length ≤ m)) : dok m t = false := by
  unfold dok; rw [decide_eq_false h]; rfl
theorem dok_dig {m : Nat} {t : List UInt8} (h : t.all isDig = false) : dok m t = false := by
  unfold dok; rw [h]; simp
theorem dok_yes {m : Nat} {t : List UInt8} (h0 : 1 ≤ t.length) (hm : t.length ≤ m) (h : t.all isDig = true) : dok m t = true := by
  unfold dok; rw [decide_eq_true ⟨h0, hm⟩, h]; rfl
/-- Without a zero too many a form is digits. -/
theorem good_dok {m : Nat} {t : List UInt8} (hz : ¬ (t.head? = some 48 ∧ t ≠ [48])) : good m t = dok m t := by
  by_cases h1 : 1 ≤ t.length ∧ t.length ≤ m
  · by_cases h2 : t.all isDig = true
    · rw [good_yes h1.1 h1.2 h2 hz, dok_yes h1.1 h1.2 h2]
    · rw [good_dig (by simpa using h2), dok_dig (by simpa using h2)]
  · rw [good_len h1, dok_len h1]
theorem pdv_dvv {m : Nat} {t : List UInt8} (hz : ¬ (t.head? = some 48 ∧ t ≠ [48])) : pdv m t = dvv m t := by
  unfold pdv dvv; rw [good_dok hz]

end Go.Proofs.YtbadepiakkhabaaDoor.Dec
/- Plain facts on tokens: words, the token that begins a text, the tokens of a source. No conditions. -/
namespace Go.Proofs.YtbadepiakkhabaaDoor.Tk
set_option linter.unusedVariables false

def letter (b : UInt8) : Bool := (decide (97 ≤ b.toNat) && decide (b.toNat ≤ 122)) || (decide (65 ≤ b.toNat) && decide (b.toNat ≤ 90)) || b == 95
def idb (b : UInt8) : Bool := letter b || Dec.isDig b
def reserved : List (List UInt8) := [[112, 114, 111, 99, 101, 100, 117, 114, 101], [101, 110, 100], [103, 108, 111, 98, 97, 108], [108, 111, 99, 97, 108], [114, 101, 99, 111, 114, 100], [105, 102], [116, 104, 101, 110], [101, 108, 115, 101], [119, 104, 105, 108, 101], [117, 110, 116, 105, 108], [101, 118, 101, 114, 121], [100, 111], [114, 101, 112, 101, 97, 116], [99, 97, 115, 101], [111, 102], [100, 101, 102, 97, 117, 108, 116], [114, 101, 116, 117, 114, 110], [115, 117, 115, 112, 101, 110, 100], [102, 97, 105, 108], [98, 114, 101, 97, 107], [110, 101, 120, 116], [99, 114, 101, 97, 116, 101], [116, 111], [98, 121], [110, 111, 116], [100, 101, 102, 101, 114]]
def keywords : List (List UInt8) := [[110, 117, 108, 108], [102, 97, 105, 108], [115, 117, 98, 106, 101, 99, 116], [112, 111, 115], [108, 99, 97, 115, 101], [117, 99, 97, 115, 101], [108, 101, 116, 116, 101, 114, 115], [100, 105, 103, 105, 116, 115]]
def operators : List (List UInt8) := [[124, 124, 124, 58, 61], [124, 124, 58, 61], [43, 43, 58, 61], [45, 45, 58, 61], [42, 42, 58, 61], [126, 61, 61, 61], [124, 124, 124], [61, 61, 61], [126, 61, 61], [60, 45, 62], [58, 61, 58], [60, 60, 61], [62, 62, 61], [43, 58, 61], [45, 58, 61], [42, 58, 61], [47, 58, 61], [37, 58, 61], [94, 58, 61], [58, 61], [60, 45], [60, 61], [62, 61], [126, 61], [60, 60], [62, 62], [61, 61], [124, 124], [43, 43], [45, 45], [42, 42], [63, 63], [45, 62], [61, 62], [46, 62], [46, 124], [43], [45], [42], [47], [37], [94], [60], [62], [61], [126], [124], [38], [33], [63], [64], [46], [92], [40], [41], [91], [93], [123], [125], [44], [59], [58]]
def beg2 : List (List UInt8) := [[105, 102], [119, 104, 105, 108, 101], [117, 110, 116, 105, 108], [101, 118, 101, 114, 121], [114, 101, 112, 101, 97, 116], [99, 97, 115, 101], [114, 101, 116, 117, 114, 110], [115, 117, 115, 112, 101, 110, 100], [102, 97, 105, 108], [98, 114, 101, 97, 107], [110, 101, 120, 116], [99, 114, 101, 97, 116, 101], [110, 111, 116], [100, 101, 102, 101, 114]]
def beg7 : List (List UInt8) := [[43], [45], [42], [47], [61], [126], [124], [33], [64], [46], [92], [94], [46, 62], [40], [91], [123]]
def end2 : List (List UInt8) := [[114, 101, 116, 117, 114, 110], [115, 117, 115, 112, 101, 110, 100], [102, 97, 105, 108], [98, 114, 101, 97, 107], [110, 101, 120, 116]]
def end7 : List (List UInt8) := [[41], [93], [125]]
def isReserved (w : List UInt8) : Bool := reserved.contains w
def isKeyword (w : List UInt8) : Bool := keywords.contains w
def isName (w : List UInt8) : Bool := decide (1 ≤ w.length) && decide (w.length ≤ 12) && (w.head?.map letter == some true) && !isReserved w && w.all idb
def begins (k : Int) (t : List UInt8) : Bool := if k = 2 then beg2.contains t else if k = 7 then beg7.contains t else k == 1 || (decide (3 ≤ k) && decide (k ≤ 6))
def ends (k : Int) (t : List UInt8) : Bool := if k = 2 then end2.contains t else if k = 7 then end7.contains t else k == 1 || (decide (3 ≤ k) && decide (k ≤ 6))

/-- What the word of an integer, a quoted text and a quoted set denote: left open here, so that this text needs no memory. -/
structure Den where
  int : List UInt8 → Option (List UInt8)
  str : List UInt8 → Option (List UInt8)
  set : List UInt8 → Option (List UInt8)
/-- The token that begins a text: its kind, its text, how many bytes it takes. -/
def one (D : Den) : List UInt8 → Option (Nat × List UInt8 × Nat)
  | [] => none
  | b :: r =>
    if letter b = true then
      if isReserved (b :: r.takeWhile idb) = true then some (2, b :: r.takeWhile idb, (r.takeWhile idb).length + 1)
      else if isName (b :: r.takeWhile idb) = true then some (1, b :: r.takeWhile idb, (r.takeWhile idb).length + 1) else none
    else if Dec.isDig b = true then (D.int (b :: r.takeWhile idb)).map fun t => (3, t, (r.takeWhile idb).length + 1)
    else if b = 34 then (Lt.endL 34 r).bind fun n => (D.str (b :: r.take n)).map fun t => (4, t, n + 1)
    else if b = 39 then (Lt.endL 39 r).bind fun n => (D.set (b :: r.take n)).map fun t => (5, t, n + 1)
    else if b = 38 ∧ r.head?.map letter = some true then
      if isKeyword (r.takeWhile letter) = true then some (6, r.takeWhile letter, (r.takeWhile letter).length + 1) else none
    else (operators.find? fun o => o.isPrefixOf (b :: r)).map fun o => (7, o, o.length)
/-- A token: kind, text, line. -/
abbrev Tok := Nat × List UInt8 × Nat
/-- The semicolon that comes ahead of a token, if one does. -/
def semi (out : List Tok) (fresh : Bool) (k : Nat) (t : List UInt8) : List Tok :=
  match out.getLast? with
  | none => []
  | some l => if fresh && ends l.1 l.2.1 && begins k t then [(7, [59], l.2.2)] else []
theorem ops_pos : ∀ o ∈ operators, 1 ≤ o.length := by decide
theorem one_pos {D : Den} {R t : List UInt8} {k n : Nat} (h : one D R = some (k, t, n)) : 1 ≤ n := by
  match R with
  | [] => cases h
  | b :: r =>
    simp only [one] at h
    split at h
    · split at h
      · cases h; omega
      · split at h
        · cases h; omega
        · cases h
    · split at h
      · cases hi : D.int (b :: r.takeWhile idb) with
        | none => rw [hi] at h; cases h
        | some x => rw [hi] at h; cases h; omega
      · split at h
        · cases he : Lt.endL 34 r with
          | none => rw [he] at h; cases h
          | some m =>
            rw [he] at h
            cases hs : D.str (b :: r.take m) with
            | none => simp [hs] at h
            | some x => simp [hs] at h; omega
        · split at h
          · cases he : Lt.endL 39 r with
            | none => rw [he] at h; cases h
            | some m =>
              rw [he] at h
              cases hs : D.set (b :: r.take m) with
              | none => simp [hs] at h
              | some x => simp [hs] at h; omega
          · split at h
            · split at h
              · cases h; omega
              · cases h
            · cases hf : operators.find? fun o => o.isPrefixOf (b :: r) with
              | none => rw [hf] at h; cases h
              | some o =>
                rw [hf] at h; cases h
                exact ops_pos _ (List.mem_of_find?_eq_some hf)
/-- The tokens of a source from a state on: the line of the first error (0: none), and the tokens. -/
def lexW (D : Den) (R : List UInt8) (line : Nat) (fresh : Bool) (out : List Tok) : Nat × List Tok :=
  match R with
  | [] => (0, out)
  | b :: r =>
    if b = 10 then lexW D r (line + 1) true out
    else if b = 32 ∨ b = 9 then lexW D r line fresh out
    else if b = 35 then lexW D (r.dropWhile fun c => c != 10) line fresh out
    else match h : one D (b :: r) with
      | none => (line, [])
      | some (k, t, n) => lexW D ((b :: r).drop n) line false (out ++ semi out fresh k t ++ [(k, t, line)])
termination_by R.length
decreasing_by
  · simp
  · simp
  · have := (List.dropWhile_sublist (p := fun c : UInt8 => c != 10) (l := r)).length_le
    simp; omega
  · have := one_pos h
    rw [List.length_drop, List.length_cons]; omega
theorem lexW_nil (D : Den) (line : Nat) (fresh : Bool) (out : List Tok) : lexW D [] line fresh out = (0, out) := by rw [lexW]
theorem lexW_line (D : Den) (r : List UInt8) (line : Nat) (fresh : Bool) (out : List Tok) : lexW D (10 :: r) line fresh out = lexW D r (line + 1) true out := by rw [lexW]; exact if_pos rfl
theorem lexW_blank (D : Den) {b : UInt8} (r : List UInt8) (line : Nat) (fresh : Bool) (out : List Tok) (h : b = 32 ∨ b = 9) : lexW D (b :: r) line fresh out = lexW D r line fresh out := by
  rw [lexW, if_neg (by rcases h with rfl | rfl <;> decide), if_pos h]
theorem lexW_note (D : Den) (r : List UInt8) (line : Nat) (fresh : Bool) (out : List Tok) : lexW D (35 :: r) line fresh out = lexW D (r.dropWhile fun c => c != 10) line fresh out := by
  rw [lexW, if_neg (by decide), if_neg (by decide)]; exact if_pos rfl
theorem lexW_bad (D : Den) {b : UInt8} (r : List UInt8) (line : Nat) (fresh : Bool) (out : List Tok) (h1 : b ≠ 10) (h2 : b ≠ 32) (h3 : b ≠ 9) (h4 : b ≠ 35) (h : one D (b :: r) = none) : lexW D (b :: r) line fresh out = (line, []) := by
  rw [lexW, if_neg h1, if_neg (by rintro (h | h); exact h2 h; exact h3 h), if_neg h4]
  split
  · rfl
  · rename_i h5; rw [h] at h5; cases h5
theorem lexW_tok (D : Den) {b : UInt8} (r : List UInt8) (line : Nat) (fresh : Bool) (out : List Tok) (h1 : b ≠ 10) (h2 : b ≠ 32) (h3 : b ≠ 9) (h4 : b ≠ 35) {k n : Nat} {t : List UInt8} (h : one D (b :: r) = some (k, t, n)) :
    lexW D (b :: r) line fresh out = lexW D ((b :: r).drop n) line false (out ++ semi out fresh k t ++ [(k, t, line)]) := by
  rw [lexW, if_neg h1, if_neg (by rintro (h | h); exact h2 h; exact h3 h), if_neg h4]
  split
  · rename_i h5; rw [h] at h5; cases h5
  · rename_i h5; rw [h] at h5; cases h5; rfl
/-- The tokens of a source. -/
def lex (D : Den) (S : List UInt8) : Nat × List Tok := if 6000 < S.length then (1, []) else lexW D S 1 false []
end Go.Proofs.YtbadepiakkhabaaDoor.Tk
/- Plain facts on sets that are kept in two words of 64 bits: their bits, their elements, and how many there are. No conditions. -/
namespace Go.Proofs.YtbadepiakkhabaaDoor.Cs
open Go.RowKit
set_option linter.unusedVariables false

/-- A word's bit. -/
def bitAt (n : Int) (k : Nat) : Bool := (BitVec.ofInt 64 n).getLsbD k
/-- A word that is in range. -/
def Fits (n : Int) : Prop := -9223372036854775808 ≤ n ∧ n ≤ 9223372036854775807
/-- The word with one bit. -/
def unit (k : Nat) : Int := wrap64 (2 ^ k)

theorem wrap_fits (n : Int) : Fits (IntKind.i64.wrap n) := by rw [IntKind.wrap_i64]; unfold Fits; omega
theorem wrap64_fits (n : Int) : Fits (wrap64 n) := by unfold wrap64 Fits; omega
theorem bits_fits (op : BinOp) (a b : Int) : Fits (bits op .i64 a b) := wrap_fits _

theorem ofInt_wrap (n : Int) : BitVec.ofInt 64 (IntKind.i64.wrap n) = BitVec.ofInt 64 n := by
  rw [IntKind.wrap_i64]
  apply BitVec.eq_of_toNat_eq
  rw [BitVec.toNat_ofInt, BitVec.toNat_ofInt]
  omega
theorem ofInt_toNat (v : BitVec 64) : BitVec.ofInt 64 (v.toNat : Int) = v := by
  rw [BitVec.ofInt_natCast]; simp
theorem bit_word (v : BitVec 64) (k : Nat) : bitAt (IntKind.i64.wrap (v.toNat : Int)) k = v.getLsbD k := by
  unfold bitAt; rw [ofInt_wrap, ofInt_toNat]
theorem bit_and (a b : Int) (k : Nat) : bitAt (bits .and .i64 a b) k = (bitAt a k && bitAt b k) := by
  show bitAt (IntKind.i64.wrap ((BitVec.ofInt 64 a &&& BitVec.ofInt 64 b).toNat : Int)) k = _
  rw [bit_word, BitVec.getLsbD_and]; rfl
theorem bit_or (a b : Int) (k : Nat) : bitAt (bits .or .i64 a b) k = (bitAt a k || bitAt b k) := by
  show bitAt (IntKind.i64.wrap ((BitVec.ofInt 64 a ||| BitVec.ofInt 64 b).toNat : Int)) k = _
  rw [bit_word, BitVec.getLsbD_or]; rfl
theorem bit_andNot (a b : Int) (k : Nat) (hk : k < 64) : bitAt (bits .andNot .i64 a b) k = (bitAt a k && !bitAt b k) := by
  show bitAt (IntKind.i64.wrap ((BitVec.ofInt 64 a &&& ~~~BitVec.ofInt 64 b).toNat : Int)) k = _
  rw [bit_word, BitVec.getLsbD_and, BitVec.getLsbD_not]; simp [hk, bitAt]
theorem bit_not (a : Int) (k : Nat) (hk : k < 64) : bitAt (bits .xor .i64 (-1) a) k = !bitAt a k := by
  show bitAt (IntKind.i64.wrap ((BitVec.ofInt 64 (-1) ^^^ BitVec.ofInt 64 a).toNat : Int)) k = _
  rw [bit_word, BitVec.getLsbD_xor]
  have : (BitVec.ofInt 64 (-1)).getLsbD k = true := by
    have h : BitVec.ofInt 64 (-1) = BitVec.allOnes 64 := by decide
    rw [h, BitVec.getLsbD_allOnes]; simp [hk]
  rw [this]; simp [bitAt]
theorem bit_out (a : Int) (k : Nat) (hk : 64 ≤ k) : bitAt a k = false := BitVec.getLsbD_of_ge _ _ hk

theorem fits_toInt {a : Int} (h : Fits a) : (BitVec.ofInt 64 a).toInt = a := by
  unfold Fits at h
  rw [BitVec.toInt_ofInt]
  show Int.bmod a 18446744073709551616 = a
  rw [Int.bmod_def]
  split <;> omega
theorem word_ext {a b : Int} (ha : Fits a) (hb : Fits b) (h : ∀ k, k < 64 → bitAt a k = bitAt b k) : a = b := by
  rw [← fits_toInt ha, ← fits_toInt hb]
  congr 1
  exact BitVec.eq_of_getLsbD_eq fun k hk => h k hk

theorem unit_fits (k : Nat) : Fits (unit k) := wrap64_fits _
theorem bit_unit (k j : Nat) (hj : j < 64) : bitAt (unit k) j = decide (j = k) := by
  unfold bitAt unit
  have e : wrap64 (2 ^ k) = IntKind.i64.wrap (((2 ^ k : Nat)) : Int) := by rw [IntKind.wrap_i64]; unfold wrap64; simp
  rw [e, ofInt_wrap, BitVec.ofInt_natCast, BitVec.getLsbD_ofNat]
  simp [hj, Nat.testBit_two_pow, eq_comm]
theorem bit_zero (k : Nat) : bitAt 0 k = false := by
  unfold bitAt
  have : BitVec.ofInt 64 0 = 0#64 := by decide
  rw [this]; simp
theorem or_zero {a : Int} (h : Fits a) : bits .or .i64 a 0 = a :=
  word_ext (bits_fits _ _ _) h fun k _ => by rw [bit_or, bit_zero]; simp
theorem and_zero (a : Int) : bits .and .i64 a 0 = 0 :=
  word_ext (bits_fits _ _ _) (by unfold Fits; omega) fun k _ => by rw [bit_and, bit_zero]; simp
theorem test_bit (a : Int) (k : Nat) (hk : k < 64) : (bits .and .i64 a (unit k) != 0) = bitAt a k := by
  cases hb : bitAt a k
  · have : bits .and .i64 a (unit k) = 0 := word_ext (bits_fits _ _ _) (by unfold Fits; omega) fun j hj => by
      rw [bit_and, bit_zero, bit_unit k j hj]
      by_cases e : j = k
      · subst e; simp [hb]
      · simp [e]
    rw [this]; rfl
  · have : bits .and .i64 a (unit k) ≠ 0 := fun e => by
      have h1 := bit_and a (unit k) k
      rw [e, bit_zero, hb, bit_unit k k hk] at h1
      simp at h1
    simpa using this

/-- Is x an element of the set? -/
def mem (l h : Int) (x : Nat) : Bool := if x < 64 then bitAt l x else if x < 128 then bitAt h (x - 64) else false
theorem mem_low {l h : Int} {x : Nat} (hx : x < 64) : mem l h x = bitAt l x := if_pos hx
theorem mem_high {l h : Int} {x : Nat} (h1 : 64 ≤ x) (h2 : x < 128) : mem l h x = bitAt h (x - 64) := by unfold mem; rw [if_neg (by omega), if_pos h2]
theorem mem_out {l h : Int} {x : Nat} (h1 : 128 ≤ x) : mem l h x = false := by unfold mem; rw [if_neg (by omega), if_neg (by omega)]
theorem set_ext {l h l2 h2 : Int} (f1 : Fits l) (f2 : Fits h) (f3 : Fits l2) (f4 : Fits h2) (e : ∀ x, x < 128 → mem l h x = mem l2 h2 x) : l = l2 ∧ h = h2 :=
  ⟨word_ext f1 f3 fun k hk => by have := e k (by omega); rwa [mem_low hk, mem_low hk] at this,
   word_ext f2 f4 fun k hk => by have := e (64 + k) (by omega); rwa [mem_high (by omega) (by omega), mem_high (by omega) (by omega), Nat.add_sub_cancel_left] at this⟩
theorem mem_and (a b c d : Int) (x : Nat) : mem (bits .and .i64 a c) (bits .and .i64 b d) x = (mem a b x && mem c d x) := by
  unfold mem; split
  · exact bit_and _ _ _
  · split
    · exact bit_and _ _ _
    · rfl
theorem mem_or (a b c d : Int) (x : Nat) : mem (bits .or .i64 a c) (bits .or .i64 b d) x = (mem a b x || mem c d x) := by
  unfold mem; split
  · exact bit_or _ _ _
  · split
    · exact bit_or _ _ _
    · rfl
theorem mem_andNot (a b c d : Int) (x : Nat) : mem (bits .andNot .i64 a c) (bits .andNot .i64 b d) x = (mem a b x && !mem c d x) := by
  unfold mem; split
  · exact bit_andNot _ _ _ ‹_›
  · split
    · exact bit_andNot _ _ _ (by omega)
    · rfl
theorem mem_not (a b : Int) (x : Nat) (hx : x < 128) : mem (bits .xor .i64 (-1) a) (bits .xor .i64 (-1) b) x = !mem a b x := by
  unfold mem; split
  · exact bit_not _ _ ‹_›
  · exact bit_not b (x - 64) (by omega)

/-- The elements in ascending order. -/
def text (l h : Int) : List Nat := (List.range 128).filter (mem l h)
/-- The elements below n. -/
def textTo (l h : Int) (n : Nat) : List Nat := (List.range n).filter (mem l h)
theorem textTo_succ (l h : Int) (n : Nat) : textTo l h (n + 1) = textTo l h n ++ if mem l h n then [n] else [] := by
  unfold textTo
  rw [List.range_succ, List.filter_append]
  congr 1
  cases hm : mem l h n <;> simp [hm]
theorem textTo_len (l h : Int) (n : Nat) : (textTo l h n).length ≤ n := by
  have := List.length_filter_le (mem l h) (List.range n)
  simpa [textTo] using this
theorem mem_text (l h : Int) (x : Nat) : x ∈ text l h ↔ mem l h x = true := by
  unfold text
  rw [List.mem_filter, List.mem_range]
  constructor
  · exact fun h => h.2
  · intro hm
    refine ⟨?_, hm⟩
    rcases Nat.lt_or_ge x 128 with h | h
    · exact h
    · rw [mem_out h] at hm; cases hm

/-- One element more. -/
def addL (l : Int) (x : Nat) : Int := if x < 64 then bits .or .i64 l (unit x) else l
def addH (h : Int) (x : Nat) : Int := if x < 64 then h else bits .or .i64 h (unit (x - 64))
theorem addL_fits {l : Int} (f : Fits l) (x : Nat) : Fits (addL l x) := by unfold addL; split; exact bits_fits _ _ _; exact f
theorem addH_fits {h : Int} (f : Fits h) (x : Nat) : Fits (addH h x) := by unfold addH; split; exact f; exact bits_fits _ _ _
theorem mem_add (l h : Int) (x y : Nat) (hx : x < 128) (hy : y < 128) : mem (addL l x) (addH h x) y = (mem l h y || decide (y = x)) := by
  by_cases h1 : y < 64
  · rw [mem_low h1, mem_low h1]
    unfold addL
    by_cases h2 : x < 64
    · rw [if_pos h2, bit_or, bit_unit _ _ h1]
    · rw [if_neg h2]; simp; intro e; omega
  · rw [mem_high (by omega) hy, mem_high (by omega) hy]
    unfold addH
    by_cases h2 : x < 64
    · rw [if_pos h2]; simp; intro e; omega
    · rw [if_neg h2, bit_or, bit_unit _ _ (by omega)]
      congr 1
      simp; omega
/-- All elements of a list. -/
def allL (xs : List Nat) : Int := xs.foldl addL 0
def allH (xs : List Nat) : Int := xs.foldl addH 0
theorem all_snoc (xs : List Nat) (x : Nat) : allL (xs ++ [x]) = addL (allL xs) x ∧ allH (xs ++ [x]) = addH (allH xs) x := by
  unfold allL allH; simp
theorem fits_zero : Fits 0 := by unfold Fits; omega
theorem foldL_fits (xs : List Nat) : ∀ l, Fits l → Fits (xs.foldl addL l) := by
  induction xs with
  | nil => exact fun l h => h
  | cons x xs ih => exact fun l h => ih _ (addL_fits h x)
theorem foldH_fits (xs : List Nat) : ∀ l, Fits l → Fits (xs.foldl addH l) := by
  induction xs with
  | nil => exact fun l h => h
  | cons x xs ih => exact fun l h => ih _ (addH_fits h x)
theorem allL_fits (xs : List Nat) : Fits (allL xs) := foldL_fits xs 0 fits_zero
theorem allH_fits (xs : List Nat) : Fits (allH xs) := foldH_fits xs 0 fits_zero
theorem mem_fold (xs : List Nat) (hx : ∀ x ∈ xs, x < 128) (y : Nat) (hy : y < 128) : ∀ l h, mem (xs.foldl addL l) (xs.foldl addH h) y = (mem l h y || xs.contains y) := by
  induction xs with
  | nil => intro l h; simp
  | cons x xs ih =>
    intro l h
    rw [List.foldl_cons, List.foldl_cons, ih (fun z hz => hx z (List.mem_cons_of_mem _ hz)), mem_add _ _ _ _ (hx x (List.mem_cons_self)) hy, List.contains_cons, Bool.or_assoc]
    rfl
theorem mem_zero (y : Nat) : mem 0 0 y = false := by
  unfold mem; split
  · exact bit_zero _
  · split
    · exact bit_zero _
    · rfl
theorem mem_all (xs : List Nat) (hx : ∀ x ∈ xs, x < 128) (y : Nat) (hy : y < 128) : mem (allL xs) (allH xs) y = xs.contains y := by
  unfold allL allH
  rw [mem_fold xs hx y hy, mem_zero, Bool.false_or]
theorem text_below (l h : Int) : ∀ x ∈ text l h, x < 128 := fun x hx => by
  unfold text at hx; rw [List.mem_filter, List.mem_range] at hx; exact hx.1
/-- A set is its elements. -/
theorem all_text {l h : Int} (f1 : Fits l) (f2 : Fits h) : allL (text l h) = l ∧ allH (text l h) = h :=
  set_ext (allL_fits _) (allH_fits _) f1 f2 fun x hx => by
    rw [mem_all _ (text_below l h) x hx, Bool.eq_iff_iff, List.contains_iff_mem, mem_text]

theorem and_not (a b c d : Int) : bits .andNot .i64 a c = bits .and .i64 a (bits .xor .i64 (-1) c) :=
  word_ext (bits_fits _ _ _) (bits_fits _ _ _) fun k hk => by rw [bit_andNot _ _ _ hk, bit_and, bit_not _ _ hk]
theorem de_morgan (a c : Int) : bits .xor .i64 (-1) (bits .or .i64 a c) = bits .and .i64 (bits .xor .i64 (-1) a) (bits .xor .i64 (-1) c) :=
  word_ext (bits_fits _ _ _) (bits_fits _ _ _) fun k hk => by rw [bit_not _ _ hk, bit_or, bit_and, bit_not _ _ hk, bit_not _ _ hk]; cases bitAt a k <;> rfl

/-- Sizes of a union and an intersection. -/
theorem count_or_and (p q : Nat → Bool) (xs : List Nat) : (xs.filter fun x => p x || q x).length + (xs.filter fun x => p x && q x).length = (xs.filter p).length + (xs.filter q).length := by
  induction xs with
  | nil => rfl
  | cons x xs ih =>
    simp only [List.filter_cons]
    cases p x <;> cases q x <;> simp <;> omega
theorem text_sizes (a b c d : Int) : (text (bits .or .i64 a c) (bits .or .i64 b d)).length + (text (bits .and .i64 a c) (bits .and .i64 b d)).length = (text a b).length + (text c d).length := by
  unfold text
  rw [← count_or_and (mem a b) (mem c d)]
  congr 2
  · exact congrArg (fun f => List.filter f (List.range 128)) (funext fun x => mem_or a b c d x)
  · exact congrArg (fun f => List.filter f (List.range 128)) (funext fun x => mem_and a b c d x)
end Go.Proofs.YtbadepiakkhabaaDoor.Cs
