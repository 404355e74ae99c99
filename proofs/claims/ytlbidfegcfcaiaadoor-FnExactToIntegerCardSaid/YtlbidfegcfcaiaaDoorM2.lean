/- Plain facts on reading decimal forms: which letters are the form of their number. No conditions. -/
import Derived.Test.YtlbidfegcfcaiaaDoorM1
namespace Go.Proofs.YtlbidfegcfcaiaaDoor.Dec

theorem snocRec {P : List UInt8 → Prop} (h0 : P []) (h1 : ∀ l b, P l → P (l ++ [b])) (l : List UInt8) : P l := by
  have h : ∀ r : List UInt8, P r.reverse := by
    intro r
    induction r with
    | nil => exact h0
    | cons b r ih => rw [List.reverse_cons]; exact h1 _ _ ih
  have := h l.reverse
  rwa [List.reverse_reverse] at this

def isDig (b : UInt8) : Bool := decide (48 ≤ b.toNat) && decide (b.toNat ≤ 57)

/-- The number that digits denote. -/
def val (l : List UInt8) : Nat := l.foldl (fun a b => 10 * a + (b.toNat - 48)) 0

theorem val_nil : val [] = 0 := rfl
theorem val_snoc (l : List UInt8) (b : UInt8) : val (l ++ [b]) = 10 * val l + (b.toNat - 48) := by
  unfold val; rw [List.foldl_append]; rfl

theorem isDig_le {b : UInt8} (h : isDig b = true) : 48 ≤ b.toNat ∧ b.toNat ≤ 57 := by
  simpa [isDig] using h

theorem val_lt (l : List UInt8) (h : l.all isDig = true) : val l < 10 ^ l.length := by
  induction l using snocRec with
  | h0 => simp [val_nil]
  | h1 l b ih =>
    rw [List.all_append] at h
    simp at h
    have h1 := ih (by simpa using h.1)
    have h2 := isDig_le h.2
    rw [val_snoc, List.length_append, List.length_singleton, Nat.pow_succ]
    omega

theorem dg_dig (b : UInt8) (h : isDig b = true) (n : Nat) : dg (10 * n + (b.toNat - 48)) = b := by
  have h2 := isDig_le h
  apply UInt8.toNat_inj.1
  rw [dg_toNat]; omega

/-- Digits that do not begin with 0 are the form of their number. -/
theorem digs_val (c : UInt8) (hc : c.toNat ≠ 48) (l : List UInt8) : (c :: l).all isDig = true → 0 < val (c :: l) ∧ digs (val (c :: l)) = c :: l := by
  induction l using snocRec with
  | h0 =>
    intro h
    simp at h
    have h2 := isDig_le h
    have e : val [c] = c.toNat - 48 := by unfold val; simp
    have e2 : val [c] = 10 * 0 + (c.toNat - 48) := by omega
    refine ⟨by omega, ?_⟩
    rw [digs_pos (by omega), show val [c] / 10 = 0 by omega, digs_zero, e2, dg_dig c h]; rfl
  | h1 l b ih =>
    intro h
    have h0 : (c :: l).all isDig = true ∧ isDig b = true := by
      rw [← List.cons_append, List.all_append] at h; simpa using h
    obtain ⟨h1, h2⟩ := ih h0.1
    have hb := isDig_le h0.2
    rw [← List.cons_append, val_snoc]
    refine ⟨by omega, ?_⟩
    rw [digs_pos (by omega), dg_dig b h0.2, show (10 * val (c :: l) + (b.toNat - 48)) / 10 = val (c :: l) by omega, h2]

theorem val_zero (l : List UInt8) : val (48 :: l) = val l := by
  unfold val; simp

/-- Which letters are the form of a number. -/
theorem form_iff (t : List UInt8) (h0 : t ≠ []) (h : t.all isDig = true) : fmtN (val t) = t ↔ ¬ (t.head? = some 48 ∧ t ≠ [48]) := by
  match t, h0 with
  | c :: l, _ =>
    by_cases hc : c = 48
    · subst hc
      by_cases hl : l = []
      · subst hl; simp; rfl
      · simp [hl]
        intro e
        have h1 := val_lt l (by simpa using (by simpa using h : isDig 48 = true ∧ l.all isDig = true).2)
        rw [val_zero] at e
        unfold fmtN at e
        by_cases h2 : val l = 0
        · rw [if_pos h2] at e; simp at e; exact hl e
        · rw [if_neg h2] at e
          have h3 := digs_lt l.length (val l) h1
          rw [e] at h3; simp at h3; omega
    · obtain ⟨h1, h2⟩ := digs_val c (fun e => hc (UInt8.toNat_inj.1 e)) l h
      simp [hc]
      unfold fmtN
      rw [if_neg (by omega), h2]

/-- Whether the letters are the form of a number of at most m digits. -/
def good (m : Nat) (t : List UInt8) : Bool := decide (1 ≤ t.length ∧ t.length ≤ m) && (t.all isDig && (fmtN (val t) == t))

theorem good_len {m : Nat} {t : List UInt8} (h : ¬ (1 ≤ t.length ∧ t.length ≤ m)) : good m t = false := by
  unfold good; rw [decide_eq_false h]; rfl
theorem good_dig {m : Nat} {t : List UInt8} (h : t.all isDig = false) : good m t = false := by
  unfold good; rw [h]; simp
theorem good_zero {m : Nat} {t : List UInt8} (h1 : t.head? = some 48) (h2 : t ≠ [48]) : good m t = false := by
  unfold good
  by_cases h : t.all isDig = true
  · have h0 : t ≠ [] := by intro e; subst e; simp at h1
    have := mt (form_iff t h0 h).1 (by simp [h1, h2])
    simp [this]
  · simp [h]
theorem good_yes {m : Nat} {t : List UInt8} (h0 : 1 ≤ t.length) (hm : t.length ≤ m) (h : t.all isDig = true) (hz : ¬ (t.head? = some 48 ∧ t ≠ [48])) : good m t = true := by
  unfold good
  rw [decide_eq_true ⟨h0, hm⟩, h, (form_iff t (by intro e; subst e; simp at h0) h).2 hz]; simp
theorem good_form {m : Nat} {t : List UInt8} (h0 : 1 ≤ t.length) (hm : t.length ≤ m) (h : t.all isDig = true) : good m t = (fmtN (val t) == t) := by
  unfold good
  rw [decide_eq_true ⟨h0, hm⟩, h]; simp
theorem good_bound {m : Nat} {t : List UInt8} (h : good m t = true) (hm : m ≤ 12) : val t < 1000000000000 := by
  unfold good at h
  simp at h
  have h1 := val_lt t (by simpa using h.2.1)
  have h2 : 10 ^ t.length ≤ 10 ^ 12 := Nat.pow_le_pow_right (by omega) (by omega)
  have h3 : (10 : Nat) ^ 12 = 1000000000000 := by rfl
  omega

/-- What parseDigits answers. -/
def pdv (m : Nat) (t : List UInt8) : Int := if good m t then val t else 0

/-- What a reading of a sign and digits answers. -/
def rdb (m : Nat) (s : List UInt8) : Bool := if s.head? = some 45 then good m s.tail && decide (0 < val s.tail) else good m s
def rdv (m : Nat) (s : List UInt8) : Int := if rdb m s then (if s.head? = some 45 then -(val s.tail : Int) else val s) else 0

theorem all_take_succ {t : List UInt8} {k : Nat} (hk : k < t.length) (h : (t.take k).all isDig = true) (hb : isDig t[k] = true) : (t.take (k + 1)).all isDig = true := by
  rw [List.take_succ_eq_append_getElem hk, List.all_append, h]; simp [hb]
theorem val_take_succ {t : List UInt8} {k : Nat} (hk : k < t.length) : val (t.take (k + 1)) = 10 * val (t.take k) + (t[k].toNat - 48) := by
  rw [List.take_succ_eq_append_getElem hk, val_snoc]
theorem val_take_bound {t : List UInt8} {k : Nat} (hk : k ≤ 12) (h : (t.take k).all isDig = true) : val (t.take k) < 1000000000000 := by
  have h1 := val_lt _ h
  have h2 : 10 ^ (t.take k).length ≤ 10 ^ 12 := Nat.pow_le_pow_right (by omega) (by have := List.length_take_le k t; omega)
  have h3 : (10 : Nat) ^ 12 = 1000000000000 := by rfl
  omega
theorem not_all {t : List UInt8} {k : Nat} (hk : k < t.length) (hb : isDig t[k] = false) : t.all isDig = false := by
  rw [List.all_eq_false]; exact ⟨t[k], List.getElem_mem hk, by simp [hb]⟩

/-- Whether the letters are 1 to m digits, and the number that they denote. -/
def dok (m : Nat) (t : List UInt8) : Bool := decide (1 ≤ t.length ∧ t.length ≤ m) && t.all isDig
def dvv (m : Nat) (t : List UInt8) : Int := if dok m t then val t else 0
theorem dok_len {m : Nat} {t : List UInt8} (h : ¬ (1 ≤ t.length ∧ t.length ≤ m)) : dok m t = false := by
  unfold dok; rw [decide_eq_false h]; rfl
theorem dok_dig {m : Nat} {t : List UInt8} (h : t.all isDig = false) : dok m t = false := by
  unfold dok; rw [h]; simp
theorem dok_yes {m : Nat} {t : List UInt8} (h0 : 1 ≤ t.length) (hm : t.length ≤ m) (h : t.all isDig = true) : dok m t = true := by
  unfold dok; rw [decide_eq_true ⟨h0, hm⟩, h]; rfl
/-- Without a zero too many a form is digits. -/
theorem good_dok {m : Nat} {t : List UInt8} (hz : ¬ (t.head? = some 48 ∧ t ≠ [48])) : good m t = dok m t := by
  by_cases h1 : 1 ≤ t.length ∧ t.length ≤ m
  · by_cases h2 : t.all isDig = true
    · rw [good_yes h1.1 h1.2 h2 hz, dok_yes h1.1 h1.2 h2]
    · rw [good_dig (by simpa using h2), dok_dig (by simpa using h2)]
  · rw [good_len h1, dok_len h1]
theorem pdv_dvv {m : Nat} {t : List UInt8} (hz : ¬ (t.head? = some 48 ∧ t ≠ [48])) : pdv m t = dvv m t := by
  unfold pdv dvv; rw [good_dok hz]

end Go.Proofs.YtlbidfegcfcaiaaDoor.Dec
