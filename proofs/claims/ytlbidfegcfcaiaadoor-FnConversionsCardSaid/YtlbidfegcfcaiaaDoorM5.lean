/- Plain facts: a decimal form is read again, and joining what was split gives the string again. No conditions. -/
import Derived.Test.YtlbidfegcfcaiaaDoorM2
import Derived.Test.YtlbidfegcfcaiaaDoorM3
import Derived.Test.YtlbidfegcfcaiaaDoorM4
namespace Go.Proofs.YtlbidfegcfcaiaaDoor

namespace Dec
theorem dg_isDig (n : Nat) : isDig (dg n) = true := by
  unfold isDig; rw [dg_toNat]; simp; omega
theorem digs_back (n : Nat) : (digs n).all isDig = true ∧ val (digs n) = n := by
  induction n using Nat.strongRecOn with
  | _ n ih =>
    by_cases h : n = 0
    · subst h; rw [digs_zero]; exact ⟨rfl, rfl⟩
    · obtain ⟨h1, h2⟩ := ih (n / 10) (by omega)
      rw [digs_pos (by omega), List.all_append, h1, val_snoc, h2, dg_toNat]
      refine ⟨by simp [dg_isDig], by omega⟩
theorem fmtN_back (n : Nat) : (fmtN n).all isDig = true ∧ val (fmtN n) = n ∧ fmtN n ≠ [] := by
  unfold fmtN
  by_cases h : n = 0
  · subst h; exact ⟨rfl, rfl, by simp⟩
  · rw [if_neg h]
    refine ⟨(digs_back n).1, (digs_back n).2, ?_⟩
    rw [digs_pos (by omega)]; simp
theorem fmtN_len (n : Nat) : (fmtN n).length ≤ 12 ↔ n < 1000000000000 := by
  obtain ⟨h1, h2, _⟩ := fmtN_back n
  have e : (10 : Nat) ^ 12 = 1000000000000 := by rfl
  constructor
  · intro h
    have h3 := val_lt _ h1
    have h4 : 10 ^ (fmtN n).length ≤ 10 ^ 12 := Nat.pow_le_pow_right (by omega) h
    omega
  · intro h
    unfold fmtN
    by_cases h0 : n = 0
    · subst h0; simp
    · rw [if_neg h0]; exact digs_lt 12 n (by omega)
theorem good_fmtN (n : Nat) : good 12 (fmtN n) = decide (n < 1000000000000) := by
  obtain ⟨h1, h2, h3⟩ := fmtN_back n
  have h4 : 1 ≤ (fmtN n).length := by
    cases h : fmtN n with
    | nil => exact absurd h h3
    | cons c l => simp
  have hl := fmtN_len n
  by_cases h : n < 1000000000000
  · rw [decide_eq_true h, good_form h4 (hl.2 h) h1, h2]; simp
  · rw [decide_eq_false h]; exact good_len (by omega)
theorem head_fmtN (n : Nat) : ¬ (fmtN n).head? = some 45 := by
  obtain ⟨h1, _, _⟩ := fmtN_back n
  intro h
  cases hf : fmtN n with
  | nil => rw [hf] at h; simp at h
  | cons c l =>
    rw [hf] at h h1
    simp at h
    subst h
    simp [isDig] at h1

/-- A decimal form is read again, if it has at most 12 digits. -/
theorem read_again (n : Int) : (rdb 12 (fmt n) = true ∧ -999999999999 ≤ n ∧ n ≤ 999999999999 ∧ rdv 12 (fmt n) = n) ∨ (rdb 12 (fmt n) = false ∧ (n < -999999999999 ∨ 999999999999 < n)) := by
  by_cases h0 : 0 ≤ n
  · rw [fmt_nn n h0]
    have hh := head_fmtN n.toNat
    have e1 : rdb 12 (fmtN n.toNat) = decide (n.toNat < 1000000000000) := by unfold rdb; rw [if_neg hh, good_fmtN]
    by_cases h : n.toNat < 1000000000000
    · refine .inl ⟨by rw [e1]; simpa using h, by omega, by omega, ?_⟩
      unfold rdv; rw [e1, decide_eq_true h, if_pos rfl, if_neg hh, (fmtN_back _).2.1]; omega
    · exact .inr ⟨by rw [e1]; simpa using h, by omega⟩
  · rw [fmt_neg n (by omega)]
    have hh : (45 :: fmtN (-n).toNat).head? = some 45 := rfl
    have e1 : rdb 12 (45 :: fmtN (-n).toNat) = decide ((-n).toNat < 1000000000000) := by
      unfold rdb; rw [if_pos hh, List.tail_cons, good_fmtN, (fmtN_back _).2.1, decide_eq_true (show 0 < (-n).toNat by omega)]; simp
    by_cases h : (-n).toNat < 1000000000000
    · refine .inl ⟨by rw [e1]; simpa using h, by omega, by omega, ?_⟩
      unfold rdv; rw [e1, decide_eq_true h, if_pos rfl, if_pos hh, List.tail_cons, (fmtN_back _).2.1]; omega
    · exact .inr ⟨by rw [e1]; simpa using h, by omega⟩
end Dec

namespace Glue
theorem upto_app (l m : List ByteArray) (by_ : List UInt8) (k : Nat) (hk : k ≤ l.length) : upto (l ++ m) by_ k = upto l by_ k := by
  induction k with
  | zero => rfl
  | succ k ih =>
    show upto (l ++ m) by_ k ++ (if k = 0 then [] else by_) ++ ((l ++ m).getD k ByteArray.empty).data.toList = upto l by_ k ++ (if k = 0 then [] else by_) ++ (l.getD k ByteArray.empty).data.toList
    rw [ih (by omega)]
    have : (l ++ m).getD k ByteArray.empty = l.getD k ByteArray.empty := by
      simp [List.getD, List.getElem?_append_left (show k < l.length by omega)]
    rw [this]
theorem upto_snoc (l : List ByteArray) (x : ByteArray) (by_ : List UInt8) : upto (l ++ [x]) by_ (l ++ [x]).length = upto l by_ l.length ++ (if l = [] then [] else by_) ++ x.data.toList := by
  rw [List.length_append, List.length_singleton]
  show upto (l ++ [x]) by_ l.length ++ (if l.length = 0 then [] else by_) ++ ((l ++ [x]).getD l.length ByteArray.empty).data.toList = _
  rw [upto_app l [x] by_ l.length (Nat.le_refl _)]
  have e : (l ++ [x]).getD l.length ByteArray.empty = x := by simp [List.getD]
  rw [e]
  by_cases h : l = []
  · subst h; rfl
  · rw [if_neg h, if_neg (by rw [List.length_eq_zero_iff]; exact h)]
end Glue

theorem ext_list (s : ByteArray) (a c : Nat) : (s.extract a c).data.toList = (s.data.toList.drop a).take (c - a) := by
  simp only [ByteArray.data_extract, Array.toList_extract, List.extract_eq_take_drop]

/-- What has been split off, joined, is the beginning of the string. -/
theorem cut_glue (s : ByteArray) (b : Int) (k : Nat) (hk : k ≤ s.size) : Glue.upto (Cut.to s b k).1 [UInt8.ofNat b.toNat] (Cut.to s b k).1.length ++ (if (Cut.to s b k).1 = [] then [] else [UInt8.ofNat b.toNat]) = s.data.toList.take (Cut.to s b k).2 := by
  induction k with
  | zero => rfl
  | succ k ih =>
    have hlt : k < s.size := hk
    have ih := ih (by omega)
    have hle := (Cut.to_le s b k).2
    by_cases e : (s[k].toNat : Int) = b
    · rw [Cut.to_hit hlt e]
      simp only []
      rw [Glue.upto_snoc, ih, if_neg (by simp), ext_list]
      have hl : k < s.data.toList.length := hlt
      have e2 : UInt8.ofNat b.toNat = s.data.toList[k] := by
        apply UInt8.toNat_inj.1
        have h1 : (s.data.toList[k]).toNat = b.toNat := by
          have h2 : s.data.toList[k] = s[k] := rfl
          rw [h2]; omega
        rw [← h1, UInt8.toNat_ofNat']
        exact Nat.mod_eq_of_lt (UInt8.toNat_lt _)
      rw [e2, List.take_succ_eq_append_getElem hl]
      congr 1
      have e3 := List.take_append_drop (Cut.to s b k).2 (s.data.toList.take k)
      rw [List.take_take, Nat.min_eq_left hle, List.drop_take] at e3
      exact e3
    · rw [Cut.to_miss hlt e]; exact ih

/-- Joining what was split gives the string again. -/
theorem cut_join (s : ByteArray) (b : Int) (hs : s.size ≤ 1048576) : Glue.joined (Cut.all s b) [UInt8.ofNat b.toNat] = s.data.toList := by
  have e : Glue.upto (Cut.all s b) [UInt8.ofNat b.toNat] (Cut.all s b).length = s.data.toList := by
    unfold Cut.all
    rw [Glue.upto_snoc, cut_glue s b s.size (Nat.le_refl _), ext_list]
    have hle := (Cut.to_le s b s.size).2
    have e2 : (s.data.toList.drop (Cut.to s b s.size).2).take (s.size - (Cut.to s b s.size).2) = s.data.toList.drop (Cut.to s b s.size).2 :=
      List.take_of_length_le (by rw [List.length_drop]; exact Nat.le_refl _)
    rw [e2]
    exact List.take_append_drop _ _
  rw [Glue.joined_yes (by rw [e]; exact hs), e]
end Go.Proofs.YtlbidfegcfcaiaaDoor
