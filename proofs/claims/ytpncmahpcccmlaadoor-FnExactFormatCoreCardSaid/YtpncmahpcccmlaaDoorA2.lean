/- Core trees in text, and how long the texts are. Plain. No conditions. -/
import Derived.Test.YtpncmahpcccmlaaDoorH1
import Derived.Test.YtpncmahpcccmlaaDoorA1
import Derived.Test.YtpncmahpcccmlaaDoorL1
import Derived.Test.YtpncmahpcccmlaaDoorM1
import Derived.Lib.Join
namespace Go.Proofs.YtpncmahpcccmlaaDoor.Co
open Go
set_option linter.unusedVariables false

/-- The form of a node without that of its kids. -/
def lab (k p n : Int) (t : ByteArray) : List UInt8 :=
  if k = 2 ∨ k = 3 then (coN k).data.toList ++ [58] ++ Lt.quo 34 t.data.toList
  else if k = 11 then (coN k).data.toList ++ [58] ++ (opT p).data.toList
  else if k = 1 ∨ (5 ≤ k ∧ k ≤ 10) then (coN k).data.toList ++ [58] ++ Dec.fmt n
  else (coN k).data.toList
/-- Forms of kids, in brackets. -/
def inB (fs : List (List UInt8)) : List UInt8 := if fs = [] then [] else [40] ++ Lib.join fs [44, 32] ++ [41]
mutual
/-- The form of a tree. -/
def T.form : T → List UInt8
  | .node k p n _ t ks => lab k p n t ++ inB (forms ks)
def forms : List T → List (List UInt8)
  | [] => []
  | x :: r => x.form :: forms r
end
def T.lab (t : T) : List UInt8 := Co.lab t.kind t.op t.num t.text
theorem forms_map (ks : List T) : forms ks = ks.map T.form := by
  induction ks with
  | nil => rw [forms]; rfl
  | cons x r ih => rw [forms, ih]; rfl
theorem form_eq (t : T) : t.form = t.lab ++ inB (forms t.kids) := by cases t; rw [T.form]; rfl
/-- What stands behind a node's own form when k kids are written. -/
def body (ks : List T) (k : Nat) : List UInt8 := if k = 0 then [] else [40] ++ Lib.join (forms (ks.take k)) [44, 32]
theorem body_zero (ks : List T) : body ks 0 = [] := rfl
theorem join_snoc2 (xs : List (List UInt8)) (y sep : List UInt8) (h : xs ≠ []) : Lib.join (xs ++ [y]) sep = Lib.join xs sep ++ sep ++ y := by
  cases xs with
  | nil => exact absurd rfl h
  | cons x r =>
    rw [List.cons_append, Lib.join_cons, Lib.join_cons]
    simp [Lib.joinTail]
theorem body_first (ks : List T) (h : 0 < ks.length) : ([40] : List UInt8) ++ ks[0].form = body ks 1 := by
  unfold body
  rw [if_neg (by decide), List.take_succ_eq_append_getElem h, List.take_zero, List.nil_append, forms_map]
  simp [Lib.join_one]
theorem body_next (ks : List T) (k : Nat) (h : k < ks.length) (h0 : 0 < k) : body ks k ++ ([44, 32] : List UInt8) ++ ks[k].form = body ks (k + 1) := by
  unfold body
  rw [if_neg (by omega), if_neg (by omega), List.take_succ_eq_append_getElem h, forms_map, forms_map, List.map_append, List.map_singleton, join_snoc2 _ _ _ (by
    intro e
    have := congrArg List.length e
    rw [List.length_map, List.length_take, List.length_nil] at this
    omega)]
  simp
theorem body_all (ks : List T) (h : 0 < ks.length) : body ks ks.length ++ ([41] : List UInt8) = inB (forms ks) := by
  unfold body inB
  rw [if_neg (by omega), List.take_length, if_neg (by
    intro e
    have := congrArg List.length e
    rw [forms_map, List.length_map, List.length_nil] at this
    omega)]
theorem inB_nil : inB [] = [] := rfl
/-- How long labels are. -/
theorem atL_len {l : List ByteArray} {b : Nat} (h : l.all (fun x => decide (x.size ≤ b)) = true) (k : Nat) : (atL l k).size ≤ b := by
  unfold atL
  cases hk : l[k]? with
  | none => exact Nat.zero_le _
  | some x => exact of_decide_eq_true (List.all_eq_true.1 h x (List.mem_of_getElem? hk))
theorem coN_len (k : Int) : (coN k).size ≤ 11 := by
  unfold coN
  split
  · split
    · exact atL_len (by decide) _
    · decide
  · decide
theorem app_size (a b : ByteArray) : (a ++ b).size = a.size + b.size := by simp
theorem opT_len (p : Int) : (opT p).size ≤ 7 := by
  unfold opT
  split
  · rw [app_size]
    have := atL_len (l := opL) (b := 5) (by decide) (p - 200).toNat
    have : setB.size = 2 := rfl
    omega
  · split
    · have := atL_len (l := opL) (b := 5) (by decide) p.toNat
      omega
    · decide
theorem fmt_len {n : Int} (h0 : -9223372036854775808 ≤ n) (h1 : n ≤ 9223372036854775807) : (Dec.fmt n).length ≤ 21 := by
  have hd : (Dec.digs n.natAbs).length ≤ 20 := by
    have : n.natAbs ≤ 9223372036854775808 := by omega
    exact Dec.digs_lt 20 n.natAbs (Nat.lt_of_le_of_lt this (by decide))
  unfold Dec.fmt
  split
  · decide
  · split
    · rw [List.length_cons]; omega
    · omega
theorem quo_len (t : ByteArray) : (Lt.quo 34 t.data.toList).length ≤ 4 * t.size + 2 := by
  unfold Lt.quo
  have h1 := Lt.els_len 34 t.data.toList
  have h2 : t.data.toList.length = t.size := rfl
  simp only [List.length_cons, List.length_append, List.length_nil]; omega
theorem lab_len {k p n : Int} {t : ByteArray} (h0 : -9223372036854775808 ≤ n) (h1 : n ≤ 9223372036854775807) : (lab k p n t).length ≤ 4 * t.size + 40 := by
  have a := coN_len k
  have b := opT_len p
  have c := fmt_len h0 h1
  have d := quo_len t
  have e : ∀ s : ByteArray, s.data.toList.length = s.size := fun _ => rfl
  unfold lab
  repeat' split
  all_goals (simp only [List.length_append, List.length_cons, List.length_nil, e]; omega)
theorem join_len2 (xs : List (List UInt8)) : (Lib.join xs [44, 32]).length ≤ (xs.map fun x => x.length + 2).sum := by
  cases xs with
  | nil => simp [Lib.join_nil]
  | cons x r =>
    rw [Lib.join_cons, List.length_append, Lib.joinTail_length]
    simp only [List.map_cons, List.sum_cons]
    have : 2 * r.length + Lib.lens r = (r.map fun x => x.length + 2).sum := by
      induction r with
      | nil => simp [Lib.lens]
      | cons y r ih =>
        simp only [List.map_cons, List.sum_cons, List.length_cons, Lib.lens] at ih ⊢
        omega
    have e : ([44, 32] : List UInt8).length = 2 := rfl
    rw [e]
    omega
/-- How long forms are. -/
theorem form_len : ∀ (N : Nat) (t : T), t.count ≤ N → t.Ok → t.form.length ≤ 4 * t.bulk + 44 * t.count := by
  intro N
  induction N with
  | zero => intro t h; have := count_pos t; omega
  | succ N ih =>
    intro t h hok
    cases t with
    | node k p n l t ks =>
      rw [T.count] at h ⊢
      rw [T.bulk]
      rw [T.Ok] at hok
      have hl := lab_len (k := k) (p := p) (t := t) hok.2.2.1.1 hok.2.2.1.2
      have hoks := hok.2.2.2.2.2
      rw [T.form, List.length_append]
      have hs : ∀ l : List T, counts l ≤ N → Oks l → ((forms l).map fun x => x.length + 2).sum ≤ 4 * bulks l + 44 * counts l + 2 * l.length := by
        intro l
        induction l with
        | nil => intro _ _; simp [forms]
        | cons y r ih2 =>
          intro h2 ho2
          rw [counts] at h2 ⊢
          rw [Oks] at ho2
          rw [bulks, forms, List.length_cons, List.map_cons, List.sum_cons]
          have a := ih y (by omega) ho2.1
          have b := ih2 (by omega) ho2.2
          omega
      have h3 := hs ks (by omega) hoks
      have h4 := join_len2 (forms ks)
      have h5 : (inB (forms ks)).length ≤ (Lib.join (forms ks) [44, 32]).length + 2 := by
        unfold inB
        split
        · simp
        · simp only [List.length_append, List.length_cons, List.length_nil]; omega
      omega
end Go.Proofs.YtpncmahpcccmlaaDoor.Co
