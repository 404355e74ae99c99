/- Joined texts: Y1, Y2. No conditions besides those that each states. -/
import Derived.Lib.Join
import Derived.Test.YtiiogpafgoeblaaZ14
import Derived.Test.YtiiogpafgoeblaaZ15
/- Printed forms of trees. No conditions. -/
namespace Go.Proofs.Ytiiogpafgoeblaa
open Go.RowKit
set_option linter.unusedVariables false

namespace Ex
/-- The level of a tree by its kind and text. -/
def levK (k : Int) (x : List UInt8) : Int := if k = 7 then 12 else if k = 27 then 12 else if k = 8 then Ex.lvl x else if k = 9 then 4 else if k = 15 ∨ k = 16 ∨ k = 17 ∨ k = 18 ∨ k = 19 ∨ k = 20 ∨ k = 21 ∨ k = 22 ∨ k = 24 ∨ k = 26 then 0 else 13
def T.lev (t : T) : Int := levK t.kind t.text.data.toList
/-- A form in brackets, or as it is. -/
def brk (b : Bool) (l : List UInt8) : List UInt8 := if b then [40] ++ l ++ [41] else l
/-- A kid as it is printed: level, kind, form. -/
structure Pk where
  lev : Int
  kind : Int
  form : List UInt8
def Pk.fit (p : Pk) (n : Int) : List UInt8 := brk (decide (p.lev < n)) p.form
def nth (ps : List Pk) (i : Nat) : Pk := ps.getD i ⟨0, 0, []⟩
/-- Forms with something between them. -/
def seps (ps : List Pk) (sep : List UInt8) : List UInt8 := Lib.join (ps.map fun p => p.fit 0) sep
/-- A word before each kid. -/
def wordsTo (ws : List (List UInt8)) (ps : List Pk) : Nat → List UInt8
  | 0 => ws.headD []
  | k + 1 => wordsTo ws ps k ++ (if k = 0 then [] else [32] ++ ws.getD k []) ++ [32] ++ (nth ps k).fit 1
def wordsF (ws : List (List UInt8)) (ps : List Pk) : List UInt8 := wordsTo ws ps ps.length
/-- The branches of a case. -/
def brs : List Pk → List (List UInt8)
  | a :: b :: r => (a.fit 1 ++ [32, 58, 32] ++ b.fit 1) :: brs r
  | [d] => [[100, 101, 102, 97, 117, 108, 116, 32, 58, 32] ++ d.fit 1]
  | [] => []
def setF (t : ByteArray) : List UInt8 := (qcS (Cs.newL t) (Cs.newH t)).data.toList

def ws15 : List (List UInt8) := [[105, 102], [116, 104, 101, 110], [101, 108, 115, 101]]
def ws16 : List (List UInt8) := [[119, 104, 105, 108, 101], [100, 111]]
def ws17 : List (List UInt8) := [[117, 110, 116, 105, 108], [100, 111]]
def ws18 : List (List UInt8) := [[101, 118, 101, 114, 121], [100, 111]]
def ws19 : List (List UInt8) := [[114, 101, 112, 101, 97, 116]]
def ws21 : List (List UInt8) := [[114, 101, 116, 117, 114, 110]]
def ws22 : List (List UInt8) := [[115, 117, 115, 112, 101, 110, 100], [100, 111]]
def ws24 : List (List UInt8) := [[98, 114, 101, 97, 107]]
def ws26 : List (List UInt8) := [[99, 114, 101, 97, 116, 101]]
def lowL (b : Int) : Int := if b = 3 ∨ b = 10 then b + 1 else b
def lowR (b : Int) : Int := if b = 3 ∨ b = 10 then b else b + 1
/-- The form of a node, from its kids'. -/
def formK (k : Int) (t : ByteArray) (n : Int) (ps : List Pk) : List UInt8 :=
  if k = 1 then Dec.fmt n else if k = 2 then Lt.quo 34 t.data.toList else if k = 3 then setF t else if k = 4 then t.data.toList
  else if k = 5 then [38] ++ t.data.toList
  else if k = 6 then [91] ++ seps ps [44, 32] ++ [93]
  else if k = 7 then t.data.toList ++ (if (nth ps 0).kind = 7 then brk true (nth ps 0).form else (nth ps 0).fit 12)
  else if k = 8 then (nth ps 0).fit (lowL (Ex.lvl t.data.toList)) ++ [32] ++ t.data.toList ++ [32] ++ (nth ps 1).fit (lowR (Ex.lvl t.data.toList))
  else if k = 9 then (nth ps 0).fit 4 ++ [32, 116, 111, 32] ++ (nth ps 1).fit 5 ++ (if ps.length = 3 then [32, 98, 121, 32] ++ (nth ps 2).fit 5 else [])
  else if k = 10 then (nth ps 0).fit 13 ++ [40] ++ seps (ps.drop 1) [44, 32] ++ [41]
  else if k = 11 then (nth ps 0).fit 13 ++ [91] ++ (nth ps 1).fit 0 ++ [93]
  else if k = 12 then (nth ps 0).fit 13 ++ [91] ++ (nth ps 1).fit 1 ++ [32, 58, 32] ++ (nth ps 2).fit 0 ++ [93]
  else if k = 13 then (nth ps 0).fit 13 ++ [46] ++ t.data.toList
  else if k = 14 then [123] ++ seps ps [59, 32] ++ [125]
  else if k = 15 then wordsF ws15 ps
  else if k = 16 then wordsF ws16 ps
  else if k = 17 then wordsF ws17 ps
  else if k = 18 then wordsF ws18 ps
  else if k = 19 then wordsF ws19 ps
  else if k = 20 then [99, 97, 115, 101, 32] ++ (nth ps 0).fit 1 ++ [32, 111, 102, 32, 123] ++ Lib.join (brs (ps.drop 1)) [59, 32] ++ [125]
  else if k = 21 then wordsF ws21 ps else if k = 22 then wordsF ws22 ps else if k = 23 then [102, 97, 105, 108] else if k = 24 then wordsF ws24 ps else if k = 25 then [110, 101, 120, 116] else if k = 26 then wordsF ws26 ps
  else if k = 27 then [110, 111, 116, 32] ++ (nth ps 0).fit 12 else if k = 28 then [100, 101, 102, 101, 114, 32] ++ t.data.toList
  else [40] ++ seps ps [44, 32] ++ [41]
mutual
/-- The form of a tree. -/
def T.form : T → List UInt8
  | .node k t n l ks => formK k t n (parts ks)
def parts : List T → List Pk
  | [] => []
  | x :: r => ⟨x.lev, x.kind, x.form⟩ :: parts r
end
def T.pk (x : T) : Pk := ⟨x.lev, x.kind, x.form⟩
/-- A tree as it is printed where at least a level is required. -/
def T.fit (x : T) (n : Int) : List UInt8 := brk (decide (x.lev < n)) x.form
theorem fit_pk (x : T) (n : Int) : x.pk.fit n = x.fit n := rfl
theorem parts_map (ks : List T) : parts ks = ks.map T.pk := by
  induction ks with
  | nil => rw [parts]; rfl
  | cons x r ih => rw [parts, ih]; rfl
theorem parts_len (ks : List T) : (parts ks).length = ks.length := by rw [parts_map, List.length_map]
theorem form_eq (t : T) : t.form = formK t.kind t.text t.num (parts t.kids) := by cases t; rw [T.form]; rfl
theorem nth_at {ks : List T} {i : Nat} (h : i < ks.length) : nth (parts ks) i = ks[i].pk := by
  unfold nth
  rw [parts_map, List.getD_eq_getElem?_getD, List.getElem?_map, List.getElem?_eq_getElem h]; rfl
end Ex

namespace Ex
theorem form_1 (t : T) (h : t.kind = 1) : t.form = Dec.fmt t.num := by rw [form_eq, h]; rfl
theorem form_2 (t : T) (h : t.kind = 2) : t.form = Lt.quo 34 t.text.data.toList := by rw [form_eq, h]; rfl
theorem form_3 (t : T) (h : t.kind = 3) : t.form = setF t.text := by rw [form_eq, h]; rfl
theorem form_4 (t : T) (h : t.kind = 4) : t.form = t.text.data.toList := by rw [form_eq, h]; rfl
theorem form_5 (t : T) (h : t.kind = 5) : t.form = [38] ++ t.text.data.toList := by rw [form_eq, h]; rfl
theorem form_6 (t : T) (h : t.kind = 6) : t.form = [91] ++ seps (parts t.kids) [44, 32] ++ [93] := by rw [form_eq, h]; rfl
theorem form_7 (t : T) (h : t.kind = 7) : t.form = t.text.data.toList ++ (if (nth (parts t.kids) 0).kind = 7 then brk true (nth (parts t.kids) 0).form else (nth (parts t.kids) 0).fit 12) := by rw [form_eq, h]; rfl
theorem form_8 (t : T) (h : t.kind = 8) : t.form = (nth (parts t.kids) 0).fit (lowL (Ex.lvl t.text.data.toList)) ++ [32] ++ t.text.data.toList ++ [32] ++ (nth (parts t.kids) 1).fit (lowR (Ex.lvl t.text.data.toList)) := by rw [form_eq, h]; rfl
theorem form_9 (t : T) (h : t.kind = 9) : t.form = (nth (parts t.kids) 0).fit 4 ++ [32, 116, 111, 32] ++ (nth (parts t.kids) 1).fit 5 ++ (if t.kids.length = 3 then [32, 98, 121, 32] ++ (nth (parts t.kids) 2).fit 5 else []) := by rw [form_eq, h, show t.kids.length = (parts t.kids).length from (parts_len _).symm]; rfl
theorem form_10 (t : T) (h : t.kind = 10) : t.form = (nth (parts t.kids) 0).fit 13 ++ [40] ++ seps ((parts t.kids).drop 1) [44, 32] ++ [41] := by rw [form_eq, h]; rfl
theorem form_11 (t : T) (h : t.kind = 11) : t.form = (nth (parts t.kids) 0).fit 13 ++ [91] ++ (nth (parts t.kids) 1).fit 0 ++ [93] := by rw [form_eq, h]; rfl
theorem form_12 (t : T) (h : t.kind = 12) : t.form = (nth (parts t.kids) 0).fit 13 ++ [91] ++ (nth (parts t.kids) 1).fit 1 ++ [32, 58, 32] ++ (nth (parts t.kids) 2).fit 0 ++ [93] := by rw [form_eq, h]; rfl
theorem form_13 (t : T) (h : t.kind = 13) : t.form = (nth (parts t.kids) 0).fit 13 ++ [46] ++ t.text.data.toList := by rw [form_eq, h]; rfl
theorem form_14 (t : T) (h : t.kind = 14) : t.form = [123] ++ seps (parts t.kids) [59, 32] ++ [125] := by rw [form_eq, h]; rfl
theorem form_15 (t : T) (h : t.kind = 15) : t.form = wordsF ws15 (parts t.kids) := by rw [form_eq, h]; rfl
theorem form_16 (t : T) (h : t.kind = 16) : t.form = wordsF ws16 (parts t.kids) := by rw [form_eq, h]; rfl
theorem form_17 (t : T) (h : t.kind = 17) : t.form = wordsF ws17 (parts t.kids) := by rw [form_eq, h]; rfl
theorem form_18 (t : T) (h : t.kind = 18) : t.form = wordsF ws18 (parts t.kids) := by rw [form_eq, h]; rfl
theorem form_19 (t : T) (h : t.kind = 19) : t.form = wordsF ws19 (parts t.kids) := by rw [form_eq, h]; rfl
theorem form_20 (t : T) (h : t.kind = 20) : t.form = [99, 97, 115, 101, 32] ++ (nth (parts t.kids) 0).fit 1 ++ [32, 111, 102, 32, 123] ++ Lib.join (brs ((parts t.kids).drop 1)) [59, 32] ++ [125] := by rw [form_eq, h]; rfl
theorem form_21 (t : T) (h : t.kind = 21) : t.form = wordsF ws21 (parts t.kids) := by rw [form_eq, h]; rfl
theorem form_22 (t : T) (h : t.kind = 22) : t.form = wordsF ws22 (parts t.kids) := by rw [form_eq, h]; rfl
theorem form_23 (t : T) (h : t.kind = 23) : t.form = [102, 97, 105, 108] := by rw [form_eq, h]; rfl
theorem form_24 (t : T) (h : t.kind = 24) : t.form = wordsF ws24 (parts t.kids) := by rw [form_eq, h]; rfl
theorem form_25 (t : T) (h : t.kind = 25) : t.form = [110, 101, 120, 116] := by rw [form_eq, h]; rfl
theorem form_26 (t : T) (h : t.kind = 26) : t.form = wordsF ws26 (parts t.kids) := by rw [form_eq, h]; rfl
theorem form_27 (t : T) (h : t.kind = 27) : t.form = [110, 111, 116, 32] ++ (nth (parts t.kids) 0).fit 12 := by rw [form_eq, h]; rfl
theorem form_28 (t : T) (h : t.kind = 28) : t.form = [100, 101, 102, 101, 114, 32] ++ t.text.data.toList := by rw [form_eq, h]; rfl
theorem form_29 (t : T) (h : t.kind = 29) : t.form = [40] ++ seps (parts t.kids) [44, 32] ++ [41] := by rw [form_eq, h]; rfl
end Ex
end Go.Proofs.Ytiiogpafgoeblaa
/- How long printed forms are. No conditions. -/
namespace Go.Proofs.Ytiiogpafgoeblaa
open Go.RowKit
set_option linter.unusedVariables false

namespace Ex
theorem brk_len (b : Bool) (l : List UInt8) : (brk b l).length ≤ l.length + 2 := by unfold brk; split <;> simp
theorem pfit_len (p : Pk) (n : Int) : (p.fit n).length ≤ p.form.length + 2 := brk_len _ _
/-- The weight of kids. -/
def wsum8 : List Pk → Nat
  | [] => 0
  | p :: r => p.form.length + 16 + wsum8 r
theorem nth_cons (p : Pk) (r : List Pk) : nth (p :: r) 0 = p := rfl
theorem nth_succ (p : Pk) (r : List Pk) (i : Nat) : nth (p :: r) (i + 1) = nth r i := rfl
theorem nth_nil (i : Nat) : nth [] i = ⟨0, 0, []⟩ := rfl
theorem nth1_len (ps : List Pk) : (nth ps 0).form.length + (if ps.length = 0 then 0 else 16) ≤ wsum8 ps := by
  cases ps with
  | nil => simp [nth_nil, wsum8]
  | cons p r => rw [nth_cons, wsum8]; simp
theorem nth3_len (ps : List Pk) : (nth ps 0).form.length + (nth ps 1).form.length + (nth ps 2).form.length ≤ wsum8 ps := by
  match ps with
  | [] => simp [nth_nil]
  | [a] => simp [nth_cons, nth_succ, nth_nil, wsum8]
  | [a, b] => simp [nth_cons, nth_succ, nth_nil, wsum8] <;> omega
  | a :: b :: c :: r => simp [nth_cons, nth_succ, wsum8] <;> omega
theorem join_len (xs : List (List UInt8)) (sep : List UInt8) : (Lib.join xs sep).length ≤ (xs.map fun x => x.length + sep.length).sum := by
  cases xs with
  | nil => simp [Lib.join_nil]
  | cons x r =>
    rw [Lib.join_cons, List.length_append, Lib.joinTail_length]
    simp only [List.map_cons, List.sum_cons]
    have : sep.length * r.length + Lib.lens r = (r.map fun x => x.length + sep.length).sum := by
      induction r with
      | nil => simp [Lib.lens]
      | cons y r ih =>
        simp only [List.map_cons, List.sum_cons, List.length_cons, Lib.lens] at ih ⊢
        rw [Nat.mul_succ]; omega
    omega
theorem seps_len (ps : List Pk) (sep : List UInt8) (h : sep.length ≤ 2) : (seps ps sep).length ≤ wsum8 ps := by
  unfold seps
  refine Nat.le_trans (join_len _ _) ?_
  induction ps with
  | nil => simp
  | cons p r ih =>
    simp only [List.map_cons, List.sum_cons, wsum8]
    have := pfit_len p 0
    omega
theorem seps_drop_len (ps : List Pk) (sep : List UInt8) (h : sep.length ≤ 2) : (nth ps 0).form.length + (seps (ps.drop 1) sep).length ≤ wsum8 ps := by
  cases ps with
  | nil => simp [nth_nil, seps, Lib.join_nil, wsum8]
  | cons p r =>
    have := seps_len r sep h
    rw [nth_cons, wsum8, List.drop_one, List.tail_cons]; omega
theorem brs_len : ∀ (n : Nat) (ps : List Pk), ps.length ≤ n → ((brs ps).map fun x => x.length + 2).sum ≤ wsum8 ps := by
  intro n
  induction n with
  | zero => intro ps h; obtain rfl : ps = [] := List.length_eq_zero_iff.1 (by omega); simp [brs]
  | succ n ih =>
    intro ps h
    match ps with
    | [] => simp [brs]
    | [d] =>
      have := pfit_len d 1
      simp [brs, wsum8]; omega
    | a :: b :: r =>
      have h1 := pfit_len a 1
      have h2 := pfit_len b 1
      have h3 := ih r (by simp at h; omega)
      simp only [brs, wsum8, List.map_cons, List.sum_cons, List.length_append, List.length_cons, List.length_nil]; omega
theorem brs_join_len (ps : List Pk) : (nth ps 0).form.length + (Lib.join (brs (ps.drop 1)) [59, 32]).length ≤ wsum8 ps := by
  cases ps with
  | nil => simp [nth_nil, brs, Lib.join_nil, wsum8]
  | cons p r =>
    have h1 := join_len (brs r) [59, 32]
    have h2 := brs_len _ r (Nat.le_refl _)
    rw [nth_cons, wsum8, List.drop_one, List.tail_cons]
    simp only [List.length_cons, List.length_nil, Nat.zero_add, Nat.reduceAdd] at h1
    omega
theorem wsum_take (ps : List Pk) (k : Nat) (h : k < ps.length) : wsum8 (ps.take (k + 1)) = wsum8 (ps.take k) + ((nth ps k).form.length + 16) := by
  induction ps generalizing k with
  | nil => simp at h
  | cons p r ih =>
    cases k with
    | zero => simp [wsum8, nth_cons]
    | succ k =>
      rw [List.take_succ_cons, wsum8, List.take_succ_cons, wsum8, nth_succ, ih k (by simpa using h)]; omega
theorem words_to_len (ws : List (List UInt8)) (ps : List Pk) (hw : ∀ w ∈ ws, w.length ≤ 7) : ∀ k, k ≤ ps.length → (wordsTo ws ps k).length ≤ 7 + wsum8 (ps.take k) := by
  intro k
  induction k with
  | zero =>
    intro _
    rw [wordsTo]
    cases ws with
    | nil => simp
    | cons w r => have := hw w (List.mem_cons_self); simp only [List.headD_cons]; omega
  | succ k ih =>
    intro hk
    have h1 := ih (by omega)
    have h2 := pfit_len (nth ps k) 1
    have h3 : (ws.getD k []).length ≤ 7 := by
      rw [List.getD_eq_getElem?_getD]
      cases h : ws[k]? with
      | none => simp
      | some w => exact hw w (List.mem_of_getElem? h)
    rw [wordsTo, wsum_take ps k (by omega)]
    simp only [List.length_append, List.length_cons, List.length_nil]
    split
    · simp only [List.length_nil]; omega
    · simp only [List.length_append, List.length_cons, List.length_nil]; omega
theorem words_len (ws : List (List UInt8)) (ps : List Pk) (hw : ∀ w ∈ ws, w.length ≤ 7) : (wordsF ws ps).length ≤ 7 + wsum8 ps := by
  have := words_to_len ws ps hw ps.length (Nat.le_refl _)
  rw [List.take_length] at this; exact this
theorem set_len (t : ByteArray) : (setF t).length ≤ 514 := by
  unfold setF qcS
  rw [str8_list]
  unfold Lt.quo
  have h1 := Lt.els_len 39 (txt (Cs.text (Cs.newL t) (Cs.newH t))).data.toList
  have h2 : (txt (Cs.text (Cs.newL t) (Cs.newH t))).data.toList.length ≤ 128 := by
    have h : (Cs.text (Cs.newL t) (Cs.newH t)).length ≤ 128 := Cs.textTo_len _ _ 128
    rw [len8, txt_size]; exact h
  simp only [List.length_cons, List.length_append, List.length_nil]
  omega
theorem form_len_k (t : T) (k1 : 1 ≤ t.kind) (k2 : t.kind ≤ 29) (hs : t.text.size ≤ 128) (hn : 0 ≤ t.num) (hn2 : t.num ≤ 999999999999) : t.form.length ≤ 600 + wsum8 (parts t.kids) := by
  have hk : t.text.data.toList.length = t.text.size := rfl
  have h3 := nth3_len (parts t.kids)
  have s1 := seps_len (parts t.kids) [44, 32] (by decide)
  have s2 := seps_len (parts t.kids) [59, 32] (by decide)
  have s3 := seps_drop_len (parts t.kids) [44, 32] (by decide)
  have b1 := brs_join_len (parts t.kids)
  have f : ∀ i n, ((nth (parts t.kids) i).fit n).length ≤ (nth (parts t.kids) i).form.length + 2 := fun i n => pfit_len _ n
  have fb : (brk true (nth (parts t.kids) 0).form).length ≤ (nth (parts t.kids) 0).form.length + 2 := brk_len _ _
  have w : ∀ ws ∈ [ws15, ws16, ws17, ws18, ws19, ws21, ws22, ws24, ws26], (wordsF ws (parts t.kids)).length ≤ 7 + wsum8 (parts t.kids) := fun ws hws => words_len ws _ (by
    have : ∀ ws ∈ [ws15, ws16, ws17, ws18, ws19, ws21, ws22, ws24, ws26], ∀ w ∈ ws, w.length ≤ 7 := by decide
    exact this ws hws)
  have hd : (Dec.fmt t.num).length ≤ 13 := by
    rw [Dec.fmt_nn t.num hn]
    unfold Dec.fmtN
    split
    · decide
    · have := Dec.digs_lt 12 t.num.toNat (by have : t.num.toNat ≤ 999999999999 := by omega
                                             exact Nat.lt_of_le_of_lt this (by decide))
      omega
  have hc := set_len t.text
  have hq : (Lt.quo 34 t.text.data.toList).length ≤ 514 := by
    unfold Lt.quo
    have h1 := Lt.els_len 34 t.text.data.toList
    simp only [List.length_cons, List.length_append, List.length_nil]; omega
  have g0 := f 0
  have g1 := f 1
  have g2 := f 2
  have w15 := w ws15 (by simp)
  have w16 := w ws16 (by simp)
  have w17 := w ws17 (by simp)
  have w18 := w ws18 (by simp)
  have w19 := w ws19 (by simp)
  have w21 := w ws21 (by simp)
  have w22 := w ws22 (by simp)
  have w24 := w ws24 (by simp)
  have w26 := w ws26 (by simp)
  clear w f
  have hc29 : t.kind = 1 ∨ t.kind = 2 ∨ t.kind = 3 ∨ t.kind = 4 ∨ t.kind = 5 ∨ t.kind = 6 ∨ t.kind = 7 ∨ t.kind = 8 ∨ t.kind = 9 ∨ t.kind = 10 ∨ t.kind = 11 ∨ t.kind = 12 ∨ t.kind = 13 ∨ t.kind = 14 ∨ t.kind = 15 ∨ t.kind = 16 ∨ t.kind = 17 ∨ t.kind = 18 ∨ t.kind = 19 ∨ t.kind = 20 ∨ t.kind = 21 ∨ t.kind = 22 ∨ t.kind = 23 ∨ t.kind = 24 ∨ t.kind = 25 ∨ t.kind = 26 ∨ t.kind = 27 ∨ t.kind = 28 ∨ t.kind = 29 := by omega
  rcases hc29 with h | h | h | h | h | h | h | h | h | h | h | h | h | h | h | h | h | h | h | h | h | h | h | h | h | h | h | h | h
  · rw [form_1 t h]; (try simp only [List.length_append, List.length_cons, List.length_nil]); omega
  · rw [form_2 t h]; (try simp only [List.length_append, List.length_cons, List.length_nil]); omega
  · rw [form_3 t h]; (try simp only [List.length_append, List.length_cons, List.length_nil]); omega
  · rw [form_4 t h]; (try simp only [List.length_append, List.length_cons, List.length_nil]); omega
  · rw [form_5 t h]; (try simp only [List.length_append, List.length_cons, List.length_nil]); omega
  · rw [form_6 t h]; (try simp only [List.length_append, List.length_cons, List.length_nil]); omega
  · rw [form_7 t h, List.length_append]; have a0 := g0 12; split <;> omega
  · rw [form_8 t h]; have a0 := g0 (lowL (Ex.lvl t.text.data.toList)); have a1 := g1 (lowR (Ex.lvl t.text.data.toList)); (try simp only [List.length_append, List.length_cons, List.length_nil]); omega
  · rw [form_9 t h]; have a0 := g0 4; have a1 := g1 5; have a2 := g2 5; split <;> (try simp only [List.length_append, List.length_cons, List.length_nil]) <;> omega
  · rw [form_10 t h]; have a0 := g0 13; (try simp only [List.length_append, List.length_cons, List.length_nil]); omega
  · rw [form_11 t h]; have a0 := g0 13; have a1 := g1 0; (try simp only [List.length_append, List.length_cons, List.length_nil]); omega
  · rw [form_12 t h]; have a0 := g0 13; have a1 := g1 1; have a2 := g2 0; (try simp only [List.length_append, List.length_cons, List.length_nil]); omega
  · rw [form_13 t h]; have a0 := g0 13; (try simp only [List.length_append, List.length_cons, List.length_nil]); omega
  · rw [form_14 t h]; (try simp only [List.length_append, List.length_cons, List.length_nil]); omega
  · rw [form_15 t h]; (try simp only [List.length_append, List.length_cons, List.length_nil]); omega
  · rw [form_16 t h]; (try simp only [List.length_append, List.length_cons, List.length_nil]); omega
  · rw [form_17 t h]; (try simp only [List.length_append, List.length_cons, List.length_nil]); omega
  · rw [form_18 t h]; (try simp only [List.length_append, List.length_cons, List.length_nil]); omega
  · rw [form_19 t h]; (try simp only [List.length_append, List.length_cons, List.length_nil]); omega
  · rw [form_20 t h]; have a0 := g0 1; (try simp only [List.length_append, List.length_cons, List.length_nil]); omega
  · rw [form_21 t h]; (try simp only [List.length_append, List.length_cons, List.length_nil]); omega
  · rw [form_22 t h]; (try simp only [List.length_append, List.length_cons, List.length_nil]); omega
  · rw [form_23 t h]; show 4 ≤ _; omega
  · rw [form_24 t h]; (try simp only [List.length_append, List.length_cons, List.length_nil]); omega
  · rw [form_25 t h]; show 4 ≤ _; omega
  · rw [form_26 t h]; (try simp only [List.length_append, List.length_cons, List.length_nil]); omega
  · rw [form_27 t h]; have a0 := g0 12; (try simp only [List.length_append, List.length_cons, List.length_nil]); omega
  · rw [form_28 t h]; (try simp only [List.length_append, List.length_cons, List.length_nil]); omega
  · rw [form_29 t h]; (try simp only [List.length_append, List.length_cons, List.length_nil]); omega
end Ex
theorem words_short {k : Int} {s : ByteArray} (h : Ex.words k s = true) : s.size ≤ 128 := by
  have hl : s.data.toList.length = s.size := rfl
  have nm : Tk.isName s.data.toList = true → s.size ≤ 128 := fun hn => by
    unfold Tk.isName at hn
    simp only [Bool.and_eq_true, decide_eq_true_eq] at hn
    omega
  unfold Ex.words at h
  by_cases h2 : k = 2
  · rw [if_pos h2] at h; have := of_decide_eq_true h; omega
  rw [if_neg h2] at h
  by_cases h3 : k = 3
  · rw [if_pos h3, Bool.and_eq_true] at h
    have h4 := eq_of_beq h.2
    have h5 : (Cs.text (Cs.newL s) (Cs.newH s)).length ≤ 128 := Cs.textTo_len _ _ 128
    have h6 := congrArg List.length h4
    rw [ByteArray.toList_eq, ByteArray.toList_eq] at h6
    have h7 : (txt (Cs.text (Cs.newL s) (Cs.newH s))).data.toList.length = (txt (Cs.text (Cs.newL s) (Cs.newH s))).size := rfl
    rw [h7, txt_size, hl] at h6
    omega
  rw [if_neg h3] at h
  by_cases h4 : k = 4
  · rw [if_pos h4] at h; exact nm h
  rw [if_neg h4] at h
  by_cases h13 : k = 13
  · rw [if_pos h13] at h; exact nm h
  rw [if_neg h13] at h
  by_cases h28 : k = 28
  · rw [if_pos h28] at h; exact nm h
  rw [if_neg h28] at h
  have inl : ∀ (l : List (List UInt8)), (∀ w ∈ l, w.length ≤ 8) → hasW l s.data.toList = true → s.size ≤ 128 := fun l hl8 hh => by
    unfold hasW at hh
    have := hl8 _ (List.contains_iff_mem.1 hh)
    omega
  by_cases h5 : k = 5
  · rw [if_pos h5] at h; exact inl _ (by decide) h
  rw [if_neg h5] at h
  by_cases h7 : k = 7
  · rw [if_pos h7] at h; exact inl _ (by decide) h
  rw [if_neg h7] at h
  by_cases h8 : k = 8
  · rw [if_pos h8] at h
    have h9 := of_decide_eq_true h
    unfold Ex.lvl at h9
    cases hf : Ex.levels.find? (fun p => s.data.toList == p.1) with
    | none => rw [hf] at h9; simp at h9
    | some p =>
      have hm := List.mem_of_find?_eq_some hf
      have he := eq_of_beq (List.find?_some (p := fun p : List UInt8 × Int => s.data.toList == p.1) hf)
      have h10 : ∀ q ∈ Ex.levels, q.1.length ≤ 8 := by decide
      have := h10 _ hm
      rw [← he] at this
      omega
  rw [if_neg h8] at h
  rw [ByteArray.toList_eq] at h
  have := List.isEmpty_iff.1 h
  rw [this] at hl
  simp at hl; omega
/-- What is known of a valid tree. -/
theorem valid_parts {t : Ex.T} {d : Int} (h : t.valid d = true) : (1 ≤ t.kind ∧ t.kind ≤ 29) ∧ ((Ex.kidsOf t.kind).1 ≤ t.kids.length ∧ (t.kids.length : Int) ≤ (Ex.kidsOf t.kind).2) ∧ Ex.words t.kind t.text = true
    ∧ (if t.kind = 1 then 0 ≤ t.num ∧ t.num ≤ 999999999999 else if t.kind = 20 then 0 ≤ t.num ∧ t.num ≤ 1 ∧ ((t.kids.length : Int) - 1 - t.num).tmod 2 = 0 ∧ 1 + t.num ≤ t.kids.length else t.num = 0) ∧ (∀ x ∈ t.kids, x.valid (d + 1) = true) := by
  rw [Ex.valid_eq] at h
  unfold Ex.headB at h
  simp only [Bool.and_eq_true, decide_eq_true_eq] at h
  obtain ⟨⟨⟨⟨⟨⟨⟨⟨h1, h2⟩, h3⟩, h4⟩, h5⟩, h6⟩, h7⟩, h8⟩, h9⟩ := h
  refine ⟨⟨h2, h3⟩, ⟨h5, h6⟩, h7, ?_, ?_⟩
  · split
    · rename_i e; rw [if_pos e] at h8; simpa using h8
    · rename_i e; rw [if_neg e] at h8
      split
      · rename_i e2; rw [if_pos e2] at h8
        simp only [Bool.and_eq_true, decide_eq_true_eq] at h8
        exact ⟨h8.1.1.1, h8.1.1.2, h8.1.2, h8.2⟩
      · rename_i e2; rw [if_neg e2] at h8; exact eq_of_beq h8
  · intro x hx
    have : ∀ l : List Ex.T, Ex.valids l (d + 1) = true → ∀ x ∈ l, x.valid (d + 1) = true := by
      intro l
      induction l with
      | nil => intro _ x hx; cases hx
      | cons y r ih =>
        intro hl x hx
        rw [Ex.valids, Bool.and_eq_true] at hl
        rcases List.mem_cons.1 hx with rfl | hx
        · exact hl.1
        · exact ih hl.2 x hx
    exact this _ h9 x hx
theorem kidsOf_le (k : Int) : (Ex.kidsOf k).2 ≤ 24 := by
  by_cases h : 1 ≤ k ∧ k ≤ 29
  · obtain ⟨h1, h2⟩ := h
    have hc : k = 1 ∨ k = 2 ∨ k = 3 ∨ k = 4 ∨ k = 5 ∨ k = 6 ∨ k = 7 ∨ k = 8 ∨ k = 9 ∨ k = 10 ∨ k = 11 ∨ k = 12 ∨ k = 13 ∨ k = 14 ∨ k = 15 ∨ k = 16 ∨ k = 17 ∨ k = 18 ∨ k = 19 ∨ k = 20 ∨ k = 21 ∨ k = 22 ∨ k = 23 ∨ k = 24 ∨ k = 25 ∨ k = 26 ∨ k = 27 ∨ k = 28 ∨ k = 29 := by omega
    rcases hc with rfl | rfl | rfl | rfl | rfl | rfl | rfl | rfl | rfl | rfl | rfl | rfl | rfl | rfl | rfl | rfl | rfl | rfl | rfl | rfl | rfl | rfl | rfl | rfl | rfl | rfl | rfl | rfl | rfl <;> decide
  · unfold Ex.kidsOf
    have e : ∀ (n : Int) (a b : Int × Int), 1 ≤ n → n ≤ 29 → (if k = n then a else b) = b := fun n a b h1 h2 => if_neg (fun e => h ⟨by omega, by omega⟩)
    repeat rw [e _ _ _ (by decide) (by decide)]
    decide
theorem valid_num {t : Ex.T} {d : Int} (h : t.valid d = true) : 0 ≤ t.num ∧ t.num ≤ 999999999999 := by
  have h1 := (valid_parts h).2.2.2.1
  split at h1
  · exact h1
  · split at h1 <;> omega
/-- A valid tree's form is short. -/
theorem form_short : ∀ (N : Nat) (t : Ex.T), t.count ≤ N → ∀ d, t.valid d = true → t.form.length ≤ 1000 * t.count := by
  intro N
  induction N with
  | zero => intro t h; have := Ex.count_pos t; omega
  | succ N ih =>
    intro t hN d hv
    obtain ⟨hk, ⟨_, hz⟩, hw, _, hkids⟩ := valid_parts hv
    have hn := valid_num hv
    have h1 := Ex.form_len_k t hk.1 hk.2 (words_short hw) hn.1 hn.2
    have h2 := kidsOf_le t.kind
    have hz2 : t.kids.length ≤ 24 := by omega
    have hc := count_eq t
    have h3 : ∀ l : List Ex.T, (∀ x ∈ l, x.form.length ≤ 1000 * x.count) → Ex.wsum8 (Ex.parts l) ≤ 16 * l.length + 1000 * Ex.counts l := by
      intro l
      induction l with
      | nil => intro _; simp [Ex.parts, Ex.wsum8]
      | cons y r ih2 =>
        intro hl
        have a := hl y (List.mem_cons_self)
        have b := ih2 (fun x hx => hl x (List.mem_cons_of_mem _ hx))
        rw [Ex.parts, Ex.wsum8, Ex.counts, List.length_cons]
        simp only
        omega
    have h4 := h3 t.kids (fun x hx => ih x (by have := kids_count hx; omega) (d + 1) (hkids x hx))
    omega
end Go.Proofs.Ytiiogpafgoeblaa
