/- Joined texts: Q1. No conditions besides those that each states. -/
import Derived.Test.YtckjmmapekaapaaGreatDoorZ5
/- Plain facts on how the program reads tokens: gaps, the size of a literal, the longest operator. No conditions. -/
namespace Go.Proofs.YtckjmmapekaapaaGreatDoor.Tk
set_option linter.unusedVariables false

/-- The line feeds of a text. -/
def nls (l : List UInt8) : Nat := l.count 10
theorem nls_nil : nls [] = 0 := rfl
theorem nls_feed (l : List UInt8) : nls (10 :: l) = nls l + 1 := by unfold nls; rw [List.count_cons]; simp
theorem nls_other {b : UInt8} (l : List UInt8) (h : b ≠ 10) : nls (b :: l) = nls l := by unfold nls; rw [List.count_cons]; simp [h]
theorem nls_snoc (l : List UInt8) (b : UInt8) : nls (l ++ [b]) = nls l + if b = 10 then 1 else 0 := by
  unfold nls
  rw [List.count_append, List.count_cons, List.count_nil]
  by_cases h : b = 10 <;> simp [h]
theorem nls_le (l : List UInt8) : nls l ≤ l.length := List.count_le_length
/-- The blanks, line ends and comments ahead of a token: how many bytes; c: a comment is under way. -/
def gapB : Bool → List UInt8 → Nat
  | _, [] => 0
  | c, b :: r => if b = 10 then gapB false r + 1 else if b = 35 then gapB true r + 1 else if b = 32 ∨ b = 9 then gapB c r + 1 else if c = true then gapB c r + 1 else 0
theorem gap_nil (c : Bool) : gapB c [] = 0 := by cases c <;> rfl
theorem gap_feed (c : Bool) (r : List UInt8) : gapB c (10 :: r) = gapB false r + 1 := by rw [gapB]; exact if_pos rfl
theorem gap_note (c : Bool) (r : List UInt8) : gapB c (35 :: r) = gapB true r + 1 := by rw [gapB, if_neg (by decide)]; exact if_pos rfl
theorem gap_blank (c : Bool) {b : UInt8} (r : List UInt8) (h : b = 32 ∨ b = 9) : gapB c (b :: r) = gapB c r + 1 := by
  rw [gapB, if_neg (by rcases h with rfl | rfl <;> decide), if_neg (by rcases h with rfl | rfl <;> decide), if_pos h]
theorem gap_in {b : UInt8} (r : List UInt8) (h : b ≠ 10) : gapB true (b :: r) = gapB true r + 1 := by
  rw [gapB, if_neg h]
  split
  · rfl
  · split
    · rfl
    · exact if_pos rfl
theorem gap_out {b : UInt8} (r : List UInt8) (h1 : b ≠ 10) (h2 : b ≠ 32) (h3 : b ≠ 9) (h4 : b ≠ 35) : gapB false (b :: r) = 0 := by
  rw [gapB, if_neg h1, if_neg h4, if_neg (by rintro (h | h); exact h2 h; exact h3 h), if_neg (by decide)]
theorem gap_le : ∀ (R : List UInt8) (c : Bool), gapB c R ≤ R.length := by
  intro R
  induction R with
  | nil => intro c; rw [gap_nil]; exact Nat.zero_le _
  | cons b r ih =>
    intro c
    rw [gapB, List.length_cons]
    have h1 := ih false
    have h2 := ih true
    have h3 := ih c
    split
    · omega
    · split
      · omega
      · split
        · omega
        · split <;> omega
/-- What a token begins with. -/
def Begin (R : List UInt8) : Prop := R = [] ∨ ∃ b r, R = b :: r ∧ b ≠ 10 ∧ b ≠ 32 ∧ b ≠ 9 ∧ b ≠ 35
theorem gap_begin : ∀ (R : List UInt8) (c : Bool), Begin (R.drop (gapB c R)) := by
  intro R
  induction R with
  | nil => intro c; rw [gap_nil]; exact .inl rfl
  | cons b r ih =>
    intro c
    by_cases h1 : b = 10
    · subst h1; rw [gap_feed, List.drop_succ_cons]; exact ih false
    · by_cases h4 : b = 35
      · subst h4; rw [gap_note, List.drop_succ_cons]; exact ih true
      · by_cases h2 : b = 32 ∨ b = 9
        · rw [gap_blank c r h2, List.drop_succ_cons]; exact ih c
        · cases c
          · rw [gap_out r h1 (fun e => h2 (.inl e)) (fun e => h2 (.inr e)) h4]
            exact .inr ⟨b, r, rfl, h1, fun e => h2 (.inl e), fun e => h2 (.inr e), h4⟩
          · rw [gap_in r h1, List.drop_succ_cons]; exact ih true
/-- What a state reads behind a gap. -/
theorem gap_lex (D : Den) : ∀ (R : List UInt8) (c : Bool) (line : Nat) (fr : Bool) (out : List Tok),
    lexW D (if c = true then R.dropWhile (fun x => x != 10) else R) line fr out = lexW D (R.drop (gapB c R)) (line + nls (R.take (gapB c R))) (fr || decide (0 < nls (R.take (gapB c R)))) out := by
  intro R
  induction R with
  | nil => intro c line fr out; rw [gap_nil]; cases c <;> simp [nls_nil]
  | cons b r ih =>
    intro c line fr out
    by_cases h1 : b = 10
    · subst h1
      have e2 : (if c = true then (10 :: r).dropWhile (fun x : UInt8 => x != 10) else 10 :: r) = 10 :: r := by
        cases c
        · rfl
        · rw [if_pos rfl, List.dropWhile_cons, if_neg (by decide)]
      have h := ih false (line + 1) true out
      rw [if_neg (by decide)] at h
      rw [e2, lexW_line, h, gap_feed, List.take_succ_cons, List.drop_succ_cons, nls_feed, show line + 1 + nls (r.take (gapB false r)) = line + (nls (r.take (gapB false r)) + 1) by omega, decide_eq_true (show 0 < nls (r.take (gapB false r)) + 1 by omega)]
      simp
    · have hd : (b :: r).dropWhile (fun x : UInt8 => x != 10) = r.dropWhile (fun x : UInt8 => x != 10) := by rw [List.dropWhile_cons, if_pos (by simpa using h1)]
      by_cases h4 : b = 35
      · subst h4
        have h := ih true line fr out
        rw [if_pos rfl] at h
        have e2 : lexW D (if c = true then (35 :: r).dropWhile (fun x : UInt8 => x != 10) else 35 :: r) line fr out = lexW D (r.dropWhile fun x => x != 10) line fr out := by
          cases c
          · rw [if_neg (by decide), lexW_note]
          · rw [if_pos rfl, hd]
        rw [e2, h, gap_note, List.take_succ_cons, List.drop_succ_cons, nls_other _ h1]
      · by_cases h2 : b = 32 ∨ b = 9
        · have h := ih c line fr out
          have e2 : lexW D (if c = true then (b :: r).dropWhile (fun x : UInt8 => x != 10) else b :: r) line fr out = lexW D (if c = true then r.dropWhile (fun x : UInt8 => x != 10) else r) line fr out := by
            cases c
            · rw [if_neg (by decide), if_neg (by decide), lexW_blank D r line fr out h2]
            · rw [if_pos rfl, if_pos rfl, hd]
          rw [e2, h, gap_blank c r h2, List.take_succ_cons, List.drop_succ_cons, nls_other _ h1]
        · cases c
          · rw [gap_out r h1 (fun e => h2 (.inl e)) (fun e => h2 (.inr e)) h4]
            rw [List.take_zero, List.drop_zero, nls_nil]; simp
          · have h := ih true line fr out
            rw [if_pos rfl] at h
            rw [if_pos rfl, hd, h, gap_in r h1, List.take_succ_cons, List.drop_succ_cons, nls_other _ h1]
theorem gap_lex0 (D : Den) (R : List UInt8) (line : Nat) (out : List Tok) : lexW D R line false out = lexW D (R.drop (gapB false R)) (line + nls (R.take (gapB false R))) (decide (0 < nls (R.take (gapB false R)))) out := by
  have h := gap_lex D R false line false out
  rw [if_neg (by decide), Bool.false_or] at h
  exact h
/-- Where the look for the gap's end stands. -/
def GapAt (R : List UInt8) (k : Nat) (c : Bool) : Prop := gapB false R = k + gapB c (R.drop k)
theorem GapAt.start (R : List UInt8) : GapAt R 0 false := by unfold GapAt; rw [List.drop_zero, Nat.zero_add]
theorem GapAt.feed {R : List UInt8} {k : Nat} {c : Bool} (h : GapAt R k c) (hk : k < R.length) (hb : R[k] = 10) : GapAt R (k + 1) false := by
  unfold GapAt at h ⊢
  rw [List.drop_eq_getElem_cons hk, hb, gap_feed] at h; omega
theorem GapAt.note {R : List UInt8} {k : Nat} {c : Bool} (h : GapAt R k c) (hk : k < R.length) (hb : R[k] = 35) : GapAt R (k + 1) true := by
  unfold GapAt at h ⊢
  rw [List.drop_eq_getElem_cons hk, hb, gap_note] at h; omega
theorem GapAt.blank {R : List UInt8} {k : Nat} {c : Bool} (h : GapAt R k c) (hk : k < R.length) (hb : R[k] = 32 ∨ R[k] = 9) : GapAt R (k + 1) c := by
  unfold GapAt at h ⊢
  rw [List.drop_eq_getElem_cons hk, gap_blank c _ hb] at h; omega
theorem GapAt.inn {R : List UInt8} {k : Nat} (h : GapAt R k true) (hk : k < R.length) (hb : R[k] ≠ 10) : GapAt R (k + 1) true := by
  unfold GapAt at h ⊢
  rw [List.drop_eq_getElem_cons hk, gap_in _ hb] at h; omega
theorem GapAt.out {R : List UInt8} {k : Nat} (h : GapAt R k false) (hk : k < R.length) (h1 : R[k] ≠ 10) (h2 : R[k] ≠ 32) (h3 : R[k] ≠ 9) (h4 : R[k] ≠ 35) : gapB false R = k := by
  unfold GapAt at h
  rw [List.drop_eq_getElem_cons hk, gap_out _ h1 h2 h3 h4] at h; omega
theorem GapAt.over {R : List UInt8} {k : Nat} {c : Bool} (h : GapAt R k c) (hk : R.length ≤ k) : gapB false R = k := by
  unfold GapAt at h
  rw [List.drop_eq_nil_of_le hk, gap_nil] at h; omega

/-- Where a literal ends as the program looks for its end; all of the text if it has none. -/
def endP (d : UInt8) : List UInt8 → Nat
  | [] => 0
  | b :: r => if b = d then 1 else if b = 92 then (match r with
      | [] => 1
      | _ :: r2 => endP d r2 + 2) else endP d r + 1
theorem endP_nil (d : UInt8) : endP d [] = 0 := by rw [endP.eq_def]
theorem endP_hit (d : UInt8) (r : List UInt8) : endP d (d :: r) = 1 := by rw [endP.eq_def]; exact if_pos rfl
theorem endP_one {d b : UInt8} (r : List UInt8) (h : b ≠ d) (h2 : b ≠ 92) : endP d (b :: r) = endP d r + 1 := by rw [endP.eq_def]; dsimp only; rw [if_neg h, if_neg h2]
theorem endP_back {d : UInt8} (r : List UInt8) (h : (92 : UInt8) ≠ d) : endP d (92 :: r) = match r with
      | [] => 1
      | _ :: r2 => endP d r2 + 2 := by rw [endP.eq_def]; dsimp only; rw [if_neg h]; exact if_pos rfl
theorem endP_le {d : UInt8} (hd : (92 : UInt8) ≠ d) : ∀ (n : Nat) (r : List UInt8), r.length ≤ n → endP d r ≤ r.length := by
  intro n
  induction n with
  | zero => intro r h; rw [List.length_eq_zero_iff.1 (Nat.le_zero.1 h), endP_nil]; exact Nat.zero_le _
  | succ n ih =>
    intro r h
    match r with
    | [] => rw [endP_nil]; exact Nat.zero_le _
    | b :: r =>
      rw [List.length_cons] at h ⊢
      by_cases h1 : b = d
      · rw [h1, endP_hit]; omega
      · by_cases h2 : b = 92
        · rw [h2, endP_back _ hd]
          match r with
          | [] => simp
          | c :: r2 =>
            rw [List.length_cons] at h ⊢
            have := ih r2 (by omega)
            show endP d r2 + 2 ≤ _
            omega
        · rw [endP_one _ h1 h2]
          have := ih r (by omega); omega
theorem endP_some {d : UInt8} (hd : (92 : UInt8) ≠ d) : ∀ (N : Nat) (r : List UInt8) (n : Nat), r.length ≤ N → Lt.endL d r = some n → endP d r = n := by
  intro N
  induction N with
  | zero => intro r n h he; rw [List.length_eq_zero_iff.1 (Nat.le_zero.1 h), Lt.endL_nil] at he; cases he
  | succ N ih =>
    intro r n h he
    match r with
    | [] => rw [Lt.endL_nil] at he; cases he
    | b :: r =>
      rw [List.length_cons] at h
      by_cases h1 : b = d
      · rw [h1, Lt.endL_hit] at he; rw [h1, endP_hit]; exact Option.some.inj he
      · cases hp : Lt.plain b
        · rw [Lt.endL_bad _ h1 hp] at he; cases he
        · by_cases h2 : b = 92
          · rw [h2, Lt.endL_back _ hd] at he
            rw [h2, endP_back _ hd]
            match r with
            | [] => cases he
            | c :: r2 =>
              rw [List.length_cons] at h
              dsimp only at he ⊢
              cases h3 : Lt.endL d r2 with
              | none => rw [h3] at he; cases he
              | some m =>
                rw [h3] at he
                rw [ih r2 m (by omega) h3]
                exact Option.some.inj he
          · rw [Lt.endL_one _ h1 hp h2] at he
            rw [endP_one _ h1 h2]
            cases h3 : Lt.endL d r with
            | none => rw [h3] at he; cases he
            | some m =>
              rw [h3] at he
              rw [ih r m (by omega) h3]
              exact Option.some.inj he
theorem endL_app {d : UInt8} (hd : (92 : UInt8) ≠ d) : ∀ (N : Nat) (l q : List UInt8) (n : Nat), l.length ≤ N → Lt.endL d l = some n → Lt.endL d (l ++ q) = some n := by
  intro N
  induction N with
  | zero => intro r q n h he; rw [List.length_eq_zero_iff.1 (Nat.le_zero.1 h), Lt.endL_nil] at he; cases he
  | succ N ih =>
    intro r q n h he
    match r with
    | [] => rw [Lt.endL_nil] at he; cases he
    | b :: r =>
      rw [List.length_cons] at h
      rw [List.cons_append]
      by_cases h1 : b = d
      · rw [h1, Lt.endL_hit] at he ⊢; exact he
      · cases hp : Lt.plain b
        · rw [Lt.endL_bad _ h1 hp] at he; cases he
        · by_cases h2 : b = 92
          · rw [h2, Lt.endL_back _ hd] at he ⊢
            match r with
            | [] => cases he
            | c :: r2 =>
              rw [List.length_cons] at h
              dsimp only [List.cons_append] at he ⊢
              cases h3 : Lt.endL d r2 with
              | none => rw [h3] at he; cases he
              | some m => rw [h3] at he; rw [ih r2 q m (by omega) h3]; exact he
          · rw [Lt.endL_one _ h1 hp h2] at he ⊢
            cases h3 : Lt.endL d r with
            | none => rw [h3] at he; cases he
            | some m => rw [h3] at he; rw [ih r q m (by omega) h3]; exact he
/-- Where no literal ends, what the program takes for one denotes nothing. -/
theorem lit_noend {d : UInt8} (hd : d = 34 ∨ d = 39) (r : List UInt8) (h : Lt.endL d r = none) : Lt.lit d (d :: r.take (endP d r)) = none := by
  have hd1 : (92 : UInt8) ≠ d := by rcases hd with rfl | rfl <;> decide
  unfold Lt.lit
  by_cases h1 : (d :: r.take (endP d r)).length < 2 ∨ (d :: r.take (endP d r)).head? ≠ some d ∨ (d :: r.take (endP d r)).getLast? ≠ some d
  · rw [if_pos h1]
  · rw [if_neg h1]
    have h2 : 1 + 1 ≤ (d :: r.take (endP d r)).length := by
      rcases Nat.lt_or_ge (d :: r.take (endP d r)).length 2 with h3 | h3
      · exact absurd (.inl h3) h1
      · exact h3
    have h3 : (d :: r.take (endP d r)).getLast? = some d := by
      cases h4 : decide ((d :: r.take (endP d r)).getLast? = some d)
      · exact absurd (.inr (.inr (of_decide_eq_false h4))) h1
      · exact of_decide_eq_true h4
    have h5 := Lt.ends_no hd (d :: r.take (endP d r)) h3 _ 1 (Nat.le_refl _) h2 (by
      unfold Lt.ends
      rw [List.drop_succ_cons, List.drop_zero]
      intro e
      cases h6 : Lt.endL d (r.take (endP d r)) with
      | none => rw [h6] at e; cases e
      | some m =>
        have h7 := endL_app hd1 _ _ (r.drop (endP d r)) m (Nat.le_refl _) h6
        rw [List.take_append_drop, h] at h7; cases h7)
    have h8 : ((d :: r.take (endP d r)).drop 1).dropLast = ((d :: r.take (endP d r)).dropLast).drop 1 := by
      have h9 : r.take (endP d r) ≠ [] := by intro e; rw [e] at h2; simp at h2
      rw [List.drop_succ_cons, List.drop_zero, List.dropLast_cons_of_ne_nil h9, List.drop_succ_cons, List.drop_zero]
    rw [h8]; exact h5
/-- Where the look for a literal's end stands. -/
def LitAt (d : UInt8) (R : List UInt8) (z i : Nat) : Prop := z = min (i + endP d (R.drop i)) R.length
theorem LitAt.start (d : UInt8) (b : UInt8) (r : List UInt8) (hd : (92 : UInt8) ≠ d) : LitAt d (b :: r) (endP d r + 1) 1 := by
  have := endP_le hd _ r (Nat.le_refl _)
  unfold LitAt
  rw [List.drop_succ_cons, List.drop_zero, List.length_cons]; omega
theorem LitAt.hit {d : UInt8} {R : List UInt8} {z i : Nat} (h : LitAt d R z i) (hi : i < R.length) (hb : R[i] = d) : z = i + 1 := by
  unfold LitAt at h
  rw [List.drop_eq_getElem_cons hi, hb, endP_hit] at h; omega
theorem LitAt.one {d : UInt8} {R : List UInt8} {z i : Nat} (h : LitAt d R z i) (hi : i < R.length) (h1 : R[i] ≠ d) (h2 : R[i] ≠ 92) : LitAt d R z (i + 1) := by
  unfold LitAt at h ⊢
  rw [List.drop_eq_getElem_cons hi, endP_one _ h1 h2] at h; omega
theorem LitAt.back {d : UInt8} {R : List UInt8} {z i : Nat} (hd : (92 : UInt8) ≠ d) (h : LitAt d R z i) (hi : i < R.length) (h2 : R[i] = 92) : LitAt d R z (i + 2) := by
  unfold LitAt at h ⊢
  rw [List.drop_eq_getElem_cons hi, h2, endP_back _ hd] at h
  rcases Nat.lt_or_ge (i + 1) R.length with h3 | h3
  · rw [List.drop_eq_getElem_cons h3] at h
    dsimp only at h
    rw [h, show i + 1 + 1 = i + 2 by omega]; omega
  · rw [List.drop_eq_nil_of_le h3] at h
    rw [List.drop_eq_nil_of_le (show R.length ≤ i + 2 by omega), endP_nil]
    dsimp only at h
    omega
theorem LitAt.over {d : UInt8} {R : List UInt8} {z i : Nat} (h : LitAt d R z i) (hi : R.length ≤ i) : z = R.length := by unfold LitAt at h; omega

/-- The longest operator of at most n bytes with which a text begins. -/
def opF (S : List UInt8) : Nat → Option (List UInt8)
  | 0 => none
  | n + 1 => if operators.contains (S.take (n + 1)) = true then some (S.take (n + 1)) else opF S n
theorem ops_sorted : operators.Pairwise (fun a b => b.length ≤ a.length) := by decide
theorem ops_five : ∀ o ∈ operators, o.length ≤ 5 := by decide
theorem opF_none {S : List UInt8} : ∀ n, (∀ o ∈ operators, o.isPrefixOf S = false) → opF S n = none := by
  intro n h
  induction n with
  | zero => rfl
  | succ n ih =>
    rw [opF, if_neg, ih]
    intro e
    have h1 := h _ (List.contains_iff_mem.1 e)
    have h2 : (S.take (n + 1)).isPrefixOf S = true := List.isPrefixOf_iff_prefix.2 (List.take_prefix _ _)
    rw [h2] at h1; cases h1
theorem opF_some {S o : List UInt8} (ho : o ∈ operators) (hp : o.isPrefixOf S = true) (hm : ∀ q ∈ operators, q.isPrefixOf S = true → q.length ≤ o.length) : ∀ n, n ≤ S.length → o.length ≤ n → opF S n = some o := by
  have hpre := List.isPrefixOf_iff_prefix.1 hp
  have hto : S.take o.length = o := (List.prefix_iff_eq_take.1 hpre).symm
  intro n
  induction n with
  | zero =>
    intro _ h
    have := ops_pos o ho; omega
  | succ n ih =>
    intro hn h
    rw [opF]
    by_cases he : o.length = n + 1
    · rw [← he, hto, if_pos (List.contains_iff_mem.2 ho)]
    · rw [if_neg, ih (by omega) (by omega)]
      intro e
      have h2 := hm _ (List.contains_iff_mem.1 e) (List.isPrefixOf_iff_prefix.2 (List.take_prefix _ _))
      rw [List.length_take] at h2; omega
theorem op_longest (S : List UInt8) : (operators.find? fun o => o.isPrefixOf S) = opF S (min 5 S.length) := by
  cases h : operators.find? fun o => o.isPrefixOf S with
  | none =>
    rw [List.find?_eq_none] at h
    exact (opF_none _ fun o ho => Bool.eq_false_iff.2 (h o ho)).symm
  | some o =>
    obtain ⟨hp, us, bs, e, hn⟩ := List.find?_eq_some_iff_append.1 h
    have hs := ops_sorted
    rw [e, List.pairwise_append] at hs
    have hb := (List.pairwise_cons.1 hs.2.1).1
    have ho : o ∈ operators := List.mem_of_find?_eq_some h
    have hle : o.length ≤ S.length := (List.isPrefixOf_iff_prefix.1 hp).length_le
    refine (opF_some ho hp ?_ _ (Nat.min_le_right _ _) (Nat.le_min.2 ⟨ops_five o ho, hle⟩)).symm
    intro q hq hqp
    rw [e, List.mem_append, List.mem_cons] at hq
    rcases hq with hq | hq | hq
    · have := hn q hq; rw [hqp] at this; cases this
    · rw [hq]; exact Nat.le_refl _
    · exact hb q hq
end Go.Proofs.YtckjmmapekaapaaGreatDoor.Tk
