/- Joined texts: Q1, V60. No conditions besides those that each states. -/
import Derived.StillTail
import Derived.WalkKit
import Derived.Test.YtbadepiakkhabaaDoorZ3
/- Plain facts on how the program reads tokens: gaps, the size of a literal, the longest operator. No conditions. -/
namespace Go.Proofs.YtbadepiakkhabaaDoor.Tk
set_option linter.unusedVariables false

/-- The line feeds of a text. -/
def nls (l : List UInt8) : Nat := l.count 10
theorem nls_nil : nls [] = 0 := rfl
theorem nls_feed (l : List UInt8) : nls (10 :: l) = nls l + 1 := by unfold nls; rw [List.count_cons]; simp
theorem nls_other {b : UInt8} (l : List UInt8) (h : b ≠ 10) : nls (b :: l) = nls l := by unfold nls; rw [List.count_cons]; simp [h]
theorem nls_snoc (l : List UInt8) (b : UInt8) : nls (l ++ [b]) = nls l + if b = 10 then 1 else 0 := by
  unfold nls
  rw [List.count_append, List.count_cons, List.count_nil]
  by_cases h : b = 10 <;> simp [h]
theorem nls_le (l : List UInt8) : nls l ≤ l.length := List.count_le_length
/-- The blanks, line ends and comments ahead of a token: how many bytes; c: a comment is under way. -/
def gapB : Bool → List UInt8 → Nat
  | _, [] => 0
  | c, b :: r => if b = 10 then gapB false r + 1 else if b = 35 then gapB true r + 1 else if b = 32 ∨ b = 9 then gapB c r + 1 else if c = true then gapB c r + 1 else 0
theorem gap_nil (c : Bool) : gapB c [] = 0 := by cases c <;> rfl
theorem gap_feed (c : Bool) (r : List UInt8) : gapB c (10 :: r) = gapB false r + 1 := by rw [gapB]; exact if_pos rfl
theorem gap_note (c : Bool) (r : List UInt8) : gapB c (35 :: r) = gapB true r + 1 := by rw [gapB, if_neg (by decide)]; exact if_pos rfl
theorem gap_blank (c : Bool) {b : UInt8} (r : List UInt8) (h : b = 32 ∨ b = 9) : gapB c (b :: r) = gapB c r + 1 := by
  rw [gapB, if_neg (by rcases h with rfl | rfl <;> decide), if_neg (by rcases h with rfl | rfl <;> decide), if_pos h]
theorem gap_in {b : UInt8} (r : List UInt8) (h : b ≠ 10) : gapB true (b :: r) = gapB true r + 1 := by
  rw [gapB, if_neg h]
  split
  · rfl
  · split
    · rfl
    · exact if_pos rfl
theorem gap_out {b : UInt8} (r : List UInt8) (h1 : b ≠ 10) (h2 : b ≠ 32) (h3 : b ≠ 9) (h4 : b ≠ 35) : gapB false (b :: r) = 0 := by
  rw [gapB, if_neg h1, if_neg h4, if_neg (by rintro (h | h); exact h2 h; exact h3 h), if_neg (by decide)]
theorem gap_le : ∀ (R : List UInt8) (c : Bool), gapB c R ≤ R.length := by
  intro R
  induction R with
  | nil => intro c; rw [gap_nil]; exact Nat.zero_le _
  | cons b r ih =>
    intro c
    rw [gapB, List.length_cons]
    have h1 := ih false
    have h2 := ih true
    have h3 := ih c
    split
    · omega
    · split
      · omega
      · split
        · omega
        · split <;> omega
/-- What a token begins with. -/
def Begin (R : List UInt8) : Prop := R = [] ∨ ∃ b r, R = b :: r ∧ b ≠ 10 ∧ b ≠ 32 ∧ b ≠ 9 ∧ b ≠ 35
theorem gap_begin : ∀ (R : List UInt8) (c : Bool), Begin (R.drop (gapB c R)) := by
  intro R
  induction R with
  | nil => intro c; rw [gap_nil]; exact .inl rfl
  | cons b r ih =>
    intro c
    by_cases h1 : b = 10
    · subst h1; rw [gap_feed, List.drop_succ_cons]; exact ih false
    · by_cases h4 : b = 35
      · subst h4; rw [gap_note, List.drop_succ_cons]; exact ih true
      · by_cases h2 : b = 32 ∨ b = 9
        · rw [gap_blank c r h2, List.drop_succ_cons]; exact ih c
        · cases c
          · rw [gap_out r h1 (fun e => h2 (.inl e)) (fun e => h2 (.inr e)) h4]
            exact .inr ⟨b, r, rfl, h1, fun e => h2 (.inl e), fun e => h2 (.inr e), h4⟩
          · rw [gap_in r h1, List.drop_succ_cons]; exact ih true
/-- What a state reads behind a gap. -/
theorem gap_lex (D : Den) : ∀ (R : List UInt8) (c : Bool) (line : Nat) (fr : Bool) (out : List Tok),
    lexW D (if c = true then R.dropWhile (fun x => x != 10) else R) line fr out = lexW D (R.drop (gapB c R)) (line + nls (R.take (gapB c R))) (fr || decide (0 < nls (R.take (gapB c R)))) out := by
  intro R
  induction R with
  | nil => intro c line fr out; rw [gap_nil]; cases c <;> simp [nls_nil]
  | cons b r ih =>
    intro c line fr out
    by_cases h1 : b = 10
    · subst h1
      have e2 : (if c = true then (10 :: r).dropWhile (fun x : UInt8 => x != 10) else 10 :: r) = 10 :: r := by
        cases c
        · rfl
        · rw [if_pos rfl, List.dropWhile_cons, if_neg (by decide)]
      have h := ih false (line + 1) true out
      rw [if_neg (by decide)] at h
      rw [e2, lexW_line, h, gap_feed, List.take_succ_cons, List.drop_succ_cons, nls_feed, show line + 1 + nls (r.take (gapB false r)) = line + (nls (r.take (gapB false r)) + 1) by omega, decide_eq_true (show 0 < nls (r.take (gapB false r)) + 1 by omega)]
      simp
    · have hd : (b :: r).dropWhile (fun x : UInt8 => x != 10) = r.dropWhile (fun x : UInt8 => x != 10) := by rw [List.dropWhile_cons, if_pos (by simpa using h1)]
      by_cases h4 : b = 35
      · subst h4
        have h := ih true line fr out
        rw [if_pos rfl] at h
        have e2 : lexW D (if c = true then (35 :: r).dropWhile (fun x : UInt8 => x != 10) else 35 :: r) line fr out = lexW D (r.dropWhile fun x => x != 10) line fr out := by
          cases c
          · rw [if_neg (by decide), lexW_note]
          · rw [if_pos rfl, hd]
        rw [e2, h, gap_note, List.take_succ_cons, List.drop_succ_cons, nls_other _ h1]
      · by_cases h2 : b = 32 ∨ b = 9
        · have h := ih c line fr out
          have e2 : lexW D (if c = true then (b :: r).dropWhile (fun x : UInt8 => x != 10) else b :: r) line fr out = lexW D (if c = true then r.dropWhile (fun x : UInt8 => x != 10) else r) line fr out := by
            cases c
            · rw [if_neg (by decide), if_neg (by decide), lexW_blank D r line fr out h2]
            · rw [if_pos rfl, if_pos rfl, hd]
          rw [e2, h, gap_blank c r h2, List.take_succ_cons, List.drop_succ_cons, nls_other _ h1]
        · cases c
          · rw [gap_out r h1 (fun e => h2 (.inl e)) (fun e => h2 (.inr e)) h4]
            rw [List.take_zero, List.drop_zero, nls_nil]; simp
          · have h := ih true line fr out
            rw [if_pos rfl] at h
            rw [if_pos rfl, hd, h, gap_in r h1, List.take_succ_cons, List.drop_succ_cons, nls_other _ h1]
theorem gap_lex0 (D : Den) (R : List UInt8) (line : Nat) (out : List Tok) : lexW D R line false out = lexW D (R.drop (gapB false R)) (line + nls (R.take (gapB false R))) (decide (0 < nls (R.take (gapB false R)))) out := by
  have h := gap_lex D R false line false out
  rw [if_neg (by decide), Bool.false_or] at h
  exact h
/-- Where the look for the gap's end stands. -/
def GapAt (R : List UInt8) (k : Nat) (c : Bool) : Prop := gapB false R = k + gapB c (R.drop k)
theorem GapAt.start (R : List UInt8) : GapAt R 0 false := by unfold GapAt; rw [List.drop_zero, Nat.zero_add]
theorem GapAt.feed {R : List UInt8} {k : Nat} {c : Bool} (h : GapAt R k c) (hk : k < R.length) (hb : R[k] = 10) : GapAt R (k + 1) false := by
  unfold GapAt at h ⊢
  rw [List.drop_eq_getElem_cons hk, hb, gap_feed] at h; omega
theorem GapAt.note {R : List UInt8} {k : Nat} {c : Bool} (h : GapAt R k c) (hk : k < R.length) (hb : R[k] = 35) : GapAt R (k + 1) true := by
  unfold GapAt at h ⊢
  rw [List.drop_eq_getElem_cons hk, hb, gap_note] at h; omega
theorem GapAt.blank {R : List UInt8} {k : Nat} {c : Bool} (h : GapAt R k c) (hk : k < R.length) (hb : R[k] = 32 ∨ R[k] = 9) : GapAt R (k + 1) c := by
  unfold GapAt at h ⊢
  rw [List.drop_eq_getElem_cons hk, gap_blank c _ hb] at h; omega
theorem GapAt.inn {R : List UInt8} {k : Nat} (h : GapAt R k true) (hk : k < R.length) (hb : R[k] ≠ 10) : GapAt R (k + 1) true := by
  unfold GapAt at h ⊢
  rw [List.drop_eq_getElem_cons hk, gap_in _ hb] at h; omega
theorem GapAt.out {R : List UInt8} {k : Nat} (h : GapAt R k false) (hk : k < R.length) (h1 : R[k] ≠ 10) (h2 : R[k] ≠ 32) (h3 : R[k] ≠ 9) (h4 : R[k] ≠ 35) : gapB false R = k := by
  unfold GapAt at h
  rw [List.drop_eq_getElem_cons hk, gap_out _ h1 h2 h3 h4] at h; omega
theorem GapAt.over {R : List UInt8} {k : Nat} {c : Bool} (h : GapAt R k c) (hk : R.length ≤ k) : gapB false R = k := by
  unfold GapAt at h
  rw [List.drop_eq_nil_of_le hk, gap_nil] at h; omega

/-- Where a literal ends as the program looks for its end; all of the text if it has none. -/
def endP (d : UInt8) : List UInt8 → Nat
  | [] => 0
  | b :: r => if b = d then 1 else if b = 92 then (match r with
      | [] => 1
      | _ :: r2 => endP d r2 + 2) else endP d r + 1
theorem endP_nil (d : UInt8) : endP d [] = 0 := by rw [endP.eq_def]
theorem endP_hit (d : UInt8) (r : List UInt8) : endP d (d :: r) = 1 := by rw [endP.eq_def]; exact if_pos rfl
theorem endP_one {d b : UInt8} (r : List UInt8) (h : b ≠ d) (h2 : b ≠ 92) : endP d (b :: r) = endP d r + 1 := by rw [endP.eq_def]; dsimp only; rw [if_neg h, if_neg h2]
theorem endP_back {d : UInt8} (r : List UInt8) (h : (92 : UInt8) ≠ d) : endP d (92 :: r) = match r with
      | [] => 1
      | _ :: r2 => endP d r2 + 2 := by rw [endP.eq_def]; dsimp only; rw [if_neg h]; exact if_pos rfl
theorem endP_le {d : UInt8} (hd : (92 : UInt8) ≠ d) : ∀ (n : Nat) (r : List UInt8), r.length ≤ n → endP d r ≤ r.length := by
  intro n
  induction n with
  | zero => intro r h; rw [List.length_eq_zero_iff.1 (Nat.le_zero.1 h), endP_nil]; exact Nat.zero_le _
  | succ n ih =>
    intro r h
    match r with
    | [] => rw [endP_nil]; exact Nat.zero_le _
    | b :: r =>
      rw [List.length_cons] at h ⊢
      by_cases h1 : b = d
      · rw [h1, endP_hit]; omega
      · by_cases h2 : b = 92
        · rw [h2, endP_back _ hd]
          match r with
          | [] => simp
          | c :: r2 =>
            rw [List.length_cons] at h ⊢
            have := ih r2 (by omega)
            show endP d r2 + 2 ≤ _
            omega
        · rw [endP_one _ h1 h2]
          have := ih r (by omega); omega
theorem endP_some {d : UInt8} (hd : (92 : UInt8) ≠ d) : ∀ (N : Nat) (r : List UInt8) (n : Nat), r.length ≤ N → Lt.endL d r = some n → endP d r = n := by
  intro N
  induction N with
  | zero => intro r n h he; rw [List.length_eq_zero_iff.1 (Nat.le_zero.1 h), Lt.endL_nil] at he; cases he
  | succ N ih =>
    intro r n h he
    match r with
    | [] => rw [Lt.endL_nil] at he; cases he
    | b :: r =>
      rw [List.length_cons] at h
      by_cases h1 : b = d
      · rw [h1, Lt.endL_hit] at he; rw [h1, endP_hit]; exact Option.some.inj he
      · cases hp : Lt.plain b
        · rw [Lt.endL_bad _ h1 hp] at he; cases he
        · by_cases h2 : b = 92
          · rw [h2, Lt.endL_back _ hd] at he
            rw [h2, endP_back _ hd]
            match r with
            | [] => cases he
            | c :: r2 =>
              rw [List.length_cons] at h
              dsimp only at he ⊢
              cases h3 : Lt.endL d r2 with
              | none => rw [h3] at he; cases he
              | some m =>
                rw [h3] at he
                rw [ih r2 m (by omega) h3]
                exact Option.some.inj he
          · rw [Lt.endL_one _ h1 hp h2] at he
            rw [endP_one _ h1 h2]
            cases h3 : Lt.endL d r with
            | none => rw [h3] at he; cases he
            | some m =>
              rw [h3] at he
              rw [ih r m (by omega) h3]
              exact Option.some.inj he
theorem endL_app {d : UInt8} (hd : (92 : UInt8) ≠ d) : ∀ (N : Nat) (l q : List UInt8) (n : Nat), l.length ≤ N → Lt.endL d l = some n → Lt.endL d (l ++ q) = some n := by
  intro N
  induction N with
  | zero => intro r q n h he; rw [List.length_eq_zero_iff.1 (Nat.le_zero.1 h), Lt.endL_nil] at he; cases he
  | succ N ih =>
    intro r q n h he
    match r with
    | [] => rw [Lt.endL_nil] at he; cases he
    | b :: r =>
      rw [List.length_cons] at h
      rw [List.cons_append]
      by_cases h1 : b = d
      · rw [h1, Lt.endL_hit] at he ⊢; exact he
      · cases hp : Lt.plain b
        · rw [Lt.endL_bad _ h1 hp] at he; cases he
        · by_cases h2 : b = 92
          · rw [h2, Lt.endL_back _ hd] at he ⊢
            match r with
            | [] => cases he
            | c :: r2 =>
              rw [List.length_cons] at h
              dsimp only [List.cons_append] at he ⊢
              cases h3 : Lt.endL d r2 with
              | none => rw [h3] at he; cases he
              | some m => rw [h3] at he; rw [ih r2 q m (by omega) h3]; exact he
          · rw [Lt.endL_one _ h1 hp h2] at he ⊢
            cases h3 : Lt.endL d r with
            | none => rw [h3] at he; cases he
            | some m => rw [h3] at he; rw [ih r q m (by omega) h3]; exact he
/-- Where no literal ends, what the program takes for one denotes nothing. -/
theorem lit_noend {d : UInt8} (hd : d = 34 ∨ d = 39) (r : List UInt8) (h : Lt.endL d r = none) : Lt.lit d (d :: r.take (endP d r)) = none := by
  have hd1 : (92 : UInt8) ≠ d := by rcases hd with rfl | rfl <;> decide
  unfold Lt.lit
  by_cases h1 : (d :: r.take (endP d r)).length < 2 ∨ (d :: r.take (endP d r)).head? ≠ some d ∨ (d :: r.take (endP d r)).getLast? ≠ some d
  · rw [if_pos h1]
  · rw [if_neg h1]
    have h2 : 1 + 1 ≤ (d :: r.take (endP d r)).length := by
      rcases Nat.lt_or_ge (d :: r.take (endP d r)).length 2 with h3 | h3
      · exact absurd (.inl h3) h1
      · exact h3
    have h3 : (d :: r.take (endP d r)).getLast? = some d := by
      cases h4 : decide ((d :: r.take (endP d r)).getLast? = some d)
      · exact absurd (.inr (.inr (of_decide_eq_false h4))) h1
      · exact of_decide_eq_true h4
    have h5 := Lt.ends_no hd (d :: r.take (endP d r)) h3 _ 1 (Nat.le_refl _) h2 (by
      unfold Lt.ends
      rw [List.drop_succ_cons, List.drop_zero]
      intro e
      cases h6 : Lt.endL d (r.take (endP d r)) with
      | none => rw [h6] at e; cases e
      | some m =>
        have h7 := endL_app hd1 _ _ (r.drop (endP d r)) m (Nat.le_refl _) h6
        rw [List.take_append_drop, h] at h7; cases h7)
    have h8 : ((d :: r.take (endP d r)).drop 1).dropLast = ((d :: r.take (endP d r)).dropLast).drop 1 := by
      have h9 : r.take (endP d r) ≠ [] := by intro e; rw [e] at h2; simp at h2
      rw [List.drop_succ_cons, List.drop_zero, List.dropLast_cons_of_ne_nil h9, List.drop_succ_cons, List.drop_zero]
    rw [h8]; exact h5
/-- Where the look for a literal's end stands. -/
def LitAt (d : UInt8) (R : List UInt8) (z i : Nat) : Prop := z = min (i + endP d (R.drop i)) R.length
theorem LitAt.start (d : UInt8) (b : UInt8) (r : List UInt8) (hd : (92 : UInt8) ≠ d) : LitAt d (b :: r) (endP d r + 1) 1 := by
  have := endP_le hd _ r (Nat.le_refl _)
  unfold LitAt
  rw [List.drop_succ_cons, List.drop_zero, List.length_cons]; omega
theorem LitAt.hit {d : UInt8} {R : List UInt8} {z i : Nat} (h : LitAt d R z i) (hi : i < R.length) (hb : R[i] = d) : z = i + 1 := by
  unfold LitAt at h
  rw [List.drop_eq_getElem_cons hi, hb, endP_hit] at h; omega
theorem LitAt.one {d : UInt8} {R : List UInt8} {z i : Nat} (h : LitAt d R z i) (hi : i < R.length) (h1 : R[i] ≠ d) (h2 : R[i] ≠ 92) : LitAt d R z (i + 1) := by
  unfold LitAt at h ⊢
  rw [List.drop_eq_getElem_cons hi, endP_one _ h1 h2] at h; omega
theorem LitAt.back {d : UInt8} {R : List UInt8} {z i : Nat} (hd : (92 : UInt8) ≠ d) (h : LitAt d R z i) (hi : i < R.length) (h2 : R[i] = 92) : LitAt d R z (i + 2) := by
  unfold LitAt at h ⊢
  rw [List.drop_eq_getElem_cons hi, h2, endP_back _ hd] at h
  rcases Nat.lt_or_ge (i + 1) R.length with h3 | h3
  · rw [List.drop_eq_getElem_cons h3] at h
    dsimp only at h
    rw [h, show i + 1 + 1 = i + 2 by omega]; omega
  · rw [List.drop_eq_nil_of_le h3] at h
    rw [List.drop_eq_nil_of_le (show R.length ≤ i + 2 by omega), endP_nil]
    dsimp only at h
    omega
theorem LitAt.over {d : UInt8} {R : List UInt8} {z i : Nat} (h : LitAt d R z i) (hi : R.length ≤ i) : z = R.length := by unfold LitAt at h; omega

/-- The longest operator of at most n bytes with which a text begins. -/
def opF (S : List UInt8) : Nat → Option (List UInt8)
  | 0 => none
  | n + 1 => if operators.contains (S.take (n + 1)) = true then some (S.take (n + 1)) else opF S n
theorem ops_sorted : operators.Pairwise (fun a b => b.length ≤ a.length) := by decide
theorem ops_five : ∀ o ∈ operators, o.length ≤ 5 := by decide
theorem opF_none {S : List UInt8} : ∀ n, (∀ o ∈ operators, o.isPrefixOf S = false) → opF S n = none := by
  intro n h
  induction n with
  | zero => rfl
  | succ n ih =>
    rw [opF, if_neg, ih]
    intro e
    have h1 := h _ (List.contains_iff_mem.1 e)
    have h2 : (S.take (n + 1)).isPrefixOf S = true := List.isPrefixOf_iff_prefix.2 (List.take_prefix _ _)
    rw [h2] at h1; cases h1
theorem opF_some {S o : List UInt8} (ho : o ∈ operators) (hp : o.isPrefixOf S = true) (hm : ∀ q ∈ operators, q.isPrefixOf S = true → q.length ≤ o.length) : ∀ n, n ≤ S.length → o.length ≤ n → opF S n = some o := by
  have hpre := List.isPrefixOf_iff_prefix.1 hp
  have hto : S.take o.length = o := (List.prefix_iff_eq_take.1 hpre).symm
  intro n
  induction n with
  | zero =>
    intro _ h
    have := ops_pos o ho; omega
  | succ n ih =>
    intro hn h
    rw [opF]
    by_cases he : o.length = n + 1
    · rw [← he, hto, if_pos (List.contains_iff_mem.2 ho)]
    · rw [if_neg, ih (by omega) (by omega)]
      intro e
      have h2 := hm _ (List.contains_iff_mem.1 e) (List.isPrefixOf_iff_prefix.2 (List.take_prefix _ _))
      rw [List.length_take] at h2; omega
theorem op_longest (S : List UInt8) : (operators.find? fun o => o.isPrefixOf S) = opF S (min 5 S.length) := by
  cases h : operators.find? fun o => o.isPrefixOf S with
  | none =>
    rw [List.find?_eq_none] at h
    exact (opF_none _ fun o ho => Bool.eq_false_iff.2 (h o ho)).symm
  | some o =>
    obtain ⟨hp, us, bs, e, hn⟩ := List.find?_eq_some_iff_append.1 h
    have hs := ops_sorted
    rw [e, List.pairwise_append] at hs
    have hb := (List.pairwise_cons.1 hs.2.1).1
    have ho : o ∈ operators := List.mem_of_find?_eq_some h
    have hle : o.length ≤ S.length := (List.isPrefixOf_iff_prefix.1 hp).length_le
    refine (opF_some ho hp ?_ _ (Nat.min_le_right _ _) (Nat.le_min.2 ⟨ops_five o ho, hle⟩)).symm
    intro q hq hqp
    rw [e, List.mem_append, List.mem_cons] at hq
    rcases hq with hq | hq | hq
    · have := hn q hq; rw [hqp] at this; cases this
    · rw [hq]; exact Nat.le_refl _
    · exact hb q hq
end Go.Proofs.YtbadepiakkhabaaDoor.Tk
/- A region whose order is open, walked once: a fact on each operation's value, kept by the others. No conditions. -/
namespace Go.Proofs.YtbadepiakkhabaaDoor
open Go
set_option linter.unusedVariables false

/-- The first n have come up, the others not. -/
def canonL (m n : Nat) : Array Bool := ((List.range m).map fun j => decide (j < n)).toArray
/-- Every operation waits for earlier ones alone. -/
def backB (ops : Array Oper) : Bool := (List.range ops.size).all fun i => match ops[i]? with
  | some o => o.after.all fun e => decide (e.on < i)
  | none => true
def factB (ops : Array Oper) (n : Nat) : Bool := decide (n < ops.size) && Region.sinkB .any ops n && Region.chainB .any ops n && backB ops && Region.seqB .any ops (ops.size - n) n (canonL ops.size n)
/-- How many of the first n have not come up. -/
def leftN (listed : Array Bool) : Nat → Nat
  | 0 => 0
  | n + 1 => leftN listed n + (if listed.getD n false then 0 else 1)
theorem leftN_le (listed : Array Bool) : ∀ n, leftN listed n ≤ n
  | 0 => Nat.le_refl _
  | n + 1 => by
    rw [leftN]
    have := leftN_le listed n
    split <;> omega
theorem leftN_zero {listed : Array Bool} : ∀ {n : Nat}, leftN listed n = 0 → ∀ j, j < n → listed.getD j false = true
  | 0, _, j, hj => by omega
  | n + 1, h, j, hj => by
    rw [leftN] at h
    by_cases e : j = n
    · subst e
      cases hl : listed.getD j false with
      | true => rfl
      | false => rw [hl] at h; simp at h
    · exact leftN_zero (n := n) (by omega) j (by omega)
theorem leftN_pos {listed : Array Bool} : ∀ {n : Nat}, 0 < leftN listed n → ∃ i, i < n ∧ listed.getD i false = false ∧ ∀ j, j < i → listed.getD j false = true
  | 0, h => by rw [leftN] at h; omega
  | n + 1, h => by
    rw [leftN] at h
    by_cases h0 : 0 < leftN listed n
    · obtain ⟨i, h1, h2, h3⟩ := leftN_pos h0
      exact ⟨i, by omega, h2, h3⟩
    · refine ⟨n, Nat.lt_succ_self n, ?_, leftN_zero (by omega)⟩
      cases hl : listed.getD n false with
      | false => rfl
      | true => rw [hl] at h; simp at h; omega
theorem leftN_keep {listed : Array Bool} {i : Nat} : ∀ {n : Nat}, n ≤ i → leftN (listed.setIfInBounds i true) n = leftN listed n
  | 0, _ => rfl
  | n + 1, h => by
    rw [leftN, leftN, leftN_keep (by omega), getD_set_ne false (by omega)]
theorem leftN_set {listed : Array Bool} {i : Nat} (hs : i < listed.size) (hu : listed.getD i false = false) : ∀ {n : Nat}, i < n → leftN (listed.setIfInBounds i true) n + 1 = leftN listed n
  | 0, h => by omega
  | n + 1, h => by
    rw [leftN, leftN]
    by_cases e : i = n
    · subst e
      rw [leftN_keep (Nat.le_refl _), hu]
      have : (listed.setIfInBounds i true).getD i false = true := by simp [hs]
      rw [this]; simp
    · rw [getD_set_ne false e]
      have := leftN_set hs hu (n := n) (by omega)
      omega
theorem canon_eq {listed : Array Bool} {m n : Nat} (hs : listed.size = m) (h1 : ∀ j, j < n → listed.getD j false = true) (h2 : ∀ t, n ≤ t → t < m → listed.getD t true = false) : listed = canonL m n := by
  apply Array.ext
  · unfold canonL; simp [hs]
  · intro j hj1 hj2
    have e : (canonL m n)[j] = decide (j < n) := by simp only [canonL, List.getElem_toArray, List.getElem_map, List.getElem_range]
    rw [e]
    by_cases hj : j < n
    · have := h1 j hj
      rw [decide_eq_true hj]
      simpa [hj1] using this
    · have := h2 j (by omega) (by omega)
      rw [decide_eq_false hj]
      simpa [hj1] using this
section
variable {P : Program} {Q : Exit → Act → World → Prop} {l : List Oper}
theorem wpAny_inv (n : Nat) (hB : factB l.toArray n = true) (G : Array Bool → Act → World → Prop)
    (hstep : ∀ (i : Nat) (listed : Array Bool) (a : Act) (w : World), i < n → HeadInv .any l.toArray n listed → i ∈ Region.ready .any l.toArray listed → G listed a w → wpOp P l.toArray Q i (fun a' w' => G (listed.setIfInBounds i true) a' w') a w)
    (hend : ∀ (listed : Array Bool) (a : Act) (w : World), (∀ j, j < n → listed.getD j false = true) → G listed a w → wpList P l.toArray Q (l.drop n) a w) :
    ∀ (f : Nat) (listed : Array Bool) (a : Act) (w : World), HeadInv .any l.toArray n listed → leftN listed n = f → G listed a w → wpAny P .any l.toArray Q (f + (l.toArray.size - n)) listed a w := by
  simp only [factB, Bool.and_eq_true, decide_eq_true_eq] at hB
  obtain ⟨⟨⟨⟨hn, hs⟩, hc⟩, hback⟩, hseq⟩ := hB
  have hdl : (l.drop n).length = l.toArray.size - n := by simp
  intro f
  induction f with
  | zero =>
    intro listed a w inv hl hG
    have hall := leftN_zero hl
    have e := canon_eq inv.size hall inv.tail
    have := wpAny_of_seq (md := .any) (P := P) (ops := l.toArray) (Q' := Q) (l.drop n) n listed a w (fun j => by simp [List.getElem?_drop]) (by rw [hdl, e]; exact hseq) (hend listed a w hall hG)
    rw [hdl] at this
    rw [Nat.zero_add]
    exact this
  | succ f ih =>
    intro listed a w inv hl hG
    obtain ⟨i0, hi0, hu0, hmin⟩ := leftN_pos (listed := listed) (n := n) (by omega)
    have hi0s : i0 < listed.size := by rw [inv.size]; omega
    have hu0' := getD_in hi0s hu0
    have hr0 : i0 ∈ Region.ready .any l.toArray listed := by
      obtain ⟨o0, ho0⟩ : ∃ o, l.toArray[i0]? = some o := ⟨_, Array.getElem?_eq_getElem (by omega)⟩
      refine mem_ready.2 ⟨hu0', o0, ho0, fun e he hb => hmin _ ?_⟩
      have h1 := List.all_eq_true.1 hback i0 (List.mem_range.2 (by omega))
      rw [ho0] at h1
      have h2 := Array.all_eq_true'.1 h1 e he
      simpa using h2
    rw [show f + 1 + (l.toArray.size - n) = (f + (l.toArray.size - n)) + 1 by omega]
    refine ⟨fun h => (by rw [h] at hr0; cases hr0), fun i hi => ?_⟩
    have hin : i < n := by
      rcases Nat.lt_or_ge i n with h | h
      · exact h
      · exact absurd hi (tail_waits hs hc hn inv _ i0 rfl hi0 hu0' i h)
    have hui := (mem_ready.1 hi).1
    refine wpOp_mono (fun a' w' h' => ih _ a' w' (inv.set hi hin) ?_ h') (hstep i listed a w hin inv hi hG)
    have := leftN_set (listed := listed) (i := i) (by rw [inv.size]; omega) (getD_both hui) (n := n) hin
    omega
theorem wp_region_inv {id : Nat} {a : Act} {w : World} (n : Nat) (hm : P.follows .mixedOrders = true) (hB : factB l.toArray n = true) (G : Array Bool → Act → World → Prop) (h0 : G (Array.replicate l.toArray.size false) a { w with drawn := w.drawn + 1 })
    (hstep : ∀ (i : Nat) (listed : Array Bool) (a : Act) (w : World), i < n → HeadInv .any l.toArray n listed → i ∈ Region.ready .any l.toArray listed → G listed a w → wpOp P l.toArray Q i (fun a' w' => G (listed.setIfInBounds i true) a' w') a w)
    (hend : ∀ (listed : Array Bool) (a : Act) (w : World), (∀ j, j < n → listed.getD j false = true) → G listed a w → wpList P l.toArray Q (l.drop n) a w) :
    (Code.region id l.toArray true).wp P Q a w := by
  have hB' := hB
  simp only [factB, Bool.and_eq_true, decide_eq_true_eq] at hB'
  have hn := hB'.1.1.1.1
  refine wp_region_any hm ?_
  have inv0 : HeadInv .any l.toArray n (Array.replicate l.toArray.size false) :=
    ⟨by simp, fun j oj _ hl => (by rw [getD_replicate_false] at hl; cases hl), fun t _ ht => getD_in (by simpa using ht) (getD_replicate_false _ _)⟩
  have hl0 : leftN (Array.replicate l.toArray.size false) n = n := by
    have : ∀ m, leftN (Array.replicate l.toArray.size false) m = m := by
      intro m
      induction m with
      | zero => rfl
      | succ m ih => rw [leftN, ih, getD_replicate_false]; simp
    exact this n
  have := wpAny_inv n hB G hstep hend n _ a _ inv0 hl0 h0
  rw [show n + (l.toArray.size - n) = l.toArray.size by omega] at this
  exact this
/-- One operation by a walk of its own. -/
theorem wpOp_of_list {ops : Array Oper} {i : Nat} {o : Oper} {K : Act → World → Prop} {a : Act} {w : World} (ho : ops[i]? = some o) (h : wpList P ops (Exit.then K Q) [o] a w) : wpOp P ops Q i K a w := by
  unfold wpOp
  simp only [ho]
  have h' := h
  unfold wpList at h'
  split
  · rename_i hw
    rw [if_pos hw] at h'
    rcases h' with h' | ⟨h1, h2⟩
    · refine .inl ?_
      unfold Oper.wp at h' ⊢
      generalize (execOp a.eval o).run P w = r at h' ⊢
      cases r with
      | ok x w' =>
        cases x <;> simp only [Oper.upon] at h' ⊢
        case value => exact h'
        case skip => exact h'
        case defer => exact h'
        case enter => exact Calls.mono h' (fun e w'' he => by cases e <;> exact he)
        case row => exact Rows.mono h' (fun _ _ he => he)
      | halt x w' => cases x <;> simp only [Oper.upon] at h' ⊢ <;> exact h'
    · exact .inr ⟨h1, h2⟩
  · rename_i hw
    rw [if_neg hw] at h'
    exact h'
/-- One more has come up. -/
def upL (L : Nat → Bool) (i : Nat) : Nat → Bool := fun k => if k = i then true else L k
/-- A region by facts: F says of each operation's value what it is, R what an operation does to the world, I what holds of the world all the while. L: which have come up. -/
theorem wp_region_facts {id : Nat} {a : Act} {w : World} (n : Nat) (hm : P.follows .mixedOrders = true) (hB : factB l.toArray n = true) (mk : (Nat → Value) → Act) (vs0 : Nat → Value) (ha : a = mk vs0)
    (I : (Nat → Bool) → World → Prop) (hI : I (fun _ => false) { w with drawn := w.drawn + 1 }) (R : Nat → World → World → Prop)
    (F : (Nat → Bool) → Nat → Value → World → Prop) (hF : ∀ L j i v w1 w2, j ≠ i → L i = false → I L w1 → R i w1 w2 → F L j v w1 → F (upL L i) j v w2)
    (hput : ∀ i, i < n → ∀ o, l.toArray[i]? = some o → ∀ vs v, (mk vs).put o.dst v = mk (fun j => if j = i then v else vs j))
    (hop : ∀ i, i < n → ∀ o, l.toArray[i]? = some o → ∀ L vs w1, L i = false → I L w1 → (∀ j, Region.waitsFor .any l.toArray i j = true → F L j (vs j) w1) → wpList P l.toArray (Exit.then (fun a' w' => ∃ v, a' = (mk vs).put o.dst v ∧ R i w1 w' ∧ I (upL L i) w' ∧ F (upL L i) i v w') Q) [o] (mk vs) w1)
    (hend : ∀ L vs w1, (∀ j, j < n → L j = true) → I L w1 → (∀ j, j < n → F L j (vs j) w1) → wpList P l.toArray Q (l.drop n) (mk vs) w1) :
    (Code.region id l.toArray true).wp P Q a w := by
  have hB' := hB
  simp only [factB, Bool.and_eq_true, decide_eq_true_eq] at hB'
  have hn := hB'.1.1.1.1
  have hback := hB'.1.2
  have hup : ∀ (listed : Array Bool) (i : Nat), i < listed.size → (fun j => (listed.setIfInBounds i true).getD j false) = upL (fun j => listed.getD j false) i := fun listed i hi => by
    funext j
    unfold upL
    by_cases e : j = i
    · subst e; rw [if_pos rfl]; simp [hi]
    · rw [if_neg e, getD_set_ne false (fun h => e h.symm)]
  refine wp_region_inv n hm hB (fun listed a w1 => ∃ vs, a = mk vs ∧ I (fun j => listed.getD j false) w1 ∧ ∀ j, j < n → listed.getD j false = true → F (fun j => listed.getD j false) j (vs j) w1) ⟨vs0, ha, (by rw [show (fun j => (Array.replicate l.toArray.size false).getD j false) = fun _ => false from funext fun j => getD_replicate_false _ j]; exact hI), fun j _ h => by rw [getD_replicate_false] at h; cases h⟩ ?_ ?_
  · rintro i listed a1 w1 hi inv hr ⟨vs, rfl, hI1, hf⟩
    obtain ⟨hun, o, ho, hall⟩ := mem_ready.1 hr
    have his : i < listed.size := by rw [inv.size]; omega
    refine wpOp_mono ?_ (wpOp_of_list ho (hop i hi o ho (fun j => listed.getD j false) vs w1 (getD_both hun) hI1 fun j hw => ?_))
    · rintro a' w' ⟨v, rfl, hR', hI', hv⟩
      refine ⟨fun j => if j = i then v else vs j, hput i hi o ho vs v, (by rw [hup listed i his]; exact hI'), fun j hj hl => ?_⟩
      rw [hup listed i his]
      by_cases e : j = i
      · subst e; simpa using hv
      · rw [getD_set_ne false (fun h => e h.symm)] at hl
        simp only [if_neg e]
        exact hF _ j i _ w1 w' e (getD_both hun) hI1 hR' (hf j hj hl)
    · obtain ⟨o', ho', e, he, hb, hon⟩ := Region.waitsFor_spec hw
      obtain rfl : o' = o := Option.some.inj (ho'.symm.trans ho)
      have h1 := List.all_eq_true.1 hback i (List.mem_range.2 (by omega))
      rw [ho] at h1
      have h2 : e.on < i := by simpa using Array.all_eq_true'.1 h1 e he
      rw [← hon]
      exact hf _ (by omega) (hall e he hb)
  · rintro listed a1 w1 hall ⟨vs, rfl, hI1, hf⟩
    exact hend _ vs w1 hall hI1 fun j hj => hf j hj (hall j hj)
/-- The values of the first operations, put one after the other. -/
def putsA (a : Act) : List Oper → (Nat → Value) → Nat → Act
  | [], _, _ => a
  | o :: r, vs, k => putsA (a.put o.dst (vs k)) r vs (k + 1)
theorem put_same (a : Act) (d : Option Tmp) (u v : Value) : (a.put d u).put d v = a.put d v := by
  cases d with
  | none => rfl
  | some t => simp [Act.put]
theorem put_swap (a : Act) {d e : Option Tmp} (h : ∀ t, d = some t → e ≠ some t) (u v : Value) : (a.put d u).put e v = (a.put e v).put d u := by
  cases d with
  | none => cases e <;> rfl
  | some t =>
    cases e with
    | none => rfl
    | some s =>
      have hne : t ≠ s := fun e => h t rfl (by rw [e])
      simp only [Act.put]
      rw [Array.setIfInBounds_comm _ _ hne]
theorem putsA_put {d : Option Tmp} {v : Value} : ∀ (l : List Oper) (a : Act) (vs : Nat → Value) (k : Nat), (∀ o ∈ l, ∀ t, o.dst = some t → d ≠ some t) → (putsA a l vs k).put d v = putsA (a.put d v) l vs k
  | [], a, vs, k, _ => rfl
  | o :: r, a, vs, k, h => by
    rw [putsA, putsA, putsA_put r _ vs (k + 1) (fun x hx => h x (List.mem_cons_of_mem _ hx)), put_swap a (h o List.mem_cons_self)]
theorem putsA_congr : ∀ (l : List Oper) (a : Act) (vs us : Nat → Value) (k : Nat), (∀ j, k ≤ j → vs j = us j) → putsA a l vs k = putsA a l us k
  | [], _, _, _, _, _ => rfl
  | o :: r, a, vs, us, k, h => by
    rw [putsA, putsA, h k (Nat.le_refl _), putsA_congr r _ vs us (k + 1) (fun j hj => h j (by omega))]
/-- No two operations write one slot. -/
def slotsB : List Oper → Bool
  | [] => true
  | o :: r => (match o.dst with | some t => r.all (fun x => x.dst != some t) | none => true) && slotsB r
theorem slotsB_spec {o : Oper} {r : List Oper} (h : slotsB (o :: r) = true) : (∀ x ∈ r, ∀ t, x.dst = some t → o.dst ≠ some t) ∧ slotsB r = true := by
  rw [slotsB, Bool.and_eq_true] at h
  refine ⟨fun x hx t ht e => ?_, h.2⟩
  have h1 := h.1
  rw [e] at h1
  have h2 := List.all_eq_true.1 h1 x hx
  rw [ht] at h2
  simp at h2
theorem putsA_set : ∀ (l : List Oper) (a : Act) (vs : Nat → Value) (k i : Nat) (o : Oper) (v : Value), slotsB l = true → l[i]? = some o → (putsA a l vs k).put o.dst v = putsA a l (fun j => if j = k + i then v else vs j) k
  | [], _, _, _, _, _, _, _, h => by simp at h
  | x :: r, a, vs, k, 0, o, v, hs, h => by
    obtain rfl : x = o := by simpa using h
    obtain ⟨h1, h2⟩ := slotsB_spec hs
    rw [putsA, putsA, putsA_put r _ vs (k + 1) h1, put_same]
    have e : (if k = k + 0 then v else vs k) = v := if_pos rfl
    rw [e]
    exact putsA_congr r _ _ _ _ (fun j hj => by rw [if_neg (by omega)])
  | x :: r, a, vs, k, i + 1, o, v, hs, h => by
    obtain ⟨h1, h2⟩ := slotsB_spec hs
    rw [putsA, putsA, putsA_set r _ vs (k + 1) i o v h2 (by simpa using h)]
    have e : (if k = k + (i + 1) then v else vs k) = vs k := if_neg (by omega)
    rw [e]
    exact putsA_congr r _ _ _ _ (fun j hj => by rw [show k + 1 + i = k + (i + 1) by omega])
/-- The values that stand there. -/
def hadA (a : Act) (l : List Oper) (k : Nat) : Value := match l[k]? with
  | some o => (match o.dst with | some t => a.tmps.getD t undef | none => undef)
  | none => undef
theorem put_had (a : Act) (d : Option Tmp) : a.put d (match d with | some t => a.tmps.getD t undef | none => undef) = a := by
  cases d with
  | none => rfl
  | some t =>
    simp only [Act.put]
    have e : a.tmps.setIfInBounds t (a.tmps.getD t undef) = a.tmps := by
      apply Array.ext_getElem?
      intro j
      rw [Array.getElem?_setIfInBounds]
      by_cases h : t = j
      · subst h
        rw [if_pos rfl]
        by_cases hs : t < a.tmps.size
        · simp [hs]
        · simp [hs]
      · rw [if_neg h]
    rw [e]
theorem putsA_had : ∀ (l : List Oper) (a : Act) (vs : Nat → Value) (k : Nat), (∀ j o, l[j]? = some o → vs (k + j) = (match o.dst with | some t => a.tmps.getD t undef | none => undef)) → putsA a l vs k = a
  | [], _, _, _, _ => rfl
  | o :: r, a, vs, k, h => by
    have h0 := h 0 o rfl
    rw [Nat.add_zero] at h0
    rw [putsA, h0, put_had]
    exact putsA_had r a vs (k + 1) (fun j x hx => by rw [show k + 1 + j = k + (j + 1) by omega]; exact h (j + 1) x (by simpa using hx))
theorem putsA_size : ∀ (l : List Oper) (a : Act) (vs : Nat → Value) (k : Nat), (putsA a l vs k).tmps.size = a.tmps.size
  | [], _, _, _ => rfl
  | o :: r, a, vs, k => by
    rw [putsA, putsA_size r]
    cases o.dst <;> simp [Act.put]
theorem putsA_oth : ∀ (l : List Oper) (a : Act) (vs : Nat → Value) (k t : Nat), (l.all fun o => o.dst != some t) = true → (putsA a l vs k).tmps[t]? = a.tmps[t]?
  | [], _, _, _, _, _ => rfl
  | o :: r, a, vs, k, t, h => by
    rw [List.all_cons, Bool.and_eq_true] at h
    rw [putsA, putsA_oth r _ vs (k + 1) t h.2]
    have h1 := h.1
    cases hd : o.dst with
    | none => rfl
    | some s =>
      rw [hd] at h1
      have hne : s ≠ t := by simpa using h1
      simp only [Act.put]
      rw [Array.getElem?_setIfInBounds, if_neg hne]
theorem putsA_at : ∀ (l : List Oper) (a : Act) (vs : Nat → Value) (k i t : Nat) (o : Oper), slotsB l = true → l[i]? = some o → o.dst = some t → t < a.tmps.size → (putsA a l vs k).tmps[t]? = some (vs (k + i))
  | [], _, _, _, _, _, _, _, h, _, _ => by simp at h
  | x :: r, a, vs, k, 0, t, o, hs, h, hd, ht => by
    obtain rfl : x = o := by simpa using h
    obtain ⟨h1, h2⟩ := slotsB_spec hs
    rw [putsA, putsA_oth r _ vs (k + 1) t (List.all_eq_true.2 fun y hy => by
      have h3 := h1 y hy
      cases hy2 : y.dst with
      | none => rfl
      | some s =>
        have := h3 s hy2
        rw [hd] at this
        simp only [bne_iff_ne, ne_eq]
        exact fun e => this (by rw [e])), hd]
    simp only [Act.put]
    rw [Array.getElem?_setIfInBounds, if_pos rfl, if_pos ht, Nat.add_zero]
  | x :: r, a, vs, k, i + 1, t, o, hs, h, hd, ht => by
    obtain ⟨h1, h2⟩ := slotsB_spec hs
    rw [putsA, putsA_at r _ vs (k + 1) i t o h2 (by simpa using h) hd (by cases x.dst <;> simpa [Act.put] using ht), show k + 1 + i = k + (i + 1) by omega]
/-- What stands in the slots of a frame: the operations' values, elsewhere what stood there. -/
def EvA (a : Act) (l : List Oper) (vs : Nat → Value) (A : Act) : Prop := (∀ i o t, l[i]? = some o → o.dst = some t → A.tmps[t]?.getD undef = vs i) ∧ ∀ t, (l.all fun o => o.dst != some t) = true → A.tmps[t]?.getD undef = a.tmps[t]?.getD undef
/-- What is asked of each operation. -/
@[reducible] def hopsA (P : Program) (ops : Array Oper) (Q : Exit → Act → World → Prop) (I : (Nat → Bool) → World → Prop) (R : Nat → World → World → Prop) (F : (Nat → Bool) → Nat → Value → World → Prop) (E : (Nat → Value) → Act → Prop) : List Oper → Nat → Prop
  | [], _ => True
  | o :: r, i => (∀ L vs A w1, E vs A → L i = false → I L w1 → (∀ j, Region.waitsFor .any ops i j = true → F L j (vs j) w1) → wpList P ops (Exit.then (fun a' w' => ∃ v, a' = A.put o.dst v ∧ R i w1 w' ∧ I (upL L i) w' ∧ F (upL L i) i v w') Q) [o] A w1) ∧ hopsA P ops Q I R F E r (i + 1)
theorem hopsA_at {P : Program} {ops : Array Oper} {Q : Exit → Act → World → Prop} {I : (Nat → Bool) → World → Prop} {R : Nat → World → World → Prop} {F : (Nat → Bool) → Nat → Value → World → Prop} {E : (Nat → Value) → Act → Prop} : ∀ (r : List Oper) (k i : Nat) (o : Oper), hopsA P ops Q I R F E r k → r[i]? = some o →
    ∀ L vs A w1, E vs A → L (k + i) = false → I L w1 → (∀ j, Region.waitsFor .any ops (k + i) j = true → F L j (vs j) w1) → wpList P ops (Exit.then (fun a' w' => ∃ v, a' = A.put o.dst v ∧ R (k + i) w1 w' ∧ I (upL L (k + i)) w' ∧ F (upL L (k + i)) (k + i) v w') Q) [o] A w1
  | [], _, _, _, _, h => by simp at h
  | x :: r, k, 0, o, hh, h => by
    obtain rfl : x = o := by simpa using h
    exact hh.1
  | x :: r, k, i + 1, o, hh, h => by
    have := hopsA_at r (k + 1) i o hh.2 (by simpa using h)
    rw [show k + 1 + i = k + (i + 1) by omega] at this
    exact this
/-- A region by facts, its frame by the slots that it writes (N: the size of the frame). -/
theorem wp_region_by {id : Nat} {a : Act} {w : World} (n N : Nat) (hm : P.follows .mixedOrders = true) (hB : factB l.toArray n = true) (hS : slotsB (l.take n) = true) (hN : a.tmps.size = N) (hT : ((l.take n).all fun o => match o.dst with | some t => decide (t < N) | none => true) = true)
    (I : (Nat → Bool) → World → Prop) (hI : I (fun _ => false) { w with drawn := w.drawn + 1 }) (R : Nat → World → World → Prop)
    (F : (Nat → Bool) → Nat → Value → World → Prop) (hF : ∀ L j i v w1 w2, j ≠ i → L i = false → I L w1 → R i w1 w2 → F L j v w1 → F (upL L i) j v w2)
    (hop : hopsA P l.toArray Q I R F (EvA a (l.take n)) (l.take n) 0)
    (hend : ∀ L vs w1, (∀ j, j < n → L j = true) → I L w1 → (∀ j, j < n → F L j (vs j) w1) → wpList P l.toArray Q (l.drop n) (putsA a (l.take n) vs 0) w1) :
    (Code.region id l.toArray true).wp P Q a w := by
  have htk : ∀ i, i < n → ∀ o, l.toArray[i]? = some o → (l.take n)[i]? = some o := fun i hi o ho => by
    rw [List.getElem?_take, if_pos hi]; simpa using ho
  have hev : ∀ vs, EvA a (l.take n) vs (putsA a (l.take n) vs 0) := fun vs => ⟨fun i o t ho hd => by
    have h1 := List.all_eq_true.1 hT o (List.mem_of_getElem? ho)
    rw [hd] at h1
    rw [putsA_at (l.take n) a vs 0 i t o hS ho hd (by rw [hN]; simpa using h1), Nat.zero_add]; rfl, fun t ht => by rw [putsA_oth (l.take n) a vs 0 t ht]⟩
  refine wp_region_facts n hm hB (fun vs => putsA a (l.take n) vs 0) (hadA a (l.take n)) (putsA_had _ _ _ _ (fun j o ho => by rw [Nat.zero_add]; unfold hadA; rw [ho])).symm I hI R F hF (fun i hi o ho vs v => ?_) (fun i hi o ho L vs w1 hL hI1 hd => ?_) hend
  · have := putsA_set (l.take n) a vs 0 i o v hS (htk i hi o ho)
    rw [Nat.zero_add] at this
    exact this
  · have := hopsA_at (l.take n) 0 i o hop (htk i hi o ho) L vs _ w1 (hev vs) (by rw [Nat.zero_add]; exact hL) hI1 (by rw [Nat.zero_add]; exact hd)
    rw [Nat.zero_add] at this
    exact this
end
end Go.Proofs.YtbadepiakkhabaaDoor
