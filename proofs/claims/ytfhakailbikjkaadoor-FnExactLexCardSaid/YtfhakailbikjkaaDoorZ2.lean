/- Joined texts: K2, Q1, C5, M3. No conditions besides those that each states. -/
import Derived.Laws.BitsAllLaws
import Derived.Lib.Hide
import Derived.Test.YtfhakailbikjkaaDoorZ1
/- Plain facts on tokens: their texts, separated by blanks, give the same tokens. No conditions. -/
namespace Go.Proofs.YtfhakailbikjkaaDoor.Tk
set_option linter.unusedVariables false

theorem Lt_el_end (d : UInt8) (hd : d = 34 ∨ d = 39) (b : UInt8) (r : List UInt8) : Lt.endL d (Lt.el d b ++ r) = (Lt.endL d r).map (· + (Lt.el d b).length) := by
  have hd1 : (92 : UInt8) ≠ d := by rcases hd with rfl | rfl <;> decide
  have hexok : ∀ n, n < 16 → Lt.hexC n ≠ d ∧ Lt.plain (Lt.hexC n) = true ∧ Lt.hexC n ≠ 92 := by
    intro n hn
    have h := Lt.hexC_nat n hn
    refine ⟨?_, (Lt.plain_iff _).2 (by rw [h]; split <;> omega), ?_⟩
    · rcases hd with rfl | rfl
      · intro e; rw [e] at h; simp at h; split at h <;> omega
      · intro e; rw [e] at h; simp at h; split at h <;> omega
    · intro e; rw [e] at h; simp at h; split at h <;> omega
  have hb := UInt8.toNat_lt b
  rcases Lt.el_cases d b with ⟨h1, e⟩ | ⟨h1, h2, e⟩ | ⟨h1, h2, h3, h4, e⟩ | ⟨h1, h2, e⟩ | ⟨h1, h2, e⟩ | ⟨h1, h2, h3, h4, h5, e⟩ | ⟨h1, h2, h3, h4, h5, e⟩
  · rw [e]; exact Lt.endL_back _ hd1
  · rw [e]; exact Lt.endL_back _ hd1
  · rw [e]; exact Lt.endL_one _ h1 ((Lt.plain_iff b).2 ⟨h3, h4⟩) h2
  · rw [e]; exact Lt.endL_back _ hd1
  · rw [e]; exact Lt.endL_back _ hd1
  all_goals
    obtain ⟨p1, p2, p3⟩ := hexok (b.toNat / 16) (by omega)
    obtain ⟨q1, q2, q3⟩ := hexok (b.toNat % 16) (by omega)
    rw [e]
    show Lt.endL d (92 :: 120 :: Lt.hexC (b.toNat / 16) :: Lt.hexC (b.toNat % 16) :: r) = _
    rw [Lt.endL_back _ hd1]
    show (Lt.endL d (Lt.hexC (b.toNat / 16) :: Lt.hexC (b.toNat % 16) :: r)).map (· + 2) = _
    rw [Lt.endL_one _ p1 p2 p3, Lt.endL_one _ q1 q2 q3]
    cases Lt.endL d r <;> simp
theorem Lt_els_end (d : UInt8) (hd : d = 34 ∨ d = 39) (l : List UInt8) (r : List UInt8) : Lt.endL d (l.flatMap (Lt.el d) ++ d :: r) = some ((l.flatMap (Lt.el d)).length + 1) := by
  induction l with
  | nil => exact Lt.endL_hit d r
  | cons b l ih =>
    rw [List.flatMap_cons, List.append_assoc, Lt_el_end d hd, ih]
    simp; omega

/-- The source form of a token. -/
def tx (k : Nat) (t : List UInt8) : List UInt8 := if k = 4 then Lt.quo 34 t else if k = 5 then Lt.quo 39 t else if k = 6 then 38 :: t else t
/-- What denotes is read again. -/
structure Again (D : Den) : Prop where
  int : ∀ w t, D.int w = some t → t ≠ [] ∧ t.all Dec.isDig = true ∧ D.int t = some t
  str : ∀ q t, D.str q = some t → D.str (Lt.quo 34 t) = some t
  set : ∀ q t, D.set q = some t → D.set (Lt.quo 39 t) = some t
/-- Nothing stands behind, or a blank. -/
def Gap (r : List UInt8) : Prop := r = [] ∨ r.head? = some 32
/-- A first byte that begins a token. -/
def firstOk (b : UInt8) : Bool := b != 10 && b != 32 && b != 9 && b != 35
theorem take_gap (p : UInt8 → Bool) (hp : p 32 = false) (w r : List UInt8) (hw : w.all p = true) (hr : Gap r) : (w ++ r).takeWhile p = w := by
  induction w with
  | nil =>
    rcases hr with rfl | h
    · rfl
    · cases r with
      | nil => rfl
      | cons c r => simp at h; subst h; simp [hp]
  | cons b w ih =>
    simp at hw
    rw [List.cons_append, List.takeWhile_cons, if_pos hw.1, ih (by simpa using hw.2)]
theorem letter_dig {b : UInt8} (h : Dec.isDig b = true) : letter b = false := by
  have h2 := Dec.isDig_le h
  have h3 : b ≠ 95 := by rintro rfl; simp at h2
  unfold letter
  simp [h3]; omega
theorem take_all (p : UInt8 → Bool) (l : List UInt8) : (l.takeWhile p).all p = true := by
  induction l with
  | nil => rfl
  | cons b l ih => rw [List.takeWhile_cons]; split <;> simp_all
theorem ops_first : ∀ o ∈ operators, (o.head?.map fun b => firstOk b && !letter b && !Dec.isDig b && b != 34 && b != 39) = some true := by decide
theorem ops_self : ∀ o ∈ operators, (operators.find? fun p => p.isPrefixOf o) = some o := by decide
theorem ops_blank : ∀ o ∈ operators, o.contains 32 = false := by decide
theorem prefix_gap (p o r : List UInt8) (hp : p.contains 32 = false) (hr : Gap r) : p.isPrefixOf (o ++ r) = p.isPrefixOf o := by
  induction p generalizing o with
  | nil => cases o <;> cases r <;> rfl
  | cons b p ih =>
    have hb : b ≠ 32 ∧ p.contains 32 = false := by
      simp at hp
      exact ⟨fun e => hp.1 e.symm, by simpa using hp.2⟩
    cases o with
    | nil =>
      rcases hr with rfl | h
      · rfl
      · cases r with
        | nil => rfl
        | cons c r =>
          simp at h; subst h
          have : (b == 32) = false := by simpa using hb.1
          simp [List.isPrefixOf, this]
    | cons c o =>
      show (b == c && p.isPrefixOf (o ++ r)) = (b == c && p.isPrefixOf o)
      rw [ih o hb.2]
theorem one_op (D : Den) (o r : List UInt8) (ho : o ∈ operators) (hr : Gap r) : one D (o ++ r) = some (7, o, o.length) := by
  have h1 := ops_first o ho
  have h2 := ops_self o ho
  have h3 : (operators.find? fun p => p.isPrefixOf (o ++ r)) = some o := by
    rw [← h2]
    have : ∀ l : List (List UInt8), (∀ p ∈ l, p.contains 32 = false) → l.find? (fun p => p.isPrefixOf (o ++ r)) = l.find? fun p => p.isPrefixOf o := by
      intro l
      induction l with
      | nil => intro _; rfl
      | cons p l ih =>
        intro h
        rw [List.find?_cons, List.find?_cons, prefix_gap p o r (h p (List.mem_cons_self)) hr, ih (fun q hq => h q (List.mem_cons_of_mem _ hq))]
    exact this operators ops_blank
  cases o with
  | nil => simp at h1
  | cons b o =>
    simp at h1
    obtain ⟨⟨⟨⟨h4, h5⟩, h6⟩, h7⟩, h8⟩ := h1
    rw [List.cons_append] at h3 ⊢
    have h9 : ¬ (b = 38 ∧ (o ++ r).head?.map letter = some true) := by
      rintro ⟨rfl, h⟩
      have : o = [] := by
        have hx : ∀ q ∈ operators, q.head? = some 38 → q = [38] := by decide
        have := hx _ ho rfl
        simpa using this
      subst this
      rcases hr with rfl | hr
      · simp at h
      · simp [hr] at h; exact absurd h (by decide)
    simp only [one]
    rw [if_neg (by simp [h5]), if_neg (by simp [h6]), if_neg (by simpa using h7), if_neg (by simpa using h8), if_neg h9, h3]
    rfl
/-- A token whose source form is read again as itself. -/
def OkT (D : Den) (k : Nat) (t : List UInt8) : Prop := (∃ b r, tx k t = b :: r ∧ firstOk b = true) ∧ ∀ r, Gap r → one D (tx k t ++ r) = some (k, t, (tx k t).length)
theorem okT_op (D : Den) (o : List UInt8) (ho : o ∈ operators) : OkT D 7 o := by
  refine ⟨?_, fun r hr => by show one D (o ++ r) = _; exact one_op D o r ho hr⟩
  have h1 := ops_first o ho
  cases o with
  | nil => simp at h1
  | cons b o => simp at h1; exact ⟨b, o, rfl, h1.1.1.1.1⟩
theorem letter_first {b : UInt8} (h : letter b = true) : firstOk b = true := by
  unfold firstOk
  have : ∀ c : UInt8, letter c = false → b ≠ c := fun c hc e => by rw [e, hc] at h; cases h
  have h1 := this 10 (by decide)
  have h2 := this 32 (by decide)
  have h3 := this 9 (by decide)
  have h4 := this 35 (by decide)
  simp [h1, h2, h3, h4]
theorem dig_first {b : UInt8} (h : Dec.isDig b = true) : firstOk b = true := by
  unfold firstOk
  have : ∀ c : UInt8, Dec.isDig c = false → b ≠ c := fun c hc e => by rw [e, hc] at h; cases h
  have h1 := this 10 (by decide)
  have h2 := this 32 (by decide)
  have h3 := this 9 (by decide)
  have h4 := this 35 (by decide)
  simp [h1, h2, h3, h4]
theorem idb_blank : idb 32 = false := by decide
theorem letter_blank : letter 32 = false := by decide
theorem kw_head : ∀ w ∈ keywords, ∃ b r, w = b :: r ∧ letter b = true ∧ w.all letter = true := by
  intro w hw
  have h : ∀ w ∈ keywords, w ≠ [] ∧ w.all letter = true := by decide
  obtain ⟨h1, h2⟩ := h w hw
  cases w with
  | nil => exact absurd rfl h1
  | cons b r => exact ⟨b, r, rfl, by simp at h2; exact h2.1, h2⟩
theorem dig_idb {l : List UInt8} (h : l.all Dec.isDig = true) : l.all idb = true := by
  rw [List.all_eq_true] at h ⊢
  intro x hx
  unfold idb
  rw [h x hx]; simp
/-- What is read is read again. -/
theorem one_again {D : Den} (A : Again D) {R t : List UInt8} {k n : Nat} (h : one D R = some (k, t, n)) : OkT D k t := by
  match R with
  | [] => cases h
  | b :: q =>
    simp only [one] at h
    split at h
    · rename_i hb
      have hid : (q.takeWhile idb).all idb = true := take_all _ _
      split at h
      · rename_i hres
        cases h
        refine ⟨⟨b, _, rfl, letter_first hb⟩, fun r hr => ?_⟩
        show one D (b :: (q.takeWhile idb ++ r)) = _
        simp only [one]
        rw [if_pos hb, take_gap idb idb_blank _ r hid hr, if_pos hres]; rfl
      · rename_i hres
        split at h
        · rename_i hnm
          cases h
          refine ⟨⟨b, _, rfl, letter_first hb⟩, fun r hr => ?_⟩
          show one D (b :: (q.takeWhile idb ++ r)) = _
          simp only [one]
          rw [if_pos hb, take_gap idb idb_blank _ r hid hr, if_neg hres, if_pos hnm]; rfl
        · cases h
    · split at h
      · cases hi : D.int (b :: q.takeWhile idb) with
        | none => rw [hi] at h; cases h
        | some x =>
          rw [hi] at h
          cases h
          obtain ⟨h1, h2, h3⟩ := A.int _ _ hi
          cases t with
          | nil => exact absurd rfl h1
          | cons c t =>
            have hc : Dec.isDig c = true := by simp at h2; exact h2.1
            have ht : t.all idb = true := dig_idb (by simp at h2; simpa using h2.2)
            refine ⟨⟨c, t, rfl, dig_first hc⟩, fun r hr => ?_⟩
            show one D (c :: (t ++ r)) = _
            simp only [one]
            rw [if_neg (by rw [letter_dig hc]; simp), if_pos hc, take_gap idb idb_blank _ r ht hr, h3]; rfl
      · split at h
        · cases he : Lt.endL 34 q with
          | none => rw [he] at h; cases h
          | some m =>
            rw [he] at h
            cases hs : D.str (b :: q.take m) with
            | none => simp [hs] at h
            | some x =>
              simp [hs] at h
              obtain ⟨rfl, rfl, _⟩ := h
              have h2 := A.str _ _ hs
              refine ⟨⟨34, _, rfl, rfl⟩, fun r hr => ?_⟩
              have h3 : tx 4 x ++ r = 34 :: (x.flatMap (Lt.el 34) ++ 34 :: r) := by show Lt.quo 34 x ++ r = _; simp [Lt.quo]
              rw [h3]
              simp only [one]
              rw [if_neg (by decide), if_neg (by decide)]
              rw [Lt_els_end 34 (.inl rfl) x r]
              have h4 : (34 : UInt8) :: (x.flatMap (Lt.el 34) ++ 34 :: r).take ((x.flatMap (Lt.el 34)).length + 1) = Lt.quo 34 x := by
                unfold Lt.quo
                rw [show x.flatMap (Lt.el 34) ++ 34 :: r = (x.flatMap (Lt.el 34) ++ [34]) ++ r by simp, List.take_left' (by simp)]
              rw [if_pos trivial]
              show (D.str _).map _ = _
              rw [h4, h2]
              show some (4, x, _) = some (4, x, (Lt.quo 34 x).length)
              simp [Lt.quo]
        · split at h
          · cases he : Lt.endL 39 q with
            | none => rw [he] at h; cases h
            | some m =>
              rw [he] at h
              cases hs : D.set (b :: q.take m) with
              | none => simp [hs] at h
              | some x =>
                simp [hs] at h
                obtain ⟨rfl, rfl, _⟩ := h
                have h2 := A.set _ _ hs
                refine ⟨⟨39, _, rfl, rfl⟩, fun r hr => ?_⟩
                have h3 : tx 5 x ++ r = 39 :: (x.flatMap (Lt.el 39) ++ 39 :: r) := by show Lt.quo 39 x ++ r = _; simp [Lt.quo]
                rw [h3]
                simp only [one]
                rw [if_neg (by decide), if_neg (by decide), if_neg (by decide)]
                rw [Lt_els_end 39 (.inr rfl) x r]
                have h4 : (39 : UInt8) :: (x.flatMap (Lt.el 39) ++ 39 :: r).take ((x.flatMap (Lt.el 39)).length + 1) = Lt.quo 39 x := by
                  unfold Lt.quo
                  rw [show x.flatMap (Lt.el 39) ++ 39 :: r = (x.flatMap (Lt.el 39) ++ [39]) ++ r by simp, List.take_left' (by simp)]
                rw [if_pos trivial]
                show (D.set _).map _ = _
                rw [h4, h2]
                show some (5, x, _) = some (5, x, (Lt.quo 39 x).length)
                simp [Lt.quo]
          · split at h
            · split at h
              · rename_i hk
                cases h
                obtain ⟨c, u, hc, hl, ha⟩ := kw_head _ (by unfold isKeyword at hk; simpa using hk)
                generalize q.takeWhile letter = w at hk hc ha
                subst hc
                refine ⟨⟨38, _, rfl, rfl⟩, fun r hr => ?_⟩
                show one D (38 :: (c :: u ++ r)) = _
                simp only [one]
                rw [if_neg (by decide), if_neg (by decide), if_neg (by decide), if_neg (by decide), if_pos ⟨trivial, by simp [hl]⟩, take_gap letter letter_blank _ r ha hr, if_pos hk]; rfl
              · cases h
            · cases hf : operators.find? fun o => o.isPrefixOf (b :: q) with
              | none => rw [hf] at h; cases h
              | some o =>
                rw [hf] at h
                cases h
                exact okT_op D _ (List.mem_of_find?_eq_some hf)
/-- The texts of tokens, separated by blanks. -/
def joined : List Tok → List UInt8
  | [] => []
  | [x] => tx x.1 x.2.1
  | x :: y :: l => tx x.1 x.2.1 ++ 32 :: joined (y :: l)
theorem lex_step {D : Den} {k : Nat} {t : List UInt8} (h : OkT D k t) (r : List UInt8) (hr : Gap r) (line : Nat) (out : List Tok) : lexW D (tx k t ++ r) line false out = lexW D r line false (out ++ [(k, t, line)]) := by
  obtain ⟨⟨b, q, hb, hf⟩, h2⟩ := h
  have h3 := h2 r hr
  unfold firstOk at hf
  simp at hf
  obtain ⟨⟨⟨f1, f2⟩, f3⟩, f4⟩ := hf
  have h4 : (tx k t ++ r).drop (tx k t).length = r := by simp
  rw [hb, List.cons_append] at h3 h4 ⊢
  rw [lexW_tok D _ line false out f1 f2 f3 f4 h3, h4]
  congr 1
  unfold semi
  cases out.getLast? <;> simp
theorem lex_joined {D : Den} (line : Nat) : ∀ (l : List Tok) (out : List Tok), (∀ x ∈ l, OkT D x.1 x.2.1) → lexW D (joined l) line false out = (0, out ++ l.map fun x => (x.1, x.2.1, line))
  | [], out, _ => by rw [joined, lexW_nil]; simp
  | [x], out, h => by
    have h1 := lex_step (h x (List.mem_cons_self)) [] (.inl rfl) line out
    rw [List.append_nil] at h1
    rw [joined, h1, lexW_nil]; rfl
  | x :: y :: l, out, h => by
    rw [joined, lex_step (h x (List.mem_cons_self)) _ (.inr rfl) line out, lexW_blank D _ line false _ (.inl rfl), lex_joined line (y :: l) _ (fun z hz => h z (List.mem_cons_of_mem _ hz))]
    simp
/-- Every token of a source is read again. -/
theorem lex_ok {D : Den} (A : Again D) : ∀ n (R : List UInt8) (line : Nat) (fresh : Bool) (out : List Tok), R.length ≤ n → (∀ x ∈ out, OkT D x.1 x.2.1) → ∀ x ∈ (lexW D R line fresh out).2, OkT D x.1 x.2.1 := by
  intro n
  induction n with
  | zero =>
    intro R line fresh out hn h x hx
    obtain rfl : R = [] := List.eq_nil_of_length_eq_zero (by omega)
    rw [lexW_nil] at hx; exact h x hx
  | succ n ih =>
    intro R line fresh out hn h x hx
    match R with
    | [] => rw [lexW_nil] at hx; exact h x hx
    | b :: r =>
      rw [List.length_cons] at hn
      by_cases h1 : b = 10
      · subst h1; rw [lexW_line] at hx; exact ih r _ _ _ (by omega) h x hx
      · by_cases h2 : b = 32 ∨ b = 9
        · rw [lexW_blank D r line fresh out h2] at hx; exact ih r _ _ _ (by omega) h x hx
        · by_cases h4 : b = 35
          · subst h4
            rw [lexW_note] at hx
            have := (List.dropWhile_sublist (p := fun c : UInt8 => c != 10) (l := r)).length_le
            exact ih _ _ _ _ (by omega) h x hx
          · have h5 : b ≠ 32 := fun e => h2 (.inl e)
            have h6 : b ≠ 9 := fun e => h2 (.inr e)
            cases ho : one D (b :: r) with
            | none => rw [lexW_bad D r line fresh out h1 h5 h6 h4 ho] at hx; cases hx
            | some y =>
              obtain ⟨k, t, m⟩ := y
              rw [lexW_tok D r line fresh out h1 h5 h6 h4 ho] at hx
              have hm := one_pos ho
              refine ih _ _ _ _ (by rw [List.length_drop, List.length_cons]; omega) ?_ x hx
              intro z hz
              rw [List.mem_append, List.mem_append] at hz
              rcases hz with (hz | hz) | hz
              · exact h z hz
              · unfold semi at hz
                split at hz
                · cases hz
                · split at hz
                  · rw [List.mem_singleton] at hz; subst hz; exact okT_op D [59] (by decide)
                  · cases hz
              · rw [List.mem_singleton] at hz; subst hz; exact one_again A ho
/-- The texts of a source's tokens give the same tokens, each in line 1. -/
theorem lex_again {D : Den} (A : Again D) (S : List UInt8) (h : (joined (lex D S).2).length ≤ 6000) : lex D (joined (lex D S).2) = (0, (lex D S).2.map fun x => (x.1, x.2.1, 1)) := by
  have hall : ∀ x ∈ (lex D S).2, OkT D x.1 x.2.1 := by
    unfold lex
    split
    · intro x hx; cases hx
    · exact lex_ok A S.length S 1 false [] (Nat.le_refl _) (fun x hx => by cases hx)
  have h2 := lex_joined (D := D) 1 (lex D S).2 [] hall
  rw [lex, if_neg (by omega), h2]; rfl
end Go.Proofs.YtfhakailbikjkaaDoor.Tk
/- Plain facts on how the program reads tokens: gaps, the size of a literal, the longest operator. No conditions. -/
namespace Go.Proofs.YtfhakailbikjkaaDoor.Tk
set_option linter.unusedVariables false

/-- The line feeds of a text. -/
def nls (l : List UInt8) : Nat := l.count 10
theorem nls_nil : nls [] = 0 := rfl
theorem nls_feed (l : List UInt8) : nls (10 :: l) = nls l + 1 := by unfold nls; rw [List.count_cons]; simp
theorem nls_other {b : UInt8} (l : List UInt8) (h : b ≠ 10) : nls (b :: l) = nls l := by unfold nls; rw [List.count_cons]; simp [h]
theorem nls_snoc (l : List UInt8) (b : UInt8) : nls (l ++ [b]) = nls l + if b = 10 then 1 else 0 := by
  unfold nls
  rw [List.count_append, List.count_cons, List.count_nil]
  by_cases h : b = 10 <;> simp [h]
theorem nls_le (l : List UInt8) : nls l ≤ l.length := List.count_le_length
/-- The blanks, line ends and comments ahead of a token: how many bytes; c: a comment is under way. -/
def gapB : Bool → List UInt8 → Nat
  | _, [] => 0
  | c, b :: r => if b = 10 then gapB false r + 1 else if b = 35 then gapB true r + 1 else if b = 32 ∨ b = 9 then gapB c r + 1 else if c = true then gapB c r + 1 else 0
theorem gap_nil (c : Bool) : gapB c [] = 0 := by cases c <;> rfl
theorem gap_feed (c : Bool) (r : List UInt8) : gapB c (10 :: r) = gapB false r + 1 := by rw [gapB]; exact if_pos rfl
theorem gap_note (c : Bool) (r : List UInt8) : gapB c (35 :: r) = gapB true r + 1 := by rw [gapB, if_neg (by decide)]; exact if_pos rfl
theorem gap_blank (c : Bool) {b : UInt8} (r : List UInt8) (h : b = 32 ∨ b = 9) : gapB c (b :: r) = gapB c r + 1 := by
  rw [gapB, if_neg (by rcases h with rfl | rfl <;> decide), if_neg (by rcases h with rfl | rfl <;> decide), if_pos h]
theorem gap_in {b : UInt8} (r : List UInt8) (h : b ≠ 10) : gapB true (b :: r) = gapB true r + 1 := by
  rw [gapB, if_neg h]
  split
  · rfl
  · split
    · rfl
    · exact if_pos rfl
theorem gap_out {b : UInt8} (r : List UInt8) (h1 : b ≠ 10) (h2 : b ≠ 32) (h3 : b ≠ 9) (h4 : b ≠ 35) : gapB false (b :: r) = 0 := by
  rw [gapB, if_neg h1, if_neg h4, if_neg (by rintro (h | h); exact h2 h; exact h3 h), if_neg (by decide)]
theorem gap_le : ∀ (R : List UInt8) (c : Bool), gapB c R ≤ R.length := by
  intro R
  induction R with
  | nil => intro c; rw [gap_nil]; exact Nat.zero_le _
  | cons b r ih =>
    intro c
    rw [gapB, List.length_cons]
    have h1 := ih false
    have h2 := ih true
    have h3 := ih c
    split
    · omega
    · split
      · omega
      · split
        · omega
        · split <;> omega
/-- What a token begins with. -/
def Begin (R : List UInt8) : Prop := R = [] ∨ ∃ b r, R = b :: r ∧ b ≠ 10 ∧ b ≠ 32 ∧ b ≠ 9 ∧ b ≠ 35
theorem gap_begin : ∀ (R : List UInt8) (c : Bool), Begin (R.drop (gapB c R)) := by
  intro R
  induction R with
  | nil => intro c; rw [gap_nil]; exact .inl rfl
  | cons b r ih =>
    intro c
    by_cases h1 : b = 10
    · subst h1; rw [gap_feed, List.drop_succ_cons]; exact ih false
    · by_cases h4 : b = 35
      · subst h4; rw [gap_note, List.drop_succ_cons]; exact ih true
      · by_cases h2 : b = 32 ∨ b = 9
        · rw [gap_blank c r h2, List.drop_succ_cons]; exact ih c
        · cases c
          · rw [gap_out r h1 (fun e => h2 (.inl e)) (fun e => h2 (.inr e)) h4]
            exact .inr ⟨b, r, rfl, h1, fun e => h2 (.inl e), fun e => h2 (.inr e), h4⟩
          · rw [gap_in r h1, List.drop_succ_cons]; exact ih true
/-- What a state reads behind a gap. -/
theorem gap_lex (D : Den) : ∀ (R : List UInt8) (c : Bool) (line : Nat) (fr : Bool) (out : List Tok),
    lexW D (if c = true then R.dropWhile (fun x => x != 10) else R) line fr out = lexW D (R.drop (gapB c R)) (line + nls (R.take (gapB c R))) (fr || decide (0 < nls (R.take (gapB c R)))) out := by
  intro R
  induction R with
  | nil => intro c line fr out; rw [gap_nil]; cases c <;> simp [nls_nil]
  | cons b r ih =>
    intro c line fr out
    by_cases h1 : b = 10
    · subst h1
      have e2 : (if c = true then (10 :: r).dropWhile (fun x : UInt8 => x != 10) else 10 :: r) = 10 :: r := by
        cases c
        · rfl
        · rw [if_pos rfl, List.dropWhile_cons, if_neg (by decide)]
      have h := ih false (line + 1) true out
      rw [if_neg (by decide)] at h
      rw [e2, lexW_line, h, gap_feed, List.take_succ_cons, List.drop_succ_cons, nls_feed, show line + 1 + nls (r.take (gapB false r)) = line + (nls (r.take (gapB false r)) + 1) by omega, decide_eq_true (show 0 < nls (r.take (gapB false r)) + 1 by omega)]
      simp
    · have hd : (b :: r).dropWhile (fun x : UInt8 => x != 10) = r.dropWhile (fun x : UInt8 => x != 10) := by rw [List.dropWhile_cons, if_pos (by simpa using h1)]
      by_cases h4 : b = 35
      · subst h4
        have h := ih true line fr out
        rw [if_pos rfl] at h
        have e2 : lexW D (if c = true then (35 :: r).dropWhile (fun x : UInt8 => x != 10) else 35 :: r) line fr out = lexW D (r.dropWhile fun x => x != 10) line fr out := by
          cases c
          · rw [if_neg (by decide), lexW_note]
          · rw [if_pos rfl, hd]
        rw [e2, h, gap_note, List.take_succ_cons, List.drop_succ_cons, nls_other _ h1]
      · by_cases h2 : b = 32 ∨ b = 9
        · have h := ih c line fr out
          have e2 : lexW D (if c = true then (b :: r).dropWhile (fun x : UInt8 => x != 10) else b :: r) line fr out = lexW D (if c = true then r.dropWhile (fun x : UInt8 => x != 10) else r) line fr out := by
            cases c
            · rw [if_neg (by decide), if_neg (by decide), lexW_blank D r line fr out h2]
            · rw [if_pos rfl, if_pos rfl, hd]
          rw [e2, h, gap_blank c r h2, List.take_succ_cons, List.drop_succ_cons, nls_other _ h1]
        · cases c
          · rw [gap_out r h1 (fun e => h2 (.inl e)) (fun e => h2 (.inr e)) h4]
            rw [List.take_zero, List.drop_zero, nls_nil]; simp
          · have h := ih true line fr out
            rw [if_pos rfl] at h
            rw [if_pos rfl, hd, h, gap_in r h1, List.take_succ_cons, List.drop_succ_cons, nls_other _ h1]
theorem gap_lex0 (D : Den) (R : List UInt8) (line : Nat) (out : List Tok) : lexW D R line false out = lexW D (R.drop (gapB false R)) (line + nls (R.take (gapB false R))) (decide (0 < nls (R.take (gapB false R)))) out := by
  have h := gap_lex D R false line false out
  rw [if_neg (by decide), Bool.false_or] at h
  exact h
/-- Where the look for the gap's end stands. -/
def GapAt (R : List UInt8) (k : Nat) (c : Bool) : Prop := gapB false R = k + gapB c (R.drop k)
theorem GapAt.start (R : List UInt8) : GapAt R 0 false := by unfold GapAt; rw [List.drop_zero, Nat.zero_add]
theorem GapAt.feed {R : List UInt8} {k : Nat} {c : Bool} (h : GapAt R k c) (hk : k < R.length) (hb : R[k] = 10) : GapAt R (k + 1) false := by
  unfold GapAt at h ⊢
  rw [List.drop_eq_getElem_cons hk, hb, gap_feed] at h; omega
theorem GapAt.note {R : List UInt8} {k : Nat} {c : Bool} (h : GapAt R k c) (hk : k < R.length) (hb : R[k] = 35) : GapAt R (k + 1) true := by
  unfold GapAt at h ⊢
  rw [List.drop_eq_getElem_cons hk, hb, gap_note] at h; omega
theorem GapAt.blank {R : List UInt8} {k : Nat} {c : Bool} (h : GapAt R k c) (hk : k < R.length) (hb : R[k] = 32 ∨ R[k] = 9) : GapAt R (k + 1) c := by
  unfold GapAt at h ⊢
  rw [List.drop_eq_getElem_cons hk, gap_blank c _ hb] at h; omega
theorem GapAt.inn {R : List UInt8} {k : Nat} (h : GapAt R k true) (hk : k < R.length) (hb : R[k] ≠ 10) : GapAt R (k + 1) true := by
  unfold GapAt at h ⊢
  rw [List.drop_eq_getElem_cons hk, gap_in _ hb] at h; omega
theorem GapAt.out {R : List UInt8} {k : Nat} (h : GapAt R k false) (hk : k < R.length) (h1 : R[k] ≠ 10) (h2 : R[k] ≠ 32) (h3 : R[k] ≠ 9) (h4 : R[k] ≠ 35) : gapB false R = k := by
  unfold GapAt at h
  rw [List.drop_eq_getElem_cons hk, gap_out _ h1 h2 h3 h4] at h; omega
theorem GapAt.over {R : List UInt8} {k : Nat} {c : Bool} (h : GapAt R k c) (hk : R.length ≤ k) : gapB false R = k := by
  unfold GapAt at h
  rw [List.drop_eq_nil_of_le hk, gap_nil] at h; omega

/-- Where a literal ends as the program looks for its end; all of the text if it has none. -/
def endP (d : UInt8) : List UInt8 → Nat
  | [] => 0
  | b :: r => if b = d then 1 else if b = 92 then (match r with
      | [] => 1
      | _ :: r2 => endP d r2 + 2) else endP d r + 1
theorem endP_nil (d : UInt8) : endP d [] = 0 := by rw [endP.eq_def]
theorem endP_hit (d : UInt8) (r : List UInt8) : endP d (d :: r) = 1 := by rw [endP.eq_def]; exact if_pos rfl
theorem endP_one {d b : UInt8} (r : List UInt8) (h : b ≠ d) (h2 : b ≠ 92) : endP d (b :: r) = endP d r + 1 := by rw [endP.eq_def]; dsimp only; rw [if_neg h, if_neg h2]
theorem endP_back {d : UInt8} (r : List UInt8) (h : (92 : UInt8) ≠ d) : endP d (92 :: r) = match r with
      | [] => 1
      | _ :: r2 => endP d r2 + 2 := by rw [endP.eq_def]; dsimp only; rw [if_neg h]; exact if_pos rfl
theorem endP_le {d : UInt8} (hd : (92 : UInt8) ≠ d) : ∀ (n : Nat) (r : List UInt8), r.length ≤ n → endP d r ≤ r.length := by
  intro n
  induction n with
  | zero => intro r h; rw [List.length_eq_zero_iff.1 (Nat.le_zero.1 h), endP_nil]; exact Nat.zero_le _
  | succ n ih =>
    intro r h
    match r with
    | [] => rw [endP_nil]; exact Nat.zero_le _
    | b :: r =>
      rw [List.length_cons] at h ⊢
      by_cases h1 : b = d
      · rw [h1, endP_hit]; omega
      · by_cases h2 : b = 92
        · rw [h2, endP_back _ hd]
          match r with
          | [] => simp
          | c :: r2 =>
            rw [List.length_cons] at h ⊢
            have := ih r2 (by omega)
            show endP d r2 + 2 ≤ _
            omega
        · rw [endP_one _ h1 h2]
          have := ih r (by omega); omega
theorem endP_some {d : UInt8} (hd : (92 : UInt8) ≠ d) : ∀ (N : Nat) (r : List UInt8) (n : Nat), r.length ≤ N → Lt.endL d r = some n → endP d r = n := by
  intro N
  induction N with
  | zero => intro r n h he; rw [List.length_eq_zero_iff.1 (Nat.le_zero.1 h), Lt.endL_nil] at he; cases he
  | succ N ih =>
    intro r n h he
    match r with
    | [] => rw [Lt.endL_nil] at he; cases he
    | b :: r =>
      rw [List.length_cons] at h
      by_cases h1 : b = d
      · rw [h1, Lt.endL_hit] at he; rw [h1, endP_hit]; exact Option.some.inj he
      · cases hp : Lt.plain b
        · rw [Lt.endL_bad _ h1 hp] at he; cases he
        · by_cases h2 : b = 92
          · rw [h2, Lt.endL_back _ hd] at he
            rw [h2, endP_back _ hd]
            match r with
            | [] => cases he
            | c :: r2 =>
              rw [List.length_cons] at h
              dsimp only at he ⊢
              cases h3 : Lt.endL d r2 with
              | none => rw [h3] at he; cases he
              | some m =>
                rw [h3] at he
                rw [ih r2 m (by omega) h3]
                exact Option.some.inj he
          · rw [Lt.endL_one _ h1 hp h2] at he
            rw [endP_one _ h1 h2]
            cases h3 : Lt.endL d r with
            | none => rw [h3] at he; cases he
            | some m =>
              rw [h3] at he
              rw [ih r m (by omega) h3]
              exact Option.some.inj he
theorem endL_app {d : UInt8} (hd : (92 : UInt8) ≠ d) : ∀ (N : Nat) (l q : List UInt8) (n : Nat), l.length ≤ N → Lt.endL d l = some n → Lt.endL d (l ++ q) = some n := by
  intro N
  induction N with
  | zero => intro r q n h he; rw [List.length_eq_zero_iff.1 (Nat.le_zero.1 h), Lt.endL_nil] at he; cases he
  | succ N ih =>
    intro r q n h he
    match r with
    | [] => rw [Lt.endL_nil] at he; cases he
    | b :: r =>
      rw [List.length_cons] at h
      rw [List.cons_append]
      by_cases h1 : b = d
      · rw [h1, Lt.endL_hit] at he ⊢; exact he
      · cases hp : Lt.plain b
        · rw [Lt.endL_bad _ h1 hp] at he; cases he
        · by_cases h2 : b = 92
          · rw [h2, Lt.endL_back _ hd] at he ⊢
            match r with
            | [] => cases he
            | c :: r2 =>
              rw [List.length_cons] at h
              dsimp only [List.cons_append] at he ⊢
              cases h3 : Lt.endL d r2 with
              | none => rw [h3] at he; cases he
              | some m => rw [h3] at he; rw [ih r2 q m (by omega) h3]; exact he
          · rw [Lt.endL_one _ h1 hp h2] at he ⊢
            cases h3 : Lt.endL d r with
            | none => rw [h3] at he; cases he
            | some m => rw [h3] at he; rw [ih r q m (by omega) h3]; exact he
/-- Where no literal ends, what the program takes for one denotes nothing. -/
theorem lit_noend {d : UInt8} (hd : d = 34 ∨ d = 39) (r : List UInt8) (h : Lt.endL d r = none) : Lt.lit d (d :: r.take (endP d r)) = none := by
  have hd1 : (92 : UInt8) ≠ d := by rcases hd with rfl | rfl <;> decide
  unfold Lt.lit
  by_cases h1 : (d :: r.take (endP d r)).length < 2 ∨ (d :: r.take (endP d r)).head? ≠ some d ∨ (d :: r.take (endP d r)).getLast? ≠ some d
  · rw [if_pos h1]
  · rw [if_neg h1]
    have h2 : 1 + 1 ≤ (d :: r.take (endP d r)).length := by
      rcases Nat.lt_or_ge (d :: r.take (endP d r)).length 2 with h3 | h3
      · exact absurd (.inl h3) h1
      · exact h3
    have h3 : (d :: r.take (endP d r)).getLast? = some d := by
      cases h4 : decide ((d :: r.take (endP d r)).getLast? = some d)
      · exact absurd (.inr (.inr (of_decide_eq_false h4))) h1
      · exact of_decide_eq_true h4
    have h5 := Lt.ends_no hd (d :: r.take (endP d r)) h3 _ 1 (Nat.le_refl _) h2 (by
      unfold Lt.ends
      rw [List.drop_succ_cons, List.drop_zero]
      intro e
      cases h6 : Lt.endL d (r.take (endP d r)) with
      | none => rw [h6] at e; cases e
      | some m =>
        have h7 := endL_app hd1 _ _ (r.drop (endP d r)) m (Nat.le_refl _) h6
        rw [List.take_append_drop, h] at h7; cases h7)
    have h8 : ((d :: r.take (endP d r)).drop 1).dropLast = ((d :: r.take (endP d r)).dropLast).drop 1 := by
      have h9 : r.take (endP d r) ≠ [] := by intro e; rw [e] at h2; simp at h2
      rw [List.drop_succ_cons, List.drop_zero, List.dropLast_cons_of_ne_nil h9, List.drop_succ_cons, List.drop_zero]
    rw [h8]; exact h5
/-- Where the look for a literal's end stands. -/
def LitAt (d : UInt8) (R : List UInt8) (z i : Nat) : Prop := z = min (i + endP d (R.drop i)) R.length
theorem LitAt.start (d : UInt8) (b : UInt8) (r : List UInt8) (hd : (92 : UInt8) ≠ d) : LitAt d (b :: r) (endP d r + 1) 1 := by
  have := endP_le hd _ r (Nat.le_refl _)
  unfold LitAt
  rw [List.drop_succ_cons, List.drop_zero, List.length_cons]; omega
theorem LitAt.hit {d : UInt8} {R : List UInt8} {z i : Nat} (h : LitAt d R z i) (hi : i < R.length) (hb : R[i] = d) : z = i + 1 := by
  unfold LitAt at h
  rw [List.drop_eq_getElem_cons hi, hb, endP_hit] at h; omega
theorem LitAt.one {d : UInt8} {R : List UInt8} {z i : Nat} (h : LitAt d R z i) (hi : i < R.length) (h1 : R[i] ≠ d) (h2 : R[i] ≠ 92) : LitAt d R z (i + 1) := by
  unfold LitAt at h ⊢
  rw [List.drop_eq_getElem_cons hi, endP_one _ h1 h2] at h; omega
theorem LitAt.back {d : UInt8} {R : List UInt8} {z i : Nat} (hd : (92 : UInt8) ≠ d) (h : LitAt d R z i) (hi : i < R.length) (h2 : R[i] = 92) : LitAt d R z (i + 2) := by
  unfold LitAt at h ⊢
  rw [List.drop_eq_getElem_cons hi, h2, endP_back _ hd] at h
  rcases Nat.lt_or_ge (i + 1) R.length with h3 | h3
  · rw [List.drop_eq_getElem_cons h3] at h
    dsimp only at h
    rw [h, show i + 1 + 1 = i + 2 by omega]; omega
  · rw [List.drop_eq_nil_of_le h3] at h
    rw [List.drop_eq_nil_of_le (show R.length ≤ i + 2 by omega), endP_nil]
    dsimp only at h
    omega
theorem LitAt.over {d : UInt8} {R : List UInt8} {z i : Nat} (h : LitAt d R z i) (hi : R.length ≤ i) : z = R.length := by unfold LitAt at h; omega

/-- The longest operator of at most n bytes with which a text begins. -/
def opF (S : List UInt8) : Nat → Option (List UInt8)
  | 0 => none
  | n + 1 => if operators.contains (S.take (n + 1)) = true then some (S.take (n + 1)) else opF S n
theorem ops_sorted : operators.Pairwise (fun a b => b.length ≤ a.length) := by decide
theorem ops_five : ∀ o ∈ operators, o.length ≤ 5 := by decide
theorem opF_none {S : List UInt8} : ∀ n, (∀ o ∈ operators, o.isPrefixOf S = false) → opF S n = none := by
  intro n h
  induction n with
  | zero => rfl
  | succ n ih =>
    rw [opF, if_neg, ih]
    intro e
    have h1 := h _ (List.contains_iff_mem.1 e)
    have h2 : (S.take (n + 1)).isPrefixOf S = true := List.isPrefixOf_iff_prefix.2 (List.take_prefix _ _)
    rw [h2] at h1; cases h1
theorem opF_some {S o : List UInt8} (ho : o ∈ operators) (hp : o.isPrefixOf S = true) (hm : ∀ q ∈ operators, q.isPrefixOf S = true → q.length ≤ o.length) : ∀ n, n ≤ S.length → o.length ≤ n → opF S n = some o := by
  have hpre := List.isPrefixOf_iff_prefix.1 hp
  have hto : S.take o.length = o := (List.prefix_iff_eq_take.1 hpre).symm
  intro n
  induction n with
  | zero =>
    intro _ h
    have := ops_pos o ho; omega
  | succ n ih =>
    intro hn h
    rw [opF]
    by_cases he : o.length = n + 1
    · rw [← he, hto, if_pos (List.contains_iff_mem.2 ho)]
    · rw [if_neg, ih (by omega) (by omega)]
      intro e
      have h2 := hm _ (List.contains_iff_mem.1 e) (List.isPrefixOf_iff_prefix.2 (List.take_prefix _ _))
      rw [List.length_take] at h2; omega
theorem op_longest (S : List UInt8) : (operators.find? fun o => o.isPrefixOf S) = opF S (min 5 S.length) := by
  cases h : operators.find? fun o => o.isPrefixOf S with
  | none =>
    rw [List.find?_eq_none] at h
    exact (opF_none _ fun o ho => Bool.eq_false_iff.2 (h o ho)).symm
  | some o =>
    obtain ⟨hp, us, bs, e, hn⟩ := List.find?_eq_some_iff_append.1 h
    have hs := ops_sorted
    rw [e, List.pairwise_append] at hs
    have hb := (List.pairwise_cons.1 hs.2.1).1
    have ho : o ∈ operators := List.mem_of_find?_eq_some h
    have hle : o.length ≤ S.length := (List.isPrefixOf_iff_prefix.1 hp).length_le
    refine (opF_some ho hp ?_ _ (Nat.min_le_right _ _) (Nat.le_min.2 ⟨ops_five o ho, hle⟩)).symm
    intro q hq hqp
    rw [e, List.mem_append, List.mem_cons] at hq
    rcases hq with hq | hq | hq
    · have := hn q hq; rw [hqp] at this; cases this
    · rw [hq]; exact Nat.le_refl _
    · exact hb q hq
end Go.Proofs.YtfhakailbikjkaaDoor.Tk
/- Plain facts on counting the ones of a word by parallel sums. No conditions. -/
namespace Go.Proofs.YtfhakailbikjkaaDoor.Cs
set_option linter.unusedVariables false

/-- The digits' sum: n digits of k bits each. -/
def dsum (k : Nat) : Nat → Nat → Nat
  | 0, _ => 0
  | n + 1, x => x % 2 ^ k + dsum k n (x / 2 ^ k)
/-- Each of n digits of k bits is at most b. -/
def small (k b : Nat) : Nat → Nat → Prop
  | 0, _ => True
  | n + 1, x => x % 2 ^ k ≤ b ∧ small k b n (x / 2 ^ k)
/-- The mask that keeps every second digit of k bits. -/
def mask (k : Nat) : Nat → Nat
  | 0 => 0
  | n + 1 => (2 ^ k - 1) + 2 ^ (2 * k) * mask k n

theorem and_split (j a b c d : Nat) (ha : a < 2 ^ j) (hc : c < 2 ^ j) : (a + 2 ^ j * b) &&& (c + 2 ^ j * d) = (a &&& c) + 2 ^ j * (b &&& d) := by
  have hac : a &&& c < 2 ^ j := Nat.and_lt_two_pow _ hc
  apply Nat.eq_of_testBit_eq
  intro i
  rw [Nat.testBit_and, Nat.add_comm a, Nat.add_comm c, Nat.add_comm (a &&& c), Nat.testBit_two_pow_mul_add _ ha, Nat.testBit_two_pow_mul_add _ hc, Nat.testBit_two_pow_mul_add _ hac]
  split <;> rw [Nat.testBit_and]
theorem pow_two_mul (k : Nat) : 2 ^ (2 * k) = 2 ^ k * 2 ^ k := by rw [Nat.two_mul, Nat.pow_add]
/-- What the mask leaves. -/
theorem and_mask (k n x : Nat) : x &&& mask k (n + 1) = x % 2 ^ k + 2 ^ (2 * k) * (x / 2 ^ (2 * k) &&& mask k n) := by
  have hp : 0 < 2 ^ k := Nat.two_pow_pos k
  have hlt : 2 ^ k - 1 < 2 ^ (2 * k) := by
    rw [pow_two_mul]
    have : 2 ^ k * 1 ≤ 2 ^ k * 2 ^ k := Nat.mul_le_mul_left _ hp
    omega
  show x &&& ((2 ^ k - 1) + 2 ^ (2 * k) * mask k n) = _
  have hx : x = x % 2 ^ (2 * k) + 2 ^ (2 * k) * (x / 2 ^ (2 * k)) := (Nat.mod_add_div _ _).symm
  conv => lhs; rw [hx]
  rw [and_split _ _ _ _ _ (Nat.mod_lt _ (Nat.two_pow_pos _)) hlt, Nat.and_two_pow_sub_one_eq_mod]
  congr 1
  rw [pow_two_mul, Nat.mod_mul_right_mod]

/-- A step of the sum: neighbours are added. -/
def pair (k n x : Nat) : Nat := (x / 2 ^ k &&& mask k n) + (x &&& mask k n)
theorem pair_succ (k n x : Nat) : pair k (n + 1) x = (x / 2 ^ k % 2 ^ k + x % 2 ^ k) + 2 ^ (2 * k) * pair k n (x / 2 ^ (2 * k)) := by
  unfold pair
  rw [and_mask, and_mask, Nat.div_div_eq_div_mul, Nat.div_div_eq_div_mul, Nat.mul_comm (2 ^ k) (2 ^ (2 * k)), Nat.mul_add]
  omega
theorem dsum_two (k n x : Nat) : dsum k (2 * (n + 1)) x = x % 2 ^ k + x / 2 ^ k % 2 ^ k + dsum k (2 * n) (x / 2 ^ (2 * k)) := by
  show x % 2 ^ k + (x / 2 ^ k % 2 ^ k + dsum k (2 * n) (x / 2 ^ k / 2 ^ k)) = _
  rw [Nat.div_div_eq_div_mul, pow_two_mul]
  omega
theorem small_two (k b n x : Nat) (h : small k b (2 * (n + 1)) x) : x % 2 ^ k ≤ b ∧ x / 2 ^ k % 2 ^ k ≤ b ∧ small k b (2 * n) (x / 2 ^ (2 * k)) := by
  obtain ⟨h0, h1, h2⟩ := h
  rw [Nat.div_div_eq_div_mul, ← pow_two_mul] at h2
  exact ⟨h0, h1, h2⟩
/-- The step keeps the sum, and doubles the bound. -/
theorem pair_step (k b : Nat) (hb : 2 * b < 2 ^ (2 * k)) : ∀ n x, small k b (2 * n) x → dsum (2 * k) n (pair k n x) = dsum k (2 * n) x ∧ small (2 * k) (2 * b) n (pair k n x)
  | 0, x, _ => ⟨rfl, trivial⟩
  | n + 1, x, h => by
    obtain ⟨h0, h1, h2⟩ := small_two k b n x h
    obtain ⟨i1, i2⟩ := pair_step k b hb n _ h2
    have e := pair_succ k n x
    have hm : pair k (n + 1) x % 2 ^ (2 * k) = x / 2 ^ k % 2 ^ k + x % 2 ^ k := by
      rw [e, Nat.add_mul_mod_self_left, Nat.mod_eq_of_lt (by omega)]
    have hd : pair k (n + 1) x / 2 ^ (2 * k) = pair k n (x / 2 ^ (2 * k)) := by
      rw [e, Nat.add_mul_div_left _ _ (Nat.two_pow_pos _), Nat.div_eq_of_lt (by omega), Nat.zero_add]
    constructor
    · show pair k (n + 1) x % 2 ^ (2 * k) + dsum (2 * k) n (pair k (n + 1) x / 2 ^ (2 * k)) = _
      rw [hm, hd, i1, dsum_two]; omega
    · refine ⟨?_, ?_⟩
      · rw [hm]; omega
      · rw [hd]; exact i2
/-- The step with one mask, where sums don't overflow. -/
theorem lump_step (k b : Nat) (hb : 2 * b < 2 ^ k) : ∀ n x, small k b (2 * n) x → (x / 2 ^ k + x) &&& mask k n = pair k n x
  | 0, x, _ => by show _ &&& 0 = (_ &&& 0) + (_ &&& 0); simp
  | n + 1, x, h => by
    obtain ⟨h0, h1, h2⟩ := small_two k b n x h
    have i1 := lump_step k b hb n _ h2
    have hp : 0 < 2 ^ k := Nat.two_pow_pos k
    have hz : n = 0 ∨ (x / 2 ^ (2 * k)) % 2 ^ k ≤ b := by
      cases n with
      | zero => exact .inl rfl
      | succ n => exact .inr h2.1
    rw [and_mask, pair_succ]
    generalize hq : x / 2 ^ (2 * k) = q at *
    have e0 : x = x % 2 ^ k + 2 ^ k * (x / 2 ^ k % 2 ^ k) + 2 ^ (2 * k) * q := by
      have e1 := Nat.mod_add_div x (2 ^ k)
      have e2 := Nat.mod_add_div (x / 2 ^ k) (2 ^ k)
      rw [Nat.div_div_eq_div_mul, ← pow_two_mul, hq] at e2
      conv => lhs; rw [← e1, ← e2]
      rw [Nat.mul_add, ← Nat.mul_assoc, ← pow_two_mul]; omega
    have e3 : x / 2 ^ k = x / 2 ^ k % 2 ^ k + 2 ^ k * q := by
      have e2 := Nat.mod_add_div (x / 2 ^ k) (2 ^ k)
      rw [Nat.div_div_eq_div_mul, ← pow_two_mul, hq] at e2
      exact e2.symm
    generalize x % 2 ^ k = u at *
    generalize x / 2 ^ k % 2 ^ k = v at *
    have f1 : (x / 2 ^ k + x) % 2 ^ k = v + u := by
      have : x / 2 ^ k + x = (v + u) + 2 ^ k * (q + v + 2 ^ k * q) := by
        rw [e3]; conv => lhs; rhs; rw [e0]
        rw [pow_two_mul, Nat.mul_add, Nat.mul_add, ← Nat.mul_assoc]; omega
      rw [this, Nat.add_mul_mod_self_left, Nat.mod_eq_of_lt (by omega)]
    rw [f1]
    congr 2
    rcases hz with rfl | hz
    · show _ &&& 0 = (_ &&& 0) + (_ &&& 0); simp
    · have f2 : (x / 2 ^ k + x) / 2 ^ (2 * k) = q / 2 ^ k + q := by
        have hq2 := Nat.mod_add_div q (2 ^ k)
        have : x / 2 ^ k + x = ((v + u) + 2 ^ k * (q % 2 ^ k + v)) + 2 ^ (2 * k) * (q / 2 ^ k + q) := by
          rw [e3]; conv => lhs; rhs; rw [e0]
          conv => lhs; lhs; rhs; rw [← hq2]
          simp only [Nat.mul_add, pow_two_mul, ← Nat.mul_assoc]; omega
        rw [this, Nat.add_mul_div_left _ _ (Nat.two_pow_pos _), Nat.div_eq_of_lt, Nat.zero_add]
        rw [pow_two_mul]
        have h4 : q % 2 ^ k + v + 1 ≤ 2 ^ k := by omega
        have h5 := Nat.mul_le_mul_left (2 ^ k) h4
        rw [Nat.mul_add] at h5
        omega
      rw [f2, i1]

theorem small_one : ∀ n x, small 1 1 n x
  | 0, _ => trivial
  | n + 1, x => ⟨by omega, small_one n _⟩
theorem pair_lt (k : Nat) : ∀ n x, pair k n x ≤ 2 * mask k n
  | n, x => by
    have h1 : x / 2 ^ k &&& mask k n ≤ mask k n := Nat.and_le_right
    have h2 : x &&& mask k n ≤ mask k n := Nat.and_le_right
    unfold pair; omega
/-- The ones of a word. -/
theorem dsum_bits : ∀ n x, dsum 1 n x = ((List.range n).filter (Nat.testBit x)).length
  | 0, _ => rfl
  | n + 1, x => by
    have ih := dsum_bits n (x / 2)
    have e : (List.map Nat.succ (List.range n)).filter (Nat.testBit x) = ((List.range n).filter (Nat.testBit (x / 2))).map Nat.succ := by
      rw [List.filter_map]
      congr 1
      apply List.filter_congr
      intro i _
      simp [Nat.testBit_succ]
    rw [List.range_succ_eq_map, List.filter_cons, e]
    show x % 2 ^ 1 + dsum 1 n (x / 2 ^ 1) = _
    rw [show (2 : Nat) ^ 1 = 2 from rfl, ih]
    by_cases h : Nat.testBit x 0 = true
    · rw [if_pos h]
      rw [Nat.testBit_zero] at h
      have : x % 2 = 1 := by simpa using h
      simp; omega
    · rw [if_neg h]
      rw [Nat.testBit_zero] at h
      have : x % 2 = 0 := by have := Nat.mod_two_eq_zero_or_one x; simp at h; omega
      simp; omega

/-- A number by its bytes. -/
def val : List Nat → Nat
  | [] => 0
  | b :: l => b + 256 * val l
def addl : List Nat → List Nat → List Nat
  | [], m => m
  | l, [] => l
  | a :: l, b :: m => (a + b) :: addl l m
theorem val_add : ∀ l m, val l + val m = val (addl l m)
  | [], m => by simp [val, addl]
  | a :: l, [] => by simp [val, addl]
  | a :: l, b :: m => by
    have := val_add l m
    show (a + 256 * val l) + (b + 256 * val m) = (a + b) + 256 * val (addl l m)
    omega
theorem val_drop : ∀ j l, (∀ b ∈ l, b < 256) → val l / 256 ^ j = val (l.drop j)
  | 0, l, _ => by simp
  | j + 1, [], _ => by simp [val]
  | j + 1, b :: l, h => by
    have h1 := h b List.mem_cons_self
    rw [List.drop_succ_cons, ← val_drop j l (fun x hx => h x (List.mem_cons_of_mem _ hx)), Nat.pow_succ, Nat.mul_comm, ← Nat.div_div_eq_div_mul]
    congr 1
    show (b + 256 * val l) / 256 = val l
    omega
theorem val_lt : ∀ l, (∀ b ∈ l, b < 256) → val l < 256 ^ l.length
  | [], _ => by simp [val]
  | b :: l, h => by
    have h1 := h b List.mem_cons_self
    have h2 := val_lt l (fun x hx => h x (List.mem_cons_of_mem _ hx))
    rw [List.length_cons, Nat.pow_succ]
    show b + 256 * val l < _
    omega
theorem val_lt8 {a b c d e f g h : Nat} (H : ∀ x ∈ [a, b, c, d, e, f, g, h], x < 256) : val [a, b, c, d, e, f, g, h] < 18446744073709551616 :=
  Nat.lt_of_lt_of_eq (val_lt _ H) (by show 256 ^ 8 = _; decide)
theorem all8 {a b c d e f g h n : Nat} (h0 : a < n) (h1 : b < n) (h2 : c < n) (h3 : d < n) (h4 : e < n) (h5 : f < n) (h6 : g < n) (h7 : h < n) : ∀ x ∈ [a, b, c, d, e, f, g, h], x < n := by
  intro x hx
  simp only [List.mem_cons, List.not_mem_nil, or_false] at hx
  rcases hx with rfl | rfl | rfl | rfl | rfl | rfl | rfl | rfl <;> assumption
theorem fold_eight (b0 b1 b2 b3 b4 b5 b6 b7 : Nat) (h0 : b0 ≤ 8) (h1 : b1 ≤ 8) (h2 : b2 ≤ 8) (h3 : b3 ≤ 8) (h4 : b4 ≤ 8) (h5 : b5 ≤ 8) (h6 : b6 ≤ 8) (h7 : b7 ≤ 8) (y : Nat) (hy : y = val [b0, b1, b2, b3, b4, b5, b6, b7]) (z1 z2 z3 : Nat) (e1 : z1 = y + y / 256) (e2 : z2 = z1 + z1 / 65536) (e3 : z3 = z2 + z2 / 4294967296) :
    z1 < 18446744073709551616 ∧ z2 < 18446744073709551616 ∧ z3 < 18446744073709551616 ∧ z3 % 128 = b0 + b1 + b2 + b3 + b4 + b5 + b6 + b7 := by
  have f1 : y / 256 = val [b1, b2, b3, b4, b5, b6, b7] := by rw [hy]; exact val_drop 1 _ (all8 (by omega) (by omega) (by omega) (by omega) (by omega) (by omega) (by omega) (by omega))
  have g1 : z1 = val [(b0 + b1), (b1 + b2), (b2 + b3), (b3 + b4), (b4 + b5), (b5 + b6), (b6 + b7), b7] := by rw [e1, f1, hy, val_add]; rfl
  have a1 := all8 (n := 256) (a := (b0 + b1)) (b := (b1 + b2)) (c := (b2 + b3)) (d := (b3 + b4)) (e := (b4 + b5)) (f := (b5 + b6)) (g := (b6 + b7)) (h := b7) (by omega) (by omega) (by omega) (by omega) (by omega) (by omega) (by omega) (by omega)
  have f2 : z1 / 65536 = val [(b2 + b3), (b3 + b4), (b4 + b5), (b5 + b6), (b6 + b7), b7] := by rw [g1]; exact val_drop 2 _ a1
  have g2 : z2 = val [((b0 + b1) + (b2 + b3)), ((b1 + b2) + (b3 + b4)), ((b2 + b3) + (b4 + b5)), ((b3 + b4) + (b5 + b6)), ((b4 + b5) + (b6 + b7)), ((b5 + b6) + b7), (b6 + b7), b7] := by rw [e2, f2, g1, val_add]; rfl
  have a2 := all8 (n := 256) (a := ((b0 + b1) + (b2 + b3))) (b := ((b1 + b2) + (b3 + b4))) (c := ((b2 + b3) + (b4 + b5))) (d := ((b3 + b4) + (b5 + b6))) (e := ((b4 + b5) + (b6 + b7))) (f := ((b5 + b6) + b7)) (g := (b6 + b7)) (h := b7) (by omega) (by omega) (by omega) (by omega) (by omega) (by omega) (by omega) (by omega)
  have f3 : z2 / 4294967296 = val [((b4 + b5) + (b6 + b7)), ((b5 + b6) + b7), (b6 + b7), b7] := by rw [g2]; exact val_drop 4 _ a2
  have g3 : z3 = val [(((b0 + b1) + (b2 + b3)) + ((b4 + b5) + (b6 + b7))), (((b1 + b2) + (b3 + b4)) + ((b5 + b6) + b7)), (((b2 + b3) + (b4 + b5)) + (b6 + b7)), (((b3 + b4) + (b5 + b6)) + b7), ((b4 + b5) + (b6 + b7)), ((b5 + b6) + b7), (b6 + b7), b7] := by rw [e3, f3, g2, val_add]; rfl
  have a3 := all8 (n := 256) (a := (((b0 + b1) + (b2 + b3)) + ((b4 + b5) + (b6 + b7)))) (b := (((b1 + b2) + (b3 + b4)) + ((b5 + b6) + b7))) (c := (((b2 + b3) + (b4 + b5)) + (b6 + b7))) (d := (((b3 + b4) + (b5 + b6)) + b7)) (e := ((b4 + b5) + (b6 + b7))) (f := ((b5 + b6) + b7)) (g := (b6 + b7)) (h := b7) (by omega) (by omega) (by omega) (by omega) (by omega) (by omega) (by omega) (by omega)
  refine ⟨by rw [g1]; exact val_lt8 a1, by rw [g2]; exact val_lt8 a2, by rw [g3]; exact val_lt8 a3, ?_⟩
  rw [g3]
  show ((((b0 + b1) + (b2 + b3)) + ((b4 + b5) + (b6 + b7))) + 256 * val _) % 128 = _
  generalize val _ = v
  omega
def digits : Nat → Nat → List Nat
  | 0, _ => []
  | n + 1, y => y % 256 :: digits n (y / 256)
theorem val_digits : ∀ n y, y < 256 ^ n → y = val (digits n y)
  | 0, y, h => by simp at h; subst h; rfl
  | n + 1, y, h => by
    have h2 : y / 256 < 256 ^ n := by rw [Nat.pow_succ] at h; omega
    have e := val_digits n (y / 256) h2
    show y = y % 256 + 256 * val (digits n (y / 256))
    rw [← e]; omega
theorem fold_bytes (y : Nat) (hs : small 8 8 8 y) (hy : y < 18446744073709551616) (z1 z2 z3 : Nat) (e1 : z1 = y + y / 256) (e2 : z2 = z1 + z1 / 65536) (e3 : z3 = z2 + z2 / 4294967296) :
    z1 < 18446744073709551616 ∧ z2 < 18446744073709551616 ∧ z3 < 18446744073709551616 ∧ z3 % 128 = dsum 8 8 y := by
  obtain ⟨h0, h1, h2, h3, h4, h5, h6, h7, _⟩ := hs
  have hv : y = val (digits 8 y) := val_digits 8 y hy
  have hd : dsum 8 8 y = y % 2 ^ 8 + (y / 2 ^ 8 % 2 ^ 8 + (y / 2 ^ 8 / 2 ^ 8 % 2 ^ 8 + (y / 2 ^ 8 / 2 ^ 8 / 2 ^ 8 % 2 ^ 8 + (y / 2 ^ 8 / 2 ^ 8 / 2 ^ 8 / 2 ^ 8 % 2 ^ 8 + (y / 2 ^ 8 / 2 ^ 8 / 2 ^ 8 / 2 ^ 8 / 2 ^ 8 % 2 ^ 8 + (y / 2 ^ 8 / 2 ^ 8 / 2 ^ 8 / 2 ^ 8 / 2 ^ 8 / 2 ^ 8 % 2 ^ 8 + (y / 2 ^ 8 / 2 ^ 8 / 2 ^ 8 / 2 ^ 8 / 2 ^ 8 / 2 ^ 8 / 2 ^ 8 % 2 ^ 8 + 0))))))) := rfl
  obtain ⟨t1, t2, t3, t4⟩ := fold_eight _ _ _ _ _ _ _ _ h0 h1 h2 h3 h4 h5 h6 h7 y hv z1 z2 z3 e1 e2 e3
  refine ⟨t1, t2, t3, ?_⟩
  rw [t4, hd]
  simp only [Nat.add_zero, Nat.add_assoc]
end Go.Proofs.YtfhakailbikjkaaDoor.Cs
/- Plain facts on splitting a string at a byte. No conditions. -/
namespace Go.Proofs.YtfhakailbikjkaaDoor.Cut

/-- What is split off among the first k letters, and where the next part begins. -/
def to (s : ByteArray) (b : Int) : Nat → List ByteArray × Nat
  | 0 => ([], 0)
  | k + 1 => if h : k < s.size then (if (s[k].toNat : Int) = b then ((to s b k).1 ++ [s.extract (to s b k).2 k], k + 1) else to s b k) else to s b k

/-- All parts. -/
def all (s : ByteArray) (b : Int) : List ByteArray := (to s b s.size).1 ++ [s.extract (to s b s.size).2 s.size]

theorem to_hit {s : ByteArray} {b : Int} {k : Nat} (h : k < s.size) (e : (s[k].toNat : Int) = b) : to s b (k + 1) = ((to s b k).1 ++ [s.extract (to s b k).2 k], k + 1) := by
  show (if h : k < s.size then _ else _) = _
  rw [dif_pos h, if_pos e]
theorem to_miss {s : ByteArray} {b : Int} {k : Nat} (h : k < s.size) (e : ¬ (s[k].toNat : Int) = b) : to s b (k + 1) = to s b k := by
  show (if h : k < s.size then _ else _) = _
  rw [dif_pos h, if_neg e]

theorem to_le (s : ByteArray) (b : Int) (k : Nat) : (to s b k).1.length ≤ k ∧ (to s b k).2 ≤ k := by
  induction k with
  | zero => exact ⟨Nat.le_refl _, Nat.le_refl _⟩
  | succ k ih =>
    by_cases h : k < s.size
    · by_cases e : (s[k].toNat : Int) = b
      · rw [to_hit h e]; simp; exact ih.1
      · rw [to_miss h e]; omega
    · have e : to s b (k + 1) = to s b k := by
        show (if h : k < s.size then _ else _) = _
        rw [dif_neg h]
      rw [e]; omega

theorem all_len (s : ByteArray) (b : Int) : (all s b).length ≤ s.size + 1 := by
  unfold all; have := (to_le s b s.size).1; simp; omega

theorem ext_le (s : ByteArray) (a c : Nat) : (s.extract a c).size ≤ s.size := by rw [ByteArray.size_extract]; omega
theorem to_mem (s : ByteArray) (b : Int) (k : Nat) : ∀ x ∈ (to s b k).1, x.size ≤ s.size := by
  induction k with
  | zero => intro x hx; exact absurd hx (by simp [to])
  | succ k ih =>
    by_cases h : k < s.size
    · by_cases e : (s[k].toNat : Int) = b
      · rw [to_hit h e]
        intro x hx
        rcases List.mem_append.1 hx with h1 | h1
        · exact ih x h1
        · rw [List.mem_singleton] at h1; subst h1; exact ext_le _ _ _
      · rw [to_miss h e]; exact ih
    · have e : to s b (k + 1) = to s b k := by
        show (if h : k < s.size then _ else _) = _
        rw [dif_neg h]
      rw [e]; exact ih
theorem all_mem (s : ByteArray) (b : Int) : ∀ x ∈ all s b, x.size ≤ s.size := by
  intro x hx
  rcases List.mem_append.1 hx with h1 | h1
  · exact to_mem s b _ x h1
  · rw [List.mem_singleton] at h1; subst h1; exact ext_le _ _ _

/-- What a loop over 0 .. size has gathered at its k-th round's head. -/
def At (s : ByteArray) (b : Int) (k : Nat) (l : List ByteArray) (f : Nat) : Prop :=
  (k ≤ s.size ∧ l = (to s b k).1 ∧ f = (to s b k).2) ∨ (k = s.size + 1 ∧ l = all s b)

theorem at_start (s : ByteArray) (b : Int) : At s b 0 [] 0 := .inl ⟨Nat.zero_le _, rfl, rfl⟩
theorem at_hit {s : ByteArray} {b : Int} {k : Nat} {l : List ByteArray} {f : Nat} (h : At s b k l f) (hk : k < s.size) (e : (s[k].toNat : Int) = b) : At s b (k + 1) (l ++ [s.extract f k]) (k + 1) := by
  rcases h with ⟨_, rfl, rfl⟩ | ⟨h1, _⟩
  · exact .inl ⟨hk, by rw [to_hit hk e], by rw [to_hit hk e]⟩
  · omega
theorem at_miss {s : ByteArray} {b : Int} {k : Nat} {l : List ByteArray} {f : Nat} (h : At s b k l f) (hk : k < s.size) (e : ¬ (s[k].toNat : Int) = b) : At s b (k + 1) l f := by
  rcases h with ⟨_, rfl, rfl⟩ | ⟨h1, _⟩
  · exact .inl ⟨hk, by rw [to_miss hk e], by rw [to_miss hk e]⟩
  · omega
theorem at_last {s : ByteArray} {b : Int} {l : List ByteArray} {f g : Nat} (h : At s b s.size l f) : At s b (s.size + 1) (l ++ [s.extract f s.size]) g := by
  rcases h with ⟨_, rfl, rfl⟩ | ⟨h1, _⟩
  · exact .inr ⟨rfl, rfl⟩
  · omega
theorem at_end {s : ByteArray} {b : Int} {k : Nat} {l : List ByteArray} {f : Nat} (h : At s b k l f) (hk : s.size < k) : l = all s b := by
  rcases h with ⟨h1, _⟩ | ⟨_, h2⟩
  · omega
  · exact h2
theorem at_bound {s : ByteArray} {b : Int} {k : Nat} {l : List ByteArray} {f : Nat} (h : At s b k l f) (hk : k ≤ s.size) : l.length ≤ s.size ∧ f ≤ k := by
  rcases h with ⟨_, rfl, rfl⟩ | ⟨h1, _⟩
  · have := to_le s b k; omega
  · omega
end Go.Proofs.YtfhakailbikjkaaDoor.Cut
