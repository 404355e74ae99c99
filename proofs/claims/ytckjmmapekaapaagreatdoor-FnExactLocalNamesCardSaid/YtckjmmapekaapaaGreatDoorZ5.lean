/- Joined texts: K2. No conditions besides those that each states. -/
import Derived.Test.YtckjmmapekaapaaGreatDoorZ3
/- Plain facts on tokens: their texts, separated by blanks, give the same tokens. No conditions. -/
namespace Go.Proofs.YtckjmmapekaapaaGreatDoor.Tk
set_option linter.unusedVariables false

theorem Lt_el_end (d : UInt8) (hd : d = 34 ∨ d = 39) (b : UInt8) (r : List UInt8) : Lt.endL d (Lt.el d b ++ r) = (Lt.endL d r).map (· + (Lt.el d b).length) := by
  have hd1 : (92 : UInt8) ≠ d := by rcases hd with rfl | rfl <;> decide
  have hexok : ∀ n, n < 16 → Lt.hexC n ≠ d ∧ Lt.plain (Lt.hexC n) = true ∧ Lt.hexC n ≠ 92 := by
    intro n hn
    have h := Lt.hexC_nat n hn
    refine ⟨?_, (Lt.plain_iff _).2 (by rw [h]; split <;> omega), ?_⟩
    · rcases hd with rfl | rfl
      · intro e; rw [e] at h; simp at h; split at h <;> omega
      · intro e; rw [e] at h; simp at h; split at h <;> omega
    · intro e; rw [e] at h; simp at h; split at h <;> omega
  have hb := UInt8.toNat_lt b
  rcases Lt.el_cases d b with ⟨h1, e⟩ | ⟨h1, h2, e⟩ | ⟨h1, h2, h3, h4, e⟩ | ⟨h1, h2, e⟩ | ⟨h1, h2, e⟩ | ⟨h1, h2, h3, h4, h5, e⟩ | ⟨h1, h2, h3, h4, h5, e⟩
  · rw [e]; exact Lt.endL_back _ hd1
  · rw [e]; exact Lt.endL_back _ hd1
  · rw [e]; exact Lt.endL_one _ h1 ((Lt.plain_iff b).2 ⟨h3, h4⟩) h2
  · rw [e]; exact Lt.endL_back _ hd1
  · rw [e]; exact Lt.endL_back _ hd1
  all_goals
    obtain ⟨p1, p2, p3⟩ := hexok (b.toNat / 16) (by omega)
    obtain ⟨q1, q2, q3⟩ := hexok (b.toNat % 16) (by omega)
    rw [e]
    show Lt.endL d (92 :: 120 :: Lt.hexC (b.toNat / 16) :: Lt.hexC (b.toNat % 16) :: r) = _
    rw [Lt.endL_back _ hd1]
    show (Lt.endL d (Lt.hexC (b.toNat / 16) :: Lt.hexC (b.toNat % 16) :: r)).map (· + 2) = _
    rw [Lt.endL_one _ p1 p2 p3, Lt.endL_one _ q1 q2 q3]
    cases Lt.endL d r <;> simp
theorem Lt_els_end (d : UInt8) (hd : d = 34 ∨ d = 39) (l : List UInt8) (r : List UInt8) : Lt.endL d (l.flatMap (Lt.el d) ++ d :: r) = some ((l.flatMap (Lt.el d)).length + 1) := by
  induction l with
  | nil => exact Lt.endL_hit d r
  | cons b l ih =>
    rw [List.flatMap_cons, List.append_assoc, Lt_el_end d hd, ih]
    simp; omega

/-- The source form of a token. -/
def tx (k : Nat) (t : List UInt8) : List UInt8 := if k = 4 then Lt.quo 34 t else if k = 5 then Lt.quo 39 t else if k = 6 then 38 :: t else t
/-- What denotes is read again. -/
structure Again (D : Den) : Prop where
  int : ∀ w t, D.int w = some t → t ≠ [] ∧ t.all Dec.isDig = true ∧ D.int t = some t
  str : ∀ q t, D.str q = some t → D.str (Lt.quo 34 t) = some t
  set : ∀ q t, D.set q = some t → D.set (Lt.quo 39 t) = some t
/-- Nothing stands behind, or a blank. -/
def Gap (r : List UInt8) : Prop := r = [] ∨ r.head? = some 32
/-- A first byte that begins a token. -/
def firstOk (b : UInt8) : Bool := b != 10 && b != 32 && b != 9 && b != 35
theorem take_gap (p : UInt8 → Bool) (hp : p 32 = false) (w r : List UInt8) (hw : w.all p = true) (hr : Gap r) : (w ++ r).takeWhile p = w := by
  induction w with
  | nil =>
    rcases hr with rfl | h
    · rfl
    · cases r with
      | nil => rfl
      | cons c r => simp at h; subst h; simp [hp]
  | cons b w ih =>
    simp at hw
    rw [List.cons_append, List.takeWhile_cons, if_pos hw.1, ih (by simpa using hw.2)]
theorem letter_dig {b : UInt8} (h : Dec.isDig b = true) : letter b = false := by
  have h2 := Dec.isDig_le h
  have h3 : b ≠ 95 := by rintro rfl; simp at h2
  unfold letter
  simp [h3]; omega
theorem take_all (p : UInt8 → Bool) (l : List UInt8) : (l.takeWhile p).all p = true := by
  induction l with
  | nil => rfl
  | cons b l ih => rw [List.takeWhile_cons]; split <;> simp_all
theorem ops_first : ∀ o ∈ operators, (o.head?.map fun b => firstOk b && !letter b && !Dec.isDig b && b != 34 && b != 39) = some true := by decide
theorem ops_self : ∀ o ∈ operators, (operators.find? fun p => p.isPrefixOf o) = some o := by decide
theorem ops_blank : ∀ o ∈ operators, o.contains 32 = false := by decide
theorem prefix_gap (p o r : List UInt8) (hp : p.contains 32 = false) (hr : Gap r) : p.isPrefixOf (o ++ r) = p.isPrefixOf o := by
  induction p generalizing o with
  | nil => cases o <;> cases r <;> rfl
  | cons b p ih =>
    have hb : b ≠ 32 ∧ p.contains 32 = false := by
      simp at hp
      exact ⟨fun e => hp.1 e.symm, by simpa using hp.2⟩
    cases o with
    | nil =>
      rcases hr with rfl | h
      · rfl
      · cases r with
        | nil => rfl
        | cons c r =>
          simp at h; subst h
          have : (b == 32) = false := by simpa using hb.1
          simp [List.isPrefixOf, this]
    | cons c o =>
      show (b == c && p.isPrefixOf (o ++ r)) = (b == c && p.isPrefixOf o)
      rw [ih o hb.2]
theorem one_op (D : Den) (o r : List UInt8) (ho : o ∈ operators) (hr : Gap r) : one D (o ++ r) = some (7, o, o.length) := by
  have h1 := ops_first o ho
  have h2 := ops_self o ho
  have h3 : (operators.find? fun p => p.isPrefixOf (o ++ r)) = some o := by
    rw [← h2]
    have : ∀ l : List (List UInt8), (∀ p ∈ l, p.contains 32 = false) → l.find? (fun p => p.isPrefixOf (o ++ r)) = l.find? fun p => p.isPrefixOf o := by
      intro l
      induction l with
      | nil => intro _; rfl
      | cons p l ih =>
        intro h
        rw [List.find?_cons, List.find?_cons, prefix_gap p o r (h p (List.mem_cons_self)) hr, ih (fun q hq => h q (List.mem_cons_of_mem _ hq))]
    exact this operators ops_blank
  cases o with
  | nil => simp at h1
  | cons b o =>
    simp at h1
    obtain ⟨⟨⟨⟨h4, h5⟩, h6⟩, h7⟩, h8⟩ := h1
    rw [List.cons_append] at h3 ⊢
    have h9 : ¬ (b = 38 ∧ (o ++ r).head?.map letter = some true) := by
      rintro ⟨rfl, h⟩
      have : o = [] := by
        have hx : ∀ q ∈ operators, q.head? = some 38 → q = [38] := by decide
        have := hx _ ho rfl
        simpa using this
      subst this
      rcases hr with rfl | hr
      · simp at h
      · simp [hr] at h; exact absurd h (by decide)
    simp only [one]
    rw [if_neg (by simp [h5]), if_neg (by simp [h6]), if_neg (by simpa using h7), if_neg (by simpa using h8), if_neg h9, h3]
    rfl
/-- A token whose source form is read again as itself. -/
def OkT (D : Den) (k : Nat) (t : List UInt8) : Prop := (∃ b r, tx k t = b :: r ∧ firstOk b = true) ∧ ∀ r, Gap r → one D (tx k t ++ r) = some (k, t, (tx k t).length)
theorem okT_op (D : Den) (o : List UInt8) (ho : o ∈ operators) : OkT D 7 o := by
  refine ⟨?_, fun r hr => by show one D (o ++ r) = _; exact one_op D o r ho hr⟩
  have h1 := ops_first o ho
  cases o with
  | nil => simp at h1
  | cons b o => simp at h1; exact ⟨b, o, rfl, h1.1.1.1.1⟩
theorem letter_first {b : UInt8} (h : letter b = true) : firstOk b = true := by
  unfold firstOk
  have : ∀ c : UInt8, letter c = false → b ≠ c := fun c hc e => by rw [e, hc] at h; cases h
  have h1 := this 10 (by decide)
  have h2 := this 32 (by decide)
  have h3 := this 9 (by decide)
  have h4 := this 35 (by decide)
  simp [h1, h2, h3, h4]
theorem dig_first {b : UInt8} (h : Dec.isDig b = true) : firstOk b = true := by
  unfold firstOk
  have : ∀ c : UInt8, Dec.isDig c = false → b ≠ c := fun c hc e => by rw [e, hc] at h; cases h
  have h1 := this 10 (by decide)
  have h2 := this 32 (by decide)
  have h3 := this 9 (by decide)
  have h4 := this 35 (by decide)
  simp [h1, h2, h3, h4]
theorem idb_blank : idb 32 = false := by decide
theorem letter_blank : letter 32 = false := by decide
theorem kw_head : ∀ w ∈ keywords, ∃ b r, w = b :: r ∧ letter b = true ∧ w.all letter = true := by
  intro w hw
  have h : ∀ w ∈ keywords, w ≠ [] ∧ w.all letter = true := by decide
  obtain ⟨h1, h2⟩ := h w hw
  cases w with
  | nil => exact absurd rfl h1
  | cons b r => exact ⟨b, r, rfl, by simp at h2; exact h2.1, h2⟩
theorem dig_idb {l : List UInt8} (h : l.all Dec.isDig = true) : l.all idb = true := by
  rw [List.all_eq_true] at h ⊢
  intro x hx
  unfold idb
  rw [h x hx]; simp
/-- What is read is read again. -/
theorem one_again {D : Den} (A : Again D) {R t : List UInt8} {k n : Nat} (h : one D R = some (k, t, n)) : OkT D k t := by
  match R with
  | [] => cases h
  | b :: q =>
    simp only [one] at h
    split at h
    · rename_i hb
      have hid : (q.takeWhile idb).all idb = true := take_all _ _
      split at h
      · rename_i hres
        cases h
        refine ⟨⟨b, _, rfl, letter_first hb⟩, fun r hr => ?_⟩
        show one D (b :: (q.takeWhile idb ++ r)) = _
        simp only [one]
        rw [if_pos hb, take_gap idb idb_blank _ r hid hr, if_pos hres]; rfl
      · rename_i hres
        split at h
        · rename_i hnm
          cases h
          refine ⟨⟨b, _, rfl, letter_first hb⟩, fun r hr => ?_⟩
          show one D (b :: (q.takeWhile idb ++ r)) = _
          simp only [one]
          rw [if_pos hb, take_gap idb idb_blank _ r hid hr, if_neg hres, if_pos hnm]; rfl
        · cases h
    · split at h
      · cases hi : D.int (b :: q.takeWhile idb) with
        | none => rw [hi] at h; cases h
        | some x =>
          rw [hi] at h
          cases h
          obtain ⟨h1, h2, h3⟩ := A.int _ _ hi
          cases t with
          | nil => exact absurd rfl h1
          | cons c t =>
            have hc : Dec.isDig c = true := by simp at h2; exact h2.1
            have ht : t.all idb = true := dig_idb (by simp at h2; simpa using h2.2)
            refine ⟨⟨c, t, rfl, dig_first hc⟩, fun r hr => ?_⟩
            show one D (c :: (t ++ r)) = _
            simp only [one]
            rw [if_neg (by rw [letter_dig hc]; simp), if_pos hc, take_gap idb idb_blank _ r ht hr, h3]; rfl
      · split at h
        · cases he : Lt.endL 34 q with
          | none => rw [he] at h; cases h
          | some m =>
            rw [he] at h
            cases hs : D.str (b :: q.take m) with
            | none => simp [hs] at h
            | some x =>
              simp [hs] at h
              obtain ⟨rfl, rfl, _⟩ := h
              have h2 := A.str _ _ hs
              refine ⟨⟨34, _, rfl, rfl⟩, fun r hr => ?_⟩
              have h3 : tx 4 x ++ r = 34 :: (x.flatMap (Lt.el 34) ++ 34 :: r) := by show Lt.quo 34 x ++ r = _; simp [Lt.quo]
              rw [h3]
              simp only [one]
              rw [if_neg (by decide), if_neg (by decide)]
              rw [Lt_els_end 34 (.inl rfl) x r]
              have h4 : (34 : UInt8) :: (x.flatMap (Lt.el 34) ++ 34 :: r).take ((x.flatMap (Lt.el 34)).length + 1) = Lt.quo 34 x := by
                unfold Lt.quo
                rw [show x.flatMap (Lt.el 34) ++ 34 :: r = (x.flatMap (Lt.el 34) ++ [34]) ++ r by simp, List.take_left' (by simp)]
              rw [if_pos trivial]
              show (D.str _).map _ = _
              rw [h4, h2]
              show some (4, x, _) = some (4, x, (Lt.quo 34 x).length)
              simp [Lt.quo]
        · split at h
          · cases he : Lt.endL 39 q with
            | none => rw [he] at h; cases h
            | some m =>
              rw [he] at h
              cases hs : D.set (b :: q.take m) with
              | none => simp [hs] at h
              | some x =>
                simp [hs] at h
                obtain ⟨rfl, rfl, _⟩ := h
                have h2 := A.set _ _ hs
                refine ⟨⟨39, _, rfl, rfl⟩, fun r hr => ?_⟩
                have h3 : tx 5 x ++ r = 39 :: (x.flatMap (Lt.el 39) ++ 39 :: r) := by show Lt.quo 39 x ++ r = _; simp [Lt.quo]
                rw [h3]
                simp only [one]
                rw [if_neg (by decide), if_neg (by decide), if_neg (by decide)]
                rw [Lt_els_end 39 (.inr rfl) x r]
                have h4 : (39 : UInt8) :: (x.flatMap (Lt.el 39) ++ 39 :: r).take ((x.flatMap (Lt.el 39)).length + 1) = Lt.quo 39 x := by
                  unfold Lt.quo
                  rw [show x.flatMap (Lt.el 39) ++ 39 :: r = (x.flatMap (Lt.el 39) ++ [39]) ++ r by simp, List.take_left' (by simp)]
                rw [if_pos trivial]
                show (D.set _).map _ = _
                rw [h4, h2]
                show some (5, x, _) = some (5, x, (Lt.quo 39 x).length)
                simp [Lt.quo]
          · split at h
            · split at h
              · rename_i hk
                cases h
                obtain ⟨c, u, hc, hl, ha⟩ := kw_head _ (by unfold isKeyword at hk; simpa using hk)
                generalize q.takeWhile letter = w at hk hc ha
                subst hc
                refine ⟨⟨38, _, rfl, rfl⟩, fun r hr => ?_⟩
                show one D (38 :: (c :: u ++ r)) = _
                simp only [one]
                rw [if_neg (by decide), if_neg (by decide), if_neg (by decide), if_neg (by decide), if_pos ⟨trivial, by simp [hl]⟩, take_gap letter letter_blank _ r ha hr, if_pos hk]; rfl
              · cases h
            · cases hf : operators.find? fun o => o.isPrefixOf (b :: q) with
              | none => rw [hf] at h; cases h
              | some o =>
                rw [hf] at h
                cases h
                exact okT_op D _ (List.mem_of_find?_eq_some hf)
/-- The texts of tokens, separated by blanks. -/
def joined : List Tok → List UInt8
  | [] => []
  | [x] => tx x.1 x.2.1
  | x :: y :: l => tx x.1 x.2.1 ++ 32 :: joined (y :: l)
theorem lex_step {D : Den} {k : Nat} {t : List UInt8} (h : OkT D k t) (r : List UInt8) (hr : Gap r) (line : Nat) (out : List Tok) : lexW D (tx k t ++ r) line false out = lexW D r line false (out ++ [(k, t, line)]) := by
  obtain ⟨⟨b, q, hb, hf⟩, h2⟩ := h
  have h3 := h2 r hr
  unfold firstOk at hf
  simp at hf
  obtain ⟨⟨⟨f1, f2⟩, f3⟩, f4⟩ := hf
  have h4 : (tx k t ++ r).drop (tx k t).length = r := by simp
  rw [hb, List.cons_append] at h3 h4 ⊢
  rw [lexW_tok D _ line false out f1 f2 f3 f4 h3, h4]
  congr 1
  unfold semi
  cases out.getLast? <;> simp
theorem lex_joined {D : Den} (line : Nat) : ∀ (l : List Tok) (out : List Tok), (∀ x ∈ l, OkT D x.1 x.2.1) → lexW D (joined l) line false out = (0, out ++ l.map fun x => (x.1, x.2.1, line))
  | [], out, _ => by rw [joined, lexW_nil]; simp
  | [x], out, h => by
    have h1 := lex_step (h x (List.mem_cons_self)) [] (.inl rfl) line out
    rw [List.append_nil] at h1
    rw [joined, h1, lexW_nil]; rfl
  | x :: y :: l, out, h => by
    rw [joined, lex_step (h x (List.mem_cons_self)) _ (.inr rfl) line out, lexW_blank D _ line false _ (.inl rfl), lex_joined line (y :: l) _ (fun z hz => h z (List.mem_cons_of_mem _ hz))]
    simp
/-- Every token of a source is read again. -/
theorem lex_ok {D : Den} (A : Again D) : ∀ n (R : List UInt8) (line : Nat) (fresh : Bool) (out : List Tok), R.length ≤ n → (∀ x ∈ out, OkT D x.1 x.2.1) → ∀ x ∈ (lexW D R line fresh out).2, OkT D x.1 x.2.1 := by
  intro n
  induction n with
  | zero =>
    intro R line fresh out hn h x hx
    obtain rfl : R = [] := List.eq_nil_of_length_eq_zero (by omega)
    rw [lexW_nil] at hx; exact h x hx
  | succ n ih =>
    intro R line fresh out hn h x hx
    match R with
    | [] => rw [lexW_nil] at hx; exact h x hx
    | b :: r =>
      rw [List.length_cons] at hn
      by_cases h1 : b = 10
      · subst h1; rw [lexW_line] at hx; exact ih r _ _ _ (by omega) h x hx
      · by_cases h2 : b = 32 ∨ b = 9
        · rw [lexW_blank D r line fresh out h2] at hx; exact ih r _ _ _ (by omega) h x hx
        · by_cases h4 : b = 35
          · subst h4
            rw [lexW_note] at hx
            have := (List.dropWhile_sublist (p := fun c : UInt8 => c != 10) (l := r)).length_le
            exact ih _ _ _ _ (by omega) h x hx
          · have h5 : b ≠ 32 := fun e => h2 (.inl e)
            have h6 : b ≠ 9 := fun e => h2 (.inr e)
            cases ho : one D (b :: r) with
            | none => rw [lexW_bad D r line fresh out h1 h5 h6 h4 ho] at hx; cases hx
            | some y =>
              obtain ⟨k, t, m⟩ := y
              rw [lexW_tok D r line fresh out h1 h5 h6 h4 ho] at hx
              have hm := one_pos ho
              refine ih _ _ _ _ (by rw [List.length_drop, List.length_cons]; omega) ?_ x hx
              intro z hz
              rw [List.mem_append, List.mem_append] at hz
              rcases hz with (hz | hz) | hz
              · exact h z hz
              · unfold semi at hz
                split at hz
                · cases hz
                · split at hz
                  · rw [List.mem_singleton] at hz; subst hz; exact okT_op D [59] (by decide)
                  · cases hz
              · rw [List.mem_singleton] at hz; subst hz; exact one_again A ho
/-- The texts of a source's tokens give the same tokens, each in line 1. -/
theorem lex_again {D : Den} (A : Again D) (S : List UInt8) (h : (joined (lex D S).2).length ≤ 6000) : lex D (joined (lex D S).2) = (0, (lex D S).2.map fun x => (x.1, x.2.1, 1)) := by
  have hall : ∀ x ∈ (lex D S).2, OkT D x.1 x.2.1 := by
    unfold lex
    split
    · intro x hx; cases hx
    · exact lex_ok A S.length S 1 false [] (Nat.le_refl _) (fun x hx => by cases hx)
  have h2 := lex_joined (D := D) 1 (lex D S).2 [] hall
  rw [lex, if_neg (by omega), h2]; rfl
end Go.Proofs.YtckjmmapekaapaaGreatDoor.Tk
