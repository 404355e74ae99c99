/- Plain facts on literals: what stands for a byte between two delimiters, what a literal denotes, and where it ends. No conditions. -/
namespace Go.Proofs.YtpncmahpcccmlaaDoor.Lt
set_option linter.unusedVariables false

/-- May a byte stand for itself? -/
def plain (b : UInt8) : Bool := decide (32 ≤ b.toNat) && decide (b.toNat ≤ 126)
/-- A hexadecimal digit. -/
def hexC (n : Nat) : UInt8 := UInt8.ofNat (if n < 10 then 48 + n else 87 + n)
/-- What stands for a byte. -/
def el (d b : UInt8) : List UInt8 :=
  if b = d ∨ b = 92 then [92, b] else if plain b = true then [b] else if b = 10 then [92, 110] else if b = 9 then [92, 116] else [92, 120, hexC (b.toNat / 16), hexC (b.toNat % 16)]
/-- A literal. -/
def quo (d : UInt8) (l : List UInt8) : List UInt8 := d :: (l.flatMap (el d) ++ [d])

theorem plain_iff (b : UInt8) : plain b = true ↔ 32 ≤ b.toNat ∧ b.toNat ≤ 126 := by unfold plain; simp
theorem plain_no (b : UInt8) : plain b = false ↔ b.toNat < 32 ∨ 126 < b.toNat := by
  rw [← Bool.not_eq_true, plain_iff]; omega
theorem ne_nat {a b : UInt8} (h : a ≠ b) : ¬ a.toNat = b.toNat := fun e => h (UInt8.toNat_inj.1 e)

/-- What stands for a byte, by cases. -/
theorem el_cases (d b : UInt8) : (b = d ∧ el d b = [92, b]) ∨ (b ≠ d ∧ b = 92 ∧ el d b = [92, b]) ∨ (b ≠ d ∧ b ≠ 92 ∧ 32 ≤ b.toNat ∧ b.toNat ≤ 126 ∧ el d b = [b])
    ∨ (b ≠ d ∧ b = 10 ∧ el d b = [92, 110]) ∨ (b ≠ d ∧ b = 9 ∧ el d b = [92, 116])
    ∨ (b ≠ d ∧ b ≠ 92 ∧ b ≠ 10 ∧ b ≠ 9 ∧ b.toNat < 32 ∧ el d b = [92, 120, hexC (b.toNat / 16), hexC (b.toNat % 16)])
    ∨ (b ≠ d ∧ b ≠ 92 ∧ b ≠ 10 ∧ b ≠ 9 ∧ 126 < b.toNat ∧ el d b = [92, 120, hexC (b.toNat / 16), hexC (b.toNat % 16)]) := by
  by_cases h1 : b = d
  · left; exact ⟨h1, by unfold el; rw [if_pos (.inl h1)]⟩
  · by_cases h2 : b = 92
    · right; left; exact ⟨h1, h2, by unfold el; rw [if_pos (.inr h2)]⟩
    · have h3 : ¬ (b = d ∨ b = 92) := fun h => h.elim h1 h2
      cases h4 : plain b
      · by_cases h5 : b = 10
        · right; right; right; left; exact ⟨h1, h5, by unfold el; rw [if_neg h3, h4, if_neg (by simp), if_pos h5]⟩
        · by_cases h6 : b = 9
          · right; right; right; right; left; exact ⟨h1, h6, by unfold el; rw [if_neg h3, h4, if_neg (by simp), if_neg h5, if_pos h6]⟩
          · have e : el d b = [92, 120, hexC (b.toNat / 16), hexC (b.toNat % 16)] := by unfold el; rw [if_neg h3, h4, if_neg (by simp), if_neg h5, if_neg h6]
            rcases (plain_no b).1 h4 with h7 | h7
            · right; right; right; right; right; left; exact ⟨h1, h2, h5, h6, h7, e⟩
            · right; right; right; right; right; right; exact ⟨h1, h2, h5, h6, h7, e⟩
      · right; right; left; exact ⟨h1, h2, ((plain_iff b).1 h4).1, ((plain_iff b).1 h4).2, by unfold el; rw [if_neg h3, if_pos h4]⟩
theorem el_len (d b : UInt8) : (el d b).length ≤ 4 := by
  rcases el_cases d b with ⟨_, e⟩ | ⟨_, _, e⟩ | ⟨_, _, _, _, e⟩ | ⟨_, _, e⟩ | ⟨_, _, e⟩ | ⟨_, _, _, _, _, e⟩ | ⟨_, _, _, _, _, e⟩ <;> rw [e] <;> simp
theorem els_len (d : UInt8) (l : List UInt8) : (l.flatMap (el d)).length ≤ 4 * l.length := by
  induction l with
  | nil => simp
  | cons b l ih => rw [List.flatMap_cons, List.length_append, List.length_cons]; have := el_len d b; omega
theorem els_snoc (d : UInt8) (l : List UInt8) (k : Nat) (h : k < l.length) : (l.take (k + 1)).flatMap (el d) = (l.take k).flatMap (el d) ++ el d l[k] := by
  rw [List.take_succ_eq_append_getElem h, List.flatMap_append]; simp

/-- The value of a hexadecimal digit. -/
def hexN (b : UInt8) : Option Nat := if 48 ≤ b.toNat ∧ b.toNat ≤ 57 then some (b.toNat - 48) else if 97 ≤ b.toNat ∧ b.toNat ≤ 102 then some (b.toNat - 87) else none
theorem hexN_cases (b : UInt8) : (48 ≤ b.toNat ∧ b.toNat ≤ 57 ∧ hexN b = some (b.toNat - 48)) ∨ (97 ≤ b.toNat ∧ b.toNat ≤ 102 ∧ hexN b = some (b.toNat - 87)) ∨ (b.toNat < 48 ∧ hexN b = none) ∨ (57 < b.toNat ∧ b.toNat < 97 ∧ hexN b = none) ∨ (102 < b.toNat ∧ hexN b = none) := by
  unfold hexN
  by_cases h1 : 48 ≤ b.toNat ∧ b.toNat ≤ 57
  · left; exact ⟨h1.1, h1.2, by rw [if_pos h1]⟩
  · rw [if_neg h1]
    by_cases h2 : 97 ≤ b.toNat ∧ b.toNat ≤ 102
    · right; left; exact ⟨h2.1, h2.2, by rw [if_pos h2]⟩
    · rw [if_neg h2]
      rcases (show b.toNat < 48 ∨ (57 < b.toNat ∧ b.toNat < 97) ∨ 102 < b.toNat by omega) with h | h | h
      · right; right; left; exact ⟨h, rfl⟩
      · right; right; right; left; exact ⟨h.1, h.2, rfl⟩
      · right; right; right; right; exact ⟨h, rfl⟩
theorem hexN_lt {b : UInt8} {x : Nat} (h : hexN b = some x) : x < 16 := by
  rcases hexN_cases b with ⟨h1, h2, e⟩ | ⟨h1, h2, e⟩ | ⟨h1, e⟩ | ⟨h1, h2, e⟩ | ⟨h1, e⟩ <;> rw [e] at h <;> simp at h <;> omega
theorem hexC_nat (n : Nat) (h : n < 16) : (hexC n).toNat = if n < 10 then 48 + n else 87 + n := by
  unfold hexC
  rw [UInt8.toNat_ofNat']; split <;> omega
theorem hexN_hexC (n : Nat) (h : n < 16) : hexN (hexC n) = some n := by
  unfold hexN
  rw [hexC_nat n h]
  by_cases h1 : n < 10
  · rw [if_pos h1, if_pos (by omega)]; congr 1; omega
  · rw [if_neg h1, if_neg (by omega), if_pos (by omega)]; congr 1; omega

/-- An escape: the byte that it denotes, and what follows it; given what follows its backslash. -/
def esc : List UInt8 → Option (UInt8 × List UInt8)
  | [] => none
  | c :: r =>
    if c = 110 then some (10, r) else if c = 116 then some (9, r) else if c = 92 ∨ c = 34 ∨ c = 39 then some (c, r)
    else if c = 120 then match r with
      | h :: l :: r4 => match hexN h, hexN l with
        | some x, some y => some (UInt8.ofNat (16 * x + y), r4)
        | _, _ => none
      | _ => none
    else none
/-- The first element of what stands between two delimiters: the byte that it denotes, and what follows it. -/
def step (d : UInt8) : List UInt8 → Option (UInt8 × List UInt8)
  | [] => none
  | b :: r => if b = d ∨ plain b = false then none else if b = 92 then esc r else some (b, r)
theorem esc_len {l r : List UInt8} {b : UInt8} (h : esc l = some (b, r)) : r.length < l.length := by
  match l with
  | [] => cases h
  | c :: l =>
    simp only [esc] at h
    split at h
    · cases h; simp
    · split at h
      · cases h; simp
      · split at h
        · cases h; simp
        · split at h
          · split at h
            · split at h
              · cases h; simp; omega
              · cases h
            · cases h
          · cases h
theorem step_len {d : UInt8} {l r : List UInt8} {b : UInt8} (h : step d l = some (b, r)) : r.length < l.length := by
  match l with
  | [] => cases h
  | c :: l =>
    simp only [step] at h
    split at h
    · cases h
    · split at h
      · have := esc_len h; simp; omega
      · cases h; simp
/-- What stands between two delimiters denotes these bytes. -/
def uq (d : UInt8) (l : List UInt8) : Option (List UInt8) :=
  if l = [] then some [] else
  match h : step d l with
  | none => none
  | some (b, r) => (uq d r).map (b :: ·)
termination_by l.length
decreasing_by exact step_len h
theorem uq_nil (d : UInt8) : uq d [] = some [] := by rw [uq, if_pos rfl]
theorem uq_none {d : UInt8} {l : List UInt8} (h0 : l ≠ []) (h : step d l = none) : uq d l = none := by
  rw [uq, if_neg h0]; split <;> simp_all
theorem uq_some {d : UInt8} {l r : List UInt8} {b : UInt8} (h : step d l = some (b, r)) : uq d l = (uq d r).map (b :: ·) := by
  have h0 : l ≠ [] := by rintro rfl; cases h
  rw [uq, if_neg h0]
  split
  · simp_all
  · rename_i b' r' h2
    rw [h] at h2
    cases h2; rfl
/-- Some elements are read: these bytes so far, and the rest. -/
def Rd (d : UInt8) (L A R : List UInt8) : Prop := uq d L = (uq d R).map (A ++ ·)
theorem rd_start (d : UInt8) (L : List UInt8) : Rd d L [] L := by unfold Rd; cases uq d L <;> rfl
theorem rd_next {d : UInt8} {L A R r : List UInt8} {b : UInt8} (h : Rd d L A R) (hs : step d R = some (b, r)) : Rd d L (A ++ [b]) r := by
  unfold Rd at h ⊢
  rw [h, uq_some hs]
  cases uq d r <;> simp
theorem rd_bad {d : UInt8} {L A R : List UInt8} (h : Rd d L A R) (h0 : R ≠ []) (hs : step d R = none) : uq d L = none := by
  unfold Rd at h
  rw [h, uq_none h0 hs]; rfl
theorem rd_end {d : UInt8} {L A : List UInt8} (h : Rd d L A []) : uq d L = some A := by
  unfold Rd at h
  rw [h, uq_nil]; simp
/-- There are no more bytes than letters. -/
theorem rd_len {d : UInt8} {l A : List UInt8} : ∀ n, l.length ≤ n → uq d l = some A → A.length ≤ l.length := by
  intro n
  induction n generalizing l A with
  | zero =>
    intro h0 h
    obtain rfl : l = [] := List.eq_nil_of_length_eq_zero (by omega)
    rw [uq_nil] at h; cases h; simp
  | succ n ih =>
    intro h0 h
    by_cases hl : l = []
    · subst hl; rw [uq_nil] at h; cases h; simp
    · cases hs : step d l with
      | none => rw [uq_none hl hs] at h; cases h
      | some x =>
        obtain ⟨b, r⟩ := x
        have h1 := step_len hs
        rw [uq_some hs] at h
        cases hr : uq d r with
        | none => rw [hr] at h; cases h
        | some B =>
          rw [hr] at h; simp at h; subst h
          have := ih (l := r) (by omega) hr
          simp; omega

/-- A quoted text denotes what was quoted. -/
theorem step_el (d b : UInt8) (r : List UInt8) (hd : d = 34 ∨ d = 39) : step d (el d b ++ r) = some (b, r) := by
  have hd1 : (92 : UInt8) ≠ d := by rcases hd with rfl | rfl <;> decide
  have hp : plain 92 = true := by decide
  have h92 : ∀ q, step d (92 :: q) = esc q := by
    intro q
    simp only [step]
    rw [if_neg (by rintro (h | h); exact hd1 h; rw [hp] at h; cases h)]
    exact if_pos trivial
  rcases el_cases d b with ⟨h1, e⟩ | ⟨h1, h2, e⟩ | ⟨h1, h2, h3, h4, e⟩ | ⟨h1, h2, e⟩ | ⟨h1, h2, e⟩ | ⟨h1, h2, h3, h4, h5, e⟩ | ⟨h1, h2, h3, h4, h5, e⟩
  · rw [e]
    show step d (92 :: (b :: r)) = _
    rw [h92]
    subst h1
    rcases hd with rfl | rfl <;> simp [esc]
  · rw [e]
    show step d (92 :: (b :: r)) = _
    rw [h92]
    subst h2
    simp [esc]
  · rw [e]
    show step d (b :: r) = _
    simp only [step]
    rw [if_neg (by rintro (h | h); exact h1 h; rw [(plain_iff b).2 ⟨h3, h4⟩] at h; cases h), if_neg h2]
  · rw [e]
    show step d (92 :: (110 :: r)) = _
    rw [h92]
    subst h2
    simp [esc]
  · rw [e]
    show step d (92 :: (116 :: r)) = _
    rw [h92]
    subst h2
    simp [esc]
  all_goals
    rw [e]
    show step d (92 :: (120 :: hexC (b.toNat / 16) :: hexC (b.toNat % 16) :: r)) = _
    rw [h92]
    simp only [esc]
    have hb := UInt8.toNat_lt b
    simp only [hexN_hexC _ (show b.toNat / 16 < 16 by omega), hexN_hexC _ (show b.toNat % 16 < 16 by omega)]
    rw [show 16 * (b.toNat / 16) + b.toNat % 16 = b.toNat by omega]
    simp
theorem uq_els (d : UInt8) (hd : d = 34 ∨ d = 39) (l : List UInt8) : uq d (l.flatMap (el d)) = some l := by
  induction l with
  | nil => rw [List.flatMap_nil, uq_nil]
  | cons b l ih => rw [List.flatMap_cons, uq_some (step_el d b _ hd), ih]; rfl

/-- What a literal denotes, if it is one. -/
def lit (d : UInt8) (s : List UInt8) : Option (List UInt8) := if s.length < 2 ∨ s.head? ≠ some d ∨ s.getLast? ≠ some d then none else uq d (s.drop 1).dropLast
def litB (d : UInt8) (s : List UInt8) : Bool := (lit d s).isSome
def litL (d : UInt8) (s : List UInt8) : List UInt8 := (lit d s).getD []
theorem lit_none {d : UInt8} {s : List UInt8} (h : lit d s = none) : litB d s = false ∧ litL d s = [] := by unfold litB litL; rw [h]; exact ⟨rfl, rfl⟩
theorem lit_some {d : UInt8} {s A : List UInt8} (h : lit d s = some A) : litB d s = true ∧ litL d s = A := by unfold litB litL; rw [h]; exact ⟨rfl, rfl⟩
theorem lit_quo (d : UInt8) (hd : d = 34 ∨ d = 39) (l : List UInt8) : lit d (quo d l) = some l := by
  have h : (quo d l).getLast? = some d := by
    unfold quo
    rw [← List.cons_append, List.getLast?_concat]
  unfold lit
  rw [if_neg (by rw [h]; unfold quo; simp)]
  unfold quo
  simp
  exact uq_els d hd l

/-- How many bytes lie to the end of a literal, the delimiter that ends it counted. -/
def endL (d : UInt8) : List UInt8 → Option Nat
  | [] => none
  | b :: r => if b = d then some 1 else if plain b = false then none else if b = 92 then (match r with
      | [] => none
      | _ :: r2 => (endL d r2).map (· + 2)) else (endL d r).map (· + 1)
theorem endL_nil (d : UInt8) : endL d [] = none := rfl
theorem endL_hit (d : UInt8) (r : List UInt8) : endL d (d :: r) = some 1 := by rw [endL.eq_def]; exact if_pos rfl
theorem endL_bad {d b : UInt8} (r : List UInt8) (h : b ≠ d) (hp : plain b = false) : endL d (b :: r) = none := by rw [endL.eq_def]; dsimp only; rw [if_neg h, if_pos hp]
theorem endL_one {d b : UInt8} (r : List UInt8) (h : b ≠ d) (hp : plain b = true) (h2 : b ≠ 92) : endL d (b :: r) = (endL d r).map (· + 1) := by rw [endL.eq_def]; dsimp only; rw [if_neg h, if_neg (by simp [hp]), if_neg h2]
theorem endL_back {d : UInt8} (r : List UInt8) (h : (92 : UInt8) ≠ d) : endL d (92 :: r) = match r with
      | [] => none
      | _ :: r2 => (endL d r2).map (· + 2) := by rw [endL.eq_def]; dsimp only; rw [if_neg h, if_neg (by decide)]; exact if_pos rfl
theorem endL_pos {d : UInt8} : ∀ {l : List UInt8} {n : Nat}, endL d l = some n → 1 ≤ n := by
  intro l n h
  match l with
  | [] => cases h
  | b :: r =>
    rw [endL.eq_def] at h
    dsimp only at h
    split at h
    · cases h; omega
    · split at h
      · cases h
      · split at h
        · split at h
          · cases h
          · cases h2 : endL d _ with
            | none => rw [h2] at h; cases h
            | some m => rw [h2] at h; simp at h; omega
        · cases h2 : endL d _ with
          | none => rw [h2] at h; cases h
          | some m => rw [h2] at h; simp at h; omega
/-- Where a literal ends that begins at the start of s; behind the last byte at the most. -/
def ends (d : UInt8) (S : List UInt8) (k : Nat) : Option Nat := (endL d (S.drop k)).map (· + k)
theorem ends_over {d : UInt8} {S : List UInt8} {k : Nat} (h : S.length ≤ k) : ends d S k = none := by
  unfold ends; rw [List.drop_eq_nil_of_le h, endL_nil]; rfl
theorem ends_hit {d : UInt8} {S : List UInt8} {k : Nat} (hk : k < S.length) (h : S[k] = d) : ends d S k = some (k + 1) := by
  unfold ends; rw [List.drop_eq_getElem_cons hk, h, endL_hit]; simp; omega
theorem ends_bad {d : UInt8} {S : List UInt8} {k : Nat} (hk : k < S.length) (h : S[k] ≠ d) (hp : plain S[k] = false) : ends d S k = none := by
  unfold ends; rw [List.drop_eq_getElem_cons hk, endL_bad _ h hp]; rfl
theorem ends_one {d : UInt8} {S : List UInt8} {k : Nat} (hk : k < S.length) (h : S[k] ≠ d) (hp : plain S[k] = true) (h2 : S[k] ≠ 92) : ends d S k = ends d S (k + 1) := by
  unfold ends; rw [List.drop_eq_getElem_cons hk, endL_one _ h hp h2]
  cases endL d (S.drop (k + 1)) <;> simp; omega
theorem ends_back {d : UInt8} {S : List UInt8} {k : Nat} (hk : k < S.length) (hd : (92 : UInt8) ≠ d) (h2 : S[k] = 92) : ends d S k = ends d S (k + 2) := by
  unfold ends
  rw [List.drop_eq_getElem_cons hk, h2, endL_back _ hd]
  by_cases h3 : k + 1 < S.length
  · rw [List.drop_eq_getElem_cons h3]
    show Option.map (· + k) (Option.map (· + 2) (endL d (S.drop (k + 2)))) = _
    cases endL d (S.drop (k + 2)) <;> simp; omega
  · rw [List.drop_eq_nil_of_le (by omega), List.drop_eq_nil_of_le (by omega), endL_nil]; rfl
theorem ends_lt {d : UInt8} {S : List UInt8} {k n : Nat} (h : ends d S k = some n) : k < S.length ∧ k < n := by
  unfold ends at h
  cases h2 : endL d (S.drop k) with
  | none => rw [h2] at h; cases h
  | some m =>
    rw [h2] at h
    have h3 := endL_pos h2
    simp at h
    refine ⟨?_, by omega⟩
    rcases Nat.lt_or_ge k S.length with h4 | h4
    · exact h4
    · rw [List.drop_eq_nil_of_le h4] at h2; cases h2

/-- The state of a reading that goes by places: the literal ends at the text's end. -/
theorem round_cases {d : UInt8} {S : List UInt8} {k : Nat} (hd : d = 34 ∨ d = 39) (hk : k + 1 < S.length) (h : ends d S k = some S.length) :
    (S[k] ≠ 92 ∧ ends d S (k + 1) = some S.length ∧ step d (S.dropLast.drop k) = some (S[k], S.dropLast.drop (k + 1))) ∨
    (S[k] = 92 ∧ k + 2 < S.length ∧ ends d S (k + 2) = some S.length ∧ step d (S.dropLast.drop k) = esc (S.dropLast.drop (k + 1))) := by
  have hd1 : (92 : UInt8) ≠ d := by rcases hd with rfl | rfl <;> decide
  have hT : k < S.dropLast.length := by rw [List.length_dropLast]; omega
  have hTk : S.dropLast[k] = S[k] := List.getElem_dropLast ..
  have hne : S[k] ≠ d := by
    intro e
    rw [ends_hit (by omega) e] at h
    simp at h; omega
  have hp : plain S[k] = true := by
    cases hp : plain S[k]
    · rw [ends_bad (by omega) hne hp] at h; cases h
    · rfl
  have hs : step d (S.dropLast.drop k) = if S[k] = 92 then esc (S.dropLast.drop (k + 1)) else some (S[k], S.dropLast.drop (k + 1)) := by
    rw [List.drop_eq_getElem_cons hT, hTk]
    simp only [step]
    rw [if_neg (by rintro (h | h); exact hne h; rw [hp] at h; cases h)]
  by_cases h92 : S[k] = 92
  · right
    rw [ends_back (by omega) hd1 h92] at h
    exact ⟨h92, (ends_lt h).1, h, by rw [hs, if_pos h92]⟩
  · left
    rw [ends_one (by omega) hne hp h92] at h
    exact ⟨h92, h, by rw [hs, if_neg h92]⟩
/-- If a literal does not end at the text's end it is none. -/
theorem ends_no {d : UInt8} (hd : d = 34 ∨ d = 39) (S : List UInt8) (hl : S.getLast? = some d) : ∀ n k, S.length - k ≤ n → k + 1 ≤ S.length → ends d S k ≠ some S.length → uq d (S.dropLast.drop k) = none := by
  have hd1 : (92 : UInt8) ≠ d := by rcases hd with rfl | rfl <;> decide
  have hlast : ∀ h : S.length - 1 < S.length, S[S.length - 1] = d := by
    intro h
    rw [List.getLast?_eq_getElem?, List.getElem?_eq_getElem h] at hl
    exact Option.some.inj hl
  intro n
  induction n with
  | zero => intro k h1 h2 _; omega
  | succ n ih =>
    intro k h1 h2 h3
    by_cases hk : k + 1 = S.length
    · exfalso
      apply h3
      obtain rfl : k = S.length - 1 := by omega
      rw [ends_hit (by omega) (hlast (by omega))]
      congr 1
    · have hkl : k < S.length := by omega
      have hT : k < S.dropLast.length := by rw [List.length_dropLast]; omega
      have hTk : S.dropLast[k] = S[k] := List.getElem_dropLast ..
      have hne0 : S.dropLast.drop k ≠ [] := by intro e; have := congrArg List.length e; simp at this; omega
      have hs : step d (S.dropLast.drop k) = if S[k] = d ∨ plain S[k] = false then none else if S[k] = 92 then esc (S.dropLast.drop (k + 1)) else some (S[k], S.dropLast.drop (k + 1)) := by
        rw [List.drop_eq_getElem_cons hT, hTk]
        simp only [step]
      by_cases hb : S[k] = d ∨ plain S[k] = false
      · rw [if_pos hb] at hs
        exact uq_none hne0 hs
      · rw [if_neg hb] at hs
        have hne : S[k] ≠ d := fun e => hb (.inl e)
        have hp : plain S[k] = true := by
          cases hp : plain S[k]
          · exact absurd (.inr hp) hb
          · rfl
        by_cases h92 : S[k] = 92
        · rw [if_pos h92] at hs
          rw [ends_back hkl hd1 h92] at h3
          cases he : esc (S.dropLast.drop (k + 1)) with
          | none => exact uq_none hne0 (hs.trans he)
          | some x =>
            obtain ⟨b, r⟩ := x
            rw [uq_some (hs.trans he)]
            suffices hr : uq d r = none by rw [hr]; rfl
            by_cases hk1 : k + 1 < S.dropLast.length
            · have hk1' : k + 2 < S.length := by rw [List.length_dropLast] at hk1; omega
              rw [List.drop_eq_getElem_cons hk1] at he
              simp only [esc] at he
              have ih2 := ih (k + 2) (by omega) (by omega) h3
              split at he
              · cases he; exact ih2
              · split at he
                · cases he; exact ih2
                · split at he
                  · cases he; exact ih2
                  · split at he
                    · split at he
                      · rename_i hh ll r4 hx
                        split at he
                        · rename_i x y hxx hyy
                          cases he
                          have hlen := congrArg List.length hx
                          simp at hlen
                          have g2 : k + 2 < S.dropLast.length := by rw [List.length_dropLast]; omega
                          rw [List.drop_eq_getElem_cons g2] at hx
                          have g3 : k + 3 < S.dropLast.length := by rw [List.length_dropLast]; omega
                          rw [List.drop_eq_getElem_cons g3] at hx
                          obtain ⟨x1, x2⟩ := List.cons.inj hx
                          obtain ⟨x2, x3⟩ := List.cons.inj x2
                          rw [List.getElem_dropLast] at x1 x2
                          have peel : ∀ c x, hexN c = some x → c ≠ d ∧ plain c = true ∧ c ≠ 92 := by
                            intro c x hc
                            rcases hexN_cases c with ⟨q1, q2, q3⟩ | ⟨q1, q2, q3⟩ | ⟨q1, q3⟩ | ⟨q1, q2, q3⟩ | ⟨q1, q3⟩
                            · refine ⟨?_, (plain_iff c).2 (by omega), ?_⟩
                              · rintro rfl; rcases hd with rfl | rfl <;> simp at q1
                              · rintro rfl; simp at q2
                            · refine ⟨?_, (plain_iff c).2 (by omega), ?_⟩
                              · rintro rfl; rcases hd with rfl | rfl <;> simp at q1
                              · rintro rfl; simp at q1
                            all_goals (rw [q3] at hc; cases hc)
                          obtain ⟨p1, p2, p3⟩ := peel _ _ hxx
                          obtain ⟨p4, p5, p6⟩ := peel _ _ hyy
                          rw [ends_one (by omega) (by rw [x1]; exact p1) (by rw [x1]; exact p2) (by rw [x1]; exact p3), ends_one (by omega) (by rw [x2]; exact p4) (by rw [x2]; exact p5) (by rw [x2]; exact p6)] at h3
                          rw [← x3]
                          exact ih (k + 4) (by omega) (by omega) h3
                        · cases he
                      · cases he
                    · cases he
            · rw [List.drop_eq_nil_of_le (by omega)] at he; cases he
        · rw [if_neg h92] at hs
          rw [ends_one hkl hne hp h92] at h3
          rw [uq_some hs, ih (k + 1) (by omega) (by omega) h3]; rfl
end Go.Proofs.YtpncmahpcccmlaaDoor.Lt
