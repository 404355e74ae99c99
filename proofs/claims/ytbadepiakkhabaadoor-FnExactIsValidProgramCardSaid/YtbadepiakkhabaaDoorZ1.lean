/- Joined texts: H1, A1, L1, M1. No conditions besides those that each states. -/
import Derived.Lib.Hide
/- Core trees: their numbers of nodes, depths, sizes, equality. Plain. No conditions. -/
namespace Go.Proofs.YtbadepiakkhabaaDoor.Co
set_option linter.unusedVariables false

/-- A tree: kind, operator, number, line, text, kids. -/
inductive T where
  | node (k p n l : Int) (t : ByteArray) (ks : List T) : T
def T.kind : T → Int | .node k _ _ _ _ _ => k
def T.op : T → Int | .node _ p _ _ _ _ => p
def T.text : T → ByteArray | .node _ _ _ _ t _ => t
def T.num : T → Int | .node _ _ n _ _ _ => n
def T.line : T → Int | .node _ _ _ l _ _ => l
def T.kids : T → List T | .node _ _ _ _ _ ks => ks
mutual
/-- The number of nodes. -/
def T.count : T → Nat
  | .node _ _ _ _ _ ks => 1 + counts ks
def counts : List T → Nat
  | [] => 0
  | x :: r => x.count + counts r
end
mutual
/-- The depth. -/
def T.deep : T → Nat
  | .node _ _ _ _ _ ks => deeps ks + 1
def deeps : List T → Nat
  | [] => 0
  | x :: r => max x.deep (deeps r)
end
mutual
/-- The bytes and kids of a tree: what the laws bound. -/
def T.bulk : T → Nat
  | .node _ _ _ _ t ks => t.size + (ks.length + bulks ks)
def bulks : List T → Nat
  | [] => 0
  | x :: r => x.bulk + bulks r
end
mutual
/-- A tree whose numbers are of 64 bits, whose texts and lists are no longer than any in memory. -/
def T.Ok : T → Prop
  | .node k p n l t ks => (-9223372036854775808 ≤ k ∧ k ≤ 9223372036854775807) ∧ (-9223372036854775808 ≤ p ∧ p ≤ 9223372036854775807) ∧ (-9223372036854775808 ≤ n ∧ n ≤ 9223372036854775807) ∧ (-9223372036854775808 ≤ l ∧ l ≤ 9223372036854775807) ∧ (t.size ≤ 9223372036854775807 ∧ ks.length ≤ 9223372036854775807) ∧ Oks ks
def Oks : List T → Prop
  | [] => True
  | x :: r => x.Ok ∧ Oks r
end
theorem ok_node {x : T} (h : x.Ok) : x.text.size ≤ 9223372036854775807 ∧ x.kids.length ≤ 9223372036854775807 ∧ Oks x.kids := by
  cases x; rw [T.Ok] at h; exact ⟨h.2.2.2.2.1.1, h.2.2.2.2.1.2, h.2.2.2.2.2⟩
theorem count_pos (x : T) : 1 ≤ x.count := by cases x; simp [T.count]
theorem counts_mem : ∀ {l : List T} {x : T}, x ∈ l → x.count ≤ counts l := by
  intro l
  induction l with
  | nil => intro x h; cases h
  | cons y l ih =>
    intro x h
    rw [counts]
    rcases List.mem_cons.1 h with rfl | h
    · omega
    · have := ih h; omega
theorem bulks_mem : ∀ {l : List T} {x : T}, x ∈ l → x.bulk ≤ bulks l := by
  intro l
  induction l with
  | nil => intro x h; cases h
  | cons y l ih =>
    intro x h
    rw [bulks]
    rcases List.mem_cons.1 h with rfl | h
    · omega
    · have := ih h; omega
theorem oks_mem : ∀ {l : List T} {x : T}, Oks l → x ∈ l → x.Ok := by
  intro l
  induction l with
  | nil => intro x _ h; cases h
  | cons y l ih =>
    intro x ho h
    rw [Oks] at ho
    rcases List.mem_cons.1 h with rfl | h
    · exact ho.1
    · exact ih ho.2 h
theorem counts_snoc (l : List T) (x : T) : counts (l ++ [x]) = counts l + x.count := by
  induction l with
  | nil => simp [counts]
  | cons y l ih => rw [List.cons_append, counts, counts, ih]; omega
theorem deeps_snoc (l : List T) (x : T) : deeps (l ++ [x]) = max (deeps l) x.deep := by
  induction l with
  | nil => simp [deeps]
  | cons y l ih => rw [List.cons_append, deeps, deeps, ih]; omega
theorem bulks_snoc (l : List T) (x : T) : bulks (l ++ [x]) = bulks l + x.bulk := by
  induction l with
  | nil => simp [bulks]
  | cons y l ih => rw [List.cons_append, bulks, bulks, ih]; omega
theorem counts_take (l : List T) (k : Nat) (h : k < l.length) : counts (l.take (k + 1)) = counts (l.take k) + l[k].count := by
  rw [List.take_succ_eq_append_getElem h, counts_snoc]
theorem deeps_take (l : List T) (k : Nat) (h : k < l.length) : deeps (l.take (k + 1)) = max (deeps (l.take k)) l[k].deep := by
  rw [List.take_succ_eq_append_getElem h, deeps_snoc]
theorem bulks_take (l : List T) (k : Nat) (h : k < l.length) : bulks (l.take (k + 1)) = bulks (l.take k) + l[k].bulk := by
  rw [List.take_succ_eq_append_getElem h, bulks_snoc]
theorem counts_take_le (l : List T) (k : Nat) : counts (l.take k) ≤ counts l := by
  induction l generalizing k with
  | nil => simp [counts]
  | cons y l ih =>
    cases k with
    | zero => simp [counts]
    | succ k => rw [List.take_succ_cons, counts, counts]; have := ih k; omega
theorem bulks_take_le (l : List T) (k : Nat) : bulks (l.take k) ≤ bulks l := by
  induction l generalizing k with
  | nil => simp [bulks]
  | cons y l ih =>
    cases k with
    | zero => simp [bulks]
    | succ k => rw [List.take_succ_cons, bulks, bulks]; have := ih k; omega
/-- Fewer nodes than bytes and kids. -/
theorem count_bulk : ∀ (n : Nat) (x : T), x.count ≤ n → x.count ≤ x.bulk + 1 := by
  intro n
  induction n with
  | zero => intro x h; have := count_pos x; omega
  | succ n ih =>
    intro x h
    cases x with
    | node k p m l t ks =>
      rw [T.count] at h ⊢
      rw [T.bulk]
      have : ∀ l : List T, counts l ≤ n → counts l ≤ l.length + bulks l := by
        intro l
        induction l with
        | nil => intro _; simp [counts]
        | cons y l ih2 =>
          intro h2
          rw [counts] at h2 ⊢
          rw [bulks, List.length_cons]
          have := ih y (by omega)
          have := ih2 (by omega)
          omega
      have := this ks (by omega)
      omega
theorem deep_pos (x : T) : 1 ≤ x.deep := by cases x; simp [T.deep]
theorem deep_count : ∀ (n : Nat) (x : T), x.count ≤ n → x.deep ≤ x.count := by
  intro n
  induction n with
  | zero => intro x h; have := count_pos x; omega
  | succ n ih =>
    intro x h
    cases x with
    | node k p m l t ks =>
      rw [T.count] at h ⊢
      rw [T.deep]
      have : ∀ l : List T, counts l ≤ n → deeps l ≤ counts l := by
        intro l
        induction l with
        | nil => intro _; simp [counts, deeps]
        | cons y l ih2 =>
          intro h2
          rw [counts] at h2 ⊢
          rw [deeps]
          have := ih y (by omega)
          have := ih2 (by omega)
          omega
      have := this ks (by omega)
      omega
end Go.Proofs.YtbadepiakkhabaaDoor.Co
/- The operators' texts and numbers of kids, the kinds' names. Plain. No conditions. -/
namespace Go.Proofs.YtbadepiakkhabaaDoor
set_option linter.unusedVariables false

/-- The operators' texts by their numbers. -/
def opL : List ByteArray := [⟨#[]⟩, ⟨#[45]⟩, ⟨#[43]⟩, ⟨#[42]⟩, ⟨#[47]⟩, ⟨#[92]⟩, ⟨#[126]⟩, ⟨#[33]⟩, ⟨#[61]⟩, ⟨#[94]⟩, ⟨#[46]⟩, ⟨#[46, 62]⟩, ⟨#[]⟩, ⟨#[]⟩, ⟨#[]⟩, ⟨#[]⟩, ⟨#[]⟩, ⟨#[]⟩, ⟨#[]⟩, ⟨#[]⟩, ⟨#[43]⟩, ⟨#[45]⟩, ⟨#[42]⟩, ⟨#[47]⟩, ⟨#[37]⟩, ⟨#[94]⟩, ⟨#[]⟩, ⟨#[]⟩, ⟨#[]⟩, ⟨#[]⟩, ⟨#[60]⟩, ⟨#[60, 61]⟩, ⟨#[61]⟩, ⟨#[62, 61]⟩, ⟨#[62]⟩, ⟨#[126, 61]⟩, ⟨#[]⟩, ⟨#[]⟩, ⟨#[]⟩, ⟨#[]⟩, ⟨#[60, 60]⟩, ⟨#[60, 60, 61]⟩, ⟨#[61, 61]⟩, ⟨#[62, 62, 61]⟩, ⟨#[62, 62]⟩, ⟨#[126, 61, 61]⟩, ⟨#[61, 61, 61]⟩, ⟨#[126, 61, 61, 61]⟩, ⟨#[]⟩, ⟨#[]⟩, ⟨#[124, 124]⟩, ⟨#[124, 124, 124]⟩, ⟨#[43, 43]⟩, ⟨#[45, 45]⟩, ⟨#[42, 42]⟩, ⟨#[]⟩, ⟨#[]⟩, ⟨#[]⟩, ⟨#[]⟩, ⟨#[]⟩, ⟨#[58, 61]⟩, ⟨#[60, 45]⟩, ⟨#[58, 61, 58]⟩, ⟨#[60, 45, 62]⟩, ⟨#[]⟩, ⟨#[]⟩, ⟨#[]⟩, ⟨#[]⟩, ⟨#[]⟩, ⟨#[]⟩, ⟨#[91, 93]⟩, ⟨#[91, 58, 93]⟩, ⟨#[116, 111]⟩, ⟨#[38]⟩, ⟨#[91, 46, 46, 46, 93]⟩, ⟨#[63, 63]⟩, ⟨#[46, 124]⟩, ⟨#[45, 62]⟩, ⟨#[61, 62]⟩, ⟨#[102, 105, 101, 108, 100]⟩, ⟨#[]⟩, ⟨#[100, 101, 102, 101, 114]⟩]
theorem opL_len : opL.length = 82 := rfl
/-- The model's two lists. -/
def opU : List ByteArray := [⟨#[45]⟩, ⟨#[43]⟩, ⟨#[42]⟩, ⟨#[47]⟩, ⟨#[92]⟩, ⟨#[126]⟩, ⟨#[33]⟩, ⟨#[61]⟩, ⟨#[94]⟩, ⟨#[46]⟩, ⟨#[46, 62]⟩]
def opB : List ByteArray := [⟨#[43]⟩, ⟨#[45]⟩, ⟨#[42]⟩, ⟨#[47]⟩, ⟨#[37]⟩, ⟨#[94]⟩, ⟨#[]⟩, ⟨#[]⟩, ⟨#[]⟩, ⟨#[]⟩, ⟨#[60]⟩, ⟨#[60, 61]⟩, ⟨#[61]⟩, ⟨#[62, 61]⟩, ⟨#[62]⟩, ⟨#[126, 61]⟩, ⟨#[]⟩, ⟨#[]⟩, ⟨#[]⟩, ⟨#[]⟩, ⟨#[60, 60]⟩, ⟨#[60, 60, 61]⟩, ⟨#[61, 61]⟩, ⟨#[62, 62, 61]⟩, ⟨#[62, 62]⟩, ⟨#[126, 61, 61]⟩, ⟨#[61, 61, 61]⟩, ⟨#[126, 61, 61, 61]⟩, ⟨#[]⟩, ⟨#[]⟩, ⟨#[124, 124]⟩, ⟨#[124, 124, 124]⟩, ⟨#[43, 43]⟩, ⟨#[45, 45]⟩, ⟨#[42, 42]⟩, ⟨#[]⟩, ⟨#[]⟩, ⟨#[]⟩, ⟨#[]⟩, ⟨#[]⟩, ⟨#[58, 61]⟩, ⟨#[60, 45]⟩, ⟨#[58, 61, 58]⟩, ⟨#[60, 45, 62]⟩]
/-- The names of the kinds. -/
def coL : List ByteArray := [⟨#[63]⟩, ⟨#[105, 110, 116, 101, 103, 101, 114]⟩, ⟨#[115, 116, 114, 105, 110, 103]⟩, ⟨#[99, 115, 101, 116]⟩, ⟨#[110, 117, 108, 108]⟩, ⟨#[108, 111, 99, 97, 108]⟩, ⟨#[103, 108, 111, 98, 97, 108]⟩, ⟨#[112, 114, 111, 99, 101, 100, 117, 114, 101]⟩, ⟨#[102, 117, 110, 99, 116, 105, 111, 110]⟩, ⟨#[99, 111, 110, 115, 116, 114, 117, 99, 116, 111, 114]⟩, ⟨#[107, 101, 121, 119, 111, 114, 100]⟩, ⟨#[111, 112, 101, 114, 97, 116, 101]⟩, ⟨#[99, 97, 108, 108]⟩, ⟨#[97, 108, 116, 101, 114, 110, 97, 116, 101]⟩, ⟨#[114, 101, 112, 101, 97, 116]⟩, ⟨#[108, 105, 109, 105, 116]⟩, ⟨#[98, 108, 111, 99, 107]⟩, ⟨#[105, 102]⟩, ⟨#[119, 104, 105, 108, 101]⟩, ⟨#[101, 118, 101, 114, 121]⟩, ⟨#[98, 114, 101, 97, 107]⟩, ⟨#[110, 101, 120, 116]⟩, ⟨#[115, 99, 97, 110]⟩, ⟨#[114, 101, 116, 117, 114, 110]⟩, ⟨#[102, 97, 105, 108]⟩, ⟨#[115, 117, 115, 112, 101, 110, 100]⟩, ⟨#[99, 114, 101, 97, 116, 101]⟩, ⟨#[97, 99, 116, 105, 118, 97, 116, 101]⟩, ⟨#[110, 111, 110, 101]⟩]
theorem coL_len : coL.length = 29 := rfl
def atL (l : List ByteArray) (n : Nat) : ByteArray := match l[n]? with | some x => x | none => ⟨#[]⟩
def augO (n : Int) : Bool := (decide (220 ≤ n) && decide (n ≤ 225)) || (decide (250 ≤ n) && decide (n ≤ 254))
def setB : ByteArray := ⟨#[58, 61]⟩
/-- The text of an operator. -/
def opT (n : Int) : ByteArray := if augO n = true then atL opL (n - 200).toNat ++ setB else if 0 ≤ n then atL opL n.toNat else ⟨#[]⟩
/-- The text of an operator is empty. -/
def opNo (n : Int) : Bool := (opT n).data.toList.isEmpty
/-- The fewest and the most kids of an operator. -/
def arLo (n : Int) : Int := if opNo n = true then 0 else if n ≤ 11 ∨ n = 81 then 1 else if n = 71 ∨ n = 72 then 3 else if n = 73 then 2 else if n = 74 then 0 else 2
def arHi (n : Int) : Int := if opNo n = true then -1 else if n ≤ 11 ∨ n = 81 then 1 else if n = 71 ∨ n = 72 then 3 else if n = 73 then 8 else if n = 74 then 8 else 2
/-- The name of a kind. -/
def coN (k : Int) : ByteArray := if 0 ≤ k then (if k < 29 then atL coL k.toNat else ⟨#[63]⟩) else ⟨#[63]⟩
theorem atL_at {l : List ByteArray} {k : Nat} {x : ByteArray} (h : l[k]? = some x) : atL l k = x := by unfold atL; rw [h]
theorem opT_aug {k : Nat} {x : ByteArray} (h : augO ((k : Int) + 200) = true) (hx : opL[k]? = some x) : opT ((k : Int) + 200) = x ++ setB := by
  unfold opT
  rw [if_pos h, show ((k : Int) + 200 - 200).toNat = k by omega, atL_at hx]
theorem opT_at {k : Nat} {x : ByteArray} (h : augO (k : Int) = false) (hx : opL[k]? = some x) : opT (k : Int) = x := by
  unfold opT
  rw [if_neg (by rw [h]; decide), if_pos (by omega), Int.toNat_natCast, atL_at hx]
theorem opT_neg {n : Int} (h : n < 0) : opT n = ⟨#[]⟩ := by
  unfold opT augO
  rw [if_neg (by simp; omega), if_neg (by omega)]
theorem opT_far {n : Int} (h : 82 ≤ n) (h2 : augO n = false) : opT n = ⟨#[]⟩ := by
  unfold opT
  rw [if_neg (by rw [h2]; decide), if_pos (by omega)]
  unfold atL
  rw [List.getElem?_eq_none (by rw [opL_len]; omega)]
theorem aug_yes {n : Int} (h : (220 ≤ n ∧ n ≤ 225) ∨ (250 ≤ n ∧ n ≤ 254)) : augO n = true := by unfold augO; simp; omega
theorem aug_no {n : Int} (h : ¬ ((220 ≤ n ∧ n ≤ 225) ∨ (250 ≤ n ∧ n ≤ 254))) : augO n = false := by unfold augO; simp; omega
theorem coN_at {k : Nat} {x : ByteArray} (hk : k < 29) (hx : coL[k]? = some x) : coN (k : Int) = x := by
  unfold coN
  rw [if_pos (by omega), if_pos (by omega), Int.toNat_natCast, atL_at hx]
theorem coN_neg {n : Int} (h : n < 0) : coN n = ⟨#[63]⟩ := by unfold coN; rw [if_neg (by omega)]
theorem coN_far {n : Int} (h : 29 ≤ n) : coN n = ⟨#[63]⟩ := by unfold coN; rw [if_pos (by omega), if_neg (by omega)]
end Go.Proofs.YtbadepiakkhabaaDoor
/- Plain facts on literals: what stands for a byte between two delimiters, what a literal denotes, and where it ends. No conditions. -/
namespace Go.Proofs.YtbadepiakkhabaaDoor.Lt
set_option linter.unusedVariables false

/-- May a byte stand for itself? -/
def plain (b : UInt8) : Bool := decide (32 ≤ b.toNat) && decide (b.toNat ≤ 126)
/-- A hexadecimal digit. -/
def hexC (n : Nat) : UInt8 := UInt8.ofNat (if n < 10 then 48 + n else 87 + n)
/-- What stands for a byte. -/
def el (d b : UInt8) : List UInt8 :=
  if b = d ∨ b = 92 then [92, b] else if plain b = true then [b] else if b = 10 then [92, 110] else if b = 9 then [92, 116] else [92, 120, hexC (b.toNat / 16), hexC (b.toNat % 16)]
/-- A literal. -/
def quo (d : UInt8) (l : List UInt8) : List UInt8 := d :: (l.flatMap (el d) ++ [d])

theorem plain_iff (b : UInt8) : plain b = true ↔ 32 ≤ b.toNat ∧ b.toNat ≤ 126 := by unfold plain; simp
theorem plain_no (b : UInt8) : plain b = false ↔ b.toNat < 32 ∨ 126 < b.toNat := by
  rw [← Bool.not_eq_true, plain_iff]; omega
theorem ne_nat {a b : UInt8} (h : a ≠ b) : ¬ a.toNat = b.toNat := fun e => h (UInt8.toNat_inj.1 e)

/-- What stands for a byte, by cases. -/
theorem el_cases (d b : UInt8) : (b = d ∧ el d b = [92, b]) ∨ (b ≠ d ∧ b = 92 ∧ el d b = [92, b]) ∨ (b ≠ d ∧ b ≠ 92 ∧ 32 ≤ b.toNat ∧ b.toNat ≤ 126 ∧ el d b = [b])
    ∨ (b ≠ d ∧ b = 10 ∧ el d b = [92, 110]) ∨ (b ≠ d ∧ b = 9 ∧ el d b = [92, 116])
    ∨ (b ≠ d ∧ b ≠ 92 ∧ b ≠ 10 ∧ b ≠ 9 ∧ b.toNat < 32 ∧ el d b = [92, 120, hexC (b.toNat / 16), hexC (b.toNat % 16)])
    ∨ (b ≠ d ∧ b ≠ 92 ∧ b ≠ 10 ∧ b ≠ 9 ∧ 126 < b.toNat ∧ el d b = [92, 120, hexC (b.toNat / 16), hexC (b.toNat % 16)]) := by
  by_cases h1 : b = d
  · left; exact ⟨h1, by unfold el; rw [if_pos (.inl h1)]⟩
  · by_cases h2 : b = 92
    · right; left; exact ⟨h1, h2, by unfold el; rw [if_pos (.inr h2)]⟩
    · have h3 : ¬ (b = d ∨ b = 92) := fun h => h.elim h1 h2
      cases h4 : plain b
      · by_cases h5 : b = 10
        · right; right; right; left; exact ⟨h1, h5, by unfold el; rw [if_neg h3, h4, if_neg (by simp), if_pos h5]⟩
        · by_cases h6 : b = 9
          · right; right; right; right; left; exact ⟨h1, h6, by unfold el; rw [if_neg h3, h4, if_neg (by simp), if_neg h5, if_pos h6]⟩
          · have e : el d b = [92, 120, hexC (b.toNat / 16), hexC (b.toNat % 16)] := by unfold el; rw [if_neg h3, h4, if_neg (by simp), if_neg h5, if_neg h6]
            rcases (plain_no b).1 h4 with h7 | h7
            · right; right; right; right; right; left; exact ⟨h1, h2, h5, h6, h7, e⟩
            · right; right; right; right; right; right; exact ⟨h1, h2, h5, h6, h7, e⟩
      · right; right; left; exact ⟨h1, h2, ((plain_iff b).1 h4).1, ((plain_iff b).1 h4).2, by unfold el; rw [if_neg h3, if_pos h4]⟩
theorem el_len (d b : UInt8) : (el d b).length ≤ 4 := by
  rcases el_cases d b with ⟨_, e⟩ | ⟨_, _, e⟩ | ⟨_, _, _, _, e⟩ | ⟨_, _, e⟩ | ⟨_, _, e⟩ | ⟨_, _, _, _, _, e⟩ | ⟨_, _, _, _, _, e⟩ <;> rw [e] <;> simp
theorem els_len (d : UInt8) (l : List UInt8) : (l.flatMap (el d)).length ≤ 4 * l.length := by
  induction l with
  | nil => simp
  | cons b l ih => rw [List.flatMap_cons, List.length_append, List.length_cons]; have := el_len d b; omega
theorem els_snoc (d : UInt8) (l : List UInt8) (k : Nat) (h : k < l.length) : (l.take (k + 1)).flatMap (el d) = (l.take k).flatMap (el d) ++ el d l[k] := by
  rw [List.take_succ_eq_append_getElem h, List.flatMap_append]; simp

/-- The value of a hexadecimal digit. -/
def hexN (b : UInt8) : Option Nat := if 48 ≤ b.toNat ∧ b.toNat ≤ 57 then some (b.toNat - 48) else if 97 ≤ b.toNat ∧ b.toNat ≤ 102 then some (b.toNat - 87) else none
theorem hexN_cases (b : UInt8) : (48 ≤ b.toNat ∧ b.toNat ≤ 57 ∧ hexN b = some (b.toNat - 48)) ∨ (97 ≤ b.toNat ∧ b.toNat ≤ 102 ∧ hexN b = some (b.toNat - 87)) ∨ (b.toNat < 48 ∧ hexN b = none) ∨ (57 < b.toNat ∧ b.toNat < 97 ∧ hexN b = none) ∨ (102 < b.toNat ∧ hexN b = none) := by
  unfold hexN
  by_cases h1 : 48 ≤ b.toNat ∧ b.toNat ≤ 57
  · left; exact ⟨h1.1, h1.2, by rw [if_pos h1]⟩
  · rw [if_neg h1]
    by_cases h2 : 97 ≤ b.toNat ∧ b.toNat ≤ 102
    · right; left; exact ⟨h2.1, h2.2, by rw [if_pos h2]⟩
    · rw [if_neg h2]
      rcases (show b.toNat < 48 ∨ (57 < b.toNat ∧ b.toNat < 97) ∨ 102 < b.toNat by omega) with h | h | h
      · right; right; left; exact ⟨h, rfl⟩
      · right; right; right; left; exact ⟨h.1, h.2, rfl⟩
      · right; right; right; right; exact ⟨h, rfl⟩
theorem hexN_lt {b : UInt8} {x : Nat} (h : hexN b = some x) : x < 16 := by
  rcases hexN_cases b with ⟨h1, h2, e⟩ | ⟨h1, h2, e⟩ | ⟨h1, e⟩ | ⟨h1, h2, e⟩ | ⟨h1, e⟩ <;> rw [e] at h <;> simp at h <;> omega
theorem hexC_nat (n : Nat) (h : n < 16) : (hexC n).toNat = if n < 10 then 48 + n else 87 + n := by
  unfold hexC
  rw [UInt8.toNat_ofNat']; split <;> omega
theorem hexN_hexC (n : Nat) (h : n < 16) : hexN (hexC n) = some n := by
  unfold hexN
  rw [hexC_nat n h]
  by_cases h1 : n < 10
  · rw [if_pos h1, if_pos (by omega)]; congr 1; omega
  · rw [if_neg h1, if_neg (by omega), if_pos (by omega)]; congr 1; omega

/-- An escape: the byte that it denotes, and what follows it; given what follows its backslash. -/
def esc : List UInt8 → Option (UInt8 × List UInt8)
  | [] => none
  | c :: r =>
    if c = 110 then some (10, r) else if c = 116 then some (9, r) else if c = 92 ∨ c = 34 ∨ c = 39 then some (c, r)
    else if c = 120 then match r with
      | h :: l :: r4 => match hexN h, hexN l with
        | some x, some y => some (UInt8.ofNat (16 * x + y), r4)
        | _, _ => none
      | _ => none
    else none
/-- The first element of what stands between two delimiters: the byte that it denotes, and what follows it. -/
def step (d : UInt8) : List UInt8 → Option (UInt8 × List UInt8)
  | [] => none
  | b :: r => if b = d ∨ plain b = false then none else if b = 92 then esc r else some (b, r)
theorem esc_len {l r : List UInt8} {b : UInt8} (h : esc l = some (b, r)) : r.length < l.length := by
  match l with
  | [] => cases h
  | c :: l =>
    simp only [esc] at h
    split at h
    · cases h; simp
    · split at h
      · cases h; simp
      · split at h
        · cases h; simp
        · split at h
          · split at h
            · split at h
              · cases h; simp; omega
              · cases h
            · cases h
          · cases h
theorem step_len {d : UInt8} {l r : List UInt8} {b : UInt8} (h : step d l = some (b, r)) : r.length < l.length := by
  match l with
  | [] => cases h
  | c :: l =>
    simp only [step] at h
    split at h
    · cases h
    · split at h
      · have := esc_len h; simp; omega
      · cases h; simp
/-- What stands between two delimiters denotes these bytes. -/
def uq (d : UInt8) (l : List UInt8) : Option (List UInt8) :=
  if l = [] then some [] else
  match h : step d l with
  | none => none
  | some (b, r) => (uq d r).map (b :: ·)
termination_by l.length
decreasing_by exact step_len h
theorem uq_nil (d : UInt8) : uq d [] = some [] := by rw [uq, if_pos rfl]
theorem uq_none {d : UInt8} {l : List UInt8} (h0 : l ≠ []) (h : step d l = none) : uq d l = none := by
  rw [uq, if_neg h0]; split <;> simp_all
theorem uq_some {d : UInt8} {l r : List UInt8} {b : UInt8} (h : step d l = some (b, r)) : uq d l = (uq d r).map (b :: ·) := by
  have h0 : l ≠ [] := by rintro rfl; cases h
  rw [uq, if_neg h0]
  split
  · simp_all
  · rename_i b' r' h2
    rw [h] at h2
    cases h2; rfl
/-- Some elements are read: these bytes so far, and the rest. -/
def Rd (d : UInt8) (L A R : List UInt8) : Prop := uq d L = (uq d R).map (A ++ ·)
theorem rd_start (d : UInt8) (L : List UInt8) : Rd d L [] L := by unfold Rd; cases uq d L <;> rfl
theorem rd_next {d : UInt8} {L A R r : List UInt8} {b : UInt8} (h : Rd d L A R) (hs : step d R = some (b, r)) : Rd d L (A ++ [b]) r := by
  unfold Rd at h ⊢
  rw [h, uq_some hs]
  cases uq d r <;> simp
theorem rd_bad {d : UInt8} {L A R : List UInt8} (h : Rd d L A R) (h0 : R ≠ []) (hs : step d R = none) : uq d L = none := by
  unfold Rd at h
  rw [h, uq_none h0 hs]; rfl
theorem rd_end {d : UInt8} {L A : List UInt8} (h : Rd d L A []) : uq d L = some A := by
  unfold Rd at h
  rw [h, uq_nil]; simp
/-- There are no more bytes than letters. -/
theorem rd_len {d : UInt8} {l A : List UInt8} : ∀ n, l.length ≤ n → uq d l = some A → A.length ≤ l.length := by
  intro n
  induction n generalizing l A with
  | zero =>
    intro h0 h
    obtain rfl : l = [] := List.eq_nil_of_length_eq_zero (by omega)
    rw [uq_nil] at h; cases h; simp
  | succ n ih =>
    intro h0 h
    by_cases hl : l = []
    · subst hl; rw [uq_nil] at h; cases h; simp
    · cases hs : step d l with
      | none => rw [uq_none hl hs] at h; cases h
      | some x =>
        obtain ⟨b, r⟩ := x
        have h1 := step_len hs
        rw [uq_some hs] at h
        cases hr : uq d r with
        | none => rw [hr] at h; cases h
        | some B =>
          rw [hr] at h; simp at h; subst h
          have := ih (l := r) (by omega) hr
          simp; omega

/-- A quoted text denotes what was quoted. -/
theorem step_el (d b : UInt8) (r : List UInt8) (hd : d = 34 ∨ d = 39) : step d (el d b ++ r) = some (b, r) := by
  have hd1 : (92 : UInt8) ≠ d := by rcases hd with rfl | rfl <;> decide
  have hp : plain 92 = true := by decide
  have h92 : ∀ q, step d (92 :: q) = esc q := by
    intro q
    simp only [step]
    rw [if_neg (by rintro (h | h); exact hd1 h; rw [hp] at h; cases h)]
    exact if_pos trivial
  rcases el_cases d b with ⟨h1, e⟩ | ⟨h1, h2, e⟩ | ⟨h1, h2, h3, h4, e⟩ | ⟨h1, h2, e⟩ | ⟨h1, h2, e⟩ | ⟨h1, h2, h3, h4, h5, e⟩ | ⟨h1, h2, h3, h4, h5, e⟩
  · rw [e]
    show step d (92 :: (b :: r)) = _
    rw [h92]
    subst h1
    rcases hd with rfl | rfl <;> simp [esc]
  · rw [e]
    show step d (92 :: (b :: r)) = _
    rw [h92]
    subst h2
    simp [esc]
  · rw [e]
    show step d (b :: r) = _
    simp only [step]
    rw [if_neg (by rintro (h | h); exact h1 h; rw [(plain_iff b).2 ⟨h3, h4⟩] at h; cases h), if_neg h2]
  · rw [e]
    show step d (92 :: (110 :: r)) = _
    rw [h92]
    subst h2
    simp [esc]
  · rw [e]
    show step d (92 :: (116 :: r)) = _
    rw [h92]
    subst h2
    simp [esc]
  all_goals
    rw [e]
    show step d (92 :: (120 :: hexC (b.toNat / 16) :: hexC (b.toNat % 16) :: r)) = _
    rw [h92]
    simp only [esc]
    have hb := UInt8.toNat_lt b
    simp only [hexN_hexC _ (show b.toNat / 16 < 16 by omega), hexN_hexC _ (show b.toNat % 16 < 16 by omega)]
    rw [show 16 * (b.toNat / 16) + b.toNat % 16 = b.toNat by omega]
    simp
theorem uq_els (d : UInt8) (hd : d = 34 ∨ d = 39) (l : List UInt8) : uq d (l.flatMap (el d)) = some l := by
  induction l with
  | nil => rw [List.flatMap_nil, uq_nil]
  | cons b l ih => rw [List.flatMap_cons, uq_some (step_el d b _ hd), ih]; rfl

/-- What a literal denotes, if it is one. -/
def lit (d : UInt8) (s : List UInt8) : Option (List UInt8) := if s.length < 2 ∨ s.head? ≠ some d ∨ s.getLast? ≠ some d then none else uq d (s.drop 1).dropLast
def litB (d : UInt8) (s : List UInt8) : Bool := (lit d s).isSome
def litL (d : UInt8) (s : List UInt8) : List UInt8 := (lit d s).getD []
theorem lit_none {d : UInt8} {s : List UInt8} (h : lit d s = none) : litB d s = false ∧ litL d s = [] := by unfold litB litL; rw [h]; exact ⟨rfl, rfl⟩
theorem lit_some {d : UInt8} {s A : List UInt8} (h : lit d s = some A) : litB d s = true ∧ litL d s = A := by unfold litB litL; rw [h]; exact ⟨rfl, rfl⟩
theorem lit_quo (d : UInt8) (hd : d = 34 ∨ d = 39) (l : List UInt8) : lit d (quo d l) = some l := by
  have h : (quo d l).getLast? = some d := by
    unfold quo
    rw [← List.cons_append, List.getLast?_concat]
  unfold lit
  rw [if_neg (by rw [h]; unfold quo; simp)]
  unfold quo
  simp
  exact uq_els d hd l

/-- How many bytes lie to the end of a literal, the delimiter that ends it counted. -/
def endL (d : UInt8) : List UInt8 → Option Nat
  | [] => none
  | b :: r => if b = d then some 1 else if plain b = false then none else if b = 92 then (match r with
      | [] => none
      | _ :: r2 => (endL d r2).map (· + 2)) else (endL d r).map (· + 1)
theorem endL_nil (d : UInt8) : endL d [] = none := rfl
theorem endL_hit (d : UInt8) (r : List UInt8) : endL d (d :: r) = some 1 := by rw [endL.eq_def]; exact if_pos rfl
theorem endL_bad {d b : UInt8} (r : List UInt8) (h : b ≠ d) (hp : plain b = false) : endL d (b :: r) = none := by rw [endL.eq_def]; dsimp only; rw [if_neg h, if_pos hp]
theorem endL_one {d b : UInt8} (r : List UInt8) (h : b ≠ d) (hp : plain b = true) (h2 : b ≠ 92) : endL d (b :: r) = (endL d r).map (· + 1) := by rw [endL.eq_def]; dsimp only; rw [if_neg h, if_neg (by simp [hp]), if_neg h2]
theorem endL_back {d : UInt8} (r : List UInt8) (h : (92 : UInt8) ≠ d) : endL d (92 :: r) = match r with
      | [] => none
      | _ :: r2 => (endL d r2).map (· + 2) := by rw [endL.eq_def]; dsimp only; rw [if_neg h, if_neg (by decide)]; exact if_pos rfl
theorem endL_pos {d : UInt8} : ∀ {l : List UInt8} {n : Nat}, endL d l = some n → 1 ≤ n := by
  intro l n h
  match l with
  | [] => cases h
  | b :: r =>
    rw [endL.eq_def] at h
    dsimp only at h
    split at h
    · cases h; omega
    · split at h
      · cases h
      · split at h
        · split at h
          · cases h
          · cases h2 : endL d _ with
            | none => rw [h2] at h; cases h
            | some m => rw [h2] at h; simp at h; omega
        · cases h2 : endL d _ with
          | none => rw [h2] at h; cases h
          | some m => rw [h2] at h; simp at h; omega
/-- Where a literal ends that begins at the start of s; behind the last byte at the most. -/
def ends (d : UInt8) (S : List UInt8) (k : Nat) : Option Nat := (endL d (S.drop k)).map (· + k)
theorem ends_over {d : UInt8} {S : List UInt8} {k : Nat} (h : S.length ≤ k) : ends d S k = none := by
  unfold ends; rw [List.drop_eq_nil_of_le h, endL_nil]; rfl
theorem ends_hit {d : UInt8} {S : List UInt8} {k : Nat} (hk : k < S.length) (h : S[k] = d) : ends d S k = some (k + 1) := by
  unfold ends; rw [List.drop_eq_getElem_cons hk, h, endL_hit]; simp; omega
theorem ends_bad {d : UInt8} {S : List UInt8} {k : Nat} (hk : k < S.length) (h : S[k] ≠ d) (hp : plain S[k] = false) : ends d S k = none := by
  unfold ends; rw [List.drop_eq_getElem_cons hk, endL_bad _ h hp]; rfl
theorem ends_one {d : UInt8} {S : List UInt8} {k : Nat} (hk : k < S.length) (h : S[k] ≠ d) (hp : plain S[k] = true) (h2 : S[k] ≠ 92) : ends d S k = ends d S (k + 1) := by
  unfold ends; rw [List.drop_eq_getElem_cons hk, endL_one _ h hp h2]
  cases endL d (S.drop (k + 1)) <;> simp; omega
theorem ends_back {d : UInt8} {S : List UInt8} {k : Nat} (hk : k < S.length) (hd : (92 : UInt8) ≠ d) (h2 : S[k] = 92) : ends d S k = ends d S (k + 2) := by
  unfold ends
  rw [List.drop_eq_getElem_cons hk, h2, endL_back _ hd]
  by_cases h3 : k + 1 < S.length
  · rw [List.drop_eq_getElem_cons h3]
    show Option.map (· + k) (Option.map (· + 2) (endL d (S.drop (k + 2)))) = _
    cases endL d (S.drop (k + 2)) <;> simp; omega
  · rw [List.drop_eq_nil_of_le (by omega), List.drop_eq_nil_of_le (by omega), endL_nil]; rfl
theorem ends_lt {d : UInt8} {S : List UInt8} {k n : Nat} (h : ends d S k = some n) : k < S.length ∧ k < n := by
  unfold ends at h
  cases h2 : endL d (S.drop k) with
  | none => rw [h2] at h; cases h
  | some m =>
    rw [h2] at h
    have h3 := endL_pos h2
    simp at h
    refine ⟨?_, by omega⟩
    rcases Nat.lt_or_ge k S.length with h4 | h4
    · exact h4
    · rw [List.drop_eq_nil_of_le h4] at h2; cases h2

/-- The state of a reading that goes by places: the literal ends at the text's end. -/
theorem round_cases {d : UInt8} {S : List UInt8} {k : Nat} (hd : d = 34 ∨ d = 39) (hk : k + 1 < S.length) (h : ends d S k = some S.length) :
    (S[k] ≠ 92 ∧ ends d S (k + 1) = some S.length ∧ step d (S.dropLast.drop k) = some (S[k], S.dropLast.drop (k + 1))) ∨
    (S[k] = 92 ∧ k + 2 < S.length ∧ ends d S (k + 2) = some S.length ∧ step d (S.dropLast.drop k) = esc (S.dropLast.drop (k + 1))) := by
  have hd1 : (92 : UInt8) ≠ d := by rcases hd with rfl | rfl <;> decide
  have hT : k < S.dropLast.length := by rw [List.length_dropLast]; omega
  have hTk : S.dropLast[k] = S[k] := List.getElem_dropLast ..
  have hne : S[k] ≠ d := by
    intro e
    rw [ends_hit (by omega) e] at h
    simp at h; omega
  have hp : plain S[k] = true := by
    cases hp : plain S[k]
    · rw [ends_bad (by omega) hne hp] at h; cases h
    · rfl
  have hs : step d (S.dropLast.drop k) = if S[k] = 92 then esc (S.dropLast.drop (k + 1)) else some (S[k], S.dropLast.drop (k + 1)) := by
    rw [List.drop_eq_getElem_cons hT, hTk]
    simp only [step]
    rw [if_neg (by rintro (h | h); exact hne h; rw [hp] at h; cases h)]
  by_cases h92 : S[k] = 92
  · right
    rw [ends_back (by omega) hd1 h92] at h
    exact ⟨h92, (ends_lt h).1, h, by rw [hs, if_pos h92]⟩
  · left
    rw [ends_one (by omega) hne hp h92] at h
    exact ⟨h92, h, by rw [hs, if_neg h92]⟩
/-- If a literal does not end at the text's end it is none. -/
theorem ends_no {d : UInt8} (hd : d = 34 ∨ d = 39) (S : List UInt8) (hl : S.getLast? = some d) : ∀ n k, S.length - k ≤ n → k + 1 ≤ S.length → ends d S k ≠ some S.length → uq d (S.dropLast.drop k) = none := by
  have hd1 : (92 : UInt8) ≠ d := by rcases hd with rfl | rfl <;> decide
  have hlast : ∀ h : S.length - 1 < S.length, S[S.length - 1] = d := by
    intro h
    rw [List.getLast?_eq_getElem?, List.getElem?_eq_getElem h] at hl
    exact Option.some.inj hl
  intro n
  induction n with
  | zero => intro k h1 h2 _; omega
  | succ n ih =>
    intro k h1 h2 h3
    by_cases hk : k + 1 = S.length
    · exfalso
      apply h3
      obtain rfl : k = S.length - 1 := by omega
      rw [ends_hit (by omega) (hlast (by omega))]
      congr 1
    · have hkl : k < S.length := by omega
      have hT : k < S.dropLast.length := by rw [List.length_dropLast]; omega
      have hTk : S.dropLast[k] = S[k] := List.getElem_dropLast ..
      have hne0 : S.dropLast.drop k ≠ [] := by intro e; have := congrArg List.length e; simp at this; omega
      have hs : step d (S.dropLast.drop k) = if S[k] = d ∨ plain S[k] = false then none else if S[k] = 92 then esc (S.dropLast.drop (k + 1)) else some (S[k], S.dropLast.drop (k + 1)) := by
        rw [List.drop_eq_getElem_cons hT, hTk]
        simp only [step]
      by_cases hb : S[k] = d ∨ plain S[k] = false
      · rw [if_pos hb] at hs
        exact uq_none hne0 hs
      · rw [if_neg hb] at hs
        have hne : S[k] ≠ d := fun e => hb (.inl e)
        have hp : plain S[k] = true := by
          cases hp : plain S[k]
          · exact absurd (.inr hp) hb
          · rfl
        by_cases h92 : S[k] = 92
        · rw [if_pos h92] at hs
          rw [ends_back hkl hd1 h92] at h3
          cases he : esc (S.dropLast.drop (k + 1)) with
          | none => exact uq_none hne0 (hs.trans he)
          | some x =>
            obtain ⟨b, r⟩ := x
            rw [uq_some (hs.trans he)]
            suffices hr : uq d r = none by rw [hr]; rfl
            by_cases hk1 : k + 1 < S.dropLast.length
            · have hk1' : k + 2 < S.length := by rw [List.length_dropLast] at hk1; omega
              rw [List.drop_eq_getElem_cons hk1] at he
              simp only [esc] at he
              have ih2 := ih (k + 2) (by omega) (by omega) h3
              split at he
              · cases he; exact ih2
              · split at he
                · cases he; exact ih2
                · split at he
                  · cases he; exact ih2
                  · split at he
                    · split at he
                      · rename_i hh ll r4 hx
                        split at he
                        · rename_i x y hxx hyy
                          cases he
                          have hlen := congrArg List.length hx
                          simp at hlen
                          have g2 : k + 2 < S.dropLast.length := by rw [List.length_dropLast]; omega
                          rw [List.drop_eq_getElem_cons g2] at hx
                          have g3 : k + 3 < S.dropLast.length := by rw [List.length_dropLast]; omega
                          rw [List.drop_eq_getElem_cons g3] at hx
                          obtain ⟨x1, x2⟩ := List.cons.inj hx
                          obtain ⟨x2, x3⟩ := List.cons.inj x2
                          rw [List.getElem_dropLast] at x1 x2
                          have peel : ∀ c x, hexN c = some x → c ≠ d ∧ plain c = true ∧ c ≠ 92 := by
                            intro c x hc
                            rcases hexN_cases c with ⟨q1, q2, q3⟩ | ⟨q1, q2, q3⟩ | ⟨q1, q3⟩ | ⟨q1, q2, q3⟩ | ⟨q1, q3⟩
                            · refine ⟨?_, (plain_iff c).2 (by omega), ?_⟩
                              · rintro rfl; rcases hd with rfl | rfl <;> simp at q1
                              · rintro rfl; simp at q2
                            · refine ⟨?_, (plain_iff c).2 (by omega), ?_⟩
                              · rintro rfl; rcases hd with rfl | rfl <;> simp at q1
                              · rintro rfl; simp at q1
                            all_goals (rw [q3] at hc; cases hc)
                          obtain ⟨p1, p2, p3⟩ := peel _ _ hxx
                          obtain ⟨p4, p5, p6⟩ := peel _ _ hyy
                          rw [ends_one (by omega) (by rw [x1]; exact p1) (by rw [x1]; exact p2) (by rw [x1]; exact p3), ends_one (by omega) (by rw [x2]; exact p4) (by rw [x2]; exact p5) (by rw [x2]; exact p6)] at h3
                          rw [← x3]
                          exact ih (k + 4) (by omega) (by omega) h3
                        · cases he
                      · cases he
                    · cases he
            · rw [List.drop_eq_nil_of_le (by omega)] at he; cases he
        · rw [if_neg h92] at hs
          rw [ends_one hkl hne hp h92] at h3
          rw [uq_some hs, ih (k + 1) (by omega) (by omega) h3]; rfl
end Go.Proofs.YtbadepiakkhabaaDoor.Lt
/- Plain facts on decimal digits, used by the proofs about FormatInt, ParseNumber and ParseInt. No conditions. -/
namespace Go.Proofs.YtbadepiakkhabaaDoor.Dec

/-- The last digit's letter. -/
def dg (n : Nat) : UInt8 := UInt8.ofNat (48 + n % 10)

/-- The digits of a number, none for zero. -/
def digs (n : Nat) : List UInt8 := if n = 0 then [] else digs (n / 10) ++ [dg n]
decreasing_by omega

theorem digs_zero : digs 0 = [] := by unfold digs; rfl
theorem digs_pos {n : Nat} (h : 0 < n) : digs n = digs (n / 10) ++ [dg n] := by
  rw [digs.eq_1 n, if_neg (by omega)]

/-- The decimal form. -/
def fmt (n : Int) : List UInt8 := if n = 0 then [48] else if n < 0 then 45 :: digs n.natAbs else digs n.natAbs

theorem digs_len (n : Nat) : (digs n).length ≤ n := by
  induction n using Nat.strongRecOn with
  | _ n ih =>
    by_cases h : n = 0
    · subst h; rw [digs_zero]; simp
    · rw [digs_pos (by omega)]
      have := ih (n / 10) (by omega)
      simp; omega

theorem digs_lt (k : Nat) : ∀ n, n < 10 ^ k → (digs n).length ≤ k := by
  induction k with
  | zero => intro n h; have : n = 0 := by simpa using h
            subst this; rw [digs_zero]; simp
  | succ k ih =>
    intro n h
    by_cases h0 : n = 0
    · subst h0; rw [digs_zero]; simp
    · rw [digs_pos (by omega)]
      have := ih (n / 10) (by rw [Nat.pow_succ] at h; omega)
      simp; omega

theorem dg_toNat (n : Nat) : (dg n).toNat = 48 + n % 10 := by
  unfold dg; rw [UInt8.toNat_ofNat']; omega

theorem dg_byte (x : Int) (h0 : 0 ≤ x) : UInt8.ofNat (48 + x % 10).toNat = dg x.toNat := by
  unfold dg; congr 1; omega

/-- The digits of a number, one at least. -/
def fmtN (n : Nat) : List UInt8 := if n = 0 then [48] else digs n

theorem fmt_nn (n : Int) (h : 0 ≤ n) : fmt n = fmtN n.toNat := by
  unfold fmt fmtN
  by_cases h0 : n = 0
  · subst h0; rfl
  · rw [if_neg h0, if_neg (by omega), if_neg (by omega), show n.natAbs = n.toNat by omega]
theorem fmt_neg (n : Int) (h : n < 0) : fmt n = 45 :: fmtN (-n).toNat := by
  unfold fmt fmtN
  rw [if_neg (by omega), if_pos h, if_neg (by omega), show n.natAbs = (-n).toNat by omega]

/-- What is known at a round's head: n is the number, m what is left, l the digits that are written. -/
def Left (n m : Nat) (l : List UInt8) : Prop := (l = [] ∧ m = n) ∨ (0 < m ∧ digs n = digs m ++ l ∧ m * 10 ^ l.length ≤ n)

theorem left_start (n : Nat) : Left n n [] := .inl ⟨rfl, rfl⟩
theorem left_end {n m : Nat} {l : List UInt8} (h : Left n m l) (hm : m / 10 = 0) : fmtN n = dg m :: l := by
  rcases h with ⟨rfl, rfl⟩ | ⟨h0, h1, _⟩
  · unfold fmtN
    by_cases h0 : m = 0
    · subst h0; rfl
    · rw [if_neg h0, digs_pos (by omega), hm, digs_zero]; rfl
  · unfold fmtN
    rw [digs_pos h0, hm, digs_zero] at h1
    rw [if_neg (by intro e; subst e; rw [digs_zero] at h1; simp at h1), h1]; rfl
theorem left_next {n m : Nat} {l : List UInt8} (h : Left n m l) (hm : 0 < m / 10) : Left n (m / 10) (dg m :: l) := by
  refine .inr ⟨hm, ?_⟩
  rcases h with ⟨rfl, rfl⟩ | ⟨h0, h1, h2⟩
  · exact ⟨digs_pos (by omega), by simp; omega⟩
  · refine ⟨by rw [h1, digs_pos h0]; simp, Nat.le_trans ?_ h2⟩
    rw [List.length_cons, Nat.pow_succ, Nat.mul_comm (10 ^ l.length) 10, ← Nat.mul_assoc]
    exact Nat.mul_le_mul_right _ (by omega)
theorem left_short {n m : Nat} {l : List UInt8} (hn : n ≤ 9223372036854775808) (h : Left n m l) : l.length < 19 := by
  rcases h with ⟨rfl, rfl⟩ | ⟨h0, _, h2⟩
  · simp
  · rcases Nat.lt_or_ge l.length 19 with h | h
    · exact h
    · have h3 : 10 ^ 19 ≤ 10 ^ l.length := Nat.pow_le_pow_right (by omega) h
      have h4 : 1 * 10 ^ l.length ≤ m * 10 ^ l.length := Nat.mul_le_mul_right _ h0
      have h5 : (10 : Nat) ^ 19 = 10000000000000000000 := by rfl
      omega

end Go.Proofs.YtbadepiakkhabaaDoor.Dec
