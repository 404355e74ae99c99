/- Core trees: their numbers of nodes, depths, sizes, equality. Plain. No conditions. -/
import Derived.Lib.Hide
namespace Go.Proofs.YtpncmahpcccmlaaDoor.Co
set_option linter.unusedVariables false

/-- A tree: kind, operator, number, line, text, kids. -/
inductive T where
  | node (k p n l : Int) (t : ByteArray) (ks : List T) : T
def T.kind : T → Int | .node k _ _ _ _ _ => k
def T.op : T → Int | .node _ p _ _ _ _ => p
def T.text : T → ByteArray | .node _ _ _ _ t _ => t
def T.num : T → Int | .node _ _ n _ _ _ => n
def T.line : T → Int | .node _ _ _ l _ _ => l
def T.kids : T → List T | .node _ _ _ _ _ ks => ks
mutual
/-- The number of nodes. -/
def T.count : T → Nat
  | .node _ _ _ _ _ ks => 1 + counts ks
def counts : List T → Nat
  | [] => 0
  | x :: r => x.count + counts r
end
mutual
/-- The depth. -/
def T.deep : T → Nat
  | .node _ _ _ _ _ ks => deeps ks + 1
def deeps : List T → Nat
  | [] => 0
  | x :: r => max x.deep (deeps r)
end
mutual
/-- The bytes and kids of a tree: what the laws bound. -/
def T.bulk : T → Nat
  | .node _ _ _ _ t ks => t.size + (ks.length + bulks ks)
def bulks : List T → Nat
  | [] => 0
  | x :: r => x.bulk + bulks r
end
mutual
/-- A tree whose numbers are of 64 bits, whose texts and lists are no longer than any in memory. -/
def T.Ok : T → Prop
  | .node k p n l t ks => (-9223372036854775808 ≤ k ∧ k ≤ 9223372036854775807) ∧ (-9223372036854775808 ≤ p ∧ p ≤ 9223372036854775807) ∧ (-9223372036854775808 ≤ n ∧ n ≤ 9223372036854775807) ∧ (-9223372036854775808 ≤ l ∧ l ≤ 9223372036854775807) ∧ (t.size ≤ 9223372036854775807 ∧ ks.length ≤ 9223372036854775807) ∧ Oks ks
def Oks : List T → Prop
  | [] => True
  | x :: r => x.Ok ∧ Oks r
end
theorem ok_node {x : T} (h : x.Ok) : x.text.size ≤ 9223372036854775807 ∧ x.kids.length ≤ 9223372036854775807 ∧ Oks x.kids := by
  cases x; rw [T.Ok] at h; exact ⟨h.2.2.2.2.1.1, h.2.2.2.2.1.2, h.2.2.2.2.2⟩
theorem count_pos (x : T) : 1 ≤ x.count := by cases x; simp [T.count]
theorem counts_mem : ∀ {l : List T} {x : T}, x ∈ l → x.count ≤ counts l := by
  intro l
  induction l with
  | nil => intro x h; cases h
  | cons y l ih =>
    intro x h
    rw [counts]
    rcases List.mem_cons.1 h with rfl | h
    · omega
    · have := ih h; omega
theorem bulks_mem : ∀ {l : List T} {x : T}, x ∈ l → x.bulk ≤ bulks l := by
  intro l
  induction l with
  | nil => intro x h; cases h
  | cons y l ih =>
    intro x h
    rw [bulks]
    rcases List.mem_cons.1 h with rfl | h
    · omega
    · have := ih h; omega
theorem oks_mem : ∀ {l : List T} {x : T}, Oks l → x ∈ l → x.Ok := by
  intro l
  induction l with
  | nil => intro x _ h; cases h
  | cons y l ih =>
    intro x ho h
    rw [Oks] at ho
    rcases List.mem_cons.1 h with rfl | h
    · exact ho.1
    · exact ih ho.2 h
theorem counts_snoc (l : List T) (x : T) : counts (l ++ [x]) = counts l + x.count := by
  induction l with
  | nil => simp [counts]
  | cons y l ih => rw [List.cons_append, counts, counts, ih]; omega
theorem deeps_snoc (l : List T) (x : T) : deeps (l ++ [x]) = max (deeps l) x.deep := by
  induction l with
  | nil => simp [deeps]
  | cons y l ih => rw [List.cons_append, deeps, deeps, ih]; omega
theorem bulks_snoc (l : List T) (x : T) : bulks (l ++ [x]) = bulks l + x.bulk := by
  induction l with
  | nil => simp [bulks]
  | cons y l ih => rw [List.cons_append, bulks, bulks, ih]; omega
theorem counts_take (l : List T) (k : Nat) (h : k < l.length) : counts (l.take (k + 1)) = counts (l.take k) + l[k].count := by
  rw [List.take_succ_eq_append_getElem h, counts_snoc]
theorem deeps_take (l : List T) (k : Nat) (h : k < l.length) : deeps (l.take (k + 1)) = max (deeps (l.take k)) l[k].deep := by
  rw [List.take_succ_eq_append_getElem h, deeps_snoc]
theorem bulks_take (l : List T) (k : Nat) (h : k < l.length) : bulks (l.take (k + 1)) = bulks (l.take k) + l[k].bulk := by
  rw [List.take_succ_eq_append_getElem h, bulks_snoc]
theorem counts_take_le (l : List T) (k : Nat) : counts (l.take k) ≤ counts l := by
  induction l generalizing k with
  | nil => simp [counts]
  | cons y l ih =>
    cases k with
    | zero => simp [counts]
    | succ k => rw [List.take_succ_cons, counts, counts]; have := ih k; omega
theorem bulks_take_le (l : List T) (k : Nat) : bulks (l.take k) ≤ bulks l := by
  induction l generalizing k with
  | nil => simp [bulks]
  | cons y l ih =>
    cases k with
    | zero => simp [bulks]
    | succ k => rw [List.take_succ_cons, bulks, bulks]; have := ih k; omega
/-- Fewer nodes than bytes and kids. -/
theorem count_bulk : ∀ (n : Nat) (x : T), x.count ≤ n → x.count ≤ x.bulk + 1 := by
  intro n
  induction n with
  | zero => intro x h; have := count_pos x; omega
  | succ n ih =>
    intro x h
    cases x with
    | node k p m l t ks =>
      rw [T.count] at h ⊢
      rw [T.bulk]
      have : ∀ l : List T, counts l ≤ n → counts l ≤ l.length + bulks l := by
        intro l
        induction l with
        | nil => intro _; simp [counts]
        | cons y l ih2 =>
          intro h2
          rw [counts] at h2 ⊢
          rw [bulks, List.length_cons]
          have := ih y (by omega)
          have := ih2 (by omega)
          omega
      have := this ks (by omega)
      omega
theorem deep_pos (x : T) : 1 ≤ x.deep := by cases x; simp [T.deep]
theorem deep_count : ∀ (n : Nat) (x : T), x.count ≤ n → x.deep ≤ x.count := by
  intro n
  induction n with
  | zero => intro x h; have := count_pos x; omega
  | succ n ih =>
    intro x h
    cases x with
    | node k p m l t ks =>
      rw [T.count] at h ⊢
      rw [T.deep]
      have : ∀ l : List T, counts l ≤ n → deeps l ≤ counts l := by
        intro l
        induction l with
        | nil => intro _; simp [counts, deeps]
        | cons y l ih2 =>
          intro h2
          rw [counts] at h2 ⊢
          rw [deeps]
          have := ih y (by omega)
          have := ih2 (by omega)
          omega
      have := this ks (by omega)
      omega
end Go.Proofs.YtpncmahpcccmlaaDoor.Co
