/- Plain facts on splitting a string at a byte. No conditions. -/
import Derived.Lib.Hide
namespace Go.Proofs.YtlbidfegcfcaiaaDoor.Cut

/-- What is split off among the first k letters, and where the next part begins. -/
def to (s : ByteArray) (b : Int) : Nat → List ByteArray × Nat
  | 0 => ([], 0)
  | k + 1 => if h : k < s.size then (if (s[k].toNat : Int) = b then ((to s b k).1 ++ [s.extract (to s b k).2 k], k + 1) else to s b k) else to s b k

/-- All parts. -/
def all (s : ByteArray) (b : Int) : List ByteArray := (to s b s.size).1 ++ [s.extract (to s b s.size).2 s.size]

theorem to_hit {s : ByteArray} {b : Int} {k : Nat} (h : k < s.size) (e : (s[k].toNat : Int) = b) : to s b (k + 1) = ((to s b k).1 ++ [s.extract (to s b k).2 k], k + 1) := by
  show (if h : k < s.size then _ else _) = _
  rw [dif_pos h, if_pos e]
theorem to_miss {s : ByteArray} {b : Int} {k : Nat} (h : k < s.size) (e : ¬ (s[k].toNat : Int) = b) : to s b (k + 1) = to s b k := by
  show (if h : k < s.size then _ else _) = _
  rw [dif_pos h, if_neg e]

theorem to_le (s : ByteArray) (b : Int) (k : Nat) : (to s b k).1.length ≤ k ∧ (to s b k).2 ≤ k := by
  induction k with
  | zero => exact ⟨Nat.le_refl _, Nat.le_refl _⟩
  | succ k ih =>
    by_cases h : k < s.size
    · by_cases e : (s[k].toNat : Int) = b
      · rw [to_hit h e]; simp; exact ih.1
      · rw [to_miss h e]; omega
    · have e : to s b (k + 1) = to s b k := by
        show (if h : k < s.size then _ else _) = _
        rw [dif_neg h]
      rw [e]; omega

theorem all_len (s : ByteArray) (b : Int) : (all s b).length ≤ s.size + 1 := by
  unfold all; have := (to_le s b s.size).1; simp; omega

theorem ext_le (s : ByteArray) (a c : Nat) : (s.extract a c).size ≤ s.size := by rw [ByteArray.size_extract]; omega
theorem to_mem (s : ByteArray) (b : Int) (k : Nat) : ∀ x ∈ (to s b k).1, x.size ≤ s.size := by
  induction k with
  | zero => intro x hx; exact absurd hx (by simp [to])
  | succ k ih =>
    by_cases h : k < s.size
    · by_cases e : (s[k].toNat : Int) = b
      · rw [to_hit h e]
        intro x hx
        rcases List.mem_append.1 hx with h1 | h1
        · exact ih x h1
        · rw [List.mem_singleton] at h1; subst h1; exact ext_le _ _ _
      · rw [to_miss h e]; exact ih
    · have e : to s b (k + 1) = to s b k := by
        show (if h : k < s.size then _ else _) = _
        rw [dif_neg h]
      rw [e]; exact ih
theorem all_mem (s : ByteArray) (b : Int) : ∀ x ∈ all s b, x.size ≤ s.size := by
  intro x hx
  rcases List.mem_append.1 hx with h1 | h1
  · exact to_mem s b _ x h1
  · rw [List.mem_singleton] at h1; subst h1; exact ext_le _ _ _

/-- What a loop over 0 .. size has gathered at its k-th round's head. -/
def At (s : ByteArray) (b : Int) (k : Nat) (l : List ByteArray) (f : Nat) : Prop :=
  (k ≤ s.size ∧ l = (to s b k).1 ∧ f = (to s b k).2) ∨ (k = s.size + 1 ∧ l = all s b)

theorem at_start (s : ByteArray) (b : Int) : At s b 0 [] 0 := .inl ⟨Nat.zero_le _, rfl, rfl⟩
theorem at_hit {s : ByteArray} {b : Int} {k : Nat} {l : List ByteArray} {f : Nat} (h : At s b k l f) (hk : k < s.size) (e : (s[k].toNat : Int) = b) : At s b (k + 1) (l ++ [s.extract f k]) (k + 1) := by
  rcases h with ⟨_, rfl, rfl⟩ | ⟨h1, _⟩
  · exact .inl ⟨hk, by rw [to_hit hk e], by rw [to_hit hk e]⟩
  · omega
theorem at_miss {s : ByteArray} {b : Int} {k : Nat} {l : List ByteArray} {f : Nat} (h : At s b k l f) (hk : k < s.size) (e : ¬ (s[k].toNat : Int) = b) : At s b (k + 1) l f := by
  rcases h with ⟨_, rfl, rfl⟩ | ⟨h1, _⟩
  · exact .inl ⟨hk, by rw [to_miss hk e], by rw [to_miss hk e]⟩
  · omega
theorem at_last {s : ByteArray} {b : Int} {l : List ByteArray} {f g : Nat} (h : At s b s.size l f) : At s b (s.size + 1) (l ++ [s.extract f s.size]) g := by
  rcases h with ⟨_, rfl, rfl⟩ | ⟨h1, _⟩
  · exact .inr ⟨rfl, rfl⟩
  · omega
theorem at_end {s : ByteArray} {b : Int} {k : Nat} {l : List ByteArray} {f : Nat} (h : At s b k l f) (hk : s.size < k) : l = all s b := by
  rcases h with ⟨h1, _⟩ | ⟨_, h2⟩
  · omega
  · exact h2
theorem at_bound {s : ByteArray} {b : Int} {k : Nat} {l : List ByteArray} {f : Nat} (h : At s b k l f) (hk : k ≤ s.size) : l.length ≤ s.size ∧ f ≤ k := by
  rcases h with ⟨_, rfl, rfl⟩ | ⟨h1, _⟩
  · have := to_le s b k; omega
  · omega
end Go.Proofs.YtlbidfegcfcaiaaDoor.Cut
