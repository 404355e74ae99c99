/- NormalizePosition and SectionOf of the program and of the reference model, and the walks of their two laws. No conditions. -/
import Derived.Test.YtjgnigalodebkaaDoorC2
import Derived.Test.YtjgnigalodebkaaDoorShelf
namespace Go.Proofs.YtjgnigalodebkaaDoor
open Go.RowKit
set_option linter.unusedVariables false

/-- The position that p denotes in a string of length n, and whether it denotes one. -/
def posV (p n : Int) : Int := if n < 0 ∨ 120 < n then 0 else if 1 ≤ p ∧ p ≤ n + 1 then p else if -n ≤ p ∧ p ≤ 0 then n + 1 + p else 0
def posB (p n : Int) : Bool := if n < 0 ∨ 120 < n then false else if 1 ≤ p ∧ p ≤ n + 1 then true else if -n ≤ p ∧ p ≤ 0 then true else false

theorem pos_cases (p n : Int) : (n < 0 ∧ posV p n = 0 ∧ posB p n = false) ∨ (120 < n ∧ posV p n = 0 ∧ posB p n = false)
    ∨ (0 ≤ n ∧ n ≤ 120 ∧ 1 ≤ p ∧ p ≤ n + 1 ∧ posV p n = p ∧ posB p n = true)
    ∨ (0 ≤ n ∧ n ≤ 120 ∧ -n ≤ p ∧ p ≤ 0 ∧ posV p n = n + 1 + p ∧ posB p n = true)
    ∨ (0 ≤ n ∧ n ≤ 120 ∧ n + 1 < p ∧ posV p n = 0 ∧ posB p n = false)
    ∨ (0 ≤ n ∧ n ≤ 120 ∧ p < -n ∧ posV p n = 0 ∧ posB p n = false) := by
  unfold posV posB
  by_cases h1 : n < 0
  · left; simp [h1]
  · by_cases h2 : 120 < n
    · right; left; simp [h2]
    · have h0 : ¬ (n < 0 ∨ 120 < n) := by omega
      simp only [if_neg h0]
      by_cases h3 : 1 ≤ p ∧ p ≤ n + 1
      · simp only [if_pos h3]; right; right; left; exact ⟨by omega, by omega, h3.1, h3.2, trivial, trivial⟩
      · simp only [if_neg h3]
        by_cases h4 : -n ≤ p ∧ p ≤ 0
        · simp only [if_pos h4]; right; right; right; left; exact ⟨by omega, by omega, h4.1, h4.2, trivial, trivial⟩
        · simp only [if_neg h4]
          rcases (show n + 1 < p ∨ p < -n by omega) with h5 | h5
          · right; right; right; right; left; exact ⟨by omega, by omega, h5, trivial, trivial⟩
          · right; right; right; right; right; exact ⟨by omega, by omega, h5, trivial, trivial⟩

def RetPos (w : World) (p n : Int) (e : Ending) (w' : World) : Prop := e = .returned (.tuple #[.int .i64 (posV p n), .bool (posB p n)]) ∧ w = w'

/-- The substring between two positions, and whether both are positions. -/
def secB (s : ByteArray) (i j : Int) : Bool := posB i s.size && posB j s.size
def secS (s : ByteArray) (i j : Int) : ByteArray := if secB s i j then s.extract (min (posV i s.size).toNat (posV j s.size).toNat - 1) (max (posV i s.size).toNat (posV j s.size).toNat - 1) else ByteArray.empty

theorem pos_true {p n : Int} (h : posB p n = true) : 1 ≤ posV p n ∧ posV p n ≤ n + 1 ∧ n ≤ 120 := by
  rcases pos_cases p n with ⟨h1, e1, e2⟩ | ⟨h1, e1, e2⟩ | ⟨h1, h2, h3, h4, e1, e2⟩ | ⟨h1, h2, h3, h4, e1, e2⟩ | ⟨h1, h2, h3, e1, e2⟩ | ⟨h1, h2, h3, e1, e2⟩
  · rw [e2] at h; cases h
  · rw [e2] at h; cases h
  · omega
  · omega
  · rw [e2] at h; cases h
  · rw [e2] at h; cases h

theorem sec_cases (s : ByteArray) (i j : Int) : (posB i s.size = false ∧ secS s i j = ByteArray.empty ∧ secB s i j = false) ∨ (posB i s.size = true ∧ posB j s.size = false ∧ secS s i j = ByteArray.empty ∧ secB s i j = false)
    ∨ (∃ a b : Nat, posB i s.size = true ∧ posB j s.size = true ∧ posV i s.size = (a : Int) + 1 ∧ posV j s.size = (b : Int) + 1 ∧ a ≤ b ∧ b ≤ s.size ∧ s.size ≤ 120 ∧ secS s i j = s.extract a b ∧ secB s i j = true)
    ∨ (∃ a b : Nat, posB i s.size = true ∧ posB j s.size = true ∧ posV i s.size = (a : Int) + 1 ∧ posV j s.size = (b : Int) + 1 ∧ b < a ∧ a ≤ s.size ∧ s.size ≤ 120 ∧ secS s i j = s.extract b a ∧ secB s i j = true) := by
  cases hi : posB i s.size
  · left; simp [secS, secB, hi]
  · cases hj : posB j s.size
    · right; left; simp [secS, secB, hi, hj]
    · right; right
      have h1 := pos_true hi
      have h2 := pos_true hj
      have hb : secB s i j = true := by simp [secB, hi, hj]
      have hs : secS s i j = s.extract (min (posV i s.size).toNat (posV j s.size).toNat - 1) (max (posV i s.size).toNat (posV j s.size).toNat - 1) := if_pos hb
      by_cases hle : posV i s.size ≤ posV j s.size
      · left
        refine ⟨(posV i s.size).toNat - 1, (posV j s.size).toNat - 1, rfl, rfl, by omega, by omega, by omega, by omega, by omega, ?_, hb⟩
        rw [hs, Nat.min_eq_left (by omega), Nat.max_eq_right (by omega)]
      · right
        refine ⟨(posV i s.size).toNat - 1, (posV j s.size).toNat - 1, rfl, rfl, by omega, by omega, by omega, by omega, by omega, ?_, hb⟩
        rw [hs, Nat.min_eq_right (by omega), Nat.max_eq_left (by omega)]

/-- A call that returns a text and a bool, and makes memory alone. -/
def RetTB (w : World) (s : ByteArray) (b : Bool) (e : Ending) (w' : World) : Prop := e = .returned (.tuple #[.string s, .bool b]) ∧ Below w.heap.size w w'

end Go.Proofs.YtjgnigalodebkaaDoor
