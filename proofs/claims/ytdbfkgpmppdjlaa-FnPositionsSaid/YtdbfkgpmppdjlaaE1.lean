/- NormalizePosition and SectionOf of the program and of the reference model, and the walks of their two laws. No conditions. -/
import Derived.Test.YtdbfkgpmppdjlaaC2
import Derived.Test.YtdbfkgpmppdjlaaShelf
namespace Go.Proofs.Ytdbfkgpmppdjlaa
open Go.RowKit
set_option linter.unusedVariables false

/-- The position that p denotes in a string of length n, and whether it denotes one. -/
def posV (p n : Int) : Int := if n < 0 ∨ 120 < n then 0 else if 1 ≤ p ∧ p ≤ n + 1 then p else if -n ≤ p ∧ p ≤ 0 then n + 1 + p else 0
def posB (p n : Int) : Bool := if n < 0 ∨ 120 < n then false else if 1 ≤ p ∧ p ≤ n + 1 then true else if -n ≤ p ∧ p ≤ 0 then true else false

theorem pos_cases (p n : Int) : (n < 0 ∧ posV p n = 0 ∧ posB p n = false) ∨ (120 < n ∧ posV p n = 0 ∧ posB p n = false)
    ∨ (0 ≤ n ∧ n ≤ 120 ∧ 1 ≤ p ∧ p ≤ n + 1 ∧ posV p n = p ∧ posB p n = true)
    ∨ (0 ≤ n ∧ n ≤ 120 ∧ -n ≤ p ∧ p ≤ 0 ∧ posV p n = n + 1 + p ∧ posB p n = true)
    ∨ (0 ≤ n ∧ n ≤ 120 ∧ n + 1 < p ∧ posV p n = 0 ∧ posB p n = false)
    ∨ (0 ≤ n ∧ n ≤ 120 ∧ p < -n ∧ posV p n = 0 ∧ posB p n = false) := by
  unfold posV posB
  by_cases h1 : n < 0
  · left; simp [h1]
  · by_cases h2 : 120 < n
    · right; left; simp [h2]
    · have h0 : ¬ (n < 0 ∨ 120 < n) := by omega
      simp only [if_neg h0]
      by_cases h3 : 1 ≤ p ∧ p ≤ n + 1
      · simp only [if_pos h3]; right; right; left; exact ⟨by omega, by omega, h3.1, h3.2, trivial, trivial⟩
      · simp only [if_neg h3]
        by_cases h4 : -n ≤ p ∧ p ≤ 0
        · simp only [if_pos h4]; right; right; right; left; exact ⟨by omega, by omega, h4.1, h4.2, trivial, trivial⟩
        · simp only [if_neg h4]
          rcases (show n + 1 < p ∨ p < -n by omega) with h5 | h5
          · right; right; right; right; left; exact ⟨by omega, by omega, h5, trivial, trivial⟩
          · right; right; right; right; right; exact ⟨by omega, by omega, h5, trivial, trivial⟩

def RetPos (w : World) (p n : Int) (e : Ending) (w' : World) : Prop := e = .returned (.tuple #[.int .i64 (posV p n), .bool (posB p n)]) ∧ w = w'

theorem spec_pos (p n : Int) (w : World) : Calls Try.prog 18 #[.int .i64 p, .int .i64 n] w (RetPos w p n) := by
  unfold RetPos
  rcases pos_cases p n with ⟨h1, e1, e2⟩ | ⟨h1, e1, e2⟩ | ⟨h1, h2, h3, h4, e1, e2⟩ | ⟨h1, h2, h3, h4, e1, e2⟩ | ⟨h1, h2, h3, e1, e2⟩ | ⟨h1, h2, h3, e1, e2⟩
  all_goals
    rw [e1, e2]
    clear e1 e2
    go_enter Try.func18, Try.ntmps18
    go_wp2
    go_ret2
    exact ⟨rfl, rfl⟩

theorem impl_pos (p n : Int) (w : World) : Calls Try.prog 17 #[.int .i64 p, .int .i64 n] w (RetPos w p n) := by
  unfold RetPos
  rcases pos_cases p n with ⟨h1, e1, e2⟩ | ⟨h1, e1, e2⟩ | ⟨h1, h2, h3, h4, e1, e2⟩ | ⟨h1, h2, h3, h4, e1, e2⟩ | ⟨h1, h2, h3, e1, e2⟩ | ⟨h1, h2, h3, e1, e2⟩
  all_goals
    rw [e1, e2]
    clear e1 e2
    go_enter Try.func17, Try.ntmps17
    go_wp2
    go_ret2
    exact ⟨rfl, rfl⟩

theorem strings_clone (s : ByteArray) (w : World) (h : s.size ≤ 281474976710656) : Calls Try.prog 43 #[.string s] w fun e w' => e = .returned (.string s) ∧ Below w.heap.size w w' := by
  have HC := Lib.hid (Try.stringslite_Clone s w h)
  go_enter Try.func43, Try.ntmps43
  go_wp2_with fail
  refine HC.out.mono ?_
  rintro e w1 ⟨rfl, hb⟩
  go_wp2
  go_ret
  exact ⟨rfl, hb⟩

/-- The substring between two positions, and whether both are positions. -/
def secB (s : ByteArray) (i j : Int) : Bool := posB i s.size && posB j s.size
def secS (s : ByteArray) (i j : Int) : ByteArray := if secB s i j then s.extract (min (posV i s.size).toNat (posV j s.size).toNat - 1) (max (posV i s.size).toNat (posV j s.size).toNat - 1) else ByteArray.empty

theorem pos_true {p n : Int} (h : posB p n = true) : 1 ≤ posV p n ∧ posV p n ≤ n + 1 ∧ n ≤ 120 := by
  rcases pos_cases p n with ⟨h1, e1, e2⟩ | ⟨h1, e1, e2⟩ | ⟨h1, h2, h3, h4, e1, e2⟩ | ⟨h1, h2, h3, h4, e1, e2⟩ | ⟨h1, h2, h3, e1, e2⟩ | ⟨h1, h2, h3, e1, e2⟩
  · rw [e2] at h; cases h
  · rw [e2] at h; cases h
  · omega
  · omega
  · rw [e2] at h; cases h
  · rw [e2] at h; cases h

theorem sec_cases (s : ByteArray) (i j : Int) : (posB i s.size = false ∧ secS s i j = ByteArray.empty ∧ secB s i j = false) ∨ (posB i s.size = true ∧ posB j s.size = false ∧ secS s i j = ByteArray.empty ∧ secB s i j = false)
    ∨ (∃ a b : Nat, posB i s.size = true ∧ posB j s.size = true ∧ posV i s.size = (a : Int) + 1 ∧ posV j s.size = (b : Int) + 1 ∧ a ≤ b ∧ b ≤ s.size ∧ s.size ≤ 120 ∧ secS s i j = s.extract a b ∧ secB s i j = true)
    ∨ (∃ a b : Nat, posB i s.size = true ∧ posB j s.size = true ∧ posV i s.size = (a : Int) + 1 ∧ posV j s.size = (b : Int) + 1 ∧ b < a ∧ a ≤ s.size ∧ s.size ≤ 120 ∧ secS s i j = s.extract b a ∧ secB s i j = true) := by
  cases hi : posB i s.size
  · left; simp [secS, secB, hi]
  · cases hj : posB j s.size
    · right; left; simp [secS, secB, hi, hj]
    · right; right
      have h1 := pos_true hi
      have h2 := pos_true hj
      have hb : secB s i j = true := by simp [secB, hi, hj]
      have hs : secS s i j = s.extract (min (posV i s.size).toNat (posV j s.size).toNat - 1) (max (posV i s.size).toNat (posV j s.size).toNat - 1) := if_pos hb
      by_cases hle : posV i s.size ≤ posV j s.size
      · left
        refine ⟨(posV i s.size).toNat - 1, (posV j s.size).toNat - 1, rfl, rfl, by omega, by omega, by omega, by omega, by omega, ?_, hb⟩
        rw [hs, Nat.min_eq_left (by omega), Nat.max_eq_right (by omega)]
      · right
        refine ⟨(posV i s.size).toNat - 1, (posV j s.size).toNat - 1, rfl, rfl, by omega, by omega, by omega, by omega, by omega, ?_, hb⟩
        rw [hs, Nat.min_eq_right (by omega), Nat.max_eq_left (by omega)]

/-- A call that returns a text and a bool, and makes memory alone. -/
def RetTB (w : World) (s : ByteArray) (b : Bool) (e : Ending) (w' : World) : Prop := e = .returned (.tuple #[.string s, .bool b]) ∧ Below w.heap.size w w'

theorem spec_sec (s : ByteArray) (i j : Int) (w : World) (hs : (s.size : Int) ≤ 1048576) : Calls Try.prog 20 #[.string s, .int .i64 i, .int .i64 j] w (RetTB w (secS s i j) (secB s i j)) := by
  unfold RetTB
  have H1 := Lib.hid (fun W => spec_pos i s.size W)
  have H2 := Lib.hid (fun W => spec_pos j s.size W)
  unfold RetPos at H1 H2
  rcases sec_cases s i j with ⟨h1, e1, e2⟩ | ⟨h1, h2, e1, e2⟩ | ⟨a, b, h1, h2, v1, v2, l1, l2, l3, e1, e2⟩ | ⟨a, b, h1, h2, v1, v2, l1, l2, l3, e1, e2⟩
  all_goals
    rw [e1, e2]
    clear e1 e2
    try rw [v1, h1] at H1
    try rw [v2, h2] at H2
    try rw [h1] at H1
    try rw [h2] at H2
    clear h1
    try clear h2
    try clear v1 v2
    go_enter Try.func20, Try.ntmps20
    go_wp2_with fail
    refine (H1.out _).mono ?_
    rintro e w1 ⟨rfl, rfl⟩
    go_wp2_with fail
    refine (H2.out _).mono ?_
    rintro e w1 ⟨rfl, rfl⟩
    go_wp2
    go_ret2
    exact ⟨rfl, Below.refl _ _⟩

theorem impl_sec (s : ByteArray) (i j : Int) (w : World) (hs : (s.size : Int) ≤ 1048576) : Calls Try.prog 19 #[.string s, .int .i64 i, .int .i64 j] w (RetTB w (secS s i j) (secB s i j)) := by
  unfold RetTB
  have H1 := Lib.hid (fun W => impl_pos i s.size W)
  have H2 := Lib.hid (fun W => impl_pos j s.size W)
  unfold RetPos at H1 H2
  rcases sec_cases s i j with ⟨h1, e1, e2⟩ | ⟨h1, h2, e1, e2⟩ | ⟨a, b, h1, h2, v1, v2, l1, l2, l3, e1, e2⟩ | ⟨a, b, h1, h2, v1, v2, l1, l2, l3, e1, e2⟩
  · rw [e1, e2]
    rw [h1] at H1
    clear e1 e2 h1
    go_enter Try.func19, Try.ntmps19
    go_wp2_with fail
    refine (H1.out _).mono ?_
    rintro e w1 ⟨rfl, rfl⟩
    go_wp2_with fail
    refine (H2.out _).mono ?_
    rintro e w1 ⟨rfl, rfl⟩
    go_wp2
    go_ret2
    exact ⟨rfl, Below.refl _ _⟩
  · rw [e1, e2]
    rw [h1] at H1
    rw [h2] at H2
    clear e1 e2 h1 h2
    go_enter Try.func19, Try.ntmps19
    go_wp2_with fail
    refine (H1.out _).mono ?_
    rintro e w1 ⟨rfl, rfl⟩
    go_wp2_with fail
    refine (H2.out _).mono ?_
    rintro e w1 ⟨rfl, rfl⟩
    go_wp2
    go_ret2
    exact ⟨rfl, Below.refl _ _⟩
  · rw [e1, e2]
    rw [v1, h1] at H1
    rw [v2, h2] at H2
    have HK := Lib.hid (fun W => strings_clone (s.extract a b) W (by simp [ByteArray.size_extract]; omega))
    clear e1 e2 h1 h2 v1 v2
    go_enter Try.func19, Try.ntmps19
    go_wp2_with fail
    refine (H1.out _).mono ?_
    rintro e w1 ⟨rfl, rfl⟩
    go_wp2_with fail
    refine (H2.out _).mono ?_
    rintro e w1 ⟨rfl, rfl⟩
    go_wp2_with fail
    refine (HK.out _).mono ?_
    rintro e w1 ⟨rfl, hb⟩
    go_wp2
    go_ret2
    exact ⟨rfl, hb⟩
  · rw [e1, e2]
    rw [v1, h1] at H1
    rw [v2, h2] at H2
    have HK := Lib.hid (fun W => strings_clone (s.extract b a) W (by simp [ByteArray.size_extract]; omega))
    clear e1 e2 h1 h2 v1 v2
    go_enter Try.func19, Try.ntmps19
    go_wp2_with fail
    refine (H1.out _).mono ?_
    rintro e w1 ⟨rfl, rfl⟩
    go_wp2_with fail
    refine (H2.out _).mono ?_
    rintro e w1 ⟨rfl, rfl⟩
    go_wp2_with fail
    refine (HK.out _).mono ?_
    rintro e w1 ⟨rfl, hb⟩
    go_wp2
    go_ret2
    exact ⟨rfl, hb⟩

theorem FnExactNormalizePosition_walk (a0 : Int) (a1 : Int) (w0 : (Lit.int .i64 a0).wf = true) (w1 : (Lit.int .i64 a1).wf = true) (w : World) :
    Calls Try.prog 4 #[.int .i64 a0, .int .i64 a1] w fun e w' => e = .returned (.bool true) ∧ Below w.heap.size w w' := by
  clear w0 w1
  have H1 := Lib.hid (fun W => spec_pos a0 a1 W)
  have H2 := Lib.hid (fun W => impl_pos a0 a1 W)
  unfold RetPos at H1 H2
  generalize posV a0 a1 = v at H1 H2
  generalize posB a0 a1 = b at H1 H2
  go_enter Try.func4, Try.ntmps4
  go_wp2_with fail
  refine (H1.out _).mono ?_
  rintro e w1 ⟨rfl, rfl⟩
  go_wp2_with fail
  refine (H2.out _).mono ?_
  rintro e w1 ⟨rfl, rfl⟩
  cases b
  all_goals
    go_wp2
    go_ret
    exact ⟨rfl, Below.refl _ _⟩

theorem FnExactSectionOf_walk (a0 : ByteArray) (a1 : Int) (a2 : Int) (w0 : a0.size ≤ maxLen) (w1 : (Lit.int .i64 a1).wf = true) (w2 : (Lit.int .i64 a2).wf = true) (w : World) :
    Calls Try.prog 5 #[.string a0, .int .i64 a1, .int .i64 a2] w fun e w' => e = .returned (.bool true) ∧ Below w.heap.size w w' := by
  have hmm : (a0.size : Int) ≤ 9223372036854775807 := by unfold maxLen at w0; omega
  clear w0 w1 w2
  by_cases hlen : (1048576 : Int) < a0.size
  · go_enter Try.func5, Try.ntmps5
    go_wp2
    go_ret
    exact ⟨rfl, Below.refl _ _⟩
  · have hs : (a0.size : Int) ≤ 1048576 := by omega
    have H1 := Lib.hid (fun W => spec_sec a0 a1 a2 W hs)
    have H2 := Lib.hid (fun W => impl_sec a0 a1 a2 W hs)
    unfold RetTB at H1 H2
    generalize secS a0 a1 a2 = v at H1 H2
    generalize secB a0 a1 a2 = b at H1 H2
    go_enter Try.func5, Try.ntmps5
    go_wp2_with fail
    refine (H1.out _).mono ?_
    rintro e w1 ⟨rfl, hb1⟩
    go_wp2_with fail
    refine (H2.out _).mono ?_
    rintro e w2 ⟨rfl, hb2⟩
    have HB := Lib.hid (hb1.trans (hb2.mono hb1.size))
    clear hb1 hb2
    cases b
    all_goals
      go_wp2
      go_ret
      exact ⟨rfl, HB.out⟩
end Go.Proofs.Ytdbfkgpmppdjlaa
