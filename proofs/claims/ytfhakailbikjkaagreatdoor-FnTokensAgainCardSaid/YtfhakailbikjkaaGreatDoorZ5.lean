/- Joined texts: K5, R1, R2, R6, R0, KF, J1, L2. No conditions besides those that each states. -/
import Derived.Test.YtfhakailbikjkaaGreatDoorShelf
import Derived.LaidEql
import Derived.Stop.Asserts
import Derived.RowKitTokens
import Derived.Stop.LaidErr
import Derived.LaidMore
import Derived.ProofKit
import Derived.IntWalk
import Derived.Deep.RegionLaw
import Derived.Test.YtfhakailbikjkaaGreatDoorZ1
import Derived.Test.YtfhakailbikjkaaGreatDoorZ2
import Derived.Test.YtfhakailbikjkaaGreatDoorZ4
/- Which tokens begin or end an expression, and the operators, in the reference model. No conditions. -/
namespace Go.Proofs.YtfhakailbikjkaaGreatDoor
open Go.RowKit
set_option linter.unusedVariables false

/-- A token by value. -/
abbrev tokV (k : Int) (t : ByteArray) (ln : Int) : Value := .agg #[.int .i64 k, .string t, .int .i64 ln]
theorem eq_word (t : ByteArray) (l : List UInt8) (b : Bool) (h : (t.data.toList == l) = b) : (t.toList == l) = b := by rw [ByteArray.toList_eq]; exact h
theorem kind_cases (k : Int) : k = 2 ∨ k = 7 ∨ (k ≠ 2 ∧ k ≠ 7 ∧ k = 1) ∨ (k ≠ 2 ∧ k ≠ 7 ∧ k ≠ 1 ∧ k < 3) ∨ (k ≠ 2 ∧ k ≠ 7 ∧ k ≠ 1 ∧ 3 ≤ k ∧ k ≤ 6) ∨ (k ≠ 2 ∧ k ≠ 7 ∧ k ≠ 1 ∧ 3 ≤ k ∧ 6 < k) := by omega
theorem rest_kind {k : Int} (b : Bool) (h : k = 1 ∧ b = true ∨ k ≠ 1 ∧ k < 3 ∧ b = false ∨ k ≠ 1 ∧ 3 ≤ k ∧ k ≤ 6 ∧ b = true ∨ k ≠ 1 ∧ 6 < k ∧ b = false) : (k == 1 || (decide (3 ≤ k) && decide (k ≤ 6))) = b := by
  rcases h with ⟨rfl, rfl⟩ | ⟨h1, h2, rfl⟩ | ⟨h1, h2, h3, rfl⟩ | ⟨h1, h2, rfl⟩
  · rfl
  · simp [h1]; omega
  · simp [h2, h3]
  · simp [h1]; omega
set_option maxHeartbeats 800000 in
theorem spec_ends (k : Int) (t : ByteArray) (ln : Int) (w : World) : Calls Tryz.prog 19 #[tokV k t ln] w fun e w' => e = .returned (.bool (Tk.ends k t.data.toList)) ∧ Below w.heap.size w w' := by
  unfold tokV
  rcases kind_cases k with rfl | rfl | ⟨h1, h2, h3⟩ | ⟨h1, h2, h3, h4⟩ | ⟨h1, h2, h3, h4, h5⟩ | ⟨h1, h2, h3, h4, h5⟩
  · have e : Tk.ends 2 t.data.toList = hasW Tk.end2 t.data.toList := by unfold Tk.ends; rfl
    rw [e]
    clear e
    have HH : Hid (∀ W : World, Calls Tryz.prog 49 #[.slice (some ⟨W.heap.size, 0, none⟩) 5 5, .string t] (W.alloc (.cells (Tk.end2.map fun x => Value.string (str8 x)).toArray 9)) fun e w' => e = .returned (.bool (hasW Tk.end2 t.data.toList)) ∧ (W.alloc (.cells (Tk.end2.map fun x => Value.string (str8 x)).toArray 9)) = w') :=
      fun W => spec_hasw Tk.end2 W.heap.size 5 t _ (words_new W Tk.end2 9 _ rfl) (words_lt _ (by decide))
    have HW := Lib.hid (HH.out (w.alloc (.cells #[.int .i64 2, .string t, .int .i64 ln] 31)))
    rw [show (w.alloc (.cells #[.int .i64 2, .string t, .int .i64 ln] 31)).heap.size = w.heap.size + 1 by simp] at HW
    generalize hasW Tk.end2 t.data.toList = b at HW ⊢
    clear HH
    go_enter Tryz.func19, Tryz.ntmps19
    go_wp2_with fail
    refine HW.out.mono ?_
    rintro e w1 ⟨rfl, rfl⟩
    go_wp2
    go_ret
    exact ⟨rfl, bl2 _ _ _⟩
  · have e : Tk.ends 7 t.data.toList = (t.data.toList == [41] || (t.data.toList == [93] || (t.data.toList == [125] || false))) := by
      unfold Tk.ends; rfl
    cases e1 : (t.data.toList == [41])
    · cases e2 : (t.data.toList == [93])
      · cases e3 : (t.data.toList == [125])
        all_goals
          rw [e1, e2, e3] at e
          have HE := Lib.hid e
          have u1 := eq_word t _ _ e1
          have u2 := eq_word t _ _ e2
          have u3 := eq_word t _ _ e3
          clear e e1 e2 e3
          go_enter Tryz.func19, Tryz.ntmps19
          go_wp2
          go_ret
          exact ⟨ret_b HE.out.symm, bl1 _ _⟩
      · rw [e1, e2] at e
        have HE := Lib.hid e
        have u1 := eq_word t _ _ e1
        have u2 := eq_word t _ _ e2
        clear e e1 e2
        go_enter Tryz.func19, Tryz.ntmps19
        go_wp2
        go_ret
        exact ⟨ret_b HE.out.symm, bl1 _ _⟩
    · rw [e1] at e
      have HE := Lib.hid e
      have u1 := eq_word t _ _ e1
      clear e e1
      go_enter Tryz.func19, Tryz.ntmps19
      go_wp2
      go_ret
      exact ⟨ret_b HE.out.symm, bl1 _ _⟩
  · have HE : Hid (Tk.ends k t.data.toList = true) := by
      show _ = _
      unfold Tk.ends
      rw [if_neg h1, if_neg h2]
      exact rest_kind true (.inl ⟨h3, rfl⟩)
    have u1 : (k == 2) = false := by simpa using h1
    have u2 : (k == 7) = false := by simpa using h2
    have u3 : (k == 1) = true := by simpa using h3
    clear h3
    clear h1 h2
    go_enter Tryz.func19, Tryz.ntmps19
    go_wp2
    go_ret
    exact ⟨ret_b HE.out.symm, bl1 _ _⟩
  · have HE : Hid (Tk.ends k t.data.toList = false) := by
      show _ = _
      unfold Tk.ends
      rw [if_neg h1, if_neg h2]
      exact rest_kind false (.inr (.inl ⟨h3, h4, rfl⟩))
    have u1 : (k == 2) = false := by simpa using h1
    have u2 : (k == 7) = false := by simpa using h2
    have u3 : (k == 1) = false := by simpa using h3
    have u4 : decide (3 ≤ k) = false := by simp; omega
    clear h3
    clear h1 h2
    go_enter Tryz.func19, Tryz.ntmps19
    go_wp2
    go_ret
    exact ⟨ret_b HE.out.symm, bl1 _ _⟩
  · have HE : Hid (Tk.ends k t.data.toList = true) := by
      show _ = _
      unfold Tk.ends
      rw [if_neg h1, if_neg h2]
      exact rest_kind true (.inr (.inr (.inl ⟨h3, h4, h5, rfl⟩)))
    have u1 : (k == 2) = false := by simpa using h1
    have u2 : (k == 7) = false := by simpa using h2
    have u3 : (k == 1) = false := by simpa using h3
    have u4 : decide (3 ≤ k) = true := by simp; omega
    have u5 : decide (k ≤ 6) = true := by simp; omega
    clear h3
    clear h1 h2
    go_enter Tryz.func19, Tryz.ntmps19
    go_wp2
    go_ret
    exact ⟨ret_b HE.out.symm, bl1 _ _⟩
  · have HE : Hid (Tk.ends k t.data.toList = false) := by
      show _ = _
      unfold Tk.ends
      rw [if_neg h1, if_neg h2]
      exact rest_kind false (.inr (.inr (.inr ⟨h3, h5, rfl⟩)))
    have u1 : (k == 2) = false := by simpa using h1
    have u2 : (k == 7) = false := by simpa using h2
    have u3 : (k == 1) = false := by simpa using h3
    have u4 : decide (3 ≤ k) = true := by simp; omega
    have u5 : decide (k ≤ 6) = false := by simp; omega
    clear h3
    clear h1 h2
    go_enter Tryz.func19, Tryz.ntmps19
    go_wp2
    go_ret
    exact ⟨ret_b HE.out.symm, bl1 _ _⟩
set_option maxHeartbeats 800000 in
theorem spec_begins (k : Int) (t : ByteArray) (ln : Int) (w : World) : Calls Tryz.prog 20 #[tokV k t ln] w fun e w' => e = .returned (.bool (Tk.begins k t.data.toList)) ∧ Below w.heap.size w w' := by
  unfold tokV
  rcases kind_cases k with rfl | rfl | ⟨h1, h2, h3⟩ | ⟨h1, h2, h3, h4⟩ | ⟨h1, h2, h3, h4, h5⟩ | ⟨h1, h2, h3, h4, h5⟩
  · have e : Tk.begins 2 t.data.toList = hasW Tk.beg2 t.data.toList := by unfold Tk.begins; rfl
    rw [e]
    clear e
    have HH : Hid (∀ W : World, Calls Tryz.prog 49 #[.slice (some ⟨W.heap.size, 0, none⟩) 14 14, .string t] (W.alloc (.cells (Tk.beg2.map fun x => Value.string (str8 x)).toArray 9)) fun e w' => e = .returned (.bool (hasW Tk.beg2 t.data.toList)) ∧ (W.alloc (.cells (Tk.beg2.map fun x => Value.string (str8 x)).toArray 9)) = w') :=
      fun W => spec_hasw Tk.beg2 W.heap.size 14 t _ (words_new W Tk.beg2 9 _ rfl) (words_lt _ (by decide))
    have HW := Lib.hid (HH.out (w.alloc (.cells #[.int .i64 2, .string t, .int .i64 ln] 31)))
    rw [show (w.alloc (.cells #[.int .i64 2, .string t, .int .i64 ln] 31)).heap.size = w.heap.size + 1 by simp] at HW
    generalize hasW Tk.beg2 t.data.toList = b at HW ⊢
    clear HH
    go_enter Tryz.func20, Tryz.ntmps20
    go_wp2_with fail
    refine HW.out.mono ?_
    rintro e w1 ⟨rfl, rfl⟩
    go_wp2
    go_ret
    exact ⟨rfl, bl2 _ _ _⟩
  · have e : Tk.begins 7 t.data.toList = hasW Tk.beg7 t.data.toList := by unfold Tk.begins; rfl
    rw [e]
    clear e
    have HH : Hid (∀ W : World, Calls Tryz.prog 49 #[.slice (some ⟨W.heap.size, 0, none⟩) 16 16, .string t] (W.alloc (.cells (Tk.beg7.map fun x => Value.string (str8 x)).toArray 9)) fun e w' => e = .returned (.bool (hasW Tk.beg7 t.data.toList)) ∧ (W.alloc (.cells (Tk.beg7.map fun x => Value.string (str8 x)).toArray 9)) = w') :=
      fun W => spec_hasw Tk.beg7 W.heap.size 16 t _ (words_new W Tk.beg7 9 _ rfl) (words_lt _ (by decide))
    have HW := Lib.hid (HH.out (w.alloc (.cells #[.int .i64 7, .string t, .int .i64 ln] 31)))
    rw [show (w.alloc (.cells #[.int .i64 7, .string t, .int .i64 ln] 31)).heap.size = w.heap.size + 1 by simp] at HW
    generalize hasW Tk.beg7 t.data.toList = b at HW ⊢
    clear HH
    go_enter Tryz.func20, Tryz.ntmps20
    go_wp2_with fail
    refine HW.out.mono ?_
    rintro e w1 ⟨rfl, rfl⟩
    go_wp2
    go_ret
    exact ⟨rfl, bl2 _ _ _⟩
  · have HE : Hid (Tk.begins k t.data.toList = true) := by
      show _ = _
      unfold Tk.begins
      rw [if_neg h1, if_neg h2]
      exact rest_kind true (.inl ⟨h3, rfl⟩)
    have u1 : (k == 2) = false := by simpa using h1
    have u2 : (k == 7) = false := by simpa using h2
    have u3 : (k == 1) = true := by simpa using h3
    clear h3
    clear h1 h2
    go_enter Tryz.func20, Tryz.ntmps20
    go_wp2
    go_ret
    exact ⟨ret_b HE.out.symm, bl1 _ _⟩
  · have HE : Hid (Tk.begins k t.data.toList = false) := by
      show _ = _
      unfold Tk.begins
      rw [if_neg h1, if_neg h2]
      exact rest_kind false (.inr (.inl ⟨h3, h4, rfl⟩))
    have u1 : (k == 2) = false := by simpa using h1
    have u2 : (k == 7) = false := by simpa using h2
    have u3 : (k == 1) = false := by simpa using h3
    have u4 : decide (3 ≤ k) = false := by simp; omega
    clear h3
    clear h1 h2
    go_enter Tryz.func20, Tryz.ntmps20
    go_wp2
    go_ret
    exact ⟨ret_b HE.out.symm, bl1 _ _⟩
  · have HE : Hid (Tk.begins k t.data.toList = true) := by
      show _ = _
      unfold Tk.begins
      rw [if_neg h1, if_neg h2]
      exact rest_kind true (.inr (.inr (.inl ⟨h3, h4, h5, rfl⟩)))
    have u1 : (k == 2) = false := by simpa using h1
    have u2 : (k == 7) = false := by simpa using h2
    have u3 : (k == 1) = false := by simpa using h3
    have u4 : decide (3 ≤ k) = true := by simp; omega
    have u5 : decide (k ≤ 6) = true := by simp; omega
    clear h3
    clear h1 h2
    go_enter Tryz.func20, Tryz.ntmps20
    go_wp2
    go_ret
    exact ⟨ret_b HE.out.symm, bl1 _ _⟩
  · have HE : Hid (Tk.begins k t.data.toList = false) := by
      show _ = _
      unfold Tk.begins
      rw [if_neg h1, if_neg h2]
      exact rest_kind false (.inr (.inr (.inr ⟨h3, h5, rfl⟩)))
    have u1 : (k == 2) = false := by simpa using h1
    have u2 : (k == 7) = false := by simpa using h2
    have u3 : (k == 1) = false := by simpa using h3
    have u4 : decide (3 ≤ k) = true := by simp; omega
    have u5 : decide (k ≤ 6) = false := by simp; omega
    clear h3
    clear h1 h2
    go_enter Tryz.func20, Tryz.ntmps20
    go_wp2
    go_ret
    exact ⟨ret_b HE.out.symm, bl1 _ _⟩
theorem spec_ops (w : World) : Calls Tryz.prog 30 #[] w fun e w' => e = .returned (.slice (some ⟨w.heap.size, 0, none⟩) 62 62) ∧ w.alloc (.cells (Tk.operators.map fun x => Value.string (str8 x)).toArray 9) = w' := by
  go_enter Tryz.func30, Tryz.ntmps30
  go_wp2
  go_ret
  exact ⟨rfl, rfl⟩
end Go.Proofs.YtfhakailbikjkaaGreatDoor
/- Words in the program: keywords, reserved words. No conditions. -/
namespace Go.Proofs.YtfhakailbikjkaaGreatDoor
open Go.RowKit
set_option linter.unusedVariables false

theorem word_yes {l : List (List UInt8)} {s : ByteArray} {x : List UInt8} (h : (s.toList == x) = true) (hx : l.contains x = true) : Ending.returned (.bool true) = .returned (.bool (hasW l s.data.toList)) := by
  have h2 := beq_iff_eq.1 h
  rw [ByteArray.toList_eq] at h2
  unfold hasW; rw [h2, hx]
theorem word_no {l : List (List UInt8)} {s : ByteArray} (h : l.contains s.toList = false) : Ending.returned (.bool false) = .returned (.bool (hasW l s.data.toList)) := by
  rw [ByteArray.toList_eq] at h
  unfold hasW; rw [h]
theorem both {b : Bool} {C : Prop} (h1 : b = true) (h2 : b = false) : C := by rw [h1] at h2; cases h2
set_option maxHeartbeats 1600000 in
theorem impl_keyword (s : ByteArray) (w : World) : Calls Tryz.prog 82 #[.string s] w fun e w' => e = .returned (.bool (hasW Tk.keywords s.data.toList)) ∧ Below w.heap.size w w' := by
  go_enter Tryz.func82, Tryz.ntmps82
  go_wp2
  all_goals first
    | (refine both (b := ?_) ?_ ?_; rotate_left; assumption; assumption)
    | (go_ret; refine ⟨word_yes (x := ?_) ?_ ?_, Below.refl _ _⟩; rotate_left; assumption; decide)
    | (go_ret; refine ⟨word_no ?_, Below.refl _ _⟩; simp only [Tk.keywords, List.contains_cons, List.contains_nil, Bool.or_false, *])
set_option maxHeartbeats 3200000 in
theorem impl_reserved (s : ByteArray) (w : World) : Calls Tryz.prog 77 #[.string s] w fun e w' => e = .returned (.bool (hasW Tk.reserved s.data.toList)) ∧ Below w.heap.size w w' := by
  go_enter Tryz.func77, Tryz.ntmps77
  go_wp2
  all_goals first
    | (refine both (b := ?_) ?_ ?_; rotate_left; assumption; assumption)
    | (go_ret; refine ⟨word_yes (x := ?_) ?_ ?_, Below.refl _ _⟩; rotate_left; assumption; decide)
    | (go_ret; refine ⟨word_no ?_, Below.refl _ _⟩; simp only [Tk.reserved, List.contains_cons, List.contains_nil, Bool.or_false, *])
end Go.Proofs.YtfhakailbikjkaaGreatDoor
/- Letters, digits, bytes of words, prefixSize and names in the program. No conditions. -/
namespace Go.Proofs.YtfhakailbikjkaaGreatDoor
open Go.RowKit
set_option linter.unusedVariables false

theorem impl_letter (b : UInt8) (w : World) : Calls Tryz.prog 59 #[.int .u8 (b.toNat : Int)] w fun e w' => e = .returned (.bool (Tk.letter b)) ∧ w = w' := by
  have hb := UInt8.toNat_lt b
  rcases letter_cases b with ⟨h, e⟩ | ⟨h, h2, e⟩ | ⟨h, h2, h3, e⟩ | ⟨h, e⟩ | ⟨h, h2, e⟩ | ⟨h, e⟩
  · rw [e]
    have ta : decide ((97 : Int) ≤ b.toNat) = false := by simp; omega
    have tA : decide ((65 : Int) ≤ b.toNat) = false := by simp; omega
    have tu : ((b.toNat : Int) == 95) = false := by simp; omega
    clear e
    go_enter Tryz.func59, Tryz.ntmps59
    go_wp2
    go_ret
    exact ⟨rfl, rfl⟩
  · rw [e]
    have ta : decide ((97 : Int) ≤ b.toNat) = false := by simp; omega
    have tA : decide ((65 : Int) ≤ b.toNat) = true := by simp; omega
    have tZ : decide ((b.toNat : Int) ≤ 90) = true := by simp; omega
    have tu : ((b.toNat : Int) == 95) = false := by simp; omega
    clear e
    go_enter Tryz.func59, Tryz.ntmps59
    go_wp2
    go_ret
    exact ⟨rfl, rfl⟩
  · rw [e]
    have ta : decide ((97 : Int) ≤ b.toNat) = false := by simp; omega
    have tA : decide ((65 : Int) ≤ b.toNat) = true := by simp; omega
    have tZ : decide ((b.toNat : Int) ≤ 90) = false := by simp; omega
    have tu : ((b.toNat : Int) == 95) = false := ne8 h3
    clear e
    go_enter Tryz.func59, Tryz.ntmps59
    go_wp2
    go_ret
    exact ⟨rfl, rfl⟩
  · rw [e]
    have ta : decide ((97 : Int) ≤ b.toNat) = false := by subst h; rfl
    have tA : decide ((65 : Int) ≤ b.toNat) = true := by subst h; rfl
    have tZ : decide ((b.toNat : Int) ≤ 90) = false := by subst h; rfl
    have tu : ((b.toNat : Int) == 95) = true := by subst h; rfl
    clear e
    go_enter Tryz.func59, Tryz.ntmps59
    go_wp2
    go_ret
    exact ⟨rfl, rfl⟩
  · rw [e]
    have ta : decide ((97 : Int) ≤ b.toNat) = true := by simp; omega
    have tz : decide ((b.toNat : Int) ≤ 122) = true := by simp; omega
    have tA : decide ((65 : Int) ≤ b.toNat) = true := by simp; omega
    have tZ : decide ((b.toNat : Int) ≤ 90) = false := by simp; omega
    have tu : ((b.toNat : Int) == 95) = false := by simp; omega
    clear e
    go_enter Tryz.func59, Tryz.ntmps59
    go_wp2
    go_ret
    exact ⟨rfl, rfl⟩
  · rw [e]
    have ta : decide ((97 : Int) ≤ b.toNat) = true := by simp; omega
    have tz : decide ((b.toNat : Int) ≤ 122) = false := by simp; omega
    have tA : decide ((65 : Int) ≤ b.toNat) = true := by simp; omega
    have tZ : decide ((b.toNat : Int) ≤ 90) = false := by simp; omega
    have tu : ((b.toNat : Int) == 95) = false := by simp; omega
    clear e
    go_enter Tryz.func59, Tryz.ntmps59
    go_wp2
    go_ret
    exact ⟨rfl, rfl⟩
theorem impl_digit (b : UInt8) (w : World) : Calls Tryz.prog 57 #[.int .u8 (b.toNat : Int)] w fun e w' => e = .returned (.bool (Dec.isDig b)) ∧ w = w' := by
  have hb := UInt8.toNat_lt b
  rcases (show b.toNat < 48 ∨ (48 ≤ b.toNat ∧ b.toNat ≤ 57) ∨ 57 < b.toNat by omega) with h | ⟨h, h2⟩ | h
  · rw [show Dec.isDig b = false by simp [Dec.isDig]; omega]
    have t0 : decide ((48 : Int) ≤ b.toNat) = false := by simp; omega
    go_enter Tryz.func57, Tryz.ntmps57
    go_wp2
    go_ret
    exact ⟨rfl, rfl⟩
  · rw [show Dec.isDig b = true by simp [Dec.isDig]; omega]
    have t0 : decide ((48 : Int) ≤ b.toNat) = true := by simp; omega
    have t1 : decide ((b.toNat : Int) ≤ 57) = true := by simp; omega
    go_enter Tryz.func57, Tryz.ntmps57
    go_wp2
    go_ret
    exact ⟨rfl, rfl⟩
  · rw [show Dec.isDig b = false by simp [Dec.isDig]; omega]
    have t0 : decide ((48 : Int) ≤ b.toNat) = true := by simp; omega
    have t1 : decide ((b.toNat : Int) ≤ 57) = false := by simp; omega
    go_enter Tryz.func57, Tryz.ntmps57
    go_wp2
    go_ret
    exact ⟨rfl, rfl⟩
theorem impl_wordb (b : UInt8) (w : World) : Calls Tryz.prog 74 #[.int .u8 (b.toNat : Int)] w fun e w' => e = .returned (.bool (Tk.idb b)) ∧ w = w' := by
  have H1 := Lib.hid (fun W => impl_letter b W)
  have H2 := Lib.hid (fun W => impl_digit b W)
  unfold Tk.idb
  cases hl : Tk.letter b
  · rw [hl] at H1
    clear hl
    cases hd : Dec.isDig b
    all_goals
      rw [hd] at H2
      clear hd
      go_enter Tryz.func74, Tryz.ntmps74
      go_wp2_with (first | (go_at_call 59; refine (H1.out _).mono ?_; rintro e w3 ⟨rfl, rfl⟩) | (go_at_call 57; refine (H2.out _).mono ?_; rintro e w4 ⟨rfl, rfl⟩))
      go_ret
      exact ⟨rfl, rfl⟩
  · rw [hl] at H1
    clear hl
    go_enter Tryz.func74, Tryz.ntmps74
    go_wp2_with (first | (go_at_call 59; refine (H1.out _).mono ?_; rintro e w3 ⟨rfl, rfl⟩))
    go_ret
    exact ⟨rfl, rfl⟩
/-- Where the count of a text's accepted bytes stands. -/
def TwAt (p : UInt8 → Bool) (l : List UInt8) (k : Nat) : Prop := (l.takeWhile p).length = k + ((l.drop k).takeWhile p).length
theorem TwAt.start (p : UInt8 → Bool) (l : List UInt8) : TwAt p l 0 := by unfold TwAt; rw [List.drop_zero, Nat.zero_add]
theorem TwAt.next {p : UInt8 → Bool} {l : List UInt8} {k : Nat} (h : TwAt p l k) (hk : k < l.length) (hp : p l[k] = true) : TwAt p l (k + 1) := by
  unfold TwAt at h ⊢
  rw [List.drop_eq_getElem_cons hk, List.takeWhile_cons, if_pos hp, List.length_cons] at h; omega
theorem TwAt.stop {p : UInt8 → Bool} {l : List UInt8} {k : Nat} (h : TwAt p l k) (hk : k < l.length) (hp : p l[k] = false) : (l.takeWhile p).length = k := by
  unfold TwAt at h
  rw [List.drop_eq_getElem_cons hk, List.takeWhile_cons, if_neg (by simp [hp])] at h; exact h
theorem TwAt.over {p : UInt8 → Bool} {l : List UInt8} {k : Nat} (h : TwAt p l k) (hk : l.length ≤ k) : (l.takeWhile p).length = k := by
  unfold TwAt at h
  rw [List.drop_eq_nil_of_le hk] at h; exact h
theorem ret_len {n m : Nat} (h : n = m) : Ending.returned (.int .i64 (m : Int)) = .returned (.int .i64 (n : Int)) := by rw [h]
set_option maxHeartbeats 800000 in
theorem impl_prefix_word (s : ByteArray) (w : World) (hs : (s.size : Int) ≤ 1048576) :
    Calls Tryz.prog 73 #[.string s, .func (.func 74) #[] #[]] w fun e w' => e = .returned (.int .i64 (s.data.toList.takeWhile Tk.idb).length) ∧ w = w' := by
  have HST := Lib.hid (TwAt.start Tk.idb s.data.toList)
  generalize hP : (Tk.idb : UInt8 → Bool) = P at HST
  have HC := Lib.hid (fun (b : UInt8) W => impl_wordb b W)
  rw [hP] at HC
  clear hP
  go_enter Tryz.func73, Tryz.ntmps73
  go_wp2
  go_loop [5, 8] (fun _ i => ∃ k : Nat, i = .int .i64 k ∧ k ≤ s.size ∧ TwAt P s.data.toList k) (fun _ i => s.size - (intOf i).toNat)
  case atStart => exact ⟨0, rfl, Nat.zero_le _, HST.out⟩
  case round =>
    clear HST
    obtain ⟨k, rfl, hk, hat⟩ := hrel
    have HAT := Lib.hid hat
    clear hat
    by_cases hlt : (k : Int) < s.size
    · have hks : k < s.size := by omega
      have H1 := Lib.hid (fun W => HC.out s[k] W)
      cases hp : P s[k]
      · have HN := Lib.hid (HAT.out.stop hks hp)
        rw [hp] at H1
        clear hp HC
        go_wp2_with (first | (go_at_call 74; refine (H1.out _).mono ?_; rintro e w3 ⟨rfl, rfl⟩))
        go_ret
        exact ⟨ret_len HN.out, rfl⟩
      · have HN := Lib.hid (HAT.out.next hks hp)
        rw [hp] at H1
        clear hp HC
        go_wp2_with (first | (go_at_call 74; refine (H1.out _).mono ?_; rintro e w3 ⟨rfl, rfl⟩))
        go_round
        case rel => exact ⟨k + 1, by go_num, by omega, HN.out⟩
        case measure => first | (simp [intOf]; done) | (simp [intOf]; omega)
    · obtain rfl : k = s.size := by omega
      have HN := Lib.hid (HAT.out.over (Nat.le_refl _))
      go_wp2
      go_ret
      exact ⟨ret_len HN.out, rfl⟩
set_option maxHeartbeats 800000 in
theorem impl_prefix_letter (s : ByteArray) (w : World) (hs : (s.size : Int) ≤ 1048576) :
    Calls Tryz.prog 73 #[.string s, .func (.func 59) #[] #[]] w fun e w' => e = .returned (.int .i64 (s.data.toList.takeWhile Tk.letter).length) ∧ w = w' := by
  have HST := Lib.hid (TwAt.start Tk.letter s.data.toList)
  generalize hP : (Tk.letter : UInt8 → Bool) = P at HST
  have HC := Lib.hid (fun (b : UInt8) W => impl_letter b W)
  rw [hP] at HC
  clear hP
  go_enter Tryz.func73, Tryz.ntmps73
  go_wp2
  go_loop [5, 8] (fun _ i => ∃ k : Nat, i = .int .i64 k ∧ k ≤ s.size ∧ TwAt P s.data.toList k) (fun _ i => s.size - (intOf i).toNat)
  case atStart => exact ⟨0, rfl, Nat.zero_le _, HST.out⟩
  case round =>
    clear HST
    obtain ⟨k, rfl, hk, hat⟩ := hrel
    have HAT := Lib.hid hat
    clear hat
    by_cases hlt : (k : Int) < s.size
    · have hks : k < s.size := by omega
      have H1 := Lib.hid (fun W => HC.out s[k] W)
      cases hp : P s[k]
      · have HN := Lib.hid (HAT.out.stop hks hp)
        rw [hp] at H1
        clear hp HC
        go_wp2_with (first | (go_at_call 59; refine (H1.out _).mono ?_; rintro e w3 ⟨rfl, rfl⟩))
        go_ret
        exact ⟨ret_len HN.out, rfl⟩
      · have HN := Lib.hid (HAT.out.next hks hp)
        rw [hp] at H1
        clear hp HC
        go_wp2_with (first | (go_at_call 59; refine (H1.out _).mono ?_; rintro e w3 ⟨rfl, rfl⟩))
        go_round
        case rel => exact ⟨k + 1, by go_num, by omega, HN.out⟩
        case measure => first | (simp [intOf]; done) | (simp [intOf]; omega)
    · obtain rfl : k = s.size := by omega
      have HN := Lib.hid (HAT.out.over (Nat.le_refl _))
      go_wp2
      go_ret
      exact ⟨ret_len HN.out, rfl⟩
theorem tw_full {p : UInt8 → Bool} {l : List UInt8} : (l.takeWhile p).length = l.length ↔ l.all p = true := by
  constructor
  · intro h
    have h2 := Tk.take_all p l
    have h3 : l.takeWhile p = l := List.IsPrefix.eq_of_length (List.takeWhile_prefix p) h
    rw [h3] at h2; exact h2
  · intro h
    have h3 : l.takeWhile p = l := by
      induction l with
      | nil => rfl
      | cons b l ih =>
        rw [List.all_cons, Bool.and_eq_true] at h
        rw [List.takeWhile_cons, if_pos h.1, ih h.2]
    rw [h3]
theorem dig_no_letter {b : UInt8} (h : Dec.isDig b = true) : Tk.letter b = false := Tk.letter_dig h
theorem name_ways (s : ByteArray) : (s.size = 0 ∧ Tk.isName s.data.toList = false) ∨ (12 < s.size ∧ Tk.isName s.data.toList = false) ∨ ∃ h : 1 ≤ s.size, s.size ≤ 12 ∧ ((Dec.isDig s[0] = true ∧ Tk.isName s.data.toList = false)
    ∨ (Dec.isDig s[0] = false ∧ (s.data.toList.takeWhile Tk.idb).length = s.size ∧ Tk.isName s.data.toList = !hasW Tk.reserved s.data.toList)
    ∨ (Dec.isDig s[0] = false ∧ (s.data.toList.takeWhile Tk.idb).length ≠ s.size ∧ Tk.isName s.data.toList = false)) := by
  rcases name_cases s with ⟨h | h, e⟩ | ⟨h1, h2, hr⟩
  · exact .inl ⟨by omega, e⟩
  · exact .inr (.inl ⟨h, e⟩)
  · refine .inr (.inr ⟨h1, h2, ?_⟩)
    have hl : 0 < s.data.toList.length := h1
    have hmem : s[0] ∈ s.data.toList := List.getElem_mem hl
    cases hd : Dec.isDig s[0]
    · right
      by_cases hf : (s.data.toList.takeWhile Tk.idb).length = s.size
      · left
        refine ⟨rfl, hf, ?_⟩
        have ha := tw_full.1 hf
        have h0 := List.all_eq_true.1 ha _ hmem
        have hlet : Tk.letter s[0] = true := by
          unfold Tk.idb at h0
          rw [hd, Bool.or_false] at h0; exact h0
        rcases hr with ⟨h3, e⟩ | ⟨h3, h4, e⟩ | ⟨h3, h4, e⟩
        · rw [hlet] at h3; cases h3
        · rw [e, h4]; rfl
        · rw [e, h4, ha]; rfl
      · right
        refine ⟨rfl, hf, ?_⟩
        have ha : s.data.toList.all Tk.idb = false := Bool.eq_false_iff.2 fun h => hf (tw_full.2 h)
        rcases hr with ⟨h3, e⟩ | ⟨h3, h4, e⟩ | ⟨h3, h4, e⟩
        · exact e
        · exact e
        · rw [e, ha]
    · left
      refine ⟨rfl, ?_⟩
      rcases hr with ⟨h3, e⟩ | ⟨h3, h4, e⟩ | ⟨h3, h4, e⟩
      · exact e
      · exact e
      · rw [dig_no_letter hd] at h3; cases h3

set_option maxHeartbeats 800000 in
theorem impl_name (s : ByteArray) (w : World) (hs : (s.size : Int) ≤ 1048576) : Calls Tryz.prog 78 #[.string s] w fun e w' => e = .returned (.bool (Tk.isName s.data.toList)) ∧ Below w.heap.size w w' := by
  rcases name_ways s with ⟨h, e⟩ | ⟨h, e⟩ | ⟨h1, h2, ⟨h3, e⟩ | ⟨h3, h4, e⟩ | ⟨h3, h4, e⟩⟩
  · rw [e]
    have c4 : s.toList.isEmpty = true := by
      have h5 : s.toList = [] := by rw [ByteArray.toList_eq]; exact List.length_eq_zero_iff.1 h
      rw [h5]; rfl
    clear e h
    go_enter Tryz.func78, Tryz.ntmps78
    go_wp2
    go_ret
    exact ⟨rfl, Below.refl _ _⟩
  · rw [e]
    have c4 : s.toList.isEmpty = false := by
      cases h5 : s.toList with
      | nil => rw [ByteArray.toList_eq] at h5; have h6 : s.data.toList.length = 0 := by rw [h5]; rfl
               rw [len8] at h6; omega
      | cons _ _ => rfl
    have t2 : (12 : Int) < s.size := by omega
    clear e h
    go_enter Tryz.func78, Tryz.ntmps78
    go_wp2
    go_ret
    exact ⟨rfl, Below.refl _ _⟩
  all_goals
    rw [e]
    have c4 : s.toList.isEmpty = false := by
      cases h5 : s.toList with
      | nil => rw [ByteArray.toList_eq] at h5; have h6 : s.data.toList.length = 0 := by rw [h5]; rfl
               rw [len8] at h6; omega
      | cons _ _ => rfl
    have t2 : ¬ (12 : Int) < s.size := by omega
    have t3 : (0 : Int) < s.size := by omega
    have HD := Lib.hid (fun W => impl_digit s[0] W)
    rw [h3] at HD
    have HP := Lib.hid (fun W => impl_prefix_word s W hs)
    have HR := Lib.hid (fun W => impl_reserved s W)
  · clear e h3 HP HR
    go_enter Tryz.func78, Tryz.ntmps78
    go_wp2_with (first | (go_at_call 57; refine (HD.out _).mono ?_; rintro e w1 ⟨rfl, rfl⟩))
    go_ret
    exact ⟨rfl, Below.refl _ _⟩
  · generalize hasW Tk.reserved s.data.toList = b at HR
    rw [h4] at HP
    clear e h3 h4
    go_enter Tryz.func78, Tryz.ntmps78
    go_wp2_with (first | (go_at_call 57; refine (HD.out _).mono ?_; rintro e w1 ⟨rfl, rfl⟩) | (go_at_call 73; refine (HP.out _).mono ?_; rintro e w2 ⟨rfl, rfl⟩) | (go_at_call 77; refine (HR.out _).mono ?_; rintro e w3 ⟨rfl, hb3⟩; have HB := Lib.hid hb3; clear hb3))
    go_ret
    exact ⟨rfl, HB.out⟩
  · have h5 : (((s.data.toList.takeWhile Tk.idb).length : Int) == s.size) = false := beq_eq_false_iff_ne.2 (by omega)
    generalize (s.data.toList.takeWhile Tk.idb).length = n at HP h5
    clear e h3 h4 HR
    go_enter Tryz.func78, Tryz.ntmps78
    go_wp2_with (first | (go_at_call 57; refine (HD.out _).mono ?_; rintro e w1 ⟨rfl, rfl⟩) | (go_at_call 73; refine (HP.out _).mono ?_; rintro e w2 ⟨rfl, rfl⟩))
    go_ret
    exact ⟨rfl, Below.refl _ _⟩
end Go.Proofs.YtfhakailbikjkaaGreatDoor
/- Gaps, the size of a literal, line feeds, operators in the program. No conditions. -/
namespace Go.Proofs.YtfhakailbikjkaaGreatDoor
open Go.RowKit
set_option linter.unusedVariables false

set_option maxHeartbeats 800000 in
theorem gap_any (s : ByteArray) (w : World) (hs : (s.size : Int) ≤ 1048576) :
    Calls Tryz.prog 33 #[.string s] w fun e w' => e = .returned (.int .i64 (Tk.gapB false s.data.toList)) ∧ w = w' := by
  have HST := Lib.hid (Tk.GapAt.start s.data.toList)
  go_enter Tryz.func33, Tryz.ntmps33
  go_wp2
  go_loop [3, 4, 7] (fun c _ i => ∃ (k : Nat) (b : Bool), i = .int .i64 k ∧ c = .bool b ∧ k ≤ s.size ∧ Tk.GapAt s.data.toList k b) (fun _ _ i => s.size - (intOf i).toNat)
  case atStart => exact ⟨0, false, rfl, rfl, Nat.zero_le _, HST.out⟩
  case round =>
    clear HST
    obtain ⟨k, b, rfl, rfl, hk, hat⟩ := hrel
    have HAT := Lib.hid hat
    clear hat
    by_cases hlt : (k : Int) < s.size
    · have hks : k < s.size := by omega
      by_cases h10 : s[k] = 10
      · have t10 : ((s[k].toNat : Int) == 10) = true := by rw [h10]; rfl
        have HN := Lib.hid (HAT.out.feed hks h10)
        clear h10
        go_wp2
        go_round
        case rel => exact ⟨k + 1, false, by go_num, rfl, by omega, HN.out⟩
        case measure => first | (simp [intOf]; done) | (simp [intOf]; omega)
      · have t10 : ((s[k].toNat : Int) == 10) = false := ne8 (b := 10) h10
        by_cases h35 : s[k] = 35
        · have t35 : ((s[k].toNat : Int) == 35) = true := by rw [h35]; rfl
          have HN := Lib.hid (HAT.out.note hks h35)
          clear h10 h35
          go_wp2
          go_round
          case rel => exact ⟨k + 1, true, by go_num, rfl, by omega, HN.out⟩
          case measure => first | (simp [intOf]; done) | (simp [intOf]; omega)
        · have t35 : ((s[k].toNat : Int) == 35) = false := ne8 (b := 35) h35
          by_cases h32 : s[k] = 32
          · have t32 : ((s[k].toNat : Int) == 32) = true := by rw [h32]; rfl
            have HN := Lib.hid (HAT.out.blank hks (.inl h32))
            clear h10 h35 h32
            go_wp2
            go_round
            case rel => exact ⟨k + 1, b, by go_num, rfl, by omega, HN.out⟩
            case measure => first | (simp [intOf]; done) | (simp [intOf]; omega)
          · have t32 : ((s[k].toNat : Int) == 32) = false := ne8 (b := 32) h32
            by_cases h9 : s[k] = 9
            · have t9 : ((s[k].toNat : Int) == 9) = true := by rw [h9]; rfl
              have HN := Lib.hid (HAT.out.blank hks (.inr h9))
              clear h10 h35 h32 h9
              go_wp2
              go_round
              case rel => exact ⟨k + 1, b, by go_num, rfl, by omega, HN.out⟩
              case measure => first | (simp [intOf]; done) | (simp [intOf]; omega)
            · have t9 : ((s[k].toNat : Int) == 9) = false := ne8 (b := 9) h9
              cases b
              · have HN := Lib.hid (HAT.out.out hks h10 h32 h9 h35)
                clear h10 h35 h32 h9
                go_wp2
                go_ret
                exact ⟨ret_len HN.out, rfl⟩
              · have HN := Lib.hid (HAT.out.inn hks h10)
                clear h10 h35 h32 h9
                go_wp2
                go_round
                case rel => exact ⟨k + 1, true, by go_num, rfl, by omega, HN.out⟩
                case measure => first | (simp [intOf]; done) | (simp [intOf]; omega)
    · obtain rfl : k = s.size := by omega
      have HN := Lib.hid (HAT.out.over (Nat.le_refl _))
      go_wp2
      go_ret
      exact ⟨ret_len HN.out, rfl⟩

/-- The size of a literal with which a text begins. -/
def litZ (S : List UInt8) : Nat := match S with
  | [] => 0
  | b :: r => Tk.endP b r + 1
theorem litZ_start (s : ByteArray) (h : 0 < s.size) (hd : (92 : UInt8) ≠ s[0]) : Tk.LitAt s[0] s.data.toList (litZ s.data.toList) 1 := by
  have h2 : 0 < s.data.toList.length := h
  have e : s.data.toList = s[0] :: s.data.toList.drop 1 := List.drop_eq_getElem_cons h2
  have h3 := Tk.LitAt.start s[0] s[0] (s.data.toList.drop 1) hd
  rw [← e] at h3
  have h4 : litZ s.data.toList = Tk.endP s[0] (s.data.toList.drop 1) + 1 := by rw [e]; rfl
  rw [h4]; exact h3
set_option maxHeartbeats 800000 in
theorem lit_any (s : ByteArray) (w : World) (hs : (s.size : Int) ≤ 1048576) (h0 : 0 < s.size) (hd : (92 : UInt8) ≠ s[0]) :
    Calls Tryz.prog 79 #[.string s] w fun e w' => e = .returned (.int .i64 (litZ s.data.toList)) ∧ w = w' := by
  have HST := Lib.hid (litZ_start s h0 hd)
  have HD := Lib.hid hd
  have h00 : (0 : Int) < s.size := by omega
  clear hd
  generalize litZ s.data.toList = z at HST ⊢
  go_enter Tryz.func79, Tryz.ntmps79
  go_wp2
  go_loop [3] (fun i => ∃ k : Nat, i = .int .i64 k ∧ 1 ≤ k ∧ k ≤ s.size + 1 ∧ Tk.LitAt s[0] s.data.toList z k) (fun i => s.size + 1 - (intOf i).toNat)
  case atStart => exact ⟨1, rfl, Nat.le_refl _, by omega, HST.out⟩
  case round =>
    clear HST
    obtain ⟨k, rfl, h1, hk, hat⟩ := hrel
    have HAT := Lib.hid hat
    clear hat
    have k0 : (0 : Int) ≤ k := by omega
    by_cases hlt : (k : Int) < s.size
    · have hks : k < s.size := by omega
      by_cases he : s[k] = s[0]
      · have t1 : ((s[k].toNat : Int) == s[0].toNat) = true := by rw [he]; simp
        have HN := Lib.hid (HAT.out.hit hks he)
        clear he
        go_wp2
        go_ret
        exact ⟨by rw [HN.out]; rfl, rfl⟩
      · have t1 : ((s[k].toNat : Int) == s[0].toNat) = false := ne8 he
        by_cases h92 : s[k] = 92
        · have t92 : ((s[k].toNat : Int) == 92) = true := by rw [h92]; rfl
          have HN := Lib.hid (HAT.out.back HD.out hks h92)
          clear he h92
          go_wp2
          go_round
          case rel => exact ⟨k + 2, by go_num, by omega, by omega, HN.out⟩
          case measure => first | (simp [intOf]; done) | (simp [intOf]; omega)
        · have t92 : ((s[k].toNat : Int) == 92) = false := ne8 (b := 92) h92
          have HN := Lib.hid (HAT.out.one hks he h92)
          clear he h92
          go_wp2
          go_round
          case rel => exact ⟨k + 1, by go_num, by omega, by omega, HN.out⟩
          case measure => first | (simp [intOf]; done) | (simp [intOf]; omega)
    · have HN := Lib.hid (HAT.out.over (show s.size ≤ k by omega))
      go_wp2
      go_ret
      exact ⟨by rw [HN.out]; rfl, rfl⟩

/-- Line feeds among the first k bytes. -/
def NlsTo (l : List UInt8) (k c : Nat) : Prop := c = Tk.nls (l.take k)
theorem NlsTo.hit {l : List UInt8} {k c : Nat} (h : NlsTo l k c) (hk : k < l.length) (hb : l[k] = 10) : NlsTo l (k + 1) (c + 1) := by
  unfold NlsTo at h ⊢
  rw [List.take_succ_eq_append_getElem hk, Tk.nls_snoc, if_pos hb, h]
theorem NlsTo.miss {l : List UInt8} {k c : Nat} (h : NlsTo l k c) (hk : k < l.length) (hb : l[k] ≠ 10) : NlsTo l (k + 1) c := by
  unfold NlsTo at h ⊢
  rw [List.take_succ_eq_append_getElem hk, Tk.nls_snoc, if_neg hb, h]; rfl
theorem NlsTo.over {l : List UInt8} {k c : Nat} (h : NlsTo l k c) (hk : l.length ≤ k) : Tk.nls l = c := by
  unfold NlsTo at h
  rw [List.take_of_length_le hk] at h; exact h.symm
theorem NlsTo.le {l : List UInt8} {k c : Nat} (h : NlsTo l k c) : c ≤ k := by
  unfold NlsTo at h
  have h2 := Tk.nls_le (l.take k)
  rw [List.length_take] at h2; omega
theorem feeds_any (s : ByteArray) (w : World) (hs : (s.size : Int) ≤ 1048576) :
    Calls Tryz.prog 34 #[.string s, .int .u8 10] w fun e w' => e = .returned (.int .i64 (Tk.nls s.data.toList)) ∧ w = w' := by
  go_enter Tryz.func34, Tryz.ntmps34
  go_wp2
  go_loop [5, 6, 9] (fun c _ i => ∃ k n : Nat, i = .int .i64 k ∧ k ≤ s.size ∧ c = .int .i64 n ∧ NlsTo s.data.toList k n) (fun _ _ i => s.size - (intOf i).toNat)
  case atStart => exact ⟨0, 0, rfl, Nat.zero_le _, rfl, rfl⟩
  case round =>
    obtain ⟨k, n, rfl, hk, rfl, hat⟩ := hrel
    have hle := hat.le
    have HAT := Lib.hid hat
    clear hat
    by_cases hlt : k < s.size
    · by_cases hhit : s[k] = 10
      · have hh : ((s[k].toNat : Int) == 10) = true := by rw [hhit]; rfl
        have H1 := Lib.hid (HAT.out.hit hlt hhit)
        clear hhit
        go_wp2
        go_round
        case rel => exact ⟨k + 1, n + 1, by go_num, hlt, by go_num, H1.out⟩
        case measure => first | (simp [intOf]; done) | (simp [intOf]; omega)
      · have hh : ((s[k].toNat : Int) == 10) = false := ne8 (b := 10) hhit
        have H1 := Lib.hid (HAT.out.miss hlt hhit)
        clear hhit
        go_wp2
        go_round
        case rel => exact ⟨k + 1, n, by go_num, hlt, rfl, H1.out⟩
        case measure => first | (simp [intOf]; done) | (simp [intOf]; omega)
    · obtain rfl : k = s.size := by omega
      have HN := Lib.hid (HAT.out.over (Nat.le_refl _))
      go_wp2
      go_ret
      exact ⟨ret_len HN.out, rfl⟩

set_option maxRecDepth 100000 in
set_option maxHeartbeats 12800000 in
theorem impl_op (s : ByteArray) (w : World) : Calls Tryz.prog 83 #[.string s] w fun e w' => e = .returned (.bool (hasW Tk.operators s.data.toList)) ∧ w = w' := by
  go_enter Tryz.func83, Tryz.ntmps83
  go_wp2
  all_goals first
    | (refine both (b := ?_) ?_ ?_; rotate_left; assumption; assumption)
    | (go_ret; refine ⟨word_yes (x := ?_) ?_ ?_, rfl⟩; rotate_left; assumption; decide)
    | (go_ret; refine ⟨word_no ?_, rfl⟩; simp only [Tk.operators, List.contains_cons, List.contains_nil, Bool.or_false, *])
end Go.Proofs.YtfhakailbikjkaaGreatDoor
/- strings.Clone: the string itself. -/
namespace Go.Proofs.YtfhakailbikjkaaGreatDoor
open Go.RowKit
set_option linter.unusedVariables false

theorem clone8 (s : ByteArray) (w : World) (h : (s.size : Int) ≤ 1048576) :
    Calls Tryz.prog 24 #[.string s] w fun e w' => e = .returned (.string s) ∧ Below w.heap.size w w' := by
  have HC := Lib.hid (fun W => Tryz.stringslite_Clone s W (by omega))
  go_enter Tryz.func24, Tryz.ntmps24
  go_wp2_with (go_at_call 54; refine (HC.out _).mono ?_; rintro e w1 ⟨rfl, b1⟩)
  go_ret
  exact ⟨rfl, b1⟩
end Go.Proofs.YtfhakailbikjkaaGreatDoor
/- A token's variable in memory. No conditions. -/
namespace Go.Proofs.YtfhakailbikjkaaGreatDoor
open Go.RowKit
set_option linter.unusedVariables false

/-- A token's variable that may be written. -/
def FreeTok (w : World) (b : Nat) (k : Int) (t : ByteArray) (l : Int) : Prop := (w.cell? ⟨b, 0, none⟩ = some (.int .i64 k) ∧ w.cell? ⟨b, 1, none⟩ = some (.string t) ∧ w.cell? ⟨b, 2, none⟩ = some (.int .i64 l)) ∧ w.frozen? ⟨b, 0, none⟩ = false ∧ w.frozen? ⟨b, 1, none⟩ = false ∧ w.frozen? ⟨b, 2, none⟩ = false
theorem FreeTok.lt {w : World} {b : Nat} {k l : Int} {t : ByteArray} (h : FreeTok w b k t l) : b < w.heap.size := by
  have h0 := h.1.1
  unfold World.cell? at h0
  rcases Nat.lt_or_ge b w.heap.size with h1 | h1
  · exact h1
  · exfalso; rw [Array.getElem?_eq_none h1] at h0; cases h0
theorem FreeTok.later {wa wb : World} {g : Nat} {k l : Int} {t : ByteArray} (h : FreeTok wa g k t l) (hb : Below wa.heap.size wa wb) : FreeTok wb g k t l :=
  ⟨⟨(hb.cell (p := ⟨g, 0, none⟩) h.lt).trans h.1.1, (hb.cell (p := ⟨g, 1, none⟩) h.lt).trans h.1.2.1, (hb.cell (p := ⟨g, 2, none⟩) h.lt).trans h.1.2.2⟩,
   (hb.frozen (p := ⟨g, 0, none⟩) h.lt).trans h.2.1, (hb.frozen (p := ⟨g, 1, none⟩) h.lt).trans h.2.2.1, (hb.frozen (p := ⟨g, 2, none⟩) h.lt).trans h.2.2.2⟩
theorem FreeTok.new (W : World) (k : Int) (t : ByteArray) (l : Int) (T : TypeId) : FreeTok (W.alloc (.cells #[.int .i64 k, .string t, .int .i64 l] T)) W.heap.size k t l := by
  refine ⟨⟨?_, ?_, ?_⟩, ?_, ?_, ?_⟩ <;> go_simp
theorem below_store3 {B g : Nat} {w wa : World} (h : Below B w wa) (hg : B ≤ g) (x y z : Value) : Below B w (((wa.setCell ⟨g, 0, none⟩ x).setCell ⟨g, 1, none⟩ y).setCell ⟨g, 2, none⟩ z) :=
  ((h.setCell hg x).setCell hg y).setCell hg z
end Go.Proofs.YtfhakailbikjkaaGreatDoor
/- The sentinel of a bad escape, and errors.Is on it and on nil. No conditions beside what the variable holds. -/
namespace Go.Proofs.YtfhakailbikjkaaGreatDoor
open Go.RowKit Go.Extern.Stop Go.Stop Go.Extern
set_option linter.unusedVariables false

/-- The variable holds a pointer to an error of errors.New's make. -/
def SentAt (a : Addr) (W : World) : Prop := W.cell? ⟨1, 0, none⟩ = some (.iface 118 (.pointer (some a)))
def Sent (W : World) : Prop := ∃ a, SentAt a W
theorem sentAt_lt {a : Addr} {W : World} (h : SentAt a W) : 1 < W.heap.size := by
  unfold SentAt World.cell? at h
  rcases Nat.lt_or_ge 1 W.heap.size with h1 | h1
  · exact h1
  · exfalso
    rw [Array.getElem?_eq_none h1] at h
    cases h
theorem sentAt_below {a : Addr} {W w : World} (h : SentAt a W) (hb : Below W.heap.size W w) : SentAt a w := (hb.cell (p := ⟨1, 0, none⟩) (sentAt_lt h)).trans h

theorem call_type (v : Value) (w : World) : (callFunc 93 #[.iface 118 v]).run Tryz.prog w = .ok (.value (.iface 108 (.agg #[.pointer (some ⟨2, 118, none⟩)]))) w := by kernel_rfl
theorem call_comp (w : World) : (callFunc 117 #[.agg #[.pointer (some ⟨2, 118, none⟩)]]).run Tryz.prog w = .ok (.value (.bool true)) w := by kernel_rfl
theorem meth_comp (n : Nat) (v : Value) (w : World) : (Go.method (n + 1) 108 v "Comparable").run Tryz.prog w = .ok (117, v) w := by kernel_rfl
theorem comp_at : (Tryz.prog.info? 118).map (·.comparable) = some true := by kernel_rfl
theorem size_at : (Tryz.prog.info? 142).map (·.size) = some 1 := by kernel_rfl

/-- errors.Is(nil, x) is false. -/
theorem is_nil (b : Addr) (w : World) :
    Calls Tryz.prog 91 #[.nilIface, .iface 118 (.pointer (some b))] w fun e w' => e = .returned (.bool false) ∧ w = w' := by
  have hn := run_eql_iface_nil_left (P := Tryz.prog) w 118 (.pointer (some b)) Tryz.underlying60
  go_enter Tryz.func91, Tryz.ntmps91
  go_wp2
  go_ret
  exact ⟨rfl, rfl⟩
set_option maxRecDepth 100000 in
/-- errors.Is(x, x) is true. -/
theorem is_same (a : Addr) (w : World) :
    Calls Tryz.prog 91 #[.iface 118 (.pointer (some a)), .iface 118 (.pointer (some a))] w fun e w' => e = .returned (.bool true) ∧ w = w' := by
  obtain ⟨i, hi, hcmp⟩ := Option.map_eq_some_iff.1 comp_at
  obtain ⟨j, hj, hjs⟩ := Option.map_eq_some_iff.1 size_at
  have h8 := call_type
  have h32 := call_comp
  have mR := meth_comp
  have heq := run_eql_iface_ptr_same (P := Tryz.prog) w a Tryz.underlying60 Tryz.underlying118 hi hcmp hj
  go_enter Tryz.func91, Tryz.ntmps91
  go_wp2
  refine wp_loop_rounds 1 ?_
  rw [rounds_succ]
  go_wp2
  go_ret
  exact ⟨rfl, rfl⟩
end Go.Proofs.YtfhakailbikjkaaGreatDoor
/- Literals are written: what the program appends for a byte, and the reference model's hexadecimal digit. No conditions. -/
namespace Go.Proofs.YtfhakailbikjkaaGreatDoor
open Go.RowKit
set_option linter.unusedVariables false

theorem plain_any (b : UInt8) (w : World) : Calls Tryz.prog 86 #[.int .u8 (b.toNat : Int)] w fun e w' => e = .returned (.bool (Lt.plain b)) ∧ w = w' := by
  cases hp : Lt.plain b
  · rcases (Lt.plain_no b).1 hp with h | h
    · have h1 : (b.toNat : Int) < 32 := by omega
      clear hp h
      go_enter Tryz.func86, Tryz.ntmps86
      go_wp2
      go_ret
      exact ⟨rfl, rfl⟩
    · have h1 : decide ((b.toNat : Int) ≤ 126) = false := by simp; omega
      have h2 : (32 : Int) ≤ b.toNat := by omega
      clear hp h
      go_enter Tryz.func86, Tryz.ntmps86
      go_wp2
      go_ret
      exact ⟨rfl, rfl⟩
  · obtain ⟨h1, h2⟩ := (Lt.plain_iff b).1 hp
    have h3 : (b.toNat : Int) ≤ 126 := by omega
    have h4 : (32 : Int) ≤ b.toNat := by omega
    clear hp h1 h2
    go_enter Tryz.func86, Tryz.ntmps86
    go_wp2
    go_ret
    exact ⟨rfl, rfl⟩
/-- A byte's part of a literal is appended. -/
def RetEl (base : Nat) (w : World) (m : List UInt8) (e : Ending) (w' : World) : Prop := ∃ v', e = .returned v' ∧ Own8 w' base v' m ∧ Below base w w'

theorem ne_int {a b : UInt8} (h : a ≠ b) : ((a.toNat : Int) == (b.toNat : Int)) = false := by
  have := Lt.ne_nat h
  simp; omega
theorem app_el1 (base : Nat) (v : Value) (l : List UInt8) (d b : UInt8) (w : World) (ho : Own8 w base v l) (hB : base ≤ w.heap.size) (hl : (l.length : Int) ≤ 10000000) (h1 : b = d) :
    Calls Tryz.prog 68 #[v, .int .u8 (b.toNat : Int), .int .u8 (d.toNat : Int)] w (RetEl base w (l ++ [92, b])) := by
  have HO := Lib.hid ho
  clear ho
  subst h1
  go_enter Tryz.func68, Tryz.ntmps68
  go_wp2_with ((at_builtin; refine wpList_app8 rfl _ _ rfl base _ l [92, b] rfl HO.out hB 2 rfl rfl (by omega) _ _ rfl ?_))
  intro v' w2 HO2 HB2
  go_wp2
  go_ret
  exact ⟨_, rfl, HO2.out, HB2.out⟩
theorem app_el2 (base : Nat) (v : Value) (l : List UInt8) (d b : UInt8) (w : World) (ho : Own8 w base v l) (hB : base ≤ w.heap.size) (hl : (l.length : Int) ≤ 10000000) (h1 : b ≠ d) (h2 : b = 92) :
    Calls Tryz.prog 68 #[v, .int .u8 (b.toNat : Int), .int .u8 (d.toNat : Int)] w (RetEl base w (l ++ [92, b])) := by
  have HO := Lib.hid ho
  clear ho
  have t1 := ne_int h1
  have t2 : ((b.toNat : Int) == 92) = true := by rw [h2]; rfl
  clear h1 h2
  go_enter Tryz.func68, Tryz.ntmps68
  go_wp2_with ((at_builtin; refine wpList_app8 rfl _ _ rfl base _ l [92, b] rfl HO.out hB 2 rfl rfl (by omega) _ _ rfl ?_))
  intro v' w2 HO2 HB2
  go_wp2
  go_ret
  exact ⟨_, rfl, HO2.out, HB2.out⟩
theorem app_el3 (base : Nat) (v : Value) (l : List UInt8) (d b : UInt8) (w : World) (ho : Own8 w base v l) (hB : base ≤ w.heap.size) (hl : (l.length : Int) ≤ 10000000) (h1 : b ≠ d) (h2 : b ≠ 92) (h3 : Lt.plain b = true) :
    Calls Tryz.prog 68 #[v, .int .u8 (b.toNat : Int), .int .u8 (d.toNat : Int)] w (RetEl base w (l ++ [b])) := by
  have HO := Lib.hid ho
  clear ho
  have t1 := ne_int h1
  have t2 : ((b.toNat : Int) == 92) = false := ne_int (b := 92) h2
  have HP := Lib.hid (fun W => plain_any b W)
  rw [h3] at HP
  clear h1 h2 h3
  go_enter Tryz.func68, Tryz.ntmps68
  go_wp2_with (first | (go_at_call 86; refine (HP.out _).mono ?_; rintro e w1 ⟨rfl, rfl⟩) | (at_builtin; refine wpList_app8 rfl _ _ rfl base _ l [b] rfl HO.out hB 1 rfl rfl (by omega) _ _ rfl ?_))
  intro v' w2 HO2 HB2
  go_wp2
  go_ret
  exact ⟨_, rfl, HO2.out, HB2.out⟩
theorem app_el4 (base : Nat) (v : Value) (l : List UInt8) (d b : UInt8) (w : World) (ho : Own8 w base v l) (hB : base ≤ w.heap.size) (hl : (l.length : Int) ≤ 10000000) (h1 : b ≠ d) (h3 : b = 10) :
    Calls Tryz.prog 68 #[v, .int .u8 (b.toNat : Int), .int .u8 (d.toNat : Int)] w (RetEl base w (l ++ [92, 110])) := by
  have HO := Lib.hid ho
  clear ho
  have t1 := ne_int h1
  have t2 : ((b.toNat : Int) == 92) = false := by rw [h3]; rfl
  have HP := Lib.hid (fun W => plain_any b W)
  rw [show Lt.plain b = false by rw [h3]; decide] at HP
  have t3 : ((b.toNat : Int) == 10) = true := by rw [h3]; rfl
  clear h1 h3
  go_enter Tryz.func68, Tryz.ntmps68
  go_wp2_with (first | (go_at_call 86; refine (HP.out _).mono ?_; rintro e w1 ⟨rfl, rfl⟩) | (at_builtin; refine wpList_app8 rfl _ _ rfl base _ l [92, 110] rfl HO.out hB 2 rfl rfl (by omega) _ _ rfl ?_))
  intro v' w2 HO2 HB2
  go_wp2
  go_ret
  exact ⟨_, rfl, HO2.out, HB2.out⟩
theorem app_el5 (base : Nat) (v : Value) (l : List UInt8) (d b : UInt8) (w : World) (ho : Own8 w base v l) (hB : base ≤ w.heap.size) (hl : (l.length : Int) ≤ 10000000) (h1 : b ≠ d) (h3 : b = 9) :
    Calls Tryz.prog 68 #[v, .int .u8 (b.toNat : Int), .int .u8 (d.toNat : Int)] w (RetEl base w (l ++ [92, 116])) := by
  have HO := Lib.hid ho
  clear ho
  have t1 := ne_int h1
  have t2 : ((b.toNat : Int) == 92) = false := by rw [h3]; rfl
  have HP := Lib.hid (fun W => plain_any b W)
  rw [show Lt.plain b = false by rw [h3]; decide] at HP
  have t3 : ((b.toNat : Int) == 10) = false := by rw [h3]; rfl
  have t4 : ((b.toNat : Int) == 9) = true := by rw [h3]; rfl
  clear h1 h3
  go_enter Tryz.func68, Tryz.ntmps68
  go_wp2_with (first | (go_at_call 86; refine (HP.out _).mono ?_; rintro e w1 ⟨rfl, rfl⟩) | (at_builtin; refine wpList_app8 rfl _ _ rfl base _ l [92, 116] rfl HO.out hB 2 rfl rfl (by omega) _ _ rfl ?_))
  intro v' w2 HO2 HB2
  go_wp2
  go_ret
  exact ⟨_, rfl, HO2.out, HB2.out⟩

/-- The digits. -/
def hexS : ByteArray := ⟨#[48, 49, 50, 51, 52, 53, 54, 55, 56, 57, 97, 98, 99, 100, 101, 102]⟩
theorem hexS_at (n : Nat) (h : n < 16) : hexS[n]'h = Lt.hexC n := by
  have h2 : ∀ k : Fin 16, hexS[k.val]'k.isLt = Lt.hexC k.val := by decide
  exact h2 ⟨n, h⟩

set_option maxHeartbeats 800000 in
theorem app_el6 (base : Nat) (v : Value) (l : List UInt8) (d b : UInt8) (w : World) (ho : Own8 w base v l) (hB : base ≤ w.heap.size) (hl : (l.length : Int) ≤ 10000000) (h1 : b ≠ d) (h2 : b ≠ 92) (h3 : Lt.plain b = false) (h4 : b ≠ 10) (h5 : b ≠ 9) :
    Calls Tryz.prog 68 #[v, .int .u8 (b.toNat : Int), .int .u8 (d.toNat : Int)] w (RetEl base w (l ++ [92, 120, Lt.hexC (b.toNat / 16), Lt.hexC (b.toNat % 16)])) := by
  have HO := Lib.hid ho
  clear ho
  have hb := UInt8.toNat_lt b
  have t1 := ne_int h1
  have t2 : ((b.toNat : Int) == 92) = false := ne_int (b := 92) h2
  have t3 : ((b.toNat : Int) == 10) = false := ne_int (b := 10) h4
  have t4 : ((b.toNat : Int) == 9) = false := ne_int (b := 9) h5
  have HP := Lib.hid (fun W => plain_any b W)
  rw [h3] at HP
  clear h1 h2 h3 h4 h5
  obtain ⟨p, hp⟩ : ∃ p, p = b.toNat / 16 := ⟨_, rfl⟩
  obtain ⟨q, hq⟩ : ∃ q, q = b.toNat % 16 := ⟨_, rfl⟩
  have hp2 : p < 16 := by omega
  have hq2 : q < 16 := by omega
  have HX := Lib.hid (hexS_at p hp2)
  have HY := Lib.hid (hexS_at q hq2)
  rw [← hp, ← hq]
  have e0 : IntKind.i64.wrap (b.toNat : Int) = b.toNat := IntWalk.i64_in _ (by omega)
  have e1 : (b.toNat : Int).tdiv 16 = p := by rw [Int.tdiv_eq_ediv_of_nonneg (by omega)]; omega
  have e2 : (b.toNat : Int).tmod 16 = q := by rw [Int.tmod_eq_emod_of_nonneg (by omega)]; omega
  have e3 : IntKind.i64.wrap (p : Int) = p := IntWalk.i64_in _ (by omega)
  have e4 : IntKind.i64.wrap (q : Int) = q := IntWalk.i64_in _ (by omega)
  have i1 : (0 : Int) ≤ p := by omega
  have i2 : (0 : Int) ≤ q := by omega
  have i3 : (p : Int) < 16 := by omega
  have i4 : (q : Int) < 16 := by omega
  clear hp hq
  go_enter Tryz.func68, Tryz.ntmps68
  go_wp2_with ((go_at_call 86; refine (HP.out _).mono ?_; rintro e w1 ⟨rfl, rfl⟩))
  go_region_law (refine step_app8d rfl (.tmp 38) (.tmp 47) rfl base v l [92, 120, hexS[p]'hp2, hexS[q]'hq2] (by simp [Act.eval]) HO.out hB 4 rfl (by simp [Act.eval]) (by omega) _ _ rfl ?_; intro v' w2 HO2 HB2)
  all_goals
    rw [HX.out, HY.out] at HO2
    simp only [List.getElem_toArray, List.getElem_cons_succ, List.getElem_cons_zero, Act.put, List.setIfInBounds_toArray, List.set_cons_succ, List.set_cons_zero]
    first
      | (go_ret; exact ⟨_, rfl, HO2.out, HB2.out⟩)
      | (go_wp2; go_ret; exact ⟨_, rfl, HO2.out, HB2.out⟩)

/-- What the program appends for a byte. -/
theorem app_el (base : Nat) (v : Value) (l : List UInt8) (d b : UInt8) (w : World) (ho : Own8 w base v l) (hB : base ≤ w.heap.size) (hl : (l.length : Int) ≤ 10000000) :
    Calls Tryz.prog 68 #[v, .int .u8 (b.toNat : Int), .int .u8 (d.toNat : Int)] w (RetEl base w (l ++ Lt.el d b)) := by
  rcases Lt.el_cases d b with ⟨h1, e⟩ | ⟨h1, h2, e⟩ | ⟨h1, h2, h3, h4, e⟩ | ⟨h1, h2, e⟩ | ⟨h1, h2, e⟩ | ⟨h1, h2, h3, h4, h5, e⟩ | ⟨h1, h2, h3, h4, h5, e⟩ <;> rw [e]
  · exact app_el1 base v l d b w ho hB hl h1
  · exact app_el2 base v l d b w ho hB hl h1 h2
  · exact app_el3 base v l d b w ho hB hl h1 h2 ((Lt.plain_iff b).2 ⟨h3, h4⟩)
  · exact app_el4 base v l d b w ho hB hl h1 h2
  · exact app_el5 base v l d b w ho hB hl h1 h2
  · exact app_el6 base v l d b w ho hB hl h1 h2 ((Lt.plain_no b).2 (.inl h5)) h3 h4
  · exact app_el6 base v l d b w ho hB hl h1 h2 ((Lt.plain_no b).2 (.inr h5)) h3 h4
end Go.Proofs.YtfhakailbikjkaaGreatDoor
