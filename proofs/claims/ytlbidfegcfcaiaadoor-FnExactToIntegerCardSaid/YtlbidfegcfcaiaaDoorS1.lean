/- ToText of the program and of the reference model. No conditions. -/
import Derived.Test.YtlbidfegcfcaiaaDoorC8
import Derived.Test.YtlbidfegcfcaiaaDoorO1
import Derived.Test.YtlbidfegcfcaiaaDoorO70
import Derived.Test.YtlbidfegcfcaiaaDoorW1
import Derived.Test.YtlbidfegcfcaiaaDoorW2
namespace Go.Proofs.YtlbidfegcfcaiaaDoor
open Go.RowKit
set_option linter.unusedVariables false

/-- The string to which a value converts, and whether it does. -/
def Cv.txt (k n : Int) (t : ByteArray) (a b : Int) : ByteArray := if k = 1 then ⟨(Dec.fmt n).toArray⟩ else if k = 2 then t else if k = 3 then (if ((Cs.text a b).length : Int) ≤ 120 then Go.Proofs.YtlbidfegcfcaiaaDoor.txt (Cs.text a b) else ⟨#[]⟩) else ⟨#[]⟩
def Cv.ok (k a b : Int) : Bool := if k = 1 then true else if k = 2 then true else if k = 3 then decide (((Cs.text a b).length : Int) ≤ 120) else false
/-- A text and a bool are returned. -/
def RetTx (w : World) (s : ByteArray) (b : Bool) (e : Ending) (w' : World) : Prop := e = .returned (.tuple #[.string s, .bool b]) ∧ Below w.heap.size w w'
theorem Cv.cases (k n : Int) (t : ByteArray) (a b : Int) : (k = 1 ∧ Cv.txt k n t a b = ⟨(Dec.fmt n).toArray⟩ ∧ Cv.ok k a b = true) ∨ (k = 2 ∧ Cv.txt k n t a b = t ∧ Cv.ok k a b = true) ∨ (k = 3 ∧ ((Cs.text a b).length : Int) ≤ 120 ∧ Cv.txt k n t a b = Go.Proofs.YtlbidfegcfcaiaaDoor.txt (Cs.text a b) ∧ Cv.ok k a b = true) ∨ (k = 3 ∧ 120 < ((Cs.text a b).length : Int) ∧ Cv.txt k n t a b = ⟨#[]⟩ ∧ Cv.ok k a b = false) ∨ (k ≠ 1 ∧ k ≠ 2 ∧ k ≠ 3 ∧ Cv.txt k n t a b = ⟨#[]⟩ ∧ Cv.ok k a b = false) := by
  unfold Cv.txt Cv.ok
  by_cases h1 : k = 1
  · exact .inl ⟨h1, if_pos h1, if_pos h1⟩
  · by_cases h2 : k = 2
    · exact .inr (.inl ⟨h2, by rw [if_neg h1, if_pos h2], by rw [if_neg h1, if_pos h2]⟩)
    · by_cases h3 : k = 3
      · by_cases hl : ((Cs.text a b).length : Int) ≤ 120
        · exact .inr (.inr (.inl ⟨h3, hl, by rw [if_neg h1, if_neg h2, if_pos h3, if_pos hl], by rw [if_neg h1, if_neg h2, if_pos h3, decide_eq_true hl]⟩))
        · exact .inr (.inr (.inr (.inl ⟨h3, by omega, by rw [if_neg h1, if_neg h2, if_pos h3, if_neg hl], by rw [if_neg h1, if_neg h2, if_pos h3, decide_eq_false hl]⟩)))
      · exact .inr (.inr (.inr (.inr ⟨h1, h2, h3, by rw [if_neg h1, if_neg h2, if_neg h3], by rw [if_neg h1, if_neg h2, if_neg h3]⟩)))

theorem impl_short_no (a b : Int) (hl : 120 < ((Cs.text a b).length : Int)) (w : World) : Calls Tryd.prog 20 #[.agg #[.int .i64 a, .int .i64 b]] w (RetTx w ⟨#[]⟩ false) := by
  have HZ := Lib.hid (fun W => impl_size a b W)
  generalize ((Cs.text a b).length : Nat) = m at HZ hl
  unfold RetTx
  go_enter Tryd.func20, Tryd.ntmps20
  go_wp2_with fail
  (with_reducible refine (HZ.out _).mono ?_)
  rintro e w1 ⟨rfl, b1⟩
  have B1 := Lib.hid (below_then (bl1 _ _) b1)
  clear b1
  go_wp2
  go_ret2
  exact ⟨rfl, B1.out⟩
theorem impl_short_yes (a b : Int) (hl : ((Cs.text a b).length : Int) ≤ 120) (w : World) : Calls Tryd.prog 20 #[.agg #[.int .i64 a, .int .i64 b]] w (RetTx w (txt (Cs.text a b)) true) := by
  have HZ := Lib.hid (fun W => impl_size a b W)
  have HT := Lib.hid (fun W => impl_text a b W)
  generalize txt (Cs.text a b) = s at HT
  generalize ((Cs.text a b).length : Nat) = m at HZ hl
  have hl2 : ¬ 120 < (m : Int) := by omega
  unfold RetText at HT
  unfold RetTx
  clear hl
  have V0 := Lib.hid (Var.new w #[.int .i64 a, .int .i64 b] 26)
  go_enter Tryd.func20, Tryd.ntmps20
  go_wp2_with fail
  (with_reducible refine (HZ.out _).mono ?_)
  rintro e w1 ⟨rfl, b1⟩
  have B1 := Lib.hid (below_then (bl1 _ _) b1)
  have V1 := V0.out.later b1
  obtain ⟨c0, _⟩ := V1 0 _ rfl
  obtain ⟨c1, _⟩ := V1 1 _ rfl
  clear b1 V1
  go_wp2_with fail
  (with_reducible refine (HT.out _).mono ?_)
  rintro e w2 ⟨rfl, b2⟩
  have B2 := Lib.hid (below_then B1.out b2)
  clear b2
  go_wp2
  go_ret2
  exact ⟨rfl, B2.out⟩
theorem impl_totext (k n i : Int) (t : ByteArray) (a b : Int) (hn0 : -9223372036854775808 ≤ n) (hn1 : n ≤ 9223372036854775807) (ht : t.size ≤ 1048576) (w : World) : Calls Tryd.prog 8 #[vlV k n i t a b] w (RetTx w (Cv.txt k n t a b) (Cv.ok k a b)) := by
  unfold RetTx vlV
  rcases Cv.cases k n t a b with ⟨hk, e1, e2⟩ | ⟨hk, e1, e2⟩ | ⟨hk, hl, e1, e2⟩ | ⟨hk, hl, e1, e2⟩ | ⟨h1, h2, h3, e1, e2⟩
  · rw [e1, e2]
    clear e1 e2
    subst hk
    have HF := Lib.hid (fun W => impl_fmt n W hn0 hn1)
    clear hn0 hn1
    generalize (⟨(Dec.fmt n).toArray⟩ : ByteArray) = s at HF
    go_enter Tryd.func8, Tryd.ntmps8
    go_wp2_with fail
    (with_reducible refine (HF.out _).mono ?_)
    rintro e w1 ⟨rfl, b1⟩
    have B1 := Lib.hid (below_then (bl1 _ _) b1)
    clear b1
    go_wp2
    go_ret2
    exact ⟨rfl, B1.out⟩
  · rw [e1, e2]
    clear e1 e2
    subst hk
    have HF := Lib.hid (fun W => val_clone t W (by omega))
    clear ht
    go_enter Tryd.func8, Tryd.ntmps8
    go_wp2_with fail
    (with_reducible refine (HF.out _).mono ?_)
    rintro e w1 ⟨rfl, b1⟩
    have B1 := Lib.hid (below_then (bl1 _ _) b1)
    clear b1
    go_wp2
    go_ret2
    exact ⟨rfl, B1.out⟩
  · rw [e1, e2]
    clear e1 e2
    subst hk
    have HF := Lib.hid (fun W => impl_short_yes a b hl W)
    clear hl
    unfold RetTx at HF
    generalize txt (Cs.text a b) = s at HF
    go_enter Tryd.func8, Tryd.ntmps8
    go_wp2_with fail
    (with_reducible refine (HF.out _).mono ?_)
    rintro e w1 ⟨rfl, b1⟩
    have B1 := Lib.hid (below_then (bl1 _ _) b1)
    clear b1
    go_wp2
    go_ret2
    exact ⟨rfl, B1.out⟩
  · rw [e1, e2]
    clear e1 e2
    subst hk
    have HF := Lib.hid (fun W => impl_short_no a b hl W)
    clear hl
    unfold RetTx at HF
    go_enter Tryd.func8, Tryd.ntmps8
    go_wp2_with fail
    (with_reducible refine (HF.out _).mono ?_)
    rintro e w1 ⟨rfl, b1⟩
    have B1 := Lib.hid (below_then (bl1 _ _) b1)
    clear b1
    go_wp2
    go_ret2
    exact ⟨rfl, B1.out⟩
  · rw [e1, e2]
    clear e1 e2
    go_enter Tryd.func8, Tryd.ntmps8
    go_wp2
    go_ret2
    exact ⟨rfl, bl1 _ _⟩
theorem spec_totext (k n i : Int) (t : ByteArray) (a b : Int) (hn0 : -9223372036854775808 ≤ n) (hn1 : n ≤ 9223372036854775807) (w : World) : Calls Tryd.prog 28 #[vlV k n i t a b] w (RetTx w (Cv.txt k n t a b) (Cv.ok k a b)) := by
  unfold RetTx vlV
  have hz := txt_size (Cs.text a b)
  rcases Cv.cases k n t a b with ⟨hk, e1, e2⟩ | ⟨hk, e1, e2⟩ | ⟨hk, hl, e1, e2⟩ | ⟨hk, hl, e1, e2⟩ | ⟨h1, h2, h3, e1, e2⟩
  · rw [e1, e2]
    clear e1 e2 hz
    subst hk
    have HF := Lib.hid (fun W => spec_fmt n W hn0 hn1)
    clear hn0 hn1
    generalize (⟨(Dec.fmt n).toArray⟩ : ByteArray) = s at HF
    go_enter Tryd.func28, Tryd.ntmps28
    go_wp2_with fail
    (with_reducible refine (HF.out _).mono ?_)
    rintro e w1 ⟨rfl, b1⟩
    have B1 := Lib.hid (below_then (bl1 _ _) b1)
    clear b1
    go_wp2
    go_ret2
    exact ⟨rfl, B1.out⟩
  · rw [e1, e2]
    clear e1 e2 hz
    subst hk
    go_enter Tryd.func28, Tryd.ntmps28
    go_wp2
    go_ret2
    exact ⟨rfl, bl1 _ _⟩
  · rw [e1, e2]
    clear e1 e2
    subst hk
    have HF := Lib.hid (fun W => spec_text a b W)
    unfold RetText at HF
    rw [← hz] at hl
    clear hz
    generalize txt (Cs.text a b) = s at HF hl
    go_enter Tryd.func28, Tryd.ntmps28
    go_wp2_with fail
    (with_reducible refine (HF.out _).mono ?_)
    rintro e w1 ⟨rfl, b1⟩
    have B1 := Lib.hid (below_then (bl1 _ _) b1)
    clear b1
    go_wp2
    go_ret2
    exact ⟨rfl, B1.out⟩
  · rw [e1, e2]
    clear e1 e2
    subst hk
    have HF := Lib.hid (fun W => spec_text a b W)
    unfold RetText at HF
    rw [← hz] at hl
    clear hz
    generalize txt (Cs.text a b) = s at HF hl
    have hl2 : ¬ (s.size : Int) ≤ 120 := by omega
    clear hl
    go_enter Tryd.func28, Tryd.ntmps28
    go_wp2_with fail
    (with_reducible refine (HF.out _).mono ?_)
    rintro e w1 ⟨rfl, b1⟩
    have B1 := Lib.hid (below_then (bl1 _ _) b1)
    clear b1
    go_wp2
    go_ret2
    exact ⟨rfl, B1.out⟩
  · rw [e1, e2]
    clear e1 e2 hz
    go_enter Tryd.func28, Tryd.ntmps28
    go_wp2
    go_ret2
    exact ⟨rfl, bl1 _ _⟩
/-- How long the string is. -/
theorem Cv.short (k n : Int) (t : ByteArray) (a b : Int) (hn0 : -9223372036854775808 ≤ n) (hn1 : n ≤ 9223372036854775807) (ht : (t.size : Int) ≤ 1048576) : ((Cv.txt k n t a b).size : Int) ≤ 1048576 := by
  rcases Cv.cases k n t a b with ⟨hk, e1, e2⟩ | ⟨hk, e1, e2⟩ | ⟨hk, hl, e1, e2⟩ | ⟨hk, hl, e1, e2⟩ | ⟨h1, h2, h3, e1, e2⟩
  · rw [e1]
    have h : (Dec.fmt n).length ≤ 21 := by
      unfold Dec.fmt
      have := Dec.digs_lt 20 n.natAbs (Nat.lt_of_le_of_lt (show n.natAbs ≤ 9223372036854775808 by omega) (by decide))
      split
      · simp
      · split
        · simp; omega
        · omega
    have e : (⟨(Dec.fmt n).toArray⟩ : ByteArray).size = (Dec.fmt n).length := by simp [ByteArray.size]
    rw [e]; omega
  · rw [e1]; exact ht
  · rw [e1, txt_size]; omega
  · rw [e1]; decide
  · rw [e1]; decide
end Go.Proofs.YtlbidfegcfcaiaaDoor
