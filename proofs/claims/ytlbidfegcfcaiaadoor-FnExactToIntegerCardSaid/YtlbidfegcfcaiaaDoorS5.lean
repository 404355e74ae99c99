/- ToInteger of the program and of the reference model, its law. No conditions. -/
import Derived.Test.YtlbidfegcfcaiaaDoorS2
import Derived.Test.YtlbidfegcfcaiaaDoorI2
namespace Go.Proofs.YtlbidfegcfcaiaaDoor
open Go.RowKit
set_option linter.unusedVariables false

/-- An integer and a bool are returned. -/
def RetIB (w : World) (x : Int) (b : Bool) (e : Ending) (w' : World) : Prop := e = .returned (.tuple #[.int .i64 x, .bool b]) ∧ Below w.heap.size w w'
/-- The text trimmed. -/
def tr (s : ByteArray) : List UInt8 := Lib.trimB s.data.toList 32
theorem comp_int_yes (k n i : Int) (t : ByteArray) (a b : Int) (s : ByteArray) (hT : ∀ W, Calls Tryd.prog 8 #[vlV k n i t a b] W (RetTx W s true)) (hs : (s.size : Int) ≤ 1048576) (w : World) : Calls Tryd.prog 21 #[vlV k n i t a b, .func (.func 8) #[] #[], .func (.func 22) #[] #[]] w (RetIB w (itV (tr s)) (itB (tr s))) := by
  have HT := Lib.hid hT
  have HN := Lib.hid (fun W => impl_it s W hs)
  clear hT hs
  unfold RetIt at HN
  unfold tr
  generalize Lib.trimB s.data.toList 32 = T at HN ⊢
  generalize itV T = x at HN ⊢
  generalize itB T = ok at HN ⊢
  unfold RetTx at HT
  unfold RetIB
  unfold vlV at HT ⊢
  go_enter Tryd.func21, Tryd.ntmps21
  go_wp2_with fail
  (with_reducible refine (HT.out _).mono ?_)
  rintro e w1 ⟨rfl, b1⟩
  have HB := Lib.hid (below_then (bl1 _ _) b1)
  clear b1
  go_wp2_with fail
  (with_reducible refine (HN.out _).mono ?_)
  rintro e w2 ⟨rfl, b2⟩
  have HB2 := Lib.hid (below_then HB.out b2)
  clear b2
  go_wp2
  go_ret2
  exact ⟨rfl, HB2.out⟩
theorem comp_int_no (k n i : Int) (t : ByteArray) (a b : Int) (hT : ∀ W, Calls Tryd.prog 8 #[vlV k n i t a b] W (RetTx W ⟨#[]⟩ false)) (w : World) : Calls Tryd.prog 21 #[vlV k n i t a b, .func (.func 8) #[] #[], .func (.func 22) #[] #[]] w (RetIB w 0 false) := by
  have HT := Lib.hid hT
  clear hT
  unfold RetTx at HT
  unfold RetIB
  unfold vlV at HT ⊢
  go_enter Tryd.func21, Tryd.ntmps21
  go_wp2_with fail
  (with_reducible refine (HT.out _).mono ?_)
  rintro e w1 ⟨rfl, b1⟩
  have HB := Lib.hid (below_then (bl1 _ _) b1)
  clear b1
  go_wp2
  go_ret2
  exact ⟨rfl, HB.out⟩
/-- The integer to which a value converts. -/
def Cv.intV (k n : Int) (t : ByteArray) (a b : Int) : Int := if k = 1 then n else if Cv.ok k a b = true then itV (tr (Cv.txt k n t a b)) else 0
def Cv.intB (k n : Int) (t : ByteArray) (a b : Int) : Bool := if k = 1 then true else if Cv.ok k a b = true then itB (tr (Cv.txt k n t a b)) else false
theorem Cv.none (k n : Int) (t : ByteArray) (a b : Int) (h : Cv.ok k a b = false) : Cv.txt k n t a b = ⟨#[]⟩ := by
  rcases Cv.cases k n t a b with ⟨_, _, e2⟩ | ⟨_, _, e2⟩ | ⟨_, _, _, e2⟩ | ⟨_, _, e1, _⟩ | ⟨_, _, _, e1, _⟩
  · rw [h] at e2; cases e2
  · rw [h] at e2; cases e2
  · rw [h] at e2; cases e2
  · exact e1
  · exact e1
theorem impl_toint (k n i : Int) (t : ByteArray) (a b : Int) (hn0 : -9223372036854775808 ≤ n) (hn1 : n ≤ 9223372036854775807) (ht : (t.size : Int) ≤ 1048576) (w : World) : Calls Tryd.prog 10 #[vlV k n i t a b] w (RetIB w (Cv.intV k n t a b) (Cv.intB k n t a b)) := by
  have hI := fun W => impl_totext k n i t a b hn0 hn1 (by omega) W
  have hz := Cv.short k n t a b hn0 hn1 ht
  by_cases hk : k = 1
  · unfold Cv.intV Cv.intB
    rw [if_pos hk, if_pos hk]
    subst hk
    clear hI hz
    unfold RetIB vlV
    go_enter Tryd.func10, Tryd.ntmps10
    go_wp2
    go_ret2
    exact ⟨rfl, bl1 _ _⟩
  · obtain ⟨x, ok, HC, e1, e2⟩ : ∃ (x : Int) (ok : Bool), Hid (∀ W, Calls Tryd.prog 21 #[vlV k n i t a b, .func (.func 8) #[] #[], .func (.func 22) #[] #[]] W (RetIB W x ok)) ∧ Cv.intV k n t a b = x ∧ Cv.intB k n t a b = ok := by
      unfold Cv.intV Cv.intB
      rw [if_neg hk, if_neg hk]
      cases ho : Cv.ok k a b with
      | true =>
        rw [ho] at hI
        exact ⟨_, _, Lib.hid (fun W => comp_int_yes k n i t a b _ hI hz W), by rw [if_pos rfl], by rw [if_pos rfl]⟩
      | false =>
        rw [ho, Cv.none k n t a b ho] at hI
        exact ⟨0, false, Lib.hid (fun W => comp_int_no k n i t a b hI W), by rw [if_neg (by simp)], by rw [if_neg (by simp)]⟩
    rw [e1, e2]
    clear e1 e2 hI hz hn0 hn1 ht
    have hk2 : (k == 1) = false := by rw [beq_eq_false_iff_ne]; exact hk
    clear hk
    unfold RetIB at HC ⊢
    unfold vlV at HC ⊢
    go_enter Tryd.func10, Tryd.ntmps10
    go_wp2_with fail
    (with_reducible refine (HC.out _).mono ?_)
    rintro e w1 ⟨rfl, b1⟩
    have HB := Lib.hid (below_then (bl1 _ _) b1)
    clear b1
    go_wp2
    go_ret2
    exact ⟨rfl, HB.out⟩
theorem spec_toint (k n i : Int) (t : ByteArray) (a b : Int) (hn0 : -9223372036854775808 ≤ n) (hn1 : n ≤ 9223372036854775807) (ht : (t.size : Int) ≤ 1048576) (w : World) : Calls Tryd.prog 13 #[vlV k n i t a b] w (RetIB w (Cv.intV k n t a b) (Cv.intB k n t a b)) := by
  have HT := Lib.hid (fun W => spec_totext k n i t a b hn0 hn1 W)
  have hz := Cv.short k n t a b hn0 hn1 ht
  have HN := Lib.hid (fun W => spec_it (Cv.txt k n t a b) W hz)
  by_cases hk : k = 1
  · unfold Cv.intV Cv.intB
    rw [if_pos hk, if_pos hk]
    subst hk
    clear HT hz HN
    unfold RetIB vlV
    go_enter Tryd.func13, Tryd.ntmps13
    go_wp2
    go_ret2
    exact ⟨rfl, bl1 _ _⟩
  · have hk2 : (k == 1) = false := by rw [beq_eq_false_iff_ne]; exact hk
    unfold Cv.intV Cv.intB tr
    rw [if_neg hk, if_neg hk]
    clear hk hz hn0 hn1 ht
    generalize Cv.txt k n t a b = s at HT HN ⊢
    generalize Lib.trimB s.data.toList 32 = T at HN ⊢
    generalize itV T = x at HN ⊢
    generalize itB T = ok at HN ⊢
    unfold RetIB
    unfold RetTx at HT
    unfold vlV at HT ⊢
    cases ho : Cv.ok k a b with
    | true =>
      rw [ho] at HT
      rw [if_pos rfl, if_pos rfl]
      clear ho
      go_enter Tryd.func13, Tryd.ntmps13
      go_wp2_with fail
      (with_reducible refine (HT.out _).mono ?_)
      rintro e w1 ⟨rfl, b1⟩
      have HB := Lib.hid (below_then (bl1 _ _) b1)
      clear b1
      go_wp2_with fail
      (with_reducible refine (HN.out _).mono ?_)
      rintro e w2 ⟨rfl, rfl⟩
      go_wp2
      go_ret2
      exact ⟨rfl, HB.out⟩
    | false =>
      rw [ho] at HT
      rw [if_neg (by simp), if_neg (by simp)]
      clear ho HN
      go_enter Tryd.func13, Tryd.ntmps13
      go_wp2_with fail
      (with_reducible refine (HT.out _).mono ?_)
      rintro e w1 ⟨rfl, b1⟩
      have HB := Lib.hid (below_then (bl1 _ _) b1)
      clear b1
      go_wp2
      go_ret2
      exact ⟨rfl, HB.out⟩
set_option maxHeartbeats 800000 in
theorem FnExactToInteger_walk (k n i : Int) (t : ByteArray) (a b : Int) (wk : (Lit.int .i64 k).wf = true) (wn : (Lit.int .i64 n).wf = true) (wi : (Lit.int .i64 i).wf = true) (wt : t.size ≤ maxLen) (w : World) : Calls Tryd.prog 4 #[vlV k n i t a b] w fun e w' => e = .returned (.bool true) ∧ Below w.heap.size w w' := by
  obtain ⟨hn0, hn1⟩ := int_bounds wn
  clear wk wn wi
  have HZ := Lib.hid (fun W => sz_val k n i t a b W wt)
  have HT := Lib.hid (fun W => to_val k n i t a b W)
  have V0 := Lib.hid (Var.new w #[.int .i64 k, .int .i64 n, .int .i64 i, .string t, .int .i64 a, .int .i64 b] 39)
  by_cases h : (t.size : Int) ≤ 1048576
  · rw [if_pos h] at HZ
    have hm : ¬ (1048576 - (t.size : Int)) < 0 := by omega
    have HS := Lib.hid (fun W => spec_toint k n i t a b hn0 hn1 h W)
    have HI := Lib.hid (fun W => impl_toint k n i t a b hn0 hn1 h W)
    generalize Cv.intV k n t a b = x at HS HI
    generalize Cv.intB k n t a b = ok at HS HI
    unfold RetIB at HS HI
    clear hn0 hn1
    unfold vlV at HZ HT HS HI ⊢
    go_enter Tryd.func4, Tryd.ntmps4
    go_wp2_with fail
    (with_reducible refine (HZ.out _).mono ?_)
    rintro e w1 ⟨rfl, b1⟩
    have B1 := Lib.hid (below_then (bl1 _ _) b1)
    have V1 := Lib.hid (V0.out.later b1)
    clear b1
    obtain ⟨c0, _⟩ := V1.out 0 _ rfl
    obtain ⟨c1, _⟩ := V1.out 1 _ rfl
    obtain ⟨c2, _⟩ := V1.out 2 _ rfl
    obtain ⟨c3, _⟩ := V1.out 3 _ rfl
    obtain ⟨c4, _⟩ := V1.out 4 _ rfl
    obtain ⟨c5, _⟩ := V1.out 5 _ rfl
    go_wp2_with fail
    (with_reducible refine (HT.out _).mono ?_)
    rintro e w2 ⟨rfl, b2⟩
    have B2 := Lib.hid (below_then B1.out b2)
    have V2 := Lib.hid (V1.out.later b2)
    clear b2 c0 c1 c2 c3 c4 c5
    go_wp2_with fail
    (with_reducible refine (HS.out _).mono ?_)
    rintro e w3 ⟨rfl, b3⟩
    have B3 := Lib.hid (below_then B2.out b3)
    have V3 := Lib.hid (V2.out.later b3)
    clear b3
    obtain ⟨c0, _⟩ := V3.out 0 _ rfl
    obtain ⟨c1, _⟩ := V3.out 1 _ rfl
    obtain ⟨c2, _⟩ := V3.out 2 _ rfl
    obtain ⟨c3, _⟩ := V3.out 3 _ rfl
    obtain ⟨c4, _⟩ := V3.out 4 _ rfl
    obtain ⟨c5, _⟩ := V3.out 5 _ rfl
    go_wp2_with fail
    (with_reducible refine (HT.out _).mono ?_)
    rintro e w4 ⟨rfl, b4⟩
    have B4 := Lib.hid (below_then B3.out b4)
    clear b4 c0 c1 c2 c3 c4 c5
    go_wp2_with fail
    (with_reducible refine (HI.out _).mono ?_)
    rintro e w5 ⟨rfl, b5⟩
    have B5 := Lib.hid (below_then B4.out b5)
    clear b5
    go_wp2
    all_goals go_ret
    all_goals exact ⟨rfl, B5.out⟩
  · rw [if_neg h] at HZ
    clear hn0 hn1
    unfold vlV at HZ HT ⊢
    go_enter Tryd.func4, Tryd.ntmps4
    go_wp2_with fail
    (with_reducible refine (HZ.out _).mono ?_)
    rintro e w1 ⟨rfl, b1⟩
    have B1 := Lib.hid (below_then (bl1 _ _) b1)
    clear b1
    go_wp2
    go_ret
    exact ⟨rfl, B1.out⟩
end Go.Proofs.YtlbidfegcfcaiaaDoor
