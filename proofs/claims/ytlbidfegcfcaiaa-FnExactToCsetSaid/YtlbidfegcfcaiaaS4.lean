/- ToCset of the program and of the reference model, its law. No conditions. -/
import Derived.Test.YtlbidfegcfcaiaaS2
import Derived.Test.YtlbidfegcfcaiaaC10
namespace Go.Proofs.Ytlbidfegcfcaiaa
open Go.RowKit
set_option linter.unusedVariables false

theorem comp_set_yes (k n i : Int) (t : ByteArray) (a b : Int) (s : ByteArray) (hT : ∀ W, Calls Try.prog 8 #[vlV k n i t a b] W (RetTx W s true)) (hs : s.size ≤ maxLen) (w : World) : Calls Try.prog 19 #[vlV k n i t a b, .func (.func 8) #[] #[], .func (.func 20) #[] #[]] w (RetNew w (Cs.newL s) (Cs.newH s) (Cs.good s)) := by
  have HT := Lib.hid hT
  have HN := Lib.hid (fun W => impl_new s hs W)
  clear hT hs
  generalize Cs.newL s = x at HN ⊢
  generalize Cs.newH s = y at HN ⊢
  generalize Cs.good s = ok at HN ⊢
  unfold RetTx at HT
  unfold RetNew at HN ⊢
  unfold vlV at HT ⊢
  go_enter Try.func19, Try.ntmps19
  go_wp2_with fail
  (with_reducible refine (HT.out _).mono ?_)
  rintro e w1 ⟨rfl, b1⟩
  obtain ⟨_, V2, B1⟩ := two_vars b1
  have HV := Lib.hid V2
  have HB := Lib.hid B1
  clear V2 B1 b1
  go_wp2_with fail
  (with_reducible refine (HN.out _).mono ?_)
  rintro e w2 ⟨rfl, b2⟩
  have V3 := HV.out.later b2
  have HB2 := Lib.hid (below_then HB.out b2)
  obtain ⟨d0, g0⟩ := V3 0 _ rfl
  obtain ⟨d1, g1⟩ := V3 1 _ rfl
  clear V3 b2
  go_wp2
  exact bodyPost_ret (v := .tuple #[.agg #[.int .i64 x, .int .i64 y], .bool ok]) (by simp [results, Try.results19, go_sem, d0, d1]) rfl ⟨rfl, (HB2.out.setCell (p := ⟨w.heap.size + 1, 0, none⟩) (Nat.le_succ _) _).setCell (p := ⟨w.heap.size + 1, 1, none⟩) (Nat.le_succ _) _⟩
theorem comp_set_no (k n i : Int) (t : ByteArray) (a b : Int) (hT : ∀ W, Calls Try.prog 8 #[vlV k n i t a b] W (RetTx W ⟨#[]⟩ false)) (w : World) : Calls Try.prog 19 #[vlV k n i t a b, .func (.func 8) #[] #[], .func (.func 20) #[] #[]] w (RetNew w 0 0 false) := by
  have HT := Lib.hid hT
  clear hT
  unfold RetTx at HT
  unfold RetNew
  unfold vlV at HT ⊢
  go_enter Try.func19, Try.ntmps19
  go_wp2_with fail
  (with_reducible refine (HT.out _).mono ?_)
  rintro e w1 ⟨rfl, b1⟩
  obtain ⟨_, V2, B1⟩ := two_vars b1
  have HB := Lib.hid B1
  have hlt : w.heap.size + 1 < w1.heap.size := V2.lt
  have hx : ¬ w.heap.size + 1 = w1.heap.size := by omega
  have hy : ¬ w1.heap.size = w.heap.size + 1 := by omega
  have V3 := V2.later (bl1 w1 (.cells #[.int .i64 0, .int .i64 0] 29))
  have HB2 := Lib.hid (below_then B1 (bl1 w1 (.cells #[.int .i64 0, .int .i64 0] 29)))
  obtain ⟨d0, g0⟩ := V3 0 _ rfl
  obtain ⟨d1, g1⟩ := V3 1 _ rfl
  clear V2 V3 B1 b1 hlt
  go_wp2
  exact bodyPost_ret (v := .tuple #[.agg #[.int .i64 0, .int .i64 0], .bool false]) (by simp [results, Try.results19, go_sem, d0, d1]) rfl ⟨rfl, (HB2.out.setCell (p := ⟨w.heap.size + 1, 0, none⟩) (Nat.le_succ _) _).setCell (p := ⟨w.heap.size + 1, 1, none⟩) (Nat.le_succ _) _⟩
/-- The set to which a value converts. -/
def Cv.setL (k n : Int) (t : ByteArray) (a b : Int) : Int := if k = 3 then a else if Cv.ok k a b = true then Cs.newL (Cv.txt k n t a b) else 0
def Cv.setH (k n : Int) (t : ByteArray) (a b : Int) : Int := if k = 3 then b else if Cv.ok k a b = true then Cs.newH (Cv.txt k n t a b) else 0
def Cv.setB (k n : Int) (t : ByteArray) (a b : Int) : Bool := if k = 3 then true else if Cv.ok k a b = true then Cs.good (Cv.txt k n t a b) else false
theorem Cv.none (k n : Int) (t : ByteArray) (a b : Int) (h : Cv.ok k a b = false) : Cv.txt k n t a b = ⟨#[]⟩ := by
  rcases Cv.cases k n t a b with ⟨_, _, e2⟩ | ⟨_, _, e2⟩ | ⟨_, _, _, e2⟩ | ⟨_, _, e1, _⟩ | ⟨_, _, _, e1, _⟩
  · rw [h] at e2; cases e2
  · rw [h] at e2; cases e2
  · rw [h] at e2; cases e2
  · exact e1
  · exact e1
theorem impl_toset (k n i : Int) (t : ByteArray) (a b : Int) (hn0 : -9223372036854775808 ≤ n) (hn1 : n ≤ 9223372036854775807) (ht : (t.size : Int) ≤ 1048576) (w : World) : Calls Try.prog 10 #[vlV k n i t a b] w (RetNew w (Cv.setL k n t a b) (Cv.setH k n t a b) (Cv.setB k n t a b)) := by
  have hI := fun W => impl_totext k n i t a b hn0 hn1 (by omega) W
  have hz := Cv.short k n t a b hn0 hn1 ht
  have hs : (Cv.txt k n t a b).size ≤ maxLen := by unfold maxLen; omega
  by_cases hk : k = 3
  · unfold Cv.setL Cv.setH Cv.setB
    rw [if_pos hk, if_pos hk, if_pos hk]
    subst hk
    clear hI hz hs
    unfold RetNew vlV
    go_enter Try.func10, Try.ntmps10
    go_wp2
    exact bodyPost_ret (v := .tuple #[.agg #[.int .i64 a, .int .i64 b], .bool true]) (by simp [results, Try.results10, go_sem]) rfl ⟨rfl, bl2 _ _ _⟩
  · obtain ⟨x, y, ok, HC, e1, e2, e3⟩ : ∃ (x y : Int) (ok : Bool), Hid (∀ W, Calls Try.prog 19 #[vlV k n i t a b, .func (.func 8) #[] #[], .func (.func 20) #[] #[]] W (RetNew W x y ok)) ∧ Cv.setL k n t a b = x ∧ Cv.setH k n t a b = y ∧ Cv.setB k n t a b = ok := by
      unfold Cv.setL Cv.setH Cv.setB
      rw [if_neg hk, if_neg hk, if_neg hk]
      cases ho : Cv.ok k a b with
      | true =>
        rw [ho] at hI
        exact ⟨_, _, _, Lib.hid (fun W => comp_set_yes k n i t a b _ hI hs W), by rw [if_pos rfl], by rw [if_pos rfl], by rw [if_pos rfl]⟩
      | false =>
        rw [ho, Cv.none k n t a b ho] at hI
        exact ⟨0, 0, false, Lib.hid (fun W => comp_set_no k n i t a b hI W), by rw [if_neg (by simp)], by rw [if_neg (by simp)], by rw [if_neg (by simp)]⟩
    rw [e1, e2, e3]
    clear e1 e2 e3 hI hz hs hn0 hn1 ht
    have hk2 : (k == 3) = false := by rw [beq_eq_false_iff_ne]; exact hk
    clear hk
    unfold RetNew at HC ⊢
    unfold vlV at HC ⊢
    go_enter Try.func10, Try.ntmps10
    go_wp2_with fail
    (with_reducible refine (HC.out _).mono ?_)
    rintro e w1 ⟨rfl, b1⟩
    obtain ⟨_, V2, B1⟩ := two_vars b1
    have HB := Lib.hid B1
    obtain ⟨d0, g0⟩ := V2 0 _ rfl
    obtain ⟨d1, g1⟩ := V2 1 _ rfl
    clear V2 B1 b1
    go_wp2
    exact bodyPost_ret (v := .tuple #[.agg #[.int .i64 x, .int .i64 y], .bool ok]) (by simp [results, Try.results10, go_sem, d0, d1]) rfl ⟨rfl, (HB.out.setCell (p := ⟨w.heap.size + 1, 0, none⟩) (Nat.le_succ _) _).setCell (p := ⟨w.heap.size + 1, 1, none⟩) (Nat.le_succ _) _⟩
theorem spec_toset (k n i : Int) (t : ByteArray) (a b : Int) (hn0 : -9223372036854775808 ≤ n) (hn1 : n ≤ 9223372036854775807) (ht : (t.size : Int) ≤ 1048576) (w : World) : Calls Try.prog 9 #[vlV k n i t a b] w (RetNew w (Cv.setL k n t a b) (Cv.setH k n t a b) (Cv.setB k n t a b)) := by
  have HT := Lib.hid (fun W => spec_totext k n i t a b hn0 hn1 W)
  have hz := Cv.short k n t a b hn0 hn1 ht
  have hs : (Cv.txt k n t a b).size ≤ maxLen := by unfold maxLen; omega
  have HN := Lib.hid (fun W => spec_new (Cv.txt k n t a b) hs W)
  by_cases hk : k = 3
  · unfold Cv.setL Cv.setH Cv.setB
    rw [if_pos hk, if_pos hk, if_pos hk]
    subst hk
    clear HT hz hs HN
    unfold RetNew vlV
    go_enter Try.func9, Try.ntmps9
    go_wp2
    exact bodyPost_ret (v := .tuple #[.agg #[.int .i64 a, .int .i64 b], .bool true]) (by simp [results, Try.results9, go_sem]) rfl ⟨rfl, bl2 _ _ _⟩
  · have hk2 : (k == 3) = false := by rw [beq_eq_false_iff_ne]; exact hk
    unfold Cv.setL Cv.setH Cv.setB
    rw [if_neg hk, if_neg hk, if_neg hk]
    clear hk hz hs hn0 hn1 ht
    generalize Cv.txt k n t a b = s at HT HN ⊢
    generalize Cs.newL s = x at HN ⊢
    generalize Cs.newH s = y at HN ⊢
    generalize Cs.good s = ok at HN ⊢
    unfold RetNew at HN ⊢
    unfold RetTx at HT
    unfold vlV at HT ⊢
    cases ho : Cv.ok k a b with
    | true =>
      rw [ho] at HT
      rw [if_pos rfl, if_pos rfl, if_pos rfl]
      clear ho
      go_enter Try.func9, Try.ntmps9
      go_wp2_with fail
      (with_reducible refine (HT.out _).mono ?_)
      rintro e w1 ⟨rfl, b1⟩
      obtain ⟨_, V2, B1⟩ := two_vars b1
      have HV := Lib.hid V2
      have HB := Lib.hid B1
      clear V2 B1 b1
      go_wp2_with fail
      (with_reducible refine (HN.out _).mono ?_)
      rintro e w2 ⟨rfl, b2⟩
      have V3 := HV.out.later b2
      have HB2 := Lib.hid (below_then HB.out b2)
      obtain ⟨d0, g0⟩ := V3 0 _ rfl
      obtain ⟨d1, g1⟩ := V3 1 _ rfl
      clear V3 b2
      go_wp2
      exact bodyPost_ret (v := .tuple #[.agg #[.int .i64 x, .int .i64 y], .bool ok]) (by simp [results, Try.results9, go_sem, d0, d1]) rfl ⟨rfl, (HB2.out.setCell (p := ⟨w.heap.size + 1, 0, none⟩) (Nat.le_succ _) _).setCell (p := ⟨w.heap.size + 1, 1, none⟩) (Nat.le_succ _) _⟩
    | false =>
      rw [ho] at HT
      rw [if_neg (by simp), if_neg (by simp), if_neg (by simp)]
      clear ho HN
      go_enter Try.func9, Try.ntmps9
      go_wp2_with fail
      (with_reducible refine (HT.out _).mono ?_)
      rintro e w1 ⟨rfl, b1⟩
      obtain ⟨_, V2, B1⟩ := two_vars b1
      have HB := Lib.hid B1
      obtain ⟨d0, g0⟩ := V2 0 _ rfl
      obtain ⟨d1, g1⟩ := V2 1 _ rfl
      clear V2 B1 b1
      go_wp2
      exact bodyPost_ret (v := .tuple #[.agg #[.int .i64 0, .int .i64 0], .bool false]) (by simp [results, Try.results9, go_sem, d0, d1]) rfl ⟨rfl, (HB.out.setCell (p := ⟨w.heap.size + 1, 0, none⟩) (Nat.le_succ _) _).setCell (p := ⟨w.heap.size + 1, 1, none⟩) (Nat.le_succ _) _⟩
set_option maxHeartbeats 800000 in
theorem FnExactToCset_walk (k n i : Int) (t : ByteArray) (a b : Int) (wk : (Lit.int .i64 k).wf = true) (wn : (Lit.int .i64 n).wf = true) (wi : (Lit.int .i64 i).wf = true) (wt : t.size ≤ maxLen) (w : World) : Calls Try.prog 4 #[vlV k n i t a b] w fun e w' => e = .returned (.bool true) ∧ Below w.heap.size w w' := by
  obtain ⟨hn0, hn1⟩ := int_bounds wn
  clear wk wn wi
  have HZ := Lib.hid (fun W => sz_val k n i t a b W wt)
  have HT := Lib.hid (fun W => to_val k n i t a b W)
  have V0 := Lib.hid (Var.new w #[.int .i64 k, .int .i64 n, .int .i64 i, .string t, .int .i64 a, .int .i64 b] 25)
  by_cases h : (t.size : Int) ≤ 1048576
  · rw [if_pos h] at HZ
    have hm : ¬ (1048576 - (t.size : Int)) < 0 := by omega
    have HS := Lib.hid (fun W => spec_toset k n i t a b hn0 hn1 h W)
    have HI := Lib.hid (fun W => impl_toset k n i t a b hn0 hn1 h W)
    generalize Cv.setL k n t a b = x at HS HI
    generalize Cv.setH k n t a b = y at HS HI
    generalize Cv.setB k n t a b = ok at HS HI
    unfold RetNew at HS HI
    clear hn0 hn1
    unfold vlV at HZ HT HS HI ⊢
    go_enter Try.func4, Try.ntmps4
    go_wp2_with fail
    (with_reducible refine (HZ.out _).mono ?_)
    rintro e w1 ⟨rfl, b1⟩
    have B1 := Lib.hid (below_then (bl1 _ _) b1)
    have V1 := Lib.hid (V0.out.later b1)
    clear b1
    obtain ⟨c0, _⟩ := V1.out 0 _ rfl
    obtain ⟨c1, _⟩ := V1.out 1 _ rfl
    obtain ⟨c2, _⟩ := V1.out 2 _ rfl
    obtain ⟨c3, _⟩ := V1.out 3 _ rfl
    obtain ⟨c4, _⟩ := V1.out 4 _ rfl
    obtain ⟨c5, _⟩ := V1.out 5 _ rfl
    go_wp2_with fail
    (with_reducible refine (HT.out _).mono ?_)
    rintro e w2 ⟨rfl, b2⟩
    have B2 := Lib.hid (below_then B1.out b2)
    have V2 := Lib.hid (V1.out.later b2)
    clear b2 c0 c1 c2 c3 c4 c5
    go_wp2_with fail
    (with_reducible refine (HS.out _).mono ?_)
    rintro e w3 ⟨rfl, b3⟩
    have B3 := Lib.hid (below_then B2.out b3)
    have V3 := Lib.hid ((V2.out.later b3).later (bl1 w3 (.cells #[.int .i64 x, .int .i64 y] 29)))
    have S3 := Lib.hid (SetAt.new w3 x y 29)
    have B3b := Lib.hid (below_then B3.out (bl1 w3 (.cells #[.int .i64 x, .int .i64 y] 29)))
    clear b3
    obtain ⟨c0, _⟩ := V3.out 0 _ rfl
    obtain ⟨c1, _⟩ := V3.out 1 _ rfl
    obtain ⟨c2, _⟩ := V3.out 2 _ rfl
    obtain ⟨c3, _⟩ := V3.out 3 _ rfl
    obtain ⟨c4, _⟩ := V3.out 4 _ rfl
    obtain ⟨c5, _⟩ := V3.out 5 _ rfl
    go_wp2_with fail
    (with_reducible refine (HT.out _).mono ?_)
    rintro e w4 ⟨rfl, b4⟩
    have B4 := Lib.hid (below_then B3b.out b4)
    have S4 := Lib.hid (S3.out.later b4)
    clear b4 c0 c1 c2 c3 c4 c5
    go_wp2_with fail
    (with_reducible refine (HI.out _).mono ?_)
    rintro e w5 ⟨rfl, b5⟩
    have B5 := Lib.hid (below_then (below_then B4.out b5) (bl1 w5 (.cells #[.int .i64 x, .int .i64 y] 29)))
    obtain ⟨s0, s1⟩ := (S4.out.later b5).later (bl1 w5 (.cells #[.int .i64 x, .int .i64 y] 29))
    clear b5
    go_wp2_with fail
    (with_reducible refine (eq_set _ _ _).mono ?_)
    rintro e w6 ⟨rfl, b6⟩
    have B6 := Lib.hid (below_then B5.out b6)
    clear b6
    go_wp2
    all_goals go_ret
    all_goals exact ⟨rfl, B6.out⟩
  · rw [if_neg h] at HZ
    clear hn0 hn1
    unfold vlV at HZ HT ⊢
    go_enter Try.func4, Try.ntmps4
    go_wp2_with fail
    (with_reducible refine (HZ.out _).mono ?_)
    rintro e w1 ⟨rfl, b1⟩
    have B1 := Lib.hid (below_then (bl1 _ _) b1)
    clear b1
    go_wp2
    go_ret
    exact ⟨rfl, B1.out⟩
end Go.Proofs.Ytlbidfegcfcaiaa
