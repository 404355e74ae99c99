/- StringValue of the program and of the reference model. No conditions. -/
import Derived.Test.YtbadepiakkhabaaO5
import Derived.Test.YtbadepiakkhabaaShelf
namespace Go.Proofs.Ytbadepiakkhabaa
open Go.RowKit
set_option linter.unusedVariables false

theorem val_clone (s : ByteArray) (w : World) (h : s.size ≤ 281474976710656) : Calls Try.prog 31 #[.string s] w fun e w' => e = .returned (.string s) ∧ Below w.heap.size w w' := by
  have HC := Lib.hid (Try.stringslite_Clone s w h)
  go_enter Try.func31, Try.ntmps31
  go_wp2_with fail
  (with_reducible refine HC.out.mono ?_)
  rintro e w1 ⟨rfl, b1⟩
  have B1 := Lib.hid b1
  clear b1
  go_wp2
  go_ret
  exact ⟨rfl, B1.out⟩
theorem spec_strv_no (s : ByteArray) (hm : s.size ≤ maxLen) (hr : 120 < (s.size : Int)) (w : World) : Calls Try.prog 17 #[.string s] w (RetV w 0 0 0 ⟨#[]⟩ 0 0 false) := by
  unfold RetV
  go_enter Try.func17, Try.ntmps17
  go_wp2
  exact bodyPost_ret (v := .tuple #[vlV 0 0 0 ⟨#[]⟩ 0 0, .bool false]) (by simp [results, Try.results17, go_sem]) rfl ⟨rfl, bl1 _ _⟩
theorem spec_strv_yes (s : ByteArray) (hr : (s.size : Int) ≤ 120) (w : World) : Calls Try.prog 17 #[.string s] w (RetV w 2 0 0 s 0 0 true) := by
  have HI := Lib.hid (fun W => spec_l11text s W)
  have h2 : ¬ 120 < (s.size : Int) := by omega
  clear hr
  unfold RetV
  unfold vlV at HI ⊢
  go_enter Try.func17, Try.ntmps17
  go_wp2_with fail
  (with_reducible refine (HI.out _).mono ?_)
  rintro e w1 ⟨rfl, b1⟩
  have V2 := (Var.new w vl0 30).later b1
  have HB := Lib.hid (below_then (bl1 _ _) b1)
  obtain ⟨d0, g0⟩ := V2 0 _ rfl
  obtain ⟨d1, g1⟩ := V2 1 _ rfl
  obtain ⟨d2, g2⟩ := V2 2 _ rfl
  obtain ⟨d3, g3⟩ := V2 3 _ rfl
  obtain ⟨d4, g4⟩ := V2 4 _ rfl
  obtain ⟨d5, g5⟩ := V2 5 _ rfl
  clear V2 b1
  go_wp2
  exact bodyPost_ret (v := .tuple #[vlV 2 0 0 s 0 0, .bool true]) (by simp [results, Try.results17, go_sem, d0, d1, d2, d3, d4, d5]) rfl ⟨rfl, below_set6 HB.out (Nat.le_refl _) _ _ _ _ _ _⟩
theorem impl_strv_no (s : ByteArray) (hr : 120 < (s.size : Int)) (w : World) : Calls Try.prog 18 #[.string s] w (RetV w 0 0 0 ⟨#[]⟩ 0 0 false) := by
  have HI := Lib.hid (fun W => wfd_no 2 0 0 s 0 0 ((wf_of_text s).trans (decide_eq_false (by omega))) W)
  have HC := Lib.hid (fun W => val_clone ⟨#[]⟩ W (by decide))
  clear hr
  unfold RetV at HI ⊢
  unfold vlV at HI ⊢
  go_enter Try.func18, Try.ntmps18
  go_wp2_with fail
  (with_reducible refine (HI.out _).mono ?_)
  rintro e w1 ⟨rfl, b1⟩
  have V2 := Lib.hid ((Var.new w vl0 30).later b1)
  have HB := Lib.hid (below_then (bl1 _ _) b1)
  have hne := (Var.new w vl0 30).lt
  clear b1
  go_wp2_with fail
  (with_reducible refine (HC.out _).mono ?_)
  rintro e w2 ⟨rfl, b2⟩
  have V3 := (V2.out.later (bl1 _ _)).later b2
  have V4 := (Var.new w1 #[.int .i64 0, .int .i64 0, .int .i64 0, .string ⟨#[]⟩, .int .i64 0, .int .i64 0] 30).later b2
  have hlt : w.heap.size < w1.heap.size := V2.out.lt
  have HB2 := Lib.hid (below_then HB.out (below_then (bl1 _ _) b2))
  obtain ⟨d0, g0⟩ := V3 0 _ rfl
  obtain ⟨d1, g1⟩ := V3 1 _ rfl
  obtain ⟨d2, g2⟩ := V3 2 _ rfl
  obtain ⟨d3, g3⟩ := V3 3 _ rfl
  obtain ⟨d4, g4⟩ := V3 4 _ rfl
  obtain ⟨d5, g5⟩ := V3 5 _ rfl
  obtain ⟨c0, f0⟩ := V4 0 _ rfl
  obtain ⟨c1, f1⟩ := V4 1 _ rfl
  obtain ⟨c2, f2⟩ := V4 2 _ rfl
  obtain ⟨c3, f3⟩ := V4 3 _ rfl
  obtain ⟨c4, f4⟩ := V4 4 _ rfl
  obtain ⟨c5, f5⟩ := V4 5 _ rfl
  have hx : ¬ w.heap.size = w1.heap.size := by omega
  have hy : ¬ w1.heap.size = w.heap.size := by omega
  have HL := Lib.hid (Nat.le_of_lt hlt)
  clear V3 V4 b2 hne hlt
  go_wp2
  exact bodyPost_ret (v := .tuple #[vlV 0 0 0 ⟨#[]⟩ 0 0, .bool false]) (by simp [results, Try.results18, go_sem, d0, d1, d2, d3, d4, d5]) rfl ⟨rfl, below_set6 (HB2.out.setCell (p := ⟨w1.heap.size, 3, none⟩) HL.out _) (Nat.le_refl _) _ _ _ _ _ _⟩
theorem impl_strv_yes (s : ByteArray) (hr : (s.size : Int) ≤ 120) (w : World) : Calls Try.prog 18 #[.string s] w (RetV w 2 0 0 s 0 0 true) := by
  have HI := Lib.hid (fun W => wfd_yes 2 0 0 s 0 0 ((wf_of_text s).trans (decide_eq_true (by omega))) W)
  have HC := Lib.hid (fun W => val_clone s W (by omega))
  clear hr
  unfold RetV at HI ⊢
  unfold vlV at HI ⊢
  go_enter Try.func18, Try.ntmps18
  go_wp2_with fail
  (with_reducible refine (HI.out _).mono ?_)
  rintro e w1 ⟨rfl, b1⟩
  have V2 := Lib.hid ((Var.new w vl0 30).later b1)
  have HB := Lib.hid (below_then (bl1 _ _) b1)
  have hne := (Var.new w vl0 30).lt
  clear b1
  go_wp2_with fail
  (with_reducible refine (HC.out _).mono ?_)
  rintro e w2 ⟨rfl, b2⟩
  have V3 := (V2.out.later (bl1 _ _)).later b2
  have V4 := (Var.new w1 #[.int .i64 2, .int .i64 0, .int .i64 0, .string s, .int .i64 0, .int .i64 0] 30).later b2
  have hlt : w.heap.size < w1.heap.size := V2.out.lt
  have HB2 := Lib.hid (below_then HB.out (below_then (bl1 _ _) b2))
  obtain ⟨d0, g0⟩ := V3 0 _ rfl
  obtain ⟨d1, g1⟩ := V3 1 _ rfl
  obtain ⟨d2, g2⟩ := V3 2 _ rfl
  obtain ⟨d3, g3⟩ := V3 3 _ rfl
  obtain ⟨d4, g4⟩ := V3 4 _ rfl
  obtain ⟨d5, g5⟩ := V3 5 _ rfl
  obtain ⟨c0, f0⟩ := V4 0 _ rfl
  obtain ⟨c1, f1⟩ := V4 1 _ rfl
  obtain ⟨c2, f2⟩ := V4 2 _ rfl
  obtain ⟨c3, f3⟩ := V4 3 _ rfl
  obtain ⟨c4, f4⟩ := V4 4 _ rfl
  obtain ⟨c5, f5⟩ := V4 5 _ rfl
  have hx : ¬ w.heap.size = w1.heap.size := by omega
  have hy : ¬ w1.heap.size = w.heap.size := by omega
  have HL := Lib.hid (Nat.le_of_lt hlt)
  clear V3 V4 b2 hne hlt
  go_wp2
  exact bodyPost_ret (v := .tuple #[vlV 2 0 0 s 0 0, .bool true]) (by simp [results, Try.results18, go_sem, d0, d1, d2, d3, d4, d5]) rfl ⟨rfl, below_set6 (HB2.out.setCell (p := ⟨w1.heap.size, 3, none⟩) HL.out _) (Nat.le_refl _) _ _ _ _ _ _⟩
theorem FnExactStringValue_walk (a0 : ByteArray) (w0 : a0.size ≤ maxLen) (w : World) : Calls Try.prog 6 #[.string a0] w fun e w' => e = .returned (.bool true) ∧ Below w.heap.size w w' := by
  by_cases hz : 1048576 < (a0.size : Int)
  · have hm : (a0.size : Int) ≤ 9223372036854775807 := by unfold maxLen at w0; omega
    go_enter Try.func6, Try.ntmps6
    go_wp2
    go_ret
    exact ⟨rfl, Below.refl _ _⟩
  obtain ⟨k, s, ok, HS, HI⟩ : ∃ (k : Int) (s : ByteArray) (ok : Bool), Hid (∀ W, Calls Try.prog 17 #[.string a0] W (RetV W k 0 0 s 0 0 ok)) ∧ Hid (∀ W, Calls Try.prog 18 #[.string a0] W (RetV W k 0 0 s 0 0 ok)) := by
    by_cases hr : 120 < (a0.size : Int)
    · exact ⟨0, ⟨#[]⟩, false, Lib.hid (fun W => spec_strv_no a0 w0 hr W), Lib.hid (fun W => impl_strv_no a0 hr W)⟩
    · exact ⟨2, a0, true, Lib.hid (fun W => spec_strv_yes a0 (by omega) W), Lib.hid (fun W => impl_strv_yes a0 (by omega) W)⟩
  have HE := Lib.hid (fun W => eq_val k 0 0 s 0 0 W)
  unfold RetV at HS HI
  unfold vlV at HS HI HE
  go_enter Try.func6, Try.ntmps6
  go_wp2_with fail
  (with_reducible refine (HS.out _).mono ?_)
  rintro e w1 ⟨rfl, b1⟩
  have B1 := Lib.hid b1
  clear b1
  go_wp2_with fail
  (with_reducible refine (HI.out _).mono ?_)
  rintro e w2 ⟨rfl, b2⟩
  have V1 := Lib.hid (((Var.new w1 #[.int .i64 k, .int .i64 0, .int .i64 0, .string s, .int .i64 0, .int .i64 0] 30).later b2).later (bl1 _ (.cells #[.int .i64 k, .int .i64 0, .int .i64 0, .string s, .int .i64 0, .int .i64 0] 30)))
  have B2 := Lib.hid (below_then (below_then B1.out (below_then (bl1 _ _) b2)) (bl1 _ (.cells #[.int .i64 k, .int .i64 0, .int .i64 0, .string s, .int .i64 0, .int .i64 0] 30)))
  clear b2
  obtain ⟨c0, _⟩ := V1.out 0 _ rfl
  obtain ⟨c1, _⟩ := V1.out 1 _ rfl
  obtain ⟨c2, _⟩ := V1.out 2 _ rfl
  obtain ⟨c3, _⟩ := V1.out 3 _ rfl
  obtain ⟨c4, _⟩ := V1.out 4 _ rfl
  obtain ⟨c5, _⟩ := V1.out 5 _ rfl
  go_wp2_with fail
  (with_reducible refine (HE.out _).mono ?_)
  rintro e w3 ⟨rfl, b3⟩
  have B3 := Lib.hid (below_then B2.out b3)
  clear b3
  go_wp2
  go_ret
  exact ⟨rfl, B3.out⟩
end Go.Proofs.Ytbadepiakkhabaa
