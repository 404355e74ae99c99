/- StringValue of the program and of the reference model. No conditions. -/
import Derived.Test.YtlbidfegcfcaiaaDoorO5
import Derived.Test.YtlbidfegcfcaiaaDoorO70
namespace Go.Proofs.YtlbidfegcfcaiaaDoor
open Go.RowKit
set_option linter.unusedVariables false

theorem impl_strv_no (s : ByteArray) (hr : 120 < (s.size : Int)) (w : World) : Calls Tryd.prog 9 #[.string s] w (RetV w 0 0 0 ⟨#[]⟩ 0 0 false) := by
  have HI := Lib.hid (fun W => wfd_no 2 0 0 s 0 0 ((wf_of_text s).trans (decide_eq_false (by omega))) W)
  have HC := Lib.hid (fun W => val_clone ⟨#[]⟩ W (by decide))
  clear hr
  unfold RetV at HI ⊢
  unfold vlV at HI ⊢
  go_enter Tryd.func9, Tryd.ntmps9
  go_wp2_with fail
  (with_reducible refine (HI.out _).mono ?_)
  rintro e w1 ⟨rfl, b1⟩
  have V2 := Lib.hid ((Var.new w vl0 28).later b1)
  have HB := Lib.hid (below_then (bl1 _ _) b1)
  have hne := (Var.new w vl0 28).lt
  clear b1
  go_wp2_with fail
  (with_reducible refine (HC.out _).mono ?_)
  rintro e w2 ⟨rfl, b2⟩
  have V3 := (V2.out.later (bl1 _ _)).later b2
  have V4 := (Var.new w1 #[.int .i64 0, .int .i64 0, .int .i64 0, .string ⟨#[]⟩, .int .i64 0, .int .i64 0] 28).later b2
  have hlt : w.heap.size < w1.heap.size := V2.out.lt
  have HB2 := Lib.hid (below_then HB.out (below_then (bl1 _ _) b2))
  obtain ⟨d0, g0⟩ := V3 0 _ rfl
  obtain ⟨d1, g1⟩ := V3 1 _ rfl
  obtain ⟨d2, g2⟩ := V3 2 _ rfl
  obtain ⟨d3, g3⟩ := V3 3 _ rfl
  obtain ⟨d4, g4⟩ := V3 4 _ rfl
  obtain ⟨d5, g5⟩ := V3 5 _ rfl
  obtain ⟨c0, f0⟩ := V4 0 _ rfl
  obtain ⟨c1, f1⟩ := V4 1 _ rfl
  obtain ⟨c2, f2⟩ := V4 2 _ rfl
  obtain ⟨c3, f3⟩ := V4 3 _ rfl
  obtain ⟨c4, f4⟩ := V4 4 _ rfl
  obtain ⟨c5, f5⟩ := V4 5 _ rfl
  have hx : ¬ w.heap.size = w1.heap.size := by omega
  have hy : ¬ w1.heap.size = w.heap.size := by omega
  have HL := Lib.hid (Nat.le_of_lt hlt)
  clear V3 V4 b2 hne hlt
  go_wp2
  exact bodyPost_ret (v := .tuple #[vlV 0 0 0 ⟨#[]⟩ 0 0, .bool false]) (by simp [results, Tryd.results9, go_sem, d0, d1, d2, d3, d4, d5]) rfl ⟨rfl, below_set6 (HB2.out.setCell (p := ⟨w1.heap.size, 3, none⟩) HL.out _) (Nat.le_refl _) _ _ _ _ _ _⟩
theorem impl_strv_yes (s : ByteArray) (hr : (s.size : Int) ≤ 120) (w : World) : Calls Tryd.prog 9 #[.string s] w (RetV w 2 0 0 s 0 0 true) := by
  have HI := Lib.hid (fun W => wfd_yes 2 0 0 s 0 0 ((wf_of_text s).trans (decide_eq_true (by omega))) W)
  have HC := Lib.hid (fun W => val_clone s W (by omega))
  clear hr
  unfold RetV at HI ⊢
  unfold vlV at HI ⊢
  go_enter Tryd.func9, Tryd.ntmps9
  go_wp2_with fail
  (with_reducible refine (HI.out _).mono ?_)
  rintro e w1 ⟨rfl, b1⟩
  have V2 := Lib.hid ((Var.new w vl0 28).later b1)
  have HB := Lib.hid (below_then (bl1 _ _) b1)
  have hne := (Var.new w vl0 28).lt
  clear b1
  go_wp2_with fail
  (with_reducible refine (HC.out _).mono ?_)
  rintro e w2 ⟨rfl, b2⟩
  have V3 := (V2.out.later (bl1 _ _)).later b2
  have V4 := (Var.new w1 #[.int .i64 2, .int .i64 0, .int .i64 0, .string s, .int .i64 0, .int .i64 0] 28).later b2
  have hlt : w.heap.size < w1.heap.size := V2.out.lt
  have HB2 := Lib.hid (below_then HB.out (below_then (bl1 _ _) b2))
  obtain ⟨d0, g0⟩ := V3 0 _ rfl
  obtain ⟨d1, g1⟩ := V3 1 _ rfl
  obtain ⟨d2, g2⟩ := V3 2 _ rfl
  obtain ⟨d3, g3⟩ := V3 3 _ rfl
  obtain ⟨d4, g4⟩ := V3 4 _ rfl
  obtain ⟨d5, g5⟩ := V3 5 _ rfl
  obtain ⟨c0, f0⟩ := V4 0 _ rfl
  obtain ⟨c1, f1⟩ := V4 1 _ rfl
  obtain ⟨c2, f2⟩ := V4 2 _ rfl
  obtain ⟨c3, f3⟩ := V4 3 _ rfl
  obtain ⟨c4, f4⟩ := V4 4 _ rfl
  obtain ⟨c5, f5⟩ := V4 5 _ rfl
  have hx : ¬ w.heap.size = w1.heap.size := by omega
  have hy : ¬ w1.heap.size = w.heap.size := by omega
  have HL := Lib.hid (Nat.le_of_lt hlt)
  clear V3 V4 b2 hne hlt
  go_wp2
  exact bodyPost_ret (v := .tuple #[vlV 2 0 0 s 0 0, .bool true]) (by simp [results, Tryd.results9, go_sem, d0, d1, d2, d3, d4, d5]) rfl ⟨rfl, below_set6 (HB2.out.setCell (p := ⟨w1.heap.size, 3, none⟩) HL.out _) (Nat.le_refl _) _ _ _ _ _ _⟩
end Go.Proofs.YtlbidfegcfcaiaaDoor
