/- The walks of the laws on LeftText, RightText, CenterText. No conditions. -/
import Derived.Test.YtdbfkgpmppdjlaaE8
namespace Go.Proofs.Ytdbfkgpmppdjlaa
open Go.RowKit
set_option linter.unusedVariables false

theorem impl_left (s : ByteArray) (n : Int) (x : UInt8) (t : ByteArray) (b : Bool) (w : World) (hs : (s.size : Int) ≤ 1048576) (h : PadIs (leftL s.data.toList x) n t b) : Calls Try.prog 28 #[.string s, .int .i64 n, .int .u8 (x.toNat : Int)] w (RetTB w t b) := by
  have HP : Hid (∀ W, Calls Try.prog 46 #[.string s, .int .i64 0, .int .i64 n, .int .u8 (x.toNat : Int)] W (RetTB W t b)) := by
    intro W
    rcases h with ⟨h1, rfl, rfl⟩ | ⟨h1, rfl, rfl⟩ | ⟨N, rfl, h1, rfl, rfl⟩
    · exact place_bad _ _ _ _ _ (.inl h1)
    · exact place_bad _ _ _ _ _ (.inr h1)
    · have e := place_pos s 0 N x W hs h1 (by omega)
      rw [left_placed] at e
      exact e
  clear h
  unfold RetTB at HP ⊢
  go_enter Try.func28, Try.ntmps28
  go_wp2_with fail
  refine (HP.out _).mono ?_
  rintro e w1 ⟨rfl, hb⟩
  go_wp2
  go_ret2
  exact ⟨rfl, hb⟩

theorem impl_right (s : ByteArray) (n : Int) (x : UInt8) (t : ByteArray) (b : Bool) (w : World) (hs : (s.size : Int) ≤ 1048576) (hn : -9223372036854775808 ≤ n ∧ n ≤ 9223372036854775807) (h : PadIs (rightL s.data.toList x) n t b) : Calls Try.prog 30 #[.string s, .int .i64 n, .int .u8 (x.toNat : Int)] w (RetTB w t b) := by
  obtain ⟨h0, h9⟩ := hn
  rcases h with ⟨h1, rfl, rfl⟩ | ⟨h1, rfl, rfl⟩ | ⟨N, rfl, h1, rfl, rfl⟩
  · have HP := Lib.hid (fun z W => place_bad s z n x.toNat W (.inl h1))
    unfold RetTB at HP ⊢
    go_enter Try.func30, Try.ntmps30
    go_wp2_with fail
    refine (HP.out _ _).mono ?_
    rintro e w1 ⟨rfl, hb⟩
    go_wp2
    go_ret2
    exact ⟨rfl, hb⟩
  · have HP := Lib.hid (fun z W => place_bad s z n x.toNat W (.inr h1))
    unfold RetTB at HP ⊢
    go_enter Try.func30, Try.ntmps30
    go_wp2_with fail
    refine (HP.out _ _).mono ?_
    rintro e w1 ⟨rfl, hb⟩
    go_wp2
    go_ret2
    exact ⟨rfl, hb⟩
  · have HP : Hid (∀ W, Calls Try.prog 46 #[.string s, .int .i64 ((N : Int) - s.size), .int .i64 N, .int .u8 (x.toNat : Int)] W (RetTB W (str8 (rightL s.data.toList x N)) true)) := by
      intro W
      by_cases h2 : N < s.size
      · obtain ⟨a, ha⟩ : ∃ a : Nat, (N : Int) - s.size = -(a : Int) := ⟨s.size - N, by omega⟩
        have e := place_neg s a N x W hs h1 (by omega) (by omega)
        rw [right_placed2 ha, ← ha] at e
        exact e
      · obtain ⟨a, ha⟩ : ∃ a : Nat, (N : Int) - s.size = (a : Int) := ⟨N - s.size, by omega⟩
        have e := place_pos s a N x W hs h1 (by omega)
        rw [right_placed ha, ← ha] at e
        exact e
    unfold RetTB at HP ⊢
    go_enter Try.func30, Try.ntmps30
    go_wp2_with fail
    refine (HP.out _).mono ?_
    rintro e w1 ⟨rfl, hb⟩
    go_wp2
    go_ret2
    exact ⟨rfl, hb⟩

theorem impl_center (s : ByteArray) (n : Int) (x : UInt8) (t : ByteArray) (b : Bool) (w : World) (hs : (s.size : Int) ≤ 1048576) (hn : -9223372036854775808 ≤ n ∧ n ≤ 9223372036854775807) (h : PadIs (centerL s.data.toList x) n t b) : Calls Try.prog 32 #[.string s, .int .i64 n, .int .u8 (x.toNat : Int)] w (RetTB w t b) := by
  obtain ⟨h0, h9⟩ := hn
  rcases h with ⟨h1, rfl, rfl⟩ | ⟨h1, rfl, rfl⟩ | ⟨N, rfl, h1, rfl, rfl⟩
  · have HP := Lib.hid (fun z W => place_bad s z n x.toNat W (.inl h1))
    unfold RetTB at HP ⊢
    go_enter Try.func32, Try.ntmps32
    go_wp2_with fail
    refine (HP.out _ _).mono ?_
    rintro e w1 ⟨rfl, hb⟩
    go_wp2
    go_ret2
    exact ⟨rfl, hb⟩
  · have HP := Lib.hid (fun z W => place_bad s z n x.toNat W (.inr h1))
    unfold RetTB at HP ⊢
    go_enter Try.func32, Try.ntmps32
    go_wp2_with fail
    refine (HP.out _ _).mono ?_
    rintro e w1 ⟨rfl, hb⟩
    go_wp2
    go_ret2
    exact ⟨rfl, hb⟩
  · by_cases h2 : (s.size : Int) ≤ N
    · obtain ⟨a, ha⟩ : ∃ a : Nat, ((N : Int) - s.size) / 2 = (a : Int) := ⟨(N - s.size) / 2, by omega⟩
      have HP : Hid (∀ W, Calls Try.prog 46 #[.string s, .int .i64 a, .int .i64 N, .int .u8 (x.toNat : Int)] W (RetTB W (str8 (centerL s.data.toList x N)) true)) := by
        intro W
        have e := place_pos s a N x W hs h1 (by omega)
        rw [center_placed (by omega) ha] at e
        exact e
      unfold RetTB at HP ⊢
      go_enter Try.func32, Try.ntmps32
      go_wp2_with fail
      refine (HP.out _).mono ?_
      rintro e w1 ⟨rfl, hb⟩
      go_wp2
      go_ret2
      exact ⟨rfl, hb⟩
    · obtain ⟨a, ha⟩ : ∃ a : Nat, ((s.size : Int) - N) / 2 = (a : Int) := ⟨(s.size - N) / 2, by omega⟩
      have hz : ((N : Int) - s.size).tdiv 2 = -(a : Int) := by
        rw [show (N : Int) - s.size = -((s.size : Int) - N) by omega, Int.neg_tdiv, Int.tdiv_eq_ediv_of_nonneg (by omega), ha]
      have HP : Hid (∀ W, Calls Try.prog 46 #[.string s, .int .i64 (((N : Int) - s.size).tdiv 2), .int .i64 N, .int .u8 (x.toNat : Int)] W (RetTB W (str8 (centerL s.data.toList x N)) true)) := by
        intro W
        rw [hz, ← center_placed2 (by omega) ha]
        by_cases h3 : a = 0
        · subst h3
          exact place_pos s 0 N x W hs h1 (by omega)
        · exact place_neg s a N x W hs h1 (by omega) (by omega)
      clear ha hz
      unfold RetTB at HP ⊢
      go_enter Try.func32, Try.ntmps32
      go_wp2_with fail
      refine (HP.out _).mono ?_
      rintro e w1 ⟨rfl, hb⟩
      go_wp2
      go_ret2
      exact ⟨rfl, hb⟩

theorem u8_of {a : Int} (h : (Lit.int .u8 a).wf = true) : ∃ x : UInt8, a = (x.toNat : Int) := by
  obtain ⟨hb0, hb1⟩ : 0 ≤ a ∧ a ≤ 255 := by simpa [Lit.wf, IntKind.min, IntKind.max, IntKind.signed, IntKind.bits] using h
  refine ⟨UInt8.ofNat a.toNat, ?_⟩
  rw [UInt8.toNat_ofNat']; omega
theorem i64_of {a : Int} (h : (Lit.int .i64 a).wf = true) : -9223372036854775808 ≤ a ∧ a ≤ 9223372036854775807 := by
  simpa [Lit.wf, IntKind.min, IntKind.max, IntKind.signed, IntKind.bits] using h

theorem FnExactLeftText_walk (a0 : ByteArray) (a1 : Int) (a2 : Int) (w0 : a0.size ≤ maxLen) (w1 : (Lit.int .i64 a1).wf = true) (w2 : (Lit.int .u8 a2).wf = true) (w : World) :
    Calls Try.prog 9 #[.string a0, .int .i64 a1, .int .u8 a2] w fun e w' => e = .returned (.bool true) ∧ Below w.heap.size w w' := by
  have hm0 : (a0.size : Int) ≤ 9223372036854775807 := by unfold maxLen at w0; omega
  by_cases hl0 : (1048576 : Int) < a0.size
  · clear w0 w1 w2
    go_enter Try.func9, Try.ntmps9
    go_wp2
    go_ret
    exact ⟨rfl, Below.refl _ _⟩
  · obtain ⟨x, rfl⟩ := u8_of w2
    obtain ⟨v, b, h⟩ := pad_is (leftL a0.data.toList x) a1
    have H1 := Lib.hid (fun W => spec_left a0 a1 x v b W (by omega) h)
    have H2 := Lib.hid (fun W => impl_left a0 a1 x v b W (by omega) h)
    unfold RetTB at H1 H2
    clear h w0 w1 w2
    go_enter Try.func9, Try.ntmps9
    go_wp2_with fail
    refine (H1.out _).mono ?_
    rintro e w1 ⟨rfl, hb1⟩
    go_wp2_with fail
    refine (H2.out _).mono ?_
    rintro e w2 ⟨rfl, hb2⟩
    have HB := Lib.hid (hb1.trans (hb2.mono hb1.size))
    clear hb1 hb2
    cases b
    all_goals
      go_wp2
      go_ret
      exact ⟨rfl, HB.out⟩

theorem FnExactRightText_walk (a0 : ByteArray) (a1 : Int) (a2 : Int) (w0 : a0.size ≤ maxLen) (w1 : (Lit.int .i64 a1).wf = true) (w2 : (Lit.int .u8 a2).wf = true) (w : World) :
    Calls Try.prog 10 #[.string a0, .int .i64 a1, .int .u8 a2] w fun e w' => e = .returned (.bool true) ∧ Below w.heap.size w w' := by
  have hm0 : (a0.size : Int) ≤ 9223372036854775807 := by unfold maxLen at w0; omega
  by_cases hl0 : (1048576 : Int) < a0.size
  · clear w0 w1 w2
    go_enter Try.func10, Try.ntmps10
    go_wp2
    go_ret
    exact ⟨rfl, Below.refl _ _⟩
  · obtain ⟨x, rfl⟩ := u8_of w2
    obtain ⟨v, b, h⟩ := pad_is (rightL a0.data.toList x) a1
    have H1 := Lib.hid (fun W => spec_right a0 a1 x v b W (by omega) h)
    have H2 := Lib.hid (fun W => impl_right a0 a1 x v b W (by omega) (i64_of w1) h)
    unfold RetTB at H1 H2
    clear h w0 w1 w2
    go_enter Try.func10, Try.ntmps10
    go_wp2_with fail
    refine (H1.out _).mono ?_
    rintro e w1 ⟨rfl, hb1⟩
    go_wp2_with fail
    refine (H2.out _).mono ?_
    rintro e w2 ⟨rfl, hb2⟩
    have HB := Lib.hid (hb1.trans (hb2.mono hb1.size))
    clear hb1 hb2
    cases b
    all_goals
      go_wp2
      go_ret
      exact ⟨rfl, HB.out⟩

theorem FnExactCenterText_walk (a0 : ByteArray) (a1 : Int) (a2 : Int) (w0 : a0.size ≤ maxLen) (w1 : (Lit.int .i64 a1).wf = true) (w2 : (Lit.int .u8 a2).wf = true) (w : World) :
    Calls Try.prog 11 #[.string a0, .int .i64 a1, .int .u8 a2] w fun e w' => e = .returned (.bool true) ∧ Below w.heap.size w w' := by
  have hm0 : (a0.size : Int) ≤ 9223372036854775807 := by unfold maxLen at w0; omega
  by_cases hl0 : (1048576 : Int) < a0.size
  · clear w0 w1 w2
    go_enter Try.func11, Try.ntmps11
    go_wp2
    go_ret
    exact ⟨rfl, Below.refl _ _⟩
  · obtain ⟨x, rfl⟩ := u8_of w2
    obtain ⟨v, b, h⟩ := pad_is (centerL a0.data.toList x) a1
    have H1 := Lib.hid (fun W => spec_center a0 a1 x v b W (by omega) h)
    have H2 := Lib.hid (fun W => impl_center a0 a1 x v b W (by omega) (i64_of w1) h)
    unfold RetTB at H1 H2
    clear h w0 w1 w2
    go_enter Try.func11, Try.ntmps11
    go_wp2_with fail
    refine (H1.out _).mono ?_
    rintro e w1 ⟨rfl, hb1⟩
    go_wp2_with fail
    refine (H2.out _).mono ?_
    rintro e w2 ⟨rfl, hb2⟩
    have HB := Lib.hid (hb1.trans (hb2.mono hb1.size))
    clear hb1 hb2
    cases b
    all_goals
      go_wp2
      go_ret
      exact ⟨rfl, HB.out⟩
end Go.Proofs.Ytdbfkgpmppdjlaa
