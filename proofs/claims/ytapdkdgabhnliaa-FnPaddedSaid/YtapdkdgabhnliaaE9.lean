/- The walks of the laws on LeftText, RightText, CenterText. No conditions. -/
import Derived.Test.YtapdkdgabhnliaaE8
namespace Go.Proofs.Ytapdkdgabhnliaa
open Go.RowKit
set_option linter.unusedVariables false

theorem impl_left (s : ByteArray) (n : Int) (x : UInt8) (t : ByteArray) (b : Bool) (w : World) (hs : (s.size : Int) ≤ 1048576) (h : PadIs (leftL s.data.toList x) n t b) : Calls Try.prog 6 #[.string s, .int .i64 n, .int .u8 (x.toNat : Int)] w (RetTB w t b) := by
  have HP : Hid (∀ W, Calls Try.prog 15 #[.string s, .int .i64 0, .int .i64 n, .int .u8 (x.toNat : Int)] W (RetTB W t b)) := by
    intro W
    rcases h with ⟨h1, rfl, rfl⟩ | ⟨h1, rfl, rfl⟩ | ⟨N, rfl, h1, rfl, rfl⟩
    · exact place_bad _ _ _ _ _ (.inl h1)
    · exact place_bad _ _ _ _ _ (.inr h1)
    · have e := place_pos s 0 N x W hs h1 (by omega)
      rw [left_placed] at e
      exact e
  clear h
  unfold RetTB at HP ⊢
  go_enter Try.func6, Try.ntmps6
  go_wp2_with fail
  refine (HP.out _).mono ?_
  rintro e w1 ⟨rfl, hb⟩
  go_wp2
  go_ret2
  exact ⟨rfl, hb⟩

theorem impl_right (s : ByteArray) (n : Int) (x : UInt8) (t : ByteArray) (b : Bool) (w : World) (hs : (s.size : Int) ≤ 1048576) (hn : -9223372036854775808 ≤ n ∧ n ≤ 9223372036854775807) (h : PadIs (rightL s.data.toList x) n t b) : Calls Try.prog 7 #[.string s, .int .i64 n, .int .u8 (x.toNat : Int)] w (RetTB w t b) := by
  obtain ⟨h0, h9⟩ := hn
  rcases h with ⟨h1, rfl, rfl⟩ | ⟨h1, rfl, rfl⟩ | ⟨N, rfl, h1, rfl, rfl⟩
  · have HP := Lib.hid (fun z W => place_bad s z n x.toNat W (.inl h1))
    unfold RetTB at HP ⊢
    go_enter Try.func7, Try.ntmps7
    go_wp2_with fail
    refine (HP.out _ _).mono ?_
    rintro e w1 ⟨rfl, hb⟩
    go_wp2
    go_ret2
    exact ⟨rfl, hb⟩
  · have HP := Lib.hid (fun z W => place_bad s z n x.toNat W (.inr h1))
    unfold RetTB at HP ⊢
    go_enter Try.func7, Try.ntmps7
    go_wp2_with fail
    refine (HP.out _ _).mono ?_
    rintro e w1 ⟨rfl, hb⟩
    go_wp2
    go_ret2
    exact ⟨rfl, hb⟩
  · have HP : Hid (∀ W, Calls Try.prog 15 #[.string s, .int .i64 ((N : Int) - s.size), .int .i64 N, .int .u8 (x.toNat : Int)] W (RetTB W (str8 (rightL s.data.toList x N)) true)) := by
      intro W
      by_cases h2 : N < s.size
      · obtain ⟨a, ha⟩ : ∃ a : Nat, (N : Int) - s.size = -(a : Int) := ⟨s.size - N, by omega⟩
        have e := place_neg s a N x W hs h1 (by omega) (by omega)
        rw [right_placed2 ha, ← ha] at e
        exact e
      · obtain ⟨a, ha⟩ : ∃ a : Nat, (N : Int) - s.size = (a : Int) := ⟨N - s.size, by omega⟩
        have e := place_pos s a N x W hs h1 (by omega)
        rw [right_placed ha, ← ha] at e
        exact e
    unfold RetTB at HP ⊢
    go_enter Try.func7, Try.ntmps7
    go_wp2_with fail
    refine (HP.out _).mono ?_
    rintro e w1 ⟨rfl, hb⟩
    go_wp2
    go_ret2
    exact ⟨rfl, hb⟩

theorem u8_of {a : Int} (h : (Lit.int .u8 a).wf = true) : ∃ x : UInt8, a = (x.toNat : Int) := by
  obtain ⟨hb0, hb1⟩ : 0 ≤ a ∧ a ≤ 255 := by simpa [Lit.wf, IntKind.min, IntKind.max, IntKind.signed, IntKind.bits] using h
  refine ⟨UInt8.ofNat a.toNat, ?_⟩
  rw [UInt8.toNat_ofNat']; omega
theorem i64_of {a : Int} (h : (Lit.int .i64 a).wf = true) : -9223372036854775808 ≤ a ∧ a ≤ 9223372036854775807 := by
  simpa [Lit.wf, IntKind.min, IntKind.max, IntKind.signed, IntKind.bits] using h

end Go.Proofs.Ytapdkdgabhnliaa
