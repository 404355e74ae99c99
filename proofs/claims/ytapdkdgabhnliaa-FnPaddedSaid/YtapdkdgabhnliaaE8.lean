/- LeftText, RightText, CenterText of the program and of the reference model, and the walks of their laws. No conditions. -/
import Derived.Test.YtapdkdgabhnliaaE7
import Derived.Test.YtapdkdgabhnliaaE4
namespace Go.Proofs.Ytapdkdgabhnliaa
open Go.RowKit
set_option linter.unusedVariables false

/-- The three texts, for a length that is one. -/
def leftL (s : List UInt8) (x : UInt8) (N : Nat) : List UInt8 := s.take N ++ List.replicate (N - s.length) x
def rightL (s : List UInt8) (x : UInt8) (N : Nat) : List UInt8 := List.replicate (N - s.length) x ++ s.drop (s.length - N)
def centerL (s : List UInt8) (x : UInt8) (N : Nat) : List UInt8 := List.replicate ((N - s.length) / 2) x ++ ((s.drop ((s.length - N) / 2)).take N ++ List.replicate (N - s.length - (N - s.length) / 2) x)
/-- What such a function says. -/
def PadIs (f : Nat → List UInt8) (n : Int) (t : ByteArray) (b : Bool) : Prop :=
  (n < 0 ∧ t = ByteArray.empty ∧ b = false) ∨ (120 < n ∧ t = ByteArray.empty ∧ b = false) ∨ (∃ N : Nat, n = N ∧ (N : Int) ≤ 120 ∧ t = str8 (f N) ∧ b = true)
theorem pad_is (f : Nat → List UInt8) (n : Int) : ∃ t b, PadIs f n t b := by
  by_cases h1 : n < 0
  · exact ⟨_, _, .inl ⟨h1, rfl, rfl⟩⟩
  · by_cases h2 : 120 < n
    · exact ⟨_, _, .inr (.inl ⟨h2, rfl, rfl⟩)⟩
    · exact ⟨_, _, .inr (.inr ⟨n.toNat, by omega, by omega, rfl, rfl⟩)⟩
theorem rep_zero (x : UInt8) {n : Nat} (h : n = 0) : List.replicate n x = [] := by subst h; rfl
theorem splice_none (N : Nat) (x : UInt8) (l : List UInt8) (h : l.length = N) : splice (List.replicate N x) 0 l = l := splice0 _ _ (by rw [List.length_replicate, h])

theorem left_cut {s : ByteArray} {x : UInt8} {N : Nat} (h : N ≤ s.size) : str8 (leftL s.data.toList x N) = s.extract 0 N := by
  rw [ext8, leftL, rep_zero x (by rw [len8]; omega)]; simp
theorem left_pad {s : ByteArray} {x : UInt8} {N d : Nat} (h : s.size < N) (hd : (N : Int) - s.size = d) : str8 (leftL s.data.toList x N) = s ++ str8 (List.replicate d x) := by
  rw [cat_str, str8_list, leftL, List.take_of_length_le (by rw [len8]; omega), len8, show N - s.size = d by omega]
theorem left_placed {s : ByteArray} {x : UInt8} {N : Nat} : splice (List.replicate N x) 0 (s.data.toList.take (N - 0)) = leftL s.data.toList x N := by
  rw [splice_pad _ _ _ _ (by rw [List.length_take]; omega), leftL]
  simp
  omega
theorem right_cut {s : ByteArray} {x : UInt8} {N : Nat} (h : N ≤ s.size) : str8 (rightL s.data.toList x N) = s.extract (s.size - N) s.size := by
  rw [ext8, rightL, rep_zero x (by rw [len8]; omega), List.nil_append, len8, List.take_of_length_le (by rw [List.length_drop, len8]; omega)]
theorem right_pad {s : ByteArray} {x : UInt8} {N d : Nat} (h : s.size < N) (hd : (N : Int) - s.size = d) : str8 (rightL s.data.toList x N) = str8 (List.replicate d x) ++ s := by
  rw [cat_str, str8_list, rightL, len8, show s.size - N = 0 by omega, List.drop_zero, show N - s.size = d by omega]
theorem right_placed {s : ByteArray} {x : UInt8} {N a : Nat} (h : (N : Int) - s.size = a) : splice (List.replicate N x) a (s.data.toList.take (N - a)) = rightL s.data.toList x N := by
  rw [List.take_of_length_le (by rw [len8]; omega), splice_pad _ _ _ _ (by rw [len8]; omega), rightL, len8, show s.size - N = 0 by omega, List.drop_zero, show N - s.size = a by omega, rep_zero x (show N - a - s.size = 0 by omega), List.append_nil]
theorem right_placed2 {s : ByteArray} {x : UInt8} {N a : Nat} (h : (N : Int) - s.size = -(a : Int)) : splice (List.replicate N x) 0 ((s.data.toList.drop a).take N) = rightL s.data.toList x N := by
  have h2 : (s.data.toList.drop a).length = N := by rw [List.length_drop, len8]; omega
  rw [List.take_of_length_le (by omega), splice_none _ _ _ h2, rightL, len8, show s.size - N = a by omega, rep_zero x (by omega), List.nil_append]
theorem center_cut {s : ByteArray} {x : UInt8} {N a : Nat} (h : N ≤ s.size) (ha : ((s.size : Int) - N) / 2 = a) : str8 (centerL s.data.toList x N) = s.extract a (a + N) := by
  rw [ext8, centerL, len8, rep_zero x (show (N - s.size) / 2 = 0 by omega), rep_zero x (show N - s.size - (N - s.size) / 2 = 0 by omega), show (s.size - N) / 2 = a by omega, show a + N - a = N by omega]; simp
theorem center_pad {s : ByteArray} {x : UInt8} {N a d : Nat} (h : s.size < N) (ha : ((N : Int) - s.size) / 2 = a) (hd : (N : Int) - s.size - a = d) : str8 (centerL s.data.toList x N) = (str8 (List.replicate a x) ++ s) ++ str8 (List.replicate d x) := by
  rw [cat_str, cat_str, str8_list, str8_list, str8_list, centerL, len8, show (N - s.size) / 2 = a by omega, show N - s.size - a = d by omega, show (s.size - N) / 2 = 0 by omega, List.drop_zero, List.take_of_length_le (by rw [len8]; omega), List.append_assoc]
theorem center_placed {s : ByteArray} {x : UInt8} {N a : Nat} (h : s.size ≤ N) (ha : ((N : Int) - s.size) / 2 = a) : splice (List.replicate N x) a (s.data.toList.take (N - a)) = centerL s.data.toList x N := by
  rw [List.take_of_length_le (by rw [len8]; omega), splice_pad _ _ _ _ (by rw [len8]; omega), centerL, len8, show (s.size - N) / 2 = 0 by omega, List.drop_zero, List.take_of_length_le (by rw [len8]; omega), show (N - s.size) / 2 = a by omega, show N - a - s.size = N - s.size - a by omega]
theorem center_placed2 {s : ByteArray} {x : UInt8} {N a : Nat} (h : N < s.size) (ha : ((s.size : Int) - N) / 2 = a) : splice (List.replicate N x) 0 ((s.data.toList.drop a).take N) = centerL s.data.toList x N := by
  have h2 : ((s.data.toList.drop a).take N).length = N := by rw [List.length_take, List.length_drop, len8]; omega
  rw [splice_none _ _ _ h2, centerL, len8, show (s.size - N) / 2 = a by omega, rep_zero x (show (N - s.size) / 2 = 0 by omega), rep_zero x (show N - s.size - (N - s.size) / 2 = 0 by omega)]; simp

/-- A pad of so many bytes. -/
theorem pad_at (x : UInt8) {z : Int} {d : Nat} (hd : z = d) (h : (d : Int) ≤ 1000) : Hid (∀ W, Calls Try.prog 17 #[.int .i64 z, .int .u8 (x.toNat : Int)] W (RetT W (str8 (List.replicate d x)))) := by
  intro W; rw [hd]; exact spec_pad d x W h

theorem spec_left (s : ByteArray) (n : Int) (x : UInt8) (t : ByteArray) (b : Bool) (w : World) (hs : (s.size : Int) ≤ 1048576) (h : PadIs (leftL s.data.toList x) n t b) : Calls Try.prog 9 #[.string s, .int .i64 n, .int .u8 (x.toNat : Int)] w (RetTB w t b) := by
  unfold RetTB
  rcases h with ⟨h1, rfl, rfl⟩ | ⟨h1, rfl, rfl⟩ | ⟨N, rfl, h1, rfl, rfl⟩
  · go_enter Try.func9, Try.ntmps9
    go_wp2
    go_ret2
    exact ⟨rfl, Below.refl _ _⟩
  · go_enter Try.func9, Try.ntmps9
    go_wp2
    go_ret2
    exact ⟨rfl, Below.refl _ _⟩
  · by_cases h2 : (N : Int) ≤ s.size
    · rw [left_cut (by omega)]
      go_enter Try.func9, Try.ntmps9
      go_wp2
      go_ret2
      exact ⟨rfl, Below.refl _ _⟩
    · obtain ⟨d, hd⟩ : ∃ d : Nat, (N : Int) - s.size = d := ⟨N - s.size, by omega⟩
      have HP := pad_at x hd (by omega)
      have hz : (str8 (List.replicate d x)).size = d := by rw [str8_size, List.length_replicate]
      rw [left_pad (by omega) hd]
      have hd2 : (d : Int) ≤ 120 := by omega
      unfold RetT at HP
      generalize str8 (List.replicate d x) = p at HP hz ⊢
      clear hd
      go_enter Try.func9, Try.ntmps9
      go_wp2_with fail
      refine (HP.out _).mono ?_
      rintro e w1 ⟨rfl, hb⟩
      go_wp2
      go_ret2
      exact ⟨rfl, hb⟩
end Go.Proofs.Ytapdkdgabhnliaa
