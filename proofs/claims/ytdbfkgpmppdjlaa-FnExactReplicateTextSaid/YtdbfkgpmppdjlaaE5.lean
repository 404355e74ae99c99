/- ReplicateText of the program and of the reference model, and the walk of the law on it. No conditions. -/
import Derived.Test.YtdbfkgpmppdjlaaT2
import Derived.Test.YtdbfkgpmppdjlaaE1
namespace Go.Proofs.Ytdbfkgpmppdjlaa
open Go.RowKit
set_option linter.unusedVariables false

/-- n copies. -/
def rep8 (l : List UInt8) : Nat → List UInt8
  | 0 => []
  | n + 1 => rep8 l n ++ l
theorem rep8_len (l : List UInt8) : ∀ n, (rep8 l n).length = n * l.length
  | 0 => by simp [rep8]
  | n + 1 => by rw [rep8, List.length_append, rep8_len l n, Nat.succ_mul]
theorem rep8_small {l : List UInt8} {k n : Nat} (hk : k ≤ n) (h : n * l.length ≤ 120) : (rep8 l k).length ≤ 120 := by
  rw [rep8_len]; exact Nat.le_trans (Nat.mul_le_mul_right _ hk) h
theorem str8_then (l : List UInt8) (s : ByteArray) : str8 l ++ s = str8 (l ++ s.data.toList) := str8_inj (by simp [ByteArray.data_append, str8])

/-- What ReplicateText says. -/
def RepIs (s : ByteArray) (n : Int) (t : ByteArray) (b : Bool) : Prop :=
  ((n < 0 ∨ 120 < s.size) ∧ t = ByteArray.empty ∧ b = false) ∨ (0 ≤ n ∧ s = ByteArray.empty ∧ t = ByteArray.empty ∧ b = true)
    ∨ (0 ≤ n ∧ 0 < s.size ∧ s.size ≤ 120 ∧ 120 / (s.size : Int) < n ∧ t = ByteArray.empty ∧ b = false)
    ∨ (∃ N : Nat, n = N ∧ 0 < s.size ∧ s.size ≤ 120 ∧ (N : Int) ≤ 120 / (s.size : Int) ∧ N * s.size ≤ 120 ∧ t = str8 (rep8 s.data.toList N) ∧ b = true)
theorem size_zero {s : ByteArray} (h : s.size = 0) : s = ByteArray.empty := by
  apply ByteArray.ext; exact Array.eq_empty_of_size_eq_zero h
theorem size_pos {s : ByteArray} (h : 0 < s.size) : ¬ s = ByteArray.empty := by
  intro e; subst e; simp at h
theorem not_empty {s : ByteArray} (h : 0 < s.size) : s.toList.isEmpty = false := by
  rw [ByteArray.toList_eq]
  have h2 : s.data.toList.length = s.size := rfl
  cases hs : s.data.toList with
  | nil => rw [hs] at h2; simp at h2; omega
  | cons x l => rfl
theorem rep_is (s : ByteArray) (n : Int) : ∃ t b, RepIs s n t b := by
  by_cases h1 : n < 0 ∨ 120 < s.size
  · exact ⟨_, _, .inl ⟨h1, rfl, rfl⟩⟩
  · by_cases h2 : s.size = 0
    · exact ⟨_, _, .inr (.inl ⟨by omega, size_zero h2, rfl, rfl⟩)⟩
    · by_cases h3 : 120 / (s.size : Int) < n
      · exact ⟨_, _, .inr (.inr (.inl ⟨by omega, by omega, by omega, h3, rfl, rfl⟩))⟩
      · refine ⟨_, _, .inr (.inr (.inr ⟨n.toNat, by omega, by omega, by omega, by omega, ?_, rfl, rfl⟩))⟩
        have h4 : n.toNat ≤ 120 / s.size := by
          have : (n.toNat : Int) ≤ ((120 / s.size : Nat) : Int) := by push_cast; omega
          exact_mod_cast this
        exact (Nat.le_div_iff_mul_le (by omega)).1 h4

set_option maxHeartbeats 400000 in
theorem spec_rep (s : ByteArray) (n : Int) (t : ByteArray) (b : Bool) (w : World) (hs : (s.size : Int) ≤ 1048576) (h : RepIs s n t b) : Calls Try.prog 23 #[.string s, .int .i64 n] w (RetTB w t b) := by
  unfold RetTB
  rcases h with ⟨h1 | h1, rfl, rfl⟩ | ⟨h1, rfl, rfl, rfl⟩ | ⟨h1, h2, h3, h4, rfl, rfl⟩ | ⟨N, rfl, h2, h3, h4, h5, rfl, rfl⟩
  · go_enter Try.func23, Try.ntmps23
    go_wp2
    go_ret2
    exact ⟨rfl, Below.refl _ _⟩
  · by_cases h0 : n < 0
    · go_enter Try.func23, Try.ntmps23
      go_wp2
      go_ret2
      exact ⟨rfl, Below.refl _ _⟩
    · go_enter Try.func23, Try.ntmps23
      go_wp2
      go_ret2
      exact ⟨rfl, Below.refl _ _⟩
  · go_enter Try.func23, Try.ntmps23
    go_wp2
    go_ret2
    exact ⟨rfl, Below.refl _ _⟩
  · have hne := size_pos h2
    go_enter Try.func23, Try.ntmps23
    go_wp2
    go_ret2
    exact ⟨rfl, Below.refl _ _⟩
  · have hne := size_pos h2
    have HM := Lib.hid h5
    have hN : (N : Int) ≤ 120 := by
      have h6 : N * 1 ≤ N * s.size := Nat.mul_le_mul_left _ h2
      omega
    clear h5
    go_enter Try.func23, Try.ntmps23
    go_wp2
    go_loop [6, 7] (fun o i => ∃ k : Nat, i = .int .i64 k ∧ k ≤ N ∧ o = .string (str8 (rep8 s.data.toList k))) (fun _ i => N - (intOf i).toNat)
    case atStart => exact ⟨0, rfl, by omega, rfl⟩
    case round =>
      obtain ⟨k, rfl, hk, rfl⟩ := hrel
      have hsz : (str8 (rep8 s.data.toList k)).size ≤ 120 := by rw [str8_size]; exact rep8_small hk HM.out
      have HA := Lib.hid (str8_then (rep8 s.data.toList k) s)
      by_cases hlt : (k : Int) < N
      · go_wp2
        go_round
        case rel => exact ⟨k + 1, by go_num, by omega, by rw [HA.out]; rfl⟩
        case measure => first | (simp [intOf]; done) | (simp [intOf]; omega)
      · obtain rfl : k = N := by omega
        go_wp2
        go_ret2
        exact ⟨rfl, Below.refl _ _⟩

set_option maxHeartbeats 400000 in
theorem impl_rep (s : ByteArray) (n : Int) (t : ByteArray) (b : Bool) (w : World) (hs : (s.size : Int) ≤ 1048576) (h : RepIs s n t b) : Calls Try.prog 24 #[.string s, .int .i64 n] w (RetTB w t b) := by
  unfold RetTB
  rcases h with ⟨h1 | h1, rfl, rfl⟩ | ⟨h1, rfl, rfl, rfl⟩ | ⟨h1, h2, h3, h4, rfl, rfl⟩ | ⟨N, rfl, h2, h3, h4, h5, rfl, rfl⟩
  · go_enter Try.func24, Try.ntmps24
    go_wp2
    go_ret2
    exact ⟨rfl, Below.refl _ _⟩
  · by_cases h0 : n < 0
    · go_enter Try.func24, Try.ntmps24
      go_wp2
      go_ret2
      exact ⟨rfl, Below.refl _ _⟩
    · go_enter Try.func24, Try.ntmps24
      go_wp2
      go_ret2
      exact ⟨rfl, Below.refl _ _⟩
  · go_enter Try.func24, Try.ntmps24
    go_wp2
    go_ret2
    exact ⟨rfl, Below.refl _ _⟩
  · have hne := size_pos h2
    have he := not_empty h2
    go_enter Try.func24, Try.ntmps24
    go_wp2
    go_ret2
    exact ⟨rfl, Below.refl _ _⟩
  · have hne := size_pos h2
    have he := not_empty h2
    obtain ⟨i0, hi, hz0, hz1, hz2⟩ := info_parts info8
    have HM := Lib.hid h5
    have hN : (N : Int) ≤ 120 := by
      have h6 : N * 1 ≤ N * s.size := Nat.mul_le_mul_left _ h2
      omega
    have hp : ((N : Int) * (s.size : Int)) ≤ 120 := by exact_mod_cast h5
    have hp0 : 0 ≤ ((N : Int) * (s.size : Int)) := by exact_mod_cast Nat.zero_le (N * s.size)
    go_enter Try.func24, Try.ntmps24
    go_wp2_with (at_make; refine wpList_make_own _ rfl _ _ 22 rfl w.heap.size 5 i0 (.int .u8 0) 1 Try.underlying22 hi hz0 hz1 _ _ _ (N * s.size) rfl rfl (by push_cast; rfl) (by rw [hz2]; omega) (by unfold maxLen; omega) (Nat.le_refl _) ?_)
    intro w1 hown hgr
    have HO := Lib.hid (own8_made hown)
    have HB := Lib.hid (show Below w.heap.size w w1 from (Below.refl _ _).grown hgr (Nat.le_refl _) (fun k hk => by cases hk))
    clear hown hgr
    go_wp2
    go_loopw [6, 27] (fun v i wr => ∃ k : Nat, i = .int .i64 k ∧ k ≤ N ∧ Own8 wr w.heap.size v (rep8 s.data.toList k) ∧ Below w.heap.size w wr) (fun _ i _ => N - (intOf i).toNat)
    case atStart => exact ⟨0, rfl, by omega, HO.out, HB.out⟩
    case round =>
      clear HO HB
      obtain ⟨k, rfl, hk, ho, hb⟩ := hrel
      have HO := Lib.hid ho
      have HB := Lib.hid hb
      have hsz := hb.size
      have hlen : (rep8 s.data.toList k).length ≤ 120 := rep8_small hk HM.out
      by_cases hlt : (k : Int) < N
      · clear ho hb
        go_wp2_with (at_builtin; refine Lib.wpList_append_own_string _ rfl _ _ 22 9 rfl w.heap.size 5 i0 Try.underlying22 Try.underlying9 hi hz0 hz1 hz2 _ _ _ rfl HO.out s rfl ?c3 ?c4 ?c5 ?_)
        case c3 => unfold maxLen; omega
        case c4 => omega
        case c5 => exact hsz
        intro v' w2 hown' hgrow _
        have HO2 := Lib.hid (own8_str hown')
        have HB2 := Lib.hid (below8_str HB.out HO.out hgrow)
        clear hown' hgrow
        go_wp2
        go_roundw
        case rel => exact ⟨k + 1, by go_num, by omega, HO2.out, HB2.out⟩
        case measure => first | (simp [intOf]; done) | (simp [intOf]; omega)
      · obtain rfl : k = N := by omega
        have hc := conv8 ho
        clear ho hb
        go_wp2
        go_ret2
        exact ⟨rfl, HB.out⟩

theorem FnExactReplicateText_walk (a0 : ByteArray) (a1 : Int) (w0 : a0.size ≤ maxLen) (w1 : (Lit.int .i64 a1).wf = true) (w : World) :
    Calls Try.prog 7 #[.string a0, .int .i64 a1] w fun e w' => e = .returned (.bool true) ∧ Below w.heap.size w w' := by
  have hm0 : (a0.size : Int) ≤ 9223372036854775807 := by unfold maxLen at w0; omega
  clear w0 w1
  by_cases hl0 : (1048576 : Int) < a0.size
  · go_enter Try.func7, Try.ntmps7
    go_wp2
    go_ret
    exact ⟨rfl, Below.refl _ _⟩
  · obtain ⟨v, b, h⟩ := rep_is a0 a1
    have H1 := Lib.hid (fun W => spec_rep a0 a1 v b W (by omega) h)
    have H2 := Lib.hid (fun W => impl_rep a0 a1 v b W (by omega) h)
    unfold RetTB at H1 H2
    clear h
    go_enter Try.func7, Try.ntmps7
    go_wp2_with fail
    refine (H1.out _).mono ?_
    rintro e w1 ⟨rfl, hb1⟩
    go_wp2_with fail
    refine (H2.out _).mono ?_
    rintro e w2 ⟨rfl, hb2⟩
    have HB := Lib.hid (hb1.trans (hb2.mono hb1.size))
    clear hb1 hb2
    cases b
    all_goals
      go_wp2
      go_ret
      exact ⟨rfl, HB.out⟩
end Go.Proofs.Ytdbfkgpmppdjlaa
