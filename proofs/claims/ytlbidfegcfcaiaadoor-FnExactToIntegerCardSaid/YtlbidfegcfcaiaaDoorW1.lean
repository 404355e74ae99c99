/- The reference model's FormatInt returns the decimal form, at every integer. No conditions. -/
import Derived.Test.YtlbidfegcfcaiaaDoorProg
import Derived.Test.YtlbidfegcfcaiaaDoorM1
import Derived.WalkKit
import Derived.ProofKit
import Derived.WalkLawsBesides
import Derived.WalkSpells
import Derived.Lib.Hide
import Derived.Laws.BytesArg
namespace Go.Proofs.YtlbidfegcfcaiaaDoor
open Go.RowKit

theorem ret_pair {a c : Int} {b d : Bool} (h1 : a = c) (h2 : b = d) : Ending.returned (.tuple #[.int .i64 a, .bool b]) = .returned (.tuple #[.int .i64 c, .bool d]) := by rw [h1, h2]
theorem ret_val {a c : Int} (h1 : a = c) : Value.int .i64 a = .int .i64 c := by rw [h1]

/-- A block of one byte, made into a string. -/
theorem conv_one (x : Int) (w : World) : (convert 22 9 (.slice (some ⟨w.heap.size, 0, none⟩) 1 1)).run Tryd.prog (w.alloc (.cells #[.int .u8 x] 5)) = .ok (.string ⟨#[UInt8.ofNat x.toNat]⟩) (w.alloc (.cells #[.int .u8 x] 5)) := by
  have h := run_convert_bytes_arg (P := Tryd.prog) (w.alloc (.cells #[.int .u8 x] 5)) 22 5 Tryd.underlying22 Tryd.underlying5 w.heap.size 0 1 1 [x] rfl
    (fun i hi => by
      obtain rfl : i = 0 := by omega
      exact cell_one_new w (.int .u8 x) 5 0 (.int .u8 x) rfl) 9 Tryd.underlying9
  simpa [strOfNums] using h

theorem string_eq {s : ByteArray} {l : List UInt8} (h : s.data.toList = l) : s = ⟨l.toArray⟩ := by
  subst h; cases s; simp

theorem size_eq (s : ByteArray) : s.size = s.data.toList.length := rfl

/-- One round's fact. -/
theorem fmt_round {n m : Int} {s : ByteArray} (hm : 0 < m) (h : Dec.digs n.toNat = Dec.digs m.toNat ++ s.data.toList) :
    Dec.digs n.toNat = Dec.digs (m / 10).toNat ++ (({ data := #[UInt8.ofNat (48 + m % 10).toNat] } : ByteArray) ++ s).data.toList := by
  rw [h, Dec.digs_pos (by omega), Dec.dg_byte m (by omega), show m.toNat / 10 = (m / 10).toNat by omega]
  simp [ByteArray.data_append]

theorem fmt_size {n m : Int} {s : ByteArray} (h0 : 0 ≤ n) (h1 : n ≤ 9223372036854775808) (h : Dec.digs n.toNat = Dec.digs m.toNat ++ s.data.toList) : s.size ≤ 20 := by
  have h2 := congrArg List.length h
  have h3 := Dec.digs_lt 20 n.toNat (Nat.lt_of_le_of_lt (show n.toNat ≤ 9223372036854775808 by omega) (by decide))
  rw [List.length_append, ← size_eq] at h2; omega

set_option maxRecDepth 100000 in
set_option maxHeartbeats 400000 in
theorem spec_fmt_pos (n : Int) (w : World) (h0 : 0 < n) (h1 : n ≤ 9223372036854775807) :
    Calls Tryd.prog 41 #[.int .i64 n] w fun e w' => e = .returned (.string ⟨(Dec.digs n.toNat).toArray⟩) ∧ Below w.heap.size w w' := by
  have c0 : (n == 0) = false := by simp; omega
  go_enter Tryd.func41, Tryd.ntmps41
  go_wp2
  go_loopw [0, 4, 5] (fun x o d wr => ∃ (m : Int) (s : ByteArray), x = .int .i64 m ∧ 0 ≤ m ∧ m ≤ n ∧ o = .string s ∧ Below w.heap.size w wr ∧ Dec.digs n.toNat = Dec.digs m.toNat ++ s.data.toList) (fun x _ _ _ => (intOf x).toNat)
  case atStart => exact ⟨n, _, rfl, by omega, by omega, rfl, Below.refl _ _, by simp⟩
  case round =>
    obtain ⟨m, s, rfl, h2, h3, rfl, h4, h5⟩ := hrel
    have hsz := fmt_size (by omega) (by omega) h5
    have H5 := Lib.hid h5
    clear h5
    by_cases hm : m = 0
    · subst hm
      go_wp2
      go_ret
      exact ⟨by rw [H5.out]; simp [Dec.digs_zero, ← string_eq (s := s) rfl], h4⟩
    · have hcv := conv_one (48 + m % 10) wr
      have hm' : (m == 0) = false := by simpa using hm
      go_wp2
      all_goals go_roundw
      case rel => exact ⟨m / 10, _, rfl, by omega, by omega, rfl, h4.alloc h4.size _, fmt_round (by omega) H5.out⟩
      case measure => simp [intOf]; omega

theorem cons_eq (b : UInt8) (s : ByteArray) : ({ data := #[b] } : ByteArray) ++ s = ⟨(b :: s.data.toList).toArray⟩ :=
  string_eq (by simp [ByteArray.data_append])

theorem quo_neg (m : Int) (h0 : 0 ≤ m) (h1 : m ≤ 9223372036854775808) : wrap64 (-m.tdiv 10) = -(m / 10) := by
  rw [Int.tdiv_eq_ediv_of_nonneg h0]
  unfold wrap64; omega

set_option maxRecDepth 100000 in
set_option maxHeartbeats 400000 in
theorem spec_fmt_neg (n : Int) (w : World) (h0 : 0 < n) (h1 : n ≤ 9223372036854775808) :
    Calls Tryd.prog 41 #[.int .i64 (-n)] w fun e w' => e = .returned (.string ⟨(45 :: Dec.digs n.toNat).toArray⟩) ∧ Below w.heap.size w w' := by
  have c0 : (-n == 0) = false := by simp; omega
  go_enter Tryd.func41, Tryd.ntmps41
  go_wp2
  go_loopw [0, 4, 5] (fun x o d wr => ∃ (m : Int) (s : ByteArray), x = .int .i64 (-m) ∧ 0 ≤ m ∧ m ≤ n ∧ o = .string s ∧ Below w.heap.size w wr ∧ Dec.digs n.toNat = Dec.digs m.toNat ++ s.data.toList) (fun x _ _ _ => (- intOf x).toNat)
  case atStart => exact ⟨n, _, rfl, by omega, by omega, rfl, Below.refl _ _, by simp⟩
  case round =>
    obtain ⟨m, s, rfl, h2, h3, rfl, h4, h5⟩ := hrel
    have hsz := fmt_size (by omega) h1 h5
    have H5 := Lib.hid h5
    clear h5
    by_cases hm : m = 0
    · subst hm
      go_wp2
      go_ret
      exact ⟨by rw [H5.out]; simp only [Dec.digs_zero, Int.toNat_zero, List.nil_append]; rw [← cons_eq]; rfl, h4⟩
    · have hcv := conv_one (48 + m % 10) wr
      have hcv2 := conv_one (48 + -(m % 10)) wr
      have hm' : (-m == 0) = false := by simpa using hm
      go_wp2
      all_goals go_roundw
      case rel => exact ⟨m / 10, _, by rw [quo_neg m h2 (by omega)], by omega, by omega, rfl, h4.alloc h4.size _, fmt_round (by omega) H5.out⟩
      case measure => rw [quo_neg m h2 (by omega)]; simp [intOf]; omega
      case rel => exact ⟨m / 10, _, by rw [quo_neg m h2 (by omega)], by omega, by omega, rfl, h4.alloc h4.size _, by rw [show (48 : Int) + -(m % 10) = 48 + m % 10 by omega]; exact fmt_round (by omega) H5.out⟩
      case measure => rw [quo_neg m h2 (by omega)]; simp [intOf]; omega
set_option maxRecDepth 100000 in
set_option maxHeartbeats 400000 in
theorem spec_fmt_zero (w : World) :
    Calls Tryd.prog 41 #[.int .i64 0] w fun e w' => e = .returned (.string ⟨#[48]⟩) ∧ Below w.heap.size w w' := by
  go_enter Tryd.func41, Tryd.ntmps41
  go_wp2
  go_ret
  exact ⟨rfl, Below.refl _ _⟩

/-- The reference model's FormatInt. -/
theorem spec_fmt (n : Int) (w : World) (h0 : -9223372036854775808 ≤ n) (h1 : n ≤ 9223372036854775807) :
    Calls Tryd.prog 41 #[.int .i64 n] w fun e w' => e = .returned (.string ⟨(Dec.fmt n).toArray⟩) ∧ Below w.heap.size w w' := by
  rcases Int.lt_trichotomy n 0 with h | h | h
  · have h2 := spec_fmt_neg (-n) w (by omega) (by omega)
    rw [Int.neg_neg] at h2
    have e : Dec.fmt n = 45 :: Dec.digs (-n).toNat := by
      unfold Dec.fmt; rw [if_neg (by omega), if_pos h, show n.natAbs = (-n).toNat by omega]
    rw [e]; exact h2
  · subst h; exact spec_fmt_zero w
  · have h2 := spec_fmt_pos n w h h1
    have e : Dec.fmt n = Dec.digs n.toNat := by
      unfold Dec.fmt; rw [if_neg (by omega), if_neg (by omega), show n.natAbs = n.toNat by omega]
    rw [e]; exact h2
end Go.Proofs.YtlbidfegcfcaiaaDoor
