/- TrimText of the program and of the reference model, and the walk of the law on it. No conditions. -/
import Derived.Test.YtdbfkgpmppdjlaaT1
import Derived.Test.YtdbfkgpmppdjlaaE1
import Derived.Test.YtdbfkgpmppdjlaaE2
import Derived.Test.YtdbfkgpmppdjlaaC3
import Derived.Deep.QuietTactic
import Derived.BigQuiet
import Derived.IntWalk
namespace Go.Proofs.Ytdbfkgpmppdjlaa
open Go.RowKit
attribute [local go_sem ↓] Go.wp_at_zero Go.wp_at_succ
set_option linter.unusedVariables false

/-- How many bytes of the first n stay. -/
def trimTo (s : ByteArray) (a b : Int) : Nat → Nat
  | 0 => 0
  | n + 1 => if Cs.mem a b (s.data.toList.getD n 0).toNat then trimTo s a b n else n + 1
theorem ext0 (s : ByteArray) : s.extract 0 0 = ByteArray.empty := by simp
theorem trimTo_le (s : ByteArray) (a b : Int) : ∀ n, trimTo s a b n ≤ n
  | 0 => Nat.le_refl _
  | n + 1 => by
    unfold trimTo
    split
    · exact Nat.le_succ_of_le (trimTo_le s a b n)
    · exact Nat.le_refl _
theorem getD8 (s : ByteArray) (k : Nat) (h : k < s.size) : s.data.toList.getD k 0 = s[k] := by
  have h2 : k < s.data.toList.length := h
  rw [List.getD_eq_getElem?_getD, List.getElem?_eq_getElem h2]; rfl
theorem trimTo_yes (s : ByteArray) (a b : Int) (n : Nat) (h : n < s.size) (hm : Cs.mem a b s[n].toNat = true) : trimTo s a b (n + 1) = trimTo s a b n := by
  rw [trimTo, getD8 s n h, if_pos hm]
theorem trimTo_no (s : ByteArray) (a b : Int) (n : Nat) (h : n < s.size) (hm : Cs.mem a b s[n].toNat = false) : trimTo s a b (n + 1) = n + 1 := by
  rw [trimTo, getD8 s n h, if_neg (by rw [hm]; simp)]

/-- The set's variable, and what lies below. -/
abbrev TrimAt (w : World) (a b : Int) (wr : World) : Prop := wr.cell? ⟨w.heap.size, 0, none⟩ = some (.int .i64 a) ∧ wr.cell? ⟨w.heap.size, 1, none⟩ = some (.int .i64 b) ∧ Below w.heap.size w wr
theorem TrimAt.start (w : World) (a b : Int) (T : TypeId) : TrimAt w a b (w.alloc (.cells #[.int .i64 a, .int .i64 b] T)) := by
  refine ⟨?_, ?_, bl1 _ _⟩ <;> go_keep
theorem TrimAt.later {w wr wx : World} {a b : Int} (h : TrimAt w a b wr) (hb : Below wr.heap.size wr wx) : TrimAt w a b wx :=
  ⟨cell_later hb h.1, cell_later hb h.2.1, below_step h.2.2 hb⟩
theorem TrimAt.drew {w wr : World} {a b : Int} (h : TrimAt w a b wr) : TrimAt w a b wr.drew := ⟨h.1, h.2.1, h.2.2.drew⟩
set_option maxHeartbeats 400000 in
theorem spec_trim (s : ByteArray) (a b : Int) (w : World) (hs : (s.size : Int) ≤ 1048576) : Calls Try.prog 33 #[.string s, .agg #[.int .i64 a, .int .i64 b]] w (RetT w (s.extract 0 (trimTo s a b s.size))) := by
  unfold RetT
  generalize hr : trimTo s a b s.size = r
  go_enter Try.func33, Try.ntmps33
  go_wp2
  go_loopw [5] (fun i wr => ∃ k : Nat, i = .int .i64 k ∧ k ≤ s.size ∧ trimTo s a b k = r ∧ TrimAt w a b wr) (fun i _ => (intOf i).toNat)
  case atStart => exact ⟨s.size, rfl, by omega, hr, TrimAt.start _ _ _ _⟩
  case round =>
    clear hr
    obtain ⟨k, rfl, hk, hc, hT⟩ := hrel
    have HT := Lib.hid hT
    have HC := Lib.hid hc
    clear hT hc
    by_cases h0 : (0 : Int) < k
    · obtain ⟨n, hn⟩ : ∃ n : Nat, (k : Int) - 1 = n := ⟨k - 1, by omega⟩
      have hn2 : n < s.size := by omega
      obtain rfl : k = n + 1 := by omega
      generalize hkk : n + 1 = k at *
      have g1 : (n : Int) < s.size := by omega
      have g0 : (0 : Int) ≤ n := by omega
      have e1 : IntKind.i64.wrap ((k : Int) - 1) = n := by rw [hn]; exact IntWalk.i64_in _ (by omega)
      have hd : decide (0 < k) = true := by simpa using h0
      have hp : 0 < k := by omega
      have e2 : ((k : Int) - 1).toNat = n := by omega
      clear hn
      have hu := UInt8.toNat_lt s[n]
      by_cases hm : Cs.mem a b s[n].toNat = true
      · have HR : Hid (trimTo s a b n = r) := (trimTo_yes s a b n hn2 hm).symm.trans ((congrArg (trimTo s a b) hkk).trans HC.out)
        clear HC
        go_wp2_with fail
        go_region_held3 (fun w' => TrimAt w a b w')
          (first | exact HT.out.drew | exact TrimAt.later (by assumption) (by assumption))
          (first | (go_at_call 47; refine (spec_has _ _ _ _ (by omega) (by omega)).mono ?_; rintro e w1 ⟨rfl, hb1⟩))
        have HH := Lib.hid ‹TrimAt w a b w1›
        clear hb1
        go_wp2
        go_roundw
        case rel => exact ⟨n, by first | rfl | (rw [show ((k : Int) - 1) = n by omega]), by omega, HR.out, HH.out⟩
        case measure => first | (simp [intOf]; done) | (simp [intOf]; omega)
      · have hm2 : Cs.mem a b s[n].toNat = false := by simpa using hm
        clear hm
        have HR : Hid (r = k) := HC.out.symm.trans ((congrArg (trimTo s a b) hkk).symm.trans ((trimTo_no s a b n hn2 hm2).trans hkk))
        clear HC
        go_wp2_with fail
        go_region_held3 (fun w' => TrimAt w a b w')
          (first | exact HT.out.drew | exact TrimAt.later (by assumption) (by assumption))
          (first | (go_at_call 47; refine (spec_has _ _ _ _ (by omega) (by omega)).mono ?_; rintro e w1 ⟨rfl, hb1⟩))
        have HH := Lib.hid ‹TrimAt w a b w1›
        clear hb1
        go_wp2
        go_ret
        exact ⟨by rw [HR.out]; rfl, HH.out.2.2⟩
    · obtain rfl : k = 0 := by omega
      have HZ : Hid (r = 0) := HC.out.symm
      clear HC
      go_wp2_with fail
      go_quiet (fail)
      go_wp2
      go_ret
      exact ⟨by rw [HZ.out, ext0]; rfl, drewN_below HT.out.2.2 _⟩

set_option maxHeartbeats 400000 in
theorem impl_trim (s : ByteArray) (a b : Int) (w : World) (hs : (s.size : Int) ≤ 1048576) : Calls Try.prog 35 #[.string s, .agg #[.int .i64 a, .int .i64 b]] w (RetT w (s.extract 0 (trimTo s a b s.size))) := by
  unfold RetT
  generalize hr : trimTo s a b s.size = r
  go_enter Try.func35, Try.ntmps35
  go_wp2
  go_loopw [5] (fun i wr => ∃ k : Nat, i = .int .i64 k ∧ k ≤ s.size ∧ trimTo s a b k = r ∧ TrimAt w a b wr) (fun i _ => (intOf i).toNat)
  case atStart => exact ⟨s.size, rfl, by omega, hr, TrimAt.start _ _ _ _⟩
  case round =>
    clear hr
    obtain ⟨k, rfl, hk, hc, hT⟩ := hrel
    have HT := Lib.hid hT
    have HC := Lib.hid hc
    clear hT hc
    by_cases h0 : (0 : Int) < k
    · obtain ⟨n, hn⟩ : ∃ n : Nat, (k : Int) - 1 = n := ⟨k - 1, by omega⟩
      have hn2 : n < s.size := by omega
      obtain rfl : k = n + 1 := by omega
      generalize hkk : n + 1 = k at *
      have g1 : (n : Int) < s.size := by omega
      have g0 : (0 : Int) ≤ n := by omega
      have e1 : IntKind.i64.wrap ((k : Int) - 1) = n := by rw [hn]; exact IntWalk.i64_in _ (by omega)
      have hd : decide (0 < k) = true := by simpa using h0
      have hp : 0 < k := by omega
      have e2 : ((k : Int) - 1).toNat = n := by omega
      clear hn
      have hu := UInt8.toNat_lt s[n]
      by_cases hm : Cs.mem a b s[n].toNat = true
      · have HR : Hid (trimTo s a b n = r) := (trimTo_yes s a b n hn2 hm).symm.trans ((congrArg (trimTo s a b) hkk).trans HC.out)
        clear HC
        go_wp2_with fail
        go_region_held3 (fun w' => TrimAt w a b w')
          (first | exact HT.out.drew | exact TrimAt.later (by assumption) (by assumption))
          (first | (go_at_call 48; refine (impl_has _ _ _ _ (by omega) (by omega)).mono ?_; rintro e w1 ⟨rfl, hb1⟩))
        have HH := Lib.hid ‹TrimAt w a b w1›
        clear hb1
        go_wp2
        go_roundw
        case rel => exact ⟨n, by first | rfl | (rw [show ((k : Int) - 1) = n by omega]), by omega, HR.out, HH.out⟩
        case measure => first | (simp [intOf]; done) | (simp [intOf]; omega)
      · have hm2 : Cs.mem a b s[n].toNat = false := by simpa using hm
        clear hm
        have HR : Hid (r = k) := HC.out.symm.trans ((congrArg (trimTo s a b) hkk).symm.trans ((trimTo_no s a b n hn2 hm2).trans hkk))
        clear HC
        go_wp2_with fail
        go_region_held3 (fun w' => TrimAt w a b w')
          (first | exact HT.out.drew | exact TrimAt.later (by assumption) (by assumption))
          (first | (go_at_call 48; refine (impl_has _ _ _ _ (by omega) (by omega)).mono ?_; rintro e w1 ⟨rfl, hb1⟩))
        have HH := Lib.hid ‹TrimAt w a b w1›
        clear hb1
        go_wp2_with fail
        refine (strings_clone _ _ (by simp [ByteArray.size_extract]; omega)).mono ?_
        rintro e w2 ⟨rfl, hb2⟩
        go_wp2
        go_ret
        exact ⟨by rw [HR.out]; rfl, below_step HH.out.2.2 hb2⟩
    · obtain rfl : k = 0 := by omega
      have HZ : Hid (r = 0) := HC.out.symm
      clear HC
      go_wp2_with fail
      go_quiet (fail)
      go_wp2_with fail
      refine (strings_clone _ _ (by simp)).mono ?_
      rintro e w1 ⟨rfl, hb1⟩
      go_wp2
      go_ret
      exact ⟨by rw [HZ.out, ext0]; rfl, below_step (drewN_below HT.out.2.2 _) hb1⟩

theorem FnExactTrimText_walk (a0 : ByteArray) (a1 b1 : Int) (w0 : a0.size ≤ maxLen) (w1 : (Lit.int .i64 a1).wf = true) (x1 : (Lit.int .i64 b1).wf = true) (w : World) :
    Calls Try.prog 12 #[.string a0, .agg #[.int .i64 a1, .int .i64 b1]] w fun e w' => e = .returned (.bool true) ∧ Below w.heap.size w w' := by
  have hm0 : (a0.size : Int) ≤ 9223372036854775807 := by unfold maxLen at w0; omega
  clear w0 w1 x1
  by_cases hl0 : (1048576 : Int) < a0.size
  · go_enter Try.func12, Try.ntmps12
    go_wp2
    go_ret
    exact ⟨rfl, bl1 _ _⟩
  · have H1 := Lib.hid (fun W => spec_trim a0 a1 b1 W (by omega))
    have H2 := Lib.hid (fun W => impl_trim a0 a1 b1 W (by omega))
    unfold RetT at H1 H2
    generalize a0.extract 0 (trimTo a0 a1 b1 a0.size) = v at H1 H2
    go_enter Try.func12, Try.ntmps12
    go_wp2_with fail
    refine (to_set _ _ _).mono ?_
    rintro e wa ⟨rfl, ha⟩
    have HA := Lib.hid ((TrimAt.start w a1 b1 _).later ha)
    clear ha
    go_wp2_with fail
    refine (H1.out _).mono ?_
    rintro e wb ⟨rfl, hb⟩
    have HB := Lib.hid (HA.out.later hb)
    clear hb
    obtain ⟨c0, c1, hbe⟩ := HB.out
    clear hbe
    go_wp2_with fail
    refine (to_set _ _ _).mono ?_
    rintro e wc ⟨rfl, hc⟩
    have HC := Lib.hid (HB.out.later hc)
    clear hc c0 c1
    go_wp2_with fail
    refine (H2.out _).mono ?_
    rintro e wd ⟨rfl, hd⟩
    have HD := Lib.hid (HC.out.later hd)
    clear hd
    go_wp2
    go_ret
    exact ⟨rfl, HD.out.2.2⟩
end Go.Proofs.Ytdbfkgpmppdjlaa
