/- CompareTexts of the program and of the reference model, and the walk of the law on it. No conditions. -/
import Derived.Test.YtdbfkgpmppdjlaaC2
import Derived.Test.YtdbfkgpmppdjlaaShelf
import Derived.Deep.QuietTactic
import Derived.BigQuiet
namespace Go.Proofs.Ytdbfkgpmppdjlaa
open Go.RowKit
set_option linter.unusedVariables false

theorem cmp_at (l r : List UInt8) (k : Nat) (hl : k < l.length) (hr : k < r.length) : Lib.compareBytes (l.drop k) (r.drop k) = if l[k] < r[k] then -1 else if r[k] < l[k] then 1 else Lib.compareBytes (l.drop (k + 1)) (r.drop (k + 1)) := by
  rw [List.drop_eq_getElem_cons hl, List.drop_eq_getElem_cons hr]; rfl
/-- The comparison, from the byte k on. -/
def cmpTo (a b : ByteArray) (k : Nat) : Int := Lib.compareBytes (a.data.toList.drop k) (b.data.toList.drop k)
theorem cmpTo_lt {a b : ByteArray} {k : Nat} (ha : k < a.size) (hb : k < b.size) (h : (a[k].toNat : Int) < b[k].toNat) : cmpTo a b k = -1 := by
  unfold cmpTo
  rw [cmp_at _ _ k ha hb, if_pos]
  exact UInt8.lt_iff_toNat_lt.2 (by have : a[k].toNat < b[k].toNat := by omega
                                    exact this)
theorem cmpTo_gt {a b : ByteArray} {k : Nat} (ha : k < a.size) (hb : k < b.size) (h : (b[k].toNat : Int) < a[k].toNat) : cmpTo a b k = 1 := by
  unfold cmpTo
  have h1 : b[k].toNat < a[k].toNat := by omega
  rw [cmp_at _ _ k ha hb, if_neg, if_pos]
  · exact UInt8.lt_iff_toNat_lt.2 h1
  · intro h2
    have h3 : a[k].toNat < b[k].toNat := UInt8.lt_iff_toNat_lt.1 h2
    omega
theorem cmpTo_next {a b : ByteArray} {k : Nat} (ha : k < a.size) (hb : k < b.size) (h1 : ¬ (a[k].toNat : Int) < b[k].toNat) (h2 : ¬ (b[k].toNat : Int) < a[k].toNat) : cmpTo a b k = cmpTo a b (k + 1) := by
  unfold cmpTo
  rw [cmp_at _ _ k ha hb, if_neg, if_neg]
  · intro h
    have h3 : b[k].toNat < a[k].toNat := UInt8.lt_iff_toNat_lt.1 h
    omega
  · intro h
    have h3 : a[k].toNat < b[k].toNat := UInt8.lt_iff_toNat_lt.1 h
    omega
theorem cmp_nil (l r : List UInt8) (h : l = [] ∨ r = []) : Lib.compareBytes l r = if l.length < r.length then -1 else if r.length < l.length then 1 else 0 := by
  rcases l with _ | ⟨x, l⟩
  · rcases r with _ | ⟨y, r⟩
    · rfl
    · simp [Lib.compareBytes]
  · rcases r with _ | ⟨y, r⟩
    · simp [Lib.compareBytes]
    · simp at h
theorem cmpTo_end {a b : ByteArray} {k : Nat} (ha : k ≤ a.size) (hb : k ≤ b.size) (h : ¬ (k < a.size ∧ k < b.size)) : cmpTo a b k = if a.size < b.size then -1 else if b.size < a.size then 1 else 0 := by
  unfold cmpTo
  have la : a.data.toList.length = a.size := rfl
  have lb : b.data.toList.length = b.size := rfl
  rw [cmp_nil, List.length_drop, List.length_drop, la, lb]
  · by_cases h1 : a.size < b.size
    · rw [if_pos h1, if_pos (by omega)]
    · rw [if_neg h1, if_neg (by omega)]
      by_cases h2 : b.size < a.size
      · rw [if_pos h2, if_pos (by omega)]
      · rw [if_neg h2, if_neg (by omega)]
  · rcases Nat.lt_or_ge k a.size with h1 | h1
    · right; apply List.drop_eq_nil_of_le; omega
    · left; apply List.drop_eq_nil_of_le; omega

def RetCmp (w : World) (a b : ByteArray) (e : Ending) (w' : World) : Prop := e = .returned (.int .i64 (cmpTo a b 0)) ∧ Below w.heap.size w w'

theorem impl_cmp (a b : ByteArray) (w : World) : Calls Try.prog 39 #[.string a, .string b] w (RetCmp w a b) := by
  have HC := Lib.hid (Try.strings_Compare a b w)
  go_enter Try.func39, Try.ntmps39
  go_wp2_with fail
  refine HC.out.mono ?_
  rintro e w1 ⟨rfl, rfl⟩
  go_wp2
  go_ret
  exact ⟨rfl, Below.refl _ _⟩

theorem drewN_below {B : Nat} {w wr : World} (h : Below B w wr) : ∀ n, Below B w (wr.drewN n)
  | 0 => h
  | n + 1 => ⟨h.1, h.2, h.3, h.4, h.5⟩

set_option maxHeartbeats 400000 in
theorem spec_cmp (a b : ByteArray) (w : World) (ha : (a.size : Int) ≤ 1048576) (hb : (b.size : Int) ≤ 1048576) : Calls Try.prog 38 #[.string a, .string b] w (RetCmp w a b) := by
  unfold RetCmp
  generalize hr : cmpTo a b 0 = r
  go_enter Try.func38, Try.ntmps38
  go_wp2
  go_loopw [4, 5] (fun _ i wr => ∃ k : Nat, i = .int .i64 k ∧ k ≤ a.size ∧ k ≤ b.size ∧ cmpTo a b k = r ∧ Below w.heap.size w wr) (fun _ i _ => a.size - (intOf i).toNat)
  case atStart => exact ⟨0, rfl, by omega, by omega, hr, Below.refl _ _⟩
  case round =>
    clear hr
    obtain ⟨k, rfl, hka, hkb, hc, hbe⟩ := hrel
    have HB := Lib.hid hbe
    clear hbe
    by_cases h1 : (k : Int) < a.size
    · by_cases h2 : (k : Int) < b.size
      · have ka : k < a.size := by omega
        have kb : k < b.size := by omega
        by_cases hlt : (a[k].toNat : Int) < b[k].toNat
        · have HR := Lib.hid (hc.symm.trans (cmpTo_lt ka kb hlt))
          clear hc
          go_wp2
          go_quiet (fail)
          go_wp2
          go_ret
          exact ⟨by rw [HR.out]; rfl, drewN_below HB.out _⟩
        · by_cases hgt : (b[k].toNat : Int) < a[k].toNat
          · have HR := Lib.hid (hc.symm.trans (cmpTo_gt ka kb hgt))
            clear hc
            go_wp2
            go_quiet (fail)
            go_wp2
            go_quiet (fail)
            go_wp2
            go_ret
            exact ⟨by rw [HR.out]; rfl, (by first | exact drewN_below HB.out _ | exact drewN_below (drewN_below HB.out _) _)⟩
          · have HR := Lib.hid ((cmpTo_next ka kb hlt hgt).symm.trans hc)
            clear hc
            go_wp2
            go_quiet (fail)
            go_wp2
            go_quiet (fail)
            go_wp2
            go_roundw
            case rel => exact ⟨k + 1, by go_num, by omega, by omega, HR.out, drewN_below HB.out _⟩
            case measure => first | (simp [intOf]; done) | (simp [intOf]; omega)
      · obtain rfl : k = b.size := by omega
        have HR := Lib.hid (hc.symm.trans (cmpTo_end hka hkb (by omega)))
        clear hc
        by_cases h3 : (b.size : Int) < a.size
        · have HR2 := Lib.hid (show r = 1 by rw [HR.out, if_neg (by omega), if_pos (by omega)])
          go_wp2
          go_ret
          exact ⟨by rw [HR2.out]; rfl, HB.out⟩
        · omega
    · obtain rfl : k = a.size := by omega
      have HR := Lib.hid (hc.symm.trans (cmpTo_end hka hkb (by omega)))
      clear hc
      by_cases h3 : (a.size : Int) < b.size
      · have HR2 := Lib.hid (show r = -1 by rw [HR.out, if_pos (by omega)])
        go_wp2
        go_ret
        exact ⟨by rw [HR2.out]; rfl, HB.out⟩
      · have HR2 := Lib.hid (show r = 0 by rw [HR.out, if_neg (by omega), if_neg (by omega)])
        have h4 : ¬ (b.size : Int) < a.size := by omega
        go_wp2
        go_ret
        exact ⟨by rw [HR2.out]; rfl, HB.out⟩

theorem FnExactCompareTexts_walk (a0 : ByteArray) (a1 : ByteArray) (w0 : a0.size ≤ maxLen) (w1 : a1.size ≤ maxLen) (w : World) :
    Calls Try.prog 14 #[.string a0, .string a1] w fun e w' => e = .returned (.bool true) ∧ Below w.heap.size w w' := by
  have hm0 : (a0.size : Int) ≤ 9223372036854775807 := by unfold maxLen at w0; omega
  have hm1 : (a1.size : Int) ≤ 9223372036854775807 := by unfold maxLen at w1; omega
  clear w0 w1
  by_cases hl0 : (1048576 : Int) < a0.size
  · go_enter Try.func14, Try.ntmps14
    go_wp2
    go_ret
    exact ⟨rfl, Below.refl _ _⟩
  · by_cases hl1 : (1048576 : Int) < a1.size
    · go_enter Try.func14, Try.ntmps14
      go_wp2
      go_ret
      exact ⟨rfl, Below.refl _ _⟩
    · have H1 := Lib.hid (fun W => spec_cmp a0 a1 W (by omega) (by omega))
      have H2 := Lib.hid (fun W => impl_cmp a0 a1 W)
      unfold RetCmp at H1 H2
      generalize cmpTo a0 a1 0 = v at H1 H2
      go_enter Try.func14, Try.ntmps14
      go_wp2_with fail
      refine (H1.out _).mono ?_
      rintro e w1 ⟨rfl, hb1⟩
      go_wp2_with fail
      refine (H2.out _).mono ?_
      rintro e w2 ⟨rfl, hb2⟩
      have HB := Lib.hid (hb1.trans (hb2.mono hb1.size))
      clear hb1 hb2
      go_wp2
      go_ret
      exact ⟨rfl, HB.out⟩
end Go.Proofs.Ytdbfkgpmppdjlaa
