/- CompareTexts of the program and of the reference model, and the walk of the law on it. No conditions. -/
import Derived.Test.YtjgnigalodebkaaDoorC2
import Derived.Test.YtjgnigalodebkaaDoorShelf
import Derived.Deep.QuietTactic
import Derived.BigQuiet
namespace Go.Proofs.YtjgnigalodebkaaDoor
open Go.RowKit
set_option linter.unusedVariables false

theorem cmp_at (l r : List UInt8) (k : Nat) (hl : k < l.length) (hr : k < r.length) : Lib.compareBytes (l.drop k) (r.drop k) = if l[k] < r[k] then -1 else if r[k] < l[k] then 1 else Lib.compareBytes (l.drop (k + 1)) (r.drop (k + 1)) := by
  rw [List.drop_eq_getElem_cons hl, List.drop_eq_getElem_cons hr]; rfl
/-- The comparison, from the byte k on. -/
def cmpTo (a b : ByteArray) (k : Nat) : Int := Lib.compareBytes (a.data.toList.drop k) (b.data.toList.drop k)
theorem cmpTo_lt {a b : ByteArray} {k : Nat} (ha : k < a.size) (hb : k < b.size) (h : (a[k].toNat : Int) < b[k].toNat) : cmpTo a b k = -1 := by
  unfold cmpTo
  rw [cmp_at _ _ k ha hb, if_pos]
  exact UInt8.lt_iff_toNat_lt.2 (by have : a[k].toNat < b[k].toNat := by omega
                                    exact this)
theorem cmpTo_gt {a b : ByteArray} {k : Nat} (ha : k < a.size) (hb : k < b.size) (h : (b[k].toNat : Int) < a[k].toNat) : cmpTo a b k = 1 := by
  unfold cmpTo
  have h1 : b[k].toNat < a[k].toNat := by omega
  rw [cmp_at _ _ k ha hb, if_neg, if_pos]
  · exact UInt8.lt_iff_toNat_lt.2 h1
  · intro h2
    have h3 : a[k].toNat < b[k].toNat := UInt8.lt_iff_toNat_lt.1 h2
    omega
theorem cmpTo_next {a b : ByteArray} {k : Nat} (ha : k < a.size) (hb : k < b.size) (h1 : ¬ (a[k].toNat : Int) < b[k].toNat) (h2 : ¬ (b[k].toNat : Int) < a[k].toNat) : cmpTo a b k = cmpTo a b (k + 1) := by
  unfold cmpTo
  rw [cmp_at _ _ k ha hb, if_neg, if_neg]
  · intro h
    have h3 : b[k].toNat < a[k].toNat := UInt8.lt_iff_toNat_lt.1 h
    omega
  · intro h
    have h3 : a[k].toNat < b[k].toNat := UInt8.lt_iff_toNat_lt.1 h
    omega
theorem cmp_nil (l r : List UInt8) (h : l = [] ∨ r = []) : Lib.compareBytes l r = if l.length < r.length then -1 else if r.length < l.length then 1 else 0 := by
  rcases l with _ | ⟨x, l⟩
  · rcases r with _ | ⟨y, r⟩
    · rfl
    · simp [Lib.compareBytes]
  · rcases r with _ | ⟨y, r⟩
    · simp [Lib.compareBytes]
    · simp at h
theorem cmpTo_end {a b : ByteArray} {k : Nat} (ha : k ≤ a.size) (hb : k ≤ b.size) (h : ¬ (k < a.size ∧ k < b.size)) : cmpTo a b k = if a.size < b.size then -1 else if b.size < a.size then 1 else 0 := by
  unfold cmpTo
  have la : a.data.toList.length = a.size := rfl
  have lb : b.data.toList.length = b.size := rfl
  rw [cmp_nil, List.length_drop, List.length_drop, la, lb]
  · by_cases h1 : a.size < b.size
    · rw [if_pos h1, if_pos (by omega)]
    · rw [if_neg h1, if_neg (by omega)]
      by_cases h2 : b.size < a.size
      · rw [if_pos h2, if_pos (by omega)]
      · rw [if_neg h2, if_neg (by omega)]
  · rcases Nat.lt_or_ge k a.size with h1 | h1
    · right; apply List.drop_eq_nil_of_le; omega
    · left; apply List.drop_eq_nil_of_le; omega

def RetCmp (w : World) (a b : ByteArray) (e : Ending) (w' : World) : Prop := e = .returned (.int .i64 (cmpTo a b 0)) ∧ Below w.heap.size w w'

theorem drewN_below {B : Nat} {w wr : World} (h : Below B w wr) : ∀ n, Below B w (wr.drewN n)
  | 0 => h
  | n + 1 => ⟨h.1, h.2, h.3, h.4, h.5⟩

end Go.Proofs.YtjgnigalodebkaaDoor
