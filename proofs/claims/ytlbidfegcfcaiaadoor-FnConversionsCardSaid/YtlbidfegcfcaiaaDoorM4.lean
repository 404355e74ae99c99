/- Plain facts on joining strings. No conditions. -/
import Derived.Lib.Hide
namespace Go.Proofs.YtlbidfegcfcaiaaDoor.Glue

/-- The letters of the first k strings, with others between them. -/
def upto (l : List ByteArray) (by_ : List UInt8) : Nat → List UInt8
  | 0 => []
  | k + 1 => upto l by_ k ++ (if k = 0 then [] else by_) ++ (l.getD k ByteArray.empty).data.toList

/-- What Join answers. -/
def joined (l : List ByteArray) (by_ : List UInt8) : List UInt8 := if (upto l by_ l.length).length ≤ 1048576 then upto l by_ l.length else []

theorem upto_first (l : List ByteArray) (by_ : List UInt8) : upto l by_ 1 = (l.getD 0 ByteArray.empty).data.toList := by simp [upto]
theorem upto_next (l : List ByteArray) (by_ : List UInt8) {k : Nat} (h : 0 < k) : upto l by_ (k + 1) = upto l by_ k ++ by_ ++ (l.getD k ByteArray.empty).data.toList := by
  show upto l by_ k ++ (if k = 0 then [] else by_) ++ _ = _
  rw [if_neg (by omega)]

theorem upto_mono (l : List ByteArray) (by_ : List UInt8) (k : Nat) : (upto l by_ k).length ≤ (upto l by_ (k + 1)).length := by
  show _ ≤ (upto l by_ k ++ (if k = 0 then [] else by_) ++ _).length
  rw [List.length_append, List.length_append]; omega
theorem upto_le (l : List ByteArray) (by_ : List UInt8) {k n : Nat} (h : k ≤ n) : (upto l by_ k).length ≤ (upto l by_ n).length := by
  induction n with
  | zero => obtain rfl : k = 0 := by omega
            exact Nat.le_refl _
  | succ n ih =>
    rcases Nat.lt_or_ge k (n + 1) with h1 | h1
    · exact Nat.le_trans (ih (by omega)) (upto_mono l by_ n)
    · obtain rfl : k = n + 1 := by omega
      exact Nat.le_refl _

theorem joined_no {l : List ByteArray} {by_ : List UInt8} {k : Nat} (hk : k ≤ l.length) (h : 1048576 < (upto l by_ k).length) : joined l by_ = [] := by
  unfold joined; rw [if_neg]; have := upto_le l by_ hk; omega
theorem joined_yes {l : List ByteArray} {by_ : List UInt8} (h : (upto l by_ l.length).length ≤ 1048576) : joined l by_ = upto l by_ l.length := by
  unfold joined; rw [if_pos h]
end Go.Proofs.YtlbidfegcfcaiaaDoor.Glue
