/- The reference model's SplitByte returns the parts of a string, in memory of its own. -/
import Derived.Test.YtpncmahpcccmlaaDoorW2
import Derived.Test.YtpncmahpcccmlaaDoorM3
namespace Go.Proofs.YtpncmahpcccmlaaDoor
open Go.RowKit
set_option linter.unusedVariables false

theorem info_string : (Tryd.prog.info? 9).map (fun i => (i.zero, i.size, i.bytes)) = some (some (.string ByteArray.empty), 1, 16) := by kernel_rfl

/-- Strings of the call's own: a slice whose elements are l, in a block from base on. -/
def Owns (w : World) (base : Nat) (v : Value) (l : List ByteArray) : Prop := w.ownsRow base 9 1 v l.length (l.map Value.string)

theorem map_snoc (l : List ByteArray) (x : ByteArray) : (l ++ [x]).map Value.string = l.map Value.string ++ [Value.string x] := by simp

theorem owns_app {w1 : World} {base : Nat} {v' : Value} {l : List ByteArray} {x : ByteArray} (h : w1.ownsRow base 9 1 v' (l.length + 1) (l.map Value.string ++ [Value.string x])) : Owns w1 base v' (l ++ [x]) := by
  unfold Owns; rw [map_snoc, List.length_append]; exact h

theorem below_app {w wr w1 : World} {v : Value} {l : List ByteArray} {o : Obj} (hb : Below w.heap.size w wr) (hown : Owns wr w.heap.size v l) (hg : (wr.alloc o).grownBy w1 v.ownBlock) : Below w.heap.size w w1 :=
  (hb.alloc hb.size o).grown hg (by have := hb.size; simp; omega) (fun k hk => (hown.lt k hk).1)

theorem owns_below {w w1 : World} {base : Nat} {v : Value} {l : List ByteArray} (h : Owns w base v l) (hb : Below w.heap.size w w1) : Owns w1 base v l := by
  refine ⟨h.1, ?_⟩
  rcases h.2 with hn | ⟨g, cap, cur, hv, hg, hgg, r⟩
  · exact .inl hn
  · exact .inr ⟨g, cap, cur, hv, hg, by rw [hb.block g (Array.getElem?_eq_some_iff.1 hgg).1]; exact hgg, r⟩

theorem new_cell (w : World) (x : Value) (t : TypeId) : ∀ (j : Nat) (u : Value), [x][j]? = some u → (w.alloc (.cells #[x] t)).cell? ((⟨w.heap.size, 0, none⟩ : Addr).add j) = some u := by
  intro j u hj
  match j, hj with
  | 0, hj => simp at hj; subst hj; simp [Addr.add]

theorem one_string (x : ByteArray) : ∀ u ∈ [Value.string x], u.oneCell' = true := by
  intro u hu; simp at hu; subst hu; rfl

theorem max_small {n : Nat} (h : n ≤ 1048577) : n ≤ maxLen := by unfold maxLen; omega

end Go.Proofs.YtpncmahpcccmlaaDoor
