/- The reference model's and the program's Join, and the helpers of the law on it. -/
import Derived.Test.YtjgnigalodebkaaW8
import Derived.Test.YtjgnigalodebkaaM4
import Derived.Test.YtjgnigalodebkaaShelf
import Derived.Lib.AppendStr
import Derived.Lib.Builder
namespace Go.Proofs.Ytjgnigalodebkaa
open Go.RowKit
set_option linter.unusedVariables false

theorem info_byte : (Try.prog.info? 5).map (fun i => (i.zero, i.size, i.bytes)) = some (some (.int .u8 0), 1, 1) := by kernel_rfl

/-- Letters of the call's own. -/
def OwnB (w : World) (base : Nat) (v : Value) (l : List UInt8) : Prop := w.ownsRow base 5 1 v l.length (Lib.byteCells l)

theorem ownb_slice {w : World} {base : Nat} {v : Value} {l : List UInt8} (h : OwnB w base v l) : ∃ a c, v = .slice a l.length c := by
  rcases h.2 with ⟨hv, h0⟩ | ⟨g, cap, cur, hv, _⟩
  · exact ⟨_, _, by rw [hv, h0]⟩
  · exact ⟨_, _, hv⟩
theorem ownb_app {w1 : World} {base : Nat} {v' : Value} {l : List UInt8} {s : ByteArray} (h : w1.ownsRow base 5 1 v' (l.length + s.size) (Lib.byteCells l ++ Lib.strCells s)) : OwnB w1 base v' (l ++ s.data.toList) := by
  unfold OwnB; rw [Lib.byteCells_append, List.length_append, ← size_eq]; exact h
theorem belowb_app {w wr w1 : World} {v : Value} {l : List UInt8} (hb : Below w.heap.size w wr) (hown : OwnB wr w.heap.size v l) (hg : wr.grownBy w1 v.ownBlock) : Below w.heap.size w w1 :=
  hb.grown hg hb.size (fun k hk => (hown.lt k hk).1)

theorem conv_own {w : World} {base : Nat} {v : Value} {l : List UInt8} (h : OwnB w base v l) : (convert 22 9 v).run Try.prog w = .ok (.string ⟨l.toArray⟩) w := by
  rcases h.2 with ⟨rfl, h0⟩ | ⟨g, cap, cur, rfl, _, _, _, _, _, _⟩
  · obtain rfl : l = [] := List.length_eq_zero_iff.1 h0
    exact run_convert_bytes_nil w 22 5 Try.underlying22 Try.underlying5 0 0 9 Try.underlying9
  · exact run_convert_bytes_back w 22 9 5 ⟨g, 0, none⟩ cap l Try.underlying22 Try.underlying5 Try.underlying9 (fun j hj =>
      h.cells (g := g) rfl j _ (by simp [Lib.byteCells, hj]))

/-- Strings that are read, each of at most 1048576 letters. -/
def Small (l : List ByteArray) : Prop := l.length ≤ 1048576 ∧ ∀ i, i < l.length → (l.getD i ByteArray.empty).size ≤ 1048576

end Go.Proofs.Ytjgnigalodebkaa
