/- Bytes of a call's own, as a list of bytes: append, conversion to a string, what stays. No conditions. -/
import Derived.Test.YtlbidfegcfcaiaaDoorC2
import Derived.Laws.BytesArg
import Derived.Laws.CopyOwn
import Derived.Lib.AppendStr
import Derived.Lib.BufferWrite
import Derived.OwnWalk
namespace Go.Proofs.YtlbidfegcfcaiaaDoor
open Go.RowKit
set_option linter.unusedVariables false

theorem info8 : (Tryd.prog.info? 5).map (fun i => (i.zero, i.size, i.bytes)) = some (some (.int .u8 0), 1, 1) := by kernel_rfl
/-- Bytes of the call's own: a slice whose elements are l, in a block from base on. -/
def Own8 (w : World) (base : Nat) (v : Value) (l : List UInt8) : Prop := w.ownsRow base 5 1 v l.length (Lib.byteCells l)
/-- Bytes as a string. -/
def str8 (l : List UInt8) : ByteArray := ⟨l.toArray⟩
theorem str8_size (l : List UInt8) : (str8 l).size = l.length := by simp [str8, ByteArray.size]
theorem str8_data (s : ByteArray) : str8 s.data.toList = s := by cases s; simp [str8]
theorem str8_list (l : List UInt8) : (str8 l).data.toList = l := by simp [str8]
theorem str8_nil : str8 [] = ByteArray.empty := rfl
theorem str8_inj {s : ByteArray} {l : List UInt8} (h : s.data.toList = l) : s = str8 l := by rw [← h, str8_data]
theorem len8 (s : ByteArray) : s.data.toList.length = s.size := rfl
theorem cells8_app (l m : List UInt8) : Lib.byteCells (l ++ m) = Lib.byteCells l ++ Lib.byteCells m := by simp [Lib.byteCells]
theorem own8_app {w1 : World} {base : Nat} {v' : Value} {l : List UInt8} {x : UInt8} (h : w1.ownsRow base 5 1 v' (l.length + 1) (Lib.byteCells l ++ [Value.int .u8 (x.toNat : Int)])) : Own8 w1 base v' (l ++ [x]) := by
  unfold Own8; rw [cells8_app, List.length_append]; exact h
theorem own8_str {w1 : World} {base : Nat} {v' : Value} {l : List UInt8} {s : ByteArray} (h : w1.ownsRow base 5 1 v' (l.length + s.size) (Lib.byteCells l ++ Lib.strCells s)) : Own8 w1 base v' (l ++ s.data.toList) := by
  unfold Own8; rw [cells8_app, List.length_append]; exact h
theorem own8_made {w1 : World} {base : Nat} {v : Value} (h : w1.ownsRow base 5 1 v 0 []) : Own8 w1 base v [] := h
theorem below8_app {w wr w1 : World} {v : Value} {l : List UInt8} {o : Obj} (hb : Below w.heap.size w wr) (hown : Own8 wr w.heap.size v l) (hg : (wr.alloc o).grownBy w1 v.ownBlock) : Below w.heap.size w w1 :=
  (hb.alloc hb.size o).grown hg (by have := hb.size; simp; omega) (fun k hk => (hown.lt k hk).1)
theorem below8_str {w wr w1 : World} {v : Value} {l : List UInt8} (hb : Below w.heap.size w wr) (hown : Own8 wr w.heap.size v l) (hg : wr.grownBy w1 v.ownBlock) : Below w.heap.size w w1 :=
  hb.grown hg hb.size (fun k hk => (hown.lt k hk).1)
theorem own8_below {w w1 : World} {base : Nat} {v : Value} {l : List UInt8} (h : Own8 w base v l) (hb : Below w.heap.size w w1) : Own8 w1 base v l := by
  refine ⟨h.1, ?_⟩
  rcases h.2 with hn | ⟨g, cap, cur, hv, hg, hgg, r⟩
  · exact .inl hn
  · exact .inr ⟨g, cap, cur, hv, hg, by rw [hb.block g (Array.getElem?_eq_some_iff.1 hgg).1]; exact hgg, r⟩
theorem new8 (w : World) (x : Value) (t : TypeId) : ∀ (j : Nat) (u : Value), [x][j]? = some u → (w.alloc (.cells #[x] t)).cell? ((⟨w.heap.size, 0, none⟩ : Addr).add j) = some u := by
  intro j u hj
  match j, hj with
  | 0, hj => simp at hj; subst hj; simp [Addr.add]
theorem one8 (k : IntKind) (x : Int) : ∀ u ∈ [Value.int k x], u.oneCell' = true := by
  intro u hu; simp at hu; subst hu; rfl
theorem max8 {n : Nat} (h : n ≤ 1048577) : n ≤ maxLen := by unfold maxLen; omega
theorem nums8 (l : List UInt8) : strOfNums (l.map fun b : UInt8 => (b.toNat : Int)) = str8 l := by
  unfold strOfNums str8
  congr 1
  rw [List.map_map]
  congr 1
  conv => rhs; rw [← List.map_id l]
  exact List.map_congr_left fun b _ => by simp
/-- A string made of bytes that can be read. -/
theorem conv8_cells {w : World} (g cap : Nat) (l : List UInt8) (h : ∀ j, j < l.length → w.cell? ⟨g, j, none⟩ = (Lib.byteCells l)[j]?) : (convert 22 9 (.slice (some ⟨g, 0, none⟩) l.length cap)).run Tryd.prog w = .ok (.string (str8 l)) w := by
  have e := run_convert_bytes_arg (P := Tryd.prog) w 22 5 Tryd.underlying22 Tryd.underlying5 g 0 l.length cap (l.map fun b : UInt8 => (b.toNat : Int)) (by simp) (fun i hi => by
    rw [Nat.zero_add, h i (by omega)]
    simp [Lib.byteCells, List.getD, List.getElem?_eq_getElem hi]) 9 Tryd.underlying9
  rw [nums8] at e
  exact e
theorem conv8 {w : World} {base : Nat} {v : Value} {l : List UInt8} (h : Own8 w base v l) : (convert 22 9 v).run Tryd.prog w = .ok (.string (str8 l)) w := by
  have h2 := h.2
  rcases h2 with ⟨rfl, h0⟩ | ⟨g, cap, cur, rfl, hg⟩
  · have : l = [] := List.length_eq_zero_iff.1 h0
    subst this
    exact run_convert_bytes_nil (P := Tryd.prog) w 22 5 Tryd.underlying22 Tryd.underlying5 0 0 9 Tryd.underlying9
  · exact conv8_cells g cap l (fun j hj => h.cellAt j (by omega))
/-- A call that returns a text, and makes memory alone. -/
def RetT (w : World) (s : ByteArray) (e : Ending) (w' : World) : Prop := e = .returned (.string s) ∧ Below w.heap.size w w'
theorem below_then {w wa wb : World} (h : Below w.heap.size w wa) (hb : Below wa.heap.size wa wb) : Below w.heap.size w wb := h.trans (hb.mono h.size)
theorem drewN_a {B : Nat} {w wr : World} (h : Below B w wr) : ∀ n, Below B w (wr.drewN n)
  | 0 => h
  | n + 1 => ⟨h.1, h.2, h.3, h.4, h.5⟩
end Go.Proofs.YtlbidfegcfcaiaaDoor
