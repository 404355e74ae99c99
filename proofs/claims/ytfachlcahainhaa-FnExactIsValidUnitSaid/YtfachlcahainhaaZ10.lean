/- Joined texts: B0, C2, T1. No conditions besides those that each states. -/
import Derived.Test.YtfachlcahainhaaProg
import Derived.WalkKit
import Derived.ProofKit
import Derived.OpenShut
import Derived.ShutString
import Derived.ChangeOld
import Derived.Below
import Derived.SliceStrings
import Derived.WalkLawsBesides
import Derived.WalkSpells
import Derived.Lib.Hide
import Derived.Laws.BytesArg
import Derived.Laws.CopyOwn
import Derived.Lib.AppendStr
import Derived.Lib.BufferWrite
import Derived.OwnWalk
import Derived.Test.YtfachlcahainhaaZ2
/- What a walk is told of slices that came in, and two closed facts about the program. No conditions. -/
namespace Go.Proofs.Ytfachlcahainhaa
open Go.ChangeShapes Go.WideShapes Go.ChangeAt Go.RowKit

theorem own : ownKnob Try.prog.godebug = none := by kernel_rfl
theorem laidOut : laidOutB Try.prog = true := by kernel_rfl

/-- A slice of integers that came in: nil, or a row of cells. -/
def IsRow (k : IntKind) (w : World) (a : Option Addr) (len cap : Nat) (zs : List Int) : Prop :=
  (a = none ∧ len = 0 ∧ cap = 0 ∧ zs = []) ∨
  ∃ x, a = some x ∧ len ≤ cap ∧ cap ≤ maxLen ∧ zs.length = cap ∧ (∀ i, i < zs.length → w.cell? (x.add i) = some (.int k (zs.getD i 0))) ∧ ∀ n ∈ zs, (Lit.int k n).wf = true

/-- A slice of strings that came in. -/
def IsStrs (w : World) (a : Option Addr) (len cap : Nat) (zs : List ByteArray) : Prop :=
  (a = none ∧ len = 0 ∧ cap = 0 ∧ zs = []) ∨
  ∃ x, a = some x ∧ len ≤ cap ∧ cap ≤ maxLen ∧ zs.length = cap ∧ (∀ i, i < zs.length → w.cell? (x.add i) = some (.string (zs.getD i ByteArray.empty))) ∧ ∀ s ∈ zs, s.size ≤ maxLen

end Go.Proofs.Ytfachlcahainhaa
/- The set operations on two words, and the law's own conversions: what each returns. No conditions. -/
namespace Go.Proofs.Ytfachlcahainhaa
open Go.RowKit
set_option linter.unusedVariables false

/-- A call that returns a set, and makes memory alone. -/
def RetSet (w : World) (l h : Int) (e : Ending) (w' : World) : Prop := e = .returned (.agg #[.int .i64 l, .int .i64 h]) ∧ Below w.heap.size w w'
/-- A call that returns a bool, and makes memory alone. -/
def RetBool (w : World) (b : Bool) (e : Ending) (w' : World) : Prop := e = .returned (.bool b) ∧ Below w.heap.size w w'
theorem bl1 (w : World) (o : Obj) : Below w.heap.size w (w.alloc o) := (Below.refl _ _).alloc (Nat.le_refl _) _
theorem bl2 (w : World) (o p : Obj) : Below w.heap.size w ((w.alloc o).alloc p) := (bl1 w o).alloc (by simp) _
theorem bl3 (w : World) (o p q : Obj) : Below w.heap.size w (((w.alloc o).alloc p).alloc q) := (bl2 w o p).alloc (by simp; omega) _

theorem impl_and (a b c d : Int) (w : World) : Calls Try.prog 103 #[.agg #[.int .i64 a, .int .i64 b], .agg #[.int .i64 c, .int .i64 d]] w (RetSet w (bits .and .i64 a c) (bits .and .i64 b d)) := by
  go_enter Try.func103, Try.ntmps103
  go_wp2
  exact bodyPost_ret (v := .agg #[.int .i64 (bits .and .i64 a c), .int .i64 (bits .and .i64 b d)]) (by simp [results, Try.results103, go_sem]) rfl ⟨rfl, bl3 _ _ _ _⟩
theorem impl_or (a b c d : Int) (w : World) : Calls Try.prog 98 #[.agg #[.int .i64 a, .int .i64 b], .agg #[.int .i64 c, .int .i64 d]] w (RetSet w (bits .or .i64 a c) (bits .or .i64 b d)) := by
  go_enter Try.func98, Try.ntmps98
  go_wp2
  exact bodyPost_ret (v := .agg #[.int .i64 (bits .or .i64 a c), .int .i64 (bits .or .i64 b d)]) (by simp [results, Try.results98, go_sem]) rfl ⟨rfl, bl3 _ _ _ _⟩
/-- The words of the set of one byte. -/
def Cs.oneL (x : Int) : Int := if x < 64 then Cs.unit x.toNat else 0
def Cs.oneH (x : Int) : Int := if x < 64 then 0 else if x < 128 then Cs.unit (x - 64).toNat else 0
theorem impl_one (x : Int) (w : World) (h0 : 0 ≤ x) (h1 : x ≤ 255) : Calls Try.prog 99 #[.int .u8 x] w (RetSet w (Cs.oneL x) (Cs.oneH x)) := by
  unfold Cs.oneL Cs.oneH Cs.unit
  by_cases ha : x < 64
  · rw [if_pos ha, if_pos ha]
    go_enter Try.func99, Try.ntmps99
    go_wp2
    exact bodyPost_ret (v := .agg #[.int .i64 (wrap64 (2 ^ x.toNat)), .int .i64 0]) (by simp [results, Try.results99, go_sem]) rfl ⟨rfl, bl1 _ _⟩
  · rw [if_neg ha, if_neg ha]
    by_cases hb : x < 128
    · rw [if_pos hb]
      go_enter Try.func99, Try.ntmps99
      go_wp2
      exact bodyPost_ret (v := .agg #[.int .i64 0, .int .i64 (wrap64 (2 ^ (x - 64).toNat))]) (by simp [results, Try.results99, go_sem]) rfl ⟨rfl, bl1 _ _⟩
    · rw [if_neg hb]
      go_enter Try.func99, Try.ntmps99
      go_wp2
      exact bodyPost_ret (v := .agg #[.int .i64 0, .int .i64 0]) (by simp [results, Try.results99, go_sem]) rfl ⟨rfl, bl1 _ _⟩
theorem spec_add (a b x : Int) (w : World) (h0 : 0 ≤ x) (h1 : x < 128) : Calls Try.prog 90 #[.agg #[.int .i64 a, .int .i64 b], .int .u8 x] w (RetSet w (Cs.addL a x.toNat) (Cs.addH b x.toNat)) := by
  by_cases ha : x < 64
  · have e1 : Cs.addL a x.toNat = bits .or .i64 a (wrap64 (2 ^ x.toNat)) := if_pos (by omega)
    have e2 : Cs.addH b x.toNat = b := if_pos (by omega)
    rw [e1, e2]
    clear e1 e2
    go_enter Try.func90, Try.ntmps90
    go_wp2
    exact bodyPost_ret (v := .agg #[.int .i64 (bits .or .i64 a (wrap64 (2 ^ x.toNat))), .int .i64 b]) (by simp [results, Try.results90, go_sem]) rfl ⟨rfl, bl2 _ _ _⟩
  · have e0 : x.toNat - 64 = (x - 64).toNat := by omega
    have e1 : Cs.addL a x.toNat = a := if_neg (by omega)
    have e2 : Cs.addH b x.toNat = bits .or .i64 b (wrap64 (2 ^ (x - 64).toNat)) := by rw [← e0]; exact if_neg (by omega)
    rw [e1, e2]
    clear e0 e1 e2
    go_enter Try.func90, Try.ntmps90
    go_wp2
    exact bodyPost_ret (v := .agg #[.int .i64 a, .int .i64 (bits .or .i64 b (wrap64 (2 ^ (x - 64).toNat)))]) (by simp [results, Try.results90, go_sem]) rfl ⟨rfl, bl2 _ _ _⟩
theorem spec_has (a b x : Int) (w : World) (h0 : 0 ≤ x) (h1 : x ≤ 255) : Calls Try.prog 91 #[.agg #[.int .i64 a, .int .i64 b], .int .u8 x] w (RetBool w (Cs.mem a b x.toNat)) := by
  by_cases ha : x < 64
  · rw [Cs.mem_low (by omega), ← Cs.test_bit a x.toNat (by omega)]
    unfold Cs.unit
    go_enter Try.func91, Try.ntmps91
    go_wp2
    go_ret
    exact ⟨rfl, bl1 _ _⟩
  · by_cases hb : x < 128
    · have e0 : x.toNat - 64 = (x - 64).toNat := by omega
      rw [Cs.mem_high (by omega) (by omega), e0, ← Cs.test_bit b (x - 64).toNat (by omega)]
      clear e0
      unfold Cs.unit
      go_enter Try.func91, Try.ntmps91
      go_wp2
      go_ret
      exact ⟨rfl, bl1 _ _⟩
    · rw [Cs.mem_out (by omega)]
      go_enter Try.func91, Try.ntmps91
      go_wp2
      go_ret
      exact ⟨rfl, bl1 _ _⟩
end Go.Proofs.Ytfachlcahainhaa
/- Bytes of a call's own, as a list of bytes: append, conversion to a string, what stays. No conditions. -/
namespace Go.Proofs.Ytfachlcahainhaa
open Go.RowKit
set_option linter.unusedVariables false

theorem info8 : (Try.prog.info? 5).map (fun i => (i.zero, i.size, i.bytes)) = some (some (.int .u8 0), 1, 1) := by kernel_rfl
/-- Bytes of the call's own: a slice whose elements are l, in a block from base on. -/
def Own8 (w : World) (base : Nat) (v : Value) (l : List UInt8) : Prop := w.ownsRow base 5 1 v l.length (Lib.byteCells l)
/-- Bytes as a string. -/
def str8 (l : List UInt8) : ByteArray := ⟨l.toArray⟩
theorem str8_size (l : List UInt8) : (str8 l).size = l.length := by simp [str8, ByteArray.size]
theorem str8_data (s : ByteArray) : str8 s.data.toList = s := by cases s; simp [str8]
theorem str8_list (l : List UInt8) : (str8 l).data.toList = l := by simp [str8]
theorem str8_nil : str8 [] = ByteArray.empty := rfl
theorem str8_inj {s : ByteArray} {l : List UInt8} (h : s.data.toList = l) : s = str8 l := by rw [← h, str8_data]
theorem len8 (s : ByteArray) : s.data.toList.length = s.size := rfl
theorem cells8_app (l m : List UInt8) : Lib.byteCells (l ++ m) = Lib.byteCells l ++ Lib.byteCells m := by simp [Lib.byteCells]
theorem own8_app {w1 : World} {base : Nat} {v' : Value} {l : List UInt8} {x : UInt8} (h : w1.ownsRow base 5 1 v' (l.length + 1) (Lib.byteCells l ++ [Value.int .u8 (x.toNat : Int)])) : Own8 w1 base v' (l ++ [x]) := by
  unfold Own8; rw [cells8_app, List.length_append]; exact h
theorem own8_str {w1 : World} {base : Nat} {v' : Value} {l : List UInt8} {s : ByteArray} (h : w1.ownsRow base 5 1 v' (l.length + s.size) (Lib.byteCells l ++ Lib.strCells s)) : Own8 w1 base v' (l ++ s.data.toList) := by
  unfold Own8; rw [cells8_app, List.length_append]; exact h
theorem own8_made {w1 : World} {base : Nat} {v : Value} (h : w1.ownsRow base 5 1 v 0 []) : Own8 w1 base v [] := h
theorem below8_app {w wr w1 : World} {v : Value} {l : List UInt8} {o : Obj} (hb : Below w.heap.size w wr) (hown : Own8 wr w.heap.size v l) (hg : (wr.alloc o).grownBy w1 v.ownBlock) : Below w.heap.size w w1 :=
  (hb.alloc hb.size o).grown hg (by have := hb.size; simp; omega) (fun k hk => (hown.lt k hk).1)
theorem below8_str {w wr w1 : World} {v : Value} {l : List UInt8} (hb : Below w.heap.size w wr) (hown : Own8 wr w.heap.size v l) (hg : wr.grownBy w1 v.ownBlock) : Below w.heap.size w w1 :=
  hb.grown hg hb.size (fun k hk => (hown.lt k hk).1)
theorem own8_below {w w1 : World} {base : Nat} {v : Value} {l : List UInt8} (h : Own8 w base v l) (hb : Below w.heap.size w w1) : Own8 w1 base v l := by
  refine ⟨h.1, ?_⟩
  rcases h.2 with hn | ⟨g, cap, cur, hv, hg, hgg, r⟩
  · exact .inl hn
  · exact .inr ⟨g, cap, cur, hv, hg, by rw [hb.block g (Array.getElem?_eq_some_iff.1 hgg).1]; exact hgg, r⟩
theorem new8 (w : World) (x : Value) (t : TypeId) : ∀ (j : Nat) (u : Value), [x][j]? = some u → (w.alloc (.cells #[x] t)).cell? ((⟨w.heap.size, 0, none⟩ : Addr).add j) = some u := by
  intro j u hj
  match j, hj with
  | 0, hj => simp at hj; subst hj; simp [Addr.add]
theorem one8 (k : IntKind) (x : Int) : ∀ u ∈ [Value.int k x], u.oneCell' = true := by
  intro u hu; simp at hu; subst hu; rfl
theorem max8 {n : Nat} (h : n ≤ 1048577) : n ≤ maxLen := by unfold maxLen; omega
theorem nums8 (l : List UInt8) : strOfNums (l.map fun b : UInt8 => (b.toNat : Int)) = str8 l := by
  unfold strOfNums str8
  congr 1
  rw [List.map_map]
  congr 1
  conv => rhs; rw [← List.map_id l]
  exact List.map_congr_left fun b _ => by simp
/-- A string made of bytes that can be read. -/
theorem conv8_cells {w : World} (g cap : Nat) (l : List UInt8) (h : ∀ j, j < l.length → w.cell? ⟨g, j, none⟩ = (Lib.byteCells l)[j]?) : (convert 99 9 (.slice (some ⟨g, 0, none⟩) l.length cap)).run Try.prog w = .ok (.string (str8 l)) w := by
  have e := run_convert_bytes_arg (P := Try.prog) w 99 5 Try.underlying99 Try.underlying5 g 0 l.length cap (l.map fun b : UInt8 => (b.toNat : Int)) (by simp) (fun i hi => by
    rw [Nat.zero_add, h i (by omega)]
    simp [Lib.byteCells, List.getD, List.getElem?_eq_getElem hi]) 9 Try.underlying9
  rw [nums8] at e
  exact e
theorem conv8 {w : World} {base : Nat} {v : Value} {l : List UInt8} (h : Own8 w base v l) : (convert 99 9 v).run Try.prog w = .ok (.string (str8 l)) w := by
  have h2 := h.2
  rcases h2 with ⟨rfl, h0⟩ | ⟨g, cap, cur, rfl, hg⟩
  · have : l = [] := List.length_eq_zero_iff.1 h0
    subst this
    exact run_convert_bytes_nil (P := Try.prog) w 99 5 Try.underlying99 Try.underlying5 0 0 9 Try.underlying9
  · exact conv8_cells g cap l (fun j hj => h.cellAt j (by omega))
/-- A call that returns a text, and makes memory alone. -/
def RetT (w : World) (s : ByteArray) (e : Ending) (w' : World) : Prop := e = .returned (.string s) ∧ Below w.heap.size w w'
theorem below_then {w wa wb : World} (h : Below w.heap.size w wa) (hb : Below wa.heap.size wa wb) : Below w.heap.size w wb := h.trans (hb.mono h.size)
end Go.Proofs.Ytfachlcahainhaa
