/- Joined texts: B0, C2, T1, T3, D1, D2, K3, K4, K5, R1. No conditions besides those that each states. -/
import Derived.Test.YtfhakailbikjkaaDoorProg
import Derived.WalkKit
import Derived.ProofKit
import Derived.OpenShut
import Derived.ShutString
import Derived.ChangeOld
import Derived.Below
import Derived.SliceStrings
import Derived.WalkLawsBesides
import Derived.WalkSpells
import Derived.Lib.Hide
import Derived.Laws.BytesArg
import Derived.Laws.CopyOwn
import Derived.Lib.AppendStr
import Derived.Lib.BufferWrite
import Derived.OwnWalk
import Derived.Maps.AppendAt
import Derived.Deep.AppendLies
import Derived.RegionTactic
import Derived.Deep.QuietTactic
import Derived.BigQuiet
import Derived.Test.YtfhakailbikjkaaDoorZ1
/- What a walk is told of slices that came in, and two closed facts about the program. No conditions. -/
namespace Go.Proofs.YtfhakailbikjkaaDoor
open Go.ChangeShapes Go.WideShapes Go.ChangeAt Go.RowKit

theorem own : ownKnob Tryd.prog.godebug = none := by kernel_rfl
theorem laidOut : laidOutB Tryd.prog = true := by kernel_rfl

/-- A slice of integers that came in: nil, or a row of cells. -/
def IsRow (k : IntKind) (w : World) (a : Option Addr) (len cap : Nat) (zs : List Int) : Prop :=
  (a = none ∧ len = 0 ∧ cap = 0 ∧ zs = []) ∨
  ∃ x, a = some x ∧ len ≤ cap ∧ cap ≤ maxLen ∧ zs.length = cap ∧ (∀ i, i < zs.length → w.cell? (x.add i) = some (.int k (zs.getD i 0))) ∧ ∀ n ∈ zs, (Lit.int k n).wf = true

/-- A slice of strings that came in. -/
def IsStrs (w : World) (a : Option Addr) (len cap : Nat) (zs : List ByteArray) : Prop :=
  (a = none ∧ len = 0 ∧ cap = 0 ∧ zs = []) ∨
  ∃ x, a = some x ∧ len ≤ cap ∧ cap ≤ maxLen ∧ zs.length = cap ∧ (∀ i, i < zs.length → w.cell? (x.add i) = some (.string (zs.getD i ByteArray.empty))) ∧ ∀ s ∈ zs, s.size ≤ maxLen

end Go.Proofs.YtfhakailbikjkaaDoor
/- The set operations on two words, and the law's own conversions: what each returns. No conditions. -/
namespace Go.Proofs.YtfhakailbikjkaaDoor
open Go.RowKit
set_option linter.unusedVariables false

/-- A call that returns a set, and makes memory alone. -/
def RetSet (w : World) (l h : Int) (e : Ending) (w' : World) : Prop := e = .returned (.agg #[.int .i64 l, .int .i64 h]) ∧ Below w.heap.size w w'
/-- A call that returns a bool, and makes memory alone. -/
def RetBool (w : World) (b : Bool) (e : Ending) (w' : World) : Prop := e = .returned (.bool b) ∧ Below w.heap.size w w'
theorem bl1 (w : World) (o : Obj) : Below w.heap.size w (w.alloc o) := (Below.refl _ _).alloc (Nat.le_refl _) _
theorem bl2 (w : World) (o p : Obj) : Below w.heap.size w ((w.alloc o).alloc p) := (bl1 w o).alloc (by simp) _
theorem bl3 (w : World) (o p q : Obj) : Below w.heap.size w (((w.alloc o).alloc p).alloc q) := (bl2 w o p).alloc (by simp; omega) _

theorem impl_and (a b c d : Int) (w : World) : Calls Tryd.prog 72 #[.agg #[.int .i64 a, .int .i64 b], .agg #[.int .i64 c, .int .i64 d]] w (RetSet w (bits .and .i64 a c) (bits .and .i64 b d)) := by
  go_enter Tryd.func72, Tryd.ntmps72
  go_wp2
  exact bodyPost_ret (v := .agg #[.int .i64 (bits .and .i64 a c), .int .i64 (bits .and .i64 b d)]) (by simp [results, Tryd.results72, go_sem]) rfl ⟨rfl, bl3 _ _ _ _⟩
theorem impl_or (a b c d : Int) (w : World) : Calls Tryd.prog 69 #[.agg #[.int .i64 a, .int .i64 b], .agg #[.int .i64 c, .int .i64 d]] w (RetSet w (bits .or .i64 a c) (bits .or .i64 b d)) := by
  go_enter Tryd.func69, Tryd.ntmps69
  go_wp2
  exact bodyPost_ret (v := .agg #[.int .i64 (bits .or .i64 a c), .int .i64 (bits .or .i64 b d)]) (by simp [results, Tryd.results69, go_sem]) rfl ⟨rfl, bl3 _ _ _ _⟩
/-- The words of the set of one byte. -/
def Cs.oneL (x : Int) : Int := if x < 64 then Cs.unit x.toNat else 0
def Cs.oneH (x : Int) : Int := if x < 64 then 0 else if x < 128 then Cs.unit (x - 64).toNat else 0
theorem impl_one (x : Int) (w : World) (h0 : 0 ≤ x) (h1 : x ≤ 255) : Calls Tryd.prog 70 #[.int .u8 x] w (RetSet w (Cs.oneL x) (Cs.oneH x)) := by
  unfold Cs.oneL Cs.oneH Cs.unit
  by_cases ha : x < 64
  · rw [if_pos ha, if_pos ha]
    go_enter Tryd.func70, Tryd.ntmps70
    go_wp2
    exact bodyPost_ret (v := .agg #[.int .i64 (wrap64 (2 ^ x.toNat)), .int .i64 0]) (by simp [results, Tryd.results70, go_sem]) rfl ⟨rfl, bl1 _ _⟩
  · rw [if_neg ha, if_neg ha]
    by_cases hb : x < 128
    · rw [if_pos hb]
      go_enter Tryd.func70, Tryd.ntmps70
      go_wp2
      exact bodyPost_ret (v := .agg #[.int .i64 0, .int .i64 (wrap64 (2 ^ (x - 64).toNat))]) (by simp [results, Tryd.results70, go_sem]) rfl ⟨rfl, bl1 _ _⟩
    · rw [if_neg hb]
      go_enter Tryd.func70, Tryd.ntmps70
      go_wp2
      exact bodyPost_ret (v := .agg #[.int .i64 0, .int .i64 0]) (by simp [results, Tryd.results70, go_sem]) rfl ⟨rfl, bl1 _ _⟩
theorem spec_add (a b x : Int) (w : World) (h0 : 0 ≤ x) (h1 : x < 128) : Calls Tryd.prog 47 #[.agg #[.int .i64 a, .int .i64 b], .int .u8 x] w (RetSet w (Cs.addL a x.toNat) (Cs.addH b x.toNat)) := by
  by_cases ha : x < 64
  · have e1 : Cs.addL a x.toNat = bits .or .i64 a (wrap64 (2 ^ x.toNat)) := if_pos (by omega)
    have e2 : Cs.addH b x.toNat = b := if_pos (by omega)
    rw [e1, e2]
    clear e1 e2
    go_enter Tryd.func47, Tryd.ntmps47
    go_wp2
    exact bodyPost_ret (v := .agg #[.int .i64 (bits .or .i64 a (wrap64 (2 ^ x.toNat))), .int .i64 b]) (by simp [results, Tryd.results47, go_sem]) rfl ⟨rfl, bl2 _ _ _⟩
  · have e0 : x.toNat - 64 = (x - 64).toNat := by omega
    have e1 : Cs.addL a x.toNat = a := if_neg (by omega)
    have e2 : Cs.addH b x.toNat = bits .or .i64 b (wrap64 (2 ^ (x - 64).toNat)) := by rw [← e0]; exact if_neg (by omega)
    rw [e1, e2]
    clear e0 e1 e2
    go_enter Tryd.func47, Tryd.ntmps47
    go_wp2
    exact bodyPost_ret (v := .agg #[.int .i64 a, .int .i64 (bits .or .i64 b (wrap64 (2 ^ (x - 64).toNat)))]) (by simp [results, Tryd.results47, go_sem]) rfl ⟨rfl, bl2 _ _ _⟩
theorem spec_has (a b x : Int) (w : World) (h0 : 0 ≤ x) (h1 : x ≤ 255) : Calls Tryd.prog 37 #[.agg #[.int .i64 a, .int .i64 b], .int .u8 x] w (RetBool w (Cs.mem a b x.toNat)) := by
  by_cases ha : x < 64
  · rw [Cs.mem_low (by omega), ← Cs.test_bit a x.toNat (by omega)]
    unfold Cs.unit
    go_enter Tryd.func37, Tryd.ntmps37
    go_wp2
    go_ret
    exact ⟨rfl, bl1 _ _⟩
  · by_cases hb : x < 128
    · have e0 : x.toNat - 64 = (x - 64).toNat := by omega
      rw [Cs.mem_high (by omega) (by omega), e0, ← Cs.test_bit b (x - 64).toNat (by omega)]
      clear e0
      unfold Cs.unit
      go_enter Tryd.func37, Tryd.ntmps37
      go_wp2
      go_ret
      exact ⟨rfl, bl1 _ _⟩
    · rw [Cs.mem_out (by omega)]
      go_enter Tryd.func37, Tryd.ntmps37
      go_wp2
      go_ret
      exact ⟨rfl, bl1 _ _⟩
end Go.Proofs.YtfhakailbikjkaaDoor
/- Bytes of a call's own, as a list of bytes: append, conversion to a string, what stays. No conditions. -/
namespace Go.Proofs.YtfhakailbikjkaaDoor
open Go.RowKit
set_option linter.unusedVariables false

theorem info8 : (Tryd.prog.info? 5).map (fun i => (i.zero, i.size, i.bytes)) = some (some (.int .u8 0), 1, 1) := by kernel_rfl
/-- Bytes of the call's own: a slice whose elements are l, in a block from base on. -/
def Own8 (w : World) (base : Nat) (v : Value) (l : List UInt8) : Prop := w.ownsRow base 5 1 v l.length (Lib.byteCells l)
/-- Bytes as a string. -/
def str8 (l : List UInt8) : ByteArray := ⟨l.toArray⟩
theorem str8_size (l : List UInt8) : (str8 l).size = l.length := by simp [str8, ByteArray.size]
theorem str8_data (s : ByteArray) : str8 s.data.toList = s := by cases s; simp [str8]
theorem str8_list (l : List UInt8) : (str8 l).data.toList = l := by simp [str8]
theorem str8_nil : str8 [] = ByteArray.empty := rfl
theorem str8_inj {s : ByteArray} {l : List UInt8} (h : s.data.toList = l) : s = str8 l := by rw [← h, str8_data]
theorem len8 (s : ByteArray) : s.data.toList.length = s.size := rfl
theorem cells8_app (l m : List UInt8) : Lib.byteCells (l ++ m) = Lib.byteCells l ++ Lib.byteCells m := by simp [Lib.byteCells]
theorem own8_app {w1 : World} {base : Nat} {v' : Value} {l : List UInt8} {x : UInt8} (h : w1.ownsRow base 5 1 v' (l.length + 1) (Lib.byteCells l ++ [Value.int .u8 (x.toNat : Int)])) : Own8 w1 base v' (l ++ [x]) := by
  unfold Own8; rw [cells8_app, List.length_append]; exact h
theorem own8_str {w1 : World} {base : Nat} {v' : Value} {l : List UInt8} {s : ByteArray} (h : w1.ownsRow base 5 1 v' (l.length + s.size) (Lib.byteCells l ++ Lib.strCells s)) : Own8 w1 base v' (l ++ s.data.toList) := by
  unfold Own8; rw [cells8_app, List.length_append]; exact h
theorem own8_made {w1 : World} {base : Nat} {v : Value} (h : w1.ownsRow base 5 1 v 0 []) : Own8 w1 base v [] := h
theorem below8_app {w wr w1 : World} {v : Value} {l : List UInt8} {o : Obj} (hb : Below w.heap.size w wr) (hown : Own8 wr w.heap.size v l) (hg : (wr.alloc o).grownBy w1 v.ownBlock) : Below w.heap.size w w1 :=
  (hb.alloc hb.size o).grown hg (by have := hb.size; simp; omega) (fun k hk => (hown.lt k hk).1)
theorem below8_str {w wr w1 : World} {v : Value} {l : List UInt8} (hb : Below w.heap.size w wr) (hown : Own8 wr w.heap.size v l) (hg : wr.grownBy w1 v.ownBlock) : Below w.heap.size w w1 :=
  hb.grown hg hb.size (fun k hk => (hown.lt k hk).1)
theorem own8_below {w w1 : World} {base : Nat} {v : Value} {l : List UInt8} (h : Own8 w base v l) (hb : Below w.heap.size w w1) : Own8 w1 base v l := by
  refine ⟨h.1, ?_⟩
  rcases h.2 with hn | ⟨g, cap, cur, hv, hg, hgg, r⟩
  · exact .inl hn
  · exact .inr ⟨g, cap, cur, hv, hg, by rw [hb.block g (Array.getElem?_eq_some_iff.1 hgg).1]; exact hgg, r⟩
theorem new8 (w : World) (x : Value) (t : TypeId) : ∀ (j : Nat) (u : Value), [x][j]? = some u → (w.alloc (.cells #[x] t)).cell? ((⟨w.heap.size, 0, none⟩ : Addr).add j) = some u := by
  intro j u hj
  match j, hj with
  | 0, hj => simp at hj; subst hj; simp [Addr.add]
theorem one8 (k : IntKind) (x : Int) : ∀ u ∈ [Value.int k x], u.oneCell' = true := by
  intro u hu; simp at hu; subst hu; rfl
theorem max8 {n : Nat} (h : n ≤ 1048577) : n ≤ maxLen := by unfold maxLen; omega
theorem nums8 (l : List UInt8) : strOfNums (l.map fun b : UInt8 => (b.toNat : Int)) = str8 l := by
  unfold strOfNums str8
  congr 1
  rw [List.map_map]
  congr 1
  conv => rhs; rw [← List.map_id l]
  exact List.map_congr_left fun b _ => by simp
/-- A string made of bytes that can be read. -/
theorem conv8_cells {w : World} (g cap : Nat) (l : List UInt8) (h : ∀ j, j < l.length → w.cell? ⟨g, j, none⟩ = (Lib.byteCells l)[j]?) : (convert 55 9 (.slice (some ⟨g, 0, none⟩) l.length cap)).run Tryd.prog w = .ok (.string (str8 l)) w := by
  have e := run_convert_bytes_arg (P := Tryd.prog) w 55 5 Tryd.underlying55 Tryd.underlying5 g 0 l.length cap (l.map fun b : UInt8 => (b.toNat : Int)) (by simp) (fun i hi => by
    rw [Nat.zero_add, h i (by omega)]
    simp [Lib.byteCells, List.getD, List.getElem?_eq_getElem hi]) 9 Tryd.underlying9
  rw [nums8] at e
  exact e
theorem conv8 {w : World} {base : Nat} {v : Value} {l : List UInt8} (h : Own8 w base v l) : (convert 55 9 v).run Tryd.prog w = .ok (.string (str8 l)) w := by
  have h2 := h.2
  rcases h2 with ⟨rfl, h0⟩ | ⟨g, cap, cur, rfl, hg⟩
  · have : l = [] := List.length_eq_zero_iff.1 h0
    subst this
    exact run_convert_bytes_nil (P := Tryd.prog) w 55 5 Tryd.underlying55 Tryd.underlying5 0 0 9 Tryd.underlying9
  · exact conv8_cells g cap l (fun j hj => h.cellAt j (by omega))
/-- A call that returns a text, and makes memory alone. -/
def RetT (w : World) (s : ByteArray) (e : Ending) (w' : World) : Prop := e = .returned (.string s) ∧ Below w.heap.size w w'
theorem below_then {w wa wb : World} (h : Below w.heap.size w wa) (hb : Below wa.heap.size wa wb) : Below w.heap.size w wb := h.trans (hb.mono h.size)
end Go.Proofs.YtfhakailbikjkaaDoor
/- Appending a few bytes that are written out to bytes of the call's own: in a plain region, and at a step of one that draws its order. No conditions. -/
namespace Go.Proofs.YtfhakailbikjkaaDoor
open Go.RowKit
set_option linter.unusedVariables false

theorem new8s (w : World) (xs : List Value) (t : TypeId) : ∀ (j : Nat) (u : Value), xs[j]? = some u → (w.alloc (.cells xs.toArray t)).cell? ((⟨w.heap.size, 0, none⟩ : Addr).add j) = some u := by
  intro j u hj
  have e : (⟨w.heap.size, 0, none⟩ : Addr).add j = ⟨w.heap.size, j, none⟩ := by unfold Addr.add; split <;> simp_all
  rw [e, World.cell?_alloc_mark]
  simpa using hj
theorem max8b {n : Nat} (h : n ≤ 100000000) : n ≤ maxLen := by unfold maxLen; omega
theorem run_app8 (w : World) (base : Nat) (v : Value) (l news : List UInt8) (hown : Own8 w base v l) (hB : base ≤ w.heap.size) (n : Nat) (hn : n = news.length) (hl : l.length + n ≤ 100000000) (ty tc : TypeId) :
    ∃ v' w', (Builtin.append_ #[55, 55] ty #[v, .slice (some ⟨w.heap.size, 0, none⟩) n n]).run Tryd.prog (w.alloc (.cells (Lib.byteCells news).toArray tc)) = .ok v' w' ∧ Own8 w' base v' (l ++ news) ∧ Below base w w' := by
  subst hn
  obtain ⟨i0, hi, hz0, hz1, hz2⟩ := info_parts info8
  have hown2 := World.ownsRow.alloc hown (.cells (Lib.byteCells news).toArray tc)
  obtain ⟨v', w', hrun, h2, h3, _⟩ := run_append_own_at (P := Tryd.prog) (w.alloc (.cells (Lib.byteCells news).toArray tc)) base 55 ty 5 i0 (.int .u8 0) 1 1 Tryd.underlying55 hi hz0 hz1 hz2 rfl (by decide) v l.length (Lib.byteCells l) hown2
    ⟨w.heap.size, 0, none⟩ news.length news.length (Lib.byteCells news) (by rw [Lib.byteCells_length]; omega) (new8s _ _ _) (Lib.byteCells_one _) (max8b hl) (by omega) (by simp; omega)
  refine ⟨v', w', hrun, ?_, ?_⟩
  · unfold Own8; rw [cells8_app, List.length_append]; exact h2
  · exact ((Below.refl base w).alloc hB _).grown h3 (by simp; omega) (fun k hk => (hown2.lt k hk).1)
theorem wp_app8 {w : World} {o : Oper} {a : Act} {K : Act → World → Prop} {Q : Exit → Act → World → Prop} (s x : Operand)
    (ho : o.op = .call { callee := .builtin .append, args := #[s, x], argTypes := #[55, 55] })
    (base : Nat) (v : Value) (l news : List UInt8) (hs : a.eval s = v) (hown : Own8 w base v l) (hB : base ≤ w.heap.size) (n : Nat) (hn : n = news.length) (hx : a.eval x = .slice (some ⟨w.heap.size, 0, none⟩) n n) (hl : l.length + n ≤ 100000000)
    (cs : Array Value) (tc : TypeId) (hcs : cs = (Lib.byteCells news).toArray)
    (h : ∀ v' w', Hid (Own8 w' base v' (l ++ news)) → Hid (Below base w w') → K (a.put o.dst v') w') : o.wp Tryd.prog a (w.alloc (.cells cs tc)) K Q := by
  subst hcs
  obtain ⟨v', w', hrun, h2, h3⟩ := run_app8 w base v l news hown hB n hn hl o.type tc
  unfold Oper.wp execOp
  simp only [ho, resolve, invoke, builtin, Sem.run_bind, Sem.run_pure, Result.andThen_ok, List.map_toArray, List.map_cons, List.map_nil, hs, hx, hrun]
  exact h v' w' h2 h3
theorem wpList_app8 {w : World} {ops : Array Oper} {rest : List Oper} {o : Oper} {a : Act} {Q : Exit → Act → World → Prop} (hgd : o.guard = none) (s x : Operand)
    (ho : o.op = .call { callee := .builtin .append, args := #[s, x], argTypes := #[55, 55] })
    (base : Nat) (v : Value) (l news : List UInt8) (hs : a.eval s = v) (hown : Own8 w base v l) (hB : base ≤ w.heap.size) (n : Nat) (hn : n = news.length) (hx : a.eval x = .slice (some ⟨w.heap.size, 0, none⟩) n n) (hl : l.length + n ≤ 100000000)
    (cs : Array Value) (tc : TypeId) (hcs : cs = (Lib.byteCells news).toArray)
    (h : ∀ v' w', Hid (Own8 w' base v' (l ++ news)) → Hid (Below base w w') → wpList Tryd.prog ops Q rest (a.put o.dst v') w') : wpList Tryd.prog ops Q (o :: rest) a (w.alloc (.cells cs tc)) :=
  wpList_plain hgd fun _ hK => wp_app8 s x ho base v l news hs hown hB n hn hx hl cs tc hcs fun v' w' h2 h3 => hK _ _ (h v' w' h2 h3)
theorem step_app8 {w : World} {ops : Array Oper} {o : Oper} {a : Act} {K : Act → World → Prop} {Q : Exit → Act → World → Prop} {E : Prop} (hgd : o.guard = none) (s x : Operand)
    (ho : o.op = .call { callee := .builtin .append, args := #[s, x], argTypes := #[55, 55] })
    (base : Nat) (v : Value) (l news : List UInt8) (hs : a.eval s = v) (hown : Own8 w base v l) (hB : base ≤ w.heap.size) (n : Nat) (hn : n = news.length) (hx : a.eval x = .slice (some ⟨w.heap.size, 0, none⟩) n n) (hl : l.length + n ≤ 100000000)
    (cs : Array Value) (tc : TypeId) (hcs : cs = (Lib.byteCells news).toArray)
    (h : ∀ v' w', Hid (Own8 w' base v' (l ++ news)) → Hid (Below base w w') → K (a.put o.dst v') w') : if Region.wanted o (yielded ops a.tmps) = true then Oper.wp Tryd.prog o a (w.alloc (.cells cs tc)) K Q else E := by
  have hw : Region.wanted o (yielded ops a.tmps) = true := by simp [Region.wanted, hgd]
  rw [if_pos hw]
  exact wp_app8 s x ho base v l news hs hown hB n hn hx hl cs tc hcs h
/-- The same where the order has been drawn. -/
theorem step_app8d {w : World} {ops : Array Oper} {o : Oper} {a : Act} {K : Act → World → Prop} {Q : Exit → Act → World → Prop} {E : Prop} (hgd : o.guard = none) (s x : Operand)
    (ho : o.op = .call { callee := .builtin .append, args := #[s, x], argTypes := #[55, 55] })
    (base : Nat) (v : Value) (l news : List UInt8) (hs : a.eval s = v) (hown : Own8 w base v l) (hB : base ≤ w.heap.size) (n : Nat) (hn : n = news.length) (hx : a.eval x = .slice (some ⟨w.heap.size, 0, none⟩) n n) (hl : l.length + n ≤ 100000000)
    (cs : Array Value) (tc : TypeId) (hcs : cs = (Lib.byteCells news).toArray)
    (h : ∀ v' w', Hid (Own8 w' base v' (l ++ news)) → Hid (Below base w w') → K (a.put o.dst v') w') : if Region.wanted o (yielded ops a.tmps) = true then Oper.wp Tryd.prog o a (w.alloc (.cells cs tc)).drew K Q else E :=
  step_app8 (w := w.drew) hgd s x ho base v l news hs hown hB n hn hx hl cs tc hcs fun v' w' h2 h3 => h v' w' h2 (Lib.hid (Below.trans (Below.drew (Below.refl base w)) h3.out))
/-- The same where the memory made for the new bytes lies behind other memory. -/
theorem own8_lit (w : World) (base : Nat) (l : List UInt8) (n : Nat) (hB : base ≤ w.heap.size) (hn : l.length = n) (hm : n ≤ 100) : Own8 (w.alloc (.cells (Lib.byteCells l).toArray 5)) base (.slice (some ⟨w.heap.size, 0, none⟩) n n) l := by
  subst hn
  have h := World.ownsRow_lit (base := base) (e := 5) (size := 1) w (Lib.byteCells l).toArray l.length hB (by unfold maxLen; omega) (by rw [List.size_toArray, Lib.byteCells_length]; omega)
  simpa [Own8] using h
/-- The bytes of the call's own, and what lies below, in a later world. -/
theorem own8_at {w w1 : World} {base : Nat} {v : Value} {l : List UInt8} (h : Own8 w base v l) (hb : Below w.heap.size w w1) : Own8 w1 base v l := own8_below h hb
theorem own8_drewN {w : World} {base : Nat} {v : Value} {l : List UInt8} (h : Own8 w base v l) (n : Nat) : Own8 (w.drewN n) base v l := h
theorem drewN8 {B : Nat} {w wr : World} (h : Below B w wr) : ∀ n, Below B w (wr.drewN n)
  | 0 => h
  | n + 1 => ⟨h.1, h.2, h.3, h.4, h.5⟩
end Go.Proofs.YtfhakailbikjkaaDoor
/- The reference model's draws: a cursor over bytes, and numbers and texts that are drawn from it. -/
namespace Go.Proofs.YtfhakailbikjkaaDoor
open Go.RowKit
set_option linter.unusedVariables false

/-- Bytes that came in: below block B, each readable. -/
def Code (B : Nat) (w : World) (v : Value) (n : Nat) : Prop :=
  ((∃ a c, v = .slice a 0 c) ∧ n = 0) ∨ ∃ g off c, v = .slice (some ⟨g, off, none⟩) n c ∧ g < B ∧ n ≤ maxLen ∧ ∀ j, j < n → ∃ x : Int, w.cell? ⟨g, off + j, none⟩ = some (.int .u8 x) ∧ 0 ≤ x ∧ x ≤ 255

theorem code_below {B : Nat} {w w1 : World} {v : Value} {n : Nat} (h : Code B w v n) (hb : Below B w w1) : Code B w1 v n := by
  rcases h with h | ⟨g, off, c, hv, hg, hm, hc⟩
  · exact .inl h
  · refine .inr ⟨g, off, c, hv, hg, hm, fun j hj => ?_⟩
    obtain ⟨x, hx, h0⟩ := hc j hj
    exact ⟨x, (hb.cell hg).trans hx, h0⟩
theorem heap_cell {w : World} {b : Nat} {cs : Array Value} {T : TypeId} {fr : Nat × Nat} (hb : w.heap[b]? = some (.cells cs T fr)) (j : Nat) : w.cell? ⟨b, j, none⟩ = cs[j]? := by
  simp [World.cell?, hb]
theorem heap_free {w : World} {b : Nat} {cs : Array Value} {T : TypeId} (hb : w.heap[b]? = some (.cells cs T (0, 0))) (j : Nat) : w.frozen? ⟨b, j, none⟩ = false := by
  simp [World.frozen?, hb]

theorem and255 (n : Int) : 0 ≤ bits .and .i64 n 255 ∧ bits .and .i64 n 255 ≤ 255 := by
  have h : bits .and .i64 n 255 = n % 256 := by
    have h127 : (BitVec.ofInt 64 255).toNat = 2 ^ 8 - 1 := by decide
    have key : (BitVec.ofInt 64 n &&& BitVec.ofInt 64 255).toNat = (n % ((2 ^ 64 : Nat) : Int)).toNat % 2 ^ 8 := by
      rw [BitVec.toNat_and, BitVec.toNat_ofInt, h127, Nat.and_two_pow_sub_one_eq_mod]
    show IntKind.i64.wrap ((BitVec.ofInt 64 n &&& BitVec.ofInt 64 255).toNat : Nat) = n % 256
    rw [key, IntKind.wrap_i64]
    omega
  rw [h]; omega

theorem heap_set {w : World} {b j : Nat} {cs : Array Value} {T : TypeId} {u : Value} (hb : w.heap[b]? = some (.cells cs T (0, 0))) : (w.setCell ⟨b, j, none⟩ u).heap[b]? = some (.cells (cs.setIfInBounds j u) T (0, 0)) := heap_setCell_same w b j cs T u hb

theorem drewN_heap (w : World) (n : Nat) : (w.drewN n).heap = w.heap := rfl

/-- Only block cb may have changed, and blocks may be new. -/
def Only (cb : Nat) (w w' : World) : Prop := w.grownBy w' (some cb)
theorem Only.refl (cb : Nat) (w : World) : Only cb w w := ⟨rfl, rfl, rfl, Nat.le_refl _, fun _ _ _ => rfl⟩
theorem Only.trans {cb : Nat} {w w1 w2 : World} (h : Only cb w w1) (k : Only cb w1 w2) : Only cb w w2 :=
  ⟨k.os.trans h.os, k.tape.trans h.tape, k.output.trans h.output, Nat.le_trans h.size k.size, fun i hi hne => (k.block i (Nat.lt_of_lt_of_le hi h.size) hne).trans (h.block i hi hne)⟩
theorem Only.setCell {cb : Nat} {w w1 : World} (h : Only cb w w1) (j : Nat) (v : Value) : Only cb w (w1.setCell ⟨cb, j, none⟩ v) :=
  h.trans ⟨rfl, rfl, rfl, by simp [World.setCell], fun k _ hk => Below.heap_setCell _ _ _ _ (fun e => hk (by simp [e]))⟩
theorem Only.drewN {cb : Nat} {w w1 : World} (h : Only cb w w1) (n : Nat) : Only cb w (w1.drewN n) := h.trans ⟨rfl, rfl, rfl, Nat.le_refl _, fun _ _ _ => rfl⟩
theorem Only.of_below {cb : Nat} {w w1 : World} (h : Below w.heap.size w w1) : Only cb w w1 := ⟨h.os, h.tape, h.output, h.size, fun k hk _ => h.block k hk⟩
theorem Only.below {cb B : Nat} {w w1 : World} (h : Only cb w w1) (h1 : B ≤ cb) (h2 : B ≤ w.heap.size) : Below B w w1 :=
  (Below.refl _ _).grown h h2 (fun k hk => by cases hk; exact h1)

end Go.Proofs.YtfhakailbikjkaaDoor
/- The reference model's draws: a new cursor, and picks from a list. -/
namespace Go.Proofs.YtfhakailbikjkaaDoor
open Go.RowKit
set_option linter.unusedVariables false

end Go.Proofs.YtfhakailbikjkaaDoor
/- Words: letters, lists of words, names, in the reference model. No conditions. -/
namespace Go.Proofs.YtfhakailbikjkaaDoor
open Go.RowKit
set_option linter.unusedVariables false

theorem dec_yes {p : Prop} [Decidable p] (h : p) : decide p = true := decide_eq_true h
theorem dec_no {p : Prop} [Decidable p] (h : ¬ p) : decide p = false := decide_eq_false h
theorem letter_cases (b : UInt8) : (b.toNat < 65 ∧ Tk.letter b = false) ∨ (65 ≤ b.toNat ∧ b.toNat ≤ 90 ∧ Tk.letter b = true) ∨ (90 < b.toNat ∧ b.toNat < 97 ∧ b ≠ 95 ∧ Tk.letter b = false) ∨ (b = 95 ∧ Tk.letter b = true) ∨ (97 ≤ b.toNat ∧ b.toNat ≤ 122 ∧ Tk.letter b = true) ∨ (122 < b.toNat ∧ Tk.letter b = false) := by
  have h95 : (b == 95) = decide (b.toNat = 95) := by rw [Bool.eq_iff_iff]; simp [← UInt8.toNat_inj]
  unfold Tk.letter
  rw [h95]
  by_cases h0 : b = 95
  · subst h0; right; right; right; left; exact ⟨rfl, rfl⟩
  · have h1 : b.toNat ≠ 95 := fun e => h0 (UInt8.toNat_inj.1 e)
    rcases (show b.toNat < 65 ∨ (65 ≤ b.toNat ∧ b.toNat ≤ 90) ∨ (90 < b.toNat ∧ b.toNat < 97) ∨ (97 ≤ b.toNat ∧ b.toNat ≤ 122) ∨ 122 < b.toNat by omega) with h | h | h | h | h
    · left; exact ⟨h, by simp; omega⟩
    · right; left; exact ⟨h.1, h.2, by simp; omega⟩
    · right; right; left; exact ⟨h.1, h.2, h0, by simp; omega⟩
    · right; right; right; right; left; exact ⟨h.1, h.2, by simp; omega⟩
    · right; right; right; right; right; exact ⟨h, by simp; omega⟩
theorem ne8 {a b : UInt8} (h : a ≠ b) : ((a.toNat : Int) == (b.toNat : Int)) = false := by
  have h2 : ¬ a.toNat = b.toNat := fun e => h (UInt8.toNat_inj.1 e)
  simp; omega
theorem spec_letter (b : UInt8) (w : World) : Calls Tryd.prog 16 #[.int .u8 (b.toNat : Int)] w fun e w' => e = .returned (.bool (Tk.letter b)) ∧ w = w' := by
  have hb := UInt8.toNat_lt b
  rcases letter_cases b with ⟨h, e⟩ | ⟨h, h2, e⟩ | ⟨h, h2, h3, e⟩ | ⟨h, e⟩ | ⟨h, h2, e⟩ | ⟨h, e⟩
  · rw [e]
    have ta : decide ((97 : Int) ≤ b.toNat) = false := by simp; omega
    have tA : decide ((65 : Int) ≤ b.toNat) = false := by simp; omega
    have tu : ((b.toNat : Int) == 95) = false := by simp; omega
    clear e
    go_enter Tryd.func16, Tryd.ntmps16
    go_wp2
    go_ret
    exact ⟨rfl, rfl⟩
  · rw [e]
    have ta : decide ((97 : Int) ≤ b.toNat) = false := by simp; omega
    have tA : decide ((65 : Int) ≤ b.toNat) = true := by simp; omega
    have tZ : decide ((b.toNat : Int) ≤ 90) = true := by simp; omega
    have tu : ((b.toNat : Int) == 95) = false := by simp; omega
    clear e
    go_enter Tryd.func16, Tryd.ntmps16
    go_wp2
    go_ret
    exact ⟨rfl, rfl⟩
  · rw [e]
    have ta : decide ((97 : Int) ≤ b.toNat) = false := by simp; omega
    have tA : decide ((65 : Int) ≤ b.toNat) = true := by simp; omega
    have tZ : decide ((b.toNat : Int) ≤ 90) = false := by simp; omega
    have tu : ((b.toNat : Int) == 95) = false := ne8 h3
    clear e
    go_enter Tryd.func16, Tryd.ntmps16
    go_wp2
    go_ret
    exact ⟨rfl, rfl⟩
  · rw [e]
    have ta : decide ((97 : Int) ≤ b.toNat) = false := by subst h; rfl
    have tA : decide ((65 : Int) ≤ b.toNat) = true := by subst h; rfl
    have tZ : decide ((b.toNat : Int) ≤ 90) = false := by subst h; rfl
    have tu : ((b.toNat : Int) == 95) = true := by subst h; rfl
    clear e
    go_enter Tryd.func16, Tryd.ntmps16
    go_wp2
    go_ret
    exact ⟨rfl, rfl⟩
  · rw [e]
    have ta : decide ((97 : Int) ≤ b.toNat) = true := by simp; omega
    have tz : decide ((b.toNat : Int) ≤ 122) = true := by simp; omega
    have tu : ((b.toNat : Int) == 95) = false := by simp; omega
    clear e
    go_enter Tryd.func16, Tryd.ntmps16
    go_wp2
    go_ret
    exact ⟨rfl, rfl⟩
  · rw [e]
    have ta : decide ((97 : Int) ≤ b.toNat) = true := by simp; omega
    have tz : decide ((b.toNat : Int) ≤ 122) = false := by simp; omega
    have tA : decide ((65 : Int) ≤ b.toNat) = true := by simp; omega
    have tZ : decide ((b.toNat : Int) ≤ 90) = false := by simp; omega
    have tu : ((b.toNat : Int) == 95) = false := by simp; omega
    clear e
    go_enter Tryd.func16, Tryd.ntmps16
    go_wp2
    go_ret
    exact ⟨rfl, rfl⟩
theorem spec_digit (b : UInt8) (w : World) : Calls Tryd.prog 17 #[.int .u8 (b.toNat : Int)] w fun e w' => e = .returned (.bool (Dec.isDig b)) ∧ w = w' := by
  have hb := UInt8.toNat_lt b
  rcases (show b.toNat < 48 ∨ (48 ≤ b.toNat ∧ b.toNat ≤ 57) ∨ 57 < b.toNat by omega) with h | ⟨h, h2⟩ | h
  · rw [show Dec.isDig b = false by simp [Dec.isDig]; omega]
    have t0 : decide ((48 : Int) ≤ b.toNat) = false := by simp; omega
    go_enter Tryd.func17, Tryd.ntmps17
    go_wp2
    go_ret
    exact ⟨rfl, rfl⟩
  · rw [show Dec.isDig b = true by simp [Dec.isDig]; omega]
    have t0 : decide ((48 : Int) ≤ b.toNat) = true := by simp; omega
    have t1 : decide ((b.toNat : Int) ≤ 57) = true := by simp; omega
    go_enter Tryd.func17, Tryd.ntmps17
    go_wp2
    go_ret
    exact ⟨rfl, rfl⟩
  · rw [show Dec.isDig b = false by simp [Dec.isDig]; omega]
    have t0 : decide ((48 : Int) ≤ b.toNat) = true := by simp; omega
    have t1 : decide ((b.toNat : Int) ≤ 57) = false := by simp; omega
    go_enter Tryd.func17, Tryd.ntmps17
    go_wp2
    go_ret
    exact ⟨rfl, rfl⟩

/-- Words in memory. -/
def Words (w : World) (g : Nat) (l : List (List UInt8)) : Prop := ∀ i, i < l.length → w.cell? ⟨g, i, none⟩ = some (.string (str8 (l.getD i [])))
theorem words_below {w w1 : World} {g : Nat} {l : List (List UInt8)} (h : Words w g l) (hg : g < w.heap.size) (hb : Below w.heap.size w w1) : Words w1 g l := fun i hi => (hb.cell (p := ⟨g, i, none⟩) hg).trans (h i hi)
theorem words_new (w : World) (l : List (List UInt8)) (t : TypeId) (cs : Array Value) (hcs : cs = (l.map fun x => Value.string (str8 x)).toArray) : Words (w.alloc (.cells cs t)) w.heap.size l := by
  intro i hi
  subst hcs
  rw [World.cell?_alloc_mark]
  rw [List.getD_eq_getElem?_getD, List.getElem?_eq_getElem hi]
  simp [hi]
theorem hasTo (l : List (List UInt8)) (x : List UInt8) (k : Nat) (h : k < l.length) : ((l.take (k + 1)).contains x) = ((l.take k).contains x || (l.getD k [] == x)) := by
  rw [List.take_succ_eq_append_getElem h, List.getD_eq_getElem?_getD, List.getElem?_eq_getElem h, Bool.eq_iff_iff]
  simp only [List.contains_iff_mem, List.mem_append, List.mem_singleton, Bool.or_eq_true, beq_iff_eq, Option.getD_some]
  exact or_congr Iff.rfl eq_comm
theorem str8_toList (l : List UInt8) : (str8 l).toList = l := by rw [ByteArray.toList_eq]; exact str8_list l
/-- Is the word on the list? -/
def hasW (l : List (List UInt8)) (x : List UInt8) : Bool := l.contains x
theorem hasW_yes {l : List (List UInt8)} {x : List UInt8} (h : l.contains x = true) : Ending.returned (.bool true) = .returned (.bool (hasW l x)) := by unfold hasW; rw [h]
theorem hasW_no {l : List (List UInt8)} {x : List UInt8} (h : l.contains x = false) : Ending.returned (.bool false) = .returned (.bool (hasW l x)) := by unfold hasW; rw [h]
theorem spec_hasw (l : List (List UInt8)) (g cap : Nat) (s : ByteArray) (w : World) (hw : Words w g l) (hl : (l.length : Int) ≤ 1048576) :
    Calls Tryd.prog 28 #[.slice (some ⟨g, 0, none⟩) l.length cap, .string s] w fun e w' => e = .returned (.bool (hasW l s.data.toList)) ∧ w = w' := by
  have HW := Lib.hid hw
  have HT := Lib.hid (ByteArray.toList_eq s)
  clear hw
  go_enter Tryd.func28, Tryd.ntmps28
  go_wp2
  go_loop [4, 5] (fun _ i => ∃ k : Nat, i = .int .i64 k ∧ k ≤ l.length ∧ (l.take k).contains s.data.toList = false) (fun _ i => l.length - (intOf i).toNat)
  case atStart => exact ⟨0, rfl, by omega, rfl⟩
  case round =>
    obtain ⟨k, rfl, hk, hc⟩ := hrel
    have HC := Lib.hid hc
    clear hc
    by_cases hlt : (k : Int) < l.length
    · have hkl : k < l.length := by omega
      have hcell := HW.out k hkl
      have HX := Lib.hid (hasTo l s.data.toList k hkl)
      generalize l.getD k [] = x at hcell HX
      have hx := str8_toList x
      by_cases he : x = s.data.toList
      · have t1 : (x == s.toList) = true := by rw [he, HT.out]; simp
        have HY : Hid (l.contains s.data.toList = true) := by
          have h := HX.out
          rw [HC.out, he] at h
          have h2 : (l.take (k + 1)).contains s.data.toList = true := by rw [h]; simp
          show l.contains s.data.toList = true
          rw [List.contains_iff_mem] at h2 ⊢
          exact List.mem_of_mem_take h2
        clear he
        go_wp2
        go_ret
        exact ⟨hasW_yes HY.out, rfl⟩
      · have t1 : (x == s.toList) = false := by rw [HT.out]; simpa using he
        have HN : Hid ((l.take (k + 1)).contains s.data.toList = false) := by
          show _ = _
          rw [HX.out, HC.out]; simpa using he
        clear he
        go_wp2
        go_round
        case rel => exact ⟨k + 1, by go_num, by omega, HN.out⟩
        case measure => first | (simp [intOf]; done) | (simp [intOf]; omega)
    · obtain rfl : k = l.length := by omega
      have HY : Hid (l.contains s.data.toList = false) := by have h := HC.out; rw [List.take_length] at h; exact h
      go_wp2
      go_ret
      exact ⟨hasW_no HY.out, rfl⟩

theorem words_lt (l : List (List UInt8)) (h : l.length ≤ 100) : (l.length : Int) ≤ 1048576 := by omega
theorem spec_reserved (s : ByteArray) (w : World) : Calls Tryd.prog 18 #[.string s] w fun e w' => e = .returned (.bool (hasW Tk.reserved s.data.toList)) ∧ Below w.heap.size w w' := by
  have HH : Hid (Calls Tryd.prog 28 #[.slice (some ⟨w.heap.size, 0, none⟩) 26 26, .string s] (w.alloc (.cells (Tk.reserved.map fun x => Value.string (str8 x)).toArray 9)) fun e w' => e = .returned (.bool (hasW Tk.reserved s.data.toList)) ∧ (w.alloc (.cells (Tk.reserved.map fun x => Value.string (str8 x)).toArray 9)) = w') :=
    spec_hasw Tk.reserved w.heap.size 26 s _ (words_new w Tk.reserved 9 _ rfl) (words_lt _ (by decide))
  generalize hasW Tk.reserved s.data.toList = b at HH ⊢
  go_enter Tryd.func18, Tryd.ntmps18
  go_wp2_with fail
  refine HH.out.mono ?_
  rintro e w1 ⟨rfl, rfl⟩
  go_wp2
  go_ret
  exact ⟨rfl, bl1 _ _⟩
theorem spec_keyword (s : ByteArray) (w : World) : Calls Tryd.prog 26 #[.string s] w fun e w' => e = .returned (.bool (hasW Tk.keywords s.data.toList)) ∧ Below w.heap.size w w' := by
  have HH : Hid (Calls Tryd.prog 28 #[.slice (some ⟨w.heap.size, 0, none⟩) 8 8, .string s] (w.alloc (.cells (Tk.keywords.map fun x => Value.string (str8 x)).toArray 9)) fun e w' => e = .returned (.bool (hasW Tk.keywords s.data.toList)) ∧ (w.alloc (.cells (Tk.keywords.map fun x => Value.string (str8 x)).toArray 9)) = w') :=
    spec_hasw Tk.keywords w.heap.size 8 s _ (words_new w Tk.keywords 9 _ rfl) (words_lt _ (by decide))
  generalize hasW Tk.keywords s.data.toList = b at HH ⊢
  go_enter Tryd.func26, Tryd.ntmps26
  go_wp2_with fail
  refine HH.out.mono ?_
  rintro e w1 ⟨rfl, rfl⟩
  go_wp2
  go_ret
  exact ⟨rfl, bl1 _ _⟩
end Go.Proofs.YtfhakailbikjkaaDoor
/- Names, and which tokens begin or end an expression, in the reference model. No conditions. -/
namespace Go.Proofs.YtfhakailbikjkaaDoor
open Go.RowKit
set_option linter.unusedVariables false

theorem name_cases (s : ByteArray) : ((s.size < 1 ∨ 12 < s.size) ∧ Tk.isName s.data.toList = false) ∨ ∃ h : 1 ≤ s.size, s.size ≤ 12 ∧ ((Tk.letter s[0] = false ∧ Tk.isName s.data.toList = false)
    ∨ (Tk.letter s[0] = true ∧ hasW Tk.reserved s.data.toList = true ∧ Tk.isName s.data.toList = false) ∨ (Tk.letter s[0] = true ∧ hasW Tk.reserved s.data.toList = false ∧ Tk.isName s.data.toList = s.data.toList.all Tk.idb)) := by
  have hl := len8 s
  by_cases h : s.size < 1 ∨ 12 < s.size
  · left
    refine ⟨h, ?_⟩
    unfold Tk.isName
    rcases h with h | h
    · rw [decide_eq_false (by omega)]; rfl
    · rw [decide_eq_false (p := s.data.toList.length ≤ 12) (by omega)]; simp
  · right
    refine ⟨by omega, by omega, ?_⟩
    have hh : s.data.toList.head? = some (s[0]'(by omega)) := by rw [List.head?_eq_getElem?, List.getElem?_eq_getElem (by omega)]; rfl
    have e : Tk.isName s.data.toList = (Tk.letter (s[0]'(by omega)) && !hasW Tk.reserved s.data.toList && s.data.toList.all Tk.idb) := by
      unfold Tk.isName
      rw [decide_eq_true (by omega), decide_eq_true (by omega), hh]
      show (true && true && (some (Tk.letter _) == some true) && !Tk.isReserved _ && _) = _
      cases Tk.letter (s[0]'(by omega)) <;> rfl
    cases h1 : Tk.letter (s[0]'(by omega))
    · left; exact ⟨rfl, by rw [e, h1]; rfl⟩
    · right
      cases h2 : hasW Tk.reserved s.data.toList
      · right; exact ⟨rfl, rfl, by rw [e, h1, h2]; rfl⟩
      · left; exact ⟨rfl, rfl, by rw [e, h1, h2]; rfl⟩
theorem ret_b {a b : Bool} (h : a = b) : Ending.returned (.bool a) = .returned (.bool b) := by rw [h]
/-- The first k bytes may stand in a name. -/
def IdTo (s : ByteArray) (k : Nat) : Prop := (s.data.toList.take k).all Tk.idb = true

set_option maxHeartbeats 800000 in
theorem spec_name (s : ByteArray) (w : World) (hs : (s.size : Int) ≤ 1048576) : Calls Tryd.prog 19 #[.string s] w fun e w' => e = .returned (.bool (Tk.isName s.data.toList)) ∧ Below w.heap.size w w' := by
  rcases name_cases s with ⟨h, e⟩ | ⟨h1, h2, ⟨h3, e⟩ | ⟨h3, h4, e⟩ | ⟨h3, h4, e⟩⟩
  · rw [e]
    clear e
    rcases h with h | h
    · have t1 : (s.size : Int) < 1 := by omega
      clear h
      go_enter Tryd.func19, Tryd.ntmps19
      go_wp2
      go_ret
      exact ⟨rfl, Below.refl _ _⟩
    · have t1 : ¬ (s.size : Int) < 1 := by omega
      have t2 : (12 : Int) < s.size := by omega
      clear h
      go_enter Tryd.func19, Tryd.ntmps19
      go_wp2
      go_ret
      exact ⟨rfl, Below.refl _ _⟩
  · rw [e]
    have t1 : ¬ (s.size : Int) < 1 := by omega
    have t2 : ¬ (12 : Int) < s.size := by omega
    have t3 : (0 : Int) < s.size := by omega
    have HL := Lib.hid (fun W => spec_letter s[0] W)
    rw [h3] at HL
    clear e h3
    go_enter Tryd.func19, Tryd.ntmps19
    go_wp2_with (go_at_call 16; refine (HL.out _).mono ?_; rintro e w1 ⟨rfl, rfl⟩)
    go_ret
    exact ⟨rfl, Below.refl _ _⟩
  · rw [e]
    have t1 : ¬ (s.size : Int) < 1 := by omega
    have t2 : ¬ (12 : Int) < s.size := by omega
    have t3 : (0 : Int) < s.size := by omega
    have HL := Lib.hid (fun W => spec_letter s[0] W)
    rw [h3] at HL
    have HR := Lib.hid (fun W => spec_reserved s W)
    rw [h4] at HR
    clear e h3 h4
    go_enter Tryd.func19, Tryd.ntmps19
    go_wp2_with (first | (go_at_call 16; refine (HL.out _).mono ?_; rintro e w1 ⟨rfl, rfl⟩) | (go_at_call 18; refine (HR.out _).mono ?_; rintro e w2 ⟨rfl, hb2⟩; have HB := Lib.hid hb2; clear hb2))
    go_ret
    exact ⟨rfl, HB.out⟩
  · have t1 : ¬ (s.size : Int) < 1 := by omega
    have t2 : ¬ (12 : Int) < s.size := by omega
    have t3 : (0 : Int) < s.size := by omega
    have HL := Lib.hid (fun W => spec_letter s[0] W)
    rw [h3] at HL
    have HR := Lib.hid (fun W => spec_reserved s W)
    rw [h4] at HR
    have HE := Lib.hid e
    have HZ := Lib.hid (len8 s)
    clear e h3 h4
    go_enter Tryd.func19, Tryd.ntmps19
    go_wp2_with (first | (go_at_call 16; refine (HL.out _).mono ?_; rintro e w1 ⟨rfl, rfl⟩) | (go_at_call 18; refine (HR.out _).mono ?_; rintro e w2 ⟨rfl, hb2⟩; have HB := Lib.hid hb2; clear hb2))
    go_loop [2, 3] (fun _ i => ∃ k : Nat, i = .int .i64 k ∧ k ≤ s.size ∧ IdTo s k) (fun _ i => s.size - (intOf i).toNat)
    case atStart => exact ⟨0, rfl, by omega, rfl⟩
    case round =>
      obtain ⟨k, rfl, hk, ha⟩ := hrel
      have HA := Lib.hid ha
      clear ha HL HR
      by_cases hlt : (k : Int) < s.size
      · have hks : k < s.size := by omega
        have hkl : k < s.data.toList.length := by rw [HZ.out]; exact hks
        have H1 := Lib.hid (fun W => spec_letter s[k] W)
        have H2 := Lib.hid (fun W => spec_digit s[k] W)
        cases hi : Tk.idb s[k]
        · have hi2 : Tk.letter s[k] = false ∧ Dec.isDig s[k] = false := by unfold Tk.idb at hi; simpa using hi
          rw [hi2.1] at H1
          rw [hi2.2] at H2
          have HN : Hid (s.data.toList.all Tk.idb = false) := by
            show _ = _
            rw [List.all_eq_false]
            exact ⟨s[k], List.getElem_mem hkl, by rw [hi]; simp⟩
          clear hi hi2
          go_wp2_with (first | (go_at_call 16; refine (H1.out _).mono ?_; rintro e w3 ⟨rfl, rfl⟩) | (go_at_call 17; refine (H2.out _).mono ?_; rintro e w4 ⟨rfl, rfl⟩))
          go_ret
          exact ⟨ret_b (by rw [HE.out, HN.out]), HB.out⟩
        · have HN : Hid (IdTo s (k + 1)) := by
            show (s.data.toList.take (k + 1)).all Tk.idb = true
            rw [List.take_succ_eq_append_getElem hkl, List.all_append, HA.out]
            show (true && (Tk.idb s[k] && true)) = true
            rw [hi]; rfl
          cases hl : Tk.letter s[k]
          · have hd : Dec.isDig s[k] = true := by unfold Tk.idb at hi; rw [hl] at hi; simpa using hi
            rw [hl] at H1
            rw [hd] at H2
            clear hi hl hd
            go_wp2_with (first | (go_at_call 16; refine (H1.out _).mono ?_; rintro e w3 ⟨rfl, rfl⟩) | (go_at_call 17; refine (H2.out _).mono ?_; rintro e w4 ⟨rfl, rfl⟩))
            go_round
            case rel => exact ⟨k + 1, by go_num, by omega, HN.out⟩
            case measure => first | (simp [intOf]; done) | (simp [intOf]; omega)
          · rw [hl] at H1
            clear hi hl H2
            go_wp2_with (first | (go_at_call 16; refine (H1.out _).mono ?_; rintro e w3 ⟨rfl, rfl⟩))
            go_round
            case rel => exact ⟨k + 1, by go_num, by omega, HN.out⟩
            case measure => first | (simp [intOf]; done) | (simp [intOf]; omega)
      · obtain rfl : k = s.size := by omega
        have HN : Hid (s.data.toList.all Tk.idb = true) := by
          have h := HA.out
          unfold IdTo at h
          rw [List.take_of_length_le (by rw [HZ.out]; exact Nat.le_refl _)] at h
          exact h
        go_wp2
        go_ret
        exact ⟨ret_b (by rw [HE.out, HN.out]), HB.out⟩
end Go.Proofs.YtfhakailbikjkaaDoor
/- Which tokens begin or end an expression, and the operators, in the reference model. No conditions. -/
namespace Go.Proofs.YtfhakailbikjkaaDoor
open Go.RowKit
set_option linter.unusedVariables false

/-- A token by value. -/
abbrev tokV (k : Int) (t : ByteArray) (ln : Int) : Value := .agg #[.int .i64 k, .string t, .int .i64 ln]
theorem eq_word (t : ByteArray) (l : List UInt8) (b : Bool) (h : (t.data.toList == l) = b) : (t.toList == l) = b := by rw [ByteArray.toList_eq]; exact h
theorem kind_cases (k : Int) : k = 2 ∨ k = 7 ∨ (k ≠ 2 ∧ k ≠ 7 ∧ k = 1) ∨ (k ≠ 2 ∧ k ≠ 7 ∧ k ≠ 1 ∧ k < 3) ∨ (k ≠ 2 ∧ k ≠ 7 ∧ k ≠ 1 ∧ 3 ≤ k ∧ k ≤ 6) ∨ (k ≠ 2 ∧ k ≠ 7 ∧ k ≠ 1 ∧ 3 ≤ k ∧ 6 < k) := by omega
theorem rest_kind {k : Int} (b : Bool) (h : k = 1 ∧ b = true ∨ k ≠ 1 ∧ k < 3 ∧ b = false ∨ k ≠ 1 ∧ 3 ≤ k ∧ k ≤ 6 ∧ b = true ∨ k ≠ 1 ∧ 6 < k ∧ b = false) : (k == 1 || (decide (3 ≤ k) && decide (k ≤ 6))) = b := by
  rcases h with ⟨rfl, rfl⟩ | ⟨h1, h2, rfl⟩ | ⟨h1, h2, h3, rfl⟩ | ⟨h1, h2, rfl⟩
  · rfl
  · simp [h1]; omega
  · simp [h2, h3]
  · simp [h1]; omega
set_option maxHeartbeats 800000 in
theorem spec_ends (k : Int) (t : ByteArray) (ln : Int) (w : World) : Calls Tryd.prog 10 #[tokV k t ln] w fun e w' => e = .returned (.bool (Tk.ends k t.data.toList)) ∧ Below w.heap.size w w' := by
  unfold tokV
  rcases kind_cases k with rfl | rfl | ⟨h1, h2, h3⟩ | ⟨h1, h2, h3, h4⟩ | ⟨h1, h2, h3, h4, h5⟩ | ⟨h1, h2, h3, h4, h5⟩
  · have e : Tk.ends 2 t.data.toList = hasW Tk.end2 t.data.toList := by unfold Tk.ends; rfl
    rw [e]
    clear e
    have HH : Hid (∀ W : World, Calls Tryd.prog 28 #[.slice (some ⟨W.heap.size, 0, none⟩) 5 5, .string t] (W.alloc (.cells (Tk.end2.map fun x => Value.string (str8 x)).toArray 9)) fun e w' => e = .returned (.bool (hasW Tk.end2 t.data.toList)) ∧ (W.alloc (.cells (Tk.end2.map fun x => Value.string (str8 x)).toArray 9)) = w') :=
      fun W => spec_hasw Tk.end2 W.heap.size 5 t _ (words_new W Tk.end2 9 _ rfl) (words_lt _ (by decide))
    have HW := Lib.hid (HH.out (w.alloc (.cells #[.int .i64 2, .string t, .int .i64 ln] 29)))
    rw [show (w.alloc (.cells #[.int .i64 2, .string t, .int .i64 ln] 29)).heap.size = w.heap.size + 1 by simp] at HW
    generalize hasW Tk.end2 t.data.toList = b at HW ⊢
    clear HH
    go_enter Tryd.func10, Tryd.ntmps10
    go_wp2_with fail
    refine HW.out.mono ?_
    rintro e w1 ⟨rfl, rfl⟩
    go_wp2
    go_ret
    exact ⟨rfl, bl2 _ _ _⟩
  · have e : Tk.ends 7 t.data.toList = (t.data.toList == [41] || (t.data.toList == [93] || (t.data.toList == [125] || false))) := by
      unfold Tk.ends; rfl
    cases e1 : (t.data.toList == [41])
    · cases e2 : (t.data.toList == [93])
      · cases e3 : (t.data.toList == [125])
        all_goals
          rw [e1, e2, e3] at e
          have HE := Lib.hid e
          have u1 := eq_word t _ _ e1
          have u2 := eq_word t _ _ e2
          have u3 := eq_word t _ _ e3
          clear e e1 e2 e3
          go_enter Tryd.func10, Tryd.ntmps10
          go_wp2
          go_ret
          exact ⟨ret_b HE.out.symm, bl1 _ _⟩
      · rw [e1, e2] at e
        have HE := Lib.hid e
        have u1 := eq_word t _ _ e1
        have u2 := eq_word t _ _ e2
        clear e e1 e2
        go_enter Tryd.func10, Tryd.ntmps10
        go_wp2
        go_ret
        exact ⟨ret_b HE.out.symm, bl1 _ _⟩
    · rw [e1] at e
      have HE := Lib.hid e
      have u1 := eq_word t _ _ e1
      clear e e1
      go_enter Tryd.func10, Tryd.ntmps10
      go_wp2
      go_ret
      exact ⟨ret_b HE.out.symm, bl1 _ _⟩
  · have HE : Hid (Tk.ends k t.data.toList = true) := by
      show _ = _
      unfold Tk.ends
      rw [if_neg h1, if_neg h2]
      exact rest_kind true (.inl ⟨h3, rfl⟩)
    have u1 : (k == 2) = false := by simpa using h1
    have u2 : (k == 7) = false := by simpa using h2
    have u3 : (k == 1) = true := by simpa using h3
    clear h3
    clear h1 h2
    go_enter Tryd.func10, Tryd.ntmps10
    go_wp2
    go_ret
    exact ⟨ret_b HE.out.symm, bl1 _ _⟩
  · have HE : Hid (Tk.ends k t.data.toList = false) := by
      show _ = _
      unfold Tk.ends
      rw [if_neg h1, if_neg h2]
      exact rest_kind false (.inr (.inl ⟨h3, h4, rfl⟩))
    have u1 : (k == 2) = false := by simpa using h1
    have u2 : (k == 7) = false := by simpa using h2
    have u3 : (k == 1) = false := by simpa using h3
    have u4 : decide (3 ≤ k) = false := by simp; omega
    clear h3
    clear h1 h2
    go_enter Tryd.func10, Tryd.ntmps10
    go_wp2
    go_ret
    exact ⟨ret_b HE.out.symm, bl1 _ _⟩
  · have HE : Hid (Tk.ends k t.data.toList = true) := by
      show _ = _
      unfold Tk.ends
      rw [if_neg h1, if_neg h2]
      exact rest_kind true (.inr (.inr (.inl ⟨h3, h4, h5, rfl⟩)))
    have u1 : (k == 2) = false := by simpa using h1
    have u2 : (k == 7) = false := by simpa using h2
    have u3 : (k == 1) = false := by simpa using h3
    have u4 : decide (3 ≤ k) = true := by simp; omega
    have u5 : decide (k ≤ 6) = true := by simp; omega
    clear h3
    clear h1 h2
    go_enter Tryd.func10, Tryd.ntmps10
    go_wp2
    go_ret
    exact ⟨ret_b HE.out.symm, bl1 _ _⟩
  · have HE : Hid (Tk.ends k t.data.toList = false) := by
      show _ = _
      unfold Tk.ends
      rw [if_neg h1, if_neg h2]
      exact rest_kind false (.inr (.inr (.inr ⟨h3, h5, rfl⟩)))
    have u1 : (k == 2) = false := by simpa using h1
    have u2 : (k == 7) = false := by simpa using h2
    have u3 : (k == 1) = false := by simpa using h3
    have u4 : decide (3 ≤ k) = true := by simp; omega
    have u5 : decide (k ≤ 6) = false := by simp; omega
    clear h3
    clear h1 h2
    go_enter Tryd.func10, Tryd.ntmps10
    go_wp2
    go_ret
    exact ⟨ret_b HE.out.symm, bl1 _ _⟩
set_option maxHeartbeats 800000 in
theorem spec_begins (k : Int) (t : ByteArray) (ln : Int) (w : World) : Calls Tryd.prog 11 #[tokV k t ln] w fun e w' => e = .returned (.bool (Tk.begins k t.data.toList)) ∧ Below w.heap.size w w' := by
  unfold tokV
  rcases kind_cases k with rfl | rfl | ⟨h1, h2, h3⟩ | ⟨h1, h2, h3, h4⟩ | ⟨h1, h2, h3, h4, h5⟩ | ⟨h1, h2, h3, h4, h5⟩
  · have e : Tk.begins 2 t.data.toList = hasW Tk.beg2 t.data.toList := by unfold Tk.begins; rfl
    rw [e]
    clear e
    have HH : Hid (∀ W : World, Calls Tryd.prog 28 #[.slice (some ⟨W.heap.size, 0, none⟩) 14 14, .string t] (W.alloc (.cells (Tk.beg2.map fun x => Value.string (str8 x)).toArray 9)) fun e w' => e = .returned (.bool (hasW Tk.beg2 t.data.toList)) ∧ (W.alloc (.cells (Tk.beg2.map fun x => Value.string (str8 x)).toArray 9)) = w') :=
      fun W => spec_hasw Tk.beg2 W.heap.size 14 t _ (words_new W Tk.beg2 9 _ rfl) (words_lt _ (by decide))
    have HW := Lib.hid (HH.out (w.alloc (.cells #[.int .i64 2, .string t, .int .i64 ln] 29)))
    rw [show (w.alloc (.cells #[.int .i64 2, .string t, .int .i64 ln] 29)).heap.size = w.heap.size + 1 by simp] at HW
    generalize hasW Tk.beg2 t.data.toList = b at HW ⊢
    clear HH
    go_enter Tryd.func11, Tryd.ntmps11
    go_wp2_with fail
    refine HW.out.mono ?_
    rintro e w1 ⟨rfl, rfl⟩
    go_wp2
    go_ret
    exact ⟨rfl, bl2 _ _ _⟩
  · have e : Tk.begins 7 t.data.toList = hasW Tk.beg7 t.data.toList := by unfold Tk.begins; rfl
    rw [e]
    clear e
    have HH : Hid (∀ W : World, Calls Tryd.prog 28 #[.slice (some ⟨W.heap.size, 0, none⟩) 16 16, .string t] (W.alloc (.cells (Tk.beg7.map fun x => Value.string (str8 x)).toArray 9)) fun e w' => e = .returned (.bool (hasW Tk.beg7 t.data.toList)) ∧ (W.alloc (.cells (Tk.beg7.map fun x => Value.string (str8 x)).toArray 9)) = w') :=
      fun W => spec_hasw Tk.beg7 W.heap.size 16 t _ (words_new W Tk.beg7 9 _ rfl) (words_lt _ (by decide))
    have HW := Lib.hid (HH.out (w.alloc (.cells #[.int .i64 7, .string t, .int .i64 ln] 29)))
    rw [show (w.alloc (.cells #[.int .i64 7, .string t, .int .i64 ln] 29)).heap.size = w.heap.size + 1 by simp] at HW
    generalize hasW Tk.beg7 t.data.toList = b at HW ⊢
    clear HH
    go_enter Tryd.func11, Tryd.ntmps11
    go_wp2_with fail
    refine HW.out.mono ?_
    rintro e w1 ⟨rfl, rfl⟩
    go_wp2
    go_ret
    exact ⟨rfl, bl2 _ _ _⟩
  · have HE : Hid (Tk.begins k t.data.toList = true) := by
      show _ = _
      unfold Tk.begins
      rw [if_neg h1, if_neg h2]
      exact rest_kind true (.inl ⟨h3, rfl⟩)
    have u1 : (k == 2) = false := by simpa using h1
    have u2 : (k == 7) = false := by simpa using h2
    have u3 : (k == 1) = true := by simpa using h3
    clear h3
    clear h1 h2
    go_enter Tryd.func11, Tryd.ntmps11
    go_wp2
    go_ret
    exact ⟨ret_b HE.out.symm, bl1 _ _⟩
  · have HE : Hid (Tk.begins k t.data.toList = false) := by
      show _ = _
      unfold Tk.begins
      rw [if_neg h1, if_neg h2]
      exact rest_kind false (.inr (.inl ⟨h3, h4, rfl⟩))
    have u1 : (k == 2) = false := by simpa using h1
    have u2 : (k == 7) = false := by simpa using h2
    have u3 : (k == 1) = false := by simpa using h3
    have u4 : decide (3 ≤ k) = false := by simp; omega
    clear h3
    clear h1 h2
    go_enter Tryd.func11, Tryd.ntmps11
    go_wp2
    go_ret
    exact ⟨ret_b HE.out.symm, bl1 _ _⟩
  · have HE : Hid (Tk.begins k t.data.toList = true) := by
      show _ = _
      unfold Tk.begins
      rw [if_neg h1, if_neg h2]
      exact rest_kind true (.inr (.inr (.inl ⟨h3, h4, h5, rfl⟩)))
    have u1 : (k == 2) = false := by simpa using h1
    have u2 : (k == 7) = false := by simpa using h2
    have u3 : (k == 1) = false := by simpa using h3
    have u4 : decide (3 ≤ k) = true := by simp; omega
    have u5 : decide (k ≤ 6) = true := by simp; omega
    clear h3
    clear h1 h2
    go_enter Tryd.func11, Tryd.ntmps11
    go_wp2
    go_ret
    exact ⟨ret_b HE.out.symm, bl1 _ _⟩
  · have HE : Hid (Tk.begins k t.data.toList = false) := by
      show _ = _
      unfold Tk.begins
      rw [if_neg h1, if_neg h2]
      exact rest_kind false (.inr (.inr (.inr ⟨h3, h5, rfl⟩)))
    have u1 : (k == 2) = false := by simpa using h1
    have u2 : (k == 7) = false := by simpa using h2
    have u3 : (k == 1) = false := by simpa using h3
    have u4 : decide (3 ≤ k) = true := by simp; omega
    have u5 : decide (k ≤ 6) = false := by simp; omega
    clear h3
    clear h1 h2
    go_enter Tryd.func11, Tryd.ntmps11
    go_wp2
    go_ret
    exact ⟨ret_b HE.out.symm, bl1 _ _⟩
theorem spec_ops (w : World) : Calls Tryd.prog 27 #[] w fun e w' => e = .returned (.slice (some ⟨w.heap.size, 0, none⟩) 62 62) ∧ w.alloc (.cells (Tk.operators.map fun x => Value.string (str8 x)).toArray 9) = w' := by
  go_enter Tryd.func27, Tryd.ntmps27
  go_wp2
  go_ret
  exact ⟨rfl, rfl⟩
end Go.Proofs.YtfhakailbikjkaaDoor
/- Words in the program: keywords, reserved words. No conditions. -/
namespace Go.Proofs.YtfhakailbikjkaaDoor
open Go.RowKit
set_option linter.unusedVariables false

theorem word_yes {l : List (List UInt8)} {s : ByteArray} {x : List UInt8} (h : (s.toList == x) = true) (hx : l.contains x = true) : Ending.returned (.bool true) = .returned (.bool (hasW l s.data.toList)) := by
  have h2 := beq_iff_eq.1 h
  rw [ByteArray.toList_eq] at h2
  unfold hasW; rw [h2, hx]
theorem word_no {l : List (List UInt8)} {s : ByteArray} (h : l.contains s.toList = false) : Ending.returned (.bool false) = .returned (.bool (hasW l s.data.toList)) := by
  rw [ByteArray.toList_eq] at h
  unfold hasW; rw [h]
theorem both {b : Bool} {C : Prop} (h1 : b = true) (h2 : b = false) : C := by rw [h1] at h2; cases h2
set_option maxHeartbeats 1600000 in
theorem impl_keyword (s : ByteArray) (w : World) : Calls Tryd.prog 59 #[.string s] w fun e w' => e = .returned (.bool (hasW Tk.keywords s.data.toList)) ∧ Below w.heap.size w w' := by
  go_enter Tryd.func59, Tryd.ntmps59
  go_wp2
  all_goals first
    | (refine both (b := ?_) ?_ ?_; rotate_left; assumption; assumption)
    | (go_ret; refine ⟨word_yes (x := ?_) ?_ ?_, Below.refl _ _⟩; rotate_left; assumption; decide)
    | (go_ret; refine ⟨word_no ?_, Below.refl _ _⟩; simp only [Tk.keywords, List.contains_cons, List.contains_nil, Bool.or_false, *])
set_option maxHeartbeats 3200000 in
theorem impl_reserved (s : ByteArray) (w : World) : Calls Tryd.prog 53 #[.string s] w fun e w' => e = .returned (.bool (hasW Tk.reserved s.data.toList)) ∧ Below w.heap.size w w' := by
  go_enter Tryd.func53, Tryd.ntmps53
  go_wp2
  all_goals first
    | (refine both (b := ?_) ?_ ?_; rotate_left; assumption; assumption)
    | (go_ret; refine ⟨word_yes (x := ?_) ?_ ?_, Below.refl _ _⟩; rotate_left; assumption; decide)
    | (go_ret; refine ⟨word_no ?_, Below.refl _ _⟩; simp only [Tk.reserved, List.contains_cons, List.contains_nil, Bool.or_false, *])
end Go.Proofs.YtfhakailbikjkaaDoor
