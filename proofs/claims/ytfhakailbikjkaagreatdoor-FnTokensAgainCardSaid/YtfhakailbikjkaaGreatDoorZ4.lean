/- Joined texts: B0, C2, T1, T3, D1, D2, K3, K4. No conditions besides those that each states. -/
import Derived.Test.YtfhakailbikjkaaGreatDoorProg
import Derived.WalkKit
import Derived.ProofKit
import Derived.OpenShut
import Derived.ShutString
import Derived.ChangeOld
import Derived.Below
import Derived.SliceStrings
import Derived.WalkLawsBesides
import Derived.WalkSpells
import Derived.Lib.Hide
import Derived.Laws.BytesArg
import Derived.Laws.CopyOwn
import Derived.Lib.AppendStr
import Derived.Lib.BufferWrite
import Derived.OwnWalk
import Derived.Maps.AppendAt
import Derived.Deep.AppendLies
import Derived.RegionTactic
import Derived.Deep.QuietTactic
import Derived.BigQuiet
import Derived.Test.YtfhakailbikjkaaGreatDoorZ1
/- What a walk is told of slices that came in, and two closed facts about the program. No conditions. -/
namespace Go.Proofs.YtfhakailbikjkaaGreatDoor
open Go.ChangeShapes Go.WideShapes Go.ChangeAt Go.RowKit

theorem own : ownKnob Tryz.prog.godebug = none := by kernel_rfl
theorem laidOut : laidOutB Tryz.prog = true := by kernel_rfl

/-- A slice of integers that came in: nil, or a row of cells. -/
def IsRow (k : IntKind) (w : World) (a : Option Addr) (len cap : Nat) (zs : List Int) : Prop :=
  (a = none ∧ len = 0 ∧ cap = 0 ∧ zs = []) ∨
  ∃ x, a = some x ∧ len ≤ cap ∧ cap ≤ maxLen ∧ zs.length = cap ∧ (∀ i, i < zs.length → w.cell? (x.add i) = some (.int k (zs.getD i 0))) ∧ ∀ n ∈ zs, (Lit.int k n).wf = true

/-- A slice of strings that came in. -/
def IsStrs (w : World) (a : Option Addr) (len cap : Nat) (zs : List ByteArray) : Prop :=
  (a = none ∧ len = 0 ∧ cap = 0 ∧ zs = []) ∨
  ∃ x, a = some x ∧ len ≤ cap ∧ cap ≤ maxLen ∧ zs.length = cap ∧ (∀ i, i < zs.length → w.cell? (x.add i) = some (.string (zs.getD i ByteArray.empty))) ∧ ∀ s ∈ zs, s.size ≤ maxLen

end Go.Proofs.YtfhakailbikjkaaGreatDoor
/- The set operations on two words, and the law's own conversions: what each returns. No conditions. -/
namespace Go.Proofs.YtfhakailbikjkaaGreatDoor
open Go.RowKit
set_option linter.unusedVariables false

/-- A call that returns a set, and makes memory alone. -/
def RetSet (w : World) (l h : Int) (e : Ending) (w' : World) : Prop := e = .returned (.agg #[.int .i64 l, .int .i64 h]) ∧ Below w.heap.size w w'
/-- A call that returns a bool, and makes memory alone. -/
def RetBool (w : World) (b : Bool) (e : Ending) (w' : World) : Prop := e = .returned (.bool b) ∧ Below w.heap.size w w'
theorem bl1 (w : World) (o : Obj) : Below w.heap.size w (w.alloc o) := (Below.refl _ _).alloc (Nat.le_refl _) _
theorem bl2 (w : World) (o p : Obj) : Below w.heap.size w ((w.alloc o).alloc p) := (bl1 w o).alloc (by simp) _
theorem bl3 (w : World) (o p q : Obj) : Below w.heap.size w (((w.alloc o).alloc p).alloc q) := (bl2 w o p).alloc (by simp; omega) _

theorem impl_and (a b c d : Int) (w : World) : Calls Tryz.prog 88 #[.agg #[.int .i64 a, .int .i64 b], .agg #[.int .i64 c, .int .i64 d]] w (RetSet w (bits .and .i64 a c) (bits .and .i64 b d)) := by
  go_enter Tryz.func88, Tryz.ntmps88
  go_wp2
  exact bodyPost_ret (v := .agg #[.int .i64 (bits .and .i64 a c), .int .i64 (bits .and .i64 b d)]) (by simp [results, Tryz.results88, go_sem]) rfl ⟨rfl, bl3 _ _ _ _⟩
theorem impl_or (a b c d : Int) (w : World) : Calls Tryz.prog 51 #[.agg #[.int .i64 a, .int .i64 b], .agg #[.int .i64 c, .int .i64 d]] w (RetSet w (bits .or .i64 a c) (bits .or .i64 b d)) := by
  go_enter Tryz.func51, Tryz.ntmps51
  go_wp2
  exact bodyPost_ret (v := .agg #[.int .i64 (bits .or .i64 a c), .int .i64 (bits .or .i64 b d)]) (by simp [results, Tryz.results51, go_sem]) rfl ⟨rfl, bl3 _ _ _ _⟩
/-- The words of the set of one byte. -/
def Cs.oneL (x : Int) : Int := if x < 64 then Cs.unit x.toNat else 0
def Cs.oneH (x : Int) : Int := if x < 64 then 0 else if x < 128 then Cs.unit (x - 64).toNat else 0
theorem impl_one (x : Int) (w : World) (h0 : 0 ≤ x) (h1 : x ≤ 255) : Calls Tryz.prog 52 #[.int .u8 x] w (RetSet w (Cs.oneL x) (Cs.oneH x)) := by
  unfold Cs.oneL Cs.oneH Cs.unit
  by_cases ha : x < 64
  · rw [if_pos ha, if_pos ha]
    go_enter Tryz.func52, Tryz.ntmps52
    go_wp2
    exact bodyPost_ret (v := .agg #[.int .i64 (wrap64 (2 ^ x.toNat)), .int .i64 0]) (by simp [results, Tryz.results52, go_sem]) rfl ⟨rfl, bl1 _ _⟩
  · rw [if_neg ha, if_neg ha]
    by_cases hb : x < 128
    · rw [if_pos hb]
      go_enter Tryz.func52, Tryz.ntmps52
      go_wp2
      exact bodyPost_ret (v := .agg #[.int .i64 0, .int .i64 (wrap64 (2 ^ (x - 64).toNat))]) (by simp [results, Tryz.results52, go_sem]) rfl ⟨rfl, bl1 _ _⟩
    · rw [if_neg hb]
      go_enter Tryz.func52, Tryz.ntmps52
      go_wp2
      exact bodyPost_ret (v := .agg #[.int .i64 0, .int .i64 0]) (by simp [results, Tryz.results52, go_sem]) rfl ⟨rfl, bl1 _ _⟩
theorem spec_add (a b x : Int) (w : World) (h0 : 0 ≤ x) (h1 : x < 128) : Calls Tryz.prog 85 #[.agg #[.int .i64 a, .int .i64 b], .int .u8 x] w (RetSet w (Cs.addL a x.toNat) (Cs.addH b x.toNat)) := by
  by_cases ha : x < 64
  · have e1 : Cs.addL a x.toNat = bits .or .i64 a (wrap64 (2 ^ x.toNat)) := if_pos (by omega)
    have e2 : Cs.addH b x.toNat = b := if_pos (by omega)
    rw [e1, e2]
    clear e1 e2
    go_enter Tryz.func85, Tryz.ntmps85
    go_wp2
    exact bodyPost_ret (v := .agg #[.int .i64 (bits .or .i64 a (wrap64 (2 ^ x.toNat))), .int .i64 b]) (by simp [results, Tryz.results85, go_sem]) rfl ⟨rfl, bl2 _ _ _⟩
  · have e0 : x.toNat - 64 = (x - 64).toNat := by omega
    have e1 : Cs.addL a x.toNat = a := if_neg (by omega)
    have e2 : Cs.addH b x.toNat = bits .or .i64 b (wrap64 (2 ^ (x - 64).toNat)) := by rw [← e0]; exact if_neg (by omega)
    rw [e1, e2]
    clear e0 e1 e2
    go_enter Tryz.func85, Tryz.ntmps85
    go_wp2
    exact bodyPost_ret (v := .agg #[.int .i64 a, .int .i64 (bits .or .i64 b (wrap64 (2 ^ (x - 64).toNat)))]) (by simp [results, Tryz.results85, go_sem]) rfl ⟨rfl, bl2 _ _ _⟩
theorem spec_has (a b x : Int) (w : World) (h0 : 0 ≤ x) (h1 : x ≤ 255) : Calls Tryz.prog 67 #[.agg #[.int .i64 a, .int .i64 b], .int .u8 x] w (RetBool w (Cs.mem a b x.toNat)) := by
  by_cases ha : x < 64
  · rw [Cs.mem_low (by omega), ← Cs.test_bit a x.toNat (by omega)]
    unfold Cs.unit
    go_enter Tryz.func67, Tryz.ntmps67
    go_wp2
    go_ret
    exact ⟨rfl, bl1 _ _⟩
  · by_cases hb : x < 128
    · have e0 : x.toNat - 64 = (x - 64).toNat := by omega
      rw [Cs.mem_high (by omega) (by omega), e0, ← Cs.test_bit b (x - 64).toNat (by omega)]
      clear e0
      unfold Cs.unit
      go_enter Tryz.func67, Tryz.ntmps67
      go_wp2
      go_ret
      exact ⟨rfl, bl1 _ _⟩
    · rw [Cs.mem_out (by omega)]
      go_enter Tryz.func67, Tryz.ntmps67
      go_wp2
      go_ret
      exact ⟨rfl, bl1 _ _⟩
end Go.Proofs.YtfhakailbikjkaaGreatDoor
/- Bytes of a call's own, as a list of bytes: append, conversion to a string, what stays. No conditions. -/
namespace Go.Proofs.YtfhakailbikjkaaGreatDoor
open Go.RowKit
set_option linter.unusedVariables false

theorem info8 : (Tryz.prog.info? 5).map (fun i => (i.zero, i.size, i.bytes)) = some (some (.int .u8 0), 1, 1) := by kernel_rfl
/-- Bytes of the call's own: a slice whose elements are l, in a block from base on. -/
def Own8 (w : World) (base : Nat) (v : Value) (l : List UInt8) : Prop := w.ownsRow base 5 1 v l.length (Lib.byteCells l)
/-- Bytes as a string. -/
def str8 (l : List UInt8) : ByteArray := ⟨l.toArray⟩
theorem str8_size (l : List UInt8) : (str8 l).size = l.length := by simp [str8, ByteArray.size]
theorem str8_data (s : ByteArray) : str8 s.data.toList = s := by cases s; simp [str8]
theorem str8_list (l : List UInt8) : (str8 l).data.toList = l := by simp [str8]
theorem str8_nil : str8 [] = ByteArray.empty := rfl
theorem str8_inj {s : ByteArray} {l : List UInt8} (h : s.data.toList = l) : s = str8 l := by rw [← h, str8_data]
theorem len8 (s : ByteArray) : s.data.toList.length = s.size := rfl
theorem cells8_app (l m : List UInt8) : Lib.byteCells (l ++ m) = Lib.byteCells l ++ Lib.byteCells m := by simp [Lib.byteCells]
theorem own8_app {w1 : World} {base : Nat} {v' : Value} {l : List UInt8} {x : UInt8} (h : w1.ownsRow base 5 1 v' (l.length + 1) (Lib.byteCells l ++ [Value.int .u8 (x.toNat : Int)])) : Own8 w1 base v' (l ++ [x]) := by
  unfold Own8; rw [cells8_app, List.length_append]; exact h
theorem own8_str {w1 : World} {base : Nat} {v' : Value} {l : List UInt8} {s : ByteArray} (h : w1.ownsRow base 5 1 v' (l.length + s.size) (Lib.byteCells l ++ Lib.strCells s)) : Own8 w1 base v' (l ++ s.data.toList) := by
  unfold Own8; rw [cells8_app, List.length_append]; exact h
theorem own8_made {w1 : World} {base : Nat} {v : Value} (h : w1.ownsRow base 5 1 v 0 []) : Own8 w1 base v [] := h
theorem below8_app {w wr w1 : World} {v : Value} {l : List UInt8} {o : Obj} (hb : Below w.heap.size w wr) (hown : Own8 wr w.heap.size v l) (hg : (wr.alloc o).grownBy w1 v.ownBlock) : Below w.heap.size w w1 :=
  (hb.alloc hb.size o).grown hg (by have := hb.size; simp; omega) (fun k hk => (hown.lt k hk).1)
theorem below8_str {w wr w1 : World} {v : Value} {l : List UInt8} (hb : Below w.heap.size w wr) (hown : Own8 wr w.heap.size v l) (hg : wr.grownBy w1 v.ownBlock) : Below w.heap.size w w1 :=
  hb.grown hg hb.size (fun k hk => (hown.lt k hk).1)
theorem own8_below {w w1 : World} {base : Nat} {v : Value} {l : List UInt8} (h : Own8 w base v l) (hb : Below w.heap.size w w1) : Own8 w1 base v l := by
  refine ⟨h.1, ?_⟩
  rcases h.2 with hn | ⟨g, cap, cur, hv, hg, hgg, r⟩
  · exact .inl hn
  · exact .inr ⟨g, cap, cur, hv, hg, by rw [hb.block g (Array.getElem?_eq_some_iff.1 hgg).1]; exact hgg, r⟩
theorem new8 (w : World) (x : Value) (t : TypeId) : ∀ (j : Nat) (u : Value), [x][j]? = some u → (w.alloc (.cells #[x] t)).cell? ((⟨w.heap.size, 0, none⟩ : Addr).add j) = some u := by
  intro j u hj
  match j, hj with
  | 0, hj => simp at hj; subst hj; simp [Addr.add]
theorem one8 (k : IntKind) (x : Int) : ∀ u ∈ [Value.int k x], u.oneCell' = true := by
  intro u hu; simp at hu; subst hu; rfl
theorem max8 {n : Nat} (h : n ≤ 1048577) : n ≤ maxLen := by unfold maxLen; omega
theorem nums8 (l : List UInt8) : strOfNums (l.map fun b : UInt8 => (b.toNat : Int)) = str8 l := by
  unfold strOfNums str8
  congr 1
  rw [List.map_map]
  congr 1
  conv => rhs; rw [← List.map_id l]
  exact List.map_congr_left fun b _ => by simp
/-- A string made of bytes that can be read. -/
theorem conv8_cells {w : World} (g cap : Nat) (l : List UInt8) (h : ∀ j, j < l.length → w.cell? ⟨g, j, none⟩ = (Lib.byteCells l)[j]?) : (convert 22 9 (.slice (some ⟨g, 0, none⟩) l.length cap)).run Tryz.prog w = .ok (.string (str8 l)) w := by
  have e := run_convert_bytes_arg (P := Tryz.prog) w 22 5 Tryz.underlying22 Tryz.underlying5 g 0 l.length cap (l.map fun b : UInt8 => (b.toNat : Int)) (by simp) (fun i hi => by
    rw [Nat.zero_add, h i (by omega)]
    simp [Lib.byteCells, List.getD, List.getElem?_eq_getElem hi]) 9 Tryz.underlying9
  rw [nums8] at e
  exact e
theorem conv8 {w : World} {base : Nat} {v : Value} {l : List UInt8} (h : Own8 w base v l) : (convert 22 9 v).run Tryz.prog w = .ok (.string (str8 l)) w := by
  have h2 := h.2
  rcases h2 with ⟨rfl, h0⟩ | ⟨g, cap, cur, rfl, hg⟩
  · have : l = [] := List.length_eq_zero_iff.1 h0
    subst this
    exact run_convert_bytes_nil (P := Tryz.prog) w 22 5 Tryz.underlying22 Tryz.underlying5 0 0 9 Tryz.underlying9
  · exact conv8_cells g cap l (fun j hj => h.cellAt j (by omega))
/-- A call that returns a text, and makes memory alone. -/
def RetT (w : World) (s : ByteArray) (e : Ending) (w' : World) : Prop := e = .returned (.string s) ∧ Below w.heap.size w w'
theorem below_then {w wa wb : World} (h : Below w.heap.size w wa) (hb : Below wa.heap.size wa wb) : Below w.heap.size w wb := h.trans (hb.mono h.size)
end Go.Proofs.YtfhakailbikjkaaGreatDoor
/- Appending a few bytes that are written out to bytes of the call's own: in a plain region, and at a step of one that draws its order. No conditions. -/
namespace Go.Proofs.YtfhakailbikjkaaGreatDoor
open Go.RowKit
set_option linter.unusedVariables false

theorem new8s (w : World) (xs : List Value) (t : TypeId) : ∀ (j : Nat) (u : Value), xs[j]? = some u → (w.alloc (.cells xs.toArray t)).cell? ((⟨w.heap.size, 0, none⟩ : Addr).add j) = some u := by
  intro j u hj
  have e : (⟨w.heap.size, 0, none⟩ : Addr).add j = ⟨w.heap.size, j, none⟩ := by unfold Addr.add; split <;> simp_all
  rw [e, World.cell?_alloc_mark]
  simpa using hj
theorem max8b {n : Nat} (h : n ≤ 100000000) : n ≤ maxLen := by unfold maxLen; omega
theorem run_app8 (w : World) (base : Nat) (v : Value) (l news : List UInt8) (hown : Own8 w base v l) (hB : base ≤ w.heap.size) (n : Nat) (hn : n = news.length) (hl : l.length + n ≤ 100000000) (ty tc : TypeId) :
    ∃ v' w', (Builtin.append_ #[22, 22] ty #[v, .slice (some ⟨w.heap.size, 0, none⟩) n n]).run Tryz.prog (w.alloc (.cells (Lib.byteCells news).toArray tc)) = .ok v' w' ∧ Own8 w' base v' (l ++ news) ∧ Below base w w' := by
  subst hn
  obtain ⟨i0, hi, hz0, hz1, hz2⟩ := info_parts info8
  have hown2 := World.ownsRow.alloc hown (.cells (Lib.byteCells news).toArray tc)
  obtain ⟨v', w', hrun, h2, h3, _⟩ := run_append_own_at (P := Tryz.prog) (w.alloc (.cells (Lib.byteCells news).toArray tc)) base 22 ty 5 i0 (.int .u8 0) 1 1 Tryz.underlying22 hi hz0 hz1 hz2 rfl (by decide) v l.length (Lib.byteCells l) hown2
    ⟨w.heap.size, 0, none⟩ news.length news.length (Lib.byteCells news) (by rw [Lib.byteCells_length]; omega) (new8s _ _ _) (Lib.byteCells_one _) (max8b hl) (by omega) (by simp; omega)
  refine ⟨v', w', hrun, ?_, ?_⟩
  · unfold Own8; rw [cells8_app, List.length_append]; exact h2
  · exact ((Below.refl base w).alloc hB _).grown h3 (by simp; omega) (fun k hk => (hown2.lt k hk).1)
theorem wp_app8 {w : World} {o : Oper} {a : Act} {K : Act → World → Prop} {Q : Exit → Act → World → Prop} (s x : Operand)
    (ho : o.op = .call { callee := .builtin .append, args := #[s, x], argTypes := #[22, 22] })
    (base : Nat) (v : Value) (l news : List UInt8) (hs : a.eval s = v) (hown : Own8 w base v l) (hB : base ≤ w.heap.size) (n : Nat) (hn : n = news.length) (hx : a.eval x = .slice (some ⟨w.heap.size, 0, none⟩) n n) (hl : l.length + n ≤ 100000000)
    (cs : Array Value) (tc : TypeId) (hcs : cs = (Lib.byteCells news).toArray)
    (h : ∀ v' w', Hid (Own8 w' base v' (l ++ news)) → Hid (Below base w w') → K (a.put o.dst v') w') : o.wp Tryz.prog a (w.alloc (.cells cs tc)) K Q := by
  subst hcs
  obtain ⟨v', w', hrun, h2, h3⟩ := run_app8 w base v l news hown hB n hn hl o.type tc
  unfold Oper.wp execOp
  simp only [ho, resolve, invoke, builtin, Sem.run_bind, Sem.run_pure, Result.andThen_ok, List.map_toArray, List.map_cons, List.map_nil, hs, hx, hrun]
  exact h v' w' h2 h3
theorem wpList_app8 {w : World} {ops : Array Oper} {rest : List Oper} {o : Oper} {a : Act} {Q : Exit → Act → World → Prop} (hgd : o.guard = none) (s x : Operand)
    (ho : o.op = .call { callee := .builtin .append, args := #[s, x], argTypes := #[22, 22] })
    (base : Nat) (v : Value) (l news : List UInt8) (hs : a.eval s = v) (hown : Own8 w base v l) (hB : base ≤ w.heap.size) (n : Nat) (hn : n = news.length) (hx : a.eval x = .slice (some ⟨w.heap.size, 0, none⟩) n n) (hl : l.length + n ≤ 100000000)
    (cs : Array Value) (tc : TypeId) (hcs : cs = (Lib.byteCells news).toArray)
    (h : ∀ v' w', Hid (Own8 w' base v' (l ++ news)) → Hid (Below base w w') → wpList Tryz.prog ops Q rest (a.put o.dst v') w') : wpList Tryz.prog ops Q (o :: rest) a (w.alloc (.cells cs tc)) :=
  wpList_plain hgd fun _ hK => wp_app8 s x ho base v l news hs hown hB n hn hx hl cs tc hcs fun v' w' h2 h3 => hK _ _ (h v' w' h2 h3)
theorem step_app8 {w : World} {ops : Array Oper} {o : Oper} {a : Act} {K : Act → World → Prop} {Q : Exit → Act → World → Prop} {E : Prop} (hgd : o.guard = none) (s x : Operand)
    (ho : o.op = .call { callee := .builtin .append, args := #[s, x], argTypes := #[22, 22] })
    (base : Nat) (v : Value) (l news : List UInt8) (hs : a.eval s = v) (hown : Own8 w base v l) (hB : base ≤ w.heap.size) (n : Nat) (hn : n = news.length) (hx : a.eval x = .slice (some ⟨w.heap.size, 0, none⟩) n n) (hl : l.length + n ≤ 100000000)
    (cs : Array Value) (tc : TypeId) (hcs : cs = (Lib.byteCells news).toArray)
    (h : ∀ v' w', Hid (Own8 w' base v' (l ++ news)) → Hid (Below base w w') → K (a.put o.dst v') w') : if Region.wanted o (yielded ops a.tmps) = true then Oper.wp Tryz.prog o a (w.alloc (.cells cs tc)) K Q else E := by
  have hw : Region.wanted o (yielded ops a.tmps) = true := by simp [Region.wanted, hgd]
  rw [if_pos hw]
  exact wp_app8 s x ho base v l news hs hown hB n hn hx hl cs tc hcs h
/-- The same where the order has been drawn. -/
theorem step_app8d {w : World} {ops : Array Oper} {o : Oper} {a : Act} {K : Act → World → Prop} {Q : Exit → Act → World → Prop} {E : Prop} (hgd : o.guard = none) (s x : Operand)
    (ho : o.op = .call { callee := .builtin .append, args := #[s, x], argTypes := #[22, 22] })
    (base : Nat) (v : Value) (l news : List UInt8) (hs : a.eval s = v) (hown : Own8 w base v l) (hB : base ≤ w.heap.size) (n : Nat) (hn : n = news.length) (hx : a.eval x = .slice (some ⟨w.heap.size, 0, none⟩) n n) (hl : l.length + n ≤ 100000000)
    (cs : Array Value) (tc : TypeId) (hcs : cs = (Lib.byteCells news).toArray)
    (h : ∀ v' w', Hid (Own8 w' base v' (l ++ news)) → Hid (Below base w w') → K (a.put o.dst v') w') : if Region.wanted o (yielded ops a.tmps) = true then Oper.wp Tryz.prog o a (w.alloc (.cells cs tc)).drew K Q else E :=
  step_app8 (w := w.drew) hgd s x ho base v l news hs hown hB n hn hx hl cs tc hcs fun v' w' h2 h3 => h v' w' h2 (Lib.hid (Below.trans (Below.drew (Below.refl base w)) h3.out))
/-- The same where the memory made for the new bytes lies behind other memory. -/
theorem own8_lit (w : World) (base : Nat) (l : List UInt8) (n : Nat) (hB : base ≤ w.heap.size) (hn : l.length = n) (hm : n ≤ 100) : Own8 (w.alloc (.cells (Lib.byteCells l).toArray 5)) base (.slice (some ⟨w.heap.size, 0, none⟩) n n) l := by
  subst hn
  have h := World.ownsRow_lit (base := base) (e := 5) (size := 1) w (Lib.byteCells l).toArray l.length hB (by unfold maxLen; omega) (by rw [List.size_toArray, Lib.byteCells_length]; omega)
  simpa [Own8] using h
/-- The bytes of the call's own, and what lies below, in a later world. -/
theorem own8_at {w w1 : World} {base : Nat} {v : Value} {l : List UInt8} (h : Own8 w base v l) (hb : Below w.heap.size w w1) : Own8 w1 base v l := own8_below h hb
theorem own8_drewN {w : World} {base : Nat} {v : Value} {l : List UInt8} (h : Own8 w base v l) (n : Nat) : Own8 (w.drewN n) base v l := h
theorem drewN8 {B : Nat} {w wr : World} (h : Below B w wr) : ∀ n, Below B w (wr.drewN n)
  | 0 => h
  | n + 1 => ⟨h.1, h.2, h.3, h.4, h.5⟩
end Go.Proofs.YtfhakailbikjkaaGreatDoor
/- The reference model's draws: a cursor over bytes, and numbers and texts that are drawn from it. -/
namespace Go.Proofs.YtfhakailbikjkaaGreatDoor
open Go.RowKit
set_option linter.unusedVariables false

/-- Bytes that came in: below block B, each readable. -/
def Code (B : Nat) (w : World) (v : Value) (n : Nat) : Prop :=
  ((∃ a c, v = .slice a 0 c) ∧ n = 0) ∨ ∃ g off c, v = .slice (some ⟨g, off, none⟩) n c ∧ g < B ∧ n ≤ maxLen ∧ ∀ j, j < n → ∃ x : Int, w.cell? ⟨g, off + j, none⟩ = some (.int .u8 x) ∧ 0 ≤ x ∧ x ≤ 255

/-- A cursor over them, in a block of the call's own. -/
def IsCur (B : Nat) (w : World) (cb : Nat) : Prop :=
  ∃ (v : Value) (n i : Nat) (h : Int), B ≤ cb ∧ Code B w v n ∧ w.heap[cb]? = some (.cells #[v, .int .i64 i, .int .i64 h] 65 (0, 0))

theorem code_below {B : Nat} {w w1 : World} {v : Value} {n : Nat} (h : Code B w v n) (hb : Below B w w1) : Code B w1 v n := by
  rcases h with h | ⟨g, off, c, hv, hg, hm, hc⟩
  · exact .inl h
  · refine .inr ⟨g, off, c, hv, hg, hm, fun j hj => ?_⟩
    obtain ⟨x, hx, h0⟩ := hc j hj
    exact ⟨x, (hb.cell hg).trans hx, h0⟩
theorem cur_below {B : Nat} {w w1 : World} {cb : Nat} (h : IsCur B w cb) (hB : B ≤ w.heap.size) (hb : Below w.heap.size w w1) : IsCur B w1 cb := by
  obtain ⟨v, n, i, h, hcb, hc, hh⟩ := h
  exact ⟨v, n, i, h, hcb, code_below hc (hb.mono hB), by rw [hb.block cb (Array.getElem?_eq_some_iff.1 hh).1]; exact hh⟩

theorem heap_cell {w : World} {b : Nat} {cs : Array Value} {T : TypeId} {fr : Nat × Nat} (hb : w.heap[b]? = some (.cells cs T fr)) (j : Nat) : w.cell? ⟨b, j, none⟩ = cs[j]? := by
  simp [World.cell?, hb]
theorem heap_free {w : World} {b : Nat} {cs : Array Value} {T : TypeId} (hb : w.heap[b]? = some (.cells cs T (0, 0))) (j : Nat) : w.frozen? ⟨b, j, none⟩ = false := by
  simp [World.frozen?, hb]

theorem and255 (n : Int) : 0 ≤ bits .and .i64 n 255 ∧ bits .and .i64 n 255 ≤ 255 := by
  have h : bits .and .i64 n 255 = n % 256 := by
    have h127 : (BitVec.ofInt 64 255).toNat = 2 ^ 8 - 1 := by decide
    have key : (BitVec.ofInt 64 n &&& BitVec.ofInt 64 255).toNat = (n % ((2 ^ 64 : Nat) : Int)).toNat % 2 ^ 8 := by
      rw [BitVec.toNat_and, BitVec.toNat_ofInt, h127, Nat.and_two_pow_sub_one_eq_mod]
    show IntKind.i64.wrap ((BitVec.ofInt 64 n &&& BitVec.ofInt 64 255).toNat : Nat) = n % 256
    rw [key, IntKind.wrap_i64]
    omega
  rw [h]; omega

theorem heap_set {w : World} {b j : Nat} {cs : Array Value} {T : TypeId} {u : Value} (hb : w.heap[b]? = some (.cells cs T (0, 0))) : (w.setCell ⟨b, j, none⟩ u).heap[b]? = some (.cells (cs.setIfInBounds j u) T (0, 0)) := heap_setCell_same w b j cs T u hb

theorem drewN_heap (w : World) (n : Nat) : (w.drewN n).heap = w.heap := rfl

/-- Only block cb may have changed, and blocks may be new. -/
def Only (cb : Nat) (w w' : World) : Prop := w.grownBy w' (some cb)
theorem Only.refl (cb : Nat) (w : World) : Only cb w w := ⟨rfl, rfl, rfl, Nat.le_refl _, fun _ _ _ => rfl⟩
theorem Only.trans {cb : Nat} {w w1 w2 : World} (h : Only cb w w1) (k : Only cb w1 w2) : Only cb w w2 :=
  ⟨k.os.trans h.os, k.tape.trans h.tape, k.output.trans h.output, Nat.le_trans h.size k.size, fun i hi hne => (k.block i (Nat.lt_of_lt_of_le hi h.size) hne).trans (h.block i hi hne)⟩
theorem Only.setCell {cb : Nat} {w w1 : World} (h : Only cb w w1) (j : Nat) (v : Value) : Only cb w (w1.setCell ⟨cb, j, none⟩ v) :=
  h.trans ⟨rfl, rfl, rfl, by simp [World.setCell], fun k _ hk => Below.heap_setCell _ _ _ _ (fun e => hk (by simp [e]))⟩
theorem Only.drewN {cb : Nat} {w w1 : World} (h : Only cb w w1) (n : Nat) : Only cb w (w1.drewN n) := h.trans ⟨rfl, rfl, rfl, Nat.le_refl _, fun _ _ _ => rfl⟩
theorem Only.of_below {cb : Nat} {w w1 : World} (h : Below w.heap.size w w1) : Only cb w w1 := ⟨h.os, h.tape, h.output, h.size, fun k hk _ => h.block k hk⟩
theorem Only.below {cb B : Nat} {w w1 : World} (h : Only cb w w1) (h1 : B ≤ cb) (h2 : B ≤ w.heap.size) : Below B w w1 :=
  (Below.refl _ _).grown h h2 (fun k hk => by cases hk; exact h1)

/-- A cursor's parts. -/
def Cur (B : Nat) (w : World) (cb : Nat) (v : Value) (n i : Nat) (h : Int) : Prop := B ≤ cb ∧ Code B w v n ∧ w.heap[cb]? = some (.cells #[v, .int .i64 i, .int .i64 h] 65 (0, 0))
theorem cur_of {B : Nat} {w : World} {cb : Nat} {v : Value} {n i : Nat} {h : Int} (c : Cur B w cb v n i h) : IsCur B w cb := ⟨v, n, i, h, c.1, c.2.1, c.2.2⟩
theorem cur_set2 {B : Nat} {w : World} {cb : Nat} {v : Value} {n i : Nat} {h : Int} (c : Cur B w cb v n i h) (h2 : Int) : Cur B (w.setCell ⟨cb, 2, none⟩ (.int .i64 h2)) cb v n i h2 :=
  ⟨c.1, code_below c.2.1 ((Below.refl _ _).setCell c.1 _), by have := heap_set (j := 2) (u := .int .i64 h2) c.2.2; simpa using this⟩
theorem cur_set1 {B : Nat} {w : World} {cb : Nat} {v : Value} {n i : Nat} {h : Int} (c : Cur B w cb v n i h) (i2 : Nat) (x : Value) (hx : x = .int .i64 i2) : Cur B (w.setCell ⟨cb, 1, none⟩ x) cb v n i2 h := by
  subst hx
  exact ⟨c.1, code_below c.2.1 ((Below.refl _ _).setCell c.1 _), by have := heap_set (j := 1) (u := .int .i64 i2) c.2.2; simpa using this⟩
theorem cur_drewN {B : Nat} {w : World} {cb : Nat} {v : Value} {n i : Nat} {h : Int} (c : Cur B w cb v n i h) (k : Nat) : Cur B (w.drewN k) cb v n i h :=
  ⟨c.1, code_below c.2.1 (below_drewN (Below.refl _ _) _), c.2.2⟩

theorem cur_drewN' {B : Nat} {w : World} {cb : Nat} {v : Value} {n i : Nat} {h : Int} (c : Cur B w cb v n i h) (k : Nat) : Cur B (w.drewN k) cb v n i h := cur_drewN c k

set_option maxHeartbeats 400000 in
theorem draw_byte (B cb : Nat) (w : World) (hp : IsCur B w cb) :
    Calls Tryz.prog 31 #[.pointer (some ⟨cb, 0, none⟩)] w fun e w' => ∃ x : Int, e = .returned (.int .i64 x) ∧ 0 ≤ x ∧ x ≤ 255 ∧ IsCur B w' cb ∧ Only cb w w' := by
  obtain ⟨v, n, i, h, hcb, hc, hh⟩ := hp
  have HCur := Lib.hid (show Cur B w cb v n i h from ⟨hcb, hc, hh⟩)
  have c1 : w.cell? ⟨cb, 1, none⟩ = some (.int .i64 i) := by rw [heap_cell hh]; rfl
  have c2 : w.cell? ⟨cb, 2, none⟩ = some (.int .i64 h) := by rw [heap_cell hh]; rfl
  have f1 := heap_free hh 1
  have f2 := heap_free hh 2
  obtain ⟨a, c, rfl⟩ : ∃ a c, v = .slice a n c := by
    rcases hc with ⟨⟨a, c, rfl⟩, rfl⟩ | ⟨g, off, c, rfl, _⟩
    · exact ⟨_, _, rfl⟩
    · exact ⟨_, _, rfl⟩
  have c0 : w.cell? ⟨cb, 0, none⟩ = some (.slice a n c) := by rw [heap_cell hh]; rfl
  by_cases hlt : (i : Int) < n
  case neg =>
    clear hc hh
    go_enter Tryz.func31, Tryz.ntmps31
    go_wp2
    generalize wrap64 (wrap64 (h * 6364136223846793005) + 1442695040888963407) = h2
    go_quiet (fail)
    generalize hy : bits BinOp.and IntKind.i64 (bits BinOp.xor IntKind.i64 (h2 / 8589934592) (h2 / 35184372088832)) 255 = y
    obtain ⟨hy0, hy1⟩ : 0 ≤ y ∧ y ≤ 255 := by rw [← hy]; exact and255 _
    clear hy
    go_wp2
    go_quiet (fail)
    go_wp2
    go_ret
    exact ⟨y, rfl, hy0, hy1, cur_of (cur_drewN (cur_drewN (cur_set2 HCur.out h2) _) _), (((Only.refl _ _).setCell _ _).drewN _).drewN _⟩
  case pos =>
    obtain ⟨g, off, c', hv, hg, hm, hcc⟩ : ∃ g off c', Value.slice a n c = .slice (some ⟨g, off, none⟩) n c' ∧ g < B ∧ n ≤ maxLen ∧ ∀ j, j < n → ∃ x : Int, w.cell? ⟨g, off + j, none⟩ = some (.int .u8 x) ∧ 0 ≤ x ∧ x ≤ 255 := by
      rcases hc with ⟨_, h0⟩ | h
      · omega
      · exact h
    simp only [Value.slice.injEq, true_and] at hv
    obtain ⟨rfl, rfl⟩ := hv
    obtain ⟨x, hx, hx0, hx1⟩ := hcc i (by omega)
    have hne : ¬ g = cb := by omega
    have i0 : (0 : Int) ≤ i := by omega
    unfold maxLen at hm
    have hi1 : (i : Int) + 1 ≤ 9223372036854775807 := by omega
    clear hc hh hcc
    go_enter Tryz.func31, Tryz.ntmps31
    go_wp2
    generalize wrap64 (wrap64 (h * 6364136223846793005) + 1442695040888963407) = h2
    go_quiet (fail)
    generalize hy : bits BinOp.and IntKind.i64 (bits BinOp.xor IntKind.i64 (h2 / 8589934592) (h2 / 35184372088832)) 255 = y
    obtain ⟨hy0, hy1⟩ : 0 ≤ y ∧ y ≤ 255 := by rw [← hy]; exact and255 _
    clear hy
    go_wp2
    go_quiet (fail)
    go_wp2
    go_quiet (fail)
    generalize hz : bits BinOp.and IntKind.i64 (y + x) 255 = z
    obtain ⟨hz0, hz1⟩ : 0 ≤ z ∧ z ≤ 255 := by rw [← hz]; exact and255 _
    clear hz
    go_wp2
    go_ret
    exact ⟨z, rfl, hz0, hz1, cur_of (cur_drewN' (cur_set1 (cur_set2 HCur.out h2) (i + 1) _ (by go_num)) _), (((Only.refl _ _).setCell _ _).setCell _ _).drewN _⟩

/-- A number below n. -/
def DrawnBelow (B cb : Nat) (w : World) (n : Int) (e : Ending) (w' : World) : Prop := ∃ x : Int, e = .returned (.int .i64 x) ∧ 0 ≤ x ∧ x < n ∧ IsCur B w' cb ∧ Only cb w w'

set_option maxHeartbeats 400000 in
theorem draw_small (B cb : Nat) (n : Int) (w : World) (hp : IsCur B w cb) (h0 : 0 < n) (h1 : n ≤ 256) :
    Calls Tryz.prog 15 #[.pointer (some ⟨cb, 0, none⟩), .int .i64 n] w (DrawnBelow B cb w n) := by
  have HB := Lib.hid (draw_byte B cb w hp)
  clear hp
  go_enter Tryz.func15, Tryz.ntmps15
  go_wp2_with fail
  refine HB.out.mono ?_
  rintro e w1 ⟨x, rfl, hx0, hx1, hc, hb⟩
  have HC := Lib.hid hc
  have HW := Lib.hid hb
  clear hc hb
  have hm0 : 0 ≤ x % n := Int.emod_nonneg _ (by omega)
  have hm1 : x % n < n := Int.emod_lt_of_pos _ h0
  go_wp2
  go_ret
  exact ⟨x % n, rfl, hm0, hm1, HC.out, HW.out⟩

set_option maxHeartbeats 400000 in
theorem draw_great (B cb : Nat) (n : Int) (w : World) (hp : IsCur B w cb) (h0 : 256 < n) (h1 : n ≤ 2147483647) :
    Calls Tryz.prog 15 #[.pointer (some ⟨cb, 0, none⟩), .int .i64 n] w (DrawnBelow B cb w n) := by
  have HB := Lib.hid (draw_byte B cb w hp)
  clear hp
  go_enter Tryz.func15, Tryz.ntmps15
  go_wp2_with fail
  refine HB.out.mono ?_
  rintro e w1 ⟨x, rfl, hx0, hx1, hc, hb⟩
  have HB1 := Lib.hid (draw_byte B cb w1 hc)
  have HW := Lib.hid hb
  clear hc hb
  go_wp2_with fail
  refine HB1.out.mono ?_
  rintro e w2 ⟨y, rfl, hy0, hy1, hc, hb⟩
  have HB2 := Lib.hid (draw_byte B cb w2 hc)
  have HW2 := Lib.hid (HW.out.trans hb)
  clear hc hb
  go_wp2_with fail
  refine HB2.out.mono ?_
  rintro e w3 ⟨z, rfl, hz0, hz1, hc, hb⟩
  have HB3 := Lib.hid (draw_byte B cb w3 hc)
  have HW3 := Lib.hid (HW2.out.trans hb)
  clear hc hb
  go_wp2_with fail
  refine HB3.out.mono ?_
  rintro e w4 ⟨t, rfl, ht0, ht1, hc, hb⟩
  have HC := Lib.hid hc
  have HW4 := Lib.hid (HW3.out.trans hb)
  clear hc hb
  go_wp2
  go_ret
  exact ⟨_, rfl, Int.emod_nonneg _ (by omega), Int.emod_lt_of_pos _ (by omega), HC.out, HW4.out⟩

/-- A number below n is drawn, for every n above 0. -/
theorem draw_below (B cb : Nat) (n : Int) (w : World) (hp : IsCur B w cb) (h0 : 0 < n) (h1 : n ≤ 2147483647) :
    Calls Tryz.prog 15 #[.pointer (some ⟨cb, 0, none⟩), .int .i64 n] w (DrawnBelow B cb w n) := by
  by_cases h : n ≤ 256
  · exact draw_small B cb n w hp h0 h
  · exact draw_great B cb n w hp (by omega) h1
end Go.Proofs.YtfhakailbikjkaaGreatDoor
/- The reference model's draws: a new cursor, and picks from a list. -/
namespace Go.Proofs.YtfhakailbikjkaaGreatDoor
open Go.RowKit
set_option linter.unusedVariables false

theorem cur_new {w : World} {v : Value} {n : Nat} (hc : Code w.heap.size w v n) (x : Int) : IsCur w.heap.size (w.alloc (.cells #[v, .int .i64 0, .int .i64 x] 65)) w.heap.size :=
  ⟨v, n, 0, x, Nat.le_refl _, code_below hc ((Below.refl _ _).alloc (Nat.le_refl _) _), heap_alloc_new _ _⟩

set_option maxHeartbeats 400000 in
theorem draw_new (v : Value) (n : Nat) (w : World) (hc : Code w.heap.size w v n) (hn : (n : Int) ≤ 1048576) :
    Calls Tryz.prog 10 #[v] w fun e w' => ∃ cb, e = .returned (.pointer (some ⟨cb, 0, none⟩)) ∧ w.heap.size ≤ cb ∧ cb < w'.heap.size ∧ IsCur w.heap.size w' cb ∧ Below w.heap.size w w' := by
  obtain ⟨a, c, rfl⟩ : ∃ a c, v = .slice a n c := by
    rcases hc with ⟨⟨a, c, rfl⟩, rfl⟩ | ⟨g, off, c, rfl, _⟩
    · exact ⟨_, _, rfl⟩
    · exact ⟨_, _, rfl⟩
  have HC := Lib.hid hc
  clear hc
  go_enter Tryz.func10, Tryz.ntmps10
  go_wp2
  go_loop [3, 4] (fun h i => ∃ (k : Nat) (x : Int), i = .int .i64 k ∧ k ≤ n ∧ h = .int .i64 x) (fun _ i => n - (intOf i).toNat)
  case atStart => exact ⟨0, _, rfl, Nat.zero_le _, rfl⟩
  case round =>
    obtain ⟨k, x, rfl, hk, rfl⟩ := hrel
    by_cases hlt : (k : Int) < n
    · by_cases h4 : (k : Int) < 4000
      · obtain ⟨g, off, c', hv, hg, hm, hcc⟩ : ∃ g off c', Value.slice a n c = .slice (some ⟨g, off, none⟩) n c' ∧ g < w.heap.size ∧ n ≤ maxLen ∧ ∀ j, j < n → ∃ x : Int, w.cell? ⟨g, off + j, none⟩ = some (.int .u8 x) ∧ 0 ≤ x ∧ x ≤ 255 := by
          rcases HC.out with ⟨_, h0⟩ | h
          · omega
          · exact h
        simp only [Value.slice.injEq, true_and] at hv
        obtain ⟨rfl, rfl⟩ := hv
        obtain ⟨y, hy, hy0, hy1⟩ := hcc k (by omega)
        clear hcc
        have k0 : (0 : Int) ≤ k := by omega
        go_wp2
        go_round
        case rel => exact ⟨k + 1, _, by go_num, by omega, rfl⟩
        case measure => first | (simp [intOf]; done) | (simp [intOf]; omega)
      · go_wp2
        go_ret
        exact ⟨w.heap.size, rfl, Nat.le_refl _, by simp, cur_new HC.out x, (Below.refl _ _).alloc (Nat.le_refl _) _⟩
    · go_wp2
      go_ret
      exact ⟨w.heap.size, rfl, Nat.le_refl _, by simp, cur_new HC.out x, (Below.refl _ _).alloc (Nat.le_refl _) _⟩

/-- What a pick leaves: the cursor's block alone may have changed. -/
def Picked {α : Type} (mk : α → Value) (l : List α) (B cb : Nat) (w : World) (e : Ending) (w' : World) : Prop := ∃ x, x ∈ l ∧ e = .returned (mk x) ∧ IsCur B w' cb ∧ Only cb w w'

set_option maxHeartbeats 400000 in
theorem pick_text (B cb g cap : Nat) (l : List ByteArray) (w : World) (hp : IsCur B w cb) (hl : 0 < l.length) (hl2 : (l.length : Int) ≤ 1048576) (hne : g ≠ cb)
    (hc : ∀ i, i < l.length → w.cell? ⟨g, i, none⟩ = some (.string (l.getD i ByteArray.empty))) :
    Calls Tryz.prog 29 #[.pointer (some ⟨cb, 0, none⟩), .slice (some ⟨g, 0, none⟩) l.length cap] w (Picked Value.string l B cb w) := by
  have HB := Lib.hid (draw_below B cb l.length w hp (by omega) (by omega))
  have HC := Lib.hid hc
  clear hp hc
  go_enter Tryz.func29, Tryz.ntmps29
  go_wp2_with fail
  refine HB.out.mono ?_
  rintro e w1 ⟨x, rfl, hx0, hx1, hcur, ho⟩
  obtain ⟨k, rfl⟩ : ∃ k : Nat, x = k := ⟨x.toNat, by omega⟩
  have hk : k < l.length := by omega
  have h0 := HC.out k hk
  have h1 : w1.cell? ⟨g, k, none⟩ = some (.string (l.getD k ByteArray.empty)) := ho.cell h0 (fun e => hne (by simpa using e))
  have HCur := Lib.hid hcur
  have HO := Lib.hid ho
  have hmem : l.getD k ByteArray.empty ∈ l := by simp [List.getD, List.getElem?_eq_getElem hk]
  have HM := Lib.hid hmem
  clear h0 hcur ho hmem
  generalize hv : l.getD k ByteArray.empty = y at h1
  rw [hv] at HM
  clear hv
  go_wp2
  go_ret
  exact ⟨y, HM.out, rfl, HCur.out, HO.out⟩
end Go.Proofs.YtfhakailbikjkaaGreatDoor
/- Words: letters, lists of words, names, in the reference model. No conditions. -/
namespace Go.Proofs.YtfhakailbikjkaaGreatDoor
open Go.RowKit
set_option linter.unusedVariables false

theorem dec_yes {p : Prop} [Decidable p] (h : p) : decide p = true := decide_eq_true h
theorem dec_no {p : Prop} [Decidable p] (h : ¬ p) : decide p = false := decide_eq_false h
theorem letter_cases (b : UInt8) : (b.toNat < 65 ∧ Tk.letter b = false) ∨ (65 ≤ b.toNat ∧ b.toNat ≤ 90 ∧ Tk.letter b = true) ∨ (90 < b.toNat ∧ b.toNat < 97 ∧ b ≠ 95 ∧ Tk.letter b = false) ∨ (b = 95 ∧ Tk.letter b = true) ∨ (97 ≤ b.toNat ∧ b.toNat ≤ 122 ∧ Tk.letter b = true) ∨ (122 < b.toNat ∧ Tk.letter b = false) := by
  have h95 : (b == 95) = decide (b.toNat = 95) := by rw [Bool.eq_iff_iff]; simp [← UInt8.toNat_inj]
  unfold Tk.letter
  rw [h95]
  by_cases h0 : b = 95
  · subst h0; right; right; right; left; exact ⟨rfl, rfl⟩
  · have h1 : b.toNat ≠ 95 := fun e => h0 (UInt8.toNat_inj.1 e)
    rcases (show b.toNat < 65 ∨ (65 ≤ b.toNat ∧ b.toNat ≤ 90) ∨ (90 < b.toNat ∧ b.toNat < 97) ∨ (97 ≤ b.toNat ∧ b.toNat ≤ 122) ∨ 122 < b.toNat by omega) with h | h | h | h | h
    · left; exact ⟨h, by simp; omega⟩
    · right; left; exact ⟨h.1, h.2, by simp; omega⟩
    · right; right; left; exact ⟨h.1, h.2, h0, by simp; omega⟩
    · right; right; right; right; left; exact ⟨h.1, h.2, by simp; omega⟩
    · right; right; right; right; right; exact ⟨h, by simp; omega⟩
theorem ne8 {a b : UInt8} (h : a ≠ b) : ((a.toNat : Int) == (b.toNat : Int)) = false := by
  have h2 : ¬ a.toNat = b.toNat := fun e => h (UInt8.toNat_inj.1 e)
  simp; omega
theorem spec_letter (b : UInt8) (w : World) : Calls Tryz.prog 38 #[.int .u8 (b.toNat : Int)] w fun e w' => e = .returned (.bool (Tk.letter b)) ∧ w = w' := by
  have hb := UInt8.toNat_lt b
  rcases letter_cases b with ⟨h, e⟩ | ⟨h, h2, e⟩ | ⟨h, h2, h3, e⟩ | ⟨h, e⟩ | ⟨h, h2, e⟩ | ⟨h, e⟩
  · rw [e]
    have ta : decide ((97 : Int) ≤ b.toNat) = false := by simp; omega
    have tA : decide ((65 : Int) ≤ b.toNat) = false := by simp; omega
    have tu : ((b.toNat : Int) == 95) = false := by simp; omega
    clear e
    go_enter Tryz.func38, Tryz.ntmps38
    go_wp2
    go_ret
    exact ⟨rfl, rfl⟩
  · rw [e]
    have ta : decide ((97 : Int) ≤ b.toNat) = false := by simp; omega
    have tA : decide ((65 : Int) ≤ b.toNat) = true := by simp; omega
    have tZ : decide ((b.toNat : Int) ≤ 90) = true := by simp; omega
    have tu : ((b.toNat : Int) == 95) = false := by simp; omega
    clear e
    go_enter Tryz.func38, Tryz.ntmps38
    go_wp2
    go_ret
    exact ⟨rfl, rfl⟩
  · rw [e]
    have ta : decide ((97 : Int) ≤ b.toNat) = false := by simp; omega
    have tA : decide ((65 : Int) ≤ b.toNat) = true := by simp; omega
    have tZ : decide ((b.toNat : Int) ≤ 90) = false := by simp; omega
    have tu : ((b.toNat : Int) == 95) = false := ne8 h3
    clear e
    go_enter Tryz.func38, Tryz.ntmps38
    go_wp2
    go_ret
    exact ⟨rfl, rfl⟩
  · rw [e]
    have ta : decide ((97 : Int) ≤ b.toNat) = false := by subst h; rfl
    have tA : decide ((65 : Int) ≤ b.toNat) = true := by subst h; rfl
    have tZ : decide ((b.toNat : Int) ≤ 90) = false := by subst h; rfl
    have tu : ((b.toNat : Int) == 95) = true := by subst h; rfl
    clear e
    go_enter Tryz.func38, Tryz.ntmps38
    go_wp2
    go_ret
    exact ⟨rfl, rfl⟩
  · rw [e]
    have ta : decide ((97 : Int) ≤ b.toNat) = true := by simp; omega
    have tz : decide ((b.toNat : Int) ≤ 122) = true := by simp; omega
    have tu : ((b.toNat : Int) == 95) = false := by simp; omega
    clear e
    go_enter Tryz.func38, Tryz.ntmps38
    go_wp2
    go_ret
    exact ⟨rfl, rfl⟩
  · rw [e]
    have ta : decide ((97 : Int) ≤ b.toNat) = true := by simp; omega
    have tz : decide ((b.toNat : Int) ≤ 122) = false := by simp; omega
    have tA : decide ((65 : Int) ≤ b.toNat) = true := by simp; omega
    have tZ : decide ((b.toNat : Int) ≤ 90) = false := by simp; omega
    have tu : ((b.toNat : Int) == 95) = false := by simp; omega
    clear e
    go_enter Tryz.func38, Tryz.ntmps38
    go_wp2
    go_ret
    exact ⟨rfl, rfl⟩
theorem spec_digit (b : UInt8) (w : World) : Calls Tryz.prog 39 #[.int .u8 (b.toNat : Int)] w fun e w' => e = .returned (.bool (Dec.isDig b)) ∧ w = w' := by
  have hb := UInt8.toNat_lt b
  rcases (show b.toNat < 48 ∨ (48 ≤ b.toNat ∧ b.toNat ≤ 57) ∨ 57 < b.toNat by omega) with h | ⟨h, h2⟩ | h
  · rw [show Dec.isDig b = false by simp [Dec.isDig]; omega]
    have t0 : decide ((48 : Int) ≤ b.toNat) = false := by simp; omega
    go_enter Tryz.func39, Tryz.ntmps39
    go_wp2
    go_ret
    exact ⟨rfl, rfl⟩
  · rw [show Dec.isDig b = true by simp [Dec.isDig]; omega]
    have t0 : decide ((48 : Int) ≤ b.toNat) = true := by simp; omega
    have t1 : decide ((b.toNat : Int) ≤ 57) = true := by simp; omega
    go_enter Tryz.func39, Tryz.ntmps39
    go_wp2
    go_ret
    exact ⟨rfl, rfl⟩
  · rw [show Dec.isDig b = false by simp [Dec.isDig]; omega]
    have t0 : decide ((48 : Int) ≤ b.toNat) = true := by simp; omega
    have t1 : decide ((b.toNat : Int) ≤ 57) = false := by simp; omega
    go_enter Tryz.func39, Tryz.ntmps39
    go_wp2
    go_ret
    exact ⟨rfl, rfl⟩

/-- Words in memory. -/
def Words (w : World) (g : Nat) (l : List (List UInt8)) : Prop := ∀ i, i < l.length → w.cell? ⟨g, i, none⟩ = some (.string (str8 (l.getD i [])))
theorem words_below {w w1 : World} {g : Nat} {l : List (List UInt8)} (h : Words w g l) (hg : g < w.heap.size) (hb : Below w.heap.size w w1) : Words w1 g l := fun i hi => (hb.cell (p := ⟨g, i, none⟩) hg).trans (h i hi)
theorem words_new (w : World) (l : List (List UInt8)) (t : TypeId) (cs : Array Value) (hcs : cs = (l.map fun x => Value.string (str8 x)).toArray) : Words (w.alloc (.cells cs t)) w.heap.size l := by
  intro i hi
  subst hcs
  rw [World.cell?_alloc_mark]
  rw [List.getD_eq_getElem?_getD, List.getElem?_eq_getElem hi]
  simp [hi]
theorem hasTo (l : List (List UInt8)) (x : List UInt8) (k : Nat) (h : k < l.length) : ((l.take (k + 1)).contains x) = ((l.take k).contains x || (l.getD k [] == x)) := by
  rw [List.take_succ_eq_append_getElem h, List.getD_eq_getElem?_getD, List.getElem?_eq_getElem h, Bool.eq_iff_iff]
  simp only [List.contains_iff_mem, List.mem_append, List.mem_singleton, Bool.or_eq_true, beq_iff_eq, Option.getD_some]
  exact or_congr Iff.rfl eq_comm
theorem str8_toList (l : List UInt8) : (str8 l).toList = l := by rw [ByteArray.toList_eq]; exact str8_list l
/-- Is the word on the list? -/
def hasW (l : List (List UInt8)) (x : List UInt8) : Bool := l.contains x
theorem hasW_yes {l : List (List UInt8)} {x : List UInt8} (h : l.contains x = true) : Ending.returned (.bool true) = .returned (.bool (hasW l x)) := by unfold hasW; rw [h]
theorem hasW_no {l : List (List UInt8)} {x : List UInt8} (h : l.contains x = false) : Ending.returned (.bool false) = .returned (.bool (hasW l x)) := by unfold hasW; rw [h]
theorem spec_hasw (l : List (List UInt8)) (g cap : Nat) (s : ByteArray) (w : World) (hw : Words w g l) (hl : (l.length : Int) ≤ 1048576) :
    Calls Tryz.prog 49 #[.slice (some ⟨g, 0, none⟩) l.length cap, .string s] w fun e w' => e = .returned (.bool (hasW l s.data.toList)) ∧ w = w' := by
  have HW := Lib.hid hw
  have HT := Lib.hid (ByteArray.toList_eq s)
  clear hw
  go_enter Tryz.func49, Tryz.ntmps49
  go_wp2
  go_loop [4, 5] (fun _ i => ∃ k : Nat, i = .int .i64 k ∧ k ≤ l.length ∧ (l.take k).contains s.data.toList = false) (fun _ i => l.length - (intOf i).toNat)
  case atStart => exact ⟨0, rfl, by omega, rfl⟩
  case round =>
    obtain ⟨k, rfl, hk, hc⟩ := hrel
    have HC := Lib.hid hc
    clear hc
    by_cases hlt : (k : Int) < l.length
    · have hkl : k < l.length := by omega
      have hcell := HW.out k hkl
      have HX := Lib.hid (hasTo l s.data.toList k hkl)
      generalize l.getD k [] = x at hcell HX
      have hx := str8_toList x
      by_cases he : x = s.data.toList
      · have t1 : (x == s.toList) = true := by rw [he, HT.out]; simp
        have HY : Hid (l.contains s.data.toList = true) := by
          have h := HX.out
          rw [HC.out, he] at h
          have h2 : (l.take (k + 1)).contains s.data.toList = true := by rw [h]; simp
          show l.contains s.data.toList = true
          rw [List.contains_iff_mem] at h2 ⊢
          exact List.mem_of_mem_take h2
        clear he
        go_wp2
        go_ret
        exact ⟨hasW_yes HY.out, rfl⟩
      · have t1 : (x == s.toList) = false := by rw [HT.out]; simpa using he
        have HN : Hid ((l.take (k + 1)).contains s.data.toList = false) := by
          show _ = _
          rw [HX.out, HC.out]; simpa using he
        clear he
        go_wp2
        go_round
        case rel => exact ⟨k + 1, by go_num, by omega, HN.out⟩
        case measure => first | (simp [intOf]; done) | (simp [intOf]; omega)
    · obtain rfl : k = l.length := by omega
      have HY : Hid (l.contains s.data.toList = false) := by have h := HC.out; rw [List.take_length] at h; exact h
      go_wp2
      go_ret
      exact ⟨hasW_no HY.out, rfl⟩

theorem words_lt (l : List (List UInt8)) (h : l.length ≤ 100) : (l.length : Int) ≤ 1048576 := by omega
theorem spec_reserved (s : ByteArray) (w : World) : Calls Tryz.prog 40 #[.string s] w fun e w' => e = .returned (.bool (hasW Tk.reserved s.data.toList)) ∧ Below w.heap.size w w' := by
  have HH : Hid (Calls Tryz.prog 49 #[.slice (some ⟨w.heap.size, 0, none⟩) 26 26, .string s] (w.alloc (.cells (Tk.reserved.map fun x => Value.string (str8 x)).toArray 9)) fun e w' => e = .returned (.bool (hasW Tk.reserved s.data.toList)) ∧ (w.alloc (.cells (Tk.reserved.map fun x => Value.string (str8 x)).toArray 9)) = w') :=
    spec_hasw Tk.reserved w.heap.size 26 s _ (words_new w Tk.reserved 9 _ rfl) (words_lt _ (by decide))
  generalize hasW Tk.reserved s.data.toList = b at HH ⊢
  go_enter Tryz.func40, Tryz.ntmps40
  go_wp2_with fail
  refine HH.out.mono ?_
  rintro e w1 ⟨rfl, rfl⟩
  go_wp2
  go_ret
  exact ⟨rfl, bl1 _ _⟩
theorem spec_keyword (s : ByteArray) (w : World) : Calls Tryz.prog 48 #[.string s] w fun e w' => e = .returned (.bool (hasW Tk.keywords s.data.toList)) ∧ Below w.heap.size w w' := by
  have HH : Hid (Calls Tryz.prog 49 #[.slice (some ⟨w.heap.size, 0, none⟩) 8 8, .string s] (w.alloc (.cells (Tk.keywords.map fun x => Value.string (str8 x)).toArray 9)) fun e w' => e = .returned (.bool (hasW Tk.keywords s.data.toList)) ∧ (w.alloc (.cells (Tk.keywords.map fun x => Value.string (str8 x)).toArray 9)) = w') :=
    spec_hasw Tk.keywords w.heap.size 8 s _ (words_new w Tk.keywords 9 _ rfl) (words_lt _ (by decide))
  generalize hasW Tk.keywords s.data.toList = b at HH ⊢
  go_enter Tryz.func48, Tryz.ntmps48
  go_wp2_with fail
  refine HH.out.mono ?_
  rintro e w1 ⟨rfl, rfl⟩
  go_wp2
  go_ret
  exact ⟨rfl, bl1 _ _⟩
end Go.Proofs.YtfhakailbikjkaaGreatDoor
/- Names, and which tokens begin or end an expression, in the reference model. No conditions. -/
namespace Go.Proofs.YtfhakailbikjkaaGreatDoor
open Go.RowKit
set_option linter.unusedVariables false

theorem name_cases (s : ByteArray) : ((s.size < 1 ∨ 12 < s.size) ∧ Tk.isName s.data.toList = false) ∨ ∃ h : 1 ≤ s.size, s.size ≤ 12 ∧ ((Tk.letter s[0] = false ∧ Tk.isName s.data.toList = false)
    ∨ (Tk.letter s[0] = true ∧ hasW Tk.reserved s.data.toList = true ∧ Tk.isName s.data.toList = false) ∨ (Tk.letter s[0] = true ∧ hasW Tk.reserved s.data.toList = false ∧ Tk.isName s.data.toList = s.data.toList.all Tk.idb)) := by
  have hl := len8 s
  by_cases h : s.size < 1 ∨ 12 < s.size
  · left
    refine ⟨h, ?_⟩
    unfold Tk.isName
    rcases h with h | h
    · rw [decide_eq_false (by omega)]; rfl
    · rw [decide_eq_false (p := s.data.toList.length ≤ 12) (by omega)]; simp
  · right
    refine ⟨by omega, by omega, ?_⟩
    have hh : s.data.toList.head? = some (s[0]'(by omega)) := by rw [List.head?_eq_getElem?, List.getElem?_eq_getElem (by omega)]; rfl
    have e : Tk.isName s.data.toList = (Tk.letter (s[0]'(by omega)) && !hasW Tk.reserved s.data.toList && s.data.toList.all Tk.idb) := by
      unfold Tk.isName
      rw [decide_eq_true (by omega), decide_eq_true (by omega), hh]
      show (true && true && (some (Tk.letter _) == some true) && !Tk.isReserved _ && _) = _
      cases Tk.letter (s[0]'(by omega)) <;> rfl
    cases h1 : Tk.letter (s[0]'(by omega))
    · left; exact ⟨rfl, by rw [e, h1]; rfl⟩
    · right
      cases h2 : hasW Tk.reserved s.data.toList
      · right; exact ⟨rfl, rfl, by rw [e, h1, h2]; rfl⟩
      · left; exact ⟨rfl, rfl, by rw [e, h1, h2]; rfl⟩
theorem ret_b {a b : Bool} (h : a = b) : Ending.returned (.bool a) = .returned (.bool b) := by rw [h]
/-- The first k bytes may stand in a name. -/
def IdTo (s : ByteArray) (k : Nat) : Prop := (s.data.toList.take k).all Tk.idb = true

set_option maxHeartbeats 800000 in
theorem spec_name (s : ByteArray) (w : World) (hs : (s.size : Int) ≤ 1048576) : Calls Tryz.prog 41 #[.string s] w fun e w' => e = .returned (.bool (Tk.isName s.data.toList)) ∧ Below w.heap.size w w' := by
  rcases name_cases s with ⟨h, e⟩ | ⟨h1, h2, ⟨h3, e⟩ | ⟨h3, h4, e⟩ | ⟨h3, h4, e⟩⟩
  · rw [e]
    clear e
    rcases h with h | h
    · have t1 : (s.size : Int) < 1 := by omega
      clear h
      go_enter Tryz.func41, Tryz.ntmps41
      go_wp2
      go_ret
      exact ⟨rfl, Below.refl _ _⟩
    · have t1 : ¬ (s.size : Int) < 1 := by omega
      have t2 : (12 : Int) < s.size := by omega
      clear h
      go_enter Tryz.func41, Tryz.ntmps41
      go_wp2
      go_ret
      exact ⟨rfl, Below.refl _ _⟩
  · rw [e]
    have t1 : ¬ (s.size : Int) < 1 := by omega
    have t2 : ¬ (12 : Int) < s.size := by omega
    have t3 : (0 : Int) < s.size := by omega
    have HL := Lib.hid (fun W => spec_letter s[0] W)
    rw [h3] at HL
    clear e h3
    go_enter Tryz.func41, Tryz.ntmps41
    go_wp2_with (go_at_call 38; refine (HL.out _).mono ?_; rintro e w1 ⟨rfl, rfl⟩)
    go_ret
    exact ⟨rfl, Below.refl _ _⟩
  · rw [e]
    have t1 : ¬ (s.size : Int) < 1 := by omega
    have t2 : ¬ (12 : Int) < s.size := by omega
    have t3 : (0 : Int) < s.size := by omega
    have HL := Lib.hid (fun W => spec_letter s[0] W)
    rw [h3] at HL
    have HR := Lib.hid (fun W => spec_reserved s W)
    rw [h4] at HR
    clear e h3 h4
    go_enter Tryz.func41, Tryz.ntmps41
    go_wp2_with (first | (go_at_call 38; refine (HL.out _).mono ?_; rintro e w1 ⟨rfl, rfl⟩) | (go_at_call 40; refine (HR.out _).mono ?_; rintro e w2 ⟨rfl, hb2⟩; have HB := Lib.hid hb2; clear hb2))
    go_ret
    exact ⟨rfl, HB.out⟩
  · have t1 : ¬ (s.size : Int) < 1 := by omega
    have t2 : ¬ (12 : Int) < s.size := by omega
    have t3 : (0 : Int) < s.size := by omega
    have HL := Lib.hid (fun W => spec_letter s[0] W)
    rw [h3] at HL
    have HR := Lib.hid (fun W => spec_reserved s W)
    rw [h4] at HR
    have HE := Lib.hid e
    have HZ := Lib.hid (len8 s)
    clear e h3 h4
    go_enter Tryz.func41, Tryz.ntmps41
    go_wp2_with (first | (go_at_call 38; refine (HL.out _).mono ?_; rintro e w1 ⟨rfl, rfl⟩) | (go_at_call 40; refine (HR.out _).mono ?_; rintro e w2 ⟨rfl, hb2⟩; have HB := Lib.hid hb2; clear hb2))
    go_loop [2, 3] (fun _ i => ∃ k : Nat, i = .int .i64 k ∧ k ≤ s.size ∧ IdTo s k) (fun _ i => s.size - (intOf i).toNat)
    case atStart => exact ⟨0, rfl, by omega, rfl⟩
    case round =>
      obtain ⟨k, rfl, hk, ha⟩ := hrel
      have HA := Lib.hid ha
      clear ha HL HR
      by_cases hlt : (k : Int) < s.size
      · have hks : k < s.size := by omega
        have hkl : k < s.data.toList.length := by rw [HZ.out]; exact hks
        have H1 := Lib.hid (fun W => spec_letter s[k] W)
        have H2 := Lib.hid (fun W => spec_digit s[k] W)
        cases hi : Tk.idb s[k]
        · have hi2 : Tk.letter s[k] = false ∧ Dec.isDig s[k] = false := by unfold Tk.idb at hi; simpa using hi
          rw [hi2.1] at H1
          rw [hi2.2] at H2
          have HN : Hid (s.data.toList.all Tk.idb = false) := by
            show _ = _
            rw [List.all_eq_false]
            exact ⟨s[k], List.getElem_mem hkl, by rw [hi]; simp⟩
          clear hi hi2
          go_wp2_with (first | (go_at_call 38; refine (H1.out _).mono ?_; rintro e w3 ⟨rfl, rfl⟩) | (go_at_call 39; refine (H2.out _).mono ?_; rintro e w4 ⟨rfl, rfl⟩))
          go_ret
          exact ⟨ret_b (by rw [HE.out, HN.out]), HB.out⟩
        · have HN : Hid (IdTo s (k + 1)) := by
            show (s.data.toList.take (k + 1)).all Tk.idb = true
            rw [List.take_succ_eq_append_getElem hkl, List.all_append, HA.out]
            show (true && (Tk.idb s[k] && true)) = true
            rw [hi]; rfl
          cases hl : Tk.letter s[k]
          · have hd : Dec.isDig s[k] = true := by unfold Tk.idb at hi; rw [hl] at hi; simpa using hi
            rw [hl] at H1
            rw [hd] at H2
            clear hi hl hd
            go_wp2_with (first | (go_at_call 38; refine (H1.out _).mono ?_; rintro e w3 ⟨rfl, rfl⟩) | (go_at_call 39; refine (H2.out _).mono ?_; rintro e w4 ⟨rfl, rfl⟩))
            go_round
            case rel => exact ⟨k + 1, by go_num, by omega, HN.out⟩
            case measure => first | (simp [intOf]; done) | (simp [intOf]; omega)
          · rw [hl] at H1
            clear hi hl H2
            go_wp2_with (first | (go_at_call 38; refine (H1.out _).mono ?_; rintro e w3 ⟨rfl, rfl⟩))
            go_round
            case rel => exact ⟨k + 1, by go_num, by omega, HN.out⟩
            case measure => first | (simp [intOf]; done) | (simp [intOf]; omega)
      · obtain rfl : k = s.size := by omega
        have HN : Hid (s.data.toList.all Tk.idb = true) := by
          have h := HA.out
          unfold IdTo at h
          rw [List.take_of_length_le (by rw [HZ.out]; exact Nat.le_refl _)] at h
          exact h
        go_wp2
        go_ret
        exact ⟨ret_b (by rw [HE.out, HN.out]), HB.out⟩
end Go.Proofs.YtfhakailbikjkaaGreatDoor
