/- Copying a string into bytes, and a block of bytes known whole. No conditions. -/
import Derived.Test.YtjgnigalodebkaaDoorT1
namespace Go.Proofs.YtjgnigalodebkaaDoor
open Go.RowKit
set_option linter.unusedVariables false

/-- 'copy(dst, s)' from a string: as many bytes as go in. -/
theorem run_copy_str {P : Program} (w : World) (dT sT ty elem : TypeId) (g o dLen dCap : Nat) (s : ByteArray) (l : List UInt8) (hl : l = s.data.toList.take dLen) (cur : Array Value) (t : TypeId)
    (hu : P.underlying dT = some (.slice elem)) (hs : (P.info? elem).map (·.size) = some 1) (hg : w.heap[g]? = some (.cells cur t (0, 0))) (hfit : o + l.length ≤ cur.size) :
    (Builtin.copy_ #[dT, sT] ty #[.slice (some ⟨g, o, none⟩) dLen dCap, .string s]).run P w =
      .ok (goInt l.length) (w.setRow g (cur.toList.take o ++ Lib.byteCells l ++ cur.toList.drop (o + l.length)).toArray) := by
  have hlen : (Lib.byteCells l).length = l.length := Lib.byteCells_length l
  have hst := run_storeCells_at P g o t (Lib.byteCells l) 0 cur w hg (by rw [hlen]; simpa using hfit) (Lib.byteCells_one _)
  have hmin : Nat.min s.size dLen = l.length := by
    rw [hl, List.length_take, len8]; show min _ _ = _; omega
  have htk : List.take l.length (List.map (fun b : UInt8 => Value.int IntKind.u8 (b.toNat : Int)) s.data.toList) = Lib.byteCells l := by
    rw [← List.map_take]
    have : List.take l.length s.data.toList = l := by
      rw [hl, List.length_take, len8, ← List.take_take, List.take_of_length_le (i := s.size) (by rw [len8]; exact Nat.le_refl _)]
    rw [this]; rfl
  rw [hlen] at hst
  simp only [Nat.add_zero] at hst
  cases hq : P.info? elem with
  | none => simp [hq] at hs
  | some i =>
    simp [Builtin.copy_, run_underlying hu, Builtin.lenOf, Builtin.firstCells, sizeOf, typeInfo, hq, hmin]
    rw [htk, hst]
    simp [Result.andThen]
theorem run_copy_str0 {P : Program} (w : World) (dT sT ty elem : TypeId) (d : Option Addr) (dLen dCap : Nat) (s : ByteArray)
    (hu : P.underlying dT = some (.slice elem)) (hs : (P.info? elem).map (·.size) = some 1) (h0 : Nat.min s.size dLen = 0) :
    (Builtin.copy_ #[dT, sT] ty #[.slice d dLen dCap, .string s]).run P w = .ok (goInt 0) w := by
  cases hq : P.info? elem with
  | none => simp [hq] at hs
  | some i =>
    cases d <;> simp [Builtin.copy_, run_underlying hu, Builtin.lenOf, Builtin.firstCells, sizeOf, typeInfo, hq, h0, storeCells]

theorem wpList_copy_str {P : Program} {w : World} {ops : Array Oper} {rest : List Oper} {o : Oper} {a : Act} {Q : Exit → Act → World → Prop} (hgd : o.guard = none) (d s : Operand) (dT sT : TypeId)
    (ho : o.op = .call { callee := .builtin .copy, args := #[d, s], argTypes := #[dT, sT] }) (elem : TypeId) (hu : P.underlying dT = some (.slice elem)) (hsz : (P.info? elem).map (·.size) = some 1)
    (dp : Option Addr) (dLen dCap : Nat) (x : ByteArray) (hd : a.eval d = .slice dp dLen dCap) (hs : a.eval s = .string x)
    (g off : Nat) (cur : List Value) (t : TypeId) (hg : w.heap[g]? = some (.cells cur.toArray t (0, 0))) (l : List UInt8) (hl : l = x.data.toList.take dLen)
    (hpos : 0 < l.length → dp = some ⟨g, off, none⟩) (hfit : off + l.length ≤ cur.length) (B : Nat) (w0 : World) (hb : Below B w0 w) (hBg : B ≤ g)
    (h : ∀ w', Hid (w'.heap[g]? = some (.cells (splice cur off (Lib.byteCells l)).toArray t (0, 0))) → Below B w0 w' → wpList P ops Q rest (a.put o.dst (goInt l.length)) w') :
    wpList P ops Q (o :: rest) a w := by
  refine wpList_plain hgd fun K hK => ?_
  by_cases h0 : l.length = 0
  · obtain rfl : l = [] := List.eq_nil_of_length_eq_zero h0
    have hmin : Nat.min x.size dLen = 0 := by
      have h1 := congrArg List.length hl
      rw [List.length_take, len8] at h1
      show min _ _ = 0
      rw [Nat.min_comm]; exact h1.symm
    have hrun := run_copy_str0 (P := P) w dT sT o.type elem dp dLen dCap x hu hsz hmin
    unfold Oper.wp
    simp [execOp, ho, resolve, invoke, builtin, hd, hs, hrun, Result.andThen]
    exact hK _ _ (h w (show _ = _ by simpa [splice, Lib.byteCells] using hg) hb)
  · obtain rfl := hpos (by omega)
    have hrun := run_copy_str (P := P) w dT sT o.type elem g off dLen dCap x l hl cur.toArray t hu hsz hg (by simpa using hfit)
    unfold Oper.wp
    simp [execOp, ho, resolve, invoke, builtin, hd, hs, hrun, Result.andThen]
    refine hK _ _ (h _ (show _ = _ from ?_) (below_setRow hb hBg _))
    have e := setRow_heap w g cur.toArray (cur.take off ++ Lib.byteCells l ++ cur.drop (off + l.length)).toArray t (0, 0) hg
    rw [splice, Lib.byteCells_length, ← List.append_assoc]
    simpa using e

theorem info8s : (Tryd.prog.info? 5).map (·.size) = some 1 := by kernel_rfl
/-- A block of bytes, known whole: l, then rest. -/
def Row8 (w : World) (g : Nat) (l : List UInt8) (rest : List Value) : Prop := w.heap[g]? = some (.cells (Lib.byteCells l ++ rest).toArray 5 (0, 0))
theorem row8_cell {w : World} {g : Nat} {l : List UInt8} {rest : List Value} (h : Row8 w g l rest) (j : Nat) (hj : j < l.length) : w.cell? ⟨g, j, none⟩ = (Lib.byteCells l)[j]? := by
  rw [Lib.cell_of_heap h]
  simp [List.getElem?_append, Lib.byteCells_length, hj]
theorem row8_conv {w : World} {g : Nat} {l : List UInt8} {rest : List Value} (h : Row8 w g l rest) (n cap : Nat) (hn : l.length = n) : (convert 22 9 (.slice (some ⟨g, 0, none⟩) n cap)).run Tryd.prog w = .ok (.string (str8 l)) w := by
  subst hn; exact conv8_cells g cap l (fun j hj => row8_cell h j hj)
theorem row8_own {w : World} {base g n cap : Nat} {l : List UInt8} (h : w.ownsRow base 5 1 (.slice (some ⟨g, 0, none⟩) n cap) n (Lib.byteCells l)) : ∃ rest, Row8 w g l rest ∧ rest.length = cap - n ∧ n = l.length ∧ base ≤ g ∧ n ≤ cap := by
  obtain ⟨h1, h2⟩ := h
  rcases h2 with ⟨e0, _⟩ | ⟨g', cap', cur, e0, hb, hg, hn, hm, hs, ht⟩
  · cases e0
  · injection e0 with e1 _ e3
    injection e1 with e1
    injection e1 with e1
    subst e1; subst e3
    rw [Lib.byteCells_length] at h1
    refine ⟨cur.toList.drop n, ?_, ?_, by omega, hb, by omega⟩
    · unfold Row8
      rw [hg, ← ht, Nat.mul_one, List.take_append_drop]
    · rw [List.length_drop, Array.length_toList]; omega
theorem cells8_len (l : List UInt8) : (Lib.byteCells l).length = l.length := Lib.byteCells_length l
theorem cells8_rep (n : Nat) (x : UInt8) : Lib.byteCells (List.replicate n x) = List.replicate n (.int .u8 (x.toNat : Int)) := by simp [Lib.byteCells]
theorem row8_full {w : World} {base g n : Nat} (h : w.ownsRow base 5 1 (.slice (some ⟨g, 0, none⟩) n n) n (madeCells #[.int .u8 0] n).toList) : Row8 w g (List.replicate n 0) [] := by
  have e : (madeCells #[.int .u8 0] n).toList = Lib.byteCells (List.replicate n 0) := by
    rw [cells8_rep]; exact toList_madeCells_one _ _
  rw [e] at h
  obtain ⟨rest, hr, hl, _⟩ := row8_own h
  obtain rfl : rest = [] := List.eq_nil_of_length_eq_zero (by omega)
  exact hr
theorem row8_copy {w : World} {g : Nat} {l m : List UInt8} {off : Nat} {x : List UInt8} (h : Hid (w.heap[g]? = some (.cells (splice (Lib.byteCells l ++ []) off (Lib.byteCells x)).toArray 5 (0, 0)))) (hm : splice l off x = m) : Row8 w g m [] := by
  have e : splice (Lib.byteCells l ++ []) off (Lib.byteCells x) = Lib.byteCells m ++ [] := by
    rw [← hm]; simp [splice, Lib.byteCells]
  unfold Row8; rw [← e]; exact h
theorem splice8 (l : List UInt8) (rest : List Value) (off : Nat) (x : List UInt8) (h : off + x.length ≤ l.length) : splice (Lib.byteCells l ++ rest) off (Lib.byteCells x) = Lib.byteCells (splice l off x) ++ rest := by
  unfold splice
  rw [cells8_app, cells8_app, cells8_len, List.take_append_of_le_length (by rw [cells8_len]; omega), List.drop_append_of_le_length (by rw [cells8_len]; omega)]
  simp [Lib.byteCells, List.map_take, List.map_drop]
/-- The same into a block of bytes known whole. -/
theorem wpList_copy_row8 {w : World} {ops : Array Oper} {rest : List Oper} {o : Oper} {a : Act} {Q : Exit → Act → World → Prop} (hgd : o.guard = none) (d s : Operand)
    (ho : o.op = .call { callee := .builtin .copy, args := #[d, s], argTypes := #[22, 9] }) (dp : Option Addr) (dLen dCap : Nat) (x : ByteArray) (hd : a.eval d = .slice dp dLen dCap) (hs : a.eval s = .string x)
    (g off : Nat) (L m : List UInt8) (r : List Value) (hg : Row8 w g L r) (l : List UInt8) (hl : l = x.data.toList.take dLen) (hpos : 0 < l.length → dp = some ⟨g, off, none⟩) (hfit : off + l.length ≤ L.length) (hm : splice L off l = m)
    (B : Nat) (w0 : World) (hb : Below B w0 w) (hBg : B ≤ g)
    (h : ∀ w', Hid (Row8 w' g m r) → Below B w0 w' → wpList Tryd.prog ops Q rest (a.put o.dst (goInt l.length)) w') : wpList Tryd.prog ops Q (o :: rest) a w := by
  refine wpList_copy_str hgd d s 22 9 ho 5 Tryd.underlying22 info8s dp dLen dCap x hd hs g off (Lib.byteCells L ++ r) 5 hg l hl hpos (by rw [List.length_append, cells8_len]; omega) B w0 hb hBg fun w' h1 h2 => h w' ?_ h2
  have e := h1.out
  rw [splice8 L r off l hfit, hm] at e
  exact e
theorem take8 {s : ByteArray} {n : Nat} (h : s.size ≤ n) : s.data.toList = s.data.toList.take n := (List.take_of_length_le (by rw [len8]; exact h)).symm
theorem byte_cells_len0 (l : List UInt8) : (Lib.byteCells l ++ []).length = l.length := by simp [Lib.byteCells]
end Go.Proofs.YtjgnigalodebkaaDoor
