/- Joined texts: B0, U0, C2, T1, G2, G3, G4, G5, N20. No conditions besides those that each states. -/
import Derived.Test.YtbadepiakkhabaaDoorProg
import Derived.WalkKit
import Derived.ProofKit
import Derived.OpenShut
import Derived.ShutString
import Derived.ChangeOld
import Derived.Below
import Derived.SliceStrings
import Derived.WalkLawsBesides
import Derived.WalkSpells
import Derived.RangeFuncRecord
import Derived.Lib.Hide
import Derived.Laws.BytesArg
import Derived.Laws.CopyOwn
import Derived.Lib.AppendStr
import Derived.Lib.BufferWrite
import Derived.OwnWalk
import Derived.Test.YtbadepiakkhabaaDoorZ1
/- What a walk is told of slices that came in, and two closed facts about the program. No conditions. -/
namespace Go.Proofs.YtbadepiakkhabaaDoor
open Go.ChangeShapes Go.WideShapes Go.ChangeAt Go.RowKit

theorem own : ownKnob Tryd.prog.godebug = none := by kernel_rfl
theorem laidOut : laidOutB Tryd.prog = true := by kernel_rfl

/-- A slice of integers that came in: nil, or a row of cells. -/
def IsRow (k : IntKind) (w : World) (a : Option Addr) (len cap : Nat) (zs : List Int) : Prop :=
  (a = none ∧ len = 0 ∧ cap = 0 ∧ zs = []) ∨
  ∃ x, a = some x ∧ len ≤ cap ∧ cap ≤ maxLen ∧ zs.length = cap ∧ (∀ i, i < zs.length → w.cell? (x.add i) = some (.int k (zs.getD i 0))) ∧ ∀ n ∈ zs, (Lit.int k n).wf = true

end Go.Proofs.YtbadepiakkhabaaDoor
/- Variables in memory: their cells, that may be written. No conditions. -/
namespace Go.Proofs.YtbadepiakkhabaaDoor
open Go.RowKit
set_option linter.unusedVariables false

theorem cell_keep {w w' : World} {b : Nat} (h : w'.heap[b]? = w.heap[b]?) (o : Nat) : w'.cell? ⟨b, o, none⟩ = w.cell? ⟨b, o, none⟩ := World.cell?_of_block (a := ⟨b, o, none⟩) h
theorem frozen_keep {w w' : World} {b : Nat} (h : w'.heap[b]? = w.heap[b]?) (o : Nat) : w'.frozen? ⟨b, o, none⟩ = w.frozen? ⟨b, o, none⟩ := World.frozen?_of_block (a := ⟨b, o, none⟩) h
/-- A variable's cells, that may be written. -/
def Var (w : World) (b : Nat) (us : List Value) : Prop := ∀ j u, us[j]? = some u → w.cell? ⟨b, j, none⟩ = some u ∧ w.frozen? ⟨b, j, none⟩ = false
theorem Var.keep {w w' : World} {b : Nat} {us : List Value} (h : Var w b us) (hb : w'.heap[b]? = w.heap[b]?) : Var w' b us := fun j u hj => ⟨(cell_keep hb j).trans (h j u hj).1, (frozen_keep hb j).trans (h j u hj).2⟩
theorem Var.lt {w : World} {b : Nat} {u : Value} {us : List Value} (h : Var w b (u :: us)) : b < w.heap.size := World.block_lt_of_cell? w _ (h 0 u rfl).1
theorem Var.later {w w' : World} {b : Nat} {us : List Value} (h : Var w b us) (hb : Below w.heap.size w w') : Var w' b us := fun j u hj => by
  have hl : b < w.heap.size := World.block_lt_of_cell? w _ (h j u hj).1
  exact (h.keep (hb.block b hl)) j u hj
theorem Var.new (W : World) (A : Array Value) (T : TypeId) : Var (W.alloc (.cells A T)) W.heap.size A.toList := by
  intro j u hj
  have hj2 : A[j]? = some u := by rw [← Array.getElem?_toList]; exact hj
  have hb := World.alloc_heap_new W (.cells A T)
  constructor
  · simp only [World.cell?, hb]
    simp [hj2]
  · simp only [World.frozen?, hb]
    simp
theorem Var.set {w : World} {b : Nat} {us : List Value} (h : Var w b us) (j : Nat) (u : Value) : Var (w.setCell ⟨b, j, none⟩ u) b (us.set j u) := by
  intro i x hi
  rw [List.getElem?_set] at hi
  rw [World.frozen?_setCell]
  split at hi
  · rename_i e
    subst e
    split at hi
    · rename_i hlt
      obtain rfl := Option.some.inj hi
      obtain ⟨hc, hf⟩ := h j _ (List.getElem?_eq_getElem hlt)
      refine ⟨?_, hf⟩
      go_simp
    · cases hi
  · rename_i e
    obtain ⟨hc, hf⟩ := h i x hi
    refine ⟨?_, hf⟩
    have hne : ¬ i = j := fun h => e h.symm
    rw [← hc]
    go_simp
theorem Var.oth {w : World} {b : Nat} {us : List Value} (h : Var w b us) (c j : Nat) (hc : b ≠ c) (u : Value) : Var (w.setCell ⟨c, j, none⟩ u) b us := h.keep (Below.heap_setCell w ⟨c, j, none⟩ u b hc)
end Go.Proofs.YtbadepiakkhabaaDoor
/- The set operations on two words, and the law's own conversions: what each returns. No conditions. -/
namespace Go.Proofs.YtbadepiakkhabaaDoor
open Go.RowKit
set_option linter.unusedVariables false

/-- A call that returns a set, and makes memory alone. -/
def RetSet (w : World) (l h : Int) (e : Ending) (w' : World) : Prop := e = .returned (.agg #[.int .i64 l, .int .i64 h]) ∧ Below w.heap.size w w'
/-- A call that returns a bool, and makes memory alone. -/
def RetBool (w : World) (b : Bool) (e : Ending) (w' : World) : Prop := e = .returned (.bool b) ∧ Below w.heap.size w w'
theorem bl1 (w : World) (o : Obj) : Below w.heap.size w (w.alloc o) := (Below.refl _ _).alloc (Nat.le_refl _) _
theorem bl2 (w : World) (o p : Obj) : Below w.heap.size w ((w.alloc o).alloc p) := (bl1 w o).alloc (by simp) _
theorem bl3 (w : World) (o p q : Obj) : Below w.heap.size w (((w.alloc o).alloc p).alloc q) := (bl2 w o p).alloc (by simp; omega) _

theorem impl_and (a b c d : Int) (w : World) : Calls Tryd.prog 162 #[.agg #[.int .i64 a, .int .i64 b], .agg #[.int .i64 c, .int .i64 d]] w (RetSet w (bits .and .i64 a c) (bits .and .i64 b d)) := by
  go_enter Tryd.func162, Tryd.ntmps162
  go_wp2
  exact bodyPost_ret (v := .agg #[.int .i64 (bits .and .i64 a c), .int .i64 (bits .and .i64 b d)]) (by simp [results, Tryd.results162, go_sem]) rfl ⟨rfl, bl3 _ _ _ _⟩
theorem impl_or (a b c d : Int) (w : World) : Calls Tryd.prog 153 #[.agg #[.int .i64 a, .int .i64 b], .agg #[.int .i64 c, .int .i64 d]] w (RetSet w (bits .or .i64 a c) (bits .or .i64 b d)) := by
  go_enter Tryd.func153, Tryd.ntmps153
  go_wp2
  exact bodyPost_ret (v := .agg #[.int .i64 (bits .or .i64 a c), .int .i64 (bits .or .i64 b d)]) (by simp [results, Tryd.results153, go_sem]) rfl ⟨rfl, bl3 _ _ _ _⟩
theorem spec_sub (a b c d : Int) (w : World) : Calls Tryd.prog 147 #[.agg #[.int .i64 a, .int .i64 b], .agg #[.int .i64 c, .int .i64 d]] w (RetSet w (bits .andNot .i64 a c) (bits .andNot .i64 b d)) := by
  go_enter Tryd.func147, Tryd.ntmps147
  go_wp2
  exact bodyPost_ret (v := .agg #[.int .i64 (bits .andNot .i64 a c), .int .i64 (bits .andNot .i64 b d)]) (by simp [results, Tryd.results147, go_sem]) rfl ⟨rfl, bl3 _ _ _ _⟩
theorem spec_not (a b : Int) (w : World) : Calls Tryd.prog 144 #[.agg #[.int .i64 a, .int .i64 b]] w (RetSet w (bits .xor .i64 (-1) a) (bits .xor .i64 (-1) b)) := by
  go_enter Tryd.func144, Tryd.ntmps144
  go_wp2
  exact bodyPost_ret (v := .agg #[.int .i64 (bits .xor .i64 (-1) a), .int .i64 (bits .xor .i64 (-1) b)]) (by simp [results, Tryd.results144, go_sem]) rfl ⟨rfl, bl2 _ _ _⟩
/-- The words of the set of one byte. -/
def Cs.oneL (x : Int) : Int := if x < 64 then Cs.unit x.toNat else 0
def Cs.oneH (x : Int) : Int := if x < 64 then 0 else if x < 128 then Cs.unit (x - 64).toNat else 0
theorem impl_one (x : Int) (w : World) (h0 : 0 ≤ x) (h1 : x ≤ 255) : Calls Tryd.prog 154 #[.int .u8 x] w (RetSet w (Cs.oneL x) (Cs.oneH x)) := by
  unfold Cs.oneL Cs.oneH Cs.unit
  by_cases ha : x < 64
  · rw [if_pos ha, if_pos ha]
    go_enter Tryd.func154, Tryd.ntmps154
    go_wp2
    exact bodyPost_ret (v := .agg #[.int .i64 (wrap64 (2 ^ x.toNat)), .int .i64 0]) (by simp [results, Tryd.results154, go_sem]) rfl ⟨rfl, bl1 _ _⟩
  · rw [if_neg ha, if_neg ha]
    by_cases hb : x < 128
    · rw [if_pos hb]
      go_enter Tryd.func154, Tryd.ntmps154
      go_wp2
      exact bodyPost_ret (v := .agg #[.int .i64 0, .int .i64 (wrap64 (2 ^ (x - 64).toNat))]) (by simp [results, Tryd.results154, go_sem]) rfl ⟨rfl, bl1 _ _⟩
    · rw [if_neg hb]
      go_enter Tryd.func154, Tryd.ntmps154
      go_wp2
      exact bodyPost_ret (v := .agg #[.int .i64 0, .int .i64 0]) (by simp [results, Tryd.results154, go_sem]) rfl ⟨rfl, bl1 _ _⟩
theorem spec_add (a b x : Int) (w : World) (h0 : 0 ≤ x) (h1 : x < 128) : Calls Tryd.prog 91 #[.agg #[.int .i64 a, .int .i64 b], .int .u8 x] w (RetSet w (Cs.addL a x.toNat) (Cs.addH b x.toNat)) := by
  by_cases ha : x < 64
  · have e1 : Cs.addL a x.toNat = bits .or .i64 a (wrap64 (2 ^ x.toNat)) := if_pos (by omega)
    have e2 : Cs.addH b x.toNat = b := if_pos (by omega)
    rw [e1, e2]
    clear e1 e2
    go_enter Tryd.func91, Tryd.ntmps91
    go_wp2
    exact bodyPost_ret (v := .agg #[.int .i64 (bits .or .i64 a (wrap64 (2 ^ x.toNat))), .int .i64 b]) (by simp [results, Tryd.results91, go_sem]) rfl ⟨rfl, bl2 _ _ _⟩
  · have e0 : x.toNat - 64 = (x - 64).toNat := by omega
    have e1 : Cs.addL a x.toNat = a := if_neg (by omega)
    have e2 : Cs.addH b x.toNat = bits .or .i64 b (wrap64 (2 ^ (x - 64).toNat)) := by rw [← e0]; exact if_neg (by omega)
    rw [e1, e2]
    clear e0 e1 e2
    go_enter Tryd.func91, Tryd.ntmps91
    go_wp2
    exact bodyPost_ret (v := .agg #[.int .i64 a, .int .i64 (bits .or .i64 b (wrap64 (2 ^ (x - 64).toNat)))]) (by simp [results, Tryd.results91, go_sem]) rfl ⟨rfl, bl2 _ _ _⟩
theorem spec_has (a b x : Int) (w : World) (h0 : 0 ≤ x) (h1 : x ≤ 255) : Calls Tryd.prog 92 #[.agg #[.int .i64 a, .int .i64 b], .int .u8 x] w (RetBool w (Cs.mem a b x.toNat)) := by
  by_cases ha : x < 64
  · rw [Cs.mem_low (by omega), ← Cs.test_bit a x.toNat (by omega)]
    unfold Cs.unit
    go_enter Tryd.func92, Tryd.ntmps92
    go_wp2
    go_ret
    exact ⟨rfl, bl1 _ _⟩
  · by_cases hb : x < 128
    · have e0 : x.toNat - 64 = (x - 64).toNat := by omega
      rw [Cs.mem_high (by omega) (by omega), e0, ← Cs.test_bit b (x - 64).toNat (by omega)]
      clear e0
      unfold Cs.unit
      go_enter Tryd.func92, Tryd.ntmps92
      go_wp2
      go_ret
      exact ⟨rfl, bl1 _ _⟩
    · rw [Cs.mem_out (by omega)]
      go_enter Tryd.func92, Tryd.ntmps92
      go_wp2
      go_ret
      exact ⟨rfl, bl1 _ _⟩
end Go.Proofs.YtbadepiakkhabaaDoor
/- Bytes of a call's own, as a list of bytes: append, conversion to a string, what stays. No conditions. -/
namespace Go.Proofs.YtbadepiakkhabaaDoor
open Go.RowKit
set_option linter.unusedVariables false

/-- Bytes as a string. -/
def str8 (l : List UInt8) : ByteArray := ⟨l.toArray⟩
theorem str8_list (l : List UInt8) : (str8 l).data.toList = l := by simp [str8]
theorem len8 (s : ByteArray) : s.data.toList.length = s.size := rfl
theorem below_then {w wa wb : World} (h : Below w.heap.size w wa) (hb : Below wa.heap.size wa wb) : Below w.heap.size w wb := h.trans (hb.mono h.size)
end Go.Proofs.YtbadepiakkhabaaDoor
/- Expression trees in memory. No conditions. -/
namespace Go.Proofs.YtbadepiakkhabaaDoor
open Go.RowKit
set_option linter.unusedVariables false

mutual
/-- Where a tree's five cells lie, and all below them. -/
def TreeAt (w : World) (g : Nat) : Nat → Ex.T → Prop
  | o, .node k t n l ks => (w.cell? ⟨g, o, none⟩ = some (.int .i64 k) ∧ w.cell? ⟨g, o + 1, none⟩ = some (.string t) ∧ w.cell? ⟨g, o + 2, none⟩ = some (.int .i64 n) ∧ w.cell? ⟨g, o + 3, none⟩ = some (.int .i64 l)) ∧ ∃ v, w.cell? ⟨g, o + 4, none⟩ = some v ∧ Kids w v ks
/-- A list of kids. -/
def Kids (w : World) : Value → List Ex.T → Prop
  | v, [] => ∃ a c, v = .slice a 0 c
  | v, x :: r => ∃ g o c, v = .slice (some ⟨g, o, none⟩) (r.length + 1) c ∧ r.length + 1 ≤ c ∧ TreeAt w g o x ∧ RowAt w g (o + 5) r
/-- Trees in a row. -/
def RowAt (w : World) (g : Nat) : Nat → List Ex.T → Prop
  | _, [] => True
  | o, x :: r => TreeAt w g o x ∧ RowAt w g (o + 5) r
end
/-- What the first world holds the second holds too. -/
def Subw (w w' : World) : Prop := ∀ b o v, w.cell? ⟨b, o, none⟩ = some v → w'.cell? ⟨b, o, none⟩ = some v
theorem subw_below {w w' : World} (h : Below w.heap.size w w') : Subw w w' := fun b o v hc => (h.cell (p := ⟨b, o, none⟩) (World.block_lt_of_cell? w _ hc)).trans hc
mutual
theorem TreeAt.mono {w w' : World} (h : Subw w w') : ∀ {g o : Nat} (t : Ex.T), TreeAt w g o t → TreeAt w' g o t
  | g, o, .node k t n l ks, hx => by
    rw [TreeAt] at hx ⊢
    obtain ⟨⟨a, b, c, d⟩, v, hv, hk⟩ := hx
    exact ⟨⟨h _ _ _ a, h _ _ _ b, h _ _ _ c, h _ _ _ d⟩, v, h _ _ _ hv, Kids.mono h ks hk⟩
theorem Kids.mono {w w' : World} (h : Subw w w') : ∀ {v : Value} (l : List Ex.T), Kids w v l → Kids w' v l
  | v, [], hx => by rw [Kids] at hx ⊢; exact hx
  | v, x :: r, hx => by
    rw [Kids] at hx ⊢
    obtain ⟨g, o, c, e, hcp, hx, hr⟩ := hx
    exact ⟨g, o, c, e, hcp, TreeAt.mono h x hx, RowAt.mono h r hr⟩
theorem RowAt.mono {w w' : World} (h : Subw w w') : ∀ {g o : Nat} (l : List Ex.T), RowAt w g o l → RowAt w' g o l
  | g, o, [], hx => by rw [RowAt]; trivial
  | g, o, x :: r, hx => by
    rw [RowAt] at hx ⊢
    exact ⟨TreeAt.mono h x hx.1, RowAt.mono h r hx.2⟩
end
theorem row_at {w : World} {g : Nat} : ∀ {l : List Ex.T} {o : Nat}, RowAt w g o l → ∀ (i : Nat) (h : i < l.length), TreeAt w g (o + i * 5) l[i] := by
  intro l
  induction l with
  | nil => intro o _ i h; simp at h
  | cons x r ih =>
    intro o hr i h
    rw [RowAt] at hr
    match i with
    | 0 => simpa using hr.1
    | i + 1 =>
      have h2 := ih hr.2 i (by simpa using h)
      have e : o + 5 + i * 5 = o + (i + 1) * 5 := by omega
      rw [e] at h2; simpa using h2
theorem kids_len {w : World} {v : Value} {l : List Ex.T} (h : Kids w v l) : ∃ a c, v = .slice a l.length c := by
  cases l with
  | nil => rw [Kids] at h; exact h
  | cons x r => rw [Kids] at h; obtain ⟨g, o, c, e, _⟩ := h; exact ⟨_, c, e⟩
theorem kids_at {w : World} {a : Option Addr} {n c : Nat} {l : List Ex.T} (h : Kids w (.slice a n c) l) (i : Nat) (hi : i < l.length) : ∃ g o, a = some ⟨g, o, none⟩ ∧ TreeAt w g (o + i * 5) l[i] := by
  cases l with
  | nil => simp at hi
  | cons x r =>
    rw [Kids] at h
    obtain ⟨g, o, c2, e, _, hx, hr⟩ := h
    injection e with e1 e2 e3
    exact ⟨g, o, e1, row_at (l := x :: r) (by rw [RowAt]; exact ⟨hx, hr⟩) i hi⟩
/-- The five cells of a tree at a place. -/
theorem tree_cells {w : World} {g o : Nat} {t : Ex.T} (h : TreeAt w g o t) : (w.cell? ⟨g, o, none⟩ = some (.int .i64 t.kind) ∧ w.cell? ⟨g, o + 1, none⟩ = some (.string t.text) ∧ w.cell? ⟨g, o + 2, none⟩ = some (.int .i64 t.num) ∧ w.cell? ⟨g, o + 3, none⟩ = some (.int .i64 t.line)) ∧ ∃ v, w.cell? ⟨g, o + 4, none⟩ = some v ∧ Kids w v t.kids := by
  cases t; rw [TreeAt] at h; exact h
theorem tree_of {w : World} {g o : Nat} {t : Ex.T} {v : Value} (h : w.cell? ⟨g, o, none⟩ = some (.int .i64 t.kind) ∧ w.cell? ⟨g, o + 1, none⟩ = some (.string t.text) ∧ w.cell? ⟨g, o + 2, none⟩ = some (.int .i64 t.num) ∧ w.cell? ⟨g, o + 3, none⟩ = some (.int .i64 t.line)) (hv : w.cell? ⟨g, o + 4, none⟩ = some v) (hk : Kids w v t.kids) : TreeAt w g o t := by
  cases t; rw [TreeAt]; exact ⟨h, v, hv, hk⟩
/-- A tree by value: its five cells. -/
abbrev exV (t : Ex.T) (v : Value) : Value := .agg #[.int .i64 t.kind, .string t.text, .int .i64 t.num, .int .i64 t.line, v]
/-- Five cells of a variable of the call's own. -/
def CellsE (w : World) (b : Nat) (t : Ex.T) (v : Value) : Prop := w.cell? ⟨b, 0, none⟩ = some (.int .i64 t.kind) ∧ w.cell? ⟨b, 1, none⟩ = some (.string t.text) ∧ w.cell? ⟨b, 2, none⟩ = some (.int .i64 t.num) ∧ w.cell? ⟨b, 3, none⟩ = some (.int .i64 t.line) ∧ w.cell? ⟨b, 4, none⟩ = some v
theorem CellsE.later {w w' : World} {b : Nat} {t : Ex.T} {v : Value} (h : CellsE w b t v) (hb : Below w.heap.size w w') : CellsE w' b t v :=
  ⟨subw_below hb _ _ _ h.1, subw_below hb _ _ _ h.2.1, subw_below hb _ _ _ h.2.2.1, subw_below hb _ _ _ h.2.2.2.1, subw_below hb _ _ _ h.2.2.2.2⟩
theorem CellsE.new (W : World) (t : Ex.T) (v : Value) (T : TypeId) : CellsE (W.alloc (.cells #[.int .i64 t.kind, .string t.text, .int .i64 t.num, .int .i64 t.line, v] T)) W.heap.size t v := by
  refine ⟨?_, ?_, ?_, ?_, ?_⟩ <;> go_simp
theorem Kids.later {w w' : World} {v : Value} {l : List Ex.T} (h : Kids w v l) (hb : Below w.heap.size w w') : Kids w' v l := Kids.mono (subw_below hb) l h
theorem TreeAt.later {w w' : World} {g o : Nat} {t : Ex.T} (h : TreeAt w g o t) (hb : Below w.heap.size w w') : TreeAt w' g o t := TreeAt.mono (subw_below hb) t h
/-- A variable of five cells, that may be written. -/
def FreeE (w : World) (b : Nat) (k : Int) (t : ByteArray) (n l : Int) (v : Value) : Prop := (w.cell? ⟨b, 0, none⟩ = some (.int .i64 k) ∧ w.cell? ⟨b, 1, none⟩ = some (.string t) ∧ w.cell? ⟨b, 2, none⟩ = some (.int .i64 n) ∧ w.cell? ⟨b, 3, none⟩ = some (.int .i64 l) ∧ w.cell? ⟨b, 4, none⟩ = some v)
  ∧ w.frozen? ⟨b, 0, none⟩ = false ∧ w.frozen? ⟨b, 1, none⟩ = false ∧ w.frozen? ⟨b, 2, none⟩ = false ∧ w.frozen? ⟨b, 3, none⟩ = false ∧ w.frozen? ⟨b, 4, none⟩ = false
theorem FreeE.lt {w : World} {b : Nat} {k n l : Int} {t : ByteArray} {v : Value} (h : FreeE w b k t n l v) : b < w.heap.size := World.block_lt_of_cell? w _ h.1.1
theorem FreeE.later {w w' : World} {b : Nat} {k n l : Int} {t : ByteArray} {v : Value} (h : FreeE w b k t n l v) (hb : Below w.heap.size w w') : FreeE w' b k t n l v := by
  have hl := h.lt
  obtain ⟨⟨a0, a1, a2, a3, a4⟩, f0, f1, f2, f3, f4⟩ := h
  exact ⟨⟨subw_below hb _ _ _ a0, subw_below hb _ _ _ a1, subw_below hb _ _ _ a2, subw_below hb _ _ _ a3, subw_below hb _ _ _ a4⟩,
    (hb.frozen (p := ⟨b, 0, none⟩) hl).trans f0, (hb.frozen (p := ⟨b, 1, none⟩) hl).trans f1, (hb.frozen (p := ⟨b, 2, none⟩) hl).trans f2, (hb.frozen (p := ⟨b, 3, none⟩) hl).trans f3, (hb.frozen (p := ⟨b, 4, none⟩) hl).trans f4⟩
theorem FreeE.new (W : World) (k : Int) (t : ByteArray) (n l : Int) (v : Value) (T : TypeId) : FreeE (W.alloc (.cells #[.int .i64 k, .string t, .int .i64 n, .int .i64 l, v] T)) W.heap.size k t n l v := by
  refine ⟨⟨?_, ?_, ?_, ?_, ?_⟩, ?_, ?_, ?_, ?_, ?_⟩ <;> go_simp
end Go.Proofs.YtbadepiakkhabaaDoor
/- The laws' measure of a tree. No conditions. -/
namespace Go.Proofs.YtbadepiakkhabaaDoor
open Go.RowKit
set_option linter.unusedVariables false

/-- What is left of a number of bytes and kids. -/
def szR (left b : Nat) : Int := if b ≤ left then ((left - b : Nat) : Int) else -1
theorem szR_yes {left b : Nat} (h : b ≤ left) : szR left b = ((left - b : Nat) : Int) := if_pos h
theorem szR_no {left b : Nat} (h : ¬ b ≤ left) : szR left b = -1 := if_neg h
/-- Where the measure of a list stands. -/
def SzAt (ks : List Ex.T) (left k m : Nat) : Prop := m + (ks.length + Ex.bulks (ks.take k)) = left
theorem SzAt.start {ks : List Ex.T} {left : Nat} (h : ks.length ≤ left) : SzAt ks left 0 (left - ks.length) := by unfold SzAt; simp [Ex.bulks]; omega
theorem SzAt.next {ks : List Ex.T} {left k m : Nat} (h : SzAt ks left k m) (hk : k < ks.length) (hb : ks[k].bulk ≤ m) : SzAt ks left (k + 1) (m - ks[k].bulk) := by
  unfold SzAt at h ⊢
  rw [Ex.bulks_take ks k hk]; omega
theorem SzAt.bad {ks : List Ex.T} {left k m : Nat} (h : SzAt ks left k m) (hk : k < ks.length) (hb : ¬ ks[k].bulk ≤ m) : szR left (ks.length + Ex.bulks ks) = -1 := by
  unfold SzAt at h
  have h2 := Ex.bulks_take ks k hk
  have h3 := Ex.bulks_take_le ks (k + 1)
  exact szR_no (by omega)
theorem SzAt.over {ks : List Ex.T} {left m : Nat} (h : SzAt ks left ks.length m) : szR left (ks.length + Ex.bulks ks) = (m : Int) := by
  unfold SzAt at h
  rw [List.take_length] at h
  rw [szR_yes (by omega)]; congr 1; omega
theorem ret_ei {a b : Int} (h : b = a) : Ending.returned (.int .i64 a) = .returned (.int .i64 b) := by rw [h]

theorem bulk_eq (t : Ex.T) : t.bulk = t.text.size + (t.kids.length + Ex.bulks t.kids) := by cases t; rw [Ex.T.bulk]; rfl
theorem kids_count {t x : Ex.T} (h : x ∈ t.kids) : x.count < t.count := by
  cases t with
  | node k s n l ks =>
    rw [Ex.T.count]
    have := Ex.counts_mem (l := ks) h
    omega
end Go.Proofs.YtbadepiakkhabaaDoor
/- Trees of the call's own: the blocks of their lists, each met once. No conditions. -/
namespace Go.Proofs.YtbadepiakkhabaaDoor
open Go.RowKit
set_option linter.unusedVariables false

/-- A row of n trees' cells. -/
def RowE (w : World) (g n cap : Nat) (xs : List Value) : Prop := w.ownsRow 0 105 5 (.slice (some ⟨g, 0, none⟩) n cap) n xs
theorem RowE.cell {w : World} {g n cap : Nat} {xs : List Value} (h : RowE w g n cap xs) (j : Nat) (hj : j < n * 5) : (∃ u, w.cell? ⟨g, j, none⟩ = some u) ∧ w.frozen? ⟨g, j, none⟩ = false := by
  refine ⟨?_, World.ownsRow.frozenAt h j⟩
  rw [World.ownsRow.cellAt h j hj]
  have hl := h.1
  exact ⟨xs[j]'(by omega), List.getElem?_eq_getElem _⟩
theorem RowE.set {w : World} {g n cap : Nat} {xs : List Value} (h : RowE w g n cap xs) (j : Nat) (u : Value) : RowE (w.setCell ⟨g, j, none⟩ u) g n cap (xs.set j u) := (World.ownsRow.stored h j u).1
theorem RowE.keep {w w1 : World} {g n cap : Nat} {xs : List Value} (h : RowE w g n cap xs) (hb : w1.heap[g]? = w.heap[g]?) : RowE w1 g n cap xs := by
  refine ⟨h.1, ?_⟩
  rcases h.2 with hn | ⟨g2, cap2, cur, hv, hg, hgg, r⟩
  · exact .inl hn
  · refine .inr ⟨g2, cap2, cur, hv, hg, ?_, r⟩
    injection hv with e1 e2 e3
    injection e1 with e1
    injection e1 with e1
    subst e1
    rw [hb]; exact hgg
theorem RowE.cap {w : World} {g n cap : Nat} {xs : List Value} (h : RowE w g n cap xs) : n ≤ cap := by
  rcases h.2 with ⟨h1, h2⟩ | ⟨g2, cap2, cur, hv, hg, hgg, r, _⟩
  · cases h1
  · injection hv with e1 e2 e3; omega
theorem RowE.lt {w : World} {g n cap : Nat} {xs : List Value} (h : RowE w g n cap xs) : g < w.heap.size := (World.ownsRow.lt h g rfl).2
mutual
/-- A tree's five cells at a place, its lists in the blocks F. -/
def OwnE (w : World) (g : Nat) : Nat → Ex.T → List Nat → Prop
  | o, .node k t n l ks, F => (w.cell? ⟨g, o, none⟩ = some (.int .i64 k) ∧ w.cell? ⟨g, o + 1, none⟩ = some (.string t) ∧ w.cell? ⟨g, o + 2, none⟩ = some (.int .i64 n) ∧ w.cell? ⟨g, o + 3, none⟩ = some (.int .i64 l)) ∧ ∃ v, w.cell? ⟨g, o + 4, none⟩ = some v ∧ OwnK w v ks F
/-- A list of kids, in the blocks F. -/
def OwnK (w : World) : Value → List Ex.T → List Nat → Prop
  | v, [], F => F = [] ∧ ∃ a c, v = .slice a 0 c
  | v, x :: r, F => ∃ g c xs G1 G2, v = .slice (some ⟨g, 0, none⟩) (r.length + 1) c ∧ RowE w g (r.length + 1) c xs ∧ F = g :: (G1 ++ G2) ∧ (g ∉ G1 ∧ g ∉ G2 ∧ ∀ b ∈ G1, b ∉ G2) ∧ OwnE w g 0 x G1 ∧ OwnR w g 5 r G2
/-- Trees in a row, their lists in the blocks G. -/
def OwnR (w : World) (g : Nat) : Nat → List Ex.T → List Nat → Prop
  | _, [], G => G = []
  | o, x :: r, G => ∃ G1 G2, G = G1 ++ G2 ∧ (∀ b ∈ G1, b ∉ G2) ∧ OwnE w g o x G1 ∧ OwnR w g (o + 5) r G2
end
mutual
theorem OwnE.keep {w w' : World} : ∀ {g o : Nat} {F : List Nat} (t : Ex.T), (∀ j, o ≤ j → j < o + 5 → w'.cell? ⟨g, j, none⟩ = w.cell? ⟨g, j, none⟩) → (∀ b ∈ F, w'.heap[b]? = w.heap[b]?) → OwnE w g o t F → OwnE w' g o t F
  | g, o, F, .node k t n l ks, hc, hF, hx => by
    rw [OwnE] at hx ⊢
    obtain ⟨⟨a, b, c, d⟩, v, hv, hk⟩ := hx
    exact ⟨⟨(hc o (by omega) (by omega)).trans a, (hc (o + 1) (by omega) (by omega)).trans b, (hc (o + 2) (by omega) (by omega)).trans c, (hc (o + 3) (by omega) (by omega)).trans d⟩, v, (hc (o + 4) (by omega) (by omega)).trans hv, OwnK.keep ks hF hk⟩
theorem OwnK.keep {w w' : World} : ∀ {v : Value} {F : List Nat} (l : List Ex.T), (∀ b ∈ F, w'.heap[b]? = w.heap[b]?) → OwnK w v l F → OwnK w' v l F
  | v, F, [], hF, hx => by rw [OwnK] at hx ⊢; exact hx
  | v, F, x :: r, hF, hx => by
    rw [OwnK] at hx ⊢
    obtain ⟨g, c, xs, G1, G2, e, hrow, rfl, hd, hx, hr⟩ := hx
    have hg := hF g (List.mem_cons_self)
    exact ⟨g, c, xs, G1, G2, e, hrow.keep hg, rfl, hd, OwnE.keep x (fun j _ _ => cell_keep hg j) (fun b hb => hF b (List.mem_cons_of_mem _ (List.mem_append_left _ hb))) hx, OwnR.keep r (fun j _ _ => cell_keep hg j) (fun b hb => hF b (List.mem_cons_of_mem _ (List.mem_append_right _ hb))) hr⟩
theorem OwnR.keep {w w' : World} : ∀ {g o : Nat} {F : List Nat} (l : List Ex.T), (∀ j, o ≤ j → j < o + l.length * 5 → w'.cell? ⟨g, j, none⟩ = w.cell? ⟨g, j, none⟩) → (∀ b ∈ F, w'.heap[b]? = w.heap[b]?) → OwnR w g o l F → OwnR w' g o l F
  | g, o, F, [], hc, hF, hx => by rw [OwnR] at hx ⊢; exact hx
  | g, o, F, x :: r, hc, hF, hx => by
    rw [OwnR] at hx ⊢
    rw [List.length_cons] at hc
    obtain ⟨G1, G2, rfl, hd, hx, hr⟩ := hx
    exact ⟨G1, G2, rfl, hd, OwnE.keep x (fun j h1 h2 => hc j h1 (by omega)) (fun b hb => hF b (List.mem_append_left _ hb)) hx, OwnR.keep r (fun j h1 h2 => hc j (by omega) (by omega)) (fun b hb => hF b (List.mem_append_right _ hb)) hr⟩
end
mutual
theorem OwnE.at {w : World} : ∀ {g o : Nat} {F : List Nat} (t : Ex.T), OwnE w g o t F → TreeAt w g o t
  | g, o, F, .node k t n l ks, hx => by
    rw [OwnE] at hx
    rw [TreeAt]
    obtain ⟨h, v, hv, hk⟩ := hx
    exact ⟨h, v, hv, OwnK.kids ks hk⟩
theorem OwnK.kids {w : World} : ∀ {v : Value} {F : List Nat} (l : List Ex.T), OwnK w v l F → Kids w v l
  | v, F, [], hx => by rw [OwnK] at hx; rw [Kids]; exact hx.2
  | v, F, x :: r, hx => by
    rw [OwnK] at hx
    rw [Kids]
    obtain ⟨g, c, xs, G1, G2, e, hrow, rfl, hd, hx, hr⟩ := hx
    exact ⟨g, 0, c, e, hrow.cap, OwnE.at x hx, by rw [Nat.zero_add]; exact OwnR.at r hr⟩
theorem OwnR.at {w : World} : ∀ {g o : Nat} {F : List Nat} (l : List Ex.T), OwnR w g o l F → RowAt w g o l
  | g, o, F, [], hx => by rw [RowAt]; trivial
  | g, o, F, x :: r, hx => by
    rw [OwnR] at hx
    rw [RowAt]
    obtain ⟨G1, G2, rfl, hd, hx, hr⟩ := hx
    exact ⟨OwnE.at x hx, OwnR.at r hr⟩
end
theorem ownR_snoc {w : World} {g : Nat} {x : Ex.T} {F : List Nat} : ∀ {l : List Ex.T} {o : Nat} {G : List Nat}, OwnR w g o l G → OwnE w g (o + l.length * 5) x F → (∀ b ∈ G, b ∉ F) → OwnR w g o (l ++ [x]) (G ++ F) := by
  intro l
  induction l with
  | nil =>
    intro o G h hx hd
    rw [OwnR] at h
    subst h
    rw [List.nil_append, List.nil_append, OwnR]
    refine ⟨F, [], by simp, by simp, by simpa using hx, ?_⟩
    rw [OwnR]
  | cons y r ih =>
    intro o G h hx hd
    rw [OwnR] at h
    obtain ⟨G1, G2, rfl, hd2, hy, hr⟩ := h
    rw [List.cons_append, OwnR]
    refine ⟨G1, G2 ++ F, by simp, ?_, hy, ih hr (by rw [List.length_cons] at hx; rw [show o + 5 + r.length * 5 = o + (r.length + 1) * 5 by omega]; exact hx) (fun b hb => hd b (List.mem_append_right _ hb))⟩
    intro b hb hb2
    rcases List.mem_append.1 hb2 with h | h
    · exact hd2 b hb h
    · exact hd b (List.mem_append_left _ hb) h
theorem ownE_of {w : World} {g o : Nat} {t : Ex.T} {v : Value} {F : List Nat} (h : w.cell? ⟨g, o, none⟩ = some (.int .i64 t.kind) ∧ w.cell? ⟨g, o + 1, none⟩ = some (.string t.text) ∧ w.cell? ⟨g, o + 2, none⟩ = some (.int .i64 t.num) ∧ w.cell? ⟨g, o + 3, none⟩ = some (.int .i64 t.line)) (hv : w.cell? ⟨g, o + 4, none⟩ = some v) (hk : OwnK w v t.kids F) : OwnE w g o t F := by
  cases t; rw [OwnE]; exact ⟨h, v, hv, hk⟩
/-- A row that is filled is a list of kids. -/
theorem ownK_of {w : World} {g c : Nat} {xs : List Value} {l : List Ex.T} {G : List Nat} (hr : RowE w g l.length c xs) (ho : OwnR w g 0 l G) (hg : g ∉ G) : OwnK w (.slice (some ⟨g, 0, none⟩) l.length c) l (if l = [] then [] else g :: G) := by
  cases l with
  | nil => rw [OwnK, if_pos rfl]; exact ⟨rfl, _, _, rfl⟩
  | cons x r =>
    rw [OwnR] at ho
    obtain ⟨G1, G2, rfl, hd, hx, hr2⟩ := ho
    rw [OwnK, if_neg (by simp)]
    rw [Nat.zero_add] at hr2
    exact ⟨g, c, xs, G1, G2, rfl, hr, rfl, ⟨fun h => hg (List.mem_append_left _ h), fun h => hg (List.mem_append_right _ h), hd⟩, hx, hr2⟩
/-- Blocks from B on, of the world. -/
def Foot (B : Nat) (w : World) (F : List Nat) : Prop := ∀ b ∈ F, B ≤ b ∧ b < w.heap.size
/-- What makes a tree or a list answers. -/
def RetK (w : World) (ks : List Ex.T) (e : Ending) (w' : World) : Prop := ∃ v F, e = .returned v ∧ OwnK w' v ks F ∧ Foot w.heap.size w' F ∧ Below w.heap.size w w'
/-- Where the filling of a list stands. -/
def FillAt (w : World) (g : Nat) (ks : List Ex.T) (k : Nat) (wr : World) : Prop := ∃ xs G, RowE wr g ks.length ks.length xs ∧ OwnR wr g 0 (ks.take k) G ∧ (∀ b ∈ G, g < b ∧ b < wr.heap.size) ∧ Below w.heap.size w wr
theorem FillAt.cells {w wr : World} {g k : Nat} {ks : List Ex.T} (h : FillAt w g ks k wr) (j : Nat) (hj : j < ks.length * 5) : (∃ u, wr.cell? ⟨g, j, none⟩ = some u) ∧ wr.frozen? ⟨g, j, none⟩ = false := by
  obtain ⟨xs, G, hr, _⟩ := h
  exact hr.cell j hj
/-- The five stores of a tree. -/
abbrev put5 (w : World) (g o : Nat) (t : Ex.T) (v : Value) : World := ((((w.setCell ⟨g, o, none⟩ (.int .i64 t.kind)).setCell ⟨g, o + 1, none⟩ (.string t.text)).setCell ⟨g, o + 2, none⟩ (.int .i64 t.num)).setCell ⟨g, o + 3, none⟩ (.int .i64 t.line)).setCell ⟨g, o + 4, none⟩ v
theorem FillAt.next {w wr w1 : World} {g k : Nat} {ks : List Ex.T} {v : Value} {F : List Nat} (h : FillAt w g ks k wr) (hg : w.heap.size ≤ g) (hk : k < ks.length) (hb : Below wr.heap.size wr w1) (ho : OwnK w1 v (ks[k]).kids F) (hF : Foot wr.heap.size w1 F) :
    FillAt w g ks (k + 1) (put5 w1 g (k * 5) ks[k] v) := by
  obtain ⟨xs, G, hr, hR, hG, hB⟩ := h
  have hgl := hr.lt
  have hr1 : RowE w1 g ks.length ks.length xs := hr.keep (hb.block g hgl)
  have hR1 : OwnR w1 g 0 (ks.take k) G := OwnR.keep _ (fun j _ _ => cell_keep (hb.block g hgl) j) (fun b hb2 => hb.block b (hG b hb2).2) hR
  have hlen : (ks.take k).length = k := by rw [List.length_take]; omega
  have hne : ∀ b, b ≠ g → ∀ (W : World) (o : Nat) (u : Value), (W.setCell ⟨g, o, none⟩ u).heap[b]? = W.heap[b]? := fun b hb W o u => Below.heap_setCell W ⟨g, o, none⟩ u b hb
  have hput : ∀ b, b ≠ g → (put5 w1 g (k * 5) ks[k] v).heap[b]? = w1.heap[b]? := fun b hb => by unfold put5; rw [hne b hb, hne b hb, hne b hb, hne b hb, hne b hb]
  have hcell : ∀ j, j < k * 5 → (put5 w1 g (k * 5) ks[k] v).cell? ⟨g, j, none⟩ = w1.cell? ⟨g, j, none⟩ := by
    intro j hj
    unfold put5
    have c : ∀ (W : World) (o : Nat) (u : Value), o ≠ j → (W.setCell ⟨g, o, none⟩ u).cell? ⟨g, j, none⟩ = W.cell? ⟨g, j, none⟩ := by
      intro W o u ho
      have : ¬ j = o := fun e => ho e.symm
      go_simp
    rw [c _ _ _ (by omega), c _ _ _ (by omega), c _ _ _ (by omega), c _ _ _ (by omega), c _ _ _ (by omega)]
  have hfg : ∀ b ∈ F, b ≠ g := fun b hb e => by have := (hF b hb).1; omega
  have hgg : ∀ b ∈ G, b ≠ g := fun b hb e => by have := (hG b hb).1; omega
  have hnew : OwnE (put5 w1 g (k * 5) ks[k] v) g (k * 5) ks[k] F := by
    obtain ⟨a0, f0⟩ := hr1.cell (k * 5) (by omega)
    obtain ⟨a1, f1⟩ := hr1.cell (k * 5 + 1) (by omega)
    obtain ⟨a2, f2⟩ := hr1.cell (k * 5 + 2) (by omega)
    obtain ⟨a3, f3⟩ := hr1.cell (k * 5 + 3) (by omega)
    obtain ⟨a4, f4⟩ := hr1.cell (k * 5 + 4) (by omega)
    obtain ⟨u0, a0⟩ := a0
    obtain ⟨u1, a1⟩ := a1
    obtain ⟨u2, a2⟩ := a2
    obtain ⟨u3, a3⟩ := a3
    obtain ⟨u4, a4⟩ := a4
    refine ownE_of ⟨?_, ?_, ?_, ?_⟩ ?_ (OwnK.keep _ (fun b hb => hput b (hfg b hb)) ho)
    all_goals (unfold put5; go_simp)
  refine ⟨_, G ++ F, ((((hr1.set _ _).set _ _).set _ _).set _ _).set _ _, ?_, ?_, ?_⟩
  · rw [List.take_succ_eq_append_getElem hk]
    refine ownR_snoc (OwnR.keep _ (fun j h1 h2 => hcell j (by rw [hlen] at h2; omega)) (fun b hb2 => hput b (hgg b hb2)) hR1) ?_ ?_
    · rw [hlen, Nat.zero_add]; exact hnew
    · intro b hb1 hb2
      have := (hF b hb2).1
      have := (hG b hb1).2
      omega
  · intro b hb2
    have hs : (put5 w1 g (k * 5) ks[k] v).heap.size = w1.heap.size := by simp [put5, World.setCell]
    have := hb.size
    rw [hs]
    rcases List.mem_append.1 hb2 with h | h
    · have := hG b h; omega
    · have := hF b h; omega
  · have h2 : Below w.heap.size w w1 := hB.trans (hb.mono hB.size)
    exact ((((h2.setCell (p := ⟨g, k * 5, none⟩) hg _).setCell (p := ⟨g, k * 5 + 1, none⟩) hg _).setCell (p := ⟨g, k * 5 + 2, none⟩) hg _).setCell (p := ⟨g, k * 5 + 3, none⟩) hg _).setCell (p := ⟨g, k * 5 + 4, none⟩) hg _
end Go.Proofs.YtbadepiakkhabaaDoor
/- The laws' copy of a tree. No conditions. -/
namespace Go.Proofs.YtbadepiakkhabaaDoor
open Go.RowKit
set_option linter.unusedVariables false

theorem info_expr : (Tryd.prog.info? 105).map (fun i => (i.zero, i.size, i.bytes)) = some (some (.agg #[.int .i64 0, .string ByteArray.empty, .int .i64 0, .int .i64 0, .slice none 0 0]), 5, 64) := by kernel_rfl
theorem foot_if {B : Nat} {w : World} {g : Nat} {G : List Nat} {l : List Ex.T} (hB : B ≤ g) (h : ∀ b ∈ G, g < b ∧ b < w.heap.size) (hg : g < w.heap.size) : Foot B w (if l = [] then [] else g :: G) := by
  intro b hb
  split at hb
  · cases hb
  · rcases List.mem_cons.1 hb with rfl | hb
    · exact ⟨hB, hg⟩
    · have := h b hb; exact ⟨by omega, this.2⟩
theorem FillAt.done {w wr : World} {g : Nat} {ks : List Ex.T} (h : FillAt w g ks ks.length wr) (hg : w.heap.size ≤ g) : RetK w ks (.returned (.slice (some ⟨g, 0, none⟩) ks.length ks.length)) wr := by
  obtain ⟨xs, G, hr, hR, hG, hB⟩ := h
  rw [List.take_length] at hR
  exact ⟨_, _, rfl, ownK_of hr hR (fun h => by have := (hG g h).1; omega), foot_if hg hG hr.lt, hB⟩
theorem FillAt.later {w wr w1 : World} {g k : Nat} {ks : List Ex.T} (h : FillAt w g ks k wr) (j : Nat) (hj : j < ks.length * 5) (hb : Below wr.heap.size wr w1) : (∃ u, w1.cell? ⟨g, j, none⟩ = some u) ∧ w1.frozen? ⟨g, j, none⟩ = false := by
  obtain ⟨xs, G, hr, _⟩ := h
  exact (hr.keep (hb.block g hr.lt)).cell j hj

end Go.Proofs.YtbadepiakkhabaaDoor
/- Rows of trees by the values of their cells, each tree's lists in blocks of its own; a tree without lines. No conditions. -/
namespace Go.Proofs.YtbadepiakkhabaaDoor
open Go.RowKit
set_option linter.unusedVariables false

mutual
/-- A tree with every line 0. -/
def Ex.T.erase : Ex.T → Ex.T
  | .node k t n _ ks => .node k t n 0 (Ex.erases ks)
def Ex.erases : List Ex.T → List Ex.T
  | [] => []
  | x :: r => x.erase :: Ex.erases r
end
theorem Ex.erases_map (l : List Ex.T) : Ex.erases l = l.map Ex.T.erase := by
  induction l with
  | nil => simp [Ex.erases]
  | cons x r ih => rw [Ex.erases, ih]; rfl
theorem Ex.erase_kids (t : Ex.T) : t.erase.kids = Ex.erases t.kids := by cases t; rw [Ex.T.erase]; rfl
/-- A tree of a row: the tree, the value of its list, the blocks of its lists. -/
abbrev El := Ex.T × Value × List Nat
/-- The cells of a row of trees. -/
def rowV (l : List El) : List Value := l.flatMap fun p => [.int .i64 p.1.kind, .string p.1.text, .int .i64 p.1.num, .int .i64 p.1.line, p.2.1]
theorem rowV_cons (p : El) (l : List El) : rowV (p :: l) = Value.int .i64 p.1.kind :: Value.string p.1.text :: Value.int .i64 p.1.num :: Value.int .i64 p.1.line :: p.2.1 :: rowV l := rfl
theorem rowV_app (a b : List El) : rowV (a ++ b) = rowV a ++ rowV b := by unfold rowV; rw [List.flatMap_append]
theorem rowV_len (l : List El) : (rowV l).length = l.length * 5 := by
  induction l with
  | nil => rfl
  | cons p l ih => rw [rowV_cons]; simp [ih]; omega
theorem rowV_get : ∀ (l : List El) (i : Nat) (h : i < l.length), (rowV l)[i * 5]? = some (.int .i64 l[i].1.kind) ∧ (rowV l)[i * 5 + 1]? = some (.string l[i].1.text) ∧ (rowV l)[i * 5 + 2]? = some (.int .i64 l[i].1.num) ∧ (rowV l)[i * 5 + 3]? = some (.int .i64 l[i].1.line) ∧ (rowV l)[i * 5 + 4]? = some l[i].2.1 := by
  intro l
  induction l with
  | nil => intro i h; simp at h
  | cons p l ih =>
    intro i h
    rw [rowV_cons]
    match i with
    | 0 => exact ⟨rfl, rfl, rfl, rfl, rfl⟩
    | i + 1 =>
      have h2 := ih i (by simpa using h)
      rw [show (i + 1) * 5 = i * 5 + 5 by omega]
      exact h2
/-- Each tree's lists lie in blocks of its own. -/
def Els (w : World) (l : List El) : Prop := (∀ p ∈ l, OwnK w p.2.1 p.1.kids p.2.2) ∧ l.Pairwise (fun p q => ∀ b ∈ p.2.2, b ∉ q.2.2)
def elsF (l : List El) : List Nat := l.flatMap fun p => p.2.2
theorem elsF_mem {l : List El} {p : El} (h : p ∈ l) {b : Nat} (hb : b ∈ p.2.2) : b ∈ elsF l := List.mem_flatMap.2 ⟨p, h, hb⟩
theorem Els.nil (w : World) : Els w [] := ⟨(fun p h => by cases h), List.Pairwise.nil⟩
theorem Els.keep {w w' : World} {l : List El} (h : Els w l) (hb : ∀ b ∈ elsF l, w'.heap[b]? = w.heap[b]?) : Els w' l :=
  ⟨fun p hp => OwnK.keep _ (fun b hb2 => hb b (elsF_mem hp hb2)) (h.1 p hp), h.2⟩
theorem Els.snoc {w : World} {l : List El} {p : El} (h : Els w l) (hp : OwnK w p.2.1 p.1.kids p.2.2) (hd : ∀ b ∈ elsF l, b ∉ p.2.2) : Els w (l ++ [p]) := by
  refine ⟨fun q hq => ?_, ?_⟩
  · rcases List.mem_append.1 hq with hq | hq
    · exact h.1 q hq
    · rw [List.mem_singleton] at hq; subst hq; exact hp
  · rw [List.pairwise_append]
    refine ⟨h.2, List.pairwise_singleton _ _, fun a ha b hb c hc => ?_⟩
    rw [List.mem_singleton] at hb; subst hb
    exact hd c (elsF_mem ha hc)
theorem elsF_snoc (l : List El) (p : El) : elsF (l ++ [p]) = elsF l ++ p.2.2 := by simp [elsF]
/-- Where a row's cells are known. -/
def RowCells (w : World) (g o : Nat) (l : List El) : Prop := ∀ (j : Nat), j < l.length * 5 → w.cell? ⟨g, o + j, none⟩ = (rowV l)[j]?
theorem RowCells.node {w : World} {g o : Nat} {l : List El} (h : RowCells w g o l) (i : Nat) (hi : i < l.length) : (w.cell? ⟨g, o + i * 5, none⟩ = some (.int .i64 l[i].1.kind) ∧ w.cell? ⟨g, o + i * 5 + 1, none⟩ = some (.string l[i].1.text) ∧ w.cell? ⟨g, o + i * 5 + 2, none⟩ = some (.int .i64 l[i].1.num) ∧ w.cell? ⟨g, o + i * 5 + 3, none⟩ = some (.int .i64 l[i].1.line)) ∧ w.cell? ⟨g, o + i * 5 + 4, none⟩ = some l[i].2.1 := by
  obtain ⟨a0, a1, a2, a3, a4⟩ := rowV_get l i hi
  have e : ∀ j, o + i * 5 + j = o + (i * 5 + j) := fun j => by omega
  refine ⟨⟨?_, ?_, ?_, ?_⟩, ?_⟩
  · rw [h _ (by omega), a0]
  · rw [e, h _ (by omega), a1]
  · rw [e, h _ (by omega), a2]
  · rw [e, h _ (by omega), a3]
  · rw [e, h _ (by omega), a4]
theorem rowE_cells {w : World} {g n cap : Nat} {l : List El} (hn : n = l.length) (h : RowE w g n cap (rowV l)) : RowCells w g 0 l := by
  subst hn
  intro j hj
  rw [Nat.zero_add]
  exact World.ownsRow.cellAt h j hj
theorem ownR_els {w : World} {g : Nat} : ∀ (l : List El) (o : Nat), RowCells w g o l → Els w l → OwnR w g o (l.map Prod.fst) (elsF l) := by
  intro l
  induction l with
  | nil => intro o _ _; rw [List.map_nil, OwnR]; rfl
  | cons p r ih =>
    intro o hc he
    rw [List.map_cons, OwnR]
    have h0 := hc.node 0 (by simp)
    rw [Nat.zero_mul, Nat.add_zero] at h0
    have hp := he.2
    rw [List.pairwise_cons] at hp
    refine ⟨p.2.2, elsF r, by simp [elsF], fun b hb hb2 => ?_, ownE_of h0.1 h0.2 (he.1 p List.mem_cons_self), ih (o + 5) ?_ ⟨fun q hq => he.1 q (List.mem_cons_of_mem _ hq), hp.2⟩⟩
    · obtain ⟨q, hq, hb3⟩ := List.mem_flatMap.1 hb2
      exact hp.1 q hq b hb hb3
    · intro j hj
      have h5 := hc (5 + j) (by rw [List.length_cons]; omega)
      rw [show o + (5 + j) = o + 5 + j by omega, rowV_cons, show 5 + j = j + 5 by omega] at h5
      exact h5
/-- A row that is known is a list of kids. -/
theorem ownK_els {w : World} {g cap : Nat} {l : List El} (hr : RowE w g l.length cap (rowV l)) (he : Els w l) (hg : g ∉ elsF l) : OwnK w (.slice (some ⟨g, 0, none⟩) l.length cap) (l.map Prod.fst) (if l.map Prod.fst = [] then [] else g :: elsF l) := by
  have h := ownK_of (w := w) (g := g) (c := cap) (xs := rowV l) (l := l.map Prod.fst) (G := elsF l) (by rw [List.length_map]; exact hr) (ownR_els l 0 (rowE_cells rfl hr) he) hg
  rw [List.length_map] at h; exact h
end Go.Proofs.YtbadepiakkhabaaDoor
