/- Joined texts: B0, C2, T1, G2, G3. No conditions besides those that each states. -/
import Derived.Test.YtckjmmapekaapaaGreatDoorProg
import Derived.WalkKit
import Derived.ProofKit
import Derived.OpenShut
import Derived.ShutString
import Derived.ChangeOld
import Derived.Below
import Derived.SliceStrings
import Derived.WalkLawsBesides
import Derived.WalkSpells
import Derived.Lib.Hide
import Derived.Laws.BytesArg
import Derived.Laws.CopyOwn
import Derived.Lib.AppendStr
import Derived.Lib.BufferWrite
import Derived.OwnWalk
import Derived.Test.YtckjmmapekaapaaGreatDoorZ1
/- What a walk is told of slices that came in, and two closed facts about the program. No conditions. -/
namespace Go.Proofs.YtckjmmapekaapaaGreatDoor
open Go.ChangeShapes Go.WideShapes Go.ChangeAt Go.RowKit

theorem own : ownKnob Tryz.prog.godebug = none := by kernel_rfl
theorem laidOut : laidOutB Tryz.prog = true := by kernel_rfl

/-- A slice of integers that came in: nil, or a row of cells. -/
def IsRow (k : IntKind) (w : World) (a : Option Addr) (len cap : Nat) (zs : List Int) : Prop :=
  (a = none ∧ len = 0 ∧ cap = 0 ∧ zs = []) ∨
  ∃ x, a = some x ∧ len ≤ cap ∧ cap ≤ maxLen ∧ zs.length = cap ∧ (∀ i, i < zs.length → w.cell? (x.add i) = some (.int k (zs.getD i 0))) ∧ ∀ n ∈ zs, (Lit.int k n).wf = true

/-- A slice of strings that came in. -/
def IsStrs (w : World) (a : Option Addr) (len cap : Nat) (zs : List ByteArray) : Prop :=
  (a = none ∧ len = 0 ∧ cap = 0 ∧ zs = []) ∨
  ∃ x, a = some x ∧ len ≤ cap ∧ cap ≤ maxLen ∧ zs.length = cap ∧ (∀ i, i < zs.length → w.cell? (x.add i) = some (.string (zs.getD i ByteArray.empty))) ∧ ∀ s ∈ zs, s.size ≤ maxLen

end Go.Proofs.YtckjmmapekaapaaGreatDoor
/- The set operations on two words, and the law's own conversions: what each returns. No conditions. -/
namespace Go.Proofs.YtckjmmapekaapaaGreatDoor
open Go.RowKit
set_option linter.unusedVariables false

/-- A call that returns a set, and makes memory alone. -/
def RetSet (w : World) (l h : Int) (e : Ending) (w' : World) : Prop := e = .returned (.agg #[.int .i64 l, .int .i64 h]) ∧ Below w.heap.size w w'
/-- A call that returns a bool, and makes memory alone. -/
def RetBool (w : World) (b : Bool) (e : Ending) (w' : World) : Prop := e = .returned (.bool b) ∧ Below w.heap.size w w'
theorem bl1 (w : World) (o : Obj) : Below w.heap.size w (w.alloc o) := (Below.refl _ _).alloc (Nat.le_refl _) _
theorem bl2 (w : World) (o p : Obj) : Below w.heap.size w ((w.alloc o).alloc p) := (bl1 w o).alloc (by simp) _
theorem bl3 (w : World) (o p q : Obj) : Below w.heap.size w (((w.alloc o).alloc p).alloc q) := (bl2 w o p).alloc (by simp; omega) _

theorem impl_and (a b c d : Int) (w : World) : Calls Tryz.prog 126 #[.agg #[.int .i64 a, .int .i64 b], .agg #[.int .i64 c, .int .i64 d]] w (RetSet w (bits .and .i64 a c) (bits .and .i64 b d)) := by
  go_enter Tryz.func126, Tryz.ntmps126
  go_wp2
  exact bodyPost_ret (v := .agg #[.int .i64 (bits .and .i64 a c), .int .i64 (bits .and .i64 b d)]) (by simp [results, Tryz.results126, go_sem]) rfl ⟨rfl, bl3 _ _ _ _⟩
theorem impl_or (a b c d : Int) (w : World) : Calls Tryz.prog 121 #[.agg #[.int .i64 a, .int .i64 b], .agg #[.int .i64 c, .int .i64 d]] w (RetSet w (bits .or .i64 a c) (bits .or .i64 b d)) := by
  go_enter Tryz.func121, Tryz.ntmps121
  go_wp2
  exact bodyPost_ret (v := .agg #[.int .i64 (bits .or .i64 a c), .int .i64 (bits .or .i64 b d)]) (by simp [results, Tryz.results121, go_sem]) rfl ⟨rfl, bl3 _ _ _ _⟩
/-- The words of the set of one byte. -/
def Cs.oneL (x : Int) : Int := if x < 64 then Cs.unit x.toNat else 0
def Cs.oneH (x : Int) : Int := if x < 64 then 0 else if x < 128 then Cs.unit (x - 64).toNat else 0
theorem impl_one (x : Int) (w : World) (h0 : 0 ≤ x) (h1 : x ≤ 255) : Calls Tryz.prog 122 #[.int .u8 x] w (RetSet w (Cs.oneL x) (Cs.oneH x)) := by
  unfold Cs.oneL Cs.oneH Cs.unit
  by_cases ha : x < 64
  · rw [if_pos ha, if_pos ha]
    go_enter Tryz.func122, Tryz.ntmps122
    go_wp2
    exact bodyPost_ret (v := .agg #[.int .i64 (wrap64 (2 ^ x.toNat)), .int .i64 0]) (by simp [results, Tryz.results122, go_sem]) rfl ⟨rfl, bl1 _ _⟩
  · rw [if_neg ha, if_neg ha]
    by_cases hb : x < 128
    · rw [if_pos hb]
      go_enter Tryz.func122, Tryz.ntmps122
      go_wp2
      exact bodyPost_ret (v := .agg #[.int .i64 0, .int .i64 (wrap64 (2 ^ (x - 64).toNat))]) (by simp [results, Tryz.results122, go_sem]) rfl ⟨rfl, bl1 _ _⟩
    · rw [if_neg hb]
      go_enter Tryz.func122, Tryz.ntmps122
      go_wp2
      exact bodyPost_ret (v := .agg #[.int .i64 0, .int .i64 0]) (by simp [results, Tryz.results122, go_sem]) rfl ⟨rfl, bl1 _ _⟩
theorem spec_add (a b x : Int) (w : World) (h0 : 0 ≤ x) (h1 : x < 128) : Calls Tryz.prog 113 #[.agg #[.int .i64 a, .int .i64 b], .int .u8 x] w (RetSet w (Cs.addL a x.toNat) (Cs.addH b x.toNat)) := by
  by_cases ha : x < 64
  · have e1 : Cs.addL a x.toNat = bits .or .i64 a (wrap64 (2 ^ x.toNat)) := if_pos (by omega)
    have e2 : Cs.addH b x.toNat = b := if_pos (by omega)
    rw [e1, e2]
    clear e1 e2
    go_enter Tryz.func113, Tryz.ntmps113
    go_wp2
    exact bodyPost_ret (v := .agg #[.int .i64 (bits .or .i64 a (wrap64 (2 ^ x.toNat))), .int .i64 b]) (by simp [results, Tryz.results113, go_sem]) rfl ⟨rfl, bl2 _ _ _⟩
  · have e0 : x.toNat - 64 = (x - 64).toNat := by omega
    have e1 : Cs.addL a x.toNat = a := if_neg (by omega)
    have e2 : Cs.addH b x.toNat = bits .or .i64 b (wrap64 (2 ^ (x - 64).toNat)) := by rw [← e0]; exact if_neg (by omega)
    rw [e1, e2]
    clear e0 e1 e2
    go_enter Tryz.func113, Tryz.ntmps113
    go_wp2
    exact bodyPost_ret (v := .agg #[.int .i64 a, .int .i64 (bits .or .i64 b (wrap64 (2 ^ (x - 64).toNat)))]) (by simp [results, Tryz.results113, go_sem]) rfl ⟨rfl, bl2 _ _ _⟩
theorem spec_has (a b x : Int) (w : World) (h0 : 0 ≤ x) (h1 : x ≤ 255) : Calls Tryz.prog 114 #[.agg #[.int .i64 a, .int .i64 b], .int .u8 x] w (RetBool w (Cs.mem a b x.toNat)) := by
  by_cases ha : x < 64
  · rw [Cs.mem_low (by omega), ← Cs.test_bit a x.toNat (by omega)]
    unfold Cs.unit
    go_enter Tryz.func114, Tryz.ntmps114
    go_wp2
    go_ret
    exact ⟨rfl, bl1 _ _⟩
  · by_cases hb : x < 128
    · have e0 : x.toNat - 64 = (x - 64).toNat := by omega
      rw [Cs.mem_high (by omega) (by omega), e0, ← Cs.test_bit b (x - 64).toNat (by omega)]
      clear e0
      unfold Cs.unit
      go_enter Tryz.func114, Tryz.ntmps114
      go_wp2
      go_ret
      exact ⟨rfl, bl1 _ _⟩
    · rw [Cs.mem_out (by omega)]
      go_enter Tryz.func114, Tryz.ntmps114
      go_wp2
      go_ret
      exact ⟨rfl, bl1 _ _⟩
end Go.Proofs.YtckjmmapekaapaaGreatDoor
/- Bytes of a call's own, as a list of bytes: append, conversion to a string, what stays. No conditions. -/
namespace Go.Proofs.YtckjmmapekaapaaGreatDoor
open Go.RowKit
set_option linter.unusedVariables false

theorem info8 : (Tryz.prog.info? 5).map (fun i => (i.zero, i.size, i.bytes)) = some (some (.int .u8 0), 1, 1) := by kernel_rfl
/-- Bytes of the call's own: a slice whose elements are l, in a block from base on. -/
def Own8 (w : World) (base : Nat) (v : Value) (l : List UInt8) : Prop := w.ownsRow base 5 1 v l.length (Lib.byteCells l)
/-- Bytes as a string. -/
def str8 (l : List UInt8) : ByteArray := ⟨l.toArray⟩
theorem str8_size (l : List UInt8) : (str8 l).size = l.length := by simp [str8, ByteArray.size]
theorem str8_data (s : ByteArray) : str8 s.data.toList = s := by cases s; simp [str8]
theorem str8_list (l : List UInt8) : (str8 l).data.toList = l := by simp [str8]
theorem str8_nil : str8 [] = ByteArray.empty := rfl
theorem str8_inj {s : ByteArray} {l : List UInt8} (h : s.data.toList = l) : s = str8 l := by rw [← h, str8_data]
theorem len8 (s : ByteArray) : s.data.toList.length = s.size := rfl
theorem cells8_app (l m : List UInt8) : Lib.byteCells (l ++ m) = Lib.byteCells l ++ Lib.byteCells m := by simp [Lib.byteCells]
theorem own8_app {w1 : World} {base : Nat} {v' : Value} {l : List UInt8} {x : UInt8} (h : w1.ownsRow base 5 1 v' (l.length + 1) (Lib.byteCells l ++ [Value.int .u8 (x.toNat : Int)])) : Own8 w1 base v' (l ++ [x]) := by
  unfold Own8; rw [cells8_app, List.length_append]; exact h
theorem own8_str {w1 : World} {base : Nat} {v' : Value} {l : List UInt8} {s : ByteArray} (h : w1.ownsRow base 5 1 v' (l.length + s.size) (Lib.byteCells l ++ Lib.strCells s)) : Own8 w1 base v' (l ++ s.data.toList) := by
  unfold Own8; rw [cells8_app, List.length_append]; exact h
theorem own8_made {w1 : World} {base : Nat} {v : Value} (h : w1.ownsRow base 5 1 v 0 []) : Own8 w1 base v [] := h
theorem below8_app {w wr w1 : World} {v : Value} {l : List UInt8} {o : Obj} (hb : Below w.heap.size w wr) (hown : Own8 wr w.heap.size v l) (hg : (wr.alloc o).grownBy w1 v.ownBlock) : Below w.heap.size w w1 :=
  (hb.alloc hb.size o).grown hg (by have := hb.size; simp; omega) (fun k hk => (hown.lt k hk).1)
theorem below8_str {w wr w1 : World} {v : Value} {l : List UInt8} (hb : Below w.heap.size w wr) (hown : Own8 wr w.heap.size v l) (hg : wr.grownBy w1 v.ownBlock) : Below w.heap.size w w1 :=
  hb.grown hg hb.size (fun k hk => (hown.lt k hk).1)
theorem own8_below {w w1 : World} {base : Nat} {v : Value} {l : List UInt8} (h : Own8 w base v l) (hb : Below w.heap.size w w1) : Own8 w1 base v l := by
  refine ⟨h.1, ?_⟩
  rcases h.2 with hn | ⟨g, cap, cur, hv, hg, hgg, r⟩
  · exact .inl hn
  · exact .inr ⟨g, cap, cur, hv, hg, by rw [hb.block g (Array.getElem?_eq_some_iff.1 hgg).1]; exact hgg, r⟩
theorem new8 (w : World) (x : Value) (t : TypeId) : ∀ (j : Nat) (u : Value), [x][j]? = some u → (w.alloc (.cells #[x] t)).cell? ((⟨w.heap.size, 0, none⟩ : Addr).add j) = some u := by
  intro j u hj
  match j, hj with
  | 0, hj => simp at hj; subst hj; simp [Addr.add]
theorem one8 (k : IntKind) (x : Int) : ∀ u ∈ [Value.int k x], u.oneCell' = true := by
  intro u hu; simp at hu; subst hu; rfl
theorem max8 {n : Nat} (h : n ≤ 1048577) : n ≤ maxLen := by unfold maxLen; omega
theorem nums8 (l : List UInt8) : strOfNums (l.map fun b : UInt8 => (b.toNat : Int)) = str8 l := by
  unfold strOfNums str8
  congr 1
  rw [List.map_map]
  congr 1
  conv => rhs; rw [← List.map_id l]
  exact List.map_congr_left fun b _ => by simp
/-- A string made of bytes that can be read. -/
theorem conv8_cells {w : World} (g cap : Nat) (l : List UInt8) (h : ∀ j, j < l.length → w.cell? ⟨g, j, none⟩ = (Lib.byteCells l)[j]?) : (convert 105 9 (.slice (some ⟨g, 0, none⟩) l.length cap)).run Tryz.prog w = .ok (.string (str8 l)) w := by
  have e := run_convert_bytes_arg (P := Tryz.prog) w 105 5 Tryz.underlying105 Tryz.underlying5 g 0 l.length cap (l.map fun b : UInt8 => (b.toNat : Int)) (by simp) (fun i hi => by
    rw [Nat.zero_add, h i (by omega)]
    simp [Lib.byteCells, List.getD, List.getElem?_eq_getElem hi]) 9 Tryz.underlying9
  rw [nums8] at e
  exact e
theorem conv8 {w : World} {base : Nat} {v : Value} {l : List UInt8} (h : Own8 w base v l) : (convert 105 9 v).run Tryz.prog w = .ok (.string (str8 l)) w := by
  have h2 := h.2
  rcases h2 with ⟨rfl, h0⟩ | ⟨g, cap, cur, rfl, hg⟩
  · have : l = [] := List.length_eq_zero_iff.1 h0
    subst this
    exact run_convert_bytes_nil (P := Tryz.prog) w 105 5 Tryz.underlying105 Tryz.underlying5 0 0 9 Tryz.underlying9
  · exact conv8_cells g cap l (fun j hj => h.cellAt j (by omega))
/-- A call that returns a text, and makes memory alone. -/
def RetT (w : World) (s : ByteArray) (e : Ending) (w' : World) : Prop := e = .returned (.string s) ∧ Below w.heap.size w w'
theorem below_then {w wa wb : World} (h : Below w.heap.size w wa) (hb : Below wa.heap.size wa wb) : Below w.heap.size w wb := h.trans (hb.mono h.size)
end Go.Proofs.YtckjmmapekaapaaGreatDoor
/- Expression trees in memory. No conditions. -/
namespace Go.Proofs.YtckjmmapekaapaaGreatDoor
open Go.RowKit
set_option linter.unusedVariables false

mutual
/-- Where a tree's five cells lie, and all below them. -/
def TreeAt (w : World) (g : Nat) : Nat → Ex.T → Prop
  | o, .node k t n l ks => (w.cell? ⟨g, o, none⟩ = some (.int .i64 k) ∧ w.cell? ⟨g, o + 1, none⟩ = some (.string t) ∧ w.cell? ⟨g, o + 2, none⟩ = some (.int .i64 n) ∧ w.cell? ⟨g, o + 3, none⟩ = some (.int .i64 l)) ∧ ∃ v, w.cell? ⟨g, o + 4, none⟩ = some v ∧ Kids w v ks
/-- A list of kids. -/
def Kids (w : World) : Value → List Ex.T → Prop
  | v, [] => ∃ a c, v = .slice a 0 c
  | v, x :: r => ∃ g o c, v = .slice (some ⟨g, o, none⟩) (r.length + 1) c ∧ r.length + 1 ≤ c ∧ TreeAt w g o x ∧ RowAt w g (o + 5) r
/-- Trees in a row. -/
def RowAt (w : World) (g : Nat) : Nat → List Ex.T → Prop
  | _, [] => True
  | o, x :: r => TreeAt w g o x ∧ RowAt w g (o + 5) r
end
/-- What the first world holds the second holds too. -/
def Subw (w w' : World) : Prop := ∀ b o v, w.cell? ⟨b, o, none⟩ = some v → w'.cell? ⟨b, o, none⟩ = some v
theorem subw_below {w w' : World} (h : Below w.heap.size w w') : Subw w w' := fun b o v hc => (h.cell (p := ⟨b, o, none⟩) (World.block_lt_of_cell? w _ hc)).trans hc
mutual
theorem TreeAt.mono {w w' : World} (h : Subw w w') : ∀ {g o : Nat} (t : Ex.T), TreeAt w g o t → TreeAt w' g o t
  | g, o, .node k t n l ks, hx => by
    rw [TreeAt] at hx ⊢
    obtain ⟨⟨a, b, c, d⟩, v, hv, hk⟩ := hx
    exact ⟨⟨h _ _ _ a, h _ _ _ b, h _ _ _ c, h _ _ _ d⟩, v, h _ _ _ hv, Kids.mono h ks hk⟩
theorem Kids.mono {w w' : World} (h : Subw w w') : ∀ {v : Value} (l : List Ex.T), Kids w v l → Kids w' v l
  | v, [], hx => by rw [Kids] at hx ⊢; exact hx
  | v, x :: r, hx => by
    rw [Kids] at hx ⊢
    obtain ⟨g, o, c, e, hcp, hx, hr⟩ := hx
    exact ⟨g, o, c, e, hcp, TreeAt.mono h x hx, RowAt.mono h r hr⟩
theorem RowAt.mono {w w' : World} (h : Subw w w') : ∀ {g o : Nat} (l : List Ex.T), RowAt w g o l → RowAt w' g o l
  | g, o, [], hx => by rw [RowAt]; trivial
  | g, o, x :: r, hx => by
    rw [RowAt] at hx ⊢
    exact ⟨TreeAt.mono h x hx.1, RowAt.mono h r hx.2⟩
end
theorem row_at {w : World} {g : Nat} : ∀ {l : List Ex.T} {o : Nat}, RowAt w g o l → ∀ (i : Nat) (h : i < l.length), TreeAt w g (o + i * 5) l[i] := by
  intro l
  induction l with
  | nil => intro o _ i h; simp at h
  | cons x r ih =>
    intro o hr i h
    rw [RowAt] at hr
    match i with
    | 0 => simpa using hr.1
    | i + 1 =>
      have h2 := ih hr.2 i (by simpa using h)
      have e : o + 5 + i * 5 = o + (i + 1) * 5 := by omega
      rw [e] at h2; simpa using h2
theorem row_of {w : World} {g : Nat} : ∀ {l : List Ex.T} {o : Nat}, (∀ (i : Nat) (h : i < l.length), TreeAt w g (o + i * 5) l[i]) → RowAt w g o l := by
  intro l
  induction l with
  | nil => intro o _; rw [RowAt]; trivial
  | cons x r ih =>
    intro o hr
    rw [RowAt]
    have h0 := hr 0 (by simp)
    rw [Nat.zero_mul, Nat.add_zero] at h0
    refine ⟨h0, ih fun i h => ?_⟩
    have h2 := hr (i + 1) (by simpa using h)
    have e : o + (i + 1) * 5 = o + 5 + i * 5 := by omega
    rw [e] at h2; simpa using h2
theorem kids_len {w : World} {v : Value} {l : List Ex.T} (h : Kids w v l) : ∃ a c, v = .slice a l.length c := by
  cases l with
  | nil => rw [Kids] at h; exact h
  | cons x r => rw [Kids] at h; obtain ⟨g, o, c, e, _⟩ := h; exact ⟨_, c, e⟩
theorem kids_at {w : World} {a : Option Addr} {n c : Nat} {l : List Ex.T} (h : Kids w (.slice a n c) l) (i : Nat) (hi : i < l.length) : ∃ g o, a = some ⟨g, o, none⟩ ∧ TreeAt w g (o + i * 5) l[i] := by
  cases l with
  | nil => simp at hi
  | cons x r =>
    rw [Kids] at h
    obtain ⟨g, o, c2, e, _, hx, hr⟩ := h
    injection e with e1 e2 e3
    exact ⟨g, o, e1, row_at (l := x :: r) (by rw [RowAt]; exact ⟨hx, hr⟩) i hi⟩
theorem kids_of {w : World} {g o c : Nat} {l : List Ex.T} (hcp : l.length ≤ c) (h : ∀ (i : Nat) (hi : i < l.length), TreeAt w g (o + i * 5) l[i]) : Kids w (.slice (some ⟨g, o, none⟩) l.length c) l := by
  cases l with
  | nil => rw [Kids]; exact ⟨_, _, rfl⟩
  | cons x r =>
    have h2 := row_of h
    rw [RowAt] at h2
    rw [Kids]; exact ⟨g, o, c, rfl, hcp, h2.1, h2.2⟩
/-- A list's capacity. -/
theorem kids_cap {w : World} {a : Option Addr} {n c : Nat} {l : List Ex.T} (h : Kids w (.slice a n c) l) (hl : l ≠ []) : n ≤ c := by
  cases l with
  | nil => exact absurd rfl hl
  | cons x r =>
    rw [Kids] at h
    obtain ⟨g, o, c2, e, hcp, _⟩ := h
    injection e with e1 e2 e3
    omega
/-- The five cells of a tree at a place. -/
theorem tree_cells {w : World} {g o : Nat} {t : Ex.T} (h : TreeAt w g o t) : (w.cell? ⟨g, o, none⟩ = some (.int .i64 t.kind) ∧ w.cell? ⟨g, o + 1, none⟩ = some (.string t.text) ∧ w.cell? ⟨g, o + 2, none⟩ = some (.int .i64 t.num) ∧ w.cell? ⟨g, o + 3, none⟩ = some (.int .i64 t.line)) ∧ ∃ v, w.cell? ⟨g, o + 4, none⟩ = some v ∧ Kids w v t.kids := by
  cases t; rw [TreeAt] at h; exact h
theorem tree_of {w : World} {g o : Nat} {t : Ex.T} {v : Value} (h : w.cell? ⟨g, o, none⟩ = some (.int .i64 t.kind) ∧ w.cell? ⟨g, o + 1, none⟩ = some (.string t.text) ∧ w.cell? ⟨g, o + 2, none⟩ = some (.int .i64 t.num) ∧ w.cell? ⟨g, o + 3, none⟩ = some (.int .i64 t.line)) (hv : w.cell? ⟨g, o + 4, none⟩ = some v) (hk : Kids w v t.kids) : TreeAt w g o t := by
  cases t; rw [TreeAt]; exact ⟨h, v, hv, hk⟩
theorem node_eta (t : Ex.T) : Ex.T.node t.kind t.text t.num t.line t.kids = t := by cases t; rfl
/-- A tree by value: its five cells. -/
abbrev exV (t : Ex.T) (v : Value) : Value := .agg #[.int .i64 t.kind, .string t.text, .int .i64 t.num, .int .i64 t.line, v]
/-- Five cells of a variable of the call's own. -/
def CellsE (w : World) (b : Nat) (t : Ex.T) (v : Value) : Prop := w.cell? ⟨b, 0, none⟩ = some (.int .i64 t.kind) ∧ w.cell? ⟨b, 1, none⟩ = some (.string t.text) ∧ w.cell? ⟨b, 2, none⟩ = some (.int .i64 t.num) ∧ w.cell? ⟨b, 3, none⟩ = some (.int .i64 t.line) ∧ w.cell? ⟨b, 4, none⟩ = some v
theorem CellsE.later {w w' : World} {b : Nat} {t : Ex.T} {v : Value} (h : CellsE w b t v) (hb : Below w.heap.size w w') : CellsE w' b t v :=
  ⟨subw_below hb _ _ _ h.1, subw_below hb _ _ _ h.2.1, subw_below hb _ _ _ h.2.2.1, subw_below hb _ _ _ h.2.2.2.1, subw_below hb _ _ _ h.2.2.2.2⟩
theorem CellsE.new (W : World) (t : Ex.T) (v : Value) (T : TypeId) : CellsE (W.alloc (.cells #[.int .i64 t.kind, .string t.text, .int .i64 t.num, .int .i64 t.line, v] T)) W.heap.size t v := by
  refine ⟨?_, ?_, ?_, ?_, ?_⟩ <;> go_simp
theorem Kids.later {w w' : World} {v : Value} {l : List Ex.T} (h : Kids w v l) (hb : Below w.heap.size w w') : Kids w' v l := Kids.mono (subw_below hb) l h
theorem TreeAt.later {w w' : World} {g o : Nat} {t : Ex.T} (h : TreeAt w g o t) (hb : Below w.heap.size w w') : TreeAt w' g o t := TreeAt.mono (subw_below hb) t h
/-- A variable of five cells, that may be written. -/
def FreeE (w : World) (b : Nat) (k : Int) (t : ByteArray) (n l : Int) (v : Value) : Prop := (w.cell? ⟨b, 0, none⟩ = some (.int .i64 k) ∧ w.cell? ⟨b, 1, none⟩ = some (.string t) ∧ w.cell? ⟨b, 2, none⟩ = some (.int .i64 n) ∧ w.cell? ⟨b, 3, none⟩ = some (.int .i64 l) ∧ w.cell? ⟨b, 4, none⟩ = some v)
  ∧ w.frozen? ⟨b, 0, none⟩ = false ∧ w.frozen? ⟨b, 1, none⟩ = false ∧ w.frozen? ⟨b, 2, none⟩ = false ∧ w.frozen? ⟨b, 3, none⟩ = false ∧ w.frozen? ⟨b, 4, none⟩ = false
theorem FreeE.lt {w : World} {b : Nat} {k n l : Int} {t : ByteArray} {v : Value} (h : FreeE w b k t n l v) : b < w.heap.size := World.block_lt_of_cell? w _ h.1.1
theorem FreeE.later {w w' : World} {b : Nat} {k n l : Int} {t : ByteArray} {v : Value} (h : FreeE w b k t n l v) (hb : Below w.heap.size w w') : FreeE w' b k t n l v := by
  have hl := h.lt
  obtain ⟨⟨a0, a1, a2, a3, a4⟩, f0, f1, f2, f3, f4⟩ := h
  exact ⟨⟨subw_below hb _ _ _ a0, subw_below hb _ _ _ a1, subw_below hb _ _ _ a2, subw_below hb _ _ _ a3, subw_below hb _ _ _ a4⟩,
    (hb.frozen (p := ⟨b, 0, none⟩) hl).trans f0, (hb.frozen (p := ⟨b, 1, none⟩) hl).trans f1, (hb.frozen (p := ⟨b, 2, none⟩) hl).trans f2, (hb.frozen (p := ⟨b, 3, none⟩) hl).trans f3, (hb.frozen (p := ⟨b, 4, none⟩) hl).trans f4⟩
theorem FreeE.new (W : World) (k : Int) (t : ByteArray) (n l : Int) (v : Value) (T : TypeId) : FreeE (W.alloc (.cells #[.int .i64 k, .string t, .int .i64 n, .int .i64 l, v] T)) W.heap.size k t n l v := by
  refine ⟨⟨?_, ?_, ?_, ?_, ?_⟩, ?_, ?_, ?_, ?_, ?_⟩ <;> go_simp
end Go.Proofs.YtckjmmapekaapaaGreatDoor
/- The laws' measure of a tree. No conditions. -/
namespace Go.Proofs.YtckjmmapekaapaaGreatDoor
open Go.RowKit
set_option linter.unusedVariables false

/-- What is left of a number of bytes and kids. -/
def szR (left b : Nat) : Int := if b ≤ left then ((left - b : Nat) : Int) else -1
def SzT (t : Ex.T) : Prop := t.Ok → ∀ (w : World) (v : Value) (left : Nat), Kids w v t.kids → (left : Int) ≤ 1048576 → Calls Tryz.prog 66 #[exV t v, .int .i64 (left : Int)] w fun e w' => e = .returned (.int .i64 (szR left t.bulk)) ∧ Below w.heap.size w w'
theorem szR_yes {left b : Nat} (h : b ≤ left) : szR left b = ((left - b : Nat) : Int) := if_pos h
theorem szR_no {left b : Nat} (h : ¬ b ≤ left) : szR left b = -1 := if_neg h
/-- Where the measure of a list stands. -/
def SzAt (ks : List Ex.T) (left k m : Nat) : Prop := m + (ks.length + Ex.bulks (ks.take k)) = left
theorem SzAt.start {ks : List Ex.T} {left : Nat} (h : ks.length ≤ left) : SzAt ks left 0 (left - ks.length) := by unfold SzAt; simp [Ex.bulks]; omega
theorem SzAt.next {ks : List Ex.T} {left k m : Nat} (h : SzAt ks left k m) (hk : k < ks.length) (hb : ks[k].bulk ≤ m) : SzAt ks left (k + 1) (m - ks[k].bulk) := by
  unfold SzAt at h ⊢
  rw [Ex.bulks_take ks k hk]; omega
theorem SzAt.bad {ks : List Ex.T} {left k m : Nat} (h : SzAt ks left k m) (hk : k < ks.length) (hb : ¬ ks[k].bulk ≤ m) : szR left (ks.length + Ex.bulks ks) = -1 := by
  unfold SzAt at h
  have h2 := Ex.bulks_take ks k hk
  have h3 := Ex.bulks_take_le ks (k + 1)
  exact szR_no (by omega)
theorem SzAt.over {ks : List Ex.T} {left m : Nat} (h : SzAt ks left ks.length m) : szR left (ks.length + Ex.bulks ks) = (m : Int) := by
  unfold SzAt at h
  rw [List.take_length] at h
  rw [szR_yes (by omega)]; congr 1; omega
theorem ret_ei {a b : Int} (h : b = a) : Ending.returned (.int .i64 a) = .returned (.int .i64 b) := by rw [h]

set_option maxHeartbeats 800000 in
theorem sz_list (ks : List Ex.T) (hI : ∀ x ∈ ks, SzT x) (hok : Ex.Oks ks) (hl : ks.length ≤ 9223372036854775807) (w : World) (v : Value) (left : Nat) (hk : Kids w v ks) (hs : (left : Int) ≤ 1048576) :
    Calls Tryz.prog 89 #[v, .int .i64 (left : Int)] w fun e w' => e = .returned (.int .i64 (szR left (ks.length + Ex.bulks ks))) ∧ Below w.heap.size w w' := by
  obtain ⟨a, c, rfl⟩ := kids_len hk
  have HK := Lib.hid hk
  have HI := Lib.hid hI
  have HOK := Lib.hid hok
  clear hk hI hok
  by_cases h0 : ks.length ≤ left
  · have HST := Lib.hid (SzAt.start h0)
    have e0 : ((left : Int) - ks.length) = ((left - ks.length : Nat) : Int) := by omega
    have HR0 : Hid (0 ≤ (left : Int) - ks.length) := Lib.hid (by omega)
    have hr0 := HR0.out
    go_enter Tryz.func89, Tryz.ntmps89
    go_wp2
    go_loopw [1, 5] (fun m i wr => ∃ k n : Nat, i = .int .i64 k ∧ m = .int .i64 n ∧ k ≤ ks.length ∧ n ≤ left ∧ SzAt ks left k n ∧ Below w.heap.size w wr) (fun _ i _ => ks.length - (intOf i).toNat)
    case atStart => exact ⟨0, left - ks.length, rfl, by rw [← e0], by omega, by omega, HST.out, Below.refl _ _⟩
    case round =>
      clear HST e0 HR0 hr0
      obtain ⟨k, n, rfl, rfl, hk, hn, hat, hb⟩ := hrel
      have HAT := Lib.hid hat
      have HB := Lib.hid hb
      have HK2 := Lib.hid (HK.out.later hb)
      clear hat hb
      by_cases hlt : k < ks.length
      · obtain ⟨g, o, rfl, ht⟩ := kids_at HK2.out k hlt
        obtain ⟨⟨q0, q1, q2, q3⟩, v, q4, hkv⟩ := tree_cells ht
        have HC := Lib.hid (HI.out ks[k] (List.getElem_mem hlt) (Ex.oks_mem HOK.out (List.getElem_mem hlt)) wr v n hkv (by omega))
        have k0 : (0 : Int) ≤ k := by omega
        have k1 : (k : Int) < ks.length := by omega
        by_cases hbk : ks[k].bulk ≤ n
        · have HN := Lib.hid (HAT.out.next hlt hbk)
          have hle : n - ks[k].bulk ≤ left := by omega
          rw [szR_yes hbk] at HC
          generalize n - ks[k].bulk = n2 at HC HN hle
          clear hbk ht hkv HAT
          generalize ks[k] = x at q0 q1 q2 q3 HC
          go_wp2_with (go_at_call 66; refine HC.out.mono ?_; rintro e w1 ⟨rfl, hb1⟩; have HB1 := Lib.hid (below_then HB.out hb1); clear hb1)
          go_roundw
          case rel => exact ⟨k + 1, n2, by go_num, rfl, by omega, hle, HN.out, HB1.out⟩
          case measure => first | (simp [intOf]; done) | (simp [intOf]; omega)
        · have HN := Lib.hid (HAT.out.bad hlt hbk)
          rw [szR_no hbk] at HC
          clear hbk ht hkv HAT
          generalize ks[k] = x at q0 q1 q2 q3 HC
          go_wp2_with (go_at_call 66; refine HC.out.mono ?_; rintro e w1 ⟨rfl, hb1⟩; have HB1 := Lib.hid (below_then HB.out hb1); clear hb1)
          go_ret
          exact ⟨ret_ei HN.out, HB1.out⟩
      · obtain rfl : k = ks.length := by omega
        have HN := Lib.hid HAT.out.over
        go_wp2
        go_ret
        exact ⟨ret_ei HN.out, HB.out⟩
  · have HN := Lib.hid (szR_no (left := left) (b := ks.length + Ex.bulks ks) (by omega))
    have hlt0 : (left : Int) - ks.length < 0 := by omega
    go_enter Tryz.func89, Tryz.ntmps89
    go_wp2
    go_ret
    exact ⟨ret_ei HN.out, Below.refl _ _⟩
theorem bulk_eq (t : Ex.T) : t.bulk = t.text.size + (t.kids.length + Ex.bulks t.kids) := by cases t; rw [Ex.T.bulk]; rfl
theorem szR_part {left a b : Nat} (h : a ≤ left) : szR left (a + b) = szR (left - a) b := by
  unfold szR
  by_cases h2 : b ≤ left - a
  · rw [if_pos h2, if_pos (by omega)]; congr 1; omega
  · rw [if_neg h2, if_neg (by omega)]
theorem szR_cases (left b : Nat) : (0 ≤ szR left b ∧ szR left b ≤ left) ∨ szR left b = -1 := by
  unfold szR; split
  · left; omega
  · exact .inr rfl
theorem kids_count {t x : Ex.T} (h : x ∈ t.kids) : x.count < t.count := by
  cases t with
  | node k s n l ks =>
    rw [Ex.T.count]
    have := Ex.counts_mem (l := ks) h
    omega
set_option maxHeartbeats 800000 in
theorem sz_tree : ∀ (N : Nat) (t : Ex.T), t.count ≤ N → SzT t := by
  intro N
  induction N with
  | zero => intro t h; have := Ex.count_pos t; omega
  | succ N ih =>
    intro t hN hok w v left hk hs
    obtain ⟨ht1, hl1, hoks⟩ := Ex.ok_node hok
    have HL := Lib.hid (fun (m : Nat) (hm : (m : Int) ≤ 1048576) W hb => sz_list t.kids (fun x hx => ih x (by have := kids_count hx; omega)) hoks hl1 W v m (hk.later hb) hm)
    have HB := Lib.hid (bulk_eq t)
    clear ih hN hok hoks hl1
    by_cases h0 : t.text.size ≤ left
    · have HP := Lib.hid (szR_part (b := t.kids.length + Ex.bulks t.kids) h0)
      have HC := Lib.hid (szR_cases (left - t.text.size) (t.kids.length + Ex.bulks t.kids))
      have HL1 := Lib.hid (HL.out (left - t.text.size) (by omega) _ (bl1 w (.cells #[.int .i64 t.kind, .string t.text, .int .i64 t.num, .int .i64 t.line, v] 81)))
      have e0 : ((left : Int) - t.text.size) = ((left - t.text.size : Nat) : Int) := by omega
      have hr0 : 0 ≤ (left : Int) - t.text.size := by omega
      generalize szR (left - t.text.size) (t.kids.length + Ex.bulks t.kids) = r at HP HC HL1
      clear hk HL
      rcases HC.out with hc | hc
      · obtain ⟨hc1, hc2⟩ := hc
        go_enter Tryz.func66, Tryz.ntmps66
        go_wp2_with (go_at_call 89; refine HL1.out.mono ?_; rintro e w1 ⟨rfl, hb1⟩; have HB1 := Lib.hid (below_then (bl1 _ _) hb1); clear hb1)
        go_ret
        exact ⟨ret_ei (by rw [HB.out, HP.out]), HB1.out⟩
      · subst hc
        go_enter Tryz.func66, Tryz.ntmps66
        go_wp2_with (go_at_call 89; refine HL1.out.mono ?_; rintro e w1 ⟨rfl, hb1⟩; have HB1 := Lib.hid (below_then (bl1 _ _) hb1); clear hb1)
        go_ret
        exact ⟨ret_ei (by rw [HB.out, HP.out]), HB1.out⟩
    · have HN := Lib.hid (szR_no (left := left) (b := t.text.size + (t.kids.length + Ex.bulks t.kids)) (by omega))
      have hlt0 : (left : Int) - t.text.size < 0 := by omega
      clear HL hk
      go_enter Tryz.func66, Tryz.ntmps66
      go_wp2
      go_ret
      exact ⟨ret_ei (by rw [HB.out, HN.out]), bl1 _ _⟩
end Go.Proofs.YtckjmmapekaapaaGreatDoor
