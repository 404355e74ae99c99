/- Expression trees in memory. No conditions. -/
import Derived.Test.YtpncmahpcccmlaaDoorG1
import Derived.Test.YtpncmahpcccmlaaDoorT1
import Derived.Test.YtpncmahpcccmlaaDoorB0
namespace Go.Proofs.YtpncmahpcccmlaaDoor
open Go.RowKit
set_option linter.unusedVariables false

mutual
/-- Where a tree's five cells lie, and all below them. -/
def TreeAt (w : World) (g : Nat) : Nat → Ex.T → Prop
  | o, .node k t n l ks => (w.cell? ⟨g, o, none⟩ = some (.int .i64 k) ∧ w.cell? ⟨g, o + 1, none⟩ = some (.string t) ∧ w.cell? ⟨g, o + 2, none⟩ = some (.int .i64 n) ∧ w.cell? ⟨g, o + 3, none⟩ = some (.int .i64 l)) ∧ ∃ v, w.cell? ⟨g, o + 4, none⟩ = some v ∧ Kids w v ks
/-- A list of kids. -/
def Kids (w : World) : Value → List Ex.T → Prop
  | v, [] => ∃ a c, v = .slice a 0 c
  | v, x :: r => ∃ g o c, v = .slice (some ⟨g, o, none⟩) (r.length + 1) c ∧ r.length + 1 ≤ c ∧ TreeAt w g o x ∧ RowAt w g (o + 5) r
/-- Trees in a row. -/
def RowAt (w : World) (g : Nat) : Nat → List Ex.T → Prop
  | _, [] => True
  | o, x :: r => TreeAt w g o x ∧ RowAt w g (o + 5) r
end
/-- What the first world holds the second holds too. -/
def Subw (w w' : World) : Prop := ∀ b o v, w.cell? ⟨b, o, none⟩ = some v → w'.cell? ⟨b, o, none⟩ = some v
theorem subw_below {w w' : World} (h : Below w.heap.size w w') : Subw w w' := fun b o v hc => (h.cell (p := ⟨b, o, none⟩) (World.block_lt_of_cell? w _ hc)).trans hc
mutual
theorem TreeAt.mono {w w' : World} (h : Subw w w') : ∀ {g o : Nat} (t : Ex.T), TreeAt w g o t → TreeAt w' g o t
  | g, o, .node k t n l ks, hx => by
    rw [TreeAt] at hx ⊢
    obtain ⟨⟨a, b, c, d⟩, v, hv, hk⟩ := hx
    exact ⟨⟨h _ _ _ a, h _ _ _ b, h _ _ _ c, h _ _ _ d⟩, v, h _ _ _ hv, Kids.mono h ks hk⟩
theorem Kids.mono {w w' : World} (h : Subw w w') : ∀ {v : Value} (l : List Ex.T), Kids w v l → Kids w' v l
  | v, [], hx => by rw [Kids] at hx ⊢; exact hx
  | v, x :: r, hx => by
    rw [Kids] at hx ⊢
    obtain ⟨g, o, c, e, hcp, hx, hr⟩ := hx
    exact ⟨g, o, c, e, hcp, TreeAt.mono h x hx, RowAt.mono h r hr⟩
theorem RowAt.mono {w w' : World} (h : Subw w w') : ∀ {g o : Nat} (l : List Ex.T), RowAt w g o l → RowAt w' g o l
  | g, o, [], hx => by rw [RowAt]; trivial
  | g, o, x :: r, hx => by
    rw [RowAt] at hx ⊢
    exact ⟨TreeAt.mono h x hx.1, RowAt.mono h r hx.2⟩
end
theorem row_at {w : World} {g : Nat} : ∀ {l : List Ex.T} {o : Nat}, RowAt w g o l → ∀ (i : Nat) (h : i < l.length), TreeAt w g (o + i * 5) l[i] := by
  intro l
  induction l with
  | nil => intro o _ i h; simp at h
  | cons x r ih =>
    intro o hr i h
    rw [RowAt] at hr
    match i with
    | 0 => simpa using hr.1
    | i + 1 =>
      have h2 := ih hr.2 i (by simpa using h)
      have e : o + 5 + i * 5 = o + (i + 1) * 5 := by omega
      rw [e] at h2; simpa using h2
theorem row_of {w : World} {g : Nat} : ∀ {l : List Ex.T} {o : Nat}, (∀ (i : Nat) (h : i < l.length), TreeAt w g (o + i * 5) l[i]) → RowAt w g o l := by
  intro l
  induction l with
  | nil => intro o _; rw [RowAt]; trivial
  | cons x r ih =>
    intro o hr
    rw [RowAt]
    have h0 := hr 0 (by simp)
    rw [Nat.zero_mul, Nat.add_zero] at h0
    refine ⟨h0, ih fun i h => ?_⟩
    have h2 := hr (i + 1) (by simpa using h)
    have e : o + (i + 1) * 5 = o + 5 + i * 5 := by omega
    rw [e] at h2; simpa using h2
theorem kids_len {w : World} {v : Value} {l : List Ex.T} (h : Kids w v l) : ∃ a c, v = .slice a l.length c := by
  cases l with
  | nil => rw [Kids] at h; exact h
  | cons x r => rw [Kids] at h; obtain ⟨g, o, c, e, _⟩ := h; exact ⟨_, c, e⟩
theorem kids_at {w : World} {a : Option Addr} {n c : Nat} {l : List Ex.T} (h : Kids w (.slice a n c) l) (i : Nat) (hi : i < l.length) : ∃ g o, a = some ⟨g, o, none⟩ ∧ TreeAt w g (o + i * 5) l[i] := by
  cases l with
  | nil => simp at hi
  | cons x r =>
    rw [Kids] at h
    obtain ⟨g, o, c2, e, _, hx, hr⟩ := h
    injection e with e1 e2 e3
    exact ⟨g, o, e1, row_at (l := x :: r) (by rw [RowAt]; exact ⟨hx, hr⟩) i hi⟩
theorem kids_of {w : World} {g o c : Nat} {l : List Ex.T} (hcp : l.length ≤ c) (h : ∀ (i : Nat) (hi : i < l.length), TreeAt w g (o + i * 5) l[i]) : Kids w (.slice (some ⟨g, o, none⟩) l.length c) l := by
  cases l with
  | nil => rw [Kids]; exact ⟨_, _, rfl⟩
  | cons x r =>
    have h2 := row_of h
    rw [RowAt] at h2
    rw [Kids]; exact ⟨g, o, c, rfl, hcp, h2.1, h2.2⟩
/-- A list's capacity. -/
theorem kids_cap {w : World} {a : Option Addr} {n c : Nat} {l : List Ex.T} (h : Kids w (.slice a n c) l) (hl : l ≠ []) : n ≤ c := by
  cases l with
  | nil => exact absurd rfl hl
  | cons x r =>
    rw [Kids] at h
    obtain ⟨g, o, c2, e, hcp, _⟩ := h
    injection e with e1 e2 e3
    omega
/-- The five cells of a tree at a place. -/
theorem tree_cells {w : World} {g o : Nat} {t : Ex.T} (h : TreeAt w g o t) : (w.cell? ⟨g, o, none⟩ = some (.int .i64 t.kind) ∧ w.cell? ⟨g, o + 1, none⟩ = some (.string t.text) ∧ w.cell? ⟨g, o + 2, none⟩ = some (.int .i64 t.num) ∧ w.cell? ⟨g, o + 3, none⟩ = some (.int .i64 t.line)) ∧ ∃ v, w.cell? ⟨g, o + 4, none⟩ = some v ∧ Kids w v t.kids := by
  cases t; rw [TreeAt] at h; exact h
theorem tree_of {w : World} {g o : Nat} {t : Ex.T} {v : Value} (h : w.cell? ⟨g, o, none⟩ = some (.int .i64 t.kind) ∧ w.cell? ⟨g, o + 1, none⟩ = some (.string t.text) ∧ w.cell? ⟨g, o + 2, none⟩ = some (.int .i64 t.num) ∧ w.cell? ⟨g, o + 3, none⟩ = some (.int .i64 t.line)) (hv : w.cell? ⟨g, o + 4, none⟩ = some v) (hk : Kids w v t.kids) : TreeAt w g o t := by
  cases t; rw [TreeAt]; exact ⟨h, v, hv, hk⟩
theorem node_eta (t : Ex.T) : Ex.T.node t.kind t.text t.num t.line t.kids = t := by cases t; rfl
/-- A tree by value: its five cells. -/
abbrev exV (t : Ex.T) (v : Value) : Value := .agg #[.int .i64 t.kind, .string t.text, .int .i64 t.num, .int .i64 t.line, v]
/-- Five cells of a variable of the call's own. -/
def CellsE (w : World) (b : Nat) (t : Ex.T) (v : Value) : Prop := w.cell? ⟨b, 0, none⟩ = some (.int .i64 t.kind) ∧ w.cell? ⟨b, 1, none⟩ = some (.string t.text) ∧ w.cell? ⟨b, 2, none⟩ = some (.int .i64 t.num) ∧ w.cell? ⟨b, 3, none⟩ = some (.int .i64 t.line) ∧ w.cell? ⟨b, 4, none⟩ = some v
theorem CellsE.later {w w' : World} {b : Nat} {t : Ex.T} {v : Value} (h : CellsE w b t v) (hb : Below w.heap.size w w') : CellsE w' b t v :=
  ⟨subw_below hb _ _ _ h.1, subw_below hb _ _ _ h.2.1, subw_below hb _ _ _ h.2.2.1, subw_below hb _ _ _ h.2.2.2.1, subw_below hb _ _ _ h.2.2.2.2⟩
theorem CellsE.new (W : World) (t : Ex.T) (v : Value) (T : TypeId) : CellsE (W.alloc (.cells #[.int .i64 t.kind, .string t.text, .int .i64 t.num, .int .i64 t.line, v] T)) W.heap.size t v := by
  refine ⟨?_, ?_, ?_, ?_, ?_⟩ <;> go_simp
theorem Kids.later {w w' : World} {v : Value} {l : List Ex.T} (h : Kids w v l) (hb : Below w.heap.size w w') : Kids w' v l := Kids.mono (subw_below hb) l h
theorem TreeAt.later {w w' : World} {g o : Nat} {t : Ex.T} (h : TreeAt w g o t) (hb : Below w.heap.size w w') : TreeAt w' g o t := TreeAt.mono (subw_below hb) t h
/-- A variable of five cells, that may be written. -/
def FreeE (w : World) (b : Nat) (k : Int) (t : ByteArray) (n l : Int) (v : Value) : Prop := (w.cell? ⟨b, 0, none⟩ = some (.int .i64 k) ∧ w.cell? ⟨b, 1, none⟩ = some (.string t) ∧ w.cell? ⟨b, 2, none⟩ = some (.int .i64 n) ∧ w.cell? ⟨b, 3, none⟩ = some (.int .i64 l) ∧ w.cell? ⟨b, 4, none⟩ = some v)
  ∧ w.frozen? ⟨b, 0, none⟩ = false ∧ w.frozen? ⟨b, 1, none⟩ = false ∧ w.frozen? ⟨b, 2, none⟩ = false ∧ w.frozen? ⟨b, 3, none⟩ = false ∧ w.frozen? ⟨b, 4, none⟩ = false
theorem FreeE.lt {w : World} {b : Nat} {k n l : Int} {t : ByteArray} {v : Value} (h : FreeE w b k t n l v) : b < w.heap.size := World.block_lt_of_cell? w _ h.1.1
theorem FreeE.later {w w' : World} {b : Nat} {k n l : Int} {t : ByteArray} {v : Value} (h : FreeE w b k t n l v) (hb : Below w.heap.size w w') : FreeE w' b k t n l v := by
  have hl := h.lt
  obtain ⟨⟨a0, a1, a2, a3, a4⟩, f0, f1, f2, f3, f4⟩ := h
  exact ⟨⟨subw_below hb _ _ _ a0, subw_below hb _ _ _ a1, subw_below hb _ _ _ a2, subw_below hb _ _ _ a3, subw_below hb _ _ _ a4⟩,
    (hb.frozen (p := ⟨b, 0, none⟩) hl).trans f0, (hb.frozen (p := ⟨b, 1, none⟩) hl).trans f1, (hb.frozen (p := ⟨b, 2, none⟩) hl).trans f2, (hb.frozen (p := ⟨b, 3, none⟩) hl).trans f3, (hb.frozen (p := ⟨b, 4, none⟩) hl).trans f4⟩
theorem FreeE.new (W : World) (k : Int) (t : ByteArray) (n l : Int) (v : Value) (T : TypeId) : FreeE (W.alloc (.cells #[.int .i64 k, .string t, .int .i64 n, .int .i64 l, v] T)) W.heap.size k t n l v := by
  refine ⟨⟨?_, ?_, ?_, ?_, ?_⟩, ?_, ?_, ?_, ?_, ?_⟩ <;> go_simp
end Go.Proofs.YtpncmahpcccmlaaDoor
