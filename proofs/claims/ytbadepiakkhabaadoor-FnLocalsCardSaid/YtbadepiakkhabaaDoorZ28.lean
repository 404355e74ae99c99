/- Joined texts: V34. No conditions besides those that each states. -/
import Derived.StillTailTactics
import Derived.BigQuiet
import Derived.Deep.RegionHeld3
import Derived.Test.YtbadepiakkhabaaDoorZ26
import Derived.Test.YtbadepiakkhabaaDoorZ27
/- The reference model's faults of a body: words. No conditions. -/
namespace Go.Proofs.YtbadepiakkhabaaDoor
open Go.RowKit
set_option linter.unusedVariables false

theorem wlk_eq (u : Un) (L : List ByteArray) (t : Ex.T) (loop made : Bool) : wlk u L t loop made = if flt u L t.kind t.text loop made == 0 then wlks u L t.kind t.kids 0 loop (made || t.kind == 26) else (flt u L t.kind t.text loop made, t.line) := by cases t; rw [wlk]; rfl
theorem wlk_stop {u : Un} {L : List ByteArray} {t : Ex.T} {loop made : Bool} {n : Int} (h : flt u L t.kind t.text loop made = n) (hn : n ≠ 0) : wlk u L t loop made = (n, t.line) := by
  rw [wlk_eq, h, if_neg (by simp [hn])]
theorem wlk_go {u : Un} {L : List ByteArray} {t : Ex.T} {loop made : Bool} (h : flt u L t.kind t.text loop made = 0) : wlk u L t loop made = wlks u L t.kind t.kids 0 loop (made || t.kind == 26) := by
  rw [wlk_eq, h]; rfl
/-- Where the walk of the kids stands. -/
def WkAt (u : Un) (L : List ByteArray) (t : Ex.T) (loop made : Bool) (k : Nat) : Prop := wlk u L t loop made = wlks u L t.kind (t.kids.drop k) k loop (made || t.kind == 26)
theorem WkAt.next {u : Un} {L : List ByteArray} {t : Ex.T} {loop made : Bool} {k : Nat} (h : WkAt u L t loop made k) (hk : k < t.kids.length) (hz : (wlk u L t.kids[k] (kidL t.kind loop k) (made || t.kind == 26)).1 = 0) : WkAt u L t loop made (k + 1) := by
  unfold WkAt at h ⊢
  rw [h, List.drop_eq_getElem_cons hk, wlks, hz]; rfl
theorem WkAt.no {u : Un} {L : List ByteArray} {t : Ex.T} {loop made : Bool} {k : Nat} (h : WkAt u L t loop made k) (hk : k < t.kids.length) (hz : (wlk u L t.kids[k] (kidL t.kind loop k) (made || t.kind == 26)).1 ≠ 0) : wlk u L t loop made = wlk u L t.kids[k] (kidL t.kind loop k) (made || t.kind == 26) := by
  unfold WkAt at h
  rw [h, List.drop_eq_getElem_cons hk, wlks, if_neg (by simp [hz])]
theorem WkAt.over {u : Un} {L : List ByteArray} {t : Ex.T} {loop made : Bool} (h : WkAt u L t loop made t.kids.length) : wlk u L t loop made = (0, 0) := by
  unfold WkAt at h
  rw [h, List.drop_length, wlks]
theorem kidL_lp {k : Int} (h1 : 16 ≤ k) (h2 : k ≤ 18) (loop : Bool) (i : Nat) : kidL k loop i = (i == 1) := by
  unfold kidL
  rw [if_pos (by rcases (show k = 16 ∨ k = 17 ∨ k = 18 by omega) with h | h | h <;> simp [h])]
theorem kidL_rep {k : Int} (h : k = 19) (loop : Bool) (i : Nat) : kidL k loop i = true := by subst h; rfl
theorem kidL_off {k : Int} (h : k = 24 ∨ k = 26) (loop : Bool) (i : Nat) : kidL k loop i = false := by rcases h with h | h <;> subst h <;> rfl
theorem kidL_same {k : Int} (h : k < 16 ∨ 19 < k) (h4 : k ≠ 24) (h6 : k ≠ 26) (loop : Bool) (i : Nat) : kidL k loop i = loop := by
  unfold kidL
  rw [if_neg (by simp; omega), if_neg (by simp; omega), if_neg (by simp; omega)]
theorem flt_zero {u : Un} {L : List ByteArray} {k : Int} {s : ByteArray} {loop made : Bool} (h1 : (k = 24 ∨ k = 25) → loop = true) (h2 : (k = 21 ∨ k = 22 ∨ k = 23) → made = false) (h3 : k = 13 → (u.recs.any fun r => (fx r.fields s).isSome) = true) (h4 : k = 28 → (fx L s).isNone = true → (outer u s).1 = 2) : flt u L k s loop made = 0 := by
  unfold flt
  rw [if_neg, if_neg, if_neg]
  · intro h
    simp only [Bool.and_eq_true, beq_iff_eq, Bool.not_eq_true', beq_eq_false_iff_ne] at h
    exact h.2.2 (h4 h.1 h.2.1)
  · intro h
    simp only [Bool.and_eq_true, beq_iff_eq, Bool.not_eq_true'] at h
    rw [h3 h.1] at h
    exact absurd h.2 (by decide)
  · intro h
    simp only [Bool.or_eq_true, Bool.and_eq_true, beq_iff_eq, Bool.not_eq_true'] at h
    rcases h with ⟨h, e⟩ | ⟨h, e⟩
    · rw [h1 h] at e; cases e
    · rw [h2 (by omega)] at e; cases e
theorem flt_loop {u : Un} {L : List ByteArray} {k : Int} {s : ByteArray} {made : Bool} (h : k = 24 ∨ k = 25) : flt u L k s false made = 4 := by
  unfold flt; rw [if_pos (by rcases h with h | h <;> simp [h])]
theorem flt_made {u : Un} {L : List ByteArray} {k : Int} {s : ByteArray} {loop : Bool} (h : k = 21 ∨ k = 22 ∨ k = 23) : flt u L k s loop true = 4 := by
  unfold flt; rw [if_pos (by rcases h with h | h | h <;> simp [h])]
theorem flt_field {u : Un} {L : List ByteArray} {k : Int} {s : ByteArray} {loop made : Bool} (h : k = 13) (hn : (u.recs.any fun r => (fx r.fields s).isSome) = false) : flt u L k s loop made = 5 := by
  subst h
  unfold flt
  rw [if_neg (by simp), if_pos (by rw [hn]; rfl)]
theorem flt_defer {u : Un} {L : List ByteArray} {k : Int} {s : ByteArray} {loop made : Bool} (h : k = 28) (h1 : fx L s = none) (h2 : (outer u s).1 ≠ 2) : flt u L k s loop made = 6 := by
  subst h
  unfold flt
  rw [if_neg (by simp), if_neg (by simp), if_pos (by rw [h1]; simp [h2])]
/-- A load that is not wanted in a create. -/
def opK : Oper := { dst := some 140, op := Op.load 3 (.tmp 139), type := 3, pos := "l09_scopes.go:117", after := #[{ on := 10, ground := .data }, { on := 9, ground := .guard }], guard := some (9, false) }
def opJ : Oper := { dst := some 139, op := Op.fieldAddr 105 (.tmp 7) 0, type := 0, pos := "l09_scopes.go:117", after := #[{ on := 9, ground := .guard }], guard := some (9, false) }
def opL : Oper := { dst := some 141, op := Op.binOp BinOp.eql 3 (.tmp 140) (.const (.int .i64 26)) 3, type := 4, pos := "l09_scopes.go:117", after := #[{ on := 11, ground := .data }, { on := 9, ground := .guard }], guard := some (9, false) }
/-- A truth value that is known. -/
def IsT (b : Bool) : Prop := b = b
def WlkT (u : Un) (w0 : World) (v1 v2 v3 vl : Value) (L : List ByteArray) (t : Ex.T) : Prop := ∀ (loop made : Bool) (w : World) (x : Value), Kids w0 x t.kids → Below w0.heap.size w0 w →
  Calls Tryd.prog 50 #[unV v1 v2 v3, vl, exV t x, .bool loop, .bool made] w (RetII w (wlk u L t loop made))
theorem find_quiet {v : Value} {l : List ByteArray} {s : ByteArray} {w : World} (h : Is w (strsD l) v) (hl : (l.length : Int) ≤ 1048576) : Calls Tryd.prog 49 #[v, .string s] w fun e w' => e = .returned (.int .i64 (fxI l s)) ∧ w' = w :=
  (spec_find v l s w h hl).mono fun _ _ h => ⟨h.1, h.2.symm⟩
theorem ret_ii2 {p q : Int × Int} (h : q = p) : Ending.returned (.tuple #[.int .i64 p.1, .int .i64 p.2]) = .returned (.tuple #[.int .i64 q.1, .int .i64 q.2]) := by rw [h]
end Go.Proofs.YtbadepiakkhabaaDoor
