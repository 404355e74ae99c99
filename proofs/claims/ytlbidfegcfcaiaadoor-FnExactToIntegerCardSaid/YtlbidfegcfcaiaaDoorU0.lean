/- Variables in memory: their cells, that may be written. No conditions. -/
import Derived.Test.YtlbidfegcfcaiaaDoorProg
import Derived.WalkKit
import Derived.ProofKit
import Derived.WalkLawsBesides
import Derived.WalkSpells
import Derived.RangeFuncRecord
import Derived.Below
import Derived.Lib.Hide
namespace Go.Proofs.YtlbidfegcfcaiaaDoor
open Go.RowKit
set_option linter.unusedVariables false

theorem cell_keep {w w' : World} {b : Nat} (h : w'.heap[b]? = w.heap[b]?) (o : Nat) : w'.cell? ⟨b, o, none⟩ = w.cell? ⟨b, o, none⟩ := World.cell?_of_block (a := ⟨b, o, none⟩) h
theorem frozen_keep {w w' : World} {b : Nat} (h : w'.heap[b]? = w.heap[b]?) (o : Nat) : w'.frozen? ⟨b, o, none⟩ = w.frozen? ⟨b, o, none⟩ := World.frozen?_of_block (a := ⟨b, o, none⟩) h
/-- A variable's cells, that may be written. -/
def Var (w : World) (b : Nat) (us : List Value) : Prop := ∀ j u, us[j]? = some u → w.cell? ⟨b, j, none⟩ = some u ∧ w.frozen? ⟨b, j, none⟩ = false
theorem Var.keep {w w' : World} {b : Nat} {us : List Value} (h : Var w b us) (hb : w'.heap[b]? = w.heap[b]?) : Var w' b us := fun j u hj => ⟨(cell_keep hb j).trans (h j u hj).1, (frozen_keep hb j).trans (h j u hj).2⟩
theorem Var.lt {w : World} {b : Nat} {u : Value} {us : List Value} (h : Var w b (u :: us)) : b < w.heap.size := World.block_lt_of_cell? w _ (h 0 u rfl).1
theorem Var.later {w w' : World} {b : Nat} {us : List Value} (h : Var w b us) (hb : Below w.heap.size w w') : Var w' b us := fun j u hj => by
  have hl : b < w.heap.size := World.block_lt_of_cell? w _ (h j u hj).1
  exact (h.keep (hb.block b hl)) j u hj
theorem Var.new (W : World) (A : Array Value) (T : TypeId) : Var (W.alloc (.cells A T)) W.heap.size A.toList := by
  intro j u hj
  have hj2 : A[j]? = some u := by rw [← Array.getElem?_toList]; exact hj
  have hb := World.alloc_heap_new W (.cells A T)
  constructor
  · simp only [World.cell?, hb]
    simp [hj2]
  · simp only [World.frozen?, hb]
    simp
theorem Var.set {w : World} {b : Nat} {us : List Value} (h : Var w b us) (j : Nat) (u : Value) : Var (w.setCell ⟨b, j, none⟩ u) b (us.set j u) := by
  intro i x hi
  rw [List.getElem?_set] at hi
  rw [World.frozen?_setCell]
  split at hi
  · rename_i e
    subst e
    split at hi
    · rename_i hlt
      obtain rfl := Option.some.inj hi
      obtain ⟨hc, hf⟩ := h j _ (List.getElem?_eq_getElem hlt)
      refine ⟨?_, hf⟩
      go_simp
    · cases hi
  · rename_i e
    obtain ⟨hc, hf⟩ := h i x hi
    refine ⟨?_, hf⟩
    have hne : ¬ i = j := fun h => e h.symm
    rw [← hc]
    go_simp
theorem Var.oth {w : World} {b : Nat} {us : List Value} (h : Var w b us) (c j : Nat) (hc : b ≠ c) (u : Value) : Var (w.setCell ⟨c, j, none⟩ u) b us := h.keep (Below.heap_setCell w ⟨c, j, none⟩ u b hc)
end Go.Proofs.YtlbidfegcfcaiaaDoor
