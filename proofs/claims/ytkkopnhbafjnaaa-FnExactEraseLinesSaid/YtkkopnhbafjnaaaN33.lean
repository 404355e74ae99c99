/- The walk of the law on EraseLines. No conditions. -/
import Derived.Test.YtkkopnhbafjnaaaN32
import Derived.Test.YtkkopnhbafjnaaaN28
import Derived.Test.YtkkopnhbafjnaaaN26
import Derived.Test.YtkkopnhbafjnaaaG6
import Derived.Deep.DeepCutAuto
namespace Go.Proofs.Ytkkopnhbafjnaaa
open Go.RowKit
set_option linter.unusedVariables false

mutual
theorem erase_count : ∀ (t : Ex.T), t.erase.count = t.count
  | .node k s n l ks => by rw [Ex.T.erase, Ex.T.count, Ex.T.count, erases_count ks]
theorem erases_count : ∀ (l : List Ex.T), Ex.counts (Ex.erases l) = Ex.counts l
  | [] => by rw [Ex.erases]
  | x :: r => by rw [Ex.erases, Ex.counts, Ex.counts, erase_count x, erases_count r]
end
theorem erases_len (l : List Ex.T) : (Ex.erases l).length = l.length := by rw [Ex.erases_map, List.length_map]
mutual
theorem erase_bulk : ∀ (t : Ex.T), t.erase.bulk = t.bulk
  | .node k s n l ks => by rw [Ex.T.erase, Ex.T.bulk, Ex.T.bulk, erases_bulk ks, erases_len]
theorem erases_bulk : ∀ (l : List Ex.T), Ex.bulks (Ex.erases l) = Ex.bulks l
  | [] => by rw [Ex.erases]
  | x :: r => by rw [Ex.erases, Ex.bulks, Ex.bulks, erase_bulk x, erases_bulk r]
end
theorem OwnK.later {w w' : World} {v : Value} {l : List Ex.T} {F : List Nat} (h : OwnK w v l F) (hF : ∀ b ∈ F, b < w.heap.size) (hb : Below w.heap.size w w') : OwnK w' v l F := OwnK.keep l (fun b hb2 => hb.block b (hF b hb2)) h
theorem cells_keep {w w' : World} {b : Nat} {t : Ex.T} {v : Value} (h : CellsE w b t v) (hh : w'.heap[b]? = w.heap[b]?) : CellsE w' b t v := CellsE.keep h hh
theorem cells_lt {w : World} {b : Nat} {t : Ex.T} {v : Value} (h : CellsE w b t v) : b < w.heap.size := World.block_lt_of_cell? w _ h.1
/-- What lies in memory while the law runs: the tree that came in, what the model made, what the program made. -/
def EB (w : World) (t te : Ex.T) (A vW vG : Value) (FW FG : List Nat) (b4 b5 b6 : Nat) (kG : List Ex.T) (W : World) : Prop :=
  (CellsE W w.heap.size t A ∧ CellsE W b4 te vW ∧ CellsE W b6 te vG) ∧ (OwnK W vW te.kids FW ∧ OwnK W vG kG FG) ∧ Below w.heap.size w W ∧
  (w.heap.size < b4 ∧ b4 < b5 ∧ b5 < b6 ∧ b6 < W.heap.size) ∧ (∀ b ∈ FW, w.heap.size < b ∧ b < b4) ∧ ∀ b ∈ FG, b5 < b ∧ b < b6
theorem EB.later {w W W' : World} {t te : Ex.T} {A vW vG : Value} {FW FG : List Nat} {b4 b5 b6 : Nat} {kG : List Ex.T} (h : EB w t te A vW vG FW FG b4 b5 b6 kG W) (hb : Below W.heap.size W W') : EB w t te A vW vG FW FG b4 b5 b6 kG W' := by
  obtain ⟨⟨h1, h2, h3⟩, ⟨h4, h5⟩, h6, ⟨h7, h8, h9, h10⟩, h11, h12⟩ := h
  have hs := hb.size
  exact ⟨⟨h1.later hb, h2.later hb, h3.later hb⟩, ⟨h4.later (fun b hbF => by have := h11 b hbF; omega) hb, h5.later (fun b hbF => by have := h12 b hbF; omega) hb⟩, below_then h6 hb, ⟨h7, h8, h9, by omega⟩, h11, h12⟩
theorem EB.only {w W W' : World} {t te : Ex.T} {A vW vG : Value} {FW FG FX : List Nat} {b4 b5 b6 : Nat} {kG : List Ex.T} (h : EB w t te A vW vG FW FG b4 b5 b6 kG W) (hX : ∀ b ∈ FX, b4 < b ∧ b < b5) (hb : OnlyF FX W W') : EB w t te A vW vG FW FG b4 b5 b6 kG W' := by
  obtain ⟨⟨h1, h2, h3⟩, ⟨h4, h5⟩, h6, ⟨h7, h8, h9, h10⟩, h11, h12⟩ := h
  have hs := hb.1.size
  have old : ∀ b, b < W.heap.size → ¬ (b4 < b ∧ b < b5) → W'.heap[b]? = W.heap[b]? := fun b hb1 hb2 => hb.2 b (fun e => hb2 (hX b e)) hb1
  exact ⟨⟨h1.keep (old _ (by omega) (by omega)), h2.keep (old _ (by omega) (by omega)), h3.keep (old _ (by omega) (by omega))⟩, ⟨OwnK.keep _ (fun b hbF => old b (by have := h11 b hbF; omega) (by have := h11 b hbF; omega)) h4, OwnK.keep _ (fun b hbF => old b (by have := h12 b hbF; omega) (by have := h12 b hbF; omega)) h5⟩, h6.trans (hb.below (fun b hbF => by have := hX b hbF; omega) (by have := h6.size; omega)), ⟨h7, h8, h9, by omega⟩, h11, h12⟩
theorem EB.onlyG {w W W' : World} {t te : Ex.T} {A vW vG : Value} {FW FG : List Nat} {b4 b5 b6 : Nat} {kG kH : List Ex.T} (h : EB w t te A vW vG FW FG b4 b5 b6 kG W) (hk : OwnK W' vG kH FG) (hb : OnlyF FG W W') : EB w t te A vW vG FW FG b4 b5 b6 kH W' := by
  obtain ⟨⟨h1, h2, h3⟩, ⟨h4, h5⟩, h6, ⟨h7, h8, h9, h10⟩, h11, h12⟩ := h
  have hs := hb.1.size
  have old : ∀ b, b < W.heap.size → ¬ (b5 < b ∧ b < b6) → W'.heap[b]? = W.heap[b]? := fun b hb1 hb2 => hb.2 b (fun e => hb2 (h12 b e)) hb1
  exact ⟨⟨h1.keep (old _ (by omega) (by omega)), h2.keep (old _ (by omega) (by omega)), h3.keep (old _ (by omega) (by omega))⟩, ⟨OwnK.keep _ (fun b hbF => old b (by have := h11 b hbF; omega) (by have := h11 b hbF; omega)) h4, hk⟩, h6.trans (hb.below (fun b hbF => by have := h12 b hbF; omega) (by have := h6.size; omega)), ⟨h7, h8, h9, by omega⟩, h11, h12⟩
theorem EB.gbound {w W : World} {t te : Ex.T} {A vW vG : Value} {FW FG : List Nat} {b4 b5 b6 : Nat} {kG : List Ex.T} (h : EB w t te A vW vG FW FG b4 b5 b6 kG W) : ∀ b ∈ FG, b < W.heap.size := fun b hb => by have h1 := h.2.2.2.2.2 b hb; have h2 := h.2.2.2.1; omega
end Go.Proofs.Ytkkopnhbafjnaaa
