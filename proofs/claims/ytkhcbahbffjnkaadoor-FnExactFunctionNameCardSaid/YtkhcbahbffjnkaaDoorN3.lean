/- The program's iterator over the nodes of a tree; its numbers of nodes and depths. No conditions. -/
import Derived.Test.YtkhcbahbffjnkaaDoorN2
import Derived.OneCell
namespace Go.Proofs.YtkhcbahbffjnkaaDoor
open Go.RowKit Go.Shelf
set_option linter.unusedVariables false
attribute [local go_sem] Oper.semAt_some

theorem nodes_of (F : Fence) (n : Nat) (hF : F.fn 55) (hro : F.round = none) (p : Option Addr) (w : World) :
    CallsIn F n Tryd.prog 55 #[.pointer p] w fun e w' => e = .returned (.func (.func 78) #[] #[.pointer (some ⟨w.heap.size, 0, none⟩)]) ∧ w' = w.alloc (.cells #[.pointer p] 99) := by
  refine callsIn_of_wp Tryd.func55 rfl hF ?_ hro
  simp only [Tryd.ntmps55, List.size_toArray, List.length_cons, List.length_nil, Nat.reduceAdd, Nat.reduceSub, Array.replicate_succ, Array.replicate_zero, List.push_toArray, List.append_toArray, List.nil_append, List.cons_append]
  gi_wp2
  go_ret
  exact ⟨rfl, rfl⟩
set_option maxHeartbeats 1000000 in
theorem nodes_stop (F : Fence) (hd : F.depth = none) (n : Nat) (h1 : F.fn 78) (h2 : F.fn 79) (hro : F.round = none) (w0 : World) (g o Bt : Nat) (t : Ex.T) (w : World) (hBt : Bt < w.heap.size) (hw : Below w0.heap.size w0 w)
    (hc : w.cell? ⟨Bt, 0, none⟩ = some (.pointer (some ⟨g, o, none⟩))) (ht : TreeAt w0 g o t) (hb : t.bulk ≤ 1048576) :
    SeqStopsK F n Tryd.prog 78 #[.pointer (some ⟨Bt, 0, none⟩)] (fun x : Nd w0 => ndV x) (Below w0.heap.size) (fun ys => ys.map Nd.dat = t.pre 1) (fun pre => pre.map Nd.dat <+: t.pre 1) t.count w := by
  intro l J Jx W hW _ _ hY h0
  have hdk : ∀ k : Nat, (F.depth.isSome = true → 1 ≤ k) := fun k h => by rw [hd] at h; cases h
  have hds := small_deep hb
  have hp := visit_tree F hd h2 hro l w0 t.count J Jx (fun m pre x W hj hl => YieldAt.any hd m (hY pre x W hj hl)) t.count t (Nat.le_refl _) (n - 1) g o 1 [] W hb (by omega) ht (hw.trans (hW.mono hw.size)) h0 (by simp)
  have hc2 := (hW.cell (p := ⟨Bt, 0, none⟩) hBt).trans hc
  refine callsIn_of_wp Tryd.func78 rfl h1 ?_ hro
  simp only [Tryd.ntmps78, List.size_toArray, List.length_cons, List.length_nil, Nat.reduceAdd, Nat.reduceSub, Array.replicate_succ, Array.replicate_zero, List.push_toArray, List.append_toArray, List.nil_append, List.cons_append]
  clear hY
  gi_wp2
  refine hp.mono ?_
  clear hp
  rintro e W1 (⟨rfl, ⟨q, hq, hJ⟩, _⟩ | ⟨rfl, q, hq, hx⟩)
  · gi_wp2
    go_end0
    exact ⟨⟨_, rfl⟩, .inl ⟨q, hq, hJ⟩⟩
  · gi_wp2
    go_end0
    exact ⟨⟨_, rfl⟩, .inr ⟨q, hq, hx⟩⟩

theorem cell_one (W : World) (v : Value) (t : TypeId) : (W.alloc (.cells #[v] t)).cell? ⟨W.heap.size, 0, none⟩ = some v ∧ (W.alloc (.cells #[v] t)).frozen? ⟨W.heap.size, 0, none⟩ = false :=
  ⟨cell_of_one (World.alloc_heap_new W _), free_of_one (World.alloc_heap_new W _)⟩
theorem cell_alloc {W : World} {a : Addr} {v : Value} (o : Obj) (h : W.cell? a = some v) : (W.alloc o).cell? a = some v := cell_kept h (World.grownBy_alloc W o none) (fun r e => by cases e)
theorem frozen_alloc {W : World} {a : Addr} {v : Value} (o : Obj) (h : W.cell? a = some v) (hf : W.frozen? a = false) : (W.alloc o).frozen? a = false := (frozen_kept h (World.grownBy_alloc W o none) (fun r e => by cases e)).trans hf
/-- A tree that is a variable of the call's own. -/
theorem box_tree {w : World} {t : Ex.T} {v : Value} (hk : Kids w v t.kids) : TreeAt (w.alloc (.cells #[.int .i64 t.kind, .string t.text, .int .i64 t.num, .int .i64 t.line, v] 62)) w.heap.size 0 t := by
  obtain ⟨a0, a1, a2, a3, a4⟩ := CellsE.new w t v 62
  exact tree_of ⟨a0, a1, a2, a3⟩ a4 (hk.later (bl1 _ _))
/-- The greatest depth among what has come. -/
def maxD (l : List (Ex.T × Nat)) : Nat := l.foldl (fun m x => max m x.2) 0
theorem maxD_snoc (l : List (Ex.T × Nat)) (x : Ex.T × Nat) : maxD (l ++ [x]) = max (maxD l) x.2 := by simp [maxD]
theorem foldl_max (l : List (Ex.T × Nat)) (m : Nat) : l.foldl (fun m x => max m x.2) m = max m (maxD l) := by
  unfold maxD
  induction l generalizing m with
  | nil => simp
  | cons x r ih => rw [List.foldl_cons, List.foldl_cons, ih, ih (max 0 x.2)]; omega
theorem maxD_app (a b : List (Ex.T × Nat)) : maxD (a ++ b) = max (maxD a) (maxD b) := by
  conv => lhs; unfold maxD
  rw [List.foldl_append, foldl_max]; rfl
mutual
theorem maxD_pre : ∀ (t : Ex.T) (d : Nat), maxD (t.pre d) + 1 = d + t.deep
  | .node k t n l ks, d => by
    rw [Ex.T.pre, Ex.T.deep]
    have h := maxD_pres ks (d + 1)
    rw [show ((Ex.T.node k t n l ks, d) :: Ex.pres ks (d + 1)) = [(Ex.T.node k t n l ks, d)] ++ Ex.pres ks (d + 1) from rfl, maxD_app]
    have e : maxD [(Ex.T.node k t n l ks, d)] = d := by simp [maxD]
    rw [e]
    rcases h with ⟨h1, h2⟩ | h
    · rw [h1, h2]; simp [maxD]
    · omega
theorem maxD_pres : ∀ (l : List Ex.T) (d : Nat), (Ex.deeps l = 0 ∧ Ex.pres l d = []) ∨ (maxD (Ex.pres l d) + 1 = d + Ex.deeps l ∧ 1 ≤ Ex.deeps l)
  | [], d => .inl ⟨by rw [Ex.deeps], by rw [Ex.pres]⟩
  | x :: r, d => by
    right
    rw [Ex.pres, Ex.deeps, maxD_app]
    have h1 := maxD_pre x d
    have h3 := Ex.deep_pos x
    have h0 : maxD [] = 0 := rfl
    rcases maxD_pres r d with ⟨h, h2⟩ | h
    · rw [h2, h]; omega
    · omega
end
end Go.Proofs.YtkhcbahbffjnkaaDoor
