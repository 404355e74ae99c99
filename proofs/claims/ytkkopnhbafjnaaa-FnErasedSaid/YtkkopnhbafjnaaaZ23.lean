/- Joined texts: N3. No conditions besides those that each states. -/
import Derived.OneCell
import Derived.Test.YtkkopnhbafjnaaaZ21
/- The program's iterator over the nodes of a tree; its numbers of nodes and depths. No conditions. -/
namespace Go.Proofs.Ytkkopnhbafjnaaa
open Go.RowKit Go.Shelf
set_option linter.unusedVariables false
attribute [local go_sem] Oper.semAt_some

theorem nodes_of (F : Fence) (n : Nat) (hF : F.fn 33) (hro : F.round = none) (p : Option Addr) (w : World) :
    CallsIn F n Try.prog 33 #[.pointer p] w fun e w' => e = .returned (.func (.func 53) #[] #[.pointer (some ⟨w.heap.size, 0, none⟩)]) ∧ w' = w.alloc (.cells #[.pointer p] 45) := by
  refine callsIn_of_wp Try.func33 rfl hF ?_ hro
  simp only [Try.ntmps33, List.size_toArray, List.length_cons, List.length_nil, Nat.reduceAdd, Nat.reduceSub, Array.replicate_succ, Array.replicate_zero, List.push_toArray, List.append_toArray, List.nil_append, List.cons_append]
  gi_wp2
  go_ret
  exact ⟨rfl, rfl⟩
set_option maxHeartbeats 1000000 in
theorem nodes_stop (F : Fence) (hd : F.depth = none) (n : Nat) (h1 : F.fn 53) (h2 : F.fn 54) (hro : F.round = none) (w0 : World) (g o Bt : Nat) (t : Ex.T) (w : World) (hBt : Bt < w.heap.size) (hw : Below w0.heap.size w0 w)
    (hc : w.cell? ⟨Bt, 0, none⟩ = some (.pointer (some ⟨g, o, none⟩))) (ht : TreeAt w0 g o t) (hb : t.bulk ≤ 1048576) :
    SeqStopsK F n Try.prog 53 #[.pointer (some ⟨Bt, 0, none⟩)] (fun x : Nd w0 => ndV x) (Below w0.heap.size) (fun ys => ys.map Nd.dat = t.pre 1) (fun pre => pre.map Nd.dat <+: t.pre 1) t.count w := by
  intro l J Jx W hW _ _ hY h0
  have hdk : ∀ k : Nat, (F.depth.isSome = true → 1 ≤ k) := fun k h => by rw [hd] at h; cases h
  have hds := small_deep hb
  have hp := visit_tree F hd h2 hro l w0 t.count J Jx (fun m pre x W hj hl => YieldAt.any hd m (hY pre x W hj hl)) t.count t (Nat.le_refl _) (n - 1) g o 1 [] W hb (by omega) ht (hw.trans (hW.mono hw.size)) h0 (by simp)
  have hc2 := (hW.cell (p := ⟨Bt, 0, none⟩) hBt).trans hc
  refine callsIn_of_wp Try.func53 rfl h1 ?_ hro
  simp only [Try.ntmps53, List.size_toArray, List.length_cons, List.length_nil, Nat.reduceAdd, Nat.reduceSub, Array.replicate_succ, Array.replicate_zero, List.push_toArray, List.append_toArray, List.nil_append, List.cons_append]
  clear hY
  gi_wp2
  refine hp.mono ?_
  clear hp
  rintro e W1 (⟨rfl, ⟨q, hq, hJ⟩, _⟩ | ⟨rfl, q, hq, hx⟩)
  · gi_wp2
    go_end0
    exact ⟨⟨_, rfl⟩, .inl ⟨q, hq, hJ⟩⟩
  · gi_wp2
    go_end0
    exact ⟨⟨_, rfl⟩, .inr ⟨q, hq, hx⟩⟩

theorem cell_one (W : World) (v : Value) (t : TypeId) : (W.alloc (.cells #[v] t)).cell? ⟨W.heap.size, 0, none⟩ = some v ∧ (W.alloc (.cells #[v] t)).frozen? ⟨W.heap.size, 0, none⟩ = false :=
  ⟨cell_of_one (World.alloc_heap_new W _), free_of_one (World.alloc_heap_new W _)⟩
theorem cell_alloc {W : World} {a : Addr} {v : Value} (o : Obj) (h : W.cell? a = some v) : (W.alloc o).cell? a = some v := cell_kept h (World.grownBy_alloc W o none) (fun r e => by cases e)
theorem frozen_alloc {W : World} {a : Addr} {v : Value} (o : Obj) (h : W.cell? a = some v) (hf : W.frozen? a = false) : (W.alloc o).frozen? a = false := (frozen_kept h (World.grownBy_alloc W o none) (fun r e => by cases e)).trans hf
/-- A tree that is a variable of the call's own. -/
theorem box_tree {w : World} {t : Ex.T} {v : Value} (hk : Kids w v t.kids) : TreeAt (w.alloc (.cells #[.int .i64 t.kind, .string t.text, .int .i64 t.num, .int .i64 t.line, v] 26)) w.heap.size 0 t := by
  obtain ⟨a0, a1, a2, a3, a4⟩ := CellsE.new w t v 26
  exact tree_of ⟨a0, a1, a2, a3⟩ a4 (hk.later (bl1 _ _))
/-- The greatest depth among what has come. -/
def maxD (l : List (Ex.T × Nat)) : Nat := l.foldl (fun m x => max m x.2) 0
theorem maxD_snoc (l : List (Ex.T × Nat)) (x : Ex.T × Nat) : maxD (l ++ [x]) = max (maxD l) x.2 := by simp [maxD]
theorem foldl_max (l : List (Ex.T × Nat)) (m : Nat) : l.foldl (fun m x => max m x.2) m = max m (maxD l) := by
  unfold maxD
  induction l generalizing m with
  | nil => simp
  | cons x r ih => rw [List.foldl_cons, List.foldl_cons, ih, ih (max 0 x.2)]; omega
theorem maxD_app (a b : List (Ex.T × Nat)) : maxD (a ++ b) = max (maxD a) (maxD b) := by
  conv => lhs; unfold maxD
  rw [List.foldl_append, foldl_max]; rfl
mutual
theorem maxD_pre : ∀ (t : Ex.T) (d : Nat), maxD (t.pre d) + 1 = d + t.deep
  | .node k t n l ks, d => by
    rw [Ex.T.pre, Ex.T.deep]
    have h := maxD_pres ks (d + 1)
    rw [show ((Ex.T.node k t n l ks, d) :: Ex.pres ks (d + 1)) = [(Ex.T.node k t n l ks, d)] ++ Ex.pres ks (d + 1) from rfl, maxD_app]
    have e : maxD [(Ex.T.node k t n l ks, d)] = d := by simp [maxD]
    rw [e]
    rcases h with ⟨h1, h2⟩ | h
    · rw [h1, h2]; simp [maxD]
    · omega
theorem maxD_pres : ∀ (l : List Ex.T) (d : Nat), (Ex.deeps l = 0 ∧ Ex.pres l d = []) ∨ (maxD (Ex.pres l d) + 1 = d + Ex.deeps l ∧ 1 ≤ Ex.deeps l)
  | [], d => .inl ⟨by rw [Ex.deeps], by rw [Ex.pres]⟩
  | x :: r, d => by
    right
    rw [Ex.pres, Ex.deeps, maxD_app]
    have h1 := maxD_pre x d
    have h3 := Ex.deep_pos x
    have h0 : maxD [] = 0 := rfl
    rcases maxD_pres r d with ⟨h, h2⟩ | h
    · rw [h2, h]; omega
    · omega
end
set_option maxRecDepth 100000 in
set_option maxHeartbeats 2000000 in
theorem count_in (F : Fence) (hd : F.depth = none) (n : Nat) (hn : 3 ≤ n) (h1 : F.fn 15) (h2 : F.fn 33) (h3 : F.fn 53) (h4 : F.fn 54) (hro : F.round = none) (t : Ex.T) (hb : t.bulk ≤ 1048576) (v : Value) (w : World) (hk : Kids w v t.kids) :
    CallsIn F n Try.prog 15 #[exV t v] w fun e w' => e = .returned (.int .i64 (t.count : Int)) ∧ Below w.heap.size w w' := by
  have hn1 : 1 ≤ n := by omega
  obtain ⟨a, c, rfl⟩ := kids_len hk
  refine callsIn_of_wp_marks Try.func15 rfl h1 ?_ hro
  simp only [Try.ntmps15, List.size_toArray, List.length_cons, List.length_nil, Nat.reduceAdd, Nat.reduceSub, Array.replicate_succ, Array.replicate_zero, List.push_toArray, List.append_toArray, List.nil_append, List.cons_append]
  gi_wp2_with (gi_at_call 33; refine (nodes_of F (n - 1) h2 hro _ _).mono ?_; rintro e w' ⟨rfl, rfl⟩)
  have HT := box_tree hk
  have c1 := cell_one (w.alloc (.cells #[.int .i64 t.kind, .string t.text, .int .i64 t.num, .int .i64 t.line, .slice a t.kids.length c] 26)) (.int .i64 0) 3
  have c2 := cell_one ((w.alloc (.cells #[.int .i64 t.kind, .string t.text, .int .i64 t.num, .int .i64 t.line, .slice a t.kids.length c] 26)).alloc (.cells #[.int .i64 0] 3)) (.pointer (some ⟨w.heap.size, 0, none⟩)) 45
  simp only [World.size_alloc] at c1 c2
  have hB0 : Below w.heap.size w (((w.alloc (.cells #[.int .i64 t.kind, .string t.text, .int .i64 t.num, .int .i64 t.line, .slice a t.kids.length c] 26)).alloc (.cells #[.int .i64 0] 3)).alloc (.cells #[.pointer (some ⟨w.heap.size, 0, none⟩)] 45)) := (((Below.refl _ w).alloc (Nat.le_refl _) _).alloc (by simp) _).alloc (by simp; omega) _
  have hb1 : Below (w.heap.size + 1) (w.alloc (.cells #[.int .i64 t.kind, .string t.text, .int .i64 t.num, .int .i64 t.line, .slice a t.kids.length c] 26)) (((w.alloc (.cells #[.int .i64 t.kind, .string t.text, .int .i64 t.num, .int .i64 t.line, .slice a t.kids.length c] 26)).alloc (.cells #[.int .i64 0] 3)).alloc (.cells #[.pointer (some ⟨w.heap.size, 0, none⟩)] 45)) := ((Below.refl _ _).alloc (by simp) _).alloc (by simp) _
  have hcs := small_count hb
  have hds := small_deep hb
  obtain ⟨w0, hw0⟩ : ∃ w0, w.alloc (.cells #[.int .i64 t.kind, .string t.text, .int .i64 t.num, .int .i64 t.line, .slice a t.kids.length c] 26) = w0 := ⟨_, rfl⟩
  have hz0 : w0.heap.size = w.heap.size + 1 := by rw [← hw0]; simp
  rw [hw0] at c1 c2 hB0 hb1 HT ⊢
  clear hw0
  refine wpIn_rangeFunc_ownF hro hn1 (gf := 53) (lb := #[.pointer (some ⟨w.heap.size + 1 + 1, 0, none⟩)]) rfl h3 (enters_of Try.func53 (by kernel_rfl) rfl)
    (nodes_stop F hd (n - 1) h3 h4 hro w0 w.heap.size 0 (w.heap.size + 1 + 1) t _ (by simp; omega) (hz0.symm ▸ hb1) c2.1 HT hb) belowK_t (belowK_b (by simp; omega)) (Below.refl _ _) (fun _ => rfl)
    (fun pre W => (W.cell? ⟨w.heap.size + 1, 0, none⟩ = some (.int .i64 ((pre.length : Int))) ∧ W.frozen? ⟨w.heap.size + 1, 0, none⟩ = false) ∧ Below w.heap.size w W)
    (fun _ _ _ => False)
    (OwnFrom.and (Own.from (fun s A B row hs hg hr => ⟨cell_kept hs.1 hg hr, (frozen_kept hs.1 hg hr).trans hs.2⟩) _) (ownFrom_below (Nat.le_refl _) (by simp; omega)))
    (fun _ _ _ _ _ hs _ _ => hs)
    ⟨⟨cell_alloc _ c1.1, frozen_alloc _ c1.1 c1.2⟩, hB0⟩
    (fun x => { tmps := #[exV t (Value.slice a t.kids.length c), .pointer (some ⟨w.heap.size, 0, none⟩), .int .i64 0, .pointer (some ⟨w.heap.size + 1, 0, none⟩), .func (.func 53) #[] #[.pointer (some ⟨w.heap.size + 1 + 1, 0, none⟩)], .pointer (some ⟨x.1.1.1, x.1.1.2, none⟩), .int .i64 (x.1.2.2 : Int), undef, undef, undef], defers := [] }) ?assign ?body ?done ?stop
  case assign =>
    intro l x W K hK
    dsimp only [ndV]
    gi_wp2
    first | exact hK | simpa using hK
  case body =>
    rintro l pre x W ⟨⟨hc, hf⟩, hB⟩ hlen
    have hl1 : (pre.length : Int) < 1048578 := by omega
    clear HT c1 c2 hB0 hb1
    gi_wp2
    exact ⟨KeepsOthers.setCell _ _ _, (Below.refl w0.heap.size W).setCell (p := ⟨w.heap.size + 1, 0, none⟩) (by rw [hz0]; exact Nat.le_refl _) _, ⟨by rw [List.length_append, List.length_singleton, Int.natCast_add]; exact World.cell?_setCell_same' _ _ _ (by rw [hc]; rfl), by rw [World.frozen?_setCell]; exact hf⟩, hB.setCell (p := ⟨w.heap.size + 1, 0, none⟩) (by simp) _⟩
  case done =>
    rintro D ys W hD hys ⟨⟨hc, _⟩, hB⟩ hK
    gi_wp2
    refine ⟨by simp, .inl ⟨_, _, rfl, run_takeDeferred hK, ?_⟩⟩
    exact ⟨_, results_tmp rfl _ _ _, by show Ending.returned (.int .i64 (ys.length : Int)) = _; rw [← Ex.pre_len t 1, ← hys, List.length_map], hB.trans (belowK_b (w := w) (Nat.le_refl _) W D _ _ (by simp at hD; omega) hK rfl rfl)⟩
  case stop =>
    rintro D c pre W _ _ h _
    exact h.elim
set_option maxRecDepth 100000 in
set_option maxHeartbeats 2000000 in
theorem depth_in (F : Fence) (hd : F.depth = none) (n : Nat) (hn : 3 ≤ n) (h1 : F.fn 16) (h2 : F.fn 33) (h3 : F.fn 53) (h4 : F.fn 54) (hro : F.round = none) (t : Ex.T) (hb : t.bulk ≤ 1048576) (v : Value) (w : World) (hk : Kids w v t.kids) :
    CallsIn F n Try.prog 16 #[exV t v] w fun e w' => e = .returned (.int .i64 (t.deep : Int)) ∧ Below w.heap.size w w' := by
  have hn1 : 1 ≤ n := by omega
  obtain ⟨a, c, rfl⟩ := kids_len hk
  refine callsIn_of_wp_marks Try.func16 rfl h1 ?_ hro
  simp only [Try.ntmps16, List.size_toArray, List.length_cons, List.length_nil, Nat.reduceAdd, Nat.reduceSub, Array.replicate_succ, Array.replicate_zero, List.push_toArray, List.append_toArray, List.nil_append, List.cons_append]
  gi_wp2_with (gi_at_call 33; refine (nodes_of F (n - 1) h2 hro _ _).mono ?_; rintro e w' ⟨rfl, rfl⟩)
  have HT := box_tree hk
  have c1 := cell_one (w.alloc (.cells #[.int .i64 t.kind, .string t.text, .int .i64 t.num, .int .i64 t.line, .slice a t.kids.length c] 26)) (.int .i64 0) 3
  have c2 := cell_one ((w.alloc (.cells #[.int .i64 t.kind, .string t.text, .int .i64 t.num, .int .i64 t.line, .slice a t.kids.length c] 26)).alloc (.cells #[.int .i64 0] 3)) (.pointer (some ⟨w.heap.size, 0, none⟩)) 45
  simp only [World.size_alloc] at c1 c2
  have hB0 : Below w.heap.size w (((w.alloc (.cells #[.int .i64 t.kind, .string t.text, .int .i64 t.num, .int .i64 t.line, .slice a t.kids.length c] 26)).alloc (.cells #[.int .i64 0] 3)).alloc (.cells #[.pointer (some ⟨w.heap.size, 0, none⟩)] 45)) := (((Below.refl _ w).alloc (Nat.le_refl _) _).alloc (by simp) _).alloc (by simp; omega) _
  have hb1 : Below (w.heap.size + 1) (w.alloc (.cells #[.int .i64 t.kind, .string t.text, .int .i64 t.num, .int .i64 t.line, .slice a t.kids.length c] 26)) (((w.alloc (.cells #[.int .i64 t.kind, .string t.text, .int .i64 t.num, .int .i64 t.line, .slice a t.kids.length c] 26)).alloc (.cells #[.int .i64 0] 3)).alloc (.cells #[.pointer (some ⟨w.heap.size, 0, none⟩)] 45)) := ((Below.refl _ _).alloc (by simp) _).alloc (by simp) _
  have hcs := small_count hb
  have hds := small_deep hb
  obtain ⟨w0, hw0⟩ : ∃ w0, w.alloc (.cells #[.int .i64 t.kind, .string t.text, .int .i64 t.num, .int .i64 t.line, .slice a t.kids.length c] 26) = w0 := ⟨_, rfl⟩
  have hz0 : w0.heap.size = w.heap.size + 1 := by rw [← hw0]; simp
  rw [hw0] at c1 c2 hB0 hb1 HT ⊢
  clear hw0
  refine wpIn_rangeFunc_ownF hro hn1 (gf := 53) (lb := #[.pointer (some ⟨w.heap.size + 1 + 1, 0, none⟩)]) rfl h3 (enters_of Try.func53 (by kernel_rfl) rfl)
    (nodes_stop F hd (n - 1) h3 h4 hro w0 w.heap.size 0 (w.heap.size + 1 + 1) t _ (by simp; omega) (hz0.symm ▸ hb1) c2.1 HT hb) belowK_t (belowK_b (by simp; omega)) (Below.refl _ _) (fun _ => rfl)
    (fun pre W => (W.cell? ⟨w.heap.size + 1, 0, none⟩ = some (.int .i64 ((maxD (pre.map Nd.dat) : Int))) ∧ W.frozen? ⟨w.heap.size + 1, 0, none⟩ = false) ∧ Below w.heap.size w W)
    (fun _ _ _ => False)
    (OwnFrom.and (Own.from (fun s A B row hs hg hr => ⟨cell_kept hs.1 hg hr, (frozen_kept hs.1 hg hr).trans hs.2⟩) _) (ownFrom_below (Nat.le_refl _) (by simp; omega)))
    (fun _ _ _ _ _ hs _ _ => hs)
    ⟨⟨cell_alloc _ c1.1, frozen_alloc _ c1.1 c1.2⟩, hB0⟩
    (fun x => { tmps := #[exV t (Value.slice a t.kids.length c), .pointer (some ⟨w.heap.size, 0, none⟩), .int .i64 0, .pointer (some ⟨w.heap.size + 1, 0, none⟩), undef, .int .i64 (x.1.2.2 : Int), .func (.func 53) #[] #[.pointer (some ⟨w.heap.size + 1 + 1, 0, none⟩)], .pointer (some ⟨x.1.1.1, x.1.1.2, none⟩), .int .i64 (x.1.2.2 : Int), undef, undef, undef, undef], defers := [] }) ?assign ?body ?done ?stop
  case assign =>
    intro l x W K hK
    dsimp only [ndV]
    gi_wp2
    first | exact hK | simpa using hK
  case body =>
    rintro l pre x W ⟨⟨hc, hf⟩, hB⟩ hlen
    obtain ⟨md, hmd⟩ : ∃ md, maxD (pre.map Nd.dat) = md := ⟨_, rfl⟩
    rw [hmd] at hc
    have HMD := Lib.hid hmd
    have HZ := Lib.hid hz0
    clear hmd hz0
    clear HT c1 c2 hB0 hb1
    gi_wp2
    · rename_i h
      have e : max md x.dat.snd = x.1.2.2 := by show max md x.1.2.2 = _; omega
      exact ⟨KeepsOthers.setCell _ _ _, (Below.refl w0.heap.size W).setCell (p := ⟨w.heap.size + 1, 0, none⟩) (by rw [HZ.out]; exact Nat.le_refl _) _, ⟨by rw [List.map_append, List.map_singleton, maxD_snoc, HMD.out, e]; exact World.cell?_setCell_same' _ _ _ (by rw [hc]; rfl), by rw [World.frozen?_setCell]; exact hf⟩, hB.setCell (p := ⟨w.heap.size + 1, 0, none⟩) (by simp) _⟩
    · rename_i h
      have e : max md x.dat.snd = md := by show max md x.1.2.2 = _; omega
      exact ⟨KeepsOthers.setCell _ _ _, (Below.refl w0.heap.size W).setCell (p := ⟨w.heap.size + 1, 0, none⟩) (by rw [HZ.out]; exact Nat.le_refl _) _, ⟨by rw [List.map_append, List.map_singleton, maxD_snoc, HMD.out, e]; exact World.cell?_setCell_same' _ _ _ (by rw [hc]; rfl), by rw [World.frozen?_setCell]; exact hf⟩, hB.setCell (p := ⟨w.heap.size + 1, 0, none⟩) (by simp) _⟩
  case done =>
    rintro D ys W hD hys ⟨⟨hc, _⟩, hB⟩ hK
    gi_wp2
    refine ⟨by simp, .inl ⟨_, _, rfl, run_takeDeferred hK, ?_⟩⟩
    exact ⟨_, results_tmp rfl _ _ _, by show Ending.returned (.int .i64 (maxD (t.pre 1) : Int)) = _; have h := maxD_pre t 1; rw [show t.deep = maxD (t.pre 1) by omega], hB.trans (belowK_b (w := w) (Nat.le_refl _) W D _ _ (by simp at hD; omega) hK rfl rfl)⟩
  case stop =>
    rintro D c pre W _ _ h _
    exact h.elim
theorem impl_count (t : Ex.T) (hb : t.bulk ≤ 1048576) (w : World) (v : Value) (hk : Kids w v t.kids) : Calls Try.prog 15 #[exV t v] w fun e w' => e = .returned (.int .i64 (t.count : Int)) ∧ Below w.heap.size w w' :=
  (callsIn_wide (n := 3)).1 (count_in Fence.wide rfl 3 (by omega) trivial trivial trivial trivial rfl t hb v w hk)
theorem impl_depth (t : Ex.T) (hb : t.bulk ≤ 1048576) (w : World) (v : Value) (hk : Kids w v t.kids) : Calls Try.prog 16 #[exV t v] w fun e w' => e = .returned (.int .i64 (t.deep : Int)) ∧ Below w.heap.size w w' :=
  (callsIn_wide (n := 3)).1 (depth_in Fence.wide rfl 3 (by omega) trivial trivial trivial trivial rfl t hb v w hk)
end Go.Proofs.Ytkkopnhbafjnaaa
