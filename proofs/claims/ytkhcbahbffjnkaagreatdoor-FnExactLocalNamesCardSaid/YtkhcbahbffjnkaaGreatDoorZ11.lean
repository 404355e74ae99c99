/- Joined texts: N24, N3, N25, W1. No conditions besides those that each states. -/
import Derived.OneCell
import Derived.Test.YtkhcbahbffjnkaaGreatDoorProg
import Derived.WalkKit
import Derived.ProofKit
import Derived.WalkLawsBesides
import Derived.WalkSpells
import Derived.Lib.Hide
import Derived.Laws.BytesArg
import Derived.Test.YtkhcbahbffjnkaaGreatDoorZ1
import Derived.Test.YtkhcbahbffjnkaaGreatDoorZ10
/- The program's walk of a tree that erases lines: every tree. No conditions. -/
namespace Go.Proofs.YtkhcbahbffjnkaaGreatDoor
open Go.RowKit Go.Shelf
set_option linter.unusedVariables false
attribute [local go_sem] Oper.semAt_some

set_option maxRecDepth 100000 in
set_option maxHeartbeats 2000000 in
theorem erase_visit (F : Fence) (hd : F.depth = none) (hF : F.fn 131) (hro : F.round = none) (w0 : World) (L : Nat) (ob : Obj) (hob : ob.isCells = false)
    (hY : ∀ m (x : XN) (W : World), XPre w0 L x W → W.heap[L]? = some ob → YieldAt F m Tryz.prog L (xnV x) W fun e W' => e = .returned (.bool true) ∧ XRel x W W') :
    ∀ (M : Nat) (t : Ex.T), t.count ≤ M → EraT F w0 L ob t := by
  intro M
  induction M with
  | zero => intro t h; have := Ex.count_pos t; omega
  | succ M ih =>
    intro t hM n g i d cap l W p hp hpt hb hdd hrow hg hgL hW hL hkp
    subst hpt
    obtain ⟨lk, hlk⟩ := kid_ok hkp
    have hbe := bulk_eq p.1
    have hde := deep_eq p.1
    have hkl : p.1.kids.length = lk.length := by rw [hlk.1, List.length_map]
    have hlL : L < W.heap.size := (Array.getElem?_eq_some_iff.1 hL).1
    obtain ⟨fn, tmps, assign, body, hy, hR⟩ := hY (n - 1) ⟨g, i, d, cap, l, p, lk⟩ W ⟨⟨hp, hrow⟩, ⟨hg, hgL⟩, hW, hlk, ⟨by show lk.length ≤ 1048576; omega, by show p.1.text.size ≤ 1048576; omega⟩⟩ hL
    dsimp only [xnV] at hy
    unfold XRel at hR
    dsimp only at hR
    have hdk : ∀ k : Nat, (F.depth.isSome = true → 1 ≤ k) := fun k h => by rw [hd] at h; cases h
    have HI := Lib.hid (fun (x : Ex.T) (hx : x ∈ p.1.kids) => ih x (by have := kids_count hx; omega))
    have HM : Hid (∀ x ∈ p.1.kids, x.bulk ≤ 1048576 ∧ d + 1 + x.deep ≤ 2097152) := Lib.hid (fun x hx => ⟨by have := Ex.bulks_mem hx; omega, by have := deeps_mem hx; omega⟩)
    have hln : lk.length ≤ 1048576 := by omega
    have HP := Lib.hid hp
    have HGW := Lib.hid hrow.lt
    have HGL := Lib.hid hgL
    have HG := Lib.hid hg
    have HW := Lib.hid hW
    have HLL := Lib.hid hlL
    have HL := Lib.hid hL
    have HK := Lib.hid hlk
    clear ih hY hM hbe hde hb hp hg hgL hW hlL hL hlk hrow hkp hkl
    refine callsIn_of_wp Tryz.func131 rfl hF ?_ hro
    simp only [Tryz.ntmps131, List.size_toArray, List.length_cons, List.length_nil, Nat.reduceAdd, Nat.reduceSub, Array.replicate_succ, Array.replicate_zero, List.push_toArray, List.append_toArray, List.nil_append, List.cons_append]
    gi_wp2
    refine hR.mono ?_
    clear hR hy
    rintro e W1 ⟨rfl, v, hr1, ho1, hs1⟩
    have hr1l : RowE W1 g (l.set i (p.1.erase, v, [])).length cap (rowV (l.set i (p.1.erase, v, []))) := by rw [List.length_set]; exact hr1
    have hi := (List.getElem?_eq_some_iff.1 HP.out).1
    have c4 := row_node hr1l (p := (p.1.erase, v, [])) (List.getElem?_set_self hi)
    have HR1 := Lib.hid hr1
    have HO1 := Lib.hid ho1
    clear hr1 ho1 hr1l
    rcases hs1 with ⟨rfl, a, c, rfl⟩ | ⟨h0, g2, c, rfl, hg2, hr2⟩
    · have HE : Hid (EraseAt g i cap l p.1 W W1) := Lib.hid ⟨_, [], HR1.out, HO1.out, by rw [HK.out.1, List.map_nil, Ex.erases, OwnK]; exact ⟨rfl, _, _, rfl⟩, (fun b hb => by cases hb)⟩
      clear HR1 HO1
      gi_wp2
      gi_loopw [7, 18] (fun _ i wr => i = .int .i64 0 ∧ W1 = wr) (fun _ _ _ => 0)
      case atStart => exact ⟨rfl, rfl⟩
      case round =>
        obtain ⟨rfl, rfl⟩ := hrel
        gi_wp2
        go_ret
        exact ⟨rfl, HE.out⟩
    · have hg2l := hr2.lt
      have HG2 := Lib.hid hg2
      have hgw := HGW.out
      have hll := HLL.out
      have hgg : g ≠ g2 := by omega
      have hLg : g2 ≠ L := by omega
      have HGG := Lib.hid hgg
      have c4a : W1.cell? ⟨g, i * 5 + 4, none⟩ = some (.slice (some ⟨g2, 0, none⟩) lk.length c) := c4
      have hg1 : g < W1.heap.size := by have := HO1.out.size; omega
      have HC4 := Lib.hid (fun wr (hh : Oth g2 W1 wr) => (cell_keep (hh.2 g hgg hg1) (i * 5 + 4)).trans c4a)
      have HST := Lib.hid (ErasL.start hr2)
      have hL1 : W1.heap[L]? = some ob := (HO1.out.2 L (fun e => HGL.out e.symm) hll).trans HL.out
      have hll1 : L < W1.heap.size := (Array.getElem?_eq_some_iff.1 hL1).1
      have HL1 := Lib.hid (fun wr (hh : Oth g2 W1 wr) => (hh.2 L (fun e => hLg e.symm) hll1).trans hL1)
      have hW1 : Below w0.heap.size w0 W1 := HW.out.trans (HO1.out.below HG.out HW.out.size)
      have HW1 := Lib.hid (fun wr (hh : Oth g2 W1 wr) => hW1.trans (hh.below (by have := HW.out.size; omega) hW1.size))
      have hw0g : w0.heap.size ≤ g2 := by have := HW.out.size; omega
      clear c4 hr2 hgw hll hgg hg1 hL1 hll1 hW1
      gi_wp2
      gi_loopw [7, 18] (fun _ i wr => ∃ k : Nat, i = .int .i64 k ∧ k ≤ lk.length ∧ ErasL lk g2 c W1 k wr) (fun _ i _ => lk.length - (intOf i).toNat)
      case atStart => exact ⟨0, rfl, Nat.zero_le _, HST.out⟩
      case round =>
        clear HST c4a
        obtain ⟨k, rfl, hk, ld, hat⟩ := hrel
        have HAT := Lib.hid hat
        have ho : Oth g2 W1 wr := hat.2.2.2.2.2
        have c4 := HC4.out wr ho
        by_cases hlt : k < lk.length
        · have hm := HM.out lk[k].1 (by rw [HK.out.1]; exact List.mem_map.2 ⟨lk[k], List.getElem_mem hlt, rfl⟩)
          have HR := Lib.hid (HI.out lk[k].1 (by rw [HK.out.1]; exact List.mem_map.2 ⟨lk[k], List.getElem_mem hlt, rfl⟩) (n - 1) g2 k (d + 1) c (ld ++ lk.drop k) wr lk[k] (hat.at hlt) rfl hm.1 (by have := hm.2; omega) (hat.row (by omega)) hw0g hLg (HW1.out _ ho) (HL1.out _ ho) (HK.out.2.2.2 lk[k] (List.getElem_mem hlt)).2)
          rw [show ((d + 1 : Nat) : Int) = (d : Int) + 1 by omega] at HR
          have e1 : IntKind.i64.wrap ((d : Int) + 1) = (d : Int) + 1 := IntWalk.i64_in _ (by have := hm.2; omega)
          have k0 : (0 : Int) ≤ k := by omega
          have k1 : (k : Int) < lk.length := by omega
          have HNX := Lib.hid (fun W2 he => HAT.out.next (W2 := W2) hg2l hlt he)
          clear hm hat ho
          gi_wp2
          refine HR.out.mono ?_
          clear HR
          rintro e W2 ⟨rfl, he⟩
          have HE := Lib.hid (HNX.out W2 he)
          clear he
          gi_wp2
          go_roundw
          case rel => exact ⟨k + 1, by go_num, by omega, HE.out⟩
          case measure => first | (simp [intOf]; done) | (simp [intOf]; omega)
        · obtain rfl : k = lk.length := by omega
          have HD := Lib.hid (ErasL.done ⟨ld, HAT.out⟩ hg2l)
          clear hat ho
          gi_wp2
          go_ret
          refine ⟨rfl, ?_⟩
          obtain ⟨G, d1, d2, d3⟩ := HD.out
          rw [← HK.out.1] at d1
          refine ⟨_, G, ?_, HO1.out.new d2 HG2.out, d1, fun b hb => ?_⟩
          · rw [rowV_foot hi _ _ G []]
            exact HR1.out.keep (d2.2 g HGG.out HR1.out.lt)
          · have h1 := d3 b hb
            have h2 := HO1.out.size
            have h3 := HG2.out
            refine ⟨?_, h1.2⟩
            rcases h1.1 with h | h <;> omega
end Go.Proofs.YtkhcbahbffjnkaaGreatDoor
/- The program's iterator over the nodes of a tree; its numbers of nodes and depths. No conditions. -/
namespace Go.Proofs.YtkhcbahbffjnkaaGreatDoor
open Go.RowKit Go.Shelf
set_option linter.unusedVariables false
attribute [local go_sem] Oper.semAt_some

theorem nodes_of (F : Fence) (n : Nat) (hF : F.fn 49) (hro : F.round = none) (p : Option Addr) (w : World) :
    CallsIn F n Tryz.prog 49 #[.pointer p] w fun e w' => e = .returned (.func (.func 130) #[] #[.pointer (some ⟨w.heap.size, 0, none⟩)]) ∧ w' = w.alloc (.cells #[.pointer p] 65) := by
  refine callsIn_of_wp Tryz.func49 rfl hF ?_ hro
  simp only [Tryz.ntmps49, List.size_toArray, List.length_cons, List.length_nil, Nat.reduceAdd, Nat.reduceSub, Array.replicate_succ, Array.replicate_zero, List.push_toArray, List.append_toArray, List.nil_append, List.cons_append]
  gi_wp2
  go_ret
  exact ⟨rfl, rfl⟩
set_option maxHeartbeats 1000000 in
theorem nodes_stop (F : Fence) (hd : F.depth = none) (n : Nat) (h1 : F.fn 130) (h2 : F.fn 131) (hro : F.round = none) (w0 : World) (g o Bt : Nat) (t : Ex.T) (w : World) (hBt : Bt < w.heap.size) (hw : Below w0.heap.size w0 w)
    (hc : w.cell? ⟨Bt, 0, none⟩ = some (.pointer (some ⟨g, o, none⟩))) (ht : TreeAt w0 g o t) (hb : t.bulk ≤ 1048576) :
    SeqStopsK F n Tryz.prog 130 #[.pointer (some ⟨Bt, 0, none⟩)] (fun x : Nd w0 => ndV x) (Below w0.heap.size) (fun ys => ys.map Nd.dat = t.pre 1) (fun pre => pre.map Nd.dat <+: t.pre 1) t.count w := by
  intro l J Jx W hW _ _ hY h0
  have hdk : ∀ k : Nat, (F.depth.isSome = true → 1 ≤ k) := fun k h => by rw [hd] at h; cases h
  have hds := small_deep hb
  have hp := visit_tree F hd h2 hro l w0 t.count J Jx (fun m pre x W hj hl => YieldAt.any hd m (hY pre x W hj hl)) t.count t (Nat.le_refl _) (n - 1) g o 1 [] W hb (by omega) ht (hw.trans (hW.mono hw.size)) h0 (by simp)
  have hc2 := (hW.cell (p := ⟨Bt, 0, none⟩) hBt).trans hc
  refine callsIn_of_wp Tryz.func130 rfl h1 ?_ hro
  simp only [Tryz.ntmps130, List.size_toArray, List.length_cons, List.length_nil, Nat.reduceAdd, Nat.reduceSub, Array.replicate_succ, Array.replicate_zero, List.push_toArray, List.append_toArray, List.nil_append, List.cons_append]
  clear hY
  gi_wp2
  refine hp.mono ?_
  clear hp
  rintro e W1 (⟨rfl, ⟨q, hq, hJ⟩, _⟩ | ⟨rfl, q, hq, hx⟩)
  · gi_wp2
    go_end0
    exact ⟨⟨_, rfl⟩, .inl ⟨q, hq, hJ⟩⟩
  · gi_wp2
    go_end0
    exact ⟨⟨_, rfl⟩, .inr ⟨q, hq, hx⟩⟩

theorem cell_one (W : World) (v : Value) (t : TypeId) : (W.alloc (.cells #[v] t)).cell? ⟨W.heap.size, 0, none⟩ = some v ∧ (W.alloc (.cells #[v] t)).frozen? ⟨W.heap.size, 0, none⟩ = false :=
  ⟨cell_of_one (World.alloc_heap_new W _), free_of_one (World.alloc_heap_new W _)⟩
theorem cell_alloc {W : World} {a : Addr} {v : Value} (o : Obj) (h : W.cell? a = some v) : (W.alloc o).cell? a = some v := cell_kept h (World.grownBy_alloc W o none) (fun r e => by cases e)
theorem frozen_alloc {W : World} {a : Addr} {v : Value} (o : Obj) (h : W.cell? a = some v) (hf : W.frozen? a = false) : (W.alloc o).frozen? a = false := (frozen_kept h (World.grownBy_alloc W o none) (fun r e => by cases e)).trans hf
/-- A tree that is a variable of the call's own. -/
theorem box_tree {w : World} {t : Ex.T} {v : Value} (hk : Kids w v t.kids) : TreeAt (w.alloc (.cells #[.int .i64 t.kind, .string t.text, .int .i64 t.num, .int .i64 t.line, v] 26)) w.heap.size 0 t := by
  obtain ⟨a0, a1, a2, a3, a4⟩ := CellsE.new w t v 26
  exact tree_of ⟨a0, a1, a2, a3⟩ a4 (hk.later (bl1 _ _))
/-- The greatest depth among what has come. -/
def maxD (l : List (Ex.T × Nat)) : Nat := l.foldl (fun m x => max m x.2) 0
theorem maxD_snoc (l : List (Ex.T × Nat)) (x : Ex.T × Nat) : maxD (l ++ [x]) = max (maxD l) x.2 := by simp [maxD]
theorem foldl_max (l : List (Ex.T × Nat)) (m : Nat) : l.foldl (fun m x => max m x.2) m = max m (maxD l) := by
  unfold maxD
  induction l generalizing m with
  | nil => simp
  | cons x r ih => rw [List.foldl_cons, List.foldl_cons, ih, ih (max 0 x.2)]; omega
theorem maxD_app (a b : List (Ex.T × Nat)) : maxD (a ++ b) = max (maxD a) (maxD b) := by
  conv => lhs; unfold maxD
  rw [List.foldl_append, foldl_max]; rfl
mutual
theorem maxD_pre : ∀ (t : Ex.T) (d : Nat), maxD (t.pre d) + 1 = d + t.deep
  | .node k t n l ks, d => by
    rw [Ex.T.pre, Ex.T.deep]
    have h := maxD_pres ks (d + 1)
    rw [show ((Ex.T.node k t n l ks, d) :: Ex.pres ks (d + 1)) = [(Ex.T.node k t n l ks, d)] ++ Ex.pres ks (d + 1) from rfl, maxD_app]
    have e : maxD [(Ex.T.node k t n l ks, d)] = d := by simp [maxD]
    rw [e]
    rcases h with ⟨h1, h2⟩ | h
    · rw [h1, h2]; simp [maxD]
    · omega
theorem maxD_pres : ∀ (l : List Ex.T) (d : Nat), (Ex.deeps l = 0 ∧ Ex.pres l d = []) ∨ (maxD (Ex.pres l d) + 1 = d + Ex.deeps l ∧ 1 ≤ Ex.deeps l)
  | [], d => .inl ⟨by rw [Ex.deeps], by rw [Ex.pres]⟩
  | x :: r, d => by
    right
    rw [Ex.pres, Ex.deeps, maxD_app]
    have h1 := maxD_pre x d
    have h3 := Ex.deep_pos x
    have h0 : maxD [] = 0 := rfl
    rcases maxD_pres r d with ⟨h, h2⟩ | h
    · rw [h2, h]; omega
    · omega
end
end Go.Proofs.YtkhcbahbffjnkaaGreatDoor
/- EraseLines of the program: its body, its end. No conditions. -/
namespace Go.Proofs.YtkhcbahbffjnkaaGreatDoor
open Go.RowKit Go.Shelf
set_option linter.unusedVariables false
attribute [local go_sem] Oper.semAt_some

theorem rowV_upd {p : El} {v : Value} {F : List Nat} : ∀ (l : List El) (i : Nat), l[i]? = some p → (((rowV l).set (i * 5 + 3) (.int .i64 0)).set (i * 5 + 1) (.string p.1.text)).set (i * 5 + 4) v = rowV (l.set i (p.1.erase, v, F)) := by
  intro l
  induction l with
  | nil => intro i h; simp at h
  | cons q r ih =>
    intro i h
    match i with
    | 0 =>
      obtain rfl : q = p := Option.some.inj h
      rw [show (q :: r).set 0 (q.1.erase, v, F) = (q.1.erase, v, F) :: r from rfl, rowV_cons, rowV_cons]
      show _ = Value.int .i64 q.1.erase.kind :: Value.string q.1.erase.text :: Value.int .i64 q.1.erase.num :: Value.int .i64 q.1.erase.line :: v :: rowV r
      rw [Ex.erase_kind, Ex.erase_text, Ex.erase_num, Ex.erase_line]
      rfl
    | i + 1 =>
      have h2 := ih i h
      rw [show (q :: r).set (i + 1) (p.1.erase, v, F) = q :: r.set i (p.1.erase, v, F) from rfl, rowV_cons, rowV_cons, ← h2, show (i + 1) * 5 = i * 5 + 5 by omega]
      rfl
theorem row_free {w : World} {g cap i : Nat} {l : List El} {p : El} (h : RowE w g l.length cap (rowV l)) (hp : l[i]? = some p) : (w.cell? ⟨g, i * 5 + 1, none⟩ = some (.string p.1.text) ∧ w.cell? ⟨g, i * 5 + 4, none⟩ = some p.2.1 ∧ ∃ u, w.cell? ⟨g, i * 5 + 3, none⟩ = some u) ∧ w.frozen? ⟨g, i * 5 + 1, none⟩ = false ∧ w.frozen? ⟨g, i * 5 + 3, none⟩ = false ∧ w.frozen? ⟨g, i * 5 + 4, none⟩ = false := by
  obtain ⟨hi, rfl⟩ := List.getElem?_eq_some_iff.1 hp
  have h2 := RowCells.node (rowE_cells rfl h) i hi
  rw [Nat.zero_add] at h2
  have hlt : i * 5 + 4 < l.length * 5 := by omega
  exact ⟨⟨h2.1.2.1, h2.2, _, h2.1.2.2.2⟩, (h.cell _ (by omega)).2, (h.cell _ (by omega)).2, (h.cell _ (by omega)).2⟩
theorem ShalK.mono {B B' : Nat} {w : World} {v : Value} {l : List El} (h : ShalK B w v l) (hB : B' ≤ B) : ShalK B' w v l := by
  rcases h with h | ⟨h0, g, c, e, hg, hr⟩
  · exact .inl h
  · exact .inr ⟨h0, g, c, e, Nat.le_trans hB hg, hr⟩
theorem ShalK.set {B g : Nat} {w : World} {v : Value} {l : List El} (h : ShalK B w v l) (hg : g < B) (o : Nat) (u : Value) : ShalK B (w.setCell ⟨g, o, none⟩ u) v l :=
  h.keep fun b hb => Below.heap_setCell w ⟨g, o, none⟩ u b (show b ≠ g by omega)
theorem root_row (W : World) (t : Ex.T) (v : Value) : RowE (W.alloc (.cells #[.int .i64 t.kind, .string t.text, .int .i64 t.num, .int .i64 t.line, v] 26)) W.heap.size 1 1 (rowV [(t, v, [])]) :=
  ⟨rfl, .inr ⟨W.heap.size, 1, _, rfl, Nat.zero_le _, World.alloc_heap_new W _, Nat.le_refl _, by unfold maxLen; omega, rfl, rfl⟩⟩
/-- What a round leaves, step by step. -/
theorem xrel_of {x : XN} {W W2 W4 : World} {v : Value} {w0 : World} {L : Nat} (hp : XPre w0 L x W) (h2 : Below (W.setCell ⟨x.g, x.i * 5 + 3, none⟩ (.int .i64 0)).heap.size (W.setCell ⟨x.g, x.i * 5 + 3, none⟩ (.int .i64 0)) W2)
    (h4 : Below (W2.setCell ⟨x.g, x.i * 5 + 1, none⟩ (.string x.p.1.text)).heap.size (W2.setCell ⟨x.g, x.i * 5 + 1, none⟩ (.string x.p.1.text)) W4) (hs : ShalK (W2.setCell ⟨x.g, x.i * 5 + 1, none⟩ (.string x.p.1.text)).heap.size W4 v x.lk) : XRel x W (W4.setCell ⟨x.g, x.i * 5 + 4, none⟩ v) := by
  have hz : ∀ (A : World) (o : Nat) (u : Value), (A.setCell ⟨x.g, o, none⟩ u).heap.size = A.heap.size := fun A o u => by simp [World.setCell]
  have hr := hp.1.2
  have hlt := hr.lt
  have r1 := hr.set (x.i * 5 + 3) (.int .i64 0)
  have r2 := r1.keep (h2.block x.g (by rw [hz]; exact hlt))
  have hsz := h2.size
  rw [hz] at hsz
  have r3 := r2.set (x.i * 5 + 1) (.string x.p.1.text)
  have r4 := r3.keep (h4.block x.g (by rw [hz]; omega))
  have r5 := r4.set (x.i * 5 + 4) v
  rw [rowV_upd (F := []) _ _ hp.1.1] at r5
  refine ⟨v, r5, ((((Oth.refl x.g W).set _ _).later h2).set _ _ |>.later h4).set _ _, ?_⟩
  rw [hz] at hs
  exact (hs.set (show x.g < W2.heap.size by omega) _ _).mono hsz
theorem kid_clone {w0 W : World} {p : El} {lk : List El} (h : KidOk w0 p lk) (hb : Below w0.heap.size w0 W) (hl : lk.length ≤ 1048576) : Calls Tryz.prog 51 #[p.2.1] W fun e w' => ∃ v', e = .returned v' ∧ ShalK W.heap.size w' v' lk ∧ Below W.heap.size W w' :=
  clone_kids p.2.1 lk W (h.2.1.later hb) (fun g o n c e => (h.2.2.1 g o n c e).later hb) (rowV_one h.2.2.2) hl
theorem nodes_erase (F : Fence) (hd : F.depth = none) (h1 : F.fn 130) (h2 : F.fn 131) (hro : F.round = none) (w0 : World) (L : Nat) (ob : Obj) (hob : ob.isCells = false)
    (hY : ∀ m (x : XN) (W : World), XPre w0 L x W → W.heap[L]? = some ob → YieldAt F m Tryz.prog L (xnV x) W fun e W' => e = .returned (.bool true) ∧ XRel x W W')
    (n C Bt : Nat) (t : Ex.T) (v : Value) (W : World) (hb : t.bulk ≤ 1048576) (hrow : RowE W C 1 1 (rowV [(t, v, [])])) (hC : w0.heap.size ≤ C) (hCL : C ≠ L) (hW : Below w0.heap.size w0 W) (hL : W.heap[L]? = some ob) (hk : Kids w0 v t.kids) (hBt : W.cell? ⟨Bt, 0, none⟩ = some (.pointer (some ⟨C, 0, none⟩))) :
    CallsIn F n Tryz.prog 130 #[.func (.yield L) #[] #[], .pointer (some ⟨Bt, 0, none⟩)] W fun e W' => (∃ v, e = .returned v) ∧ EraseAt C 0 1 [(t, v, [])] t W W' := by
  have hdk : ∀ k : Nat, (F.depth.isSome = true → 1 ≤ k) := fun k h => by rw [hd] at h; cases h
  have hds := small_deep hb
  have hp := erase_visit F hd h2 hro w0 L ob hob hY t.count t (Nat.le_refl _) (n - 1) C 0 1 1 [(t, v, [])] W (t, v, []) rfl rfl hb (by omega) hrow hC hCL hW hL hk
  rw [Nat.zero_mul] at hp
  refine callsIn_of_wp Tryz.func130 rfl h1 ?_ hro
  simp only [Tryz.ntmps130, List.size_toArray, List.length_cons, List.length_nil, Nat.reduceAdd, Nat.reduceSub, Array.replicate_succ, Array.replicate_zero, List.push_toArray, List.append_toArray, List.nil_append, List.cons_append]
  clear hY
  gi_wp2
  refine hp.mono ?_
  clear hp
  rintro e W1 ⟨rfl, he⟩
  gi_wp2
  go_end0
  exact ⟨⟨_, rfl⟩, he⟩
end Go.Proofs.YtkhcbahbffjnkaaGreatDoor
/- The reference model's FormatInt returns the decimal form, at every integer. No conditions. -/
namespace Go.Proofs.YtkhcbahbffjnkaaGreatDoor
open Go.RowKit

theorem ret_pair {a c : Int} {b d : Bool} (h1 : a = c) (h2 : b = d) : Ending.returned (.tuple #[.int .i64 a, .bool b]) = .returned (.tuple #[.int .i64 c, .bool d]) := by rw [h1, h2]
theorem ret_val {a c : Int} (h1 : a = c) : Value.int .i64 a = .int .i64 c := by rw [h1]

/-- A block of one byte, made into a string. -/
theorem conv_one (x : Int) (w : World) : (convert 22 9 (.slice (some ⟨w.heap.size, 0, none⟩) 1 1)).run Tryz.prog (w.alloc (.cells #[.int .u8 x] 5)) = .ok (.string ⟨#[UInt8.ofNat x.toNat]⟩) (w.alloc (.cells #[.int .u8 x] 5)) := by
  have h := run_convert_bytes_arg (P := Tryz.prog) (w.alloc (.cells #[.int .u8 x] 5)) 22 5 Tryz.underlying22 Tryz.underlying5 w.heap.size 0 1 1 [x] rfl
    (fun i hi => by
      obtain rfl : i = 0 := by omega
      exact cell_one_new w (.int .u8 x) 5 0 (.int .u8 x) rfl) 9 Tryz.underlying9
  simpa [strOfNums] using h

theorem string_eq {s : ByteArray} {l : List UInt8} (h : s.data.toList = l) : s = ⟨l.toArray⟩ := by
  subst h; cases s; simp

theorem size_eq (s : ByteArray) : s.size = s.data.toList.length := rfl

/-- One round's fact. -/
theorem fmt_round {n m : Int} {s : ByteArray} (hm : 0 < m) (h : Dec.digs n.toNat = Dec.digs m.toNat ++ s.data.toList) :
    Dec.digs n.toNat = Dec.digs (m / 10).toNat ++ (({ data := #[UInt8.ofNat (48 + m % 10).toNat] } : ByteArray) ++ s).data.toList := by
  rw [h, Dec.digs_pos (by omega), Dec.dg_byte m (by omega), show m.toNat / 10 = (m / 10).toNat by omega]
  simp [ByteArray.data_append]

theorem fmt_size {n m : Int} {s : ByteArray} (h0 : 0 ≤ n) (h1 : n ≤ 9223372036854775808) (h : Dec.digs n.toNat = Dec.digs m.toNat ++ s.data.toList) : s.size ≤ 20 := by
  have h2 := congrArg List.length h
  have h3 := Dec.digs_lt 20 n.toNat (Nat.lt_of_le_of_lt (show n.toNat ≤ 9223372036854775808 by omega) (by decide))
  rw [List.length_append, ← size_eq] at h2; omega

set_option maxRecDepth 100000 in
set_option maxHeartbeats 400000 in
theorem spec_fmt_pos (n : Int) (w : World) (h0 : 0 < n) (h1 : n ≤ 9223372036854775807) :
    Calls Tryz.prog 119 #[.int .i64 n] w fun e w' => e = .returned (.string ⟨(Dec.digs n.toNat).toArray⟩) ∧ Below w.heap.size w w' := by
  have c0 : (n == 0) = false := by simp; omega
  go_enter Tryz.func119, Tryz.ntmps119
  go_wp2
  go_loopw [0, 4, 5] (fun x o d wr => ∃ (m : Int) (s : ByteArray), x = .int .i64 m ∧ 0 ≤ m ∧ m ≤ n ∧ o = .string s ∧ Below w.heap.size w wr ∧ Dec.digs n.toNat = Dec.digs m.toNat ++ s.data.toList) (fun x _ _ _ => (intOf x).toNat)
  case atStart => exact ⟨n, _, rfl, by omega, by omega, rfl, Below.refl _ _, by simp⟩
  case round =>
    obtain ⟨m, s, rfl, h2, h3, rfl, h4, h5⟩ := hrel
    have hsz := fmt_size (by omega) (by omega) h5
    have H5 := Lib.hid h5
    clear h5
    by_cases hm : m = 0
    · subst hm
      go_wp2
      go_ret
      exact ⟨by rw [H5.out]; simp [Dec.digs_zero, ← string_eq (s := s) rfl], h4⟩
    · have hcv := conv_one (48 + m % 10) wr
      have hm' : (m == 0) = false := by simpa using hm
      go_wp2
      all_goals go_roundw
      case rel => exact ⟨m / 10, _, rfl, by omega, by omega, rfl, h4.alloc h4.size _, fmt_round (by omega) H5.out⟩
      case measure => simp [intOf]; omega

theorem cons_eq (b : UInt8) (s : ByteArray) : ({ data := #[b] } : ByteArray) ++ s = ⟨(b :: s.data.toList).toArray⟩ :=
  string_eq (by simp [ByteArray.data_append])

theorem quo_neg (m : Int) (h0 : 0 ≤ m) (h1 : m ≤ 9223372036854775808) : wrap64 (-m.tdiv 10) = -(m / 10) := by
  rw [Int.tdiv_eq_ediv_of_nonneg h0]
  unfold wrap64; omega

set_option maxRecDepth 100000 in
set_option maxHeartbeats 400000 in
theorem spec_fmt_neg (n : Int) (w : World) (h0 : 0 < n) (h1 : n ≤ 9223372036854775808) :
    Calls Tryz.prog 119 #[.int .i64 (-n)] w fun e w' => e = .returned (.string ⟨(45 :: Dec.digs n.toNat).toArray⟩) ∧ Below w.heap.size w w' := by
  have c0 : (-n == 0) = false := by simp; omega
  go_enter Tryz.func119, Tryz.ntmps119
  go_wp2
  go_loopw [0, 4, 5] (fun x o d wr => ∃ (m : Int) (s : ByteArray), x = .int .i64 (-m) ∧ 0 ≤ m ∧ m ≤ n ∧ o = .string s ∧ Below w.heap.size w wr ∧ Dec.digs n.toNat = Dec.digs m.toNat ++ s.data.toList) (fun x _ _ _ => (- intOf x).toNat)
  case atStart => exact ⟨n, _, rfl, by omega, by omega, rfl, Below.refl _ _, by simp⟩
  case round =>
    obtain ⟨m, s, rfl, h2, h3, rfl, h4, h5⟩ := hrel
    have hsz := fmt_size (by omega) h1 h5
    have H5 := Lib.hid h5
    clear h5
    by_cases hm : m = 0
    · subst hm
      go_wp2
      go_ret
      exact ⟨by rw [H5.out]; simp only [Dec.digs_zero, Int.toNat_zero, List.nil_append]; rw [← cons_eq]; rfl, h4⟩
    · have hcv := conv_one (48 + m % 10) wr
      have hcv2 := conv_one (48 + -(m % 10)) wr
      have hm' : (-m == 0) = false := by simpa using hm
      go_wp2
      all_goals go_roundw
      case rel => exact ⟨m / 10, _, by rw [quo_neg m h2 (by omega)], by omega, by omega, rfl, h4.alloc h4.size _, fmt_round (by omega) H5.out⟩
      case measure => rw [quo_neg m h2 (by omega)]; simp [intOf]; omega
      case rel => exact ⟨m / 10, _, by rw [quo_neg m h2 (by omega)], by omega, by omega, rfl, h4.alloc h4.size _, by rw [show (48 : Int) + -(m % 10) = 48 + m % 10 by omega]; exact fmt_round (by omega) H5.out⟩
      case measure => rw [quo_neg m h2 (by omega)]; simp [intOf]; omega
set_option maxRecDepth 100000 in
set_option maxHeartbeats 400000 in
theorem spec_fmt_zero (w : World) :
    Calls Tryz.prog 119 #[.int .i64 0] w fun e w' => e = .returned (.string ⟨#[48]⟩) ∧ Below w.heap.size w w' := by
  go_enter Tryz.func119, Tryz.ntmps119
  go_wp2
  go_ret
  exact ⟨rfl, Below.refl _ _⟩

/-- The reference model's FormatInt. -/
theorem spec_fmt (n : Int) (w : World) (h0 : -9223372036854775808 ≤ n) (h1 : n ≤ 9223372036854775807) :
    Calls Tryz.prog 119 #[.int .i64 n] w fun e w' => e = .returned (.string ⟨(Dec.fmt n).toArray⟩) ∧ Below w.heap.size w w' := by
  rcases Int.lt_trichotomy n 0 with h | h | h
  · have h2 := spec_fmt_neg (-n) w (by omega) (by omega)
    rw [Int.neg_neg] at h2
    have e : Dec.fmt n = 45 :: Dec.digs (-n).toNat := by
      unfold Dec.fmt; rw [if_neg (by omega), if_pos h, show n.natAbs = (-n).toNat by omega]
    rw [e]; exact h2
  · subst h; exact spec_fmt_zero w
  · have h2 := spec_fmt_pos n w h h1
    have e : Dec.fmt n = Dec.digs n.toNat := by
      unfold Dec.fmt; rw [if_neg (by omega), if_neg (by omega), show n.natAbs = n.toNat by omega]
    rw [e]; exact h2
end Go.Proofs.YtkhcbahbffjnkaaGreatDoor
