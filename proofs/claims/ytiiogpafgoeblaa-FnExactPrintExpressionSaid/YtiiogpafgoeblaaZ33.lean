/- Joined texts: N11, G4. No conditions besides those that each states. -/
import Derived.Test.YtiiogpafgoeblaaZ7
import Derived.Test.YtiiogpafgoeblaaZ30
import Derived.Test.YtiiogpafgoeblaaZ32
/- IsValidExpr of the program. No conditions. -/
namespace Go.Proofs.Ytiiogpafgoeblaa
open Go.RowKit Go.Shelf
set_option linter.unusedVariables false
attribute [local go_sem] Oper.semAt_some

/-- Is a node well, wherever it stands? -/
def Ex.T.well (t : Ex.T) : Bool := decide (0 ≤ t.line) && Ex.kidsB t.kind t.num t.kids.length && Ex.words t.kind t.text && Ex.numberB t.kind t.num
def okP (x : Ex.T × Nat) : Bool := decide (x.2 ≤ 40) && x.1.well
theorem keeps_below {W W' : World} (h : Below W.heap.size W W') : KeepsOthers W W' := ⟨h.size, fun k o hk _ => (h.block k (Array.getElem?_eq_some_iff.1 hk).1).trans hk⟩
theorem node_at (t : Ex.T) (hb : t.bulk ≤ 1048576) (W : World) (g o : Nat) (h : TreeAt W g o t) : Calls Try.prog 70 #[.pointer (some ⟨g, o, none⟩)] W fun e w' => e = .returned (.bool t.well) ∧ Below W.heap.size W w' := impl_node t W g o h hb
set_option maxRecDepth 100000 in
set_option maxHeartbeats 4000000 in
theorem valid_in (t : Ex.T) (hb : t.bulk ≤ 1048576) (v : Value) (w : World) (hk : Kids w v t.kids) :
    CallsIn Fence.wide 6 Try.prog 42 #[exV t v] w fun e w' => e = .returned (.bool (decide (t.count ≤ 600) && (t.pre 1).all okP)) ∧ Below w.heap.size w w' := by
  have hro : Fence.wide.round = none := rfl
  obtain ⟨a, c, rfl⟩ := kids_len hk
  refine callsIn_of_wp_marks Try.func42 rfl trivial ?_ hro
  simp only [Try.ntmps42, List.size_toArray, List.length_cons, List.length_nil, Nat.reduceAdd, Nat.reduceSub, Array.replicate_succ, Array.replicate_zero, List.push_toArray, List.append_toArray, List.nil_append, List.cons_append]
  gi_wp2_with (refine ⟨trivial, ?_⟩; gi_at_call 52; refine (nodes_of Fence.wide _ trivial hro _ _).mono ?_; rintro e w' ⟨rfl, rfl⟩)
  have HT := box_tree hk
  have c1 := cell_one (w.alloc (.cells #[.int .i64 t.kind, .string t.text, .int .i64 t.num, .int .i64 t.line, .slice a t.kids.length c] 45)) (.bool false) 4
  have c2 := cell_one ((w.alloc (.cells #[.int .i64 t.kind, .string t.text, .int .i64 t.num, .int .i64 t.line, .slice a t.kids.length c] 45)).alloc (.cells #[.bool false] 4)) (.int .i64 0) 3
  have c3 := cell_one (((w.alloc (.cells #[.int .i64 t.kind, .string t.text, .int .i64 t.num, .int .i64 t.line, .slice a t.kids.length c] 45)).alloc (.cells #[.bool false] 4)).alloc (.cells #[.int .i64 0] 3)) (.pointer (some ⟨w.heap.size, 0, none⟩)) 74
  simp only [World.size_alloc] at c1 c2 c3
  obtain ⟨w0, hw0⟩ : ∃ w0, w.alloc (.cells #[.int .i64 t.kind, .string t.text, .int .i64 t.num, .int .i64 t.line, .slice a t.kids.length c] 45) = w0 := ⟨_, rfl⟩
  have hz0 : w0.heap.size = w.heap.size + 1 := by rw [← hw0]; simp
  have hbw : Below w.heap.size w w0 := by rw [← hw0]; exact bl1 _ _
  rw [hw0] at c1 c2 c3 HT ⊢
  clear hw0
  have hb1 : Below w0.heap.size w0 (((w0.alloc (.cells #[.bool false] 4)).alloc (.cells #[.int .i64 0] 3)).alloc (.cells #[.pointer (some ⟨w.heap.size, 0, none⟩)] 74)) := (((Below.refl _ _).alloc (Nat.le_refl _) _).alloc (by simp) _).alloc (by simp; omega) _
  have hcs := small_count hb
  refine wpIn_rangeFunc_ownF hro (by omega) (gf := 74) (lb := #[.pointer (some ⟨w.heap.size + 1 + 1 + 1, 0, none⟩)]) rfl trivial (enters_of Try.func74 (by kernel_rfl) rfl)
    (nodes_stop Fence.wide rfl (6 - 1) trivial trivial hro w0 w.heap.size 0 (w.heap.size + 1 + 1 + 1) t _ (by simp; omega) hb1 c3.1 HT hb) belowK_t (belowK_b (by simp; omega)) (Below.refl _ _) (fun _ => rfl)
    (fun pre W => (((pre.map Nd.dat).all okP = true ∧ pre.length ≤ 600) ∧ (W.cell? ⟨w.heap.size + 1, 0, none⟩ = some (.bool false) ∧ W.frozen? ⟨w.heap.size + 1, 0, none⟩ = false) ∧ W.cell? ⟨w.heap.size + 1 + 1, 0, none⟩ = some (.int .i64 (pre.length : Int)) ∧ W.frozen? ⟨w.heap.size + 1 + 1, 0, none⟩ = false) ∧ Below w0.heap.size w0 W)
    (fun c pre W => (c = .ret ∧ ((pre.map Nd.dat).all okP = false ∨ 600 < pre.length) ∧ W.cell? ⟨w.heap.size + 1, 0, none⟩ = some (.bool false)) ∧ Below w0.heap.size w0 W)
    (OwnFrom.and (Own.from (fun s A B row hs hg hr => ⟨hs.1, ⟨cell_kept hs.2.1.1 hg hr, (frozen_kept hs.2.1.1 hg hr).trans hs.2.1.2⟩, cell_kept hs.2.2.1 hg hr, (frozen_kept hs.2.2.1 hg hr).trans hs.2.2.2⟩) _) (ownFrom_below (Nat.le_refl _) (by simp; omega)))
    (fun c => OwnFrom.and (Own.from (fun s A B row hs hg hr => ⟨hs.1, hs.2.1, cell_kept hs.2.2 hg hr⟩) _) (ownFrom_below (Nat.le_refl _) (by simp; omega)))
    ⟨⟨⟨rfl, Nat.zero_le _⟩, ⟨cell_alloc _ (cell_alloc _ c1.1), frozen_alloc _ (cell_alloc _ c1.1) (frozen_alloc _ c1.1 c1.2)⟩, cell_alloc _ c2.1, frozen_alloc _ c2.1 c2.2⟩, hb1⟩
    (fun x => { tmps := #[exV t (.slice a t.kids.length c), .pointer (some ⟨w.heap.size, 0, none⟩), .pointer (some ⟨w.heap.size + 1, 0, none⟩), .pointer (some ⟨w.heap.size + 1 + 1, 0, none⟩), .pointer (some ⟨x.1.1.1, x.1.1.2, none⟩), .int .i64 (x.1.2.2 : Int), .func (.func 74) #[] #[.pointer (some ⟨w.heap.size + 1 + 1 + 1, 0, none⟩)], .pointer (some ⟨x.1.1.1, x.1.1.2, none⟩), .int .i64 (x.1.2.2 : Int), undef, undef, undef, undef, undef, undef, undef, undef, undef, undef, undef, undef, undef], defers := [] }) ?assign ?body ?done ?stop
  case assign =>
    intro l x W K hK
    dsimp only [ndV]
    gi_wp2
    first | exact hK | simpa using hK
  case body =>
    rintro l pre x W ⟨⟨⟨hall, hle⟩, ⟨hr1, hf1⟩, hc2, hf2⟩, hB⟩ hlen
    have HALL := Lib.hid hall
    have hd2 := x.2.2.2
    have HB := Lib.hid hB
    have HZ := Lib.hid hz0
    have HTX := Lib.hid (fun W2 (hh : Below w0.heap.size w0 W2) => node_at x.1.2.1 x.2.2.1 W2 x.1.1.1 x.1.1.2 (TreeAt.mono (subw_below hh) _ x.2.1))
    have hln : (pre.length : Int) ≤ 600 := by omega
    clear hall hB hz0 c1 c2 c3 hb1 HT
    obtain ⟨W1, hW1⟩ : ∃ W1, W.setCell ⟨w.heap.size + 1 + 1, 0, none⟩ (.int .i64 ((pre.length : Int) + 1)) = W1 := ⟨_, rfl⟩
    have hs1 : W1.heap.size = W.heap.size := by rw [← hW1]; simp [World.setCell]
    have hk1 : KeepsOthers W W1 := by rw [← hW1]; exact KeepsOthers.setCell _ _ _
    have hbB : Below w0.heap.size W W1 := by rw [← hW1]; exact (Below.refl w0.heap.size W).setCell (p := ⟨w.heap.size + 1 + 1, 0, none⟩) (by rw [HZ.out]; exact Nat.le_succ _) _
    have hr3 : W1.cell? ⟨w.heap.size + 1, 0, none⟩ = some (.bool false) := by
      rw [← hW1]; exact (World.cell?_of_block (a := ⟨w.heap.size + 1, 0, none⟩) (Below.heap_setCell _ _ _ _ (show w.heap.size + 1 ≠ w.heap.size + 1 + 1 by omega))).trans hr1
    have hf3 : W1.frozen? ⟨w.heap.size + 1, 0, none⟩ = false := by rw [← hW1, World.frozen?_setCell]; exact hf1
    have hc3 : W1.cell? ⟨w.heap.size + 1 + 1, 0, none⟩ = some (.int .i64 ((pre.length : Int) + 1)) := by rw [← hW1]; exact World.cell?_setCell_same' _ _ _ (by rw [hc2]; rfl)
    have hf4 : W1.frozen? ⟨w.heap.size + 1 + 1, 0, none⟩ = false := by rw [← hW1, World.frozen?_setCell]; exact hf2
    have HB1 := Lib.hid (HB.out.trans hbB)
    have HBB := Lib.hid hbB
    have HK1 := Lib.hid hk1
    have HW1 := Lib.hid hW1
    have HS1 := Lib.hid hs1
    have HX := Lib.hid (HTX.out W1 HB1.out)
    have hbad : ∀ (h : okP x.dat = false ∨ 600 < pre.length + 1), ((pre ++ [x]).map Nd.dat).all okP = false ∨ 600 < (pre ++ [x]).length := fun h => by
      rcases h with h | h
      · left; rw [List.map_append, List.all_append, List.map_singleton]; simp [h]
      · right; simpa using h
    have HBAD := Lib.hid hbad
    clear hW1 hs1 hbB hk1 hbad
    by_cases hq : (pre.length : Int) + 1 ≤ 600
    · by_cases hd40 : (x.1.2.2 : Int) ≤ 40
      · cases hwl : x.1.2.1.well
        · rw [hwl] at HX
          have HQ := Lib.hid (HBAD.out (.inl (by unfold okP; rw [show x.dat.1.well = false from hwl]; simp)))
          clear hwl
          gi_wp2
          rw [HW1.out]
          refine ⟨trivial, ?_⟩
          refine (CallsIn.inRound l (callsIn_wide.2 HX.out)).mono ?_
          rintro e W2 ⟨rfl, hb4⟩
          have hr5 := subw_below hb4 _ _ _ hr3
          have hf5 := (hb4.frozen (p := ⟨w.heap.size + 1, 0, none⟩) (World.block_lt_of_cell? W1 _ hr3)).trans hf3
          have HB4 := Lib.hid hb4
          clear hr1 hf1 hc2 hf2 hr3 hf3 hc3 hf4 hb4
          gi_wp2
          exact ⟨(HK1.out.trans (keeps_below HB4.out)).trans (KeepsOthers.setCell _ _ _), ⟨rfl, HQ.out, World.cell?_setCell_same' _ _ _ (by rw [hr5]; rfl)⟩, (HB1.out.trans (HB4.out.mono HB1.out.size)).setCell (p := ⟨w.heap.size + 1, 0, none⟩) (by rw [HZ.out]; exact Nat.le_refl _) _⟩
        · rw [hwl] at HX
          have HQ : Hid (((pre ++ [x]).map Nd.dat).all okP = true) := Lib.hid (by
            rw [List.map_append, List.all_append, HALL.out, List.map_singleton]
            have e1 : x.dat.1.well = true := hwl
            have e2 : decide (x.dat.2 ≤ 40) = true := decide_eq_true (show x.1.2.2 ≤ 40 by omega)
            simp [okP, e1, e2])
          clear hwl
          gi_wp2
          rw [HW1.out]
          refine ⟨trivial, ?_⟩
          refine (CallsIn.inRound l (callsIn_wide.2 HX.out)).mono ?_
          rintro e W2 ⟨rfl, hb4⟩
          have hr5 := Lib.hid (subw_below hb4 _ _ _ hr3)
          have hf5 := Lib.hid ((hb4.frozen (p := ⟨w.heap.size + 1, 0, none⟩) (World.block_lt_of_cell? W1 _ hr3)).trans hf3)
          have hc5 := Lib.hid (subw_below hb4 _ _ _ hc3)
          have hf6 := Lib.hid ((hb4.frozen (p := ⟨w.heap.size + 1 + 1, 0, none⟩) (World.block_lt_of_cell? W1 _ hc3)).trans hf4)
          have HB4 := Lib.hid hb4
          clear hr1 hf1 hc2 hf2 hr3 hf3 hc3 hf4 hb4
          gi_wp2
          exact ⟨HK1.out.trans (keeps_below HB4.out), HBB.out.trans (HB4.out.mono HB1.out.size), ⟨⟨HQ.out, by rw [List.length_append, List.length_singleton]; omega⟩, ⟨hr5.out, hf5.out⟩, by rw [List.length_append, List.length_singleton, Int.natCast_add]; exact hc5.out, hf6.out⟩, HB1.out.trans (HB4.out.mono HB1.out.size)⟩
      · have HQ := Lib.hid (HBAD.out (.inl (by unfold okP; rw [decide_eq_false (show ¬ x.dat.2 ≤ 40 by show ¬ x.1.2.2 ≤ 40; omega)]; simp)))
        have hd41 : 40 < (x.1.2.2 : Int) := by omega
        gi_wp2
        rw [HW1.out]
        refine ⟨trivial, ?_⟩
        clear hr1 hf1 hc2 hf2
        gi_wp2
        exact ⟨HK1.out.trans (KeepsOthers.setCell _ _ _), ⟨rfl, HQ.out, World.cell?_setCell_same' _ _ _ (by rw [hr3]; rfl)⟩, HB1.out.setCell (p := ⟨w.heap.size + 1, 0, none⟩) (by rw [HZ.out]; exact Nat.le_refl _) _⟩
    · have HQ := Lib.hid (HBAD.out (.inr (by omega)))
      have hq1 : 600 < (pre.length : Int) + 1 := by omega
      gi_wp2
      rw [HW1.out]
      refine ⟨trivial, ?_⟩
      clear hr1 hf1 hc2 hf2
      gi_wp2
      exact ⟨HK1.out.trans (KeepsOthers.setCell _ _ _), ⟨rfl, HQ.out, World.cell?_setCell_same' _ _ _ (by rw [hr3]; rfl)⟩, HB1.out.setCell (p := ⟨w.heap.size + 1, 0, none⟩) (by rw [HZ.out]; exact Nat.le_refl _) _⟩
  case done =>
    rintro D ys W hD hys ⟨⟨⟨hall, hle⟩, ⟨hr1, hf1⟩, _, _⟩, hB⟩ hK
    have HR : Hid ((decide (t.count ≤ 600) && (t.pre 1).all okP) = true) := Lib.hid (by
      rw [← hys, hall, ← Ex.pre_len t 1, ← hys, List.length_map, decide_eq_true hle]; rfl)
    have HYS := Lib.hid hys
    clear hys hall
    gi_wp2
    have hK' := (KeepsOthers.setCell W ⟨w.heap.size + 1, 0, none⟩ (.bool true)).same D _ hK rfl
    refine ⟨by simp, .inl ⟨_, _, rfl, run_takeDeferred hK', ?_⟩⟩
    have hc5 := cell_kept (World.cell?_setCell_same' W ⟨w.heap.size + 1, 0, none⟩ (.bool true) (by rw [hr1]; rfl)) (grownBy_putObj' _ D (.deferred none)) (fun r e => by cases e; exact ⟨_, hK', rfl⟩)
    refine ⟨.bool true, ?_, by rw [HR.out], ((hbw.trans (hB.mono hbw.size)).setCell (p := ⟨w.heap.size + 1, 0, none⟩) (by simp) _).trans (belowK_b (w := w) (Nat.le_refl _) _ D _ _ (by simp at hD; omega) hK' rfl rfl)⟩
    simp [results, Try.results42, go_sem, hc5]
  case stop =>
    rintro D c pre W hD hpre ⟨⟨rfl, hbad, hcr⟩, hB⟩ hK
    have HR : Hid ((decide (t.count ≤ 600) && (t.pre 1).all okP) = false) := Lib.hid (by
      obtain ⟨r, hr⟩ := hpre
      rcases hbad with h | h
      · rw [← hr, List.all_append, h]; simp
      · have h1 := congrArg List.length hr
        rw [List.length_append, List.length_map, Ex.pre_len] at h1
        rw [decide_eq_false (by omega)]; rfl)
    have HP := Lib.hid hpre
    clear hpre hbad
    gi_wp2
    refine ⟨by simp, .inl ⟨_, _, rfl, run_takeDeferred hK, ?_⟩⟩
    have hc5 := cell_kept hcr (grownBy_putObj' _ D (.deferred none)) (fun r e => by cases e; exact ⟨_, hK, rfl⟩)
    refine ⟨.bool false, ?_, by rw [HR.out], (hbw.trans (hB.mono hbw.size)).trans (belowK_b (w := w) (Nat.le_refl _) W D _ _ (by simp at hD; omega) hK rfl rfl)⟩
    simp [results, Try.results42, go_sem, hc5]
end Go.Proofs.Ytiiogpafgoeblaa
/- Trees of the call's own: the blocks of their lists, each met once. No conditions. -/
namespace Go.Proofs.Ytiiogpafgoeblaa
open Go.RowKit
set_option linter.unusedVariables false

/-- A row of n trees' cells. -/
def RowE (w : World) (g n cap : Nat) (xs : List Value) : Prop := w.ownsRow 0 45 5 (.slice (some ⟨g, 0, none⟩) n cap) n xs
theorem RowE.cell {w : World} {g n cap : Nat} {xs : List Value} (h : RowE w g n cap xs) (j : Nat) (hj : j < n * 5) : (∃ u, w.cell? ⟨g, j, none⟩ = some u) ∧ w.frozen? ⟨g, j, none⟩ = false := by
  refine ⟨?_, World.ownsRow.frozenAt h j⟩
  rw [World.ownsRow.cellAt h j hj]
  have hl := h.1
  exact ⟨xs[j]'(by omega), List.getElem?_eq_getElem _⟩
theorem RowE.set {w : World} {g n cap : Nat} {xs : List Value} (h : RowE w g n cap xs) (j : Nat) (u : Value) : RowE (w.setCell ⟨g, j, none⟩ u) g n cap (xs.set j u) := (World.ownsRow.stored h j u).1
theorem RowE.keep {w w1 : World} {g n cap : Nat} {xs : List Value} (h : RowE w g n cap xs) (hb : w1.heap[g]? = w.heap[g]?) : RowE w1 g n cap xs := by
  refine ⟨h.1, ?_⟩
  rcases h.2 with hn | ⟨g2, cap2, cur, hv, hg, hgg, r⟩
  · exact .inl hn
  · refine .inr ⟨g2, cap2, cur, hv, hg, ?_, r⟩
    injection hv with e1 e2 e3
    injection e1 with e1
    injection e1 with e1
    subst e1
    rw [hb]; exact hgg
theorem RowE.cap {w : World} {g n cap : Nat} {xs : List Value} (h : RowE w g n cap xs) : n ≤ cap := by
  rcases h.2 with ⟨h1, h2⟩ | ⟨g2, cap2, cur, hv, hg, hgg, r, _⟩
  · cases h1
  · injection hv with e1 e2 e3; omega
theorem RowE.lt {w : World} {g n cap : Nat} {xs : List Value} (h : RowE w g n cap xs) : g < w.heap.size := (World.ownsRow.lt h g rfl).2
mutual
/-- A tree's five cells at a place, its lists in the blocks F. -/
def OwnE (w : World) (g : Nat) : Nat → Ex.T → List Nat → Prop
  | o, .node k t n l ks, F => (w.cell? ⟨g, o, none⟩ = some (.int .i64 k) ∧ w.cell? ⟨g, o + 1, none⟩ = some (.string t) ∧ w.cell? ⟨g, o + 2, none⟩ = some (.int .i64 n) ∧ w.cell? ⟨g, o + 3, none⟩ = some (.int .i64 l)) ∧ ∃ v, w.cell? ⟨g, o + 4, none⟩ = some v ∧ OwnK w v ks F
/-- A list of kids, in the blocks F. -/
def OwnK (w : World) : Value → List Ex.T → List Nat → Prop
  | v, [], F => F = [] ∧ ∃ a c, v = .slice a 0 c
  | v, x :: r, F => ∃ g c xs G1 G2, v = .slice (some ⟨g, 0, none⟩) (r.length + 1) c ∧ RowE w g (r.length + 1) c xs ∧ F = g :: (G1 ++ G2) ∧ (g ∉ G1 ∧ g ∉ G2 ∧ ∀ b ∈ G1, b ∉ G2) ∧ OwnE w g 0 x G1 ∧ OwnR w g 5 r G2
/-- Trees in a row, their lists in the blocks G. -/
def OwnR (w : World) (g : Nat) : Nat → List Ex.T → List Nat → Prop
  | _, [], G => G = []
  | o, x :: r, G => ∃ G1 G2, G = G1 ++ G2 ∧ (∀ b ∈ G1, b ∉ G2) ∧ OwnE w g o x G1 ∧ OwnR w g (o + 5) r G2
end
theorem cell_keep {w w' : World} {b : Nat} (h : w'.heap[b]? = w.heap[b]?) (o : Nat) : w'.cell? ⟨b, o, none⟩ = w.cell? ⟨b, o, none⟩ := World.cell?_of_block (a := ⟨b, o, none⟩) h
mutual
theorem OwnE.keep {w w' : World} : ∀ {g o : Nat} {F : List Nat} (t : Ex.T), (∀ j, o ≤ j → j < o + 5 → w'.cell? ⟨g, j, none⟩ = w.cell? ⟨g, j, none⟩) → (∀ b ∈ F, w'.heap[b]? = w.heap[b]?) → OwnE w g o t F → OwnE w' g o t F
  | g, o, F, .node k t n l ks, hc, hF, hx => by
    rw [OwnE] at hx ⊢
    obtain ⟨⟨a, b, c, d⟩, v, hv, hk⟩ := hx
    exact ⟨⟨(hc o (by omega) (by omega)).trans a, (hc (o + 1) (by omega) (by omega)).trans b, (hc (o + 2) (by omega) (by omega)).trans c, (hc (o + 3) (by omega) (by omega)).trans d⟩, v, (hc (o + 4) (by omega) (by omega)).trans hv, OwnK.keep ks hF hk⟩
theorem OwnK.keep {w w' : World} : ∀ {v : Value} {F : List Nat} (l : List Ex.T), (∀ b ∈ F, w'.heap[b]? = w.heap[b]?) → OwnK w v l F → OwnK w' v l F
  | v, F, [], hF, hx => by rw [OwnK] at hx ⊢; exact hx
  | v, F, x :: r, hF, hx => by
    rw [OwnK] at hx ⊢
    obtain ⟨g, c, xs, G1, G2, e, hrow, rfl, hd, hx, hr⟩ := hx
    have hg := hF g (List.mem_cons_self)
    exact ⟨g, c, xs, G1, G2, e, hrow.keep hg, rfl, hd, OwnE.keep x (fun j _ _ => cell_keep hg j) (fun b hb => hF b (List.mem_cons_of_mem _ (List.mem_append_left _ hb))) hx, OwnR.keep r (fun j _ _ => cell_keep hg j) (fun b hb => hF b (List.mem_cons_of_mem _ (List.mem_append_right _ hb))) hr⟩
theorem OwnR.keep {w w' : World} : ∀ {g o : Nat} {F : List Nat} (l : List Ex.T), (∀ j, o ≤ j → j < o + l.length * 5 → w'.cell? ⟨g, j, none⟩ = w.cell? ⟨g, j, none⟩) → (∀ b ∈ F, w'.heap[b]? = w.heap[b]?) → OwnR w g o l F → OwnR w' g o l F
  | g, o, F, [], hc, hF, hx => by rw [OwnR] at hx ⊢; exact hx
  | g, o, F, x :: r, hc, hF, hx => by
    rw [OwnR] at hx ⊢
    rw [List.length_cons] at hc
    obtain ⟨G1, G2, rfl, hd, hx, hr⟩ := hx
    exact ⟨G1, G2, rfl, hd, OwnE.keep x (fun j h1 h2 => hc j h1 (by omega)) (fun b hb => hF b (List.mem_append_left _ hb)) hx, OwnR.keep r (fun j h1 h2 => hc j (by omega) (by omega)) (fun b hb => hF b (List.mem_append_right _ hb)) hr⟩
end
mutual
theorem OwnE.at {w : World} : ∀ {g o : Nat} {F : List Nat} (t : Ex.T), OwnE w g o t F → TreeAt w g o t
  | g, o, F, .node k t n l ks, hx => by
    rw [OwnE] at hx
    rw [TreeAt]
    obtain ⟨h, v, hv, hk⟩ := hx
    exact ⟨h, v, hv, OwnK.kids ks hk⟩
theorem OwnK.kids {w : World} : ∀ {v : Value} {F : List Nat} (l : List Ex.T), OwnK w v l F → Kids w v l
  | v, F, [], hx => by rw [OwnK] at hx; rw [Kids]; exact hx.2
  | v, F, x :: r, hx => by
    rw [OwnK] at hx
    rw [Kids]
    obtain ⟨g, c, xs, G1, G2, e, hrow, rfl, hd, hx, hr⟩ := hx
    exact ⟨g, 0, c, e, hrow.cap, OwnE.at x hx, by rw [Nat.zero_add]; exact OwnR.at r hr⟩
theorem OwnR.at {w : World} : ∀ {g o : Nat} {F : List Nat} (l : List Ex.T), OwnR w g o l F → RowAt w g o l
  | g, o, F, [], hx => by rw [RowAt]; trivial
  | g, o, F, x :: r, hx => by
    rw [OwnR] at hx
    rw [RowAt]
    obtain ⟨G1, G2, rfl, hd, hx, hr⟩ := hx
    exact ⟨OwnE.at x hx, OwnR.at r hr⟩
end
theorem ownR_snoc {w : World} {g : Nat} {x : Ex.T} {F : List Nat} : ∀ {l : List Ex.T} {o : Nat} {G : List Nat}, OwnR w g o l G → OwnE w g (o + l.length * 5) x F → (∀ b ∈ G, b ∉ F) → OwnR w g o (l ++ [x]) (G ++ F) := by
  intro l
  induction l with
  | nil =>
    intro o G h hx hd
    rw [OwnR] at h
    subst h
    rw [List.nil_append, List.nil_append, OwnR]
    refine ⟨F, [], by simp, by simp, by simpa using hx, ?_⟩
    rw [OwnR]
  | cons y r ih =>
    intro o G h hx hd
    rw [OwnR] at h
    obtain ⟨G1, G2, rfl, hd2, hy, hr⟩ := h
    rw [List.cons_append, OwnR]
    refine ⟨G1, G2 ++ F, by simp, ?_, hy, ih hr (by rw [List.length_cons] at hx; rw [show o + 5 + r.length * 5 = o + (r.length + 1) * 5 by omega]; exact hx) (fun b hb => hd b (List.mem_append_right _ hb))⟩
    intro b hb hb2
    rcases List.mem_append.1 hb2 with h | h
    · exact hd2 b hb h
    · exact hd b (List.mem_append_left _ hb) h
theorem ownE_of {w : World} {g o : Nat} {t : Ex.T} {v : Value} {F : List Nat} (h : w.cell? ⟨g, o, none⟩ = some (.int .i64 t.kind) ∧ w.cell? ⟨g, o + 1, none⟩ = some (.string t.text) ∧ w.cell? ⟨g, o + 2, none⟩ = some (.int .i64 t.num) ∧ w.cell? ⟨g, o + 3, none⟩ = some (.int .i64 t.line)) (hv : w.cell? ⟨g, o + 4, none⟩ = some v) (hk : OwnK w v t.kids F) : OwnE w g o t F := by
  cases t; rw [OwnE]; exact ⟨h, v, hv, hk⟩
/-- A row that is filled is a list of kids. -/
theorem ownK_of {w : World} {g c : Nat} {xs : List Value} {l : List Ex.T} {G : List Nat} (hr : RowE w g l.length c xs) (ho : OwnR w g 0 l G) (hg : g ∉ G) : OwnK w (.slice (some ⟨g, 0, none⟩) l.length c) l (if l = [] then [] else g :: G) := by
  cases l with
  | nil => rw [OwnK, if_pos rfl]; exact ⟨rfl, _, _, rfl⟩
  | cons x r =>
    rw [OwnR] at ho
    obtain ⟨G1, G2, rfl, hd, hx, hr2⟩ := ho
    rw [OwnK, if_neg (by simp)]
    rw [Nat.zero_add] at hr2
    exact ⟨g, c, xs, G1, G2, rfl, hr, rfl, ⟨fun h => hg (List.mem_append_left _ h), fun h => hg (List.mem_append_right _ h), hd⟩, hx, hr2⟩
/-- Blocks from B on, of the world. -/
def Foot (B : Nat) (w : World) (F : List Nat) : Prop := ∀ b ∈ F, B ≤ b ∧ b < w.heap.size
/-- What makes a tree or a list answers. -/
def RetK (w : World) (ks : List Ex.T) (e : Ending) (w' : World) : Prop := ∃ v F, e = .returned v ∧ OwnK w' v ks F ∧ Foot w.heap.size w' F ∧ Below w.heap.size w w'
def RetE (w : World) (t : Ex.T) (e : Ending) (w' : World) : Prop := ∃ v F, e = .returned (exV t v) ∧ OwnK w' v t.kids F ∧ Foot w.heap.size w' F ∧ Below w.heap.size w w'
/-- Where the filling of a list stands. -/
def FillAt (w : World) (g : Nat) (ks : List Ex.T) (k : Nat) (wr : World) : Prop := ∃ xs G, RowE wr g ks.length ks.length xs ∧ OwnR wr g 0 (ks.take k) G ∧ (∀ b ∈ G, g < b ∧ b < wr.heap.size) ∧ Below w.heap.size w wr
theorem FillAt.cells {w wr : World} {g k : Nat} {ks : List Ex.T} (h : FillAt w g ks k wr) (j : Nat) (hj : j < ks.length * 5) : (∃ u, wr.cell? ⟨g, j, none⟩ = some u) ∧ wr.frozen? ⟨g, j, none⟩ = false := by
  obtain ⟨xs, G, hr, _⟩ := h
  exact hr.cell j hj
/-- The five stores of a tree. -/
abbrev put5 (w : World) (g o : Nat) (t : Ex.T) (v : Value) : World := ((((w.setCell ⟨g, o, none⟩ (.int .i64 t.kind)).setCell ⟨g, o + 1, none⟩ (.string t.text)).setCell ⟨g, o + 2, none⟩ (.int .i64 t.num)).setCell ⟨g, o + 3, none⟩ (.int .i64 t.line)).setCell ⟨g, o + 4, none⟩ v
theorem FillAt.next {w wr w1 : World} {g k : Nat} {ks : List Ex.T} {v : Value} {F : List Nat} (h : FillAt w g ks k wr) (hg : w.heap.size ≤ g) (hk : k < ks.length) (hb : Below wr.heap.size wr w1) (ho : OwnK w1 v (ks[k]).kids F) (hF : Foot wr.heap.size w1 F) :
    FillAt w g ks (k + 1) (put5 w1 g (k * 5) ks[k] v) := by
  obtain ⟨xs, G, hr, hR, hG, hB⟩ := h
  have hgl := hr.lt
  have hr1 : RowE w1 g ks.length ks.length xs := hr.keep (hb.block g hgl)
  have hR1 : OwnR w1 g 0 (ks.take k) G := OwnR.keep _ (fun j _ _ => cell_keep (hb.block g hgl) j) (fun b hb2 => hb.block b (hG b hb2).2) hR
  have hlen : (ks.take k).length = k := by rw [List.length_take]; omega
  have hne : ∀ b, b ≠ g → ∀ (W : World) (o : Nat) (u : Value), (W.setCell ⟨g, o, none⟩ u).heap[b]? = W.heap[b]? := fun b hb W o u => Below.heap_setCell W ⟨g, o, none⟩ u b hb
  have hput : ∀ b, b ≠ g → (put5 w1 g (k * 5) ks[k] v).heap[b]? = w1.heap[b]? := fun b hb => by unfold put5; rw [hne b hb, hne b hb, hne b hb, hne b hb, hne b hb]
  have hcell : ∀ j, j < k * 5 → (put5 w1 g (k * 5) ks[k] v).cell? ⟨g, j, none⟩ = w1.cell? ⟨g, j, none⟩ := by
    intro j hj
    unfold put5
    have c : ∀ (W : World) (o : Nat) (u : Value), o ≠ j → (W.setCell ⟨g, o, none⟩ u).cell? ⟨g, j, none⟩ = W.cell? ⟨g, j, none⟩ := by
      intro W o u ho
      have : ¬ j = o := fun e => ho e.symm
      go_simp
    rw [c _ _ _ (by omega), c _ _ _ (by omega), c _ _ _ (by omega), c _ _ _ (by omega), c _ _ _ (by omega)]
  have hfg : ∀ b ∈ F, b ≠ g := fun b hb e => by have := (hF b hb).1; omega
  have hgg : ∀ b ∈ G, b ≠ g := fun b hb e => by have := (hG b hb).1; omega
  have hnew : OwnE (put5 w1 g (k * 5) ks[k] v) g (k * 5) ks[k] F := by
    obtain ⟨a0, f0⟩ := hr1.cell (k * 5) (by omega)
    obtain ⟨a1, f1⟩ := hr1.cell (k * 5 + 1) (by omega)
    obtain ⟨a2, f2⟩ := hr1.cell (k * 5 + 2) (by omega)
    obtain ⟨a3, f3⟩ := hr1.cell (k * 5 + 3) (by omega)
    obtain ⟨a4, f4⟩ := hr1.cell (k * 5 + 4) (by omega)
    obtain ⟨u0, a0⟩ := a0
    obtain ⟨u1, a1⟩ := a1
    obtain ⟨u2, a2⟩ := a2
    obtain ⟨u3, a3⟩ := a3
    obtain ⟨u4, a4⟩ := a4
    refine ownE_of ⟨?_, ?_, ?_, ?_⟩ ?_ (OwnK.keep _ (fun b hb => hput b (hfg b hb)) ho)
    all_goals (unfold put5; go_simp)
  refine ⟨_, G ++ F, ((((hr1.set _ _).set _ _).set _ _).set _ _).set _ _, ?_, ?_, ?_⟩
  · rw [List.take_succ_eq_append_getElem hk]
    refine ownR_snoc (OwnR.keep _ (fun j h1 h2 => hcell j (by rw [hlen] at h2; omega)) (fun b hb2 => hput b (hgg b hb2)) hR1) ?_ ?_
    · rw [hlen, Nat.zero_add]; exact hnew
    · intro b hb1 hb2
      have := (hF b hb2).1
      have := (hG b hb1).2
      omega
  · intro b hb2
    have hs : (put5 w1 g (k * 5) ks[k] v).heap.size = w1.heap.size := by simp [put5, World.setCell]
    have := hb.size
    rw [hs]
    rcases List.mem_append.1 hb2 with h | h
    · have := hG b h; omega
    · have := hF b h; omega
  · have h2 : Below w.heap.size w w1 := hB.trans (hb.mono hB.size)
    exact ((((h2.setCell (p := ⟨g, k * 5, none⟩) hg _).setCell (p := ⟨g, k * 5 + 1, none⟩) hg _).setCell (p := ⟨g, k * 5 + 2, none⟩) hg _).setCell (p := ⟨g, k * 5 + 3, none⟩) hg _).setCell (p := ⟨g, k * 5 + 4, none⟩) hg _
end Go.Proofs.Ytiiogpafgoeblaa
