/- Joined texts: V46. No conditions besides those that each states. -/
import Derived.Test.YtckjmmapekaapaaGreatDoorZ35
import Derived.Test.YtckjmmapekaapaaGreatDoorZ48
/- The program's mainFault, countCases, ofKid. No conditions. -/
namespace Go.Proofs.YtckjmmapekaapaaGreatDoor
open Go.RowKit Go.Shelf
set_option linter.unusedVariables false
attribute [local go_sem] Oper.semAt_some

/-- What is said if no procedure begins the program. -/
def mainF (u : Un) : Int × Int := if u.procs.any isMain then (0, 0) else (3, 0)
theorem any_of_at {α : Type} {f : α → Bool} {l : List α} {k : Nat} (hk : k < l.length) (h : f l[k] = true) : l.any f = true := List.any_eq_true.2 ⟨_, List.getElem_mem hk, h⟩
set_option maxRecDepth 100000 in
set_option maxHeartbeats 3200000 in
theorem impl_main (u : Un) (hl12 : u.procs.length ≤ 12) (hpl : ∀ p ∈ u.procs, p.params.length ≤ 6) (w : World) (v1 v2 v3 : Value) (h : UnIs w u v1 v2 v3) (gu : Nat) (hu : Var w gu [v1, v2, v3]) :
    Calls Tryz.prog 65 #[.pointer (some ⟨gu, 0, none⟩)] w (RetM w (mainF u)) := by
  unfold RetM
  have HU := Lib.hid (fun W (hW : Below w.heap.size w W) => h.2.2.later hW)
  obtain ⟨a3, c3, rfl⟩ := is_slice h.2.2
  have HPL := Lib.hid hpl
  have x2 := ((hu.later (bl1 w (.cells #[.int .i64 0, .int .i64 0] 74))) 2 _ rfl).1
  have HST : Hid (Var (w.alloc (.cells #[.int .i64 0, .int .i64 0] 74)) w.heap.size [.int .i64 0, .int .i64 0] ∧ Below w.heap.size w (w.alloc (.cells #[.int .i64 0, .int .i64 0] 74))) := Lib.hid ⟨Var.new w #[.int .i64 0, .int .i64 0] 74, bl1 _ _⟩
  have hl : (u.procs.length : Int) ≤ 12 := by omega
  clear h hpl hu
  go_enter Tryz.func65, Tryz.ntmps65
  go_wp2
  clear x2
  go_loopw [4, 10] (fun _ i wr => ∃ k : Nat, i = .int .i64 k ∧ k ≤ u.procs.length ∧ (u.procs.take k).any isMain = false ∧ Var wr w.heap.size [.int .i64 0, .int .i64 0] ∧ Below w.heap.size w wr) (fun _ i _ => u.procs.length - (intOf i).toNat)
  case atStart => exact ⟨0, rfl, Nat.zero_le _, rfl, HST.out⟩
  case round =>
    clear HST
    obtain ⟨k, rfl, hk, hm, hv, hbw⟩ := hrel
    have HM := Lib.hid hm
    by_cases hlt : k < u.procs.length
    · obtain ⟨g, o, rfl, q0, ⟨y5, q1, k5⟩, ⟨y6, q2, k6⟩, ⟨q3, q4, q5, q6⟩, ⟨y7, q7, k7⟩, q8⟩ := proc_at (HU.out wr hbw) k hlt
      have k0 : (0 : Int) ≤ (k : Int) := by omega
      have k1 : (k : Int) < u.procs.length := by omega
      have HY := Lib.hid (fun (hy : isMain u.procs[k] = true) => show mainF u = (0, 0) from by unfold mainF; rw [any_of_at hlt hy]; rfl)
      have HNO := Lib.hid (fun (hy : isMain u.procs[k] = false) => show (u.procs.take (k + 1)).any isMain = false from by rw [any_take_succ isMain u.procs k hlt, HM.out, hy]; rfl)
      have hp6 := HPL.out _ (List.getElem_mem hlt)
      obtain ⟨e5, d5, rfl⟩ := is_slice k5
      obtain ⟨e6, d6, rfl⟩ := is_slice k6
      obtain ⟨e7, d7, rfl⟩ := kids_len k7
      have HV := Lib.hid hv
      have HB := Lib.hid hbw
      clear k5 k6 k7 hv hbw hm
      generalize u.procs[k] = x at q0 q1 q2 q3 q4 q5 q6 q7 q8 HY HNO hp6
      have HLT := Lib.hid hlt
      clear hlt
      have HMD : Hid (isMain x = (eqN x.name ⟨#[109, 97, 105, 110]⟩ && x.params.length == 0)) := Lib.hid rfl
      have VN := Lib.hid (Var.new wr #[.string x.name, .slice e5 x.params.length d5, .slice e6 x.locals.length d6, .int .i64 x.body.kind, .string x.body.text, .int .i64 x.body.num, .int .i64 x.body.line, .slice e7 x.body.kids.length d7, .int .i64 x.line] 49)
      have n1 := bl1 wr (.cells #[.string x.name, .slice e5 x.params.length d5, .slice e6 x.locals.length d6, .int .i64 x.body.kind, .string x.body.text, .int .i64 x.body.num, .int .i64 x.body.line, .slice e7 x.body.kids.length d7, .int .i64 x.line] 49)
      obtain ⟨w1, hw1⟩ : ∃ W, wr.alloc (.cells #[.string x.name, .slice e5 x.params.length d5, .slice e6 x.locals.length d6, .int .i64 x.body.kind, .string x.body.text, .int .i64 x.body.num, .int .i64 x.body.line, .slice e7 x.body.kids.length d7, .int .i64 x.line] 49) = W := ⟨_, rfl⟩
      rw [hw1] at VN n1
      have HV1 := Lib.hid (HV.out.later n1)
      have HB1 := Lib.hid (below_then HB.out n1)
      have HW1 := Lib.hid hw1
      clear n1 hw1
      have p0 := (VN.out 0 _ rfl).1
      have p1 := (VN.out 1 _ rfl).1
      rw [← HW1.out] at p0 p1
      cases he : eqN x.name ⟨#[109, 97, 105, 110]⟩
      case false =>
        have t1 : (x.name.toList == [109, 97, 105, 110]) = false := main_at he
        have HN := Lib.hid (HNO.out (by rw [HMD.out, he]; rfl))
        clear he HY HNO
        go_wp2
        rw [HW1.out]
        go_roundw
        case rel => exact ⟨k + 1, by go_num, HLT.out, HN.out, HV1.out, HB1.out⟩
        case measure => have := HLT.out; first | (simp [intOf]; done) | (simp [intOf]; omega)
      case true =>
        have t1 : (x.name.toList == [109, 97, 105, 110]) = true := main_at he
        by_cases hz0 : x.params.length = 0
        · have t2 : ((x.params.length : Int) == 0) = true := by simp [hz0]
          have HX := Lib.hid (HY.out (by rw [HMD.out, he, hz0]; rfl))
          clear he hz0 HY HNO
          obtain ⟨e0, f0⟩ := HV1.out 0 _ rfl
          obtain ⟨e1, f1x⟩ := HV1.out 1 _ rfl
          rw [← HW1.out] at e0 f0 e1 f1x
          go_wp2
          rw [HW1.out] at e0 e1
          rw [HW1.out]
          exact bodyPost_ret (v := .agg #[.int .i64 0, .int .i64 0]) (by simp [results, Tryz.results65, go_sem, e0, e1]) rfl ⟨df_ret HX.out, (HB1.out.setCell (p := ⟨w.heap.size, 0, none⟩) (Nat.le_refl _) _).setCell (p := ⟨w.heap.size, 1, none⟩) (Nat.le_refl _) _⟩
        · have t2 : ((x.params.length : Int) == 0) = false := kind_nb (by omega)
          have HN := Lib.hid (HNO.out (by rw [HMD.out, he]; simp [hz0]))
          clear he hz0 HY HNO
          go_wp2
          rw [HW1.out]
          go_roundw
          case rel => exact ⟨k + 1, by go_num, HLT.out, HN.out, HV1.out, HB1.out⟩
          case measure => have := HLT.out; first | (simp [intOf]; done) | (simp [intOf]; omega)
    · obtain rfl : k = u.procs.length := by omega
      have HX : Hid (mainF u = (3, 0)) := Lib.hid (by unfold mainF; have := HM.out; rw [List.take_length] at this; rw [this]; rfl)
      have HB := Lib.hid hbw
      obtain ⟨e0, f0⟩ := hv 0 _ rfl
      obtain ⟨e1, f1x⟩ := hv 1 _ rfl
      clear hm hv hbw
      go_wp2
      exact bodyPost_ret (v := .agg #[.int .i64 3, .int .i64 0]) (by simp [results, Tryz.results65, go_sem, e0, e1]) rfl ⟨df_ret HX.out, (HB.out.setCell (p := ⟨w.heap.size, 0, none⟩) (Nat.le_refl _) _).setCell (p := ⟨w.heap.size, 1, none⟩) (Nat.le_refl _) _⟩
/-- How many case expressions among what has come. -/
def csP (l : List (Ex.T × Nat)) : Nat := l.countP fun x => x.1.kind == 20
theorem csP_app (a b : List (Ex.T × Nat)) : csP (a ++ b) = csP a + csP b := by unfold csP; rw [List.countP_append]
mutual
theorem csN_pre : ∀ (t : Ex.T) (d : Nat), csP (t.pre d) = csN t
  | .node k t n l ks, d => by
    rw [Ex.T.pre, csN, ← csNs_pre ks (d + 1)]
    unfold csP
    rw [List.countP_cons]
    show _ + (if (k == 20) = true then 1 else 0) = _
    omega
theorem csNs_pre : ∀ (l : List Ex.T) (d : Nat), csP (Ex.pres l d) = csNs l
  | [], d => by rw [Ex.pres, csNs]; rfl
  | x :: r, d => by
    rw [Ex.pres, csNs, csP_app, csN_pre x d, csNs_pre r d]
end
theorem csP_le (l : List (Ex.T × Nat)) : csP l ≤ l.length := List.countP_le_length
set_option maxRecDepth 100000 in
set_option maxHeartbeats 3200000 in
theorem cases_in (t : Ex.T) (hb : t.bulk ≤ 1048576) (g o : Nat) (w : World) (ht : TreeAt w g o t) :
    CallsIn Fence.wide 6 Tryz.prog 88 #[.pointer (some ⟨g, o, none⟩)] w fun e w' => e = .returned (.int .i64 (csN t : Int)) ∧ Below w.heap.size w w' := by
  have hro : Fence.wide.round = none := rfl
  have hcs := small_count hb
  refine callsIn_of_wp_marks Tryz.func88 rfl trivial ?_ hro
  simp only [Tryz.ntmps88, List.size_toArray, List.length_cons, List.length_nil, Nat.reduceAdd, Nat.reduceSub, Array.replicate_succ, Array.replicate_zero, List.push_toArray, List.append_toArray, List.nil_append, List.cons_append]
  gi_wp2_with fail
  refine ⟨trivial, ?_⟩
  refine (nodes_of Fence.wide _ trivial hro _ _).mono ?_
  rintro e w7 ⟨rfl, rfl⟩
  gi_wp2_with fail
  have c1 := cell_one w (.int .i64 0) 3
  have c2 := cell_one (w.alloc (.cells #[.int .i64 0] 3)) (.pointer (some ⟨g, o, none⟩)) 98
  rw [World.size_alloc] at c2
  have hB0 : Below w.heap.size w ((w.alloc (.cells #[.int .i64 0] 3)).alloc (.cells #[.pointer (some ⟨g, o, none⟩)] 98)) := ((Below.refl _ w).alloc (Nat.le_refl _) _).alloc (by simp) _
  have d1 : ((w.alloc (.cells #[.int .i64 0] 3)).alloc (.cells #[.pointer (some ⟨g, o, none⟩)] 98)).cell? ⟨w.heap.size, 0, none⟩ = some (.int .i64 ((csP [] : Nat) : Int)) := cell_alloc _ c1.1
  have d2 := frozen_alloc (W := w.alloc (.cells #[.int .i64 0] 3)) (.cells #[.pointer (some ⟨g, o, none⟩)] 98) c1.1 c1.2
  have hz7 : ((w.alloc (.cells #[.int .i64 0] 3)).alloc (.cells #[.pointer (some ⟨g, o, none⟩)] 98)).heap.size = w.heap.size + 2 := by simp
  generalize (w.alloc (.cells #[.int .i64 0] 3)).alloc (.cells #[.pointer (some ⟨g, o, none⟩)] 98) = w7 at c2 hB0 d1 d2 hz7 ⊢
  have HC2 := Lib.hid c2
  have HB0 := Lib.hid hB0
  have HD := Lib.hid (And.intro d1 d2)
  have HZ7 := Lib.hid hz7
  have HT := Lib.hid ht
  clear c1 c2 hB0 d1 d2 hz7 ht
  refine wpIn_rangeFunc_ownF hro (by omega) (gf := 76) (lb := #[.pointer (some ⟨w.heap.size + 1, 0, none⟩)]) rfl trivial (enters_of Tryz.func76 (by kernel_rfl) rfl)
    (nodes_stop Fence.wide rfl (6 - 1) trivial trivial hro w g o (w.heap.size + 1) t w7 (by rw [HZ7.out]; omega) HB0.out HC2.out.1 HT.out hb) belowK_t (belowK_b (by rw [HZ7.out]; omega)) (Below.refl _ _) (fun _ => rfl)
    (fun pre W => (W.cell? ⟨w.heap.size, 0, none⟩ = some (.int .i64 ((csP (pre.map Nd.dat) : Nat) : Int)) ∧ W.frozen? ⟨w.heap.size, 0, none⟩ = false) ∧ Below w.heap.size w W)
    (fun _ _ _ => False)
    (OwnFrom.and (Own.from (fun s A B row hs hg hr => ⟨cell_kept hs.1 hg hr, (frozen_kept hs.1 hg hr).trans hs.2⟩) _) (ownFrom_below (Nat.le_refl _) (by rw [HZ7.out]; omega)))
    (fun _ _ _ _ _ hs _ _ => hs)
    ⟨HD.out, HB0.out⟩ ?a1 ?assign ?body ?done ?stop
  case assign =>
    intro l x W K hK
    dsimp only [ndV]
    gi_wp2
    exact hK
  case body =>
    rintro l pre x W ⟨⟨hc, hf⟩, hB⟩ hlen
    have hl1 := csP_le (pre.map Nd.dat)
    rw [List.length_map] at hl1
    have hc1 : ((csP (pre.map Nd.dat) : Nat) : Int) < 1048578 := by omega
    have hc0 : (0 : Int) ≤ ((csP (pre.map Nd.dat) : Nat) : Int) := by omega
    obtain ⟨⟨q0, q1, q2, q3⟩, _, _⟩ := tree_cells (TreeAt.mono (subw_below hB) _ x.2.1)
    have HSN : Hid (csP ((pre ++ [x]).map Nd.dat) = csP (pre.map Nd.dat) + (if x.1.2.1.kind == 20 then 1 else 0)) := Lib.hid (by
      rw [List.map_append, csP_app]
      unfold csP
      rw [List.map_singleton, List.countP_singleton]; rfl)
    have HBW := Lib.hid hB
    have HF := Lib.hid hf
    have HCC := Lib.hid hc
    clear hB hlen hl1
    cases hk : x.1.2.1.kind == 20
    · rw [hk] at HSN
      gi_wp2
      exact ⟨KeepsOthers.refl _, Below.refl _ _, ⟨by rw [HSN.out]; exact HCC.out, HF.out⟩, HBW.out⟩
    · rw [hk] at HSN
      gi_wp2
      exact ⟨KeepsOthers.setCell _ _ _, (Below.refl w.heap.size W).setCell (p := ⟨w.heap.size, 0, none⟩) (Nat.le_refl _) _, ⟨by rw [HSN.out]; exact World.cell?_setCell_same' _ _ _ (by rw [HCC.out]; rfl), by rw [World.frozen?_setCell]; exact HF.out⟩, HBW.out.setCell (p := ⟨w.heap.size, 0, none⟩) (Nat.le_refl _) _⟩
  case done =>
    rintro D ys W hD hys ⟨⟨hc, _⟩, hB⟩ hK
    rw [hys, csN_pre] at hc
    gi_wp2
    refine ⟨by simp, .inl ⟨_, _, rfl, run_takeDeferred hK, ?_⟩⟩
    exact ⟨_, results_tmp rfl _ _ _, rfl, hB.trans (belowK_b (w := w) (Nat.le_refl _) W D _ _ (by rw [HZ7.out] at hD; omega) hK rfl rfl)⟩
  case stop =>
    rintro D c pre W _ _ h _
    exact h.elim
theorem impl_cases (t : Ex.T) (hb : t.bulk ≤ 1048576) (g o : Nat) (w : World) (ht : TreeAt w g o t) : Calls Tryz.prog 88 #[.pointer (some ⟨g, o, none⟩)] w fun e w' => e = .returned (.int .i64 (csN t : Int)) ∧ Below w.heap.size w w' :=
  (callsIn_wide (n := 6)).1 (cases_in t hb g o w ht)
end Go.Proofs.YtckjmmapekaapaaGreatDoor
