/- Joined texts: V30, V31, V21. No conditions besides those that each states. -/
import Derived.Test.YtkhcbahbffjnkaaDoorRows
import Derived.LaidLaws
import Derived.MakeChecks
import Derived.OpenShut
import Derived.Test.YtkhcbahbffjnkaaDoorZ17
import Derived.Test.YtkhcbahbffjnkaaDoorZ24
import Derived.Test.YtkhcbahbffjnkaaDoorZ37
import Derived.Test.YtkhcbahbffjnkaaDoorZ38
import Derived.Test.YtkhcbahbffjnkaaDoorZ39
import Derived.Test.YtkhcbahbffjnkaaDoorZ40
/- The program's LocalNames and ResolveName. The table reads as the program's text lays it. -/
namespace Go.Proofs.YtkhcbahbffjnkaaDoor
open Go.RowKit
set_option linter.unusedVariables false

theorem strsB_app (a b : List ByteArray) : strsB (a ++ b) = strsB a + strsB b := by
  unfold strsB
  rw [wsum_app, List.length_append]; omega
theorem strsB_one (x : ByteArray) : strsB [x] = 1 + x.size := by unfold strsB; simp [wsum]
mutual
theorem coll_size (u : Un) : ∀ (t : Ex.T) (acc : List ByteArray), strsB (coll u t acc) ≤ strsB acc + (t.bulk + 1)
  | .node k t n l ks, acc => by
    rw [coll, Ex.T.bulk]
    have h := colls_size u ks acc
    split
    · split
      · rw [strsB_app, strsB_one]; omega
      · omega
    · omega
theorem colls_size (u : Un) : ∀ (ks : List Ex.T) (acc : List ByteArray), strsB (colls u ks acc) ≤ strsB acc + (ks.length + Ex.bulks ks)
  | [], acc => by rw [colls, Ex.bulks]; omega
  | x :: r, acc => by
    rw [colls, Ex.bulks, List.length_cons]
    have h1 := coll_size u x acc
    have h2 := colls_size u r (coll u x acc)
    omega
end
theorem locs_size {u : Un} (hb : u.bulk ≤ 1048576) {p : Pc} (hp : p ∈ u.procs) : strsB (locs u p) ≤ 1048576 := by
  have h1 := coll_size u p.body (p.params ++ p.locals)
  rw [strsB_app] at h1
  have h2 := wsum_mem Pc.bulk hp
  have h3 := List.length_pos_of_mem hp
  unfold locs
  unfold Un.bulk procsB at hb
  have h4 : p.bulk = p.name.size + (strsB p.params + (strsB p.locals + p.body.bulk)) := rfl
  omega
/-- Is the unit valid, and is there such a procedure? -/
def hasP (u : Un) (k : Int) : Bool := (decide (0 ≤ k) && decide (k < u.procs.length)) && u.valid
set_option maxRecDepth 100000 in
set_option maxHeartbeats 1600000 in
theorem impl_hasproc (u : Un) (hb : u.bulk ≤ 1048576) (k : Int) (w : World) (v1 v2 v3 : Value) (h : UnIs w u v1 v2 v3) : Calls Tryd.prog 24 #[unV v1 v2 v3, .int .i64 k] w fun e w' => e = .returned (.bool (hasP u k)) ∧ Below w.heap.size w w' := by
  obtain ⟨_, _, l3⟩ := un_lens hb
  obtain ⟨h1, h2, h3⟩ := h
  have HV := Lib.hid (fun W (hW : Below w.heap.size w W) => impl_validunit u hb W v1 v2 v3 ⟨h1.later hW, h2.later hW, h3.later hW⟩)
  obtain ⟨a1, c1, rfl⟩ := is_slice h1
  obtain ⟨a2, c2, rfl⟩ := is_slice h2
  obtain ⟨a3, c3, rfl⟩ := is_slice h3
  have B0 := Lib.hid (bl1 w (.cells #[.slice a1 u.recs.length c1, .slice a2 u.globs.length c2, .slice a3 u.procs.length c3] 28))
  have V0 := Lib.hid (Var.new w #[.slice a1 u.recs.length c1, .slice a2 u.globs.length c2, .slice a3 u.procs.length c3] 28)
  obtain ⟨w1, hw1⟩ : ∃ W, w.alloc (.cells #[.slice a1 u.recs.length c1, .slice a2 u.globs.length c2, .slice a3 u.procs.length c3] 28) = W := ⟨_, rfl⟩
  rw [hw1] at B0 V0
  have HW1 := Lib.hid hw1
  have HVC := Lib.hid (HV.out w1 B0.out)
  clear h1 h2 h3 hw1 HV hb
  by_cases hk0 : 0 ≤ k
  · by_cases hkn : k < u.procs.length
    · have HX : Hid (hasP u k = u.valid) := Lib.hid (by unfold hasP; rw [decide_eq_true hk0, decide_eq_true hkn]; rfl)
      rw [HX.out]
      generalize u.valid = b at HVC ⊢
      go_enter Tryd.func24, Tryd.ntmps24
      go_wp2_with fail
      rw [HW1.out]
      have x0 := (V0.out 0 _ rfl).1
      have x1 := (V0.out 1 _ rfl).1
      have x2 := (V0.out 2 _ rfl).1
      go_wp2_with fail
      refine HVC.out.mono ?_
      rintro e w2 ⟨rfl, b2⟩
      have B2 := Lib.hid (below_then B0.out b2)
      clear b2
      go_wp2
      go_ret
      exact ⟨rfl, B2.out⟩
    · have HX : Hid (hasP u k = false) := Lib.hid (by unfold hasP; rw [decide_eq_true hk0, decide_eq_false hkn]; rfl)
      rw [HX.out]
      go_enter Tryd.func24, Tryd.ntmps24
      go_wp2_with fail
      rw [HW1.out]
      have x0 := (V0.out 0 _ rfl).1
      have x1 := (V0.out 1 _ rfl).1
      have x2 := (V0.out 2 _ rfl).1
      go_wp2
      go_ret
      exact ⟨rfl, B0.out⟩
  · have HX : Hid (hasP u k = false) := Lib.hid (by unfold hasP; rw [decide_eq_false hk0]; rfl)
    rw [HX.out]
    go_enter Tryd.func24, Tryd.ntmps24
    go_wp2_with fail
    rw [HW1.out]
    have x0 := (V0.out 0 _ rfl).1
    have x1 := (V0.out 1 _ rfl).1
    have x2 := (V0.out 2 _ rfl).1
    go_wp2
    go_ret
    exact ⟨rfl, B0.out⟩
theorem hasP_no {u : Un} {k : Int} (h : hasP u k = false) : lnames u k = [] ∧ ∀ s, resv u k s = (0, 0) := by
  unfold hasP at h
  by_cases h1 : u.valid = true
  · by_cases h2 : 0 ≤ k
    · by_cases h3 : k < u.procs.length
      · rw [h1, decide_eq_true h2, decide_eq_true h3] at h; cases h
      · exact ⟨lnames_far (by omega), fun s => resv_far (by omega)⟩
    · exact ⟨lnames_neg (by omega), fun s => resv_neg (by omega)⟩
  · have h1 : u.valid = false := by simpa using h1
    exact ⟨lnames_bad h1, fun s => resv_bad h1⟩
theorem hasP_yes {u : Un} {k : Int} (h : hasP u k = true) : u.valid = true ∧ ∃ n : Nat, k = (n : Int) ∧ n < u.procs.length := by
  unfold hasP at h
  simp only [Bool.and_eq_true, decide_eq_true_eq] at h
  exact ⟨h.2, k.toNat, by omega, by omega⟩
theorem un_names {u : Un} (hb : u.bulk ≤ 1048576) (hv : u.valid = true) : UnNames u := by
  have hv2 := hv
  unfold Un.valid at hv2
  simp only [Bool.and_eq_true, decide_eq_true_eq] at hv2
  have hg := hv2.2.2.1
  unfold nmOk at hg
  simp only [Bool.and_eq_true, decide_eq_true_eq] at hg
  unfold Un.bulk recsB procsB at hb
  have hgs := fun s hs => str_bound (l := u.globs) (by omega) s hs
  refine ⟨fun r hr => ?_, fun s hs => by have := hgs s hs; unfold maxLen; omega, fun p hp => ?_, hv2.1, hg.2, hv2.2.1⟩
  · have h1 := wsum_mem Rc.bulk hr
    have h2 : r.bulk = r.name.size + strsB r.fields := rfl
    unfold maxLen; omega
  · have h1 := wsum_mem Pc.bulk hp
    have h2 : p.bulk = p.name.size + (strsB p.params + (strsB p.locals + p.body.bulk)) := rfl
    unfold maxLen; omega
theorem impl_scope (u : Un) (hb : u.bulk ≤ 1048576) (hv : u.valid = true) (w : World) (v1 v2 v3 : Value) (h : UnIs w u v1 v2 v3) (gu : Nat) (hu : Var w gu [v1, v2, v3]) (hN : NamesAt w) (n : Nat) (hn : n < u.procs.length) :
    Calls Tryd.prog 26 #[.pointer (some ⟨gu, 0, none⟩), .int .i64 (n : Int)] w (RetSc w (locs u u.procs[n]) (meanU u (locs u u.procs[n]))) := by
  have hpo := proc_ok hv (List.getElem_mem hn)
  have hv2 := hv
  unfold Un.valid at hv2
  simp only [Bool.and_eq_true, decide_eq_true_eq] at hv2
  have hpv := List.all_eq_true.1 hv2.2.2.2.2 u.procs[n] (List.getElem_mem hn)
  unfold Pc.valid exOk at hpv
  simp only [Bool.and_eq_true, decide_eq_true_eq] at hpv
  have hbb := hb
  unfold Un.bulk procsB at hbb
  have h1 : u.procs[n].bulk ≤ wsum Pc.bulk u.procs := wsum_mem Pc.bulk (List.getElem_mem hn)
  have h2 : u.procs[n].bulk = u.procs[n].name.size + (strsB u.procs[n].params + (strsB u.procs[n].locals + u.procs[n].body.bulk)) := rfl
  refine (callsIn_wide (n := 6)).1 (scope_in u (un_names hb hv) w v1 v2 v3 h gu 0 (hu 0 _ rfl).1 (hu 1 _ rfl).1 (hu 2 _ rfl).1 hN n hn (nk_valid _ 1 hpv.2.2.2.2.2.2) ⟨hpo.1, hpo.2.1⟩ (fun s hs => ?_) (by omega) hpo.2.2.2.1)
  have := str_bound (l := u.procs[n].params ++ u.procs[n].locals) (by rw [strsB_app]; omega) s hs
  unfold maxLen; omega
set_option maxRecDepth 100000 in
set_option maxHeartbeats 1600000 in
theorem impl_locals (u : Un) (hb : u.bulk ≤ 1048576) (k : Int) (w : World) (v1 v2 v3 : Value) (h : UnIs w u v1 v2 v3) (hN : NamesAt w) : Calls Tryd.prog 9 #[unV v1 v2 v3, .int .i64 k] w (RetD w (strsD (lnames u k))) := by
  unfold RetD
  have HU := Lib.hid (fun W (hW : Below w.heap.size w W) => (⟨h.1.later hW, h.2.1.later hW, h.2.2.later hW⟩ : UnIs W u v1 v2 v3))
  have HN := Lib.hid (fun W (hW : Below w.heap.size w W) => hN.later hW)
  have HH := Lib.hid (fun W (hW : Below w.heap.size w W) => impl_hasproc u hb k W v1 v2 v3 (HU.out W hW))
  obtain ⟨h1, h2, h3⟩ := h
  obtain ⟨a1, c1, rfl⟩ := is_slice h1
  obtain ⟨a2, c2, rfl⟩ := is_slice h2
  obtain ⟨a3, c3, rfl⟩ := is_slice h3
  have B0 := Lib.hid (bl1 w (.cells #[.slice a1 u.recs.length c1, .slice a2 u.globs.length c2, .slice a3 u.procs.length c3] 28))
  have V0 := Lib.hid (Var.new w #[.slice a1 u.recs.length c1, .slice a2 u.globs.length c2, .slice a3 u.procs.length c3] 28)
  obtain ⟨w1, hw1⟩ : ∃ W, w.alloc (.cells #[.slice a1 u.recs.length c1, .slice a2 u.globs.length c2, .slice a3 u.procs.length c3] 28) = W := ⟨_, rfl⟩
  rw [hw1] at B0 V0
  have HW1 := Lib.hid hw1
  have HVC := Lib.hid (HH.out w1 B0.out)
  have HBB := Lib.hid hb
  clear h1 h2 h3 hw1 HH hN hb
  cases hp : hasP u k
  case false =>
    rw [hp] at HVC
    rw [(hasP_no hp).1]
    clear hp
    go_enter Tryd.func9, Tryd.ntmps9
    go_wp2_with fail
    rw [HW1.out]
    have x0 := (V0.out 0 _ rfl).1
    have x1 := (V0.out 1 _ rfl).1
    have x2 := (V0.out 2 _ rfl).1
    go_wp2_with fail
    refine HVC.out.mono ?_
    rintro e w2 ⟨rfl, b2⟩
    have B2 := Lib.hid (below_then B0.out b2)
    clear b2
    go_wp2
    go_ret
    exact ⟨_, [], rfl, own_nil, (fun b hb => by cases hb), B2.out⟩
  case true =>
    rw [hp] at HVC
    obtain ⟨hv, n, rfl, hn⟩ := hasP_yes hp
    rw [lnames_at hv hn]
    have HS := Lib.hid (fun W (hW : Below w.heap.size w W) hvar => impl_scope u HBB.out hv W _ _ _ (HU.out W hW) w.heap.size hvar (HN.out W hW) n hn)
    unfold RetSc at HS
    have HLZ := Lib.hid (locs_size HBB.out (List.getElem_mem hn))
    generalize locs u u.procs[n] = L at HS HLZ ⊢
    clear hp hv hn
    have hfld : ∀ (a : Option Addr) (n c bm : Nat) (W : World), (Instr.field 56 (.agg #[.slice a n c, .map (some bm)]) 0).run Tryd.prog W = .ok (.slice a n c) W := fun a n c bm W => by kernel_rfl
    go_enter Tryd.func9, Tryd.ntmps9
    go_wp2_with fail
    rw [HW1.out]
    have x0 := (V0.out 0 _ rfl).1
    have x1 := (V0.out 1 _ rfl).1
    have x2 := (V0.out 2 _ rfl).1
    go_wp2_with fail
    refine HVC.out.mono ?_
    rintro e w2 ⟨rfl, b2⟩
    have HB2 := Lib.hid (below_then B0.out b2)
    have HV2 := Lib.hid (V0.out.later b2)
    clear b2 x0 x1 x2
    go_wp2_with fail
    refine (HS.out w2 HB2.out HV2.out).mono ?_
    rintro e w3 ⟨v3, bm, m3, rfl, o3, _, _, b3⟩
    have HB3 := Lib.hid (below_then HB2.out b3)
    have HT := Lib.hid (impl_texts _ L w3 (Is.strs_of_owns o3) HLZ.out)
    unfold RetD at HT
    obtain ⟨a5, c5, rfl⟩ := owns_slice o3
    clear o3 b3
    go_wp2_with fail
    refine HT.out.mono ?_
    rintro e w4 ⟨v4, F4, rfl, h4, f4, b4⟩
    have HB4 := Lib.hid (below_then HB3.out b4)
    have H4 := Lib.hid h4
    have HF4 : Hid (Foot w.heap.size w4 F4) := Lib.hid (fun b hb => ⟨Nat.le_trans HB3.out.size (f4 b hb).1, (f4 b hb).2⟩)
    clear h4 f4 b4
    go_wp2
    go_ret
    exact ⟨_, F4, rfl, H4.out, HF4.out, HB4.out⟩
set_option maxRecDepth 100000 in
set_option maxHeartbeats 1600000 in
theorem impl_resolve (u : Un) (hb : u.bulk ≤ 1048576) (k : Int) (s : ByteArray) (hs : s.size ≤ maxLen) (w : World) (v1 v2 v3 : Value) (h : UnIs w u v1 v2 v3) (hN : NamesAt w) : Calls Tryd.prog 12 #[unV v1 v2 v3, .int .i64 k, .string s] w (RetII w (resv u k s)) := by
  unfold RetII
  have HU := Lib.hid (fun W (hW : Below w.heap.size w W) => (⟨h.1.later hW, h.2.1.later hW, h.2.2.later hW⟩ : UnIs W u v1 v2 v3))
  have HN := Lib.hid (fun W (hW : Below w.heap.size w W) => hN.later hW)
  have HH := Lib.hid (fun W (hW : Below w.heap.size w W) => impl_hasproc u hb k W v1 v2 v3 (HU.out W hW))
  obtain ⟨h1, h2, h3⟩ := h
  obtain ⟨a1, c1, rfl⟩ := is_slice h1
  obtain ⟨a2, c2, rfl⟩ := is_slice h2
  obtain ⟨a3, c3, rfl⟩ := is_slice h3
  have B0 := Lib.hid (bl1 w (.cells #[.slice a1 u.recs.length c1, .slice a2 u.globs.length c2, .slice a3 u.procs.length c3] 28))
  have V0 := Lib.hid (Var.new w #[.slice a1 u.recs.length c1, .slice a2 u.globs.length c2, .slice a3 u.procs.length c3] 28)
  obtain ⟨w1, hw1⟩ : ∃ W, w.alloc (.cells #[.slice a1 u.recs.length c1, .slice a2 u.globs.length c2, .slice a3 u.procs.length c3] 28) = W := ⟨_, rfl⟩
  rw [hw1] at B0 V0
  have HW1 := Lib.hid hw1
  have HVC := Lib.hid (HH.out w1 B0.out)
  have HBB := Lib.hid hb
  have HSS := Lib.hid hs
  clear h1 h2 h3 hw1 HH hN hb hs
  cases hp : hasP u k
  case false =>
    rw [hp] at HVC
    rw [(hasP_no hp).2]
    clear hp
    go_enter Tryd.func12, Tryd.ntmps12
    go_wp2_with fail
    rw [HW1.out]
    have x0 := (V0.out 0 _ rfl).1
    have x1 := (V0.out 1 _ rfl).1
    have x2 := (V0.out 2 _ rfl).1
    go_wp2_with fail
    refine HVC.out.mono ?_
    rintro e w2 ⟨rfl, b2⟩
    have B2 := Lib.hid (below_then B0.out b2)
    clear b2
    go_wp2
    go_ret2
    exact ⟨rfl, B2.out⟩
  case true =>
    rw [hp] at HVC
    obtain ⟨hv, n, rfl, hn⟩ := hasP_yes hp
    rw [resv_at hv hn]
    have HS := Lib.hid (fun W (hW : Below w.heap.size w W) hvar => impl_scope u HBB.out hv W _ _ _ (HU.out W hW) w.heap.size hvar (HN.out W hW) n hn)
    unfold RetSc at HS
    generalize locs u u.procs[n] = L at HS ⊢
    obtain ⟨p, hp2⟩ : ∃ p, means u L s = p := ⟨_, rfl⟩
    rw [hp2]
    have HP := Lib.hid hp2
    clear hp hv hn hp2
    have hfld : ∀ (a : Option Addr) (n c bm : Nat) (W : World), (Instr.field 56 (.agg #[.slice a n c, .map (some bm)]) 1).run Tryd.prog W = .ok (.map (some bm)) W := fun a n c bm W => by kernel_rfl
    go_enter Tryd.func12, Tryd.ntmps12
    go_wp2_with fail
    rw [HW1.out]
    have x0 := (V0.out 0 _ rfl).1
    have x1 := (V0.out 1 _ rfl).1
    have x2 := (V0.out 2 _ rfl).1
    go_wp2_with fail
    refine HVC.out.mono ?_
    rintro e w2 ⟨rfl, b2⟩
    have HB2 := Lib.hid (below_then B0.out b2)
    have HV2 := Lib.hid (V0.out.later b2)
    clear b2 x0 x1 x2
    go_wp2_with fail
    refine (HS.out w2 HB2.out HV2.out).mono ?_
    rintro e w3 ⟨v3, bm, m3, rfl, o3, hm3, _, b3⟩
    have HB3 := Lib.hid (below_then HB2.out b3)
    have HOF := Lib.hid (impl_of bm m3 (meanU u L) s w3 hm3 (HN.out w3 HB3.out) HSS.out)
    unfold RetM at HOF
    rw [meanOf_means, HP.out] at HOF
    obtain ⟨a5, c5, rfl⟩ := owns_slice o3
    clear o3 b3 hm3
    go_wp2_with fail
    refine HOF.out.mono ?_
    rintro e w4 ⟨rfl, b4⟩
    have HB4 := Lib.hid (below_then HB3.out b4)
    clear b4
    go_wp2
    go_quiet (fail)
    go_wp2
    go_ret2
    exact ⟨rfl, below_drewN (below_then HB4.out (bl1 _ _)) _⟩
end Go.Proofs.YtkhcbahbffjnkaaDoor
/- The law on ResolveName: its walk. The table reads as the program's text lays it. -/
namespace Go.Proofs.YtkhcbahbffjnkaaDoor
open Go.RowKit
set_option linter.unusedVariables false

set_option maxRecDepth 100000 in
set_option maxHeartbeats 3200000 in
theorem FnExactResolveName_walk (u : Un) (v1 v2 v3 : Value) (hok : u.Ok) (n : Int) (a2 : ByteArray) (w : World) (hk : UnIs w u v1 v2 v3) (w1 : (Lit.int .i64 n).wf = true) (w2 : a2.size ≤ maxLen) (hN : NamesAt w) : Calls Tryd.prog 6 #[unV v1 v2 v3, .int .i64 n, .string a2] w fun e w' => e = .returned (.bool true) ∧ Below w.heap.size w w' := by
  have HSZ := Lib.hid (fun W (hW : Below w.heap.size w W) => sz_unit u hok W v1 v2 v3 (hk.later hW))
  unfold maxLen at w2
  have hwN := w2
  by_cases hname : (1048576 : Int) < a2.size
  · obtain ⟨x1, c1, rfl⟩ := is_slice hk.1
    obtain ⟨x2, c2, rfl⟩ := is_slice hk.2.1
    obtain ⟨x3, c3, rfl⟩ := is_slice hk.2.2
    clear hok hk hN HSZ
    go_enter Tryd.func6, Tryd.ntmps6
    go_wp2
    go_ret
    exact ⟨rfl, bl1 _ _⟩
  by_cases hb : u.bulk ≤ 1048576
  · rw [szR_yes hb] at HSZ
    have HTO := Lib.hid (fun W (hW : Below w.heap.size w W) => to_unit u hb W v1 v2 v3 (hk.later hW).1 (hk.later hW).2.1 (hk.later hW).2.2)
    unfold MadeU at HTO
    have HEQ := Lib.hid (fun W v1 v2 v3 u1 u2 u3 (h1 : UnIs W u v1 v2 v3) (h2 : UnIs W u u1 u2 u3) => eq_unit u hb W v1 v2 v3 u1 u2 u3 h1.1 h1.2.1 h1.2.2 h2.1 h2.2.1 h2.2.2)
    have HSP := Lib.hid (fun W v1 v2 v3 h1 => spec_resolve u hb n a2 W v1 v2 v3 h1)
    have HIM := Lib.hid (fun W (hW : Below w.heap.size w W) v1 v2 v3 h1 => impl_resolve u hb n a2 (by unfold maxLen; omega) W v1 v2 v3 h1 (hN.later hW))
    unfold RetII at HSP HIM
    generalize hpp : resv u n a2 = p at HSP HIM
    clear hpp
    have hl1 : decide (((1048576 - u.bulk : Nat) : Int) < 0) = false := decide_eq_false (by omega)
    generalize ((1048576 - u.bulk : Nat) : Int) = left at HSZ hl1
    obtain ⟨a1, c1, rfl⟩ := is_slice hk.1
    obtain ⟨a2, c2, rfl⟩ := is_slice hk.2.1
    obtain ⟨a3, c3, rfl⟩ := is_slice hk.2.2
    have HV0 := Lib.hid (Var.new w #[.slice a1 u.recs.length c1, .slice a2 u.globs.length c2, .slice a3 u.procs.length c3] 42)
    clear hok hk hb hN
    go_enter Tryd.func6, Tryd.ntmps6
    go_wp2_with fail
    refine (HSZ.out _ (bl1 _ _)).mono ?_
    rintro e w1 ⟨rfl, b1⟩
    have B1 := Lib.hid (below_then (bl1 _ _) b1)
    have V1 := Lib.hid (HV0.out.later b1)
    have e0 := (V1.out 0 _ rfl).1
    have e1 := (V1.out 1 _ rfl).1
    have e2 := (V1.out 2 _ rfl).1
    clear b1
    go_wp2_with fail
    refine (HTO.out _ B1.out).mono ?_
    rintro e w2 ⟨x1, x2, x3, F1, F2, F3, rfl, o2, _, b2⟩
    have K2 := Lib.hid o2.is
    obtain ⟨z1, d1, rfl⟩ := is_slice o2.is.1
    obtain ⟨z2, d2, rfl⟩ := is_slice o2.is.2.1
    obtain ⟨z3, d3, rfl⟩ := is_slice o2.is.2.2
    have B2 := Lib.hid (below_then B1.out b2)
    have V2 := Lib.hid (V1.out.later b2)
    clear e0 e1 e2 o2 b2
    go_wp2_with fail
    refine (HSP.out _ _ _ _ K2.out).mono ?_
    rintro e w3 ⟨rfl, b3⟩
    have B3 := Lib.hid (below_then B2.out b3)
    have V3 := Lib.hid (V2.out.later b3)
    have e0 := (V3.out 0 _ rfl).1
    have e1 := (V3.out 1 _ rfl).1
    have e2 := (V3.out 2 _ rfl).1
    clear b3 K2
    go_wp2_with fail
    refine (HTO.out _ B3.out).mono ?_
    rintro e w4 ⟨x1, x2, x3, F1, F2, F3, rfl, o4, _, b4⟩
    have K4' := o4.is
    obtain ⟨y1, g1, rfl⟩ := is_slice o4.is.1
    obtain ⟨y2, g2, rfl⟩ := is_slice o4.is.2.1
    obtain ⟨y3, g3, rfl⟩ := is_slice o4.is.2.2
    have n4 := bl1 w4 (.cells #[.slice y1 u.recs.length g1, .slice y2 u.globs.length g2, .slice y3 u.procs.length g3] 28)
    have K4 := Lib.hid (K4'.later n4)
    have B4 := Lib.hid (below_then (below_then B3.out b4) n4)
    have V4 := Lib.hid ((V3.out.later b4).later n4)
    have X4 := Lib.hid (Var.new w4 #[.slice y1 u.recs.length g1, .slice y2 u.globs.length g2, .slice y3 u.procs.length g3] 28)
    clear e0 e1 e2 o4 b4 n4 K4'
    go_wp2_with fail
    refine (HIM.out _ B4.out _ _ _ K4.out).mono ?_
    rintro e w5 ⟨rfl, b5⟩
    have B5 := Lib.hid (below_then B4.out b5)
    have V5 := Lib.hid (V4.out.later b5)
    have X5 := Lib.hid (X4.out.later b5)
    have K5 := Lib.hid (K4.out.later b5)
    have e0 := (V5.out 0 _ rfl).1
    have e1 := (V5.out 1 _ rfl).1
    have e2 := (V5.out 2 _ rfl).1
    have f0 := (X5.out 0 _ rfl).1
    have f1 := (X5.out 1 _ rfl).1
    have f2 := (X5.out 2 _ rfl).1
    clear b5 K4 V4 X4 V3 V2 V1
    go_wp2_with fail
    go_region_with (first | (go_at_call 19; refine (HTO.out _ B5.out.drew).mono ?_; rintro e w6 ⟨x1, x2, x3, F1, F2, F3, rfl, o6, _, b6⟩; have K6 := Lib.hid o6.is; obtain ⟨m1, n1, rfl⟩ := is_slice o6.is.1; obtain ⟨m2, n2, rfl⟩ := is_slice o6.is.2.1; obtain ⟨m3, n3, rfl⟩ := is_slice o6.is.2.2; have B6 := Lib.hid (below_then B5.out.drew b6); have bb6 : Below w5.heap.size w5 w6 := ⟨b6.os, b6.tape, b6.output, b6.size, b6.block⟩; have L6 := Lib.hid (K5.out.later bb6); have p0 := (X5.out.later bb6 0 _ rfl).1; have p1 := (X5.out.later bb6 1 _ rfl).1; have p2 := (X5.out.later bb6 2 _ rfl).1; clear o6 b6 bb6) | (go_at_call 20; refine (HEQ.out _ _ _ _ _ _ _ L6.out K6.out).mono ?_; rintro e w7 ⟨rfl, b7⟩; have B7 := Lib.hid (below_then B6.out b7); clear b7))
    all_goals go_wp2
    all_goals go_ret
    all_goals exact ⟨rfl, B7.out⟩
  · rw [szR_no hb] at HSZ
    clear hok hb hN
    obtain ⟨a1, c1, rfl⟩ := is_slice hk.1
    obtain ⟨a2, c2, rfl⟩ := is_slice hk.2.1
    obtain ⟨a3, c3, rfl⟩ := is_slice hk.2.2
    clear hk
    go_enter Tryd.func6, Tryd.ntmps6
    go_wp2_with fail
    refine (HSZ.out _ (bl1 _ _)).mono ?_
    rintro e w1 ⟨rfl, b1⟩
    have B1 := Lib.hid (below_then (bl1 _ _) b1)
    clear b1
    go_wp2
    go_ret
    exact ⟨rfl, B1.out⟩
end Go.Proofs.YtkhcbahbffjnkaaDoor
/- What the row's list gives a walk: the table holds the functions' names. No conditions. -/
namespace Go.Proofs.YtkhcbahbffjnkaaDoor
open Go.RowKit
set_option linter.unusedVariables false

theorem gNames : Tryd.prog.globalNamed "loop.example/g03106/impl.functionNames" = some 0 := by kernel_rfl
theorem gNamesType : (Tryd.prog.globals[0]?).map (·.type) = some 76 := by kernel_rfl
theorem cellsNames : Tryd.prog.cellsOf 76 = 55 := by kernel_rfl
theorem cellsName : Tryd.prog.cellsOf 9 = 1 := by kernel_rfl
theorem names_laid {H : Type} : (Rows.laid_loop_example_g03106_impl_functionNames : DataW H) = .agg (funL.map fun x => .lit (.string x.data.toList)) := rfl
theorem names_of {W : World} (hL : laidMetH Tryd.prog [("loop.example/g03106/impl.functionNames", Rows.laid_loop_example_g03106_impl_functionNames)] W) : NamesAt W := by
  rw [MakeChecks.laidMetH_plain _ _ _ (by kernel_rfl)] at hL
  obtain ⟨ps, ⟨g, t, cs, fuel, p, q, hg, ht, hvar, hd, _, _⟩, _⟩ := hL
  obtain rfl := Option.some.inj (gNames.symm.trans hg)
  obtain rfl := Option.some.inj (gNamesType.symm.trans ht)
  have hcs : cs = (funL.map Value.string).toArray := by
    obtain ⟨xs, m, rfl, hx, hl, hxl, hall⟩ := DataW.trod_array Tryd.underlying76 hd
    rw [cellsNames] at hl
    rw [cellsName] at hall
    simp only [Prod.mk.injEq] at hx
    have hxd := hx.1
    rw [names_laid] at hxd
    simp only [DataW.agg.injEq] at hxd
    apply Array.toList_inj.1
    apply List.ext_getElem?
    intro i
    by_cases hi : i < 55
    · have h1 := hall i hi
      have hxi : ∃ y, xs[i]? = some y := ⟨_, List.getElem?_eq_getElem (by rw [hxl]; exact hi)⟩
      obtain ⟨y, hy⟩ := hxi
      rw [hy] at h1
      obtain ⟨s, e0, e1, _⟩ := DataW.trod_string Tryd.underlying9 h1
      have hfi : i < funL.length := by rw [funL_len]; exact hi
      have h2 := congrArg (fun l => l[i]?) hxd
      simp only [List.getElem?_map, hy, List.getElem?_eq_getElem hfi, Option.map_some, Option.some.injEq] at h2
      rw [e1] at h2
      simp only [DataW.lit.injEq, Lit.string.injEq] at h2
      have h3 : s = funL[i] := by
        cases s; cases hq : funL[i]
        rw [hq] at h2
        exact congrArg ByteArray.mk (Array.toList_inj.1 h2.symm)
      have h4 : cs.toList[i]? = some (.string s) := by
        have := congrArg (fun l => l[0]?) e0
        simp at this
        simpa using this
      rw [h4, h3]
      simp [hfi]
    · rw [List.getElem?_eq_none (by omega), List.getElem?_eq_none (by simp [funL_len]; omega)]
  subst hcs
  unfold World.var? at hvar
  rw [gNames] at hvar
  simp only [Option.bind_some] at hvar
  split at hvar
  · rename_i cs2 t2 fr2 hh
    obtain rfl := Option.some.inj hvar
    exact ⟨t2, fr2, hh⟩
  · cases hvar
end Go.Proofs.YtkhcbahbffjnkaaDoor
