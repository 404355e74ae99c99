/- Joined texts: V30. No conditions besides those that each states. -/
import Derived.Test.YtckjmmapekaapaaGreatDoorZ29
import Derived.Test.YtckjmmapekaapaaGreatDoorZ44
import Derived.Test.YtckjmmapekaapaaGreatDoorZ45
import Derived.Test.YtckjmmapekaapaaGreatDoorZ46
/- The program's LocalNames and ResolveName. The table reads as the program's text lays it. -/
namespace Go.Proofs.YtckjmmapekaapaaGreatDoor
open Go.RowKit
set_option linter.unusedVariables false

theorem strsB_app (a b : List ByteArray) : strsB (a ++ b) = strsB a + strsB b := by
  unfold strsB
  rw [wsum_app, List.length_append]; omega
theorem strsB_one (x : ByteArray) : strsB [x] = 1 + x.size := by unfold strsB; simp [wsum]
mutual
theorem coll_size (u : Un) : ∀ (t : Ex.T) (acc : List ByteArray), strsB (coll u t acc) ≤ strsB acc + (t.bulk + 1)
  | .node k t n l ks, acc => by
    rw [coll, Ex.T.bulk]
    have h := colls_size u ks acc
    split
    · split
      · rw [strsB_app, strsB_one]; omega
      · omega
    · omega
theorem colls_size (u : Un) : ∀ (ks : List Ex.T) (acc : List ByteArray), strsB (colls u ks acc) ≤ strsB acc + (ks.length + Ex.bulks ks)
  | [], acc => by rw [colls, Ex.bulks]; omega
  | x :: r, acc => by
    rw [colls, Ex.bulks, List.length_cons]
    have h1 := coll_size u x acc
    have h2 := colls_size u r (coll u x acc)
    omega
end
theorem locs_size {u : Un} (hb : u.bulk ≤ 1048576) {p : Pc} (hp : p ∈ u.procs) : strsB (locs u p) ≤ 1048576 := by
  have h1 := coll_size u p.body (p.params ++ p.locals)
  rw [strsB_app] at h1
  have h2 := wsum_mem Pc.bulk hp
  have h3 := List.length_pos_of_mem hp
  unfold locs
  unfold Un.bulk procsB at hb
  have h4 : p.bulk = p.name.size + (strsB p.params + (strsB p.locals + p.body.bulk)) := rfl
  omega
/-- Is the unit valid, and is there such a procedure? -/
def hasP (u : Un) (k : Int) : Bool := (decide (0 ≤ k) && decide (k < u.procs.length)) && u.valid
set_option maxRecDepth 100000 in
set_option maxHeartbeats 1600000 in
theorem impl_hasproc (u : Un) (hb : u.bulk ≤ 1048576) (k : Int) (w : World) (v1 v2 v3 : Value) (h : UnIs w u v1 v2 v3) : Calls Tryz.prog 24 #[unV v1 v2 v3, .int .i64 k] w fun e w' => e = .returned (.bool (hasP u k)) ∧ Below w.heap.size w w' := by
  obtain ⟨_, _, l3⟩ := un_lens hb
  obtain ⟨h1, h2, h3⟩ := h
  have HV := Lib.hid (fun W (hW : Below w.heap.size w W) => impl_validunit u hb W v1 v2 v3 ⟨h1.later hW, h2.later hW, h3.later hW⟩)
  obtain ⟨a1, c1, rfl⟩ := is_slice h1
  obtain ⟨a2, c2, rfl⟩ := is_slice h2
  obtain ⟨a3, c3, rfl⟩ := is_slice h3
  have B0 := Lib.hid (bl1 w (.cells #[.slice a1 u.recs.length c1, .slice a2 u.globs.length c2, .slice a3 u.procs.length c3] 32))
  have V0 := Lib.hid (Var.new w #[.slice a1 u.recs.length c1, .slice a2 u.globs.length c2, .slice a3 u.procs.length c3] 32)
  obtain ⟨w1, hw1⟩ : ∃ W, w.alloc (.cells #[.slice a1 u.recs.length c1, .slice a2 u.globs.length c2, .slice a3 u.procs.length c3] 32) = W := ⟨_, rfl⟩
  rw [hw1] at B0 V0
  have HW1 := Lib.hid hw1
  have HVC := Lib.hid (HV.out w1 B0.out)
  clear h1 h2 h3 hw1 HV hb
  by_cases hk0 : 0 ≤ k
  · by_cases hkn : k < u.procs.length
    · have HX : Hid (hasP u k = u.valid) := Lib.hid (by unfold hasP; rw [decide_eq_true hk0, decide_eq_true hkn]; rfl)
      rw [HX.out]
      generalize u.valid = b at HVC ⊢
      go_enter Tryz.func24, Tryz.ntmps24
      go_wp2_with fail
      rw [HW1.out]
      have x0 := (V0.out 0 _ rfl).1
      have x1 := (V0.out 1 _ rfl).1
      have x2 := (V0.out 2 _ rfl).1
      go_wp2_with fail
      refine HVC.out.mono ?_
      rintro e w2 ⟨rfl, b2⟩
      have B2 := Lib.hid (below_then B0.out b2)
      clear b2
      go_wp2
      go_ret
      exact ⟨rfl, B2.out⟩
    · have HX : Hid (hasP u k = false) := Lib.hid (by unfold hasP; rw [decide_eq_true hk0, decide_eq_false hkn]; rfl)
      rw [HX.out]
      go_enter Tryz.func24, Tryz.ntmps24
      go_wp2_with fail
      rw [HW1.out]
      have x0 := (V0.out 0 _ rfl).1
      have x1 := (V0.out 1 _ rfl).1
      have x2 := (V0.out 2 _ rfl).1
      go_wp2
      go_ret
      exact ⟨rfl, B0.out⟩
  · have HX : Hid (hasP u k = false) := Lib.hid (by unfold hasP; rw [decide_eq_false hk0]; rfl)
    rw [HX.out]
    go_enter Tryz.func24, Tryz.ntmps24
    go_wp2_with fail
    rw [HW1.out]
    have x0 := (V0.out 0 _ rfl).1
    have x1 := (V0.out 1 _ rfl).1
    have x2 := (V0.out 2 _ rfl).1
    go_wp2
    go_ret
    exact ⟨rfl, B0.out⟩
theorem hasP_no {u : Un} {k : Int} (h : hasP u k = false) : lnames u k = [] ∧ ∀ s, resv u k s = (0, 0) := by
  unfold hasP at h
  by_cases h1 : u.valid = true
  · by_cases h2 : 0 ≤ k
    · by_cases h3 : k < u.procs.length
      · rw [h1, decide_eq_true h2, decide_eq_true h3] at h; cases h
      · exact ⟨lnames_far (by omega), fun s => resv_far (by omega)⟩
    · exact ⟨lnames_neg (by omega), fun s => resv_neg (by omega)⟩
  · have h1 : u.valid = false := by simpa using h1
    exact ⟨lnames_bad h1, fun s => resv_bad h1⟩
theorem hasP_yes {u : Un} {k : Int} (h : hasP u k = true) : u.valid = true ∧ ∃ n : Nat, k = (n : Int) ∧ n < u.procs.length := by
  unfold hasP at h
  simp only [Bool.and_eq_true, decide_eq_true_eq] at h
  exact ⟨h.2, k.toNat, by omega, by omega⟩
theorem un_names {u : Un} (hb : u.bulk ≤ 1048576) (hv : u.valid = true) : UnNames u := by
  have hv2 := hv
  unfold Un.valid at hv2
  simp only [Bool.and_eq_true, decide_eq_true_eq] at hv2
  have hg := hv2.2.2.1
  unfold nmOk at hg
  simp only [Bool.and_eq_true, decide_eq_true_eq] at hg
  unfold Un.bulk recsB procsB at hb
  have hgs := fun s hs => str_bound (l := u.globs) (by omega) s hs
  refine ⟨fun r hr => ?_, fun s hs => by have := hgs s hs; unfold maxLen; omega, fun p hp => ?_, hv2.1, hg.2, hv2.2.1⟩
  · have h1 := wsum_mem Rc.bulk hr
    have h2 : r.bulk = r.name.size + strsB r.fields := rfl
    unfold maxLen; omega
  · have h1 := wsum_mem Pc.bulk hp
    have h2 : p.bulk = p.name.size + (strsB p.params + (strsB p.locals + p.body.bulk)) := rfl
    unfold maxLen; omega
theorem impl_scope (u : Un) (hb : u.bulk ≤ 1048576) (hv : u.valid = true) (w : World) (v1 v2 v3 : Value) (h : UnIs w u v1 v2 v3) (gu : Nat) (hu : Var w gu [v1, v2, v3]) (hN : NamesAt w) (n : Nat) (hn : n < u.procs.length) :
    Calls Tryz.prog 26 #[.pointer (some ⟨gu, 0, none⟩), .int .i64 (n : Int)] w (RetSc w (locs u u.procs[n]) (meanU u (locs u u.procs[n]))) := by
  have hpo := proc_ok hv (List.getElem_mem hn)
  have hv2 := hv
  unfold Un.valid at hv2
  simp only [Bool.and_eq_true, decide_eq_true_eq] at hv2
  have hpv := List.all_eq_true.1 hv2.2.2.2.2 u.procs[n] (List.getElem_mem hn)
  unfold Pc.valid exOk at hpv
  simp only [Bool.and_eq_true, decide_eq_true_eq] at hpv
  have hbb := hb
  unfold Un.bulk procsB at hbb
  have h1 : u.procs[n].bulk ≤ wsum Pc.bulk u.procs := wsum_mem Pc.bulk (List.getElem_mem hn)
  have h2 : u.procs[n].bulk = u.procs[n].name.size + (strsB u.procs[n].params + (strsB u.procs[n].locals + u.procs[n].body.bulk)) := rfl
  refine (callsIn_wide (n := 6)).1 (scope_in u (un_names hb hv) w v1 v2 v3 h gu 0 (hu 0 _ rfl).1 (hu 1 _ rfl).1 (hu 2 _ rfl).1 hN n hn (nk_valid _ 1 hpv.2.2.2.2.2.2) ⟨hpo.1, hpo.2.1⟩ (fun s hs => ?_) (by omega) hpo.2.2.2.1)
  have := str_bound (l := u.procs[n].params ++ u.procs[n].locals) (by rw [strsB_app]; omega) s hs
  unfold maxLen; omega
set_option maxRecDepth 100000 in
set_option maxHeartbeats 1600000 in
theorem impl_locals (u : Un) (hb : u.bulk ≤ 1048576) (k : Int) (w : World) (v1 v2 v3 : Value) (h : UnIs w u v1 v2 v3) (hN : NamesAt w) : Calls Tryz.prog 8 #[unV v1 v2 v3, .int .i64 k] w (RetD w (strsD (lnames u k))) := by
  unfold RetD
  have HU := Lib.hid (fun W (hW : Below w.heap.size w W) => (⟨h.1.later hW, h.2.1.later hW, h.2.2.later hW⟩ : UnIs W u v1 v2 v3))
  have HN := Lib.hid (fun W (hW : Below w.heap.size w W) => hN.later hW)
  have HH := Lib.hid (fun W (hW : Below w.heap.size w W) => impl_hasproc u hb k W v1 v2 v3 (HU.out W hW))
  obtain ⟨h1, h2, h3⟩ := h
  obtain ⟨a1, c1, rfl⟩ := is_slice h1
  obtain ⟨a2, c2, rfl⟩ := is_slice h2
  obtain ⟨a3, c3, rfl⟩ := is_slice h3
  have B0 := Lib.hid (bl1 w (.cells #[.slice a1 u.recs.length c1, .slice a2 u.globs.length c2, .slice a3 u.procs.length c3] 32))
  have V0 := Lib.hid (Var.new w #[.slice a1 u.recs.length c1, .slice a2 u.globs.length c2, .slice a3 u.procs.length c3] 32)
  obtain ⟨w1, hw1⟩ : ∃ W, w.alloc (.cells #[.slice a1 u.recs.length c1, .slice a2 u.globs.length c2, .slice a3 u.procs.length c3] 32) = W := ⟨_, rfl⟩
  rw [hw1] at B0 V0
  have HW1 := Lib.hid hw1
  have HVC := Lib.hid (HH.out w1 B0.out)
  have HBB := Lib.hid hb
  clear h1 h2 h3 hw1 HH hN hb
  cases hp : hasP u k
  case false =>
    rw [hp] at HVC
    rw [(hasP_no hp).1]
    clear hp
    go_enter Tryz.func8, Tryz.ntmps8
    go_wp2_with fail
    rw [HW1.out]
    have x0 := (V0.out 0 _ rfl).1
    have x1 := (V0.out 1 _ rfl).1
    have x2 := (V0.out 2 _ rfl).1
    go_wp2_with fail
    refine HVC.out.mono ?_
    rintro e w2 ⟨rfl, b2⟩
    have B2 := Lib.hid (below_then B0.out b2)
    clear b2
    go_wp2
    go_ret
    exact ⟨_, [], rfl, own_nil, (fun b hb => by cases hb), B2.out⟩
  case true =>
    rw [hp] at HVC
    obtain ⟨hv, n, rfl, hn⟩ := hasP_yes hp
    rw [lnames_at hv hn]
    have HS := Lib.hid (fun W (hW : Below w.heap.size w W) hvar => impl_scope u HBB.out hv W _ _ _ (HU.out W hW) w.heap.size hvar (HN.out W hW) n hn)
    unfold RetSc at HS
    have HLZ := Lib.hid (locs_size HBB.out (List.getElem_mem hn))
    generalize locs u u.procs[n] = L at HS HLZ ⊢
    clear hp hv hn
    have hfld : ∀ (a : Option Addr) (n c bm : Nat) (W : World), (Instr.field 58 (.agg #[.slice a n c, .map (some bm)]) 0).run Tryz.prog W = .ok (.slice a n c) W := fun a n c bm W => by kernel_rfl
    go_enter Tryz.func8, Tryz.ntmps8
    go_wp2_with fail
    rw [HW1.out]
    have x0 := (V0.out 0 _ rfl).1
    have x1 := (V0.out 1 _ rfl).1
    have x2 := (V0.out 2 _ rfl).1
    go_wp2_with fail
    refine HVC.out.mono ?_
    rintro e w2 ⟨rfl, b2⟩
    have HB2 := Lib.hid (below_then B0.out b2)
    have HV2 := Lib.hid (V0.out.later b2)
    clear b2 x0 x1 x2
    go_wp2_with fail
    refine (HS.out w2 HB2.out HV2.out).mono ?_
    rintro e w3 ⟨v3, bm, m3, rfl, o3, _, _, b3⟩
    have HB3 := Lib.hid (below_then HB2.out b3)
    have HT := Lib.hid (impl_texts _ L w3 (Is.strs_of_owns o3) HLZ.out)
    unfold RetD at HT
    obtain ⟨a5, c5, rfl⟩ := owns_slice o3
    clear o3 b3
    go_wp2_with fail
    refine HT.out.mono ?_
    rintro e w4 ⟨v4, F4, rfl, h4, f4, b4⟩
    have HB4 := Lib.hid (below_then HB3.out b4)
    have H4 := Lib.hid h4
    have HF4 : Hid (Foot w.heap.size w4 F4) := Lib.hid (fun b hb => ⟨Nat.le_trans HB3.out.size (f4 b hb).1, (f4 b hb).2⟩)
    clear h4 f4 b4
    go_wp2
    go_ret
    exact ⟨_, F4, rfl, H4.out, HF4.out, HB4.out⟩
end Go.Proofs.YtckjmmapekaapaaGreatDoor
