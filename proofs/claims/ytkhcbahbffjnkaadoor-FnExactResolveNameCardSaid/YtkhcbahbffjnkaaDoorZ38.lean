/- Joined texts: V9. No conditions besides those that each states. -/
import Derived.Test.YtkhcbahbffjnkaaDoorZ31
/- The reference model's ResolveName. No conditions. -/
namespace Go.Proofs.YtkhcbahbffjnkaaDoor
open Go.RowKit
set_option linter.unusedVariables false

/-- What a name means in a procedure. -/
def resv (u : Un) (k : Int) (s : ByteArray) : Int × Int := if u.valid = true ∧ 0 ≤ k then (match u.procs[k.toNat]? with | some p => means u (locs u p) s | none => (0, 0)) else (0, 0)
theorem resv_bad {u : Un} {k : Int} {s : ByteArray} (h : u.valid = false) : resv u k s = (0, 0) := by unfold resv; rw [h]; simp
theorem resv_neg {u : Un} {k : Int} {s : ByteArray} (h : k < 0) : resv u k s = (0, 0) := by unfold resv; rw [if_neg (by omega)]
theorem resv_far {u : Un} {k : Int} {s : ByteArray} (h : (u.procs.length : Int) ≤ k) : resv u k s = (0, 0) := by
  unfold resv
  split
  · rw [List.getElem?_eq_none (by omega)]
  · rfl
theorem resv_at {u : Un} {n : Nat} {s : ByteArray} (hv : u.valid = true) (h : n < u.procs.length) : resv u (n : Int) s = means u (locs u u.procs[n]) s := by
  unfold resv
  rw [if_pos ⟨hv, by omega⟩, Int.toNat_natCast, List.getElem?_eq_getElem h]
theorem means_in {u : Un} {L : List ByteArray} {s : ByteArray} {k : Nat} (h : fx L s = some k) : means u L s = (1, (k : Int)) := by unfold means; rw [h]
theorem means_out {u : Un} {L : List ByteArray} {s : ByteArray} (h : fx L s = none) : means u L s = outer u s := by unfold means; rw [h]
theorem locs_len (u : Un) (p : Pc) : (locs u p).length ≤ p.params.length + p.locals.length + p.body.count := by
  unfold locs
  have h := coll_len u p.body (p.params ++ p.locals)
  rw [List.length_append] at h
  exact h
set_option maxRecDepth 100000 in
set_option maxHeartbeats 3200000 in
theorem spec_resolve (u : Un) (hb : u.bulk ≤ 1048576) (k : Int) (s : ByteArray) (w : World) (v1 v2 v3 : Value) (h : UnIs w u v1 v2 v3) : Calls Tryd.prog 18 #[unV v1 v2 v3, .int .i64 k, .string s] w (RetII w (resv u k s)) := by
  unfold RetII
  obtain ⟨h1, h2, h3⟩ := h
  have HV := Lib.hid (fun W (hW : Below w.heap.size w W) => spec_validunit u hb W v1 v2 v3 ⟨h1.later hW, h2.later hW, h3.later hW⟩)
  have HN := Lib.hid (fun W (hW : Below w.heap.size w W) => spec_locals u hb k W v1 v2 v3 ⟨h1.later hW, h2.later hW, h3.later hW⟩)
  have HO := Lib.hid (fun W (hW : Below w.heap.size w W) => spec_outer u hb s W v1 v2 v3 ⟨h1.later hW, h2.later hW, h3.later hW⟩)
  unfold RetN at HN
  unfold RetII at HO
  obtain ⟨a1, c1, rfl⟩ := is_slice h1
  obtain ⟨a2, c2, rfl⟩ := is_slice h2
  obtain ⟨a3, c3, rfl⟩ := is_slice h3
  have B0 := Lib.hid (bl1 w (.cells #[.slice a1 u.recs.length c1, .slice a2 u.globs.length c2, .slice a3 u.procs.length c3] 28))
  have V0 := Lib.hid (Var.new w #[.slice a1 u.recs.length c1, .slice a2 u.globs.length c2, .slice a3 u.procs.length c3] 28)
  obtain ⟨w1, hw1⟩ : ∃ W, w.alloc (.cells #[.slice a1 u.recs.length c1, .slice a2 u.globs.length c2, .slice a3 u.procs.length c3] 28) = W := ⟨_, rfl⟩
  rw [hw1] at B0 V0
  have HW1 := Lib.hid hw1
  have HVC := Lib.hid (HV.out w1 B0.out)
  obtain ⟨_, _, l3⟩ := un_lens hb
  clear h1 h2 h3 hw1 HV hb
  cases hv : u.valid
  case false =>
    rw [resv_bad hv]
    rw [hv] at HVC
    clear hv
    go_enter Tryd.func18, Tryd.ntmps18
    go_wp2_with fail
    rw [HW1.out]
    have x0 := (V0.out 0 _ rfl).1
    have x1 := (V0.out 1 _ rfl).1
    have x2 := (V0.out 2 _ rfl).1
    go_wp2_with fail
    refine HVC.out.mono ?_
    rintro e w2 ⟨rfl, b2⟩
    have B2 := Lib.hid (below_then B0.out b2)
    clear b2
    go_wp2
    go_ret2
    exact ⟨rfl, B2.out⟩
  rw [hv] at HVC
  have HVD := Lib.hid hv
  by_cases hk0 : k < 0
  · rw [resv_neg hk0]
    clear hv
    go_enter Tryd.func18, Tryd.ntmps18
    go_wp2_with fail
    rw [HW1.out]
    have x0 := (V0.out 0 _ rfl).1
    have x1 := (V0.out 1 _ rfl).1
    have x2 := (V0.out 2 _ rfl).1
    go_wp2_with fail
    refine HVC.out.mono ?_
    rintro e w2 ⟨rfl, b2⟩
    have B2 := Lib.hid (below_then B0.out b2)
    clear b2
    go_wp2
    go_ret2
    exact ⟨rfl, B2.out⟩
  have hk1 : 0 ≤ k := by omega
  by_cases hkn : (u.procs.length : Int) ≤ k
  · rw [resv_far hkn]
    clear hv
    go_enter Tryd.func18, Tryd.ntmps18
    go_wp2_with fail
    rw [HW1.out]
    have x0 := (V0.out 0 _ rfl).1
    have x1 := (V0.out 1 _ rfl).1
    have x2 := (V0.out 2 _ rfl).1
    go_wp2_with fail
    refine HVC.out.mono ?_
    rintro e w2 ⟨rfl, b2⟩
    have B2 := Lib.hid (below_then B0.out b2)
    have x2 := ((V0.out.later b2) 2 _ rfl).1
    clear b2
    go_wp2
    go_ret2
    exact ⟨rfl, B2.out⟩
  obtain ⟨n, rfl⟩ : ∃ n : Nat, (n : Int) = k := ⟨k.toNat, by omega⟩
  have hn : n < u.procs.length := by omega
  rw [resv_at hv hn]
  rw [lnames_at hv hn] at HN
  have HPO := Lib.hid (proc_ok hv (List.getElem_mem hn))
  have hll := locs_len u u.procs[n]
  have hl2 : ((locs u u.procs[n]).length : Int) ≤ 1048576 := by have := HPO.out; omega
  clear hv hll
  generalize locs u u.procs[n] = L at HN hl2 ⊢
  have n1 : (n : Int) < u.procs.length := by omega
  have HL2 := Lib.hid hl2
  clear HPO
  clear hk0 hkn hn hl2
  rcases hf : fx L s with _ | q
  · have HX := Lib.hid (means_out (u := u) hf)
    have HFI := Lib.hid (fxI_none hf)
    rw [HX.out]
    generalize outer u s = p at HO ⊢
    clear hf HX
    go_enter Tryd.func18, Tryd.ntmps18
    go_wp2_with fail
    rw [HW1.out]
    have x0 := (V0.out 0 _ rfl).1
    have x1 := (V0.out 1 _ rfl).1
    have x2 := (V0.out 2 _ rfl).1
    go_wp2_with fail
    refine HVC.out.mono ?_
    rintro e w2 ⟨rfl, b2⟩
    have B2 := Lib.hid (below_then B0.out b2)
    have V2 := V0.out.later b2
    have x0 := (V2 0 _ rfl).1
    have x1 := (V2 1 _ rfl).1
    have x2 := (V2 2 _ rfl).1
    have HV2 := Lib.hid V2
    clear b2 V2
    go_wp2_with fail
    refine (HN.out w2 B2.out).mono ?_
    rintro e w3 ⟨v3, rfl, o3, b3⟩
    have B3 := Lib.hid (below_then B2.out b3)
    have V3 := HV2.out.later b3
    have x0 := (V3 0 _ rfl).1
    have x1 := (V3 1 _ rfl).1
    have x2 := (V3 2 _ rfl).1
    have HF := Lib.hid (spec_find _ L s w3 (Is.strs_of_owns o3) HL2.out)
    rw [HFI.out] at HF
    clear o3 b3 V3
    go_wp2_with fail
    refine HF.out.mono ?_
    rintro e w4 ⟨rfl, rfl⟩
    go_wp2_with fail
    refine (HO.out w3 B3.out).mono ?_
    rintro e w5 ⟨rfl, b5⟩
    have B5 := Lib.hid (below_then B3.out b5)
    clear b5
    go_wp2
    go_ret2
    exact ⟨rfl, B5.out⟩
  · have HX := Lib.hid (means_in (u := u) hf)
    have HFI := Lib.hid (fxI_some hf)
    rw [HX.out]
    clear hf HX
    go_enter Tryd.func18, Tryd.ntmps18
    go_wp2_with fail
    rw [HW1.out]
    have x0 := (V0.out 0 _ rfl).1
    have x1 := (V0.out 1 _ rfl).1
    have x2 := (V0.out 2 _ rfl).1
    go_wp2_with fail
    refine HVC.out.mono ?_
    rintro e w2 ⟨rfl, b2⟩
    have B2 := Lib.hid (below_then B0.out b2)
    have V2 := V0.out.later b2
    have x0 := (V2 0 _ rfl).1
    have x1 := (V2 1 _ rfl).1
    have x2 := (V2 2 _ rfl).1
    clear b2 V2
    go_wp2_with fail
    refine (HN.out w2 B2.out).mono ?_
    rintro e w3 ⟨v3, rfl, o3, b3⟩
    have B3 := Lib.hid (below_then B2.out b3)
    have HF := Lib.hid (spec_find _ L s w3 (Is.strs_of_owns o3) HL2.out)
    rw [HFI.out] at HF
    clear o3 b3
    go_wp2_with fail
    refine HF.out.mono ?_
    rintro e w4 ⟨rfl, rfl⟩
    go_wp2
    go_ret2
    exact ⟨rfl, B3.out⟩
end Go.Proofs.YtkhcbahbffjnkaaDoor
