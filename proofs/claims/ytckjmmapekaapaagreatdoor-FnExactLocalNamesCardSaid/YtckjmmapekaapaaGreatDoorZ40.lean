/- Joined texts: V30, N31. No conditions besides those that each states. -/
import Derived.Test.YtckjmmapekaapaaGreatDoorZ13
import Derived.Test.YtckjmmapekaapaaGreatDoorZ37
import Derived.Test.YtckjmmapekaapaaGreatDoorZ38
import Derived.Test.YtckjmmapekaapaaGreatDoorZ39
/- The program's LocalNames and ResolveName. The table reads as the program's text lays it. -/
namespace Go.Proofs.YtckjmmapekaapaaGreatDoor
open Go.RowKit
set_option linter.unusedVariables false

theorem strsB_app (a b : List ByteArray) : strsB (a ++ b) = strsB a + strsB b := by
  unfold strsB
  rw [wsum_app, List.length_append]; omega
theorem strsB_one (x : ByteArray) : strsB [x] = 1 + x.size := by unfold strsB; simp [wsum]
mutual
theorem coll_size (u : Un) : ∀ (t : Ex.T) (acc : List ByteArray), strsB (coll u t acc) ≤ strsB acc + (t.bulk + 1)
  | .node k t n l ks, acc => by
    rw [coll, Ex.T.bulk]
    have h := colls_size u ks acc
    split
    · split
      · rw [strsB_app, strsB_one]; omega
      · omega
    · omega
theorem colls_size (u : Un) : ∀ (ks : List Ex.T) (acc : List ByteArray), strsB (colls u ks acc) ≤ strsB acc + (ks.length + Ex.bulks ks)
  | [], acc => by rw [colls, Ex.bulks]; omega
  | x :: r, acc => by
    rw [colls, Ex.bulks, List.length_cons]
    have h1 := coll_size u x acc
    have h2 := colls_size u r (coll u x acc)
    omega
end
theorem locs_size {u : Un} (hb : u.bulk ≤ 1048576) {p : Pc} (hp : p ∈ u.procs) : strsB (locs u p) ≤ 1048576 := by
  have h1 := coll_size u p.body (p.params ++ p.locals)
  rw [strsB_app] at h1
  have h2 := wsum_mem Pc.bulk hp
  have h3 := List.length_pos_of_mem hp
  unfold locs
  unfold Un.bulk procsB at hb
  have h4 : p.bulk = p.name.size + (strsB p.params + (strsB p.locals + p.body.bulk)) := rfl
  omega
/-- Is the unit valid, and is there such a procedure? -/
def hasP (u : Un) (k : Int) : Bool := (decide (0 ≤ k) && decide (k < u.procs.length)) && u.valid
set_option maxRecDepth 100000 in
set_option maxHeartbeats 1600000 in
theorem impl_hasproc (u : Un) (hb : u.bulk ≤ 1048576) (k : Int) (w : World) (v1 v2 v3 : Value) (h : UnIs w u v1 v2 v3) : Calls Tryz.prog 24 #[unV v1 v2 v3, .int .i64 k] w fun e w' => e = .returned (.bool (hasP u k)) ∧ Below w.heap.size w w' := by
  obtain ⟨_, _, l3⟩ := un_lens hb
  obtain ⟨h1, h2, h3⟩ := h
  have HV := Lib.hid (fun W (hW : Below w.heap.size w W) => impl_validunit u hb W v1 v2 v3 ⟨h1.later hW, h2.later hW, h3.later hW⟩)
  obtain ⟨a1, c1, rfl⟩ := is_slice h1
  obtain ⟨a2, c2, rfl⟩ := is_slice h2
  obtain ⟨a3, c3, rfl⟩ := is_slice h3
  have B0 := Lib.hid (bl1 w (.cells #[.slice a1 u.recs.length c1, .slice a2 u.globs.length c2, .slice a3 u.procs.length c3] 32))
  have V0 := Lib.hid (Var.new w #[.slice a1 u.recs.length c1, .slice a2 u.globs.length c2, .slice a3 u.procs.length c3] 32)
  obtain ⟨w1, hw1⟩ : ∃ W, w.alloc (.cells #[.slice a1 u.recs.length c1, .slice a2 u.globs.length c2, .slice a3 u.procs.length c3] 32) = W := ⟨_, rfl⟩
  rw [hw1] at B0 V0
  have HW1 := Lib.hid hw1
  have HVC := Lib.hid (HV.out w1 B0.out)
  clear h1 h2 h3 hw1 HV hb
  by_cases hk0 : 0 ≤ k
  · by_cases hkn : k < u.procs.length
    · have HX : Hid (hasP u k = u.valid) := Lib.hid (by unfold hasP; rw [decide_eq_true hk0, decide_eq_true hkn]; rfl)
      rw [HX.out]
      generalize u.valid = b at HVC ⊢
      go_enter Tryz.func24, Tryz.ntmps24
      go_wp2_with fail
      rw [HW1.out]
      have x0 := (V0.out 0 _ rfl).1
      have x1 := (V0.out 1 _ rfl).1
      have x2 := (V0.out 2 _ rfl).1
      go_wp2_with fail
      refine HVC.out.mono ?_
      rintro e w2 ⟨rfl, b2⟩
      have B2 := Lib.hid (below_then B0.out b2)
      clear b2
      go_wp2
      go_ret
      exact ⟨rfl, B2.out⟩
    · have HX : Hid (hasP u k = false) := Lib.hid (by unfold hasP; rw [decide_eq_true hk0, decide_eq_false hkn]; rfl)
      rw [HX.out]
      go_enter Tryz.func24, Tryz.ntmps24
      go_wp2_with fail
      rw [HW1.out]
      have x0 := (V0.out 0 _ rfl).1
      have x1 := (V0.out 1 _ rfl).1
      have x2 := (V0.out 2 _ rfl).1
      go_wp2
      go_ret
      exact ⟨rfl, B0.out⟩
  · have HX : Hid (hasP u k = false) := Lib.hid (by unfold hasP; rw [decide_eq_false hk0]; rfl)
    rw [HX.out]
    go_enter Tryz.func24, Tryz.ntmps24
    go_wp2_with fail
    rw [HW1.out]
    have x0 := (V0.out 0 _ rfl).1
    have x1 := (V0.out 1 _ rfl).1
    have x2 := (V0.out 2 _ rfl).1
    go_wp2
    go_ret
    exact ⟨rfl, B0.out⟩
theorem hasP_no {u : Un} {k : Int} (h : hasP u k = false) : lnames u k = [] ∧ ∀ s, resv u k s = (0, 0) := by
  unfold hasP at h
  by_cases h1 : u.valid = true
  · by_cases h2 : 0 ≤ k
    · by_cases h3 : k < u.procs.length
      · rw [h1, decide_eq_true h2, decide_eq_true h3] at h; cases h
      · exact ⟨lnames_far (by omega), fun s => resv_far (by omega)⟩
    · exact ⟨lnames_neg (by omega), fun s => resv_neg (by omega)⟩
  · have h1 : u.valid = false := by simpa using h1
    exact ⟨lnames_bad h1, fun s => resv_bad h1⟩
theorem hasP_yes {u : Un} {k : Int} (h : hasP u k = true) : u.valid = true ∧ ∃ n : Nat, k = (n : Int) ∧ n < u.procs.length := by
  unfold hasP at h
  simp only [Bool.and_eq_true, decide_eq_true_eq] at h
  exact ⟨h.2, k.toNat, by omega, by omega⟩
theorem un_names {u : Un} (hb : u.bulk ≤ 1048576) (hv : u.valid = true) : UnNames u := by
  have hv2 := hv
  unfold Un.valid at hv2
  simp only [Bool.and_eq_true, decide_eq_true_eq] at hv2
  have hg := hv2.2.2.1
  unfold nmOk at hg
  simp only [Bool.and_eq_true, decide_eq_true_eq] at hg
  unfold Un.bulk recsB procsB at hb
  have hgs := fun s hs => str_bound (l := u.globs) (by omega) s hs
  refine ⟨fun r hr => ?_, fun s hs => by have := hgs s hs; unfold maxLen; omega, fun p hp => ?_, hv2.1, hg.2, hv2.2.1⟩
  · have h1 := wsum_mem Rc.bulk hr
    have h2 : r.bulk = r.name.size + strsB r.fields := rfl
    unfold maxLen; omega
  · have h1 := wsum_mem Pc.bulk hp
    have h2 : p.bulk = p.name.size + (strsB p.params + (strsB p.locals + p.body.bulk)) := rfl
    unfold maxLen; omega
theorem impl_scope (u : Un) (hb : u.bulk ≤ 1048576) (hv : u.valid = true) (w : World) (v1 v2 v3 : Value) (h : UnIs w u v1 v2 v3) (gu : Nat) (hu : Var w gu [v1, v2, v3]) (hN : NamesAt w) (n : Nat) (hn : n < u.procs.length) :
    Calls Tryz.prog 26 #[.pointer (some ⟨gu, 0, none⟩), .int .i64 (n : Int)] w (RetSc w (locs u u.procs[n]) (meanU u (locs u u.procs[n]))) := by
  have hpo := proc_ok hv (List.getElem_mem hn)
  have hv2 := hv
  unfold Un.valid at hv2
  simp only [Bool.and_eq_true, decide_eq_true_eq] at hv2
  have hpv := List.all_eq_true.1 hv2.2.2.2.2 u.procs[n] (List.getElem_mem hn)
  unfold Pc.valid exOk at hpv
  simp only [Bool.and_eq_true, decide_eq_true_eq] at hpv
  have hbb := hb
  unfold Un.bulk procsB at hbb
  have h1 : u.procs[n].bulk ≤ wsum Pc.bulk u.procs := wsum_mem Pc.bulk (List.getElem_mem hn)
  have h2 : u.procs[n].bulk = u.procs[n].name.size + (strsB u.procs[n].params + (strsB u.procs[n].locals + u.procs[n].body.bulk)) := rfl
  refine (callsIn_wide (n := 6)).1 (scope_in u (un_names hb hv) w v1 v2 v3 h gu 0 (hu 0 _ rfl).1 (hu 1 _ rfl).1 (hu 2 _ rfl).1 hN n hn (nk_valid _ 1 hpv.2.2.2.2.2.2) ⟨hpo.1, hpo.2.1⟩ (fun s hs => ?_) (by omega) hpo.2.2.2.1)
  have := str_bound (l := u.procs[n].params ++ u.procs[n].locals) (by rw [strsB_app]; omega) s hs
  unfold maxLen; omega
set_option maxRecDepth 100000 in
set_option maxHeartbeats 1600000 in
theorem impl_locals (u : Un) (hb : u.bulk ≤ 1048576) (k : Int) (w : World) (v1 v2 v3 : Value) (h : UnIs w u v1 v2 v3) (hN : NamesAt w) : Calls Tryz.prog 8 #[unV v1 v2 v3, .int .i64 k] w (RetD w (strsD (lnames u k))) := by
  unfold RetD
  have HU := Lib.hid (fun W (hW : Below w.heap.size w W) => (⟨h.1.later hW, h.2.1.later hW, h.2.2.later hW⟩ : UnIs W u v1 v2 v3))
  have HN := Lib.hid (fun W (hW : Below w.heap.size w W) => hN.later hW)
  have HH := Lib.hid (fun W (hW : Below w.heap.size w W) => impl_hasproc u hb k W v1 v2 v3 (HU.out W hW))
  obtain ⟨h1, h2, h3⟩ := h
  obtain ⟨a1, c1, rfl⟩ := is_slice h1
  obtain ⟨a2, c2, rfl⟩ := is_slice h2
  obtain ⟨a3, c3, rfl⟩ := is_slice h3
  have B0 := Lib.hid (bl1 w (.cells #[.slice a1 u.recs.length c1, .slice a2 u.globs.length c2, .slice a3 u.procs.length c3] 32))
  have V0 := Lib.hid (Var.new w #[.slice a1 u.recs.length c1, .slice a2 u.globs.length c2, .slice a3 u.procs.length c3] 32)
  obtain ⟨w1, hw1⟩ : ∃ W, w.alloc (.cells #[.slice a1 u.recs.length c1, .slice a2 u.globs.length c2, .slice a3 u.procs.length c3] 32) = W := ⟨_, rfl⟩
  rw [hw1] at B0 V0
  have HW1 := Lib.hid hw1
  have HVC := Lib.hid (HH.out w1 B0.out)
  have HBB := Lib.hid hb
  clear h1 h2 h3 hw1 HH hN hb
  cases hp : hasP u k
  case false =>
    rw [hp] at HVC
    rw [(hasP_no hp).1]
    clear hp
    go_enter Tryz.func8, Tryz.ntmps8
    go_wp2_with fail
    rw [HW1.out]
    have x0 := (V0.out 0 _ rfl).1
    have x1 := (V0.out 1 _ rfl).1
    have x2 := (V0.out 2 _ rfl).1
    go_wp2_with fail
    refine HVC.out.mono ?_
    rintro e w2 ⟨rfl, b2⟩
    have B2 := Lib.hid (below_then B0.out b2)
    clear b2
    go_wp2
    go_ret
    exact ⟨_, [], rfl, own_nil, (fun b hb => by cases hb), B2.out⟩
  case true =>
    rw [hp] at HVC
    obtain ⟨hv, n, rfl, hn⟩ := hasP_yes hp
    rw [lnames_at hv hn]
    have HS := Lib.hid (fun W (hW : Below w.heap.size w W) hvar => impl_scope u HBB.out hv W _ _ _ (HU.out W hW) w.heap.size hvar (HN.out W hW) n hn)
    unfold RetSc at HS
    have HLZ := Lib.hid (locs_size HBB.out (List.getElem_mem hn))
    generalize locs u u.procs[n] = L at HS HLZ ⊢
    clear hp hv hn
    have hfld : ∀ (a : Option Addr) (n c bm : Nat) (W : World), (Instr.field 58 (.agg #[.slice a n c, .map (some bm)]) 0).run Tryz.prog W = .ok (.slice a n c) W := fun a n c bm W => by kernel_rfl
    go_enter Tryz.func8, Tryz.ntmps8
    go_wp2_with fail
    rw [HW1.out]
    have x0 := (V0.out 0 _ rfl).1
    have x1 := (V0.out 1 _ rfl).1
    have x2 := (V0.out 2 _ rfl).1
    go_wp2_with fail
    refine HVC.out.mono ?_
    rintro e w2 ⟨rfl, b2⟩
    have HB2 := Lib.hid (below_then B0.out b2)
    have HV2 := Lib.hid (V0.out.later b2)
    clear b2 x0 x1 x2
    go_wp2_with fail
    refine (HS.out w2 HB2.out HV2.out).mono ?_
    rintro e w3 ⟨v3, bm, m3, rfl, o3, _, _, b3⟩
    have HB3 := Lib.hid (below_then HB2.out b3)
    have HT := Lib.hid (impl_texts _ L w3 (Is.strs_of_owns o3) HLZ.out)
    unfold RetD at HT
    obtain ⟨a5, c5, rfl⟩ := owns_slice o3
    clear o3 b3
    go_wp2_with fail
    refine HT.out.mono ?_
    rintro e w4 ⟨v4, F4, rfl, h4, f4, b4⟩
    have HB4 := Lib.hid (below_then HB3.out b4)
    have H4 := Lib.hid h4
    have HF4 : Hid (Foot w.heap.size w4 F4) := Lib.hid (fun b hb => ⟨Nat.le_trans HB3.out.size (f4 b hb).1, (f4 b hb).2⟩)
    clear h4 f4 b4
    go_wp2
    go_ret
    exact ⟨_, F4, rfl, H4.out, HF4.out, HB4.out⟩
end Go.Proofs.YtckjmmapekaapaaGreatDoor
/- What the laws write into a tree, and read again: the walks. No conditions. -/
namespace Go.Proofs.YtckjmmapekaapaaGreatDoor
open Go.RowKit
set_option linter.unusedVariables false

theorem set_oth (W : World) (g o j : Nat) (u : Value) (h : o ≠ j) : (W.setCell ⟨g, o, none⟩ u).cell? ⟨g, j, none⟩ = W.cell? ⟨g, j, none⟩ := by
  have : ¬ j = o := fun e => h e.symm
  go_simp
theorem row_any {w : World} {g n cap i : Nat} {xs : List Value} (h : RowE w g n cap xs) (hi : i < n) (j : Nat) (hj : j < 5) : (∃ u, w.cell? ⟨g, i * 5 + j, none⟩ = some u) ∧ w.frozen? ⟨g, i * 5 + j, none⟩ = false := h.cell _ (by omega)
set_option maxRecDepth 100000 in
set_option maxHeartbeats 3200000 in
theorem mark_cons (ks : List Ex.T) (h0 : ks ≠ []) (hI : ∀ x ∈ ks, MarkK x.kids) (hlen : ∀ x ∈ ks, x.kids.length ≤ 1048576) : MarkK ks := by
  intro w v F k ho hF hk hl
  obtain ⟨g, c, l, rfl, hl1, hr0, he0, hg0, rfl⟩ : ∃ g c l, v = .slice (some ⟨g, 0, none⟩) ks.length c ∧ l.map Prod.fst = ks ∧ RowE w g ks.length c (rowV l) ∧ Els w l ∧ g ∉ elsF l ∧ F = g :: elsF l := by
    cases ks with
    | nil => exact absurd rfl h0
    | cons x r =>
      rw [OwnK] at ho
      obtain ⟨g, c, xs, G1, G2, e, hrow, rfl, ⟨d1, d2, d3⟩, hx, hr⟩ := ho
      obtain ⟨l, hl2, hl3, hl4, hl5⟩ := ownR_elsOf (x :: r) 0 (G1 ++ G2) (by rw [OwnR]; exact ⟨G1, G2, rfl, d3, hx, by rw [Nat.zero_add]; exact hr⟩)
      have hll : (r.length + 1) = l.length := by have h3 := congrArg List.length hl2; rw [List.length_map, List.length_cons] at h3; exact h3.symm
      exact ⟨g, c, l, e, hl2, rowE_vals hrow hll hl5, hl4, by rw [hl3]; exact fun h => (List.mem_append.1 h).elim d1 d2, by rw [hl3]⟩
  have HST := Lib.hid (MkAt.start (k0 := k) hl1 hr0 he0)
  have HG := Lib.hid hg0
  have HFL := Lib.hid (fun b (hb : b ∈ elsF l) => hF b (List.mem_cons_of_mem _ hb))
  have HI := Lib.hid hI
  have HH0 := Lib.hid h0
  have HLE := Lib.hid hlen
  have HK := Lib.hid hk
  clear ho hI h0 hl1 hr0 he0 hg0 hF hlen hk
  go_enter Tryz.func56, Tryz.ntmps56
  go_wp2
  go_loopw [1, 5] (fun m i wr => ∃ j n : Nat, m = .int .i64 n ∧ i = .int .i64 j ∧ j ≤ ks.length ∧ n = k + 4 * Ex.counts (ks.take j) ∧ MkAt w g c l ks k j wr) (fun _ i _ => ks.length - (intOf i).toNat)
  case atStart => exact ⟨0, k, rfl, rfl, Nat.zero_le _, by simp [Ex.counts], HST.out⟩
  case round =>
    clear HST
    obtain ⟨j, n, rfl, rfl, hj, hn, hat⟩ := hrel
    by_cases hlt : j < ks.length
    · obtain ⟨le, h1, h2, h3, h4, h5⟩ := hat
      obtain ⟨v, F, hp, hp2⟩ := mk_at h1 h2 hlt
      have hct := Ex.counts_take ks j hlt
      have hcl := Ex.counts_take_le ks (j + 1)
      have hce := count_eq ks[j]
      have hkk := HK.out
      have hnb : (n : Int) + 4 + 4 * Ex.counts ks[j].kids ≤ 8000000 := by omega
      have HNX := Lib.hid (fun B1 W2 hb1 hk ho => mk_next (g := g) (c := c) (k0 := k) (v := v) (F := F) (B1 := B1) (W2 := W2) h1 h2 h3 h4 h5 HG.out HFL.out hlt hp hb1 hk ho)
      rw [← hn] at HNX
      have hFl : elsF le = elsF l := elsF_snd h1
      have hFm : ∀ b ∈ F, b ∈ elsF l := fun b hb => hFl ▸ elsF_mem (List.mem_of_getElem? hp) hb
      have hgF : g ∉ F := fun e => HG.out (hFm g e)
      have hFw : ∀ b ∈ F, b < wr.heap.size := fun b hb => by have h7 := HFL.out b (hFm b hb); have h8 := h5.1.size; omega
      have hOK : OwnK wr v ks[j].kids F := h4.1 (ks[j], v, F) (List.mem_of_getElem? hp)
      have hlg := h3.lt
      have hrow : RowE wr g le.length c (rowV le) := by
        have h6 := congrArg List.length h2
        rw [List.length_map, List.length_append, Ex.mrks_len, List.length_take, List.length_drop] at h6
        rw [show le.length = ks.length by omega]; exact h3
      have c4 := row_node hrow hp
      obtain ⟨⟨u0, c0⟩, f0⟩ := row_any h3 hlt 0 (by omega)
      rw [Nat.add_zero] at c0 f0
      have HR0 := Lib.hid (h3.set (j * 5) (.int .i64 (n : Int)))
      have HM := Lib.hid (mark_n n (wr.setCell ⟨g, j * 5, none⟩ (.int .i64 (n : Int))) (by omega))
      have HC := Lib.hid (HI.out ks[j] (List.getElem_mem hlt))
      have HOK := Lib.hid hOK
      have HGF := Lib.hid hgF
      have HFW := Lib.hid hFw
      have C4 := Lib.hid c4
      have HN := Lib.hid hn
      have HCT := Lib.hid hct
      have HCE := Lib.hid hce
      have hkl := HLE.out ks[j] (List.getElem_mem hlt)
      have k0 : (0 : Int) ≤ j := by omega
      have k1 : (j : Int) < ks.length := by omega
      obtain ⟨a5, c5, rfl⟩ := kids_len (OwnK.kids _ hOK)
      have hz : (wr.setCell ⟨g, j * 5, none⟩ (.int .i64 (n : Int))).heap.size = wr.heap.size := by simp [World.setCell]
      have HZ := Lib.hid hz
      clear h1 h2 h3 h4 h5 hp hp2 hct hcl hce hkk hFl hFm hgF hFw hOK hrow c4 hn hz
      generalize ks[j] = x at HNX HC HOK HCT HCE hnb hkl C4
      go_wp2_with (go_at_call 31; refine HM.out.mono ?_; rintro e B1 ⟨rfl, b1⟩; have hr1 := HR0.out.keep (b1.block g (by rw [HZ.out]; exact hlg)); obtain ⟨⟨u1, c1⟩, f1⟩ := row_any hr1 hlt 1 (by omega); obtain ⟨⟨u2, c2⟩, f2⟩ := row_any hr1 hlt 2 (by omega); obtain ⟨⟨u3, c3⟩, f3⟩ := row_any hr1 hlt 3 (by omega); have d4 : B1.cell? ⟨g, j * 5 + 4, none⟩ = some (.slice a5 x.kids.length c5) := (cell_keep (b1.block g (by rw [HZ.out]; exact hlg)) _).trans ((set_oth wr g _ _ _ (by omega)).trans C4.out); have HB1 := Lib.hid b1; clear hr1 b1)
      have hoA : OwnK (((B1.setCell ⟨g, j * 5 + 1, none⟩ (.string (mark (n + 1)))).setCell ⟨g, j * 5 + 2, none⟩ (.int .i64 ((n : Int) + 1 + 1))).setCell ⟨g, j * 5 + 3, none⟩ (.int .i64 ((n : Int) + 1 + 1 + 1))) (.slice a5 x.kids.length c5) x.kids F := OwnK.keep _ (fun b hb => by
        have hbg : b ≠ g := fun e => HGF.out (e ▸ hb)
        rw [Below.heap_setCell _ _ _ _ hbg, Below.heap_setCell _ _ _ _ hbg, Below.heap_setCell _ _ _ _ hbg, HB1.out.block b (by rw [HZ.out]; exact HFW.out b hb), Below.heap_setCell _ _ _ _ hbg]) HOK.out
      have hC2 := HC.out _ _ F (n + 4) hoA (fun b hb => by
        have h7 := HFW.out b hb
        have h8 := HB1.out.size
        rw [HZ.out] at h8
        simp [World.setCell]; omega) (by omega) hkl
      rw [show ((n + 4 : Nat) : Int) = (n : Int) + 1 + 1 + 1 + 1 by omega] at hC2
      refine hC2.mono ?_
      rintro e W2 ⟨rfl, hk2, ho2⟩
      have HNN := Lib.hid (HNX.out B1 W2 HB1.out hk2 ho2)
      clear hC2 hoA hk2 ho2 c0 f0 c1 f1 c2 f2 c3 f3 d4
      go_wp2
      go_roundw
      case rel => exact ⟨j + 1, n + 4 + 4 * Ex.counts x.kids, rfl, by go_num, by omega, by rw [HCT.out, HCE.out, HN.out]; omega, HNN.out⟩
      case measure => first | (simp [intOf]; done) | (simp [intOf]; omega)
    · obtain rfl : j = ks.length := by omega
      obtain ⟨hD1, hD2⟩ := hat.done HG.out HH0.out
      have HD1 := Lib.hid hD1
      have HD2 := Lib.hid hD2
      have HN : Hid (n = k + 4 * Ex.counts ks) := Lib.hid (by rw [hn, List.take_length])
      clear hD1 hD2 hn hat
      go_wp2
      go_ret
      exact ⟨by rw [HN.out]; rfl, HD1.out, HD2.out⟩
theorem mark_all : ∀ (N : Nat) (ks : List Ex.T), Ex.counts ks ≤ N → (∀ x ∈ ks, x.bulk ≤ 1048576) → MarkK ks := by
  intro N
  induction N with
  | zero =>
    intro ks h hb
    cases ks with
    | nil => exact mark_nil
    | cons x r => rw [Ex.counts] at h; have := Ex.count_pos x; omega
  | succ N ih =>
    intro ks h hb
    by_cases h0 : ks = []
    · subst h0; exact mark_nil
    · refine mark_cons ks h0 (fun x hx => ih x.kids ?_ fun y hy => ?_) fun x hx => ?_
      · have h1 := Ex.counts_mem hx
        have h2 := count_eq x
        omega
      · have h1 := hb x hx
        have h2 := bulk_eq x
        have h3 := Ex.bulks_mem hy
        omega
      · have h1 := hb x hx
        have h2 := bulk_eq x
        omega
end Go.Proofs.YtckjmmapekaapaaGreatDoor
