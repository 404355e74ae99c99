/- Joined texts: V48, V49. No conditions besides those that each states. -/
import Derived.Deep.RegionHeld3
import Derived.Deep.DeepCutAuto
import Derived.IntWalk
import Derived.Test.YtckjmmapekaapaaGreatDoorZ24
import Derived.Test.YtckjmmapekaapaaGreatDoorZ50
/- The program's first fault of a body. The table reads as the program's text lays it. -/
namespace Go.Proofs.YtckjmmapekaapaaGreatDoor
open Go.RowKit
set_option linter.unusedVariables false

def FiT (u : Un) (L : List ByteArray) (bm bf : Nat) (w0 : World) (t : Ex.T) : Prop := ∀ (loop made : Bool) (g o : Nat) (w : World), TreeAt w0 g o t → Below w0.heap.size w0 w →
  Calls Tryz.prog 87 #[.agg #[.map (some bm), .map (some bf)], .pointer (some ⟨g, o, none⟩), .agg #[.bool loop, .bool made]] w (RetM w (wlk u L t loop made))
theorem held_bel {p : Prop} {w W : World} (h : p ∧ Below w.heap.size w W) : Below w.heap.size w W := h.2
theorem fi_ret {p q : Int × Int} (h : q = p) : Ending.returned (.agg #[.int .i64 p.1, .int .i64 p.2]) = .returned (meanV q) := by rw [h]
/-- The variables of a call: the checker's, the surroundings', the result's. -/
def FiV (w : World) (bm bf : Nat) (loop made : Bool) (wr : World) : Prop := Var wr w.heap.size [.map (some bm), .map (some bf)] ∧ Var wr (w.heap.size + 1) [.bool loop, .bool made] ∧ Var wr (w.heap.size + 1 + 1) [.int .i64 0, .int .i64 0]
theorem FiV.later {w wr wx : World} {bm bf : Nat} {loop made : Bool} (h : FiV w bm bf loop made wr) (hb : Below wr.heap.size wr wx) : FiV w bm bf loop made wx := ⟨h.1.later hb, h.2.1.later hb, h.2.2.later hb⟩
set_option maxRecDepth 100000 in
set_option maxHeartbeats 12800000 in
theorem fault_in (u : Un) (L : List ByteArray) (bm bf : Nat) (w0 : World) (hck : CkAt u L bm bf w0) (t : Ex.T) (hts : t.text.size ≤ maxLen) (hln : t.kids.length ≤ 1048576) (hI : ∀ x ∈ t.kids, FiT u L bm bf w0 x) : FiT u L bm bf w0 t := by
  intro loop made g o w ht hw
  unfold RetM
  have HI := Lib.hid hI
  unfold FiT RetM at HI
  have HT := Lib.hid ht
  obtain ⟨⟨q0, q1, q2, q3⟩, vk, q4, hkv⟩ := tree_cells ht
  obtain ⟨ak, ck, rfl⟩ := kids_len hkv
  have HKV := Lib.hid hkv
  have hb2 := below_then (bl2 w (.cells #[.map (some bm), .map (some bf)] 131) (.cells #[.bool loop, .bool made] 134)) (bl1 _ (.cells #[.int .i64 0, .int .i64 0] 74))
  have V1 := ((Var.new w #[.map (some bm), .map (some bf)] 131).later (bl1 _ (.cells #[.bool loop, .bool made] 134))).later (bl1 _ (.cells #[.int .i64 0, .int .i64 0] 74))
  have V2 := (Var.new (w.alloc (.cells #[.map (some bm), .map (some bf)] 131)) #[.bool loop, .bool made] 134).later (bl1 _ (.cells #[.int .i64 0, .int .i64 0] 74))
  have V3 := Var.new ((w.alloc (.cells #[.map (some bm), .map (some bf)] 131)).alloc (.cells #[.bool loop, .bool made] 134)) #[.int .i64 0, .int .i64 0] 74
  rw [World.size_alloc] at V2
  rw [World.size_alloc, World.size_alloc] at V3
  obtain ⟨w2, hw2⟩ : ∃ W, ((w.alloc (.cells #[.map (some bm), .map (some bf)] 131)).alloc (.cells #[.bool loop, .bool made] 134)).alloc (.cells #[.int .i64 0, .int .i64 0] 74) = W := ⟨_, rfl⟩
  rw [hw2] at hb2 V1 V2 V3
  have HW2 := Lib.hid hw2
  have HB := Lib.hid hb2
  have HV : Hid (FiV w bm bf loop made w2) := Lib.hid ⟨V1, V2, V3⟩
  have hbw := hw.trans (hb2.mono hw.size)
  have HBW := Lib.hid hbw
  have HCK := Lib.hid (fun W (hW : Below w0.heap.size w0 W) => impl_check u L bm bf t.kind t.text hts loop made g o W (hck.later hW) (subw_below hW _ _ _ q0) (subw_below hW _ _ _ q1))
  have HQ0 := Lib.hid (fun W (hW : Below w0.heap.size w0 W) => subw_below hW _ _ _ q0)
  have HQ3 := Lib.hid (fun W (hW : Below w0.heap.size w0 W) => subw_below hW _ _ _ q3)
  have HQ4 := Lib.hid (fun W (hW : Below w0.heap.size w0 W) => subw_below hW _ _ _ q4)
  have HCC := Lib.hid (HCK.out w2 hbw)
  have v0 := (V1 0 _ rfl).1
  have v1 := (V1 1 _ rfl).1
  have y0 := (V2 0 _ rfl).1
  have y1 := (V2 1 _ rfl).1
  have HWS := Lib.hid (fun (n : Int) (h : flt u L t.kind t.text loop made = n) (hn : n ≠ 0) => wlk_stop (u := u) (L := L) (t := t) (loop := loop) (made := made) h hn)
  have HWG := Lib.hid (fun (h : flt u L t.kind t.text loop made = 0) => show WkAt u L t loop made 0 from by unfold WkAt; rw [wlk_go h]; rfl)
  obtain ⟨f, hf⟩ : ∃ f, flt u L t.kind t.text loop made = f := ⟨_, rfl⟩
  rw [hf] at HCC
  have HF := Lib.hid hf
  clear hw2 hb2 hbw V1 V2 V3 hI ht hw q0 q1 q2 q3 q4 hkv hf hck HCK
  rw [← HW2.out] at v0 v1 y0 y1
  go_enter Tryz.func87, Tryz.ntmps87
  go_wp2_with fail
  rw [HW2.out]
  clear v0 v1 y0 y1
  (with_reducible refine HCC.out.mono ?_)
  rintro e w3 ⟨rfl, b3⟩
  have HB3 := Lib.hid (below_then HB.out b3)
  have HW3 := Lib.hid (HBW.out.trans (b3.mono HBW.out.size))
  have HV3 := Lib.hid (HV.out.later b3)
  clear b3 HB HV HBW HW2
  by_cases hz : f = 0
  · have tz : (f != 0) = false := by simp [hz]
    have HS0 := Lib.hid (HWG.out (HF.out.trans hz))
    have p4 := HQ4.out w3 HW3.out
    have hl0 : (t.kids.length : Int) ≤ 1048576 := by omega
    clear hz HWG HWS HF
    go_wp2
    clear p4
    go_loopw [8, 9, 27] (fun _ _ i wr => ∃ k : Nat, i = .int .i64 k ∧ k ≤ t.kids.length ∧ WkAt u L t loop made k ∧ Below w.heap.size w wr ∧ Below w0.heap.size w0 wr ∧ FiV w bm bf loop made wr) (fun _ _ i _ => t.kids.length - (intOf i).toNat)
    case atStart => exact ⟨0, rfl, Nat.zero_le _, HS0.out, HB3.out, HW3.out, HV3.out⟩
    case round =>
      clear HS0 HB3 HW3 HV3
      obtain ⟨k, rfl, hk, hwk, hbb, hbw, hv⟩ := hrel
      have HB5 := Lib.hid hbb
      have HW5 := Lib.hid hbw
      have HV5 := Lib.hid hv
      have HWK := Lib.hid hwk
      by_cases hlt : k < t.kids.length
      · obtain ⟨gk, ok, rfl, hta⟩ := kids_at HKV.out k hlt
        have k0 : (0 : Int) ≤ (k : Int) := by omega
        have k1 : (k : Int) < t.kids.length := by omega
        have HC := Lib.hid (fun W (hW : Below wr.heap.size wr W) => HI.out t.kids[k] (List.getElem_mem hlt) (kidL t.kind loop k) (made || t.kind == 26) gk (ok + k * 5) W hta (hbw.trans (hW.mono hbw.size)))
        have HKO := Lib.hid (fun W (hW : Below wr.heap.size wr W) => impl_ofKid t.kind loop made k (by omega) g o W (HQ0.out W (hbw.trans (hW.mono hbw.size))))
        unfold RetSur at HKO
        have HNX := Lib.hid (fun hz => HWK.out.next hlt hz)
        have HNO := Lib.hid (fun hz => HWK.out.no hlt hz)
        obtain ⟨p, hp⟩ : ∃ p, wlk u L t.kids[k] (kidL t.kind loop k) (made || t.kind == 26) = p := ⟨_, rfl⟩
        rw [hp] at HC HNX HNO
        generalize kidL t.kind loop k = l1 at HC HKO
        generalize (made || t.kind == 26) = m1 at HC HKO
        have HSS := Lib.hid (fun W (hW : Below wr.heap.size wr W) => (⟨⟨((hv.1.later hW) 0 _ rfl).1, ((hv.1.later hW) 1 _ rfl).1, ((hv.2.1.later hW) 0 _ rfl).1, ((hv.2.1.later hW) 1 _ rfl).1, HQ4.out W (hbw.trans (hW.mono hbw.size))⟩, hW⟩ : (W.cell? ⟨w.heap.size, 0, none⟩ = some (.map (some bm)) ∧ W.cell? ⟨w.heap.size, 1, none⟩ = some (.map (some bf)) ∧ W.cell? ⟨w.heap.size + 1, 0, none⟩ = some (.bool loop) ∧ W.cell? ⟨w.heap.size + 1, 1, none⟩ = some (.bool made) ∧ W.cell? ⟨g, o + 4, none⟩ = some (.slice (some ⟨gk, ok, none⟩) t.kids.length ck)) ∧ Below wr.heap.size wr W))
        have HLT := Lib.hid hlt
        clear hwk hbb hbw hv hta hp hlt
        go_upto_region 7 with fail
        go_cut [9] (fun s9 wx => ∃ gA : Nat, s9 = .pointer (some ⟨gA, 0, none⟩) ∧ SetAt wx gA p.1 p.2 ∧ Below wr.heap.size wr wx ∧ wr.heap.size ≤ gA)
        case first =>
          go_region_held3 (fun W => (W.cell? ⟨w.heap.size, 0, none⟩ = some (.map (some bm)) ∧ W.cell? ⟨w.heap.size, 1, none⟩ = some (.map (some bf)) ∧ W.cell? ⟨w.heap.size + 1, 0, none⟩ = some (.bool loop) ∧ W.cell? ⟨w.heap.size + 1, 1, none⟩ = some (.bool made) ∧ W.cell? ⟨g, o + 4, none⟩ = some (.slice (some ⟨gk, ok, none⟩) t.kids.length ck)) ∧ Below wr.heap.size wr W)
            (first | (with_reducible assumption) | (with_reducible exact HSS.out _ (Below.refl _ _).drew) | (with_reducible exact HSS.out _ HB7.out) | (with_reducible exact HSS.out _ HB6.out) | (with_reducible exact HSS.out _ (below_then HB7.out (bl1 _ _))) | (with_reducible exact HSS.out _ (below_then HB6.out (bl1 _ _))) | (with_reducible exact HSS.out _ (held_tt (by assumption) (bl1 _ _))) | (with_reducible exact HSS.out _ (below_store HB7.out (Nat.le_refl _) _ _)) | (with_reducible exact HSS.out _ (below_store HB7.out HB6.out.size _ _)))
            (first
              | (go_at_call 102; (with_reducible refine (HKO.out _ (held_bel (by assumption))).mono ?_); rintro e w6 ⟨rfl, b6⟩; have HB6 := Lib.hid (below_then (held_bel (by assumption)) b6); (try (have hv := VarAt.later var_new b6; have hV := Lib.hid hv; obtain ⟨⟨hv0, hv1⟩, hq0, hq1⟩ := hv)); (try (have hv := VarAt.later var_newd b6; have hV := Lib.hid hv; obtain ⟨⟨hv0, hv1⟩, hq0, hq1⟩ := hv)))
              | (go_at_call 87; (with_reducible refine (HC.out _ (held_bel (by assumption))).mono ?_); rintro e w7 ⟨rfl, b7⟩; have HB7 := Lib.hid (below_then (held_bel (by assumption)) b7); (try (have hv := VarAt.later var_new b7; have hV := Lib.hid hv; obtain ⟨⟨hv0, hv1⟩, hq0, hq1⟩ := hv)); (try (have hv := VarAt.later hV.out b7; have hV := Lib.hid hv; obtain ⟨⟨hv0, hv1⟩, hq0, hq1⟩ := hv))))
          all_goals (go_wp2_with fail; go_meet; first | exact ⟨_, rfl, SetAt.new _ _ _ _, below_then HB7.out (bl1 _ _), HB7.out.size⟩ | exact ⟨_, rfl, SetAt.stored hV.out _ _, (HB7.out.setCell (p := ⟨_, 0, none⟩) (by first | exact Nat.le_refl _ | exact HB6.out.size) _).setCell (p := ⟨_, 1, none⟩) (by first | exact Nat.le_refl _ | exact HB6.out.size) _, by first | exact Nat.le_refl _ | exact HB6.out.size⟩)
        case rest =>
          obtain ⟨gA, rfl, ⟨s0, s1⟩, hbx, hgA⟩ := hcut
          have HB8 := Lib.hid (below_then HB5.out hbx)
          have HW8 := Lib.hid (HW5.out.trans (hbx.mono HW5.out.size))
          have HV8 := Lib.hid (HV5.out.later hbx)
          have hrs := Var.lt HV5.out.2.2
          have hne : w.heap.size + 1 + 1 ≠ gA := by omega
          have HNE := Lib.hid hne
          clear HC HKO HSS HB5 HW5 HV5 hbx hgA hrs hne
          by_cases hz : p.1 = 0
          · have tz : (p.1 != 0) = false := by simp [hz]
            have HN := Lib.hid (HNX.out hz)
            clear hz HNX HNO
            go_wp2
            go_roundw
            case rel => exact ⟨k + 1, by go_num, HLT.out, HN.out, HB8.out, HW8.out, HV8.out⟩
            case measure => have := HLT.out; first | (simp [intOf]; done) | (simp [intOf]; omega)
          · have tz : (p.1 != 0) = true := by simp [hz]
            have HN := Lib.hid (HNO.out hz)
            obtain ⟨e0, f0⟩ := HV8.out.2.2 0 _ rfl
            obtain ⟨e1, f1⟩ := HV8.out.2.2 1 _ rfl
            clear hz HNX HNO
            go_wp2
            exact bodyPost_ret (v := .agg #[.int .i64 p.1, .int .i64 p.2]) (by simp [results, Tryz.results87, go_sem, e0, e1]) rfl ⟨fi_ret HN.out, (HB8.out.setCell (p := ⟨w.heap.size + 1 + 1, 0, none⟩) (by show w.heap.size ≤ w.heap.size + 1 + 1; omega) _).setCell (p := ⟨w.heap.size + 1 + 1, 1, none⟩) (by show w.heap.size ≤ w.heap.size + 1 + 1; omega) _⟩
      · obtain rfl : k = t.kids.length := by omega
        have HX := Lib.hid hwk.over
        obtain ⟨e0, f0⟩ := hv.2.2 0 _ rfl
        obtain ⟨e1, f1⟩ := hv.2.2 1 _ rfl
        clear hwk hbw hbb hv
        go_wp2
        exact bodyPost_ret (v := .agg #[.int .i64 0, .int .i64 0]) (by simp [results, Tryz.results87, go_sem, e0, e1]) rfl ⟨df_ret HX.out, (HB5.out.setCell (p := ⟨w.heap.size + 1 + 1, 0, none⟩) (by show w.heap.size ≤ w.heap.size + 1 + 1; omega) _).setCell (p := ⟨w.heap.size + 1 + 1, 1, none⟩) (by show w.heap.size ≤ w.heap.size + 1 + 1; omega) _⟩
  · have tz : (f != 0) = true := by simp [hz]
    have HX := Lib.hid (HWS.out f HF.out hz)
    have p3 := HQ3.out w3 HW3.out
    obtain ⟨e0, f0⟩ := HV3.out.2.2 0 _ rfl
    obtain ⟨e1, f1⟩ := HV3.out.2.2 1 _ rfl
    clear hz HWG HWS HF
    go_wp2
    exact bodyPost_ret (v := .agg #[.int .i64 f, .int .i64 t.line]) (by simp [results, Tryz.results87, go_sem, e0, e1]) rfl ⟨df_ret HX.out, (HB3.out.setCell (p := ⟨w.heap.size + 1 + 1, 0, none⟩) (by show w.heap.size ≤ w.heap.size + 1 + 1; omega) _).setCell (p := ⟨w.heap.size + 1 + 1, 1, none⟩) (by show w.heap.size ≤ w.heap.size + 1 + 1; omega) _⟩
theorem impl_faultIn (u : Un) (L : List ByteArray) (bm bf : Nat) (w0 : World) (hck : CkAt u L bm bf w0) : ∀ (N : Nat) (t : Ex.T), t.count ≤ N → t.bulk ≤ 1048576 → FiT u L bm bf w0 t := by
  intro N
  induction N with
  | zero => intro t h _; have := Ex.count_pos t; omega
  | succ N ih =>
    intro t hN hbk
    have hbe := bulk_eq t
    exact fault_in u L bm bf w0 hck t (by unfold maxLen; omega) (by omega) (fun x hx => ih x (by have := kids_count hx; omega) (by have := Ex.bulks_mem hx; omega))
end Go.Proofs.YtckjmmapekaapaaGreatDoor
/- The program's faults of a procedure. The table reads as the program's text lays it. -/
namespace Go.Proofs.YtckjmmapekaapaaGreatDoor
open Go.RowKit
set_option linter.unusedVariables false

/-- The world behind a step. -/
def worldOf {n : Nat} {w W : World} (h : Below n w W) : World := W
/-- The fields of all records. -/
def allF (u : Un) : ByteArray → Bool := fun x => u.recs.any fun r => (fx r.fields x).isSome
set_option maxRecDepth 100000 in
set_option maxHeartbeats 12800000 in
theorem impl_procFault (u : Un) (hb : u.bulk ≤ 1048576) (hv : u.valid = true) (w : World) (v1 v2 v3 : Value) (h : UnIs w u v1 v2 v3) (gu : Nat) (hu : Var w gu [v1, v2, v3]) (hN : NamesAt w) (n : Nat) (hn : n < u.procs.length) (bf m : Nat) (hf : SetM w bf m (allF u)) :
    Calls Tryz.prog 64 #[.pointer (some ⟨gu, 0, none⟩), .int .i64 (n : Int), .map (some bf)] w (RetM w (fltP u u.procs[n])) := by
  unfold RetM
  have hpo := proc_ok hv (List.getElem_mem hn)
  have HBK : Hid (u.procs[n].body.bulk ≤ 1048576) := Lib.hid (by
    have h1 := wsum_mem Pc.bulk (List.getElem_mem hn)
    have h2 : u.procs[n].bulk = u.procs[n].name.size + (strsB u.procs[n].params + (strsB u.procs[n].locals + u.procs[n].body.bulk)) := rfl
    have := hb
    unfold Un.bulk procsB at this
    omega)
  have n1 := bl1 w (.cells #[.int .i64 0, .int .i64 0] 74)
  have R1 := Var.new w #[.int .i64 0, .int .i64 0] 74
  have hu1 := hu.later n1
  have HSC := Lib.hid (impl_scope u hb hv _ v1 v2 v3 ⟨h.1.later n1, h.2.1.later n1, h.2.2.later n1⟩ gu hu1 (hN.later n1) n hn)
  unfold RetSc at HSC
  have H3 := Lib.hid (h.2.2.later n1)
  have HN1 := Lib.hid (hN.later n1)
  have HF1 := Lib.hid (hf.later n1)
  have HFP := Lib.hid (And.intro (fltP_walk (u := u) (p := u.procs[n])) (And.intro (fltP_slots (u := u) (p := u.procs[n])) (fltP_fine (u := u) (p := u.procs[n]))))
  have hl : ((locs u u.procs[n]).length : Int) ≤ 1000 := by have := locs_len u u.procs[n]; omega
  have hl3 : (u.procs.length : Int) ≤ 12 := by omega
  obtain ⟨a3, c3, rfl⟩ := is_slice h.2.2
  obtain ⟨g, o, rfl, q0, ⟨y5, q1, k5⟩, ⟨y6, q2, k6⟩, ⟨q3, q4, q5, q6⟩, ⟨y7, q7, k7⟩, q8⟩ := proc_at h.2.2 n hn
  have hta : TreeAt w g (o + n * 9 + 3) u.procs[n].body := tree_of ⟨q3, q4, q5, q6⟩ q7 k7
  have HTA := Lib.hid hta
  have HQ8 := Lib.hid q8
  have x2 := (hu1 2 _ rfl).1
  have n0 : (0 : Int) ≤ (n : Int) := by omega
  have nn1 : (n : Int) < u.procs.length := by omega
  obtain ⟨w1, hw1⟩ : ∃ W, w.alloc (.cells #[.int .i64 0, .int .i64 0] 74) = W := ⟨_, rfl⟩
  rw [hw1] at n1 R1 x2 HSC H3 HN1 HF1
  have HW1 := Lib.hid hw1
  have HB1 := Lib.hid n1
  have HR1 := Lib.hid R1
  have HZ1 : Hid (w1.heap.size = w.heap.size + 1) := Lib.hid (by rw [← hw1, World.size_alloc])
  clear hw1 n1 R1 hu hu1 h hN hf hpo hb hv q0 q1 q2 q3 q4 q5 q6 q7 q8 k5 k6 k7 hta
  generalize u.procs[n] = x at HBK HSC HFP hl HTA HQ8
  rw [← HW1.out] at x2
  generalize hL : locs u x = L at HSC HFP hl
  go_enter Tryz.func64, Tryz.ntmps64
  go_wp2_with fail
  rw [HW1.out]
  clear x2
  (with_reducible refine HSC.out.mono ?_)
  rintro e w3 ⟨vs, bm, ms, rfl, os, hms, hbm, b3⟩
  have HB3 := Lib.hid (below_then HB1.out b3)
  have HR3 := Lib.hid (HR1.out.later b3)
  have HCK3 : Hid (CkAt u L bm bf w3) := Lib.hid ⟨⟨_, hms⟩, ⟨_, HF1.out.later b3⟩, HN1.out.later b3⟩
  obtain ⟨sa, cs, rfl⟩ := owns_slice os
  have HOS := Lib.hid (Is.strs_of_owns os)
  have hb5 := bl2 w3 (.cells #[.slice sa L.length cs, .map (some bm)] 58) (.cells #[.map (some bm), .map (some bf)] 131)
  have V1 := (Var.new w3 #[.slice sa L.length cs, .map (some bm)] 58).later (bl1 _ (.cells #[.map (some bm), .map (some bf)] 131))
  have V2 := Var.new (w3.alloc (.cells #[.slice sa L.length cs, .map (some bm)] 58)) #[.map (some bm), .map (some bf)] 131
  rw [World.size_alloc] at V2
  obtain ⟨w5, hw5⟩ : ∃ W, (w3.alloc (.cells #[.slice sa L.length cs, .map (some bm)] 58)).alloc (.cells #[.map (some bm), .map (some bf)] 131) = W := ⟨_, rfl⟩
  rw [hw5] at hb5 V1 V2
  have HW5 := Lib.hid hw5
  have HB5 := Lib.hid (below_then HB3.out hb5)
  have HV1 := Lib.hid V1
  have HV2 := Lib.hid V2
  have HR5 := Lib.hid (HR3.out.later hb5)
  have HZ5 : Hid (w.heap.size < w5.heap.size ∧ w.heap.size ≠ w3.heap.size) := Lib.hid (by have h1 := HZ1.out; have h2 := b3.size; have h3 := hb5.size; omega)
  have HT5 := Lib.hid (TreeAt.mono (subw_below HB5.out) _ HTA.out)
  have HFI := Lib.hid (fun W (hW : Below w5.heap.size w5 W) => impl_faultIn u L bm bf w5 (HCK3.out.later hb5) _ x.body (Nat.le_refl _) HBK.out false false g (o + n * 9 + 3) W HT5.out hW)
  unfold RetM at HFI
  obtain ⟨p, hp⟩ : ∃ p, wlk u L x.body false false = p := ⟨_, rfl⟩
  rw [hp] at HFI HFP
  have HSS := Lib.hid (fun W (hW : Below w5.heap.size w5 W) => (⟨⟨((V2.later hW) 0 _ rfl).1, ((V2.later hW) 1 _ rfl).1⟩, hW⟩ : (W.cell? ⟨w3.heap.size + 1, 0, none⟩ = some (.map (some bm)) ∧ W.cell? ⟨w3.heap.size + 1, 1, none⟩ = some (.map (some bf))) ∧ Below w5.heap.size w5 W))
  clear hw5 hb5 V1 V2 os hms hbm b3 HSC HB3 HR3 HCK3 hp hL
  go_upto_region 4 with fail
  rw [HW5.out]
  go_cut [10] (fun s9 wx => ∃ gA : Nat, s9 = .pointer (some ⟨gA, 0, none⟩) ∧ SetAt wx gA p.1 p.2 ∧ Below w5.heap.size w5 wx ∧ w5.heap.size ≤ gA)
  case first =>
    go_region_held3 (fun W => (W.cell? ⟨w3.heap.size + 1, 0, none⟩ = some (.map (some bm)) ∧ W.cell? ⟨w3.heap.size + 1, 1, none⟩ = some (.map (some bf))) ∧ Below w5.heap.size w5 W)
      (first | (with_reducible assumption) | (with_reducible exact HSS.out _ (Below.refl _ _).drew) | (with_reducible exact HSS.out _ HB7.out) | (with_reducible exact HSS.out _ (below_then HB7.out (bl1 _ _))) | (with_reducible exact HSS.out _ (held_tt (by assumption) (bl1 _ _))) | (with_reducible exact HSS.out _ (below_store HB7.out (Nat.le_refl _) _ _)))
      (first
        | (go_at_call 87; (with_reducible refine (HFI.out _ (held_bel (by assumption))).mono ?_); rintro e w7 ⟨rfl, b7⟩; have HB7 := Lib.hid (below_then (held_bel (by assumption)) b7); (try (have hv := VarAt.later var_new b7; have hV := Lib.hid hv; obtain ⟨⟨hv0, hv1⟩, hq0, hq1⟩ := hv)); (try (have hv := VarAt.later var_newd b7; have hV := Lib.hid hv; obtain ⟨⟨hv0, hv1⟩, hq0, hq1⟩ := hv))))
    all_goals (go_wp2_with fail; go_meet; first | exact ⟨_, rfl, SetAt.new _ _ _ _, below_then HB7.out (bl1 _ _), HB7.out.size⟩ | exact ⟨_, rfl, SetAt.stored hV.out _ _, (HB7.out.setCell (p := ⟨_, 0, none⟩) (Nat.le_refl _) _).setCell (p := ⟨_, 1, none⟩) (Nat.le_refl _) _, Nat.le_refl _⟩)
  case rest =>
    obtain ⟨gA, rfl, ⟨s0, s1⟩, hbx, hgA⟩ := hcut
    have HB8 := Lib.hid (below_then HB5.out hbx)
    have HV8 := Lib.hid (HV1.out.later hbx)
    have HR8 := Lib.hid (HR5.out.later hbx)
    have hne : w.heap.size ≠ gA := by have := HZ5.out; omega
    have HNE := Lib.hid hne
    obtain ⟨wx, hwx⟩ : ∃ wx, wx = worldOf hbx := ⟨_, rfl⟩
    unfold worldOf at hwx
    subst hwx
    have HBX := Lib.hid hbx
    clear HFI HSS HB5 HV1 HV2 HR5 HW5 HW1 hbx hgA hne
    by_cases hz : p.1 = 0
    · have tz : (p.1 != 0) = false := by simp [hz]
      have HZZ := Lib.hid hz
      have HT8 := Lib.hid (TreeAt.mono (subw_below HBX.out) _ HT5.out)
      have HCS := Lib.hid (fun W (hW : Below wx.heap.size wx W) => impl_cases x.body HBK.out g (o + n * 9 + 3) W (TreeAt.mono (subw_below hW) _ HT8.out))
      have HS9 := Lib.hid (fun W (hW : Below wx.heap.size wx W) => (⟨((HV8.out.later hW) 0 _ rfl).1, hW⟩ : W.cell? ⟨w3.heap.size, 0, none⟩ = some (.slice sa L.length cs) ∧ Below wx.heap.size wx W))
      have hcs : (csN x.body : Int) ≤ 1048577 := by have h1 := csN_le x.body; have h2 := small_count HBK.out; omega
      generalize csN x.body = c at HCS hcs HFP
      have hc0 : (0 : Int) ≤ c := by omega
      have hl0 : (0 : Int) ≤ L.length := by omega
      clear hz
      by_cases hgt : (24 : Int) < (L.length : Int) + c
      · have HX := Lib.hid (HFP.out.2.1 HZZ.out (by omega))
        clear HFP
        have hsum : IntKind.i64.wrap ((L.length : Int) + (c : Int)) = (L.length : Int) + (c : Int) := IntWalk.i64_in _ (by omega)
        go_wp2_with fail
        clear s0 s1
        go_region_held3 (fun W => W.cell? ⟨w3.heap.size, 0, none⟩ = some (.slice sa L.length cs) ∧ Below wx.heap.size wx W)
          (first | (with_reducible assumption) | (with_reducible exact HS9.out _ (Below.refl _ _).drew) | (with_reducible exact HS9.out _ HB9.out))
          ((go_at_call 88; (with_reducible refine (HCS.out _ (held_bel (by assumption))).mono ?_); rintro e w9 ⟨rfl, b9⟩; have HB9 := Lib.hid (below_then (held_bel (by assumption)) b9)))
        all_goals
          have HBA := Lib.hid (below_then HB8.out HB9.out)
          have HRA := Lib.hid (HR8.out.later HB9.out)
          have p8 := subw_below HBA.out _ _ _ HQ8.out
          obtain ⟨e0, f0⟩ := HRA.out 0 _ rfl
          obtain ⟨e1, f1⟩ := HRA.out 1 _ rfl
          clear HCS HS9 HB8 HR8 HV8 HT8
          go_wp2
          exact bodyPost_ret (v := .agg #[.int .i64 7, .int .i64 x.line]) (by simp [results, Tryz.results64, go_sem, e0, e1]) rfl ⟨df_ret HX.out, below_store HBA.out (Nat.le_refl _) _ _⟩
      · have HX := Lib.hid (HFP.out.2.2 HZZ.out (by omega))
        clear HFP
        have hsum : IntKind.i64.wrap ((L.length : Int) + (c : Int)) = (L.length : Int) + (c : Int) := IntWalk.i64_in _ (by omega)
        go_wp2_with fail
        clear s0 s1
        go_region_held3 (fun W => W.cell? ⟨w3.heap.size, 0, none⟩ = some (.slice sa L.length cs) ∧ Below wx.heap.size wx W)
          (first | (with_reducible assumption) | (with_reducible exact HS9.out _ (Below.refl _ _).drew) | (with_reducible exact HS9.out _ HB9.out))
          ((go_at_call 88; (with_reducible refine (HCS.out _ (held_bel (by assumption))).mono ?_); rintro e w9 ⟨rfl, b9⟩; have HB9 := Lib.hid (below_then (held_bel (by assumption)) b9)))
        all_goals
          have HBA := Lib.hid (below_then HB8.out HB9.out)
          have HRA := Lib.hid (HR8.out.later HB9.out)
          have p8 := subw_below HBA.out _ _ _ HQ8.out
          obtain ⟨e0, f0⟩ := HRA.out 0 _ rfl
          obtain ⟨e1, f1⟩ := HRA.out 1 _ rfl
          clear HCS HS9 HB8 HR8 HV8 HT8
          go_wp2
          exact bodyPost_ret (v := .agg #[.int .i64 0, .int .i64 0]) (by simp [results, Tryz.results64, go_sem, e0, e1]) rfl ⟨df_ret HX.out, below_store HBA.out (Nat.le_refl _) _ _⟩
    · have tz : (p.1 != 0) = true := by simp [hz]
      have HX := Lib.hid (HFP.out.1 hz)
      obtain ⟨e0, f0⟩ := HR8.out 0 _ rfl
      obtain ⟨e1, f1⟩ := HR8.out 1 _ rfl
      clear hz HFP
      go_wp2
      exact bodyPost_ret (v := .agg #[.int .i64 p.1, .int .i64 p.2]) (by simp [results, Tryz.results64, go_sem, e0, e1]) rfl ⟨fi_ret HX.out, below_store HB8.out (Nat.le_refl _) _ _⟩
end Go.Proofs.YtckjmmapekaapaaGreatDoor
