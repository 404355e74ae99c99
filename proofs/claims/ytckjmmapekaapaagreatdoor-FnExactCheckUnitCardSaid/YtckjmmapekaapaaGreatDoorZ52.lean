/- Joined texts: V50, V43, V21. No conditions besides those that each states. -/
import Derived.Test.YtckjmmapekaapaaGreatDoorRows
import Derived.LaidLaws
import Derived.MakeChecks
import Derived.OpenShut
import Derived.Test.YtckjmmapekaapaaGreatDoorZ22
import Derived.Test.YtckjmmapekaapaaGreatDoorZ36
import Derived.Test.YtckjmmapekaapaaGreatDoorZ37
import Derived.Test.YtckjmmapekaapaaGreatDoorZ46
import Derived.Test.YtckjmmapekaapaaGreatDoorZ51
/- The program's first fault, its CheckUnit. The table reads as the program's text lays it. -/
namespace Go.Proofs.YtckjmmapekaapaaGreatDoor
open Go.RowKit
set_option linter.unusedVariables false

theorem fltU_split {u : Un} (h : dup u = (0, 0)) (h2 : fltPs u u.procs = (0, 0)) : fltU u = mainF u := by
  unfold fltU mainF
  rw [h, h2]; rfl
theorem dupR_first {l : List Rc} : ∀ {acc : List ByteArray} {f : Int × Int}, dupR acc l = .inl f → f.1 = 2 := by
  induction l with
  | nil => intro acc f h; rw [dupR] at h; cases h
  | cons r l ih =>
    intro acc f h
    rw [dupR] at h
    split at h
    · injection h with h; rw [← h]
    · exact ih h
theorem dupG_first {l : List ByteArray} : ∀ {acc : List ByteArray} {f : Int × Int}, dupG acc l = .inl f → f.1 = 2 := by
  induction l with
  | nil => intro acc f h; rw [dupG] at h; cases h
  | cons r l ih =>
    intro acc f h
    rw [dupG] at h
    split at h
    · injection h with h; rw [← h]
    · exact ih h
theorem dupP_first {l : List Pc} : ∀ {acc : List ByteArray} {f : Int × Int}, dupP acc l = .inl f → f.1 = 2 := by
  induction l with
  | nil => intro acc f h; rw [dupP] at h; cases h
  | cons r l ih =>
    intro acc f h
    rw [dupP] at h
    split at h
    · injection h with h; rw [← h]
    · exact ih h
theorem dup_line {u : Un} (h : (dup u).1 = 0) : dup u = (0, 0) := by
  unfold dup at h ⊢
  split
  · rename_i f hf
    rw [hf] at h
    have h9 := dupR_first hf
    have h8 : f.1 = 0 := h
    omega
  · rename_i a ha
    rw [ha] at h
    have h := h
    simp only at h
    split
    · rename_i f hf
      rw [hf] at h
      have h9 := dupG_first hf
      have h8 : f.1 = 0 := h
      omega
    · rename_i b hb
      rw [hb] at h
      simp only at h
      split
      · rename_i f hf
        rw [hf] at h
        have h9 := dupP_first hf
        have h8 : f.1 = 0 := h
        omega
      · rfl
/-- Where the walk of the procedures stands. -/
def FfAt (w : World) (bf : Nat) (u : Un) (wr : World) : Prop := Var wr w.heap.size [.int .i64 0, .int .i64 0] ∧ (∃ m, SetM wr bf m (allF u)) ∧ Below w.heap.size w wr
theorem FfAt.later {w wr wx : World} {bf : Nat} {u : Un} (h : FfAt w bf u wr) (hb : Below wr.heap.size wr wx) : FfAt w bf u wx := ⟨h.1.later hb, ⟨_, h.2.1.choose_spec.later hb⟩, below_then h.2.2 hb⟩
set_option maxRecDepth 100000 in
set_option maxHeartbeats 6400000 in
theorem impl_first (u : Un) (hb : u.bulk ≤ 1048576) (hv : u.valid = true) (w : World) (v1 v2 v3 : Value) (h : UnIs w u v1 v2 v3) (gu : Nat) (hu : Var w gu [v1, v2, v3]) (hN : NamesAt w) :
    Calls Tryz.prog 38 #[.pointer (some ⟨gu, 0, none⟩)] w (RetM w (fltU u)) := by
  unfold RetM
  have hun := un_names hb hv
  have hz := un_sizes hb hv
  have HU := Lib.hid (fun W (hW : Below w.heap.size w W) => (⟨h.1.later hW, h.2.1.later hW, h.2.2.later hW⟩ : UnIs W u v1 v2 v3))
  have HUV := Lib.hid (fun W (hW : Below w.heap.size w W) => hu.later hW)
  have HNN := Lib.hid (fun W (hW : Below w.heap.size w W) => hN.later hW)
  have HDU := Lib.hid (fun W (hW : Below w.heap.size w W) => impl_dup u hun hz W v1 v2 v3 (HU.out W hW) gu (HUV.out W hW) (HNN.out W hW))
  have HFL := Lib.hid (fun W (hW : Below w.heap.size w W) => impl_fields u hz hun.2.2.2.1 W v1 v2 v3 (HU.out W hW) gu (HUV.out W hW))
  have HMA := Lib.hid (fun W (hW : Below w.heap.size w W) => impl_main u hun.2.2.2.2.2 (fun p hp => (hz.2.2.2 p hp).1) W v1 v2 v3 (HU.out W hW) gu (HUV.out W hW))
  have HPF := Lib.hid (fun W (hW : Below w.heap.size w W) (n : Nat) (hn : n < u.procs.length) (bf m : Nat) (hf : SetM W bf m (allF u)) => impl_procFault u hb hv W v1 v2 v3 (HU.out W hW) gu (HUV.out W hW) (HNN.out W hW) n hn bf m hf)
  unfold RetM at HDU HMA HPF
  unfold RetFlds at HFL
  have hl12 : (u.procs.length : Int) ≤ 12 := by have := hun.2.2.2.2.2; omega
  obtain ⟨a3, c3, rfl⟩ := is_slice h.2.2
  have n1 := bl1 w (.cells #[.int .i64 0, .int .i64 0] 74)
  have R1 := Var.new w #[.int .i64 0, .int .i64 0] 74
  have HD1 := Lib.hid (HDU.out _ n1)
  obtain ⟨w1, hw1⟩ : ∃ W, w.alloc (.cells #[.int .i64 0, .int .i64 0] 74) = W := ⟨_, rfl⟩
  rw [hw1] at n1 R1 HD1
  have HW1 := Lib.hid hw1
  have HB1 := Lib.hid n1
  have HR1 := Lib.hid R1
  have HZ1 : Hid (w1.heap.size = w.heap.size + 1) := Lib.hid (by rw [← hw1, World.size_alloc])
  have HLN := Lib.hid (dup_line (u := u))
  have HFD := Lib.hid (fltU_dup (u := u))
  obtain ⟨pd, hpd⟩ : ∃ p, dup u = p := ⟨_, rfl⟩
  rw [hpd] at HD1 HLN HFD
  have HPD := Lib.hid hpd
  clear hw1 n1 R1 h hu hN hun hz hb hv hpd
  go_enter Tryz.func38, Tryz.ntmps38
  go_wp2_with fail
  rw [HW1.out]
  (with_reducible refine HD1.out.mono ?_)
  rintro e w2 ⟨rfl, b2⟩
  have n3 := bl1 w2 (.cells #[.int .i64 pd.1, .int .i64 pd.2] 74)
  have HB3 := Lib.hid (below_then (below_then HB1.out b2) n3)
  have HR3 := Lib.hid ((HR1.out.later b2).later n3)
  obtain ⟨w3, hw3⟩ : ∃ W, w2.alloc (.cells #[.int .i64 pd.1, .int .i64 pd.2] 74) = W := ⟨_, rfl⟩
  rw [hw3] at n3 HB3 HR3
  have HW3 := Lib.hid hw3
  have HV3 : Hid (Var w3 w2.heap.size [.int .i64 pd.1, .int .i64 pd.2]) := Lib.hid (by rw [← hw3]; exact Var.new w2 #[.int .i64 pd.1, .int .i64 pd.2] 74)
  clear n3 hw3 b2 HB1 HR1 HD1 HDU
  by_cases hz : pd.1 = 0
  · have tz : (pd.1 != 0) = false := by simp [hz]
    have HDD := Lib.hid (HPD.out.trans (HLN.out hz))
    have HF3 := Lib.hid (HFL.out w3 HB3.out)
    have HP0 := Lib.hid (prAt_zero u)
    clear hz HLN HFD HFL
    go_wp2_with fail
    rw [HW3.out]
    (with_reducible refine HF3.out.mono ?_)
    rintro e w4 ⟨bf, mf, rfl, hs4, b4⟩
    have HB4 := Lib.hid (below_then HB3.out b4)
    have HR4 := Lib.hid (HR3.out.later b4)
    have HST : Hid (FfAt w bf u w4) := Lib.hid ⟨HR4.out, ⟨_, hs4⟩, HB4.out⟩
    have x2 := (HUV.out w4 HB4.out 2 _ rfl).1
    clear b4 hs4 HB3 HR3 HV3 HF3
    go_wp2
    clear x2
    go_loopw [5, 6, 20] (fun _ _ i wr => ∃ k : Nat, i = .int .i64 k ∧ k ≤ u.procs.length ∧ FfAt w bf u wr ∧ PrAt u k) (fun _ _ i _ => u.procs.length - (intOf i).toNat)
    case atStart => exact ⟨0, rfl, Nat.zero_le _, HST.out, HP0.out⟩
    case round =>
      clear HST HP0
      obtain ⟨k, rfl, hk, hs, hp⟩ := hrel
      have HS := Lib.hid hs
      have HP := Lib.hid hp
      by_cases hlt : k < u.procs.length
      · have HC := Lib.hid (HPF.out wr hs.2.2 k hlt bf _ hs.2.1.choose_spec)
        have HNX := Lib.hid (fun (h1 : (fltP u u.procs[k]).1 = 0) => HP.out.next hlt h1)
        have HNO := Lib.hid (fun (h1 : (fltP u u.procs[k]).1 ≠ 0) => show fltU u = fltP u u.procs[k] from by have e := HP.out.bad hlt h1; rw [fltU_proc HDD.out (by rw [e]; exact h1), e])
        obtain ⟨p, hpp⟩ : ∃ p, fltP u u.procs[k] = p := ⟨_, rfl⟩
        rw [hpp] at HC HNX HNO
        have k0 : (0 : Int) ≤ (k : Int) := by omega
        have k1 : (k : Int) < u.procs.length := by omega
        have HLT := Lib.hid hlt
        clear hs hp hpp hlt
        go_wp2_with fail
        (with_reducible refine HC.out.mono ?_)
        rintro e w6 ⟨rfl, b6⟩
        have n7 := bl1 w6 (.cells #[.int .i64 p.1, .int .i64 p.2] 74)
        have HS7 := Lib.hid ((HS.out.later b6).later n7)
        have HNE : Hid (w.heap.size ≠ w6.heap.size) := Lib.hid (by have h1 := Var.lt HS.out.1; have h2 := b6.size; omega)
        by_cases hz2 : p.1 = 0
        · have tz2 : (p.1 != 0) = false := by simp [hz2]
          have HN := Lib.hid (HNX.out hz2)
          clear hz2 HNX HNO b6 n7 HC
          go_wp2
          go_roundw
          case rel => exact ⟨k + 1, by go_num, HLT.out, HS7.out, HN.out⟩
          case measure => have := HLT.out; first | (simp [intOf]; done) | (simp [intOf]; omega)
        · have tz2 : (p.1 != 0) = true := by simp [hz2]
          have HN := Lib.hid (HNO.out hz2)
          obtain ⟨e0, f0⟩ := HS7.out.1 0 _ rfl
          obtain ⟨e1, f1⟩ := HS7.out.1 1 _ rfl
          have V7 := Var.new w6 #[.int .i64 p.1, .int .i64 p.2] 74
          have g0 := (V7 0 _ rfl).1
          have g1 := (V7 1 _ rfl).1
          clear hz2 HNX HNO b6 n7 HC V7
          go_wp2
          exact bodyPost_ret (v := .agg #[.int .i64 p.1, .int .i64 p.2]) (by simp [results, Tryz.results38, go_sem, e0, e1]) rfl ⟨fi_ret HN.out, below_store HS7.out.2.2 (Nat.le_refl _) _ _⟩
      · obtain rfl : k = u.procs.length := by omega
        have HX := Lib.hid (fltU_split HDD.out HP.out.over)
        have HMC := Lib.hid (HMA.out wr hs.2.2)
        obtain ⟨pm, hpm⟩ : ∃ p, mainF u = p := ⟨_, rfl⟩
        rw [hpm] at HMC HX
        clear hs hp hpm
        go_wp2_with fail
        (with_reducible refine HMC.out.mono ?_)
        rintro e w6 ⟨rfl, b6⟩
        have HS6 := Lib.hid (HS.out.later b6)
        obtain ⟨e0, f0⟩ := HS6.out.1 0 _ rfl
        obtain ⟨e1, f1⟩ := HS6.out.1 1 _ rfl
        clear b6 HMC
        go_wp2
        exact bodyPost_ret (v := .agg #[.int .i64 pm.1, .int .i64 pm.2]) (by simp [results, Tryz.results38, go_sem, e0, e1]) rfl ⟨fi_ret HX.out, below_store HS6.out.2.2 (Nat.le_refl _) _ _⟩
  · have tz : (pd.1 != 0) = true := by simp [hz]
    have HX := Lib.hid ((HFD.out hz))
    obtain ⟨e0, f0⟩ := HR3.out 0 _ rfl
    obtain ⟨e1, f1⟩ := HR3.out 1 _ rfl
    have g0 := (HV3.out 0 _ rfl).1
    have g1 := (HV3.out 1 _ rfl).1
    rw [← HW3.out] at e0 f0 e1 f1 g0 g1
    clear hz HLN HFD HFL
    go_wp2
    rw [HW3.out] at e0 e1
    rw [HW3.out]
    exact bodyPost_ret (v := .agg #[.int .i64 pd.1, .int .i64 pd.2]) (by simp [results, Tryz.results38, go_sem, e0, e1]) rfl ⟨fi_ret HX.out, below_store HB3.out (Nat.le_refl _) _ _⟩
set_option maxRecDepth 100000 in
set_option maxHeartbeats 3200000 in
theorem impl_chk (u : Un) (hb : u.bulk ≤ 1048576) (w : World) (v1 v2 v3 : Value) (h : UnIs w u v1 v2 v3) (hN : NamesAt w) : Calls Tryz.prog 15 #[unV v1 v2 v3] w (RetII w (chk u)) := by
  unfold RetII
  have HU := Lib.hid (fun W (hW : Below w.heap.size w W) => (⟨h.1.later hW, h.2.1.later hW, h.2.2.later hW⟩ : UnIs W u v1 v2 v3))
  have HNN := Lib.hid (fun W (hW : Below w.heap.size w W) => hN.later hW)
  have HV := Lib.hid (fun W (hW : Below w.heap.size w W) => impl_validunit u hb W v1 v2 v3 (HU.out W hW))
  have HFF := Lib.hid (fun W (hW : Below w.heap.size w W) (hv : u.valid = true) (hu : Var W w.heap.size [v1, v2, v3]) => impl_first u hb hv W v1 v2 v3 (HU.out W hW) w.heap.size hu (HNN.out W hW))
  unfold RetM at HFF
  obtain ⟨h1, h2, h3⟩ := h
  obtain ⟨a1, c1, rfl⟩ := is_slice h1
  obtain ⟨a2, c2, rfl⟩ := is_slice h2
  obtain ⟨a3, c3, rfl⟩ := is_slice h3
  have B0 := Lib.hid (bl1 w (.cells #[.slice a1 u.recs.length c1, .slice a2 u.globs.length c2, .slice a3 u.procs.length c3] 32))
  have V0 := Lib.hid (Var.new w #[.slice a1 u.recs.length c1, .slice a2 u.globs.length c2, .slice a3 u.procs.length c3] 32)
  obtain ⟨w1, hw1⟩ : ∃ W, w.alloc (.cells #[.slice a1 u.recs.length c1, .slice a2 u.globs.length c2, .slice a3 u.procs.length c3] 32) = W := ⟨_, rfl⟩
  rw [hw1] at B0 V0
  have HW1 := Lib.hid hw1
  have HVC := Lib.hid (HV.out w1 B0.out)
  clear h1 h2 h3 hw1 HV hb hN
  have x0 := (V0.out 0 _ rfl).1
  have x1 := (V0.out 1 _ rfl).1
  have x2 := (V0.out 2 _ rfl).1
  rw [← HW1.out] at x0 x1 x2
  cases hv : u.valid
  case false =>
    rw [hv] at HVC
    rw [chk_bad hv]
    clear hv
    go_enter Tryz.func15, Tryz.ntmps15
    go_wp2_with fail
    rw [HW1.out]
    refine HVC.out.mono ?_
    rintro e w2 ⟨rfl, b2⟩
    have B2 := Lib.hid (below_then B0.out b2)
    clear b2
    go_wp2
    go_ret2
    exact ⟨rfl, B2.out⟩
  case true =>
    rw [hv] at HVC
    rw [chk_ok hv]
    have HVL := Lib.hid hv
    obtain ⟨p, hp⟩ : ∃ p, fltU u = p := ⟨_, rfl⟩
    rw [hp] at HFF ⊢
    clear hv hp
    go_enter Tryz.func15, Tryz.ntmps15
    go_wp2_with fail
    rw [HW1.out]
    refine HVC.out.mono ?_
    rintro e w2 ⟨rfl, b2⟩
    have B2 := Lib.hid (below_then B0.out b2)
    have V2 := Lib.hid (V0.out.later b2)
    clear b2 x0 x1 x2
    go_wp2_with fail
    (with_reducible refine (HFF.out w2 B2.out HVL.out V2.out).mono ?_)
    rintro e w3 ⟨rfl, b3⟩
    have B4 := Lib.hid (below_then (below_then B2.out b3) (bl1 w3 (.cells #[.int .i64 p.1, .int .i64 p.2] 74)))
    clear b3
    go_wp2
    go_quiet (fail)
    go_wp2
    go_ret2
    exact ⟨rfl, below_drewN B4.out _⟩
end Go.Proofs.YtckjmmapekaapaaGreatDoor
/- The law on CheckUnit: its walk. The table reads as the program's text lays it. -/
namespace Go.Proofs.YtckjmmapekaapaaGreatDoor
open Go.RowKit
set_option linter.unusedVariables false

set_option maxRecDepth 100000 in
set_option maxHeartbeats 3200000 in
theorem FnExactCheckUnit_walk (u : Un) (v1 v2 v3 : Value) (hok : u.Ok)  (w : World) (hk : UnIs w u v1 v2 v3)  (hN : NamesAt w) : Calls Tryz.prog 4 #[unV v1 v2 v3] w fun e w' => e = .returned (.bool true) ∧ Below w.heap.size w w' := by
  have HSZ := Lib.hid (fun W (hW : Below w.heap.size w W) => sz_unit u hok W v1 v2 v3 (hk.later hW))
  by_cases hb : u.bulk ≤ 1048576
  · rw [szR_yes hb] at HSZ
    have HTO := Lib.hid (fun W (hW : Below w.heap.size w W) => to_unit u hb W v1 v2 v3 (hk.later hW).1 (hk.later hW).2.1 (hk.later hW).2.2)
    unfold MadeU at HTO
    have HEQ := Lib.hid (fun W v1 v2 v3 u1 u2 u3 (h1 : UnIs W u v1 v2 v3) (h2 : UnIs W u u1 u2 u3) => eq_unit u hb W v1 v2 v3 u1 u2 u3 h1.1 h1.2.1 h1.2.2 h2.1 h2.2.1 h2.2.2)
    have HSP := Lib.hid (fun W v1 v2 v3 h1 => spec_chk u hb W v1 v2 v3 h1)
    have HIM := Lib.hid (fun W (hW : Below w.heap.size w W) v1 v2 v3 h1 => impl_chk u hb W v1 v2 v3 h1 (hN.later hW))
    unfold RetII at HSP HIM
    generalize hpp : chk u = p at HSP HIM
    clear hpp
    have hl1 : decide (((1048576 - u.bulk : Nat) : Int) < 0) = false := decide_eq_false (by omega)
    generalize ((1048576 - u.bulk : Nat) : Int) = left at HSZ hl1
    obtain ⟨a1, c1, rfl⟩ := is_slice hk.1
    obtain ⟨a2, c2, rfl⟩ := is_slice hk.2.1
    obtain ⟨a3, c3, rfl⟩ := is_slice hk.2.2
    have HV0 := Lib.hid (Var.new w #[.slice a1 u.recs.length c1, .slice a2 u.globs.length c2, .slice a3 u.procs.length c3] 26)
    clear hok hk hb hN
    go_enter Tryz.func4, Tryz.ntmps4
    go_wp2_with fail
    refine (HSZ.out _ (bl1 _ _)).mono ?_
    rintro e w1 ⟨rfl, b1⟩
    have B1 := Lib.hid (below_then (bl1 _ _) b1)
    have V1 := Lib.hid (HV0.out.later b1)
    have e0 := (V1.out 0 _ rfl).1
    have e1 := (V1.out 1 _ rfl).1
    have e2 := (V1.out 2 _ rfl).1
    clear b1
    go_wp2_with fail
    refine (HTO.out _ B1.out).mono ?_
    rintro e w2 ⟨x1, x2, x3, F1, F2, F3, rfl, o2, _, b2⟩
    have K2 := Lib.hid o2.is
    obtain ⟨z1, d1, rfl⟩ := is_slice o2.is.1
    obtain ⟨z2, d2, rfl⟩ := is_slice o2.is.2.1
    obtain ⟨z3, d3, rfl⟩ := is_slice o2.is.2.2
    have B2 := Lib.hid (below_then B1.out b2)
    have V2 := Lib.hid (V1.out.later b2)
    clear e0 e1 e2 o2 b2
    go_wp2_with fail
    refine (HSP.out _ _ _ _ K2.out).mono ?_
    rintro e w3 ⟨rfl, b3⟩
    have B3 := Lib.hid (below_then B2.out b3)
    have V3 := Lib.hid (V2.out.later b3)
    have e0 := (V3.out 0 _ rfl).1
    have e1 := (V3.out 1 _ rfl).1
    have e2 := (V3.out 2 _ rfl).1
    clear b3 K2
    go_wp2_with fail
    refine (HTO.out _ B3.out).mono ?_
    rintro e w4 ⟨x1, x2, x3, F1, F2, F3, rfl, o4, _, b4⟩
    have K4' := o4.is
    obtain ⟨y1, g1, rfl⟩ := is_slice o4.is.1
    obtain ⟨y2, g2, rfl⟩ := is_slice o4.is.2.1
    obtain ⟨y3, g3, rfl⟩ := is_slice o4.is.2.2
    have n4 := bl1 w4 (.cells #[.slice y1 u.recs.length g1, .slice y2 u.globs.length g2, .slice y3 u.procs.length g3] 32)
    have K4 := Lib.hid (K4'.later n4)
    have B4 := Lib.hid (below_then (below_then B3.out b4) n4)
    have V4 := Lib.hid ((V3.out.later b4).later n4)
    have X4 := Lib.hid (Var.new w4 #[.slice y1 u.recs.length g1, .slice y2 u.globs.length g2, .slice y3 u.procs.length g3] 32)
    clear e0 e1 e2 o4 b4 n4 K4'
    go_wp2_with fail
    refine (HIM.out _ B4.out _ _ _ K4.out).mono ?_
    rintro e w5 ⟨rfl, b5⟩
    have B5 := Lib.hid (below_then B4.out b5)
    have V5 := Lib.hid (V4.out.later b5)
    have X5 := Lib.hid (X4.out.later b5)
    have K5 := Lib.hid (K4.out.later b5)
    have e0 := (V5.out 0 _ rfl).1
    have e1 := (V5.out 1 _ rfl).1
    have e2 := (V5.out 2 _ rfl).1
    have f0 := (X5.out 0 _ rfl).1
    have f1 := (X5.out 1 _ rfl).1
    have f2 := (X5.out 2 _ rfl).1
    clear b5 K4 V4 X4 V3 V2 V1
    go_wp2_with fail
    go_region_with (first | (go_at_call 7; refine (HTO.out _ B5.out.drew).mono ?_; rintro e w6 ⟨x1, x2, x3, F1, F2, F3, rfl, o6, _, b6⟩; have K6 := Lib.hid o6.is; obtain ⟨m1, n1, rfl⟩ := is_slice o6.is.1; obtain ⟨m2, n2, rfl⟩ := is_slice o6.is.2.1; obtain ⟨m3, n3, rfl⟩ := is_slice o6.is.2.2; have B6 := Lib.hid (below_then B5.out.drew b6); have bb6 : Below w5.heap.size w5 w6 := ⟨b6.os, b6.tape, b6.output, b6.size, b6.block⟩; have L6 := Lib.hid (K5.out.later bb6); have p0 := (X5.out.later bb6 0 _ rfl).1; have p1 := (X5.out.later bb6 1 _ rfl).1; have p2 := (X5.out.later bb6 2 _ rfl).1; clear o6 b6 bb6) | (go_at_call 10; refine (HEQ.out _ _ _ _ _ _ _ L6.out K6.out).mono ?_; rintro e w7 ⟨rfl, b7⟩; have B7 := Lib.hid (below_then B6.out b7); clear b7))
    all_goals go_wp2
    all_goals go_ret
    all_goals exact ⟨rfl, B7.out⟩
  · rw [szR_no hb] at HSZ
    clear hok hb hN
    obtain ⟨a1, c1, rfl⟩ := is_slice hk.1
    obtain ⟨a2, c2, rfl⟩ := is_slice hk.2.1
    obtain ⟨a3, c3, rfl⟩ := is_slice hk.2.2
    clear hk
    go_enter Tryz.func4, Tryz.ntmps4
    go_wp2_with fail
    refine (HSZ.out _ (bl1 _ _)).mono ?_
    rintro e w1 ⟨rfl, b1⟩
    have B1 := Lib.hid (below_then (bl1 _ _) b1)
    clear b1
    go_wp2
    go_ret
    exact ⟨rfl, B1.out⟩
end Go.Proofs.YtckjmmapekaapaaGreatDoor
/- What the row's list gives a walk: the table holds the functions' names. No conditions. -/
namespace Go.Proofs.YtckjmmapekaapaaGreatDoor
open Go.RowKit
set_option linter.unusedVariables false

theorem gNames : Tryz.prog.globalNamed "loop.example/g03106/impl.functionNames" = some 0 := by kernel_rfl
theorem gNamesType : (Tryz.prog.globals[0]?).map (·.type) = some 143 := by kernel_rfl
theorem cellsNames : Tryz.prog.cellsOf 143 = 55 := by kernel_rfl
theorem cellsName : Tryz.prog.cellsOf 9 = 1 := by kernel_rfl
theorem names_laid {H : Type} : (Rows.laid_loop_example_g03106_impl_functionNames : DataW H) = .agg (funL.map fun x => .lit (.string x.data.toList)) := rfl
theorem names_of {W : World} (hL : laidMetH Tryz.prog [("loop.example/g03106/impl.functionNames", Rows.laid_loop_example_g03106_impl_functionNames)] W) : NamesAt W := by
  rw [MakeChecks.laidMetH_plain _ _ _ (by kernel_rfl)] at hL
  obtain ⟨ps, ⟨g, t, cs, fuel, p, q, hg, ht, hvar, hd, _, _⟩, _⟩ := hL
  obtain rfl := Option.some.inj (gNames.symm.trans hg)
  obtain rfl := Option.some.inj (gNamesType.symm.trans ht)
  have hcs : cs = (funL.map Value.string).toArray := by
    obtain ⟨xs, m, rfl, hx, hl, hxl, hall⟩ := DataW.trod_array Tryz.underlying143 hd
    rw [cellsNames] at hl
    rw [cellsName] at hall
    simp only [Prod.mk.injEq] at hx
    have hxd := hx.1
    rw [names_laid] at hxd
    simp only [DataW.agg.injEq] at hxd
    apply Array.toList_inj.1
    apply List.ext_getElem?
    intro i
    by_cases hi : i < 55
    · have h1 := hall i hi
      have hxi : ∃ y, xs[i]? = some y := ⟨_, List.getElem?_eq_getElem (by rw [hxl]; exact hi)⟩
      obtain ⟨y, hy⟩ := hxi
      rw [hy] at h1
      obtain ⟨s, e0, e1, _⟩ := DataW.trod_string Tryz.underlying9 h1
      have hfi : i < funL.length := by rw [funL_len]; exact hi
      have h2 := congrArg (fun l => l[i]?) hxd
      simp only [List.getElem?_map, hy, List.getElem?_eq_getElem hfi, Option.map_some, Option.some.injEq] at h2
      rw [e1] at h2
      simp only [DataW.lit.injEq, Lit.string.injEq] at h2
      have h3 : s = funL[i] := by
        cases s; cases hq : funL[i]
        rw [hq] at h2
        exact congrArg ByteArray.mk (Array.toList_inj.1 h2.symm)
      have h4 : cs.toList[i]? = some (.string s) := by
        have := congrArg (fun l => l[0]?) e0
        simp at this
        simpa using this
      rw [h4, h3]
      simp [hfi]
    · rw [List.getElem?_eq_none (by omega), List.getElem?_eq_none (by simp [funL_len]; omega)]
  subst hcs
  unfold World.var? at hvar
  rw [gNames] at hvar
  simp only [Option.bind_some] at hvar
  split at hvar
  · rename_i cs2 t2 fr2 hh
    obtain rfl := Option.some.inj hvar
    exact ⟨t2, fr2, hh⟩
  · cases hvar
end Go.Proofs.YtckjmmapekaapaaGreatDoor
