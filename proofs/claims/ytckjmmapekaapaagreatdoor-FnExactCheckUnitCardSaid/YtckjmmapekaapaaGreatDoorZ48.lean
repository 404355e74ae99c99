/- Joined texts: V45. No conditions besides those that each states. -/
import Derived.Test.YtckjmmapekaapaaGreatDoorZ30
import Derived.Test.YtckjmmapekaapaaGreatDoorZ38
import Derived.Test.YtckjmmapekaapaaGreatDoorZ47
/- The program's faults of declarations, fields of records, main. The table reads as the program's text lays it. -/
namespace Go.Proofs.YtckjmmapekaapaaGreatDoor
open Go.RowKit
set_option linter.unusedVariables false

def RetFlds (w : World) (f : ByteArray → Bool) (e : Ending) (w' : World) : Prop := ∃ b n, e = .returned (.map (some b)) ∧ SetM w' b n f ∧ Below w.heap.size w w'
/-- How long a unit's names are. -/
def UnSizes (u : Un) : Prop := (∀ r ∈ u.recs, ∀ s ∈ r.fields, s.size ≤ maxLen) ∧ (∀ r ∈ u.recs, r.fields.length ≤ 1048576) ∧ (∀ p ∈ u.procs, ∀ s ∈ p.params ++ p.locals, s.size ≤ maxLen) ∧ (∀ p ∈ u.procs, p.params.length ≤ 6 ∧ p.locals.length ≤ 8)
theorem un_sizes {u : Un} (hb : u.bulk ≤ 1048576) (hv : u.valid = true) : UnSizes u := by
  unfold Un.bulk recsB procsB at hb
  refine ⟨fun r hr s hs => ?_, fun r hr => ?_, fun p hp s hs => ?_, fun p hp => ?_⟩
  · have h1 := wsum_mem Rc.bulk hr
    have h2 : r.bulk = r.name.size + strsB r.fields := rfl
    have := str_bound (l := r.fields) (by omega) s hs
    unfold maxLen; omega
  · have h1 := wsum_mem Rc.bulk hr
    have h2 : r.bulk = r.name.size + strsB r.fields := rfl
    unfold strsB at h2
    omega
  · have h1 := wsum_mem Pc.bulk hp
    have h2 : p.bulk = p.name.size + (strsB p.params + (strsB p.locals + p.body.bulk)) := rfl
    have := str_bound (l := p.params ++ p.locals) (by rw [strsB_app]; omega) s hs
    unfold maxLen; omega
  · have := proc_ok hv hp
    exact ⟨this.1, this.2.1⟩
theorem below_set {w W W' : World} {b : Nat} (h : Below w.heap.size w W) (hg : W.grownBy W' (some b)) (hb : w.heap.size ≤ b) : Below w.heap.size w W' := h.trans ((Below.refl w.heap.size W).grown hg h.size (fun k e => by cases e; exact hb))
/-- The fields of the first records. -/
def fldS (u : Un) (k : Nat) : ByteArray → Bool := fun x => (u.recs.take k).any fun r => (fx r.fields x).isSome
theorem fldS_succ {u : Un} {k : Nat} (h : k < u.recs.length) (x : ByteArray) : fldS u (k + 1) x = addL (fldS u k) u.recs[k].fields x := any_take_succ _ u.recs k h
def FldAt (w : World) (u : Un) (k : Nat) (wr : World) : Prop := (∃ n, n ≤ k * 1048576 ∧ SetM wr w.heap.size n (fldS u k)) ∧ Below w.heap.size w wr
set_option maxRecDepth 100000 in
set_option maxHeartbeats 3200000 in
theorem impl_fields (u : Un) (hz : UnSizes u) (hl8 : u.recs.length ≤ 8) (w : World) (v1 v2 v3 : Value) (h : UnIs w u v1 v2 v3) (gu : Nat) (hu : Var w gu [v1, v2, v3]) :
    Calls Tryz.prog 63 #[.pointer (some ⟨gu, 0, none⟩)] w (RetFlds w fun x => u.recs.any fun r => (fx r.fields x).isSome) := by
  unfold RetFlds
  have HR := Lib.hid (fun W (hW : Below w.heap.size w W) => h.1.later hW)
  obtain ⟨a1, c1, rfl⟩ := is_slice h.1
  have HZ := Lib.hid hz
  have x0 := ((hu.later (bl1 w (.map #[] 0))) 0 _ rfl).1
  have HST : Hid (FldAt w u 0 (w.alloc (.map #[] 0))) := Lib.hid ⟨⟨0, Nat.zero_le _, (SetM.made w).congr (fun s => rfl)⟩, bl1 _ _⟩
  have hl : (u.recs.length : Int) ≤ 8 := by omega
  have hrm := @run_makeMap Tryz.prog
  clear h hz hu
  go_enter Tryz.func63, Tryz.ntmps63
  go_wp2
  clear x0
  go_loopw [5, 12] (fun _ i wr => ∃ k : Nat, i = .int .i64 k ∧ k ≤ u.recs.length ∧ FldAt w u k wr) (fun _ i _ => u.recs.length - (intOf i).toNat)
  case atStart => exact ⟨0, rfl, Nat.zero_le _, HST.out⟩
  case round =>
    clear HST
    obtain ⟨k, rfl, hk, ⟨n, hn, hm⟩, hbw⟩ := hrel
    by_cases hlt : k < u.recs.length
    · obtain ⟨g, o, rfl, q0, ⟨y1, q1, e1⟩, q2⟩ := rec_at (HR.out wr hbw) k hlt
      have k0 : (0 : Int) ≤ (k : Int) := by omega
      have k1 : (k : Int) < u.recs.length := by omega
      have HF := Lib.hid (fun x => fldS_succ hlt x)
      have HS1 := Lib.hid (HZ.out.1 _ (List.getElem_mem hlt))
      have HS2 := Lib.hid (HZ.out.2.1 _ (List.getElem_mem hlt))
      obtain ⟨z1, f1, rfl⟩ := is_slice e1
      have HBW := Lib.hid hbw
      have HM := Lib.hid hm
      have HNN : Hid (n + 1048576 ≤ (k + 1) * 1048576 ∧ n ≤ 8388608) := Lib.hid (by omega)
      clear hbw hm hn
      generalize u.recs[k] = x at q0 q1 q2 e1 HF HS1 HS2
      have HLT := Lib.hid hlt
      clear hlt
      have n1 := bl1 wr (.cells #[.string x.name, .slice z1 x.fields.length f1, .int .i64 x.line] 69)
      have VN := Lib.hid (Var.new wr #[.string x.name, .slice z1 x.fields.length f1, .int .i64 x.line] 69)
      have HC := Lib.hid (impl_add w.heap.size n (fldS u k) x.fields _ _ (HM.out.later n1) (e1.later n1) HS1.out (by have h1 := HS2.out; have h2 := HNN.out.2; omega))
      unfold AddB at HC
      have HB1 := Lib.hid (below_then HBW.out n1)
      clear n1 e1
      go_wp2_with fail
      (with_reducible refine HC.out.mono ?_)
      rintro e w2 ⟨rfl, hm2, hg2⟩
      have HN : Hid (FldAt w u (k + 1) w2) := Lib.hid ⟨⟨_, by have h1 := HS2.out; have h2 := HNN.out.1; omega, hm2.congr HF.out⟩, below_set HB1.out hg2 (Nat.le_refl _)⟩
      clear hm2 hg2 q0 q1 q2
      go_wp2
      go_roundw
      case rel => exact ⟨k + 1, by go_num, HLT.out, HN.out⟩
      case measure => have := HLT.out; first | (simp [intOf]; done) | (simp [intOf]; omega)
    · obtain rfl : k = u.recs.length := by omega
      have HM := Lib.hid hm
      have HB := Lib.hid hbw
      clear hm hbw
      go_wp2
      go_ret
      exact ⟨_, _, rfl, HM.out.congr (fun x => by unfold fldS; rw [List.take_length]), HB.out⟩
/-- The names that are declared so far, without the functions. -/
theorem acc_split (l : List ByteArray) (s : ByteArray) : (fx (funL ++ l) s).isSome = ((fx l s).isSome || (fx funL s).isSome) := by
  rw [fx_app]
  cases fx funL s <;> cases fx l s <;> rfl
theorem free_acc (l : List ByteArray) (s : ByteArray) : (!((fx l s).isSome) && (fx funL s).isNone) = !((fx (funL ++ l) s).isSome) := by
  rw [acc_split]
  cases fx funL s <;> cases fx l s <;> rfl
/-- Where the check of declarations stands: the result's variable, the set. -/
def DfAt (w : World) (l : List ByteArray) (wr : World) : Prop := Var wr w.heap.size [.int .i64 0, .int .i64 0] ∧ SetM wr (w.heap.size + 1) l.length (fun x => (fx l x).isSome) ∧ Below w.heap.size w wr ∧ NamesAt wr
theorem DfAt.later {w wr wx : World} {l : List ByteArray} (h : DfAt w l wr) (hb : Below wr.heap.size wr wx) : DfAt w l wx := ⟨h.1.later hb, h.2.1.later hb, below_then h.2.2.1 hb, h.2.2.2.later hb⟩
theorem DfAt.add {w wr wx : World} {l : List ByteArray} {s : ByteArray} (h : DfAt w l wr) (hm : SetM wx (w.heap.size + 1) (l.length + 1) (addS (fun x => (fx l x).isSome) s)) (hg : wr.grownBy wx (some (w.heap.size + 1))) : DfAt w (l ++ [s]) wx :=
  ⟨h.1.grown (Var.lt h.1) hg (fun e => by have := Option.some.inj e; omega), by rw [List.length_append]; exact hm.congr (fun x => fx_names l s x), below_set h.2.2.1 hg (Nat.le_succ _), names_set h.2.2.2 h.2.1 hg⟩
theorem df_ret {p : Int × Int} {a b : Int} (h : p = (a, b)) : Ending.returned (.agg #[.int .i64 a, .int .i64 b]) = .returned (meanV p) := by rw [h]
set_option maxRecDepth 100000 in
set_option maxHeartbeats 12800000 in
theorem impl_dup (u : Un) (hun : UnNames u) (hz : UnSizes u) (w : World) (v1 v2 v3 : Value) (h : UnIs w u v1 v2 v3) (gu : Nat) (hu : Var w gu [v1, v2, v3]) (hN : NamesAt w) :
    Calls Tryz.prog 62 #[.pointer (some ⟨gu, 0, none⟩)] w (RetM w (dup u)) := by
  unfold RetM
  have HU := Lib.hid (fun W (hW : Below w.heap.size w W) => (⟨h.1.later hW, h.2.1.later hW, h.2.2.later hW⟩ : UnIs W u v1 v2 v3))
  obtain ⟨a1, c1, rfl⟩ := is_slice h.1
  obtain ⟨a2, c2, rfl⟩ := is_slice h.2.1
  obtain ⟨a3, c3, rfl⟩ := is_slice h.2.2
  have HUN := Lib.hid hun
  have HZ := Lib.hid hz
  have HUV := Lib.hid (fun W (hW : Below w.heap.size w W) => hu.later hW)
  have HDZ := Lib.hid (dupR_zero u)
  have hq1 := bl1 w (.cells #[.int .i64 0, .int .i64 0] 74)
  have HST : Hid (DfAt w ((u.recs.map Rc.name).take 0) ((w.alloc (.cells #[.int .i64 0, .int .i64 0] 74)).alloc (.map #[] 0))) := Lib.hid (by
    have hm := SetM.made (w.alloc (.cells #[.int .i64 0, .int .i64 0] 74))
    rw [World.size_alloc] at hm
    exact ⟨(Var.new w #[.int .i64 0, .int .i64 0] 74).later (bl1 _ _), hm.congr (fun s => rfl), below_then hq1 (bl1 _ _), hN.later (below_then hq1 (bl1 _ _))⟩)
  have x0 := ((HUV.out _ HST.out.2.2.1) 0 _ rfl).1
  obtain ⟨l1, l2, l3⟩ := hun.2.2.2
  have hl1 : (u.recs.length : Int) ≤ 8 := by omega
  have hl2 : (u.globs.length : Int) ≤ 12 := by omega
  have hl3 : (u.procs.length : Int) ≤ 12 := by omega
  have hrm := @run_makeMap Tryz.prog
  clear h hun hz hu hN hq1 l1 l2 l3
  go_enter Tryz.func62, Tryz.ntmps62
  go_wp2
  clear x0 hrm
  go_loopw [5, 16] (fun _ i wr => ∃ k : Nat, i = .int .i64 k ∧ k ≤ u.recs.length ∧ DfAt w ((u.recs.map Rc.name).take k) wr ∧ DupR u k) (fun _ i _ => u.recs.length - (intOf i).toNat)
  case atStart => exact ⟨0, rfl, Nat.zero_le _, HST.out, HDZ.out⟩
  case round =>
    clear HST HDZ
    obtain ⟨k, rfl, hk, hd, hp⟩ := hrel
    have HD := Lib.hid hd
    have HP := Lib.hid hp
    have hbw := hd.2.2.1
    clear hd hp
    by_cases hlt : k < u.recs.length
    · obtain ⟨g, o, rfl, q0, ⟨y1, q1, e1⟩, q2⟩ := rec_at (HU.out wr hbw).1 k hlt
      have k0 : (0 : Int) ≤ (k : Int) := by omega
      have k1 : (k : Int) < u.recs.length := by omega
      have HX := Lib.hid (HUN.out.1 u.recs[k] (List.getElem_mem hlt))
      have HT := Lib.hid (take_map_name Rc.name u.recs k hlt)
      have HS1 := Lib.hid (HZ.out.1 _ (List.getElem_mem hlt))
      have HS2 := Lib.hid (HZ.out.2.1 _ (List.getElem_mem hlt))
      have HLL : Hid (((u.recs.map Rc.name).take k).length ≤ 8) := Lib.hid (by rw [List.length_take, List.length_map]; omega)
      obtain ⟨b1, hb1⟩ : ∃ b, (fx (accR u k) u.recs[k].name).isSome = b := ⟨_, rfl⟩
      obtain ⟨b2, hb2⟩ : ∃ b, twice u.recs[k].fields = b := ⟨_, rfl⟩
      have HNX := Lib.hid (fun (h1 : b1 = false) (h2 : b2 = false) => HP.out.next hlt (hb1.trans h1) (hb2.trans h2))
      have HBX := Lib.hid (fun (h1 : (b1 || b2) = true) => HP.out.bad hlt (by rw [hb1, hb2]; exact h1))
      have HFR := Lib.hid (free_acc ((u.recs.map Rc.name).take k) u.recs[k].name)
      rw [show funL ++ (u.recs.map Rc.name).take k = accR u k from rfl, hb1] at HFR
      have HB2 := Lib.hid hb2
      clear hb1 hb2 HP
      obtain ⟨z1, f1, rfl⟩ := is_slice e1
      have HE1 := Lib.hid e1
      clear e1
      generalize u.recs[k] = x at q0 q1 q2 HX HT HS1 HS2 HBX HFR HB2 HE1
      have HLT := Lib.hid hlt
      clear hlt
      have n1 := bl1 wr (.cells #[.string x.name, .slice z1 x.fields.length f1, .int .i64 x.line] 69)
      have VN := Lib.hid (Var.new wr #[.string x.name, .slice z1 x.fields.length f1, .int .i64 x.line] 69)
      have HNB : Hid (wr.heap.size ≠ w.heap.size + 1) := Lib.hid (fun e => by have := HD.out.2.1.lt; omega)
      have HD1 := Lib.hid (HD.out.later n1)
      have HC := Lib.hid (impl_addFree (w.heap.size + 1) _ _ x.name _ HD1.out.2.1 HD1.out.2.2.2 HX.out (by have := HLL.out; omega))
      unfold AddB at HC
      rw [HFR.out] at HC
      have HE2 := Lib.hid (HE1.out.later n1)
      obtain ⟨w1, hw1⟩ : ∃ W, wr.alloc (.cells #[.string x.name, .slice z1 x.fields.length f1, .int .i64 x.line] 69) = W := ⟨_, rfl⟩
      rw [hw1] at VN HD1 HC HE2
      have HW1 := Lib.hid hw1
      have HZ1 : Hid (wr.heap.size < w1.heap.size) := Lib.hid (by rw [← hw1, World.size_alloc]; omega)
      clear n1 hw1 hbw HE1 HX HFR
      go_wp2_with fail
      rw [HW1.out]
      clear q0 q1 q2
      have p0 := (VN.out 0 _ rfl).1
      have p1 := (VN.out 1 _ rfl).1
      go_wp2_with fail
      (with_reducible refine HC.out.mono ?_)
      rintro e w2 ⟨rfl, hm2, hg2⟩
      have HD2 := Lib.hid (HD1.out.add hm2 hg2)
      have VN2 := Lib.hid (VN.out.grown HZ1.out hg2 (fun e => HNB.out (Option.some.inj e).symm))
      have HE3 := Lib.hid (Is.mono (subw_set HD1.out.2.1 hg2) _ _ HE2.out)
      have HDC := Lib.hid (impl_distinct x.fields _ w2 HE3.out HS1.out HS2.out)
      rw [HB2.out] at HDC
      rw [← HT.out] at HD2
      clear hm2 hg2 p0 p1 HB2 HT
      cases b1
      · have p1 := (VN2.out 1 _ rfl).1
        go_wp2_with fail
        (with_reducible refine HDC.out.mono ?_)
        rintro e w3 ⟨rfl, b3⟩
        have HD3 := Lib.hid (HD2.out.later b3)
        have VN3 := Lib.hid (VN2.out.later b3)
        clear b3 p1
        cases b2
        · have HN := Lib.hid (HNX.out (by first | rfl | trivial) (by first | rfl | trivial))
          clear HBX HNX
          go_wp2
          go_roundw
          case rel => exact ⟨k + 1, by go_num, HLT.out, HD3.out, HN.out⟩
          case measure => have := HLT.out; first | (simp [intOf]; done) | (simp [intOf]; omega)
        · have HXX := Lib.hid (HBX.out (by first | rfl | trivial))
          have p2 := (VN3.out 2 _ rfl).1
          obtain ⟨e0, f0⟩ := HD3.out.1 0 _ rfl
          obtain ⟨e1, f1x⟩ := HD3.out.1 1 _ rfl
          clear HBX HNX
          go_wp2
          exact bodyPost_ret (v := .agg #[.int .i64 2, .int .i64 x.line]) (by simp [results, Tryz.results62, go_sem, e0, e1]) rfl ⟨df_ret HXX.out, (HD3.out.2.2.1.setCell (p := ⟨w.heap.size, 0, none⟩) (Nat.le_refl _) _).setCell (p := ⟨w.heap.size, 1, none⟩) (Nat.le_refl _) _⟩
      · have HXX := Lib.hid (HBX.out (by first | rfl | trivial))
        have p2 := (VN2.out 2 _ rfl).1
        obtain ⟨e0, f0⟩ := HD2.out.1 0 _ rfl
        obtain ⟨e1, f1x⟩ := HD2.out.1 1 _ rfl
        clear HBX HNX
        go_wp2
        exact bodyPost_ret (v := .agg #[.int .i64 2, .int .i64 x.line]) (by simp [results, Tryz.results62, go_sem, e0, e1]) rfl ⟨df_ret HXX.out, (HD2.out.2.2.1.setCell (p := ⟨w.heap.size, 0, none⟩) (Nat.le_refl _) _).setCell (p := ⟨w.heap.size, 1, none⟩) (Nat.le_refl _) _⟩
    · obtain rfl : k = u.recs.length := by omega
      have HST : Hid (DfAt w (u.recs.map Rc.name ++ u.globs.take 0) wr) := Lib.hid (by
        have e : (u.recs.map Rc.name).take u.recs.length = u.recs.map Rc.name := by rw [List.take_of_length_le (by simp)]
        have := HD.out
        rw [e] at this
        rw [List.take_zero, List.append_nil]
        exact this)
      have HDZ := Lib.hid HP.out.over
      have x1 := ((HUV.out _ hbw) 1 _ rfl).1
      clear HD HP hbw
      go_wp2
      clear x1
      go_loopw [7, 40] (fun _ i wr => ∃ k : Nat, i = .int .i64 k ∧ k ≤ u.globs.length ∧ DfAt w (u.recs.map Rc.name ++ u.globs.take k) wr ∧ DupG u k) (fun _ i _ => u.globs.length - (intOf i).toNat)
      case atStart => exact ⟨0, rfl, Nat.zero_le _, HST.out, HDZ.out⟩
      case round =>
        clear HST HDZ
        obtain ⟨k, rfl, hk, hd, hp⟩ := hrel
        have HD := Lib.hid hd
        have HP := Lib.hid hp
        have hbw := hd.2.2.1
        clear hd hp
        by_cases hlt : k < u.globs.length
        · obtain ⟨g, o, rfl, q0⟩ := str_at (HU.out wr hbw).2.1 k hlt
          have k0 : (0 : Int) ≤ (k : Int) := by omega
          have k1 : (k : Int) < u.globs.length := by omega
          have HX := Lib.hid (HUN.out.2.1 u.globs[k] (List.getElem_mem hlt))
          have HT : Hid (u.recs.map Rc.name ++ u.globs.take (k + 1) = u.recs.map Rc.name ++ u.globs.take k ++ [u.globs[k]]) := Lib.hid (by rw [List.take_succ_eq_append_getElem hlt, List.append_assoc])
          have HLL : Hid ((u.recs.map Rc.name ++ u.globs.take k).length ≤ 20) := Lib.hid (by rw [List.length_append, List.length_take, List.length_map]; omega)
          obtain ⟨b1, hb1⟩ : ∃ b, (fx (accG u k) u.globs[k]).isSome = b := ⟨_, rfl⟩
          have HNX := Lib.hid (fun (h1 : b1 = false) => HP.out.next hlt (hb1.trans h1))
          have HBX := Lib.hid (fun (h1 : b1 = true) => HP.out.bad hlt (hb1.trans h1))
          have HFR := Lib.hid (free_acc (u.recs.map Rc.name ++ u.globs.take k) u.globs[k])
          rw [show funL ++ (u.recs.map Rc.name ++ u.globs.take k) = accG u k from rfl, hb1] at HFR
          clear hb1 HP
          generalize u.globs[k] = x at q0 HX HT HFR
          have HLT := Lib.hid hlt
          clear hlt
          have HC := Lib.hid (impl_addFree (w.heap.size + 1) _ _ x _ HD.out.2.1 HD.out.2.2.2 HX.out (by have := HLL.out; omega))
          unfold AddB at HC
          rw [HFR.out] at HC
          clear hbw HX HFR
          go_wp2_with fail
          (with_reducible refine HC.out.mono ?_)
          rintro e w2 ⟨rfl, hm2, hg2⟩
          have HD2 := Lib.hid (HD.out.add hm2 hg2)
          rw [← HT.out] at HD2
          clear hm2 hg2 HT q0
          cases b1
          · have HN := Lib.hid (HNX.out (by first | rfl | trivial))
            clear HBX HNX
            go_wp2
            go_roundw
            case rel => exact ⟨k + 1, by go_num, HLT.out, HD2.out, HN.out⟩
            case measure => have := HLT.out; first | (simp [intOf]; done) | (simp [intOf]; omega)
          · have HXX := Lib.hid (HBX.out (by first | rfl | trivial))
            obtain ⟨e0, f0⟩ := HD2.out.1 0 _ rfl
            obtain ⟨e1, f1x⟩ := HD2.out.1 1 _ rfl
            clear HBX HNX
            go_wp2
            exact bodyPost_ret (v := .agg #[.int .i64 2, .int .i64 0]) (by simp [results, Tryz.results62, go_sem, e0, e1]) rfl ⟨df_ret HXX.out, (HD2.out.2.2.1.setCell (p := ⟨w.heap.size, 0, none⟩) (Nat.le_refl _) _).setCell (p := ⟨w.heap.size, 1, none⟩) (Nat.le_refl _) _⟩
        · obtain rfl : k = u.globs.length := by omega
          have HST : Hid (DfAt w (u.recs.map Rc.name ++ (u.globs ++ (u.procs.map Pc.name).take 0)) wr) := Lib.hid (by
            have := HD.out
            rw [List.take_length] at this
            rw [List.take_zero, List.append_nil]
            exact this)
          have HDZ := Lib.hid HP.out.over
          have x2 := ((HUV.out _ hbw) 2 _ rfl).1
          clear HD HP hbw
          go_wp2
          clear x2
          go_loopw [9, 55] (fun _ i wr => ∃ k : Nat, i = .int .i64 k ∧ k ≤ u.procs.length ∧ DfAt w (u.recs.map Rc.name ++ (u.globs ++ (u.procs.map Pc.name).take k)) wr ∧ DupP u k) (fun _ i _ => u.procs.length - (intOf i).toNat)
          case atStart => exact ⟨0, rfl, Nat.zero_le _, HST.out, HDZ.out⟩
          case round =>
            clear HST HDZ
            obtain ⟨k, rfl, hk, hd, hp⟩ := hrel
            have HD := Lib.hid hd
            have HP := Lib.hid hp
            have hbw := hd.2.2.1
            clear hd hp
            by_cases hlt : k < u.procs.length
            · obtain ⟨g, o, rfl, q0, ⟨y5, q1, k5⟩, ⟨y6, q2, k6⟩, ⟨q3, q4, q5, q6⟩, ⟨y7, q7, k7⟩, q8⟩ := proc_at (HU.out wr hbw).2.2 k hlt
              have k0 : (0 : Int) ≤ (k : Int) := by omega
              have k1 : (k : Int) < u.procs.length := by omega
              have HX := Lib.hid (HUN.out.2.2.1 u.procs[k] (List.getElem_mem hlt))
              have HT : Hid (u.recs.map Rc.name ++ (u.globs ++ (u.procs.map Pc.name).take (k + 1)) = u.recs.map Rc.name ++ (u.globs ++ (u.procs.map Pc.name).take k) ++ [u.procs[k].name]) := Lib.hid (by rw [take_map_name Pc.name u.procs k hlt, List.append_assoc, List.append_assoc])
              have HS1 := Lib.hid (HZ.out.2.2.1 _ (List.getElem_mem hlt))
              have HS2 := Lib.hid (HZ.out.2.2.2 _ (List.getElem_mem hlt))
              have HLL : Hid ((u.recs.map Rc.name ++ (u.globs ++ (u.procs.map Pc.name).take k)).length ≤ 32) := Lib.hid (by rw [List.length_append, List.length_append, List.length_take, List.length_map, List.length_map]; omega)
              obtain ⟨b1, hb1⟩ : ∃ b, (fx (accP u k) u.procs[k].name).isSome = b := ⟨_, rfl⟩
              obtain ⟨b2, hb2⟩ : ∃ b, twice (u.procs[k].params ++ u.procs[k].locals) = b := ⟨_, rfl⟩
              have HNX := Lib.hid (fun (h1 : b1 = false) (h2 : b2 = false) => HP.out.next hlt (hb1.trans h1) (hb2.trans h2))
              have HBX := Lib.hid (fun (h1 : (b1 || b2) = true) => HP.out.bad hlt (by rw [hb1, hb2]; exact h1))
              have HFR := Lib.hid (free_acc (u.recs.map Rc.name ++ (u.globs ++ (u.procs.map Pc.name).take k)) u.procs[k].name)
              rw [show funL ++ (u.recs.map Rc.name ++ (u.globs ++ (u.procs.map Pc.name).take k)) = accP u k from rfl, hb1] at HFR
              have HB2 := Lib.hid hb2
              clear hb1 hb2 HP
              obtain ⟨e5, d5, rfl⟩ := is_slice k5
              obtain ⟨e6, d6, rfl⟩ := is_slice k6
              obtain ⟨e7, d7, rfl⟩ := kids_len k7
              have HK5 := Lib.hid k5
              have HK6 := Lib.hid k6
              have HK7 := Lib.hid k7
              clear k5 k6 k7
              generalize u.procs[k] = x at q0 q1 q2 q3 q4 q5 q6 q7 q8 HX HT HS1 HS2 HBX HFR HB2 HK5 HK6 HK7
              have HLT := Lib.hid hlt
              clear hlt
              have n1 := bl1 wr (.cells #[.string x.name, .slice e5 x.params.length d5, .slice e6 x.locals.length d6, .int .i64 x.body.kind, .string x.body.text, .int .i64 x.body.num, .int .i64 x.body.line, .slice e7 x.body.kids.length d7, .int .i64 x.line] 49)
              have VN := Lib.hid (Var.new wr #[.string x.name, .slice e5 x.params.length d5, .slice e6 x.locals.length d6, .int .i64 x.body.kind, .string x.body.text, .int .i64 x.body.num, .int .i64 x.body.line, .slice e7 x.body.kids.length d7, .int .i64 x.line] 49)
              have HNB : Hid (wr.heap.size ≠ w.heap.size + 1) := Lib.hid (fun e => by have := HD.out.2.1.lt; omega)
              have HD1 := Lib.hid (HD.out.later n1)
              have HC := Lib.hid (impl_addFree (w.heap.size + 1) _ _ x.name _ HD1.out.2.1 HD1.out.2.2.2 HX.out (by have := HLL.out; omega))
              unfold AddB at HC
              rw [HFR.out] at HC
              have HL5 := Lib.hid (HK5.out.later n1)
              have HL6 := Lib.hid (HK6.out.later n1)
              have HL7 := Lib.hid (HK7.out.later n1)
              obtain ⟨w1, hw1⟩ : ∃ W, wr.alloc (.cells #[.string x.name, .slice e5 x.params.length d5, .slice e6 x.locals.length d6, .int .i64 x.body.kind, .string x.body.text, .int .i64 x.body.num, .int .i64 x.body.line, .slice e7 x.body.kids.length d7, .int .i64 x.line] 49) = W := ⟨_, rfl⟩
              rw [hw1] at VN HD1 HC HL5 HL6 HL7
              have HW1 := Lib.hid hw1
              have HZ1 : Hid (wr.heap.size < w1.heap.size) := Lib.hid (by rw [← hw1, World.size_alloc]; omega)
              clear n1 hw1 hbw HK5 HK6 HK7 HX HFR
              go_wp2_with fail
              rw [HW1.out]
              clear q0 q1 q2 q3 q4 q5 q6 q7 q8
              have p0 := (VN.out 0 _ rfl).1
              go_wp2_with fail
              (with_reducible refine HC.out.mono ?_)
              rintro e w2 ⟨rfl, hm2, hg2⟩
              have HD2 := Lib.hid (HD1.out.add hm2 hg2)
              have VN2 := Lib.hid (VN.out.grown HZ1.out hg2 (fun e => HNB.out (Option.some.inj e).symm))
              have HSW := Lib.hid (subw_set HD1.out.2.1 hg2)
              have HPA : Hid (ProcAt w2 wr.heap.size 0 x) := Lib.hid ⟨(VN2.out 0 _ rfl).1, ⟨_, (VN2.out 1 _ rfl).1, Is.mono HSW.out _ _ HL5.out⟩, ⟨_, (VN2.out 2 _ rfl).1, Is.mono HSW.out _ _ HL6.out⟩, ⟨(VN2.out 3 _ rfl).1, (VN2.out 4 _ rfl).1, (VN2.out 5 _ rfl).1, (VN2.out 6 _ rfl).1⟩, ⟨_, (VN2.out 7 _ rfl).1, is_ex (Is.mono HSW.out (.ex x.body.kids) _ (by rw [Is]; exact HL7.out))⟩, (VN2.out 8 _ rfl).1⟩
              have HDL := Lib.hid (impl_declared x (by have := HS2.out; omega) w2 wr.heap.size 0 HPA.out)
              unfold RetN at HDL
              rw [← HT.out] at HD2
              clear hm2 hg2 p0 HT HSW HL5 HL6 HL7 HPA
              cases b1
              · go_wp2_with fail
                (with_reducible refine HDL.out.mono ?_)
                rintro e w3 ⟨v3, rfl, o3, b3⟩
                have HD3 := Lib.hid (HD2.out.later b3)
                have VN3 := Lib.hid (VN2.out.later b3)
                have HDC := Lib.hid (impl_distinct (x.params ++ x.locals) _ w3 (Is.strs_of_owns o3) HS1.out (by rw [List.length_append]; have := HS2.out; omega))
                rw [HB2.out] at HDC
                obtain ⟨a9, c9, rfl⟩ := owns_slice o3
                rw [List.length_append] at HDC
                clear b3 o3 HDL
                go_wp2_with fail
                (with_reducible refine HDC.out.mono ?_)
                rintro e w4 ⟨rfl, b4⟩
                have HD4 := Lib.hid (HD3.out.later b4)
                have VN4 := Lib.hid (VN3.out.later b4)
                clear b4 HDC
                cases b2
                · have HN := Lib.hid (HNX.out (by first | rfl | trivial) (by first | rfl | trivial))
                  clear HBX HNX
                  go_wp2
                  go_roundw
                  case rel => exact ⟨k + 1, by go_num, HLT.out, HD4.out, HN.out⟩
                  case measure => have := HLT.out; first | (simp [intOf]; done) | (simp [intOf]; omega)
                · have HXX := Lib.hid (HBX.out (by first | rfl | trivial))
                  have p8 := (VN4.out 8 _ rfl).1
                  obtain ⟨e0, f0⟩ := HD4.out.1 0 _ rfl
                  obtain ⟨e1, f1x⟩ := HD4.out.1 1 _ rfl
                  clear HBX HNX
                  go_wp2
                  exact bodyPost_ret (v := .agg #[.int .i64 2, .int .i64 x.line]) (by simp [results, Tryz.results62, go_sem, e0, e1]) rfl ⟨df_ret HXX.out, (HD4.out.2.2.1.setCell (p := ⟨w.heap.size, 0, none⟩) (Nat.le_refl _) _).setCell (p := ⟨w.heap.size, 1, none⟩) (Nat.le_refl _) _⟩
              · have HXX := Lib.hid (HBX.out (by first | rfl | trivial))
                have p8 := (VN2.out 8 _ rfl).1
                obtain ⟨e0, f0⟩ := HD2.out.1 0 _ rfl
                obtain ⟨e1, f1x⟩ := HD2.out.1 1 _ rfl
                clear HBX HNX HDL
                go_wp2
                exact bodyPost_ret (v := .agg #[.int .i64 2, .int .i64 x.line]) (by simp [results, Tryz.results62, go_sem, e0, e1]) rfl ⟨df_ret HXX.out, (HD2.out.2.2.1.setCell (p := ⟨w.heap.size, 0, none⟩) (Nat.le_refl _) _).setCell (p := ⟨w.heap.size, 1, none⟩) (Nat.le_refl _) _⟩
            · obtain rfl : k = u.procs.length := by omega
              have HXX := Lib.hid HP.out.over
              have HDD := Lib.hid HD.out
              obtain ⟨e0, f0⟩ := HD.out.1 0 _ rfl
              obtain ⟨e1, f1x⟩ := HD.out.1 1 _ rfl
              clear HP hbw
              go_wp2
              exact bodyPost_ret (v := .agg #[.int .i64 0, .int .i64 0]) (by simp [results, Tryz.results62, go_sem, e0, e1]) rfl ⟨df_ret HXX.out, (HDD.out.2.2.1.setCell (p := ⟨w.heap.size, 0, none⟩) (Nat.le_refl _) _).setCell (p := ⟨w.heap.size, 1, none⟩) (Nat.le_refl _) _⟩
end Go.Proofs.YtckjmmapekaapaaGreatDoor
