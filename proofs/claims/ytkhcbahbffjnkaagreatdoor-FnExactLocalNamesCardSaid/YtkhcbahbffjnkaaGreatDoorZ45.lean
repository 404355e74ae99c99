/- Joined texts: N32, U13. No conditions besides those that each states. -/
import Derived.Deep.RegionHeld3
import Derived.Test.YtkhcbahbffjnkaaGreatDoorZ26
import Derived.Test.YtkhcbahbffjnkaaGreatDoorZ43
import Derived.Test.YtkhcbahbffjnkaaGreatDoorZ44
/- What the laws read again of a list of trees. No conditions. -/
namespace Go.Proofs.YtkhcbahbffjnkaaGreatDoor
open Go.RowKit
set_option linter.unusedVariables false

def HeldK (ks : List Ex.T) : Prop := ∀ (w : World) (v : Value) (k : Nat), Kids w v (Ex.mrks ks k) → ((k + 4 * Ex.counts ks : Nat) : Int) ≤ 8000000 → ks.length ≤ 1048576 → Calls Tryz.prog 82 #[v, .int .i64 (k : Int)] w fun e w' => e = .returned (.int .i64 ((k + 4 * Ex.counts ks : Nat) : Int)) ∧ Below w.heap.size w w'
set_option maxRecDepth 100000 in
set_option maxHeartbeats 3200000 in
theorem held_list (ks : List Ex.T) (hI : ∀ x ∈ ks, HeldK x.kids) (hlen : ∀ x ∈ ks, x.kids.length ≤ 1048576) : HeldK ks := by
  intro w v k hkv hk hl
  obtain ⟨a, c, rfl⟩ := kids_len hkv
  rw [Ex.mrks_len] at hkv ⊢
  have HK := Lib.hid hkv
  have HI := Lib.hid hI
  have HLE := Lib.hid hlen
  have HKB := Lib.hid hk
  clear hkv hI hlen hk
  go_enter Tryz.func82, Tryz.ntmps82
  go_wp2
  go_loopw [1, 4, 5] (fun m _ i wr => ∃ j n : Nat, m = .int .i64 n ∧ i = .int .i64 j ∧ j ≤ ks.length ∧ n = k + 4 * Ex.counts (ks.take j) ∧ Below w.heap.size w wr) (fun _ _ i _ => ks.length - (intOf i).toNat)
  case atStart => exact ⟨0, k, rfl, rfl, Nat.zero_le _, by simp [Ex.counts], Below.refl _ _⟩
  case round =>
    obtain ⟨j, n, rfl, rfl, hj, hn, hb⟩ := hrel
    have HB := Lib.hid hb
    have HK2 := Lib.hid (HK.out.later hb)
    have HN := Lib.hid hn
    by_cases hlt : j < ks.length
    · obtain ⟨g, o, rfl, ht⟩ := kids_at HK2.out j (by rw [Ex.mrks_len]; exact hlt)
      have hmg := Ex.mrks_get ks k j hlt
      rw [List.getElem?_eq_getElem (by rw [Ex.mrks_len]; exact hlt), ← hn] at hmg
      rw [Option.some.inj hmg, Ex.mrk_eq] at ht
      obtain ⟨⟨q0, q1, q2, q3⟩, v3, q4, hkv⟩ := tree_cells ht
      have hct := Ex.counts_take ks j hlt
      have hcl := Ex.counts_take_le ks (j + 1)
      have hce := count_eq ks[j]
      have hkk := HKB.out
      have hnb : (n : Int) + 4 + 4 * Ex.counts ks[j].kids ≤ 8000000 := by omega
      have HC := Lib.hid (fun W hW => HI.out ks[j] (List.getElem_mem hlt) W v3 (n + 4) (Kids.later hkv hW) (by omega) (HLE.out _ (List.getElem_mem hlt)))
      rw [show ((n + 4 : Nat) : Int) = (n : Int) + 1 + 1 + 1 + 1 by omega] at HC
      have HM := Lib.hid fun W => mark_n n W (by omega)
      have HG := Lib.hid (World.block_lt_of_cell? wr _ q1)
      have HCT := Lib.hid hct
      have HCE := Lib.hid hce
      have k0 : (0 : Int) ≤ j := by omega
      have k1 : (j : Int) < ks.length := by omega
      have p1 : wr.cell? ⟨g, o + j * 5 + 1, none⟩ = some (.string (mark (n + 1))) := q1
      have p0 : wr.cell? ⟨g, o + j * 5, none⟩ = some (.int .i64 (n : Int)) := q0
      have P2 : Hid (wr.cell? ⟨g, o + j * 5 + 2, none⟩ = some (.int .i64 ((n : Int) + 1 + 1))) := Lib.hid q2
      have P3 : Hid (wr.cell? ⟨g, o + j * 5 + 3, none⟩ = some (.int .i64 ((n : Int) + 1 + 1 + 1))) := Lib.hid q3
      have P4 : Hid (wr.cell? ⟨g, o + j * 5 + 4, none⟩ = some v3) := Lib.hid q4
      obtain ⟨a5, n5, c5, rfl⟩ : ∃ a n c, v3 = .slice a n c := by
        obtain ⟨a5, c5, e⟩ := kids_len hkv
        exact ⟨_, _, _, e⟩
      clear q0 q1 q2 q3 q4 ht hkv hmg hct hcl hce hkk hn hb
      generalize ks[j] = x at HC HCT HCE hnb
      go_wp2
      go_region_held3 (fun w' => w'.cell? ⟨g, o + j * 5 + 1, none⟩ = some (.string (mark (n + 1))) ∧ Below wr.heap.size wr w')
        (first | exact ⟨p1, (Below.refl _ _).drew⟩ | exact ⟨(b1.cell HG.out).trans p1, (Below.refl _ _).drew.trans b1⟩ | go_keep)
        (first | (go_at_call 105; refine (HM.out _).mono ?_; rintro e w1 ⟨rfl, b1⟩))
      have hbb : Below wr.heap.size wr w1 := (Below.refl _ _).drew.trans b1
      have r2 := subw_below hbb _ _ _ P2.out
      have r3 := subw_below hbb _ _ _ P3.out
      have r4 := subw_below hbb _ _ _ P4.out
      have HC2 := Lib.hid (HC.out w1 hbb)
      have HB1 := Lib.hid (HB.out.trans (hbb.mono HB.out.size))
      obtain ⟨m2, hm2⟩ : ∃ m2, n + 4 + 4 * Ex.counts x.kids = m2 := ⟨_, rfl⟩
      rw [hm2] at HC2
      have HM2 : Hid (m2 = k + 4 * Ex.counts (ks.take (j + 1))) := Lib.hid (by rw [HCT.out, HCE.out, ← hm2, HN.out]; omega)
      have hm3 : (m2 : Int) ≤ 8000000 := by omega
      clear b1 p1 p0 hbb hm2
      go_wp2_with (go_at_call 82; refine HC2.out.mono ?_; rintro e w2 ⟨rfl, b2⟩; have HB2 := Lib.hid (below_then HB1.out b2); clear b2)
      go_roundw
      case rel => exact ⟨j + 1, m2, rfl, by go_num, by omega, HM2.out, HB2.out⟩
      case measure => first | (simp [intOf]; done) | (simp [intOf]; omega)
    · obtain rfl : j = ks.length := by omega
      have HN2 : Hid (n = k + 4 * Ex.counts ks) := Lib.hid (by rw [HN.out, List.take_length])
      clear hn
      go_wp2
      go_ret
      exact ⟨by rw [HN2.out]; rfl, HB.out⟩
theorem held_all : ∀ (N : Nat) (ks : List Ex.T), Ex.counts ks ≤ N → (∀ x ∈ ks, x.bulk ≤ 1048576) → HeldK ks := by
  intro N
  induction N with
  | zero =>
    intro ks h hb
    cases ks with
    | nil => exact held_list [] (fun x h => by cases h) (fun x h => by cases h)
    | cons x r => rw [Ex.counts] at h; have := Ex.count_pos x; omega
  | succ N ih =>
    intro ks h hb
    refine held_list ks (fun x hx => ih x.kids ?_ fun y hy => ?_) fun x hx => ?_
    · have h1 := Ex.counts_mem hx
      have h2 := count_eq x
      omega
    · have h1 := hb x hx
      have h2 := bulk_eq x
      have h3 := Ex.bulks_mem hy
      omega
    · have h1 := hb x hx
      have h2 := bulk_eq x
      omega
theorem held_tree (t : Ex.T) (hb : t.bulk ≤ 1048576) (v : Value) (w : World) (hk : Kids w v (Ex.mrks t.kids 1)) : Calls Tryz.prog 27 #[exV t v, .int .i64 1] w fun e w' => e = .returned (.int .i64 ((1 + 4 * Ex.counts t.kids : Nat) : Int)) ∧ Below w.heap.size w w' := by
  have hbe := bulk_eq t
  have hce := count_eq t
  have hcs := small_count hb
  have HM := Lib.hid (held_all _ t.kids (Nat.le_refl _) (fun x hx => by have := Ex.bulks_mem hx; omega))
  obtain ⟨a, c, rfl⟩ := kids_len hk
  rw [Ex.mrks_len] at hk ⊢
  have hbn := bl1 w (.cells #[.int .i64 t.kind, .string t.text, .int .i64 t.num, .int .i64 t.line, .slice a t.kids.length c] 26)
  have HC := Lib.hid (HM.out _ _ 1 (hk.later hbn) (by omega) (by omega))
  have HBN := Lib.hid hbn
  obtain ⟨m2, hm2⟩ : ∃ m2, 1 + 4 * Ex.counts t.kids = m2 := ⟨_, rfl⟩
  rw [hm2] at HC ⊢
  clear HM hbe hce hcs hb hk hbn hm2
  go_enter Tryz.func27, Tryz.ntmps27
  go_wp2_with fail
  refine HC.out.mono ?_
  rintro e w1 ⟨rfl, b1⟩
  have B1 := Lib.hid (below_then HBN.out b1)
  clear b1
  go_wp2
  go_ret
  exact ⟨rfl, B1.out⟩
end Go.Proofs.YtkhcbahbffjnkaaGreatDoor
/- What the laws read again of records, procedures and units. No conditions. -/
namespace Go.Proofs.YtkhcbahbffjnkaaGreatDoor
open Go.RowKit
set_option linter.unusedVariables false

theorem heldSN {v : Value} {n0 m m2 : Nat} {w : World} {i : Int} (hi : i = (m : Int)) (ho : Is w (strsD (marks m n0)) v) (h0 : 0 < m) (hm : m + n0 = m2) (h1 : (m2 : Int) ≤ 8000000) : Calls Tryz.prog 38 #[v, .int .i64 i] w fun e w' => e = .returned (.int .i64 (m2 : Int)) ∧ Below w.heap.size w w' := by
  subst hi hm; exact held_strsD v n0 m w ho h0 h1
theorem heldEN {v : Value} {t : Ex.T} {m m2 : Nat} {w : World} {i : Int} (hi : i = (m : Int)) (hb : t.bulk ≤ 1048576) (ho : Kids w v (Ex.mrks t.kids m)) (hm : m + 4 * Ex.counts t.kids = m2) (h1 : (m2 : Int) ≤ 8000000) : Calls Tryz.prog 82 #[v, .int .i64 i] w fun e w' => e = .returned (.int .i64 (m2 : Int)) ∧ Below w.heap.size w w' := by
  subst hi hm
  have hbe := bulk_eq t
  exact held_all _ t.kids (Nat.le_refl _) (fun x hx => by have := Ex.bulks_mem hx; omega) w v m ho h1 (by omega)
theorem slice_of {w : World} {l : List ByteArray} {v : Value} (h : Is w (strsD l) v) : ∃ a n c, v = .slice a n c := by
  obtain ⟨a, c, e⟩ := is_slice h
  exact ⟨a, _, c, e⟩

set_option maxRecDepth 100000 in
set_option maxHeartbeats 6400000 in
theorem held_recs (l : List Rc) (hb : ∀ x ∈ l, x.bulk ≤ 1048576) (v : Value) (k0 : Nat) (w : World) (ho : Is w (.row l.length ((mks Rc.mk' Rc.wd l k0).flatMap Rc.ds)) v) (hk0 : 0 < k0) (hk1 : ((k0 + wsum Rc.wd l : Nat) : Int) ≤ 8000000) (hln : l.length ≤ 1048576) :
    Calls Tryz.prog 93 #[v, .int .i64 (k0 : Int)] w fun e w' => e = .returned (.int .i64 ((k0 + wsum Rc.wd l : Nat) : Int)) ∧ Below w.heap.size w w' := by
  obtain ⟨a, c, rfl⟩ := is_slice ho
  have HK := Lib.hid ho
  have HI := Lib.hid hb
  have HK1 := Lib.hid hk1
  clear ho hb hk1
  go_enter Tryz.func93, Tryz.ntmps93
  go_wp2
  go_loopw [1, 4, 5] (fun m _ i wr => ∃ j n : Nat, m = .int .i64 n ∧ i = .int .i64 j ∧ j ≤ l.length ∧ n = k0 + wsum Rc.wd (l.take j) ∧ Below w.heap.size w wr) (fun _ _ i _ => l.length - (intOf i).toNat)
  case atStart => exact ⟨0, k0, rfl, rfl, Nat.zero_le _, by simp [wsum], Below.refl _ _⟩
  case round =>
    obtain ⟨j, n, rfl, rfl, hj, hn, hb⟩ := hrel
    have HB := Lib.hid hb
    have HK2 := Lib.hid (HK.out.later hb)
    have HN := Lib.hid hn
    by_cases hlt : j < l.length
    · obtain ⟨g, o, rfl, ht⟩ := rec_at (l := mks Rc.mk' Rc.wd l k0) HK2.out j (by rw [mks_len]; exact hlt)
      have hmg := mks_get Rc.mk' Rc.wd l k0 j l[j] (List.getElem?_eq_getElem hlt)
      rw [List.getElem?_eq_getElem (by rw [mks_len]; exact hlt), ← hn] at hmg
      rw [Option.some.inj hmg] at ht
      have hwt := wsum_take Rc.wd l j hlt
      have hwl := wsum_take_le Rc.wd l (j + 1)
      have hkk := HK1.out
      have hxb := HI.out l[j] (List.getElem_mem hlt)
      have hnw : ((n + Rc.wd l[j] : Nat) : Int) ≤ 8000000 := by omega
      have HWT := Lib.hid hwt
      have hn0 : 0 < n := by omega
      have k0' : (0 : Int) ≤ j := by omega
      have k1' : (j : Int) < l.length := by omega
      clear hmg hwt hwl hkk hn hb
      generalize l[j] = x at ht hxb hnw HWT
      unfold Rc.bulk at hxb
      unfold Rc.wd at hnw

      obtain ⟨m2, hm2⟩ : ∃ m2, n + 1 + x.fields.length = m2 := ⟨_, rfl⟩
      have hm2b : (m2 : Int) ≤ 7999999 := by omega
      obtain ⟨q0, ⟨v1, q1, k1⟩, q2⟩ := ht
      obtain ⟨a5, n5, c5, rfl⟩ := slice_of k1
      have p0 : wr.cell? ⟨g, o + j * 3, none⟩ = some (.string (mark n)) := q0
      have P1 : Hid (wr.cell? ⟨g, o + j * 3 + 1, none⟩ = some (.slice a5 n5 c5)) := Lib.hid q1
      have P2 : Hid (wr.cell? ⟨g, o + j * 3 + 2, none⟩ = some (.int .i64 (m2 : Int))) := Lib.hid (by subst hm2; exact q2)
      have K1 : Hid (Is wr (strsD (marks (n + 1) x.fields.length)) (.slice a5 n5 c5)) := Lib.hid k1
      have HM := Lib.hid fun W => mark_k n W (by omega) (by omega)
      have HG := Lib.hid (World.block_lt_of_cell? wr _ p0)
      have H2 := Lib.hid hm2
      have hnb : (n : Int) ≤ 7999999 := by omega
      clear q0 q1 q2 k1 hm2 hnw hxb
      go_wp2
      go_region_held3 (fun w' => w'.cell? ⟨g, o + j * 3, none⟩ = some (.string (mark n)) ∧ Below wr.heap.size wr w')
        (first | exact ⟨p0, (Below.refl _ _).drew⟩ | exact ⟨(b1.cell HG.out).trans p0, (Below.refl _ _).drew.trans b1⟩ | go_keep)
        (first | (go_at_call 105; refine (HM.out _).mono ?_; rintro e w1 ⟨rfl, b1⟩))
      have hbb : Below wr.heap.size wr w1 := (Below.refl _ _).drew.trans b1
      have r1 := subw_below hbb _ _ _ P1.out
      have r2 := subw_below hbb _ _ _ P2.out
      have L1 := Lib.hid (K1.out.later hbb)
      have HB1 := Lib.hid (HB.out.trans (hbb.mono HB.out.size))
      clear b1 p0 hbb
      go_wp2_with fail
      refine (heldSN (m := n + 1) (m2 := m2) (by omega) L1.out (by omega) H2.out (by omega)).mono ?_
      rintro e w2 ⟨rfl, b2⟩
      have s2 := subw_below b2 _ _ _ r2
      have HB2 := Lib.hid (below_then HB1.out b2)
      clear b2 r1 r2
      go_wp2
      go_roundw
      case rel => exact ⟨j + 1, m2 + 1, by go_num, by go_num, by omega, by rw [HWT.out, ← Nat.add_assoc, ← HN.out]; unfold Rc.wd; have := H2.out; omega, HB2.out⟩
      case measure => first | (simp [intOf]; done) | (simp [intOf]; omega)
    · obtain rfl : j = l.length := by omega
      have HN2 : Hid (n = k0 + wsum Rc.wd l) := Lib.hid (by rw [HN.out, List.take_length])
      clear hn HN
      go_wp2
      go_ret
      exact ⟨by rw [HN2.out]; rfl, HB.out⟩
set_option maxRecDepth 100000 in
set_option maxHeartbeats 6400000 in
theorem held_procs (l : List Pc) (hb : ∀ x ∈ l, x.bulk ≤ 1048576) (v : Value) (k0 : Nat) (w : World) (ho : Is w (.row l.length ((mks Pc.mk' Pc.wd l k0).flatMap Pc.ds)) v) (hk0 : 0 < k0) (hk1 : ((k0 + wsum Pc.wd l : Nat) : Int) ≤ 8000000) (hln : l.length ≤ 1048576) :
    Calls Tryz.prog 94 #[v, .int .i64 (k0 : Int)] w fun e w' => e = .returned (.int .i64 ((k0 + wsum Pc.wd l : Nat) : Int)) ∧ Below w.heap.size w w' := by
  obtain ⟨a, c, rfl⟩ := is_slice ho
  have HK := Lib.hid ho
  have HI := Lib.hid hb
  have HK1 := Lib.hid hk1
  clear ho hb hk1
  go_enter Tryz.func94, Tryz.ntmps94
  go_wp2
  go_loopw [1, 4, 5] (fun m _ i wr => ∃ j n : Nat, m = .int .i64 n ∧ i = .int .i64 j ∧ j ≤ l.length ∧ n = k0 + wsum Pc.wd (l.take j) ∧ Below w.heap.size w wr) (fun _ _ i _ => l.length - (intOf i).toNat)
  case atStart => exact ⟨0, k0, rfl, rfl, Nat.zero_le _, by simp [wsum], Below.refl _ _⟩
  case round =>
    obtain ⟨j, n, rfl, rfl, hj, hn, hb⟩ := hrel
    have HB := Lib.hid hb
    have HK2 := Lib.hid (HK.out.later hb)
    have HN := Lib.hid hn
    by_cases hlt : j < l.length
    · obtain ⟨g, o, rfl, ht⟩ := proc_at (l := mks Pc.mk' Pc.wd l k0) HK2.out j (by rw [mks_len]; exact hlt)
      have hmg := mks_get Pc.mk' Pc.wd l k0 j l[j] (List.getElem?_eq_getElem hlt)
      rw [List.getElem?_eq_getElem (by rw [mks_len]; exact hlt), ← hn] at hmg
      rw [Option.some.inj hmg] at ht
      have hwt := wsum_take Pc.wd l j hlt
      have hwl := wsum_take_le Pc.wd l (j + 1)
      have hkk := HK1.out
      have hxb := HI.out l[j] (List.getElem_mem hlt)
      have hnw : ((n + Pc.wd l[j] : Nat) : Int) ≤ 8000000 := by omega
      have HWT := Lib.hid hwt
      have hn0 : 0 < n := by omega
      have k0' : (0 : Int) ≤ j := by omega
      have k1' : (j : Int) < l.length := by omega
      clear hmg hwt hwl hkk hn hb
      generalize l[j] = x at ht hxb hnw HWT
      unfold Pc.bulk at hxb
      unfold Pc.wd at hnw

      obtain ⟨m2, hm2⟩ : ∃ m2, n + 1 + x.params.length = m2 := ⟨_, rfl⟩
      obtain ⟨m3, hm3⟩ : ∃ m3, m2 + x.locals.length = m3 := ⟨_, rfl⟩
      obtain ⟨m8, hm8⟩ : ∃ m8, m3 + 4 + 4 * Ex.counts x.body.kids = m8 := ⟨_, rfl⟩
      have hm8b : (m8 : Int) ≤ 7999999 := by omega
      obtain ⟨q0, ⟨v1, q1, k1⟩, ⟨v2, q2, k2⟩, ⟨q3, q4, q5, q6⟩, ⟨v3, q7, k3⟩, q8⟩ := ht
      obtain ⟨a5, n5, c5, rfl⟩ := slice_of k1
      obtain ⟨a6, n6, c6, rfl⟩ := slice_of k2
      obtain ⟨a7, n7, c7, rfl⟩ : ∃ a n c, v3 = .slice a n c := by
        obtain ⟨a, c, e⟩ := kids_len k3
        exact ⟨a, _, c, e⟩
      have p0 : wr.cell? ⟨g, o + j * 9, none⟩ = some (.string (mark n)) := q0
      have P1 : Hid (wr.cell? ⟨g, o + j * 9 + 1, none⟩ = some (.slice a5 n5 c5)) := Lib.hid q1
      have P2 : Hid (wr.cell? ⟨g, o + j * 9 + 2, none⟩ = some (.slice a6 n6 c6)) := Lib.hid q2
      have P3 : Hid (wr.cell? ⟨g, o + j * 9 + 3, none⟩ = some (.int .i64 (m3 : Int))) := Lib.hid (by subst hm2 hm3; exact q3)
      have P4 : Hid (wr.cell? ⟨g, o + j * 9 + 3 + 1, none⟩ = some (.string (mark (m3 + 1)))) := Lib.hid (by subst hm2 hm3; exact q4)
      have P5 : Hid (wr.cell? ⟨g, o + j * 9 + 3 + 2, none⟩ = some (.int .i64 ((m3 : Int) + 1 + 1))) := Lib.hid (by subst hm2 hm3; exact q5)
      have P6 : Hid (wr.cell? ⟨g, o + j * 9 + 3 + 3, none⟩ = some (.int .i64 ((m3 : Int) + 1 + 1 + 1))) := Lib.hid (by subst hm2 hm3; exact q6)
      have P7 : Hid (wr.cell? ⟨g, o + j * 9 + 3 + 4, none⟩ = some (.slice a7 n7 c7)) := Lib.hid q7
      have P8 : Hid (wr.cell? ⟨g, o + j * 9 + 8, none⟩ = some (.int .i64 (m8 : Int))) := Lib.hid (by subst hm2 hm3 hm8; exact q8)
      have K1 : Hid (Is wr (strsD (marks (n + 1) x.params.length)) (.slice a5 n5 c5)) := Lib.hid k1
      have K2 : Hid (Is wr (strsD (marks m2 x.locals.length)) (.slice a6 n6 c6)) := Lib.hid (by subst hm2; exact k2)
      have K3 : Hid (Kids wr (.slice a7 n7 c7) (Ex.mrks x.body.kids (m3 + 4))) := Lib.hid (by subst hm2 hm3; exact k3)
      have HM := Lib.hid fun W => mark_k n W (by omega) (by omega)
      have HM4 := Lib.hid fun W => markN (m := m3 + 1) (w := W) (i := (m3 : Int) + 1) (by omega) (by omega) (by omega)
      have HG := Lib.hid (World.block_lt_of_cell? wr _ p0)
      have H2 := Lib.hid hm2
      have H3 := Lib.hid hm3
      have H8 := Lib.hid hm8
      have hb2p : 0 < m2 ∧ (m2 : Int) ≤ 8000000 := by omega
      have hb3p : (m3 : Int) ≤ 7999996 := by omega
      have HP2 := Lib.hid hb2p
      have hnb : (n : Int) ≤ 7999999 := by omega
      have HXB := Lib.hid hxb
      clear hnw hxb q0 q1 q2 q3 q4 q5 q6 q7 q8 k1 k2 k3 hm2 hm3 hm8 hb2p
      go_wp2
      go_region_held3 (fun w' => w'.cell? ⟨g, o + j * 9, none⟩ = some (.string (mark n)) ∧ Below wr.heap.size wr w')
        (first | exact ⟨p0, (Below.refl _ _).drew⟩ | exact ⟨(b1.cell HG.out).trans p0, (Below.refl _ _).drew.trans b1⟩ | go_keep)
        (first | (go_at_call 105; refine (HM.out _).mono ?_; rintro e w1 ⟨rfl, b1⟩))
      have hbb : Below wr.heap.size wr w1 := (Below.refl _ _).drew.trans b1
      have r1 := subw_below hbb _ _ _ P1.out
      have R := Lib.hid hbb
      have HB1 := Lib.hid (HB.out.trans (hbb.mono HB.out.size))
      clear b1 p0 hbb
      go_wp2_with fail
      refine (heldSN (m := n + 1) (m2 := m2) (by omega) (K1.out.later R.out) (by omega) H2.out HP2.out.2).mono ?_
      rintro e w2 ⟨rfl, b2⟩
      have R2 := Lib.hid (below_then R.out b2)
      have HB2 := Lib.hid (below_then HB1.out b2)
      have r2 := subw_below R2.out _ _ _ P2.out
      clear b2 r1
      go_wp2_with fail
      refine (heldSN (m := m2) (m2 := m3) rfl (K2.out.later R2.out) HP2.out.1 H3.out (by omega)).mono ?_
      rintro e w3 ⟨rfl, b3⟩
      have R3 := Lib.hid (below_then R2.out b3)
      have HB3 := Lib.hid (below_then HB2.out b3)
      have r3 := subw_below R3.out _ _ _ P3.out
      have r4 := subw_below R3.out _ _ _ P4.out
      have HG3 := Lib.hid (World.block_lt_of_cell? w3 _ r3)
      clear b3 r2
      go_wp2
      go_region_held3 (fun w' => w'.cell? ⟨g, o + j * 9 + 3 + 1, none⟩ = some (.string (mark (m3 + 1))) ∧ Below w3.heap.size w3 w')
        (first | exact ⟨r4, (Below.refl _ _).drew⟩ | exact ⟨(b4.cell HG3.out).trans r4, (Below.refl _ _).drew.trans b4⟩ | go_keep)
        (first | (go_at_call 105; refine (HM4.out _).mono ?_; rintro e w4 ⟨rfl, b4⟩))
      have hb4 : Below w3.heap.size w3 w4 := (Below.refl _ _).drew.trans b4
      have R4 := Lib.hid (below_then R3.out hb4)
      have HB4 := Lib.hid (below_then HB3.out hb4)
      have r5 := subw_below R4.out _ _ _ P5.out
      have r6 := subw_below R4.out _ _ _ P6.out
      have r7 := subw_below R4.out _ _ _ P7.out
      clear b4 hb4 r3 r4
      go_wp2_with fail
      refine (heldEN (t := x.body) (m := m3 + 4) (m2 := m8) (by omega) (by have := HXB.out; omega) (K3.out.later R4.out) H8.out (by omega)).mono ?_
      rintro e w5 ⟨rfl, b5⟩
      have R5 := Lib.hid (below_then R4.out b5)
      have HB5 := Lib.hid (below_then HB4.out b5)
      have r8 := subw_below R5.out _ _ _ P8.out
      clear b5 r5 r6 r7
      go_wp2
      go_roundw
      case rel => exact ⟨j + 1, m8 + 1, by go_num, by go_num, by omega, by rw [HWT.out, ← Nat.add_assoc, ← HN.out]; unfold Pc.wd; have := H2.out; have := H3.out; have := H8.out; omega, HB5.out⟩
      case measure => first | (simp [intOf]; done) | (simp [intOf]; omega)
    · obtain rfl : j = l.length := by omega
      have HN2 : Hid (n = k0 + wsum Pc.wd l) := Lib.hid (by rw [HN.out, List.take_length])
      clear hn HN
      go_wp2
      go_ret
      exact ⟨by rw [HN2.out]; rfl, HB.out⟩
theorem mark_pos (u : Un) : 1 ≤ 1 + wsum Rc.wd u.recs := by omega
/-- How many letters a unit takes. -/
def Un.m1 (u : Un) : Nat := 1 + wsum Rc.wd u.recs
def Un.m2 (u : Un) : Nat := u.m1 + u.globs.length
def Un.m3 (u : Un) : Nat := u.m2 + wsum Pc.wd u.procs
def Un.mrk (u : Un) : Un := ⟨mks Rc.mk' Rc.wd u.recs 1, marks u.m1 u.globs.length, mks Pc.mk' Pc.wd u.procs u.m2⟩
theorem strsB_len (l : List ByteArray) : l.length ≤ strsB l := by unfold strsB; omega
theorem rc_wd (r : Rc) : Rc.wd r ≤ r.bulk + 2 := by unfold Rc.wd Rc.bulk; have := strsB_len r.fields; omega
theorem pc_wd (p : Pc) : Pc.wd p ≤ 4 * p.bulk + 6 := by
  unfold Pc.wd Pc.bulk
  have h1 := strsB_len p.params
  have h2 := strsB_len p.locals
  have h3 := count_eq p.body
  have h4 := Ex.count_bulk _ p.body (Nat.le_refl _)
  omega
theorem wsum_lin {α : Type} (f g : α → Nat) (a b : Nat) (h : ∀ x, f x ≤ a * g x + b) : ∀ l : List α, wsum f l ≤ a * wsum g l + b * l.length := by
  intro l
  induction l with
  | nil => simp [wsum]
  | cons x r ih =>
    rw [wsum, wsum, List.length_cons, Nat.mul_add, Nat.mul_succ]
    have := h x
    omega
theorem un_small {u : Un} (hb : u.bulk ≤ 1048576) : (u.m1 : Int) ≤ 8000000 ∧ (u.m2 : Int) ≤ 8000000 ∧ (u.m3 : Int) ≤ 8000000 := by
  have h1 := wsum_lin Rc.wd Rc.bulk 1 2 (fun r => by have := rc_wd r; omega) u.recs
  have h2 := wsum_lin Pc.wd Pc.bulk 4 6 pc_wd u.procs
  unfold Un.bulk recsB procsB at hb
  have h3 := strsB_len u.globs
  unfold Un.m3 Un.m2 Un.m1
  omega
set_option maxHeartbeats 3200000 in
theorem mark_unit (u : Un) (hb : u.bulk ≤ 1048576) (w : World) (v1 v2 v3 : Value) (F1 F2 F3 : List Nat) (ho : UnOwn w u v1 v2 v3 F1 F2 F3) (hF : ∀ b ∈ F1 ++ (F2 ++ F3), b < w.heap.size) :
    Calls Tryz.prog 30 #[unV v1 v2 v3, .int .i64 1] w fun e w' => e = .returned (.int .i64 (u.m3 : Int)) ∧ UnOwn w' u.mrk v1 v2 v3 F1 F2 F3 ∧ OnlyF (F1 ++ (F2 ++ F3)) w w' := by
  obtain ⟨⟨o1, o2, o3⟩, a12, a13, a23⟩ := ho
  have hs := un_small hb
  have hbb := hb
  unfold Un.bulk recsB procsB at hbb
  obtain ⟨x1, y1, rfl⟩ := own_slice o1
  obtain ⟨x2, y2, rfl⟩ := own_slice o2
  obtain ⟨x3, y3, rfl⟩ := own_slice o3
  have f1 : ∀ b ∈ F1, b < w.heap.size := fun b h => hF b (List.mem_append_left _ h)
  have f2 : ∀ b ∈ F2, b < w.heap.size := fun b h => hF b (List.mem_append_right _ (List.mem_append_left _ h))
  have f3 : ∀ b ∈ F3, b < w.heap.size := fun b h => hF b (List.mem_append_right _ (List.mem_append_right _ h))
  have bA := bl1 w (.cells #[.slice x1 u.recs.length y1, .slice x2 u.globs.length y2, .slice x3 u.procs.length y3] 38)
  have VA := Lib.hid (Var.new w #[.slice x1 u.recs.length y1, .slice x2 u.globs.length y2, .slice x3 u.procs.length y3] 38)
  have HC1 := Lib.hid (mark_recs u.recs (fun x hx => by have := wsum_mem Rc.bulk hx; omega) _ F1 1 _ (o1.later f1 bA) (fun b h => Nat.lt_of_lt_of_le (f1 b h) bA.size) (by decide) (by have := hs.1; unfold Un.m1 at this; exact this) (by omega))
  have BA := Lib.hid bA
  have O2 := Lib.hid o2
  have O3 := Lib.hid o3
  have A12 := Lib.hid a12
  have A13 := Lib.hid a13
  have A23 := Lib.hid a23
  have FF := Lib.hid (And.intro f1 (And.intro f2 f3))
  have HBB := Lib.hid hbb
  have HS := Lib.hid hs
  clear o1 o2 o3 a12 a13 a23 f1 f2 f3 bA hb hbb hF hs
  have HM1 : Hid (1 + wsum Rc.wd u.recs = u.m1) := Lib.hid rfl
  rw [HM1.out] at HC1
  go_enter Tryz.func30, Tryz.ntmps30
  go_wp2_with fail
  refine HC1.out.mono ?_
  rintro e w1 ⟨rfl, n1, of1⟩
  have hbA : ∀ b, b < w.heap.size → b ∉ F1 → w1.heap[b]? = w.heap[b]? := fun b h1 h2 => (of1.2 b h2 (Nat.lt_of_lt_of_le h1 BA.out.size)).trans (BA.out.block b h1)
  have hs1 : w.heap.size + 1 ≤ w1.heap.size := by have := of1.1.size; simpa using this
  have V1 := Lib.hid (VA.out.keep (w' := w1) (of1.2 _ (fun h => by have := FF.out.1 _ h; omega) (by simp)))
  have N1 := Lib.hid n1
  have O2b := Lib.hid (Own.keep _ _ _ (fun b hb => hbA b (FF.out.2.1 b hb) (fun h => A12.out b h hb)) O2.out)
  have O3b := Lib.hid (Own.keep _ _ _ (fun b hb => hbA b (FF.out.2.2 b hb) (fun h => A13.out b h hb)) O3.out)
  have OF1 := Lib.hid (OnlyF.trans ((OnlyF.refl F1 w).later BA.out) of1 fun b hb => hb)
  have g1 := (V1.out 1 _ rfl).1
  clear of1 n1 hbA
  go_wp2_with fail
  refine (markSN (m := u.m1) (m2 := u.m2) rfl O2b.out (fun b hb => by have := FF.out.2.1 b hb; omega) (by unfold Un.m1; omega) rfl HS.out.2.1).mono ?_
  rintro e w2 ⟨rfl, n2, of2⟩
  have V2 := Lib.hid (V1.out.keep (w' := w2) (of2.2 _ (fun h => by have := FF.out.2.1 _ h; omega) (by omega)))
  have N1b := Lib.hid (Own.keep _ _ _ (fun b hb => of2.2 b (fun h => A12.out b hb h) (by have := FF.out.1 b hb; omega)) N1.out)
  have N2 := Lib.hid n2
  have O3c := Lib.hid (Own.keep _ _ _ (fun b hb => of2.2 b (fun h => A23.out b h hb) (by have := FF.out.2.2 b hb; omega)) O3b.out)
  have OF2 := Lib.hid of2
  have hs2 : w.heap.size + 1 ≤ w2.heap.size := by have := of2.1.size; omega
  clear g1 n2 of2
  have g2 := (V2.out 2 _ rfl).1
  have HC3 := Lib.hid (mark_procs u.procs (fun x hx => by have := wsum_mem Pc.bulk hx; have := HBB.out; omega) _ F3 u.m2 _ O3c.out (fun b hb => by have := FF.out.2.2 b hb; omega) (by unfold Un.m2 Un.m1; omega) (by have := HS.out.2.2; unfold Un.m3 at this; exact this) (by have := HBB.out; omega))
  go_wp2_with fail
  refine HC3.out.mono ?_
  rintro e w3 ⟨rfl, n3, of3⟩
  have N1c := Lib.hid (Own.keep _ _ _ (fun b hb => of3.2 b (fun h => A13.out b hb h) (by have := FF.out.1 b hb; omega)) N1b.out)
  have N2b := Lib.hid (Own.keep _ _ _ (fun b hb => of3.2 b (fun h => A23.out b hb h) (by have := FF.out.2.1 b hb; omega)) N2.out)
  have N3 := Lib.hid n3
  have OF3 := Lib.hid of3
  clear g2 n3 of3 HC3
  go_wp2
  go_ret
  refine ⟨rfl, ⟨⟨N1c.out, N2b.out, N3.out⟩, A12.out, A13.out, A23.out⟩, ?_⟩
  exact (OnlyF.trans (F := F1 ++ (F2 ++ F3)) ⟨OF1.out.1, fun b h1 h2 => OF1.out.2 b (fun h => h1 (List.mem_append_left _ h)) h2⟩ OF2.out (fun b hb => List.mem_append_right _ (List.mem_append_left _ hb))).trans OF3.out (fun b hb => List.mem_append_right _ (List.mem_append_right _ hb))
set_option maxHeartbeats 3200000 in
theorem held_unit (u : Un) (hb : u.bulk ≤ 1048576) (w : World) (v1 v2 v3 : Value) (h : UnIs w u.mrk v1 v2 v3) :
    Calls Tryz.prog 31 #[unV v1 v2 v3, .int .i64 1] w fun e w' => e = .returned (.int .i64 (u.m3 : Int)) ∧ Below w.heap.size w w' := by
  obtain ⟨h1, h2, h3⟩ := h
  have hs := un_small hb
  have hbb := hb
  unfold Un.bulk recsB procsB at hbb
  have k1 : Is w (.row u.recs.length ((mks Rc.mk' Rc.wd u.recs 1).flatMap Rc.ds)) v1 := by
    have h := h1
    unfold recsD at h
    rw [show u.mrk.recs = mks Rc.mk' Rc.wd u.recs 1 from rfl, mks_len] at h
    exact h
  have k2 : Is w (strsD (marks u.m1 u.globs.length)) v2 := h2
  have k3 : Is w (.row u.procs.length ((mks Pc.mk' Pc.wd u.procs u.m2).flatMap Pc.ds)) v3 := by
    have h := h3
    unfold procsD at h
    rw [show u.mrk.procs = mks Pc.mk' Pc.wd u.procs u.m2 from rfl, mks_len] at h
    exact h
  obtain ⟨x1, y1, rfl⟩ := is_slice k1
  obtain ⟨x2, z2, y2, rfl⟩ := slice_of k2
  obtain ⟨x3, y3, rfl⟩ := is_slice k3
  have BA := Lib.hid (bl1 w (.cells #[.slice x1 u.recs.length y1, .slice x2 z2 y2, .slice x3 u.procs.length y3] 38))
  have VA := Lib.hid (Var.new w #[.slice x1 u.recs.length y1, .slice x2 z2 y2, .slice x3 u.procs.length y3] 38)
  have HC1 : Hid (Calls Tryz.prog 93 #[.slice x1 u.recs.length y1, .int .i64 1] (w.alloc (.cells #[.slice x1 u.recs.length y1, .slice x2 z2 y2, .slice x3 u.procs.length y3] 38)) fun e w' => e = .returned (.int .i64 (u.m1 : Int)) ∧ Below (w.alloc (.cells #[.slice x1 u.recs.length y1, .slice x2 z2 y2, .slice x3 u.procs.length y3] 38)).heap.size (w.alloc (.cells #[.slice x1 u.recs.length y1, .slice x2 z2 y2, .slice x3 u.procs.length y3] 38)) w') := Lib.hid (held_recs u.recs (fun x hx => by have := wsum_mem Rc.bulk hx; omega) _ 1 _ (k1.later BA.out) (by decide) (by have := hs.1; unfold Un.m1 at this; exact this) (by omega))
  have HC2 := Lib.hid (fun W (hW : Below w.heap.size w W) => heldSN (m := u.m1) (m2 := u.m2) (i := (u.m1 : Int)) rfl (k2.later hW) (by unfold Un.m1; omega) rfl hs.2.1)
  have HC3 : Hid (∀ W, Below w.heap.size w W → Calls Tryz.prog 94 #[.slice x3 u.procs.length y3, .int .i64 (u.m2 : Int)] W fun e w' => e = .returned (.int .i64 (u.m3 : Int)) ∧ Below W.heap.size W w') := Lib.hid (fun W hW => held_procs u.procs (fun x hx => by have := wsum_mem Pc.bulk hx; omega) _ u.m2 W (k3.later hW) (by unfold Un.m2 Un.m1; omega) (by have := hs.2.2; unfold Un.m3 at this; exact this) (by omega))
  clear h1 h2 h3 k1 k2 k3 hb hbb hs
  generalize u.m1 = m1 at HC1 HC2
  generalize u.m2 = m2 at HC2 HC3
  generalize u.m3 = m3 at HC3 ⊢
  go_enter Tryz.func31, Tryz.ntmps31
  go_wp2_with fail
  refine HC1.out.mono ?_
  rintro e w1 ⟨rfl, b1⟩
  have B1 := Lib.hid (below_then BA.out b1)
  have V1 := Lib.hid (VA.out.later b1)
  have g1 := (V1.out 1 _ rfl).1
  clear b1
  go_wp2_with fail
  refine (HC2.out _ B1.out).mono ?_
  rintro e w2 ⟨rfl, b2⟩
  have B2 := Lib.hid (below_then B1.out b2)
  have V2 := Lib.hid (V1.out.later b2)
  clear b2 g1
  have g2 := (V2.out 2 _ rfl).1
  go_wp2_with fail
  refine (HC3.out _ B2.out).mono ?_
  rintro e w3 ⟨rfl, b3⟩
  have B3 := Lib.hid (below_then B2.out b3)
  clear b3 g2
  go_wp2
  go_ret
  exact ⟨rfl, B3.out⟩
end Go.Proofs.YtkhcbahbffjnkaaGreatDoor
