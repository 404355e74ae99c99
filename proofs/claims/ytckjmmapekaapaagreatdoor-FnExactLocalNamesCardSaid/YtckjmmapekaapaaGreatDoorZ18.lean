/- Joined texts: U5. No conditions besides those that each states. -/
import Derived.Test.YtckjmmapekaapaaGreatDoorZ14
/- The laws' measure of records, procedures and units. No conditions. -/
namespace Go.Proofs.YtckjmmapekaapaaGreatDoor
open Go.RowKit
set_option linter.unusedVariables false

set_option maxHeartbeats 1600000 in
theorem sz_rec (r : Rc) (hok : r.Ok) (w : World) (v1 : Value) (left : Nat) (h1 : Is w (strsD r.fields) v1) (hs : (left : Int) ≤ 1048576) :
    Calls Tryz.prog 39 #[rcV r v1, .int .i64 (left : Int)] w fun e w' => e = .returned (.int .i64 (szR left r.bulk)) ∧ Below w.heap.size w w' := by
  obtain ⟨a1, c1, rfl⟩ := is_slice h1
  have HB := Lib.hid (bl1 w (.cells #[.string r.name, .slice a1 r.fields.length c1, .int .i64 r.line] 77))
  have z0 := hok.1
  by_cases q0 : r.name.size ≤ left
  case neg =>
    have HN : Hid (szR left r.bulk = -1) := Lib.hid (szR_no (by unfold Rc.bulk; omega))
    have x0 : (left : Int) - r.name.size < 0 := by omega
    clear h1 hok
    go_enter Tryz.func39, Tryz.ntmps39
    go_wp2
    go_ret
    exact ⟨ret_ei HN.out, HB.out⟩
  have e0 : ((left : Int) - r.name.size) = ((left - r.name.size : Nat) : Int) := by omega
  have n0 : 0 ≤ (left : Int) - r.name.size := by omega
  obtain ⟨l1, hl1⟩ : ∃ l1, left - r.name.size = l1 := ⟨_, rfl⟩
  rw [hl1] at e0
  have m1 : (l1 : Int) ≤ 1048576 := by omega
  have HC1 := Lib.hid (fun W (hW : Below w.heap.size w W) => sz_strsD _ r.fields W l1 (h1.later hW) m1 hok.2.1 hok.2.2)
  by_cases q1 : strsB r.fields ≤ l1
  case neg =>
    have HN : Hid (szR left r.bulk = -1) := Lib.hid (szR_no (by unfold Rc.bulk; omega))
    rw [szR_no q1] at HC1
    clear h1 hok
    go_enter Tryz.func39, Tryz.ntmps39
    go_wp2_with fail
    refine (HC1.out _ HB.out).mono ?_
    rintro e w1 ⟨rfl, rfl⟩
    go_wp2
    go_ret
    exact ⟨ret_ei HN.out, HB.out⟩
  obtain ⟨l2, hl2⟩ : ∃ l2, l1 - strsB r.fields = l2 := ⟨_, rfl⟩
  rw [szR_yes q1, hl2] at HC1
  have m2 : (l2 : Int) ≤ 1048576 := by omega
  have HN : Hid (szR left r.bulk = (l2 : Int)) := Lib.hid (by unfold Rc.bulk; rw [szR_yes (by omega)]; congr 1; omega)
  clear h1 hok
  go_enter Tryz.func39, Tryz.ntmps39
  go_wp2_with fail
  refine (HC1.out _ HB.out).mono ?_
  rintro e w1 ⟨rfl, rfl⟩
  go_wp2
  go_ret
  exact ⟨ret_ei HN.out, HB.out⟩
theorem recB_next {ks : List Rc} {left k m : Nat} (h : m + (ks.length + wsum Rc.bulk (ks.take k)) = left) (hk : k < ks.length) (hb : ks[k].bulk ≤ m) : (m - ks[k].bulk) + (ks.length + wsum Rc.bulk (ks.take (k + 1))) = left := by
  rw [wsum_take Rc.bulk ks k hk]; omega
theorem recB_bad {ks : List Rc} {left k m : Nat} (h : m + (ks.length + wsum Rc.bulk (ks.take k)) = left) (hk : k < ks.length) (hb : ¬ ks[k].bulk ≤ m) : szR left (recsB ks) = -1 := by
  have h2 := wsum_take Rc.bulk ks k hk
  have h3 := wsum_take_le Rc.bulk ks (k + 1)
  exact szR_no (by unfold recsB; omega)
theorem recB_over {ks : List Rc} {left m : Nat} (h : m + (ks.length + wsum Rc.bulk (ks.take ks.length)) = left) : szR left (recsB ks) = (m : Int) := by
  rw [List.take_length] at h
  unfold recsB
  rw [szR_yes (by omega)]; congr 1; omega
set_option maxHeartbeats 1600000 in
theorem sz_recs (ks : List Rc) (hok : ∀ r ∈ ks, r.Ok) (hl : ks.length ≤ 9223372036854775807) (w : World) (v : Value) (left : Nat) (hk : Is w (recsD ks) v) (hs : (left : Int) ≤ 1048576) :
    Calls Tryz.prog 16 #[v, .int .i64 (left : Int)] w fun e w' => e = .returned (.int .i64 (szR left (recsB ks))) ∧ Below w.heap.size w w' := by
  obtain ⟨a, c, rfl⟩ := is_slice hk
  have HK := Lib.hid hk
  have HOK := Lib.hid hok
  clear hk hok
  by_cases h0 : ks.length ≤ left
  · have HST : Hid ((left - ks.length) + (ks.length + wsum Rc.bulk (ks.take 0)) = left) := Lib.hid (by simp [wsum]; omega)
    have e0 : ((left : Int) - ks.length) = ((left - ks.length : Nat) : Int) := by omega
    have hr0 : 0 ≤ (left : Int) - ks.length := by omega
    go_enter Tryz.func16, Tryz.ntmps16
    go_wp2
    go_loopw [1, 5] (fun m i wr => ∃ k n : Nat, i = .int .i64 k ∧ m = .int .i64 n ∧ k ≤ ks.length ∧ n ≤ left ∧ n + (ks.length + wsum Rc.bulk (ks.take k)) = left ∧ Below w.heap.size w wr) (fun _ i _ => ks.length - (intOf i).toNat)
    case atStart => exact ⟨0, left - ks.length, rfl, by rw [← e0], by omega, by omega, HST.out, Below.refl _ _⟩
    case round =>
      clear HST e0 hr0
      obtain ⟨k, n, rfl, rfl, hk, hn, hat, hb⟩ := hrel
      have HAT := Lib.hid hat
      have HB := Lib.hid hb
      have HK2 := Lib.hid (HK.out.later hb)
      clear hat hb
      by_cases hlt : k < ks.length
      · obtain ⟨g, o, rfl, ⟨q0, ⟨v1, q1, k1⟩, q2⟩⟩ := rec_at HK2.out k hlt
        have HC := Lib.hid (sz_rec ks[k] (HOK.out _ (List.getElem_mem hlt)) wr v1 n k1 (by omega))
        obtain ⟨a1, c1, rfl⟩ := is_slice k1
        clear k1
        have k0 : (0 : Int) ≤ k := by omega
        have k1 : (k : Int) < ks.length := by omega
        by_cases hbk : ks[k].bulk ≤ n
        · have HN := Lib.hid (recB_next HAT.out hlt hbk)
          have hle : n - ks[k].bulk ≤ left := by omega
          rw [szR_yes hbk] at HC
          generalize n - ks[k].bulk = n2 at HC HN hle
          clear hbk HAT
          generalize ks[k] = x at q0 q1 q2 HC
          go_wp2_with (go_at_call 39; refine HC.out.mono ?_; rintro e w1 ⟨rfl, hb1⟩; have HB1 := Lib.hid (below_then HB.out hb1); clear hb1)
          go_roundw
          case rel => exact ⟨k + 1, n2, by go_num, rfl, by omega, hle, HN.out, HB1.out⟩
          case measure => first | (simp [intOf]; done) | (simp [intOf]; omega)
        · have HN := Lib.hid (recB_bad HAT.out hlt hbk)
          rw [szR_no hbk] at HC
          clear hbk HAT
          generalize ks[k] = x at q0 q1 q2 HC
          go_wp2_with (go_at_call 39; refine HC.out.mono ?_; rintro e w1 ⟨rfl, hb1⟩; have HB1 := Lib.hid (below_then HB.out hb1); clear hb1)
          go_ret
          exact ⟨ret_ei HN.out, HB1.out⟩
      · obtain rfl : k = ks.length := by omega
        have HN := Lib.hid (recB_over HAT.out)
        clear HAT
        go_wp2
        go_ret
        exact ⟨ret_ei HN.out, HB.out⟩
  · have HN := Lib.hid (szR_no (left := left) (b := recsB ks) (by unfold recsB; omega))
    have hlt0 : (left : Int) - ks.length < 0 := by omega
    go_enter Tryz.func16, Tryz.ntmps16
    go_wp2
    go_ret
    exact ⟨ret_ei HN.out, Below.refl _ _⟩
set_option maxHeartbeats 1600000 in
theorem sz_proc (r : Pc) (hok : r.Ok) (w : World) (v1 v2 v3 : Value) (left : Nat) (h1 : Is w (strsD r.params) v1) (h2 : Is w (strsD r.locals) v2) (h3 : Kids w v3 r.body.kids) (hs : (left : Int) ≤ 1048576) :
    Calls Tryz.prog 40 #[pcV r v1 v2 v3, .int .i64 (left : Int)] w fun e w' => e = .returned (.int .i64 (szR left r.bulk)) ∧ Below w.heap.size w w' := by
  obtain ⟨a1, c1, rfl⟩ := is_slice h1
  obtain ⟨a2, c2, rfl⟩ := is_slice h2
  obtain ⟨a3, c3, rfl⟩ := kids_len h3
  have HB := Lib.hid (bl1 w (.cells #[.string r.name, .slice a1 r.params.length c1, .slice a2 r.locals.length c2, .int .i64 r.body.kind, .string r.body.text, .int .i64 r.body.num, .int .i64 r.body.line, .slice a3 r.body.kids.length c3, .int .i64 r.line] 83))
  have z0 := hok.1
  by_cases q0 : r.name.size ≤ left
  case neg =>
    have HN : Hid (szR left r.bulk = -1) := Lib.hid (szR_no (by unfold Pc.bulk; omega))
    have x0 : (left : Int) - r.name.size < 0 := by omega
    clear h1 h2 h3 hok
    go_enter Tryz.func40, Tryz.ntmps40
    go_wp2
    go_ret
    exact ⟨ret_ei HN.out, HB.out⟩
  have e0 : ((left : Int) - r.name.size) = ((left - r.name.size : Nat) : Int) := by omega
  have n0 : 0 ≤ (left : Int) - r.name.size := by omega
  obtain ⟨l1, hl1⟩ : ∃ l1, left - r.name.size = l1 := ⟨_, rfl⟩
  rw [hl1] at e0
  have m1 : (l1 : Int) ≤ 1048576 := by omega
  have HC1 := Lib.hid (fun W (hW : Below w.heap.size w W) => sz_strsD _ r.params W l1 (h1.later hW) m1 hok.2.1.1 hok.2.1.2)
  by_cases q1 : strsB r.params ≤ l1
  case neg =>
    have HN : Hid (szR left r.bulk = -1) := Lib.hid (szR_no (by unfold Pc.bulk; omega))
    rw [szR_no q1] at HC1
    clear h1 h2 h3 hok
    go_enter Tryz.func40, Tryz.ntmps40
    go_wp2_with fail
    refine (HC1.out _ HB.out).mono ?_
    rintro e w1 ⟨rfl, rfl⟩
    go_wp2
    go_ret
    exact ⟨ret_ei HN.out, HB.out⟩
  obtain ⟨l2, hl2⟩ : ∃ l2, l1 - strsB r.params = l2 := ⟨_, rfl⟩
  rw [szR_yes q1, hl2] at HC1
  have m2 : (l2 : Int) ≤ 1048576 := by omega
  have HC2 := Lib.hid (fun W (hW : Below w.heap.size w W) => sz_strsD _ r.locals W l2 (h2.later hW) m2 hok.2.2.1.1 hok.2.2.1.2)
  by_cases q2 : strsB r.locals ≤ l2
  case neg =>
    have HN : Hid (szR left r.bulk = -1) := Lib.hid (szR_no (by unfold Pc.bulk; omega))
    rw [szR_no q2] at HC2
    clear h1 h2 h3 hok
    go_enter Tryz.func40, Tryz.ntmps40
    go_wp2_with fail
    refine (HC1.out _ HB.out).mono ?_
    rintro e w1 ⟨rfl, rfl⟩
    go_wp2_with fail
    refine (HC2.out _ HB.out).mono ?_
    rintro e w2 ⟨rfl, rfl⟩
    go_wp2
    go_ret
    exact ⟨ret_ei HN.out, HB.out⟩
  obtain ⟨l3, hl3⟩ : ∃ l3, l2 - strsB r.locals = l3 := ⟨_, rfl⟩
  rw [szR_yes q2, hl3] at HC2
  have m3 : (l3 : Int) ≤ 1048576 := by omega
  have HC3 := Lib.hid (fun W (hW : Below w.heap.size w W) => sz_tree _ r.body (Nat.le_refl _) hok.2.2.2 W _ l3 (h3.later hW) m3)
  by_cases q3 : r.body.bulk ≤ l3
  case neg =>
    have HN : Hid (szR left r.bulk = -1) := Lib.hid (szR_no (by unfold Pc.bulk; omega))
    rw [szR_no q3] at HC3
    clear h1 h2 h3 hok
    go_enter Tryz.func40, Tryz.ntmps40
    go_wp2_with fail
    refine (HC1.out _ HB.out).mono ?_
    rintro e w1 ⟨rfl, rfl⟩
    go_wp2_with fail
    refine (HC2.out _ HB.out).mono ?_
    rintro e w2 ⟨rfl, rfl⟩
    go_wp2_with fail
    refine (HC3.out _ HB.out).mono ?_
    rintro e w3 ⟨rfl, b3⟩
    have HB3 := Lib.hid (below_then HB.out b3)
    clear b3
    go_wp2
    go_ret
    exact ⟨ret_ei HN.out, HB3.out⟩
  obtain ⟨l4, hl4⟩ : ∃ l4, l3 - r.body.bulk = l4 := ⟨_, rfl⟩
  rw [szR_yes q3, hl4] at HC3
  have m4 : (l4 : Int) ≤ 1048576 := by omega
  have HN : Hid (szR left r.bulk = (l4 : Int)) := Lib.hid (by unfold Pc.bulk; rw [szR_yes (by omega)]; congr 1; omega)
  clear h1 h2 h3 hok
  go_enter Tryz.func40, Tryz.ntmps40
  go_wp2_with fail
  refine (HC1.out _ HB.out).mono ?_
  rintro e w1 ⟨rfl, rfl⟩
  go_wp2_with fail
  refine (HC2.out _ HB.out).mono ?_
  rintro e w2 ⟨rfl, rfl⟩
  go_wp2_with fail
  refine (HC3.out _ HB.out).mono ?_
  rintro e w3 ⟨rfl, b3⟩
  have HB3 := Lib.hid (below_then HB.out b3)
  clear b3
  go_wp2
  go_ret
  exact ⟨ret_ei HN.out, HB3.out⟩
theorem procB_next {ks : List Pc} {left k m : Nat} (h : m + (ks.length + wsum Pc.bulk (ks.take k)) = left) (hk : k < ks.length) (hb : ks[k].bulk ≤ m) : (m - ks[k].bulk) + (ks.length + wsum Pc.bulk (ks.take (k + 1))) = left := by
  rw [wsum_take Pc.bulk ks k hk]; omega
theorem procB_bad {ks : List Pc} {left k m : Nat} (h : m + (ks.length + wsum Pc.bulk (ks.take k)) = left) (hk : k < ks.length) (hb : ¬ ks[k].bulk ≤ m) : szR left (procsB ks) = -1 := by
  have h2 := wsum_take Pc.bulk ks k hk
  have h3 := wsum_take_le Pc.bulk ks (k + 1)
  exact szR_no (by unfold procsB; omega)
theorem procB_over {ks : List Pc} {left m : Nat} (h : m + (ks.length + wsum Pc.bulk (ks.take ks.length)) = left) : szR left (procsB ks) = (m : Int) := by
  rw [List.take_length] at h
  unfold procsB
  rw [szR_yes (by omega)]; congr 1; omega
set_option maxHeartbeats 1600000 in
theorem sz_procs (ks : List Pc) (hok : ∀ r ∈ ks, r.Ok) (hl : ks.length ≤ 9223372036854775807) (w : World) (v : Value) (left : Nat) (hk : Is w (procsD ks) v) (hs : (left : Int) ≤ 1048576) :
    Calls Tryz.prog 18 #[v, .int .i64 (left : Int)] w fun e w' => e = .returned (.int .i64 (szR left (procsB ks))) ∧ Below w.heap.size w w' := by
  obtain ⟨a, c, rfl⟩ := is_slice hk
  have HK := Lib.hid hk
  have HOK := Lib.hid hok
  clear hk hok
  by_cases h0 : ks.length ≤ left
  · have HST : Hid ((left - ks.length) + (ks.length + wsum Pc.bulk (ks.take 0)) = left) := Lib.hid (by simp [wsum]; omega)
    have e0 : ((left : Int) - ks.length) = ((left - ks.length : Nat) : Int) := by omega
    have hr0 : 0 ≤ (left : Int) - ks.length := by omega
    go_enter Tryz.func18, Tryz.ntmps18
    go_wp2
    go_loopw [1, 5] (fun m i wr => ∃ k n : Nat, i = .int .i64 k ∧ m = .int .i64 n ∧ k ≤ ks.length ∧ n ≤ left ∧ n + (ks.length + wsum Pc.bulk (ks.take k)) = left ∧ Below w.heap.size w wr) (fun _ i _ => ks.length - (intOf i).toNat)
    case atStart => exact ⟨0, left - ks.length, rfl, by rw [← e0], by omega, by omega, HST.out, Below.refl _ _⟩
    case round =>
      clear HST e0 hr0
      obtain ⟨k, n, rfl, rfl, hk, hn, hat, hb⟩ := hrel
      have HAT := Lib.hid hat
      have HB := Lib.hid hb
      have HK2 := Lib.hid (HK.out.later hb)
      clear hat hb
      by_cases hlt : k < ks.length
      · obtain ⟨g, o, rfl, ⟨q0, ⟨v1, q1, k1⟩, ⟨v2, q2, k2⟩, ⟨q3, q4, q5, q6⟩, ⟨v3, q7, k3⟩, q8⟩⟩ := proc_at HK2.out k hlt
        have HC := Lib.hid (sz_proc ks[k] (HOK.out _ (List.getElem_mem hlt)) wr v1 v2 v3 n k1 k2 k3 (by omega))
        obtain ⟨a1, c1, rfl⟩ := is_slice k1
        clear k1
        obtain ⟨a2, c2, rfl⟩ := is_slice k2
        clear k2
        obtain ⟨a3, c3, rfl⟩ := kids_len k3
        clear k3
        have k0 : (0 : Int) ≤ k := by omega
        have k1 : (k : Int) < ks.length := by omega
        by_cases hbk : ks[k].bulk ≤ n
        · have HN := Lib.hid (procB_next HAT.out hlt hbk)
          have hle : n - ks[k].bulk ≤ left := by omega
          rw [szR_yes hbk] at HC
          generalize n - ks[k].bulk = n2 at HC HN hle
          clear hbk HAT
          generalize ks[k] = x at q0 q1 q2 q3 q4 q5 q6 q7 q8 HC
          go_wp2_with (go_at_call 40; refine HC.out.mono ?_; rintro e w1 ⟨rfl, hb1⟩; have HB1 := Lib.hid (below_then HB.out hb1); clear hb1)
          go_roundw
          case rel => exact ⟨k + 1, n2, by go_num, rfl, by omega, hle, HN.out, HB1.out⟩
          case measure => first | (simp [intOf]; done) | (simp [intOf]; omega)
        · have HN := Lib.hid (procB_bad HAT.out hlt hbk)
          rw [szR_no hbk] at HC
          clear hbk HAT
          generalize ks[k] = x at q0 q1 q2 q3 q4 q5 q6 q7 q8 HC
          go_wp2_with (go_at_call 40; refine HC.out.mono ?_; rintro e w1 ⟨rfl, hb1⟩; have HB1 := Lib.hid (below_then HB.out hb1); clear hb1)
          go_ret
          exact ⟨ret_ei HN.out, HB1.out⟩
      · obtain rfl : k = ks.length := by omega
        have HN := Lib.hid (procB_over HAT.out)
        clear HAT
        go_wp2
        go_ret
        exact ⟨ret_ei HN.out, HB.out⟩
  · have HN := Lib.hid (szR_no (left := left) (b := procsB ks) (by unfold procsB; omega))
    have hlt0 : (left : Int) - ks.length < 0 := by omega
    go_enter Tryz.func18, Tryz.ntmps18
    go_wp2
    go_ret
    exact ⟨ret_ei HN.out, Below.refl _ _⟩
set_option maxHeartbeats 1600000 in
theorem sz_unit (u : Un) (hok : u.Ok) (w : World) (v1 v2 v3 : Value) (h : UnIs w u v1 v2 v3) :
    Calls Tryz.prog 5 #[unV v1 v2 v3, .int .i64 1048576] w fun e w' => e = .returned (.int .i64 (szR 1048576 u.bulk)) ∧ Below w.heap.size w w' := by
  have h1 := h.1
  have h2 := h.2.1
  have h3 := h.2.2
  obtain ⟨a1, c1, rfl⟩ := is_slice h1
  obtain ⟨a2, c2, rfl⟩ := is_slice h2
  obtain ⟨a3, c3, rfl⟩ := is_slice h3
  have HB := Lib.hid (bl1 w (.cells #[.slice a1 u.recs.length c1, .slice a2 u.globs.length c2, .slice a3 u.procs.length c3] 26))
  have HC1 := Lib.hid (sz_recs u.recs hok.1.2 hok.1.1 _ _ 1048576 (h1.later HB.out) (by decide))
  have CB := Lib.hid (Var.new w #[.slice a1 u.recs.length c1, .slice a2 u.globs.length c2, .slice a3 u.procs.length c3] 26)
  by_cases q1 : recsB u.recs ≤ 1048576
  case neg =>
    have HN : Hid (szR 1048576 u.bulk = -1) := Lib.hid (szR_no (by unfold Un.bulk; omega))
    rw [szR_no q1] at HC1
    clear h h1 h2 h3 hok
    go_enter Tryz.func5, Tryz.ntmps5
    go_wp2_with fail
    refine HC1.out.mono ?_
    rintro e w1 ⟨rfl, b1⟩
    have HB1 := Lib.hid (below_then HB.out b1)
    clear b1
    go_wp2
    go_ret
    exact ⟨ret_ei HN.out, HB1.out⟩
  obtain ⟨l1, hl1⟩ : ∃ l1, 1048576 - recsB u.recs = l1 := ⟨_, rfl⟩
  rw [szR_yes q1, hl1] at HC1
  have m1 : (l1 : Int) ≤ 1048576 := by omega
  have HC2 := Lib.hid (fun W (hW : Below w.heap.size w W) => sz_strsD _ u.globs W l1 (h2.later hW) m1 hok.2.1.1 hok.2.1.2)
  by_cases q2 : strsB u.globs ≤ l1
  case neg =>
    have HN : Hid (szR 1048576 u.bulk = -1) := Lib.hid (szR_no (by unfold Un.bulk; omega))
    rw [szR_no q2] at HC2
    clear h h1 h2 h3 hok
    go_enter Tryz.func5, Tryz.ntmps5
    go_wp2_with fail
    refine HC1.out.mono ?_
    rintro e w1 ⟨rfl, b1⟩
    have HB1 := Lib.hid (below_then HB.out b1)
    have f1 := ((CB.out.later b1) 1 _ rfl).1
    clear b1
    go_wp2_with fail
    refine (HC2.out _ HB1.out).mono ?_
    rintro e w2 ⟨rfl, rfl⟩
    go_wp2
    go_ret
    exact ⟨ret_ei HN.out, HB1.out⟩
  obtain ⟨l2, hl2⟩ : ∃ l2, l1 - strsB u.globs = l2 := ⟨_, rfl⟩
  rw [szR_yes q2, hl2] at HC2
  have m2 : (l2 : Int) ≤ 1048576 := by omega
  have HC3 := Lib.hid (fun W (hW : Below w.heap.size w W) => sz_procs u.procs hok.2.2.2 hok.2.2.1 W _ l2 (h3.later hW) m2)
  obtain ⟨z, hz⟩ : ∃ z, szR l2 (procsB u.procs) = z := ⟨_, rfl⟩
  have HN : Hid (szR 1048576 u.bulk = z) := Lib.hid (by
    rw [← hz]
    unfold Un.bulk
    rw [szR_part q1, hl1, szR_part q2, hl2])
  have hzc := szR_cases l2 (procsB u.procs)
  rw [hz] at HC3 hzc
  clear h h1 h2 h3 hok
  rcases hzc with hzc | rfl
  · obtain ⟨z0, z1⟩ := hzc
    go_enter Tryz.func5, Tryz.ntmps5
    go_wp2_with fail
    refine HC1.out.mono ?_
    rintro e w1 ⟨rfl, b1⟩
    have HB1 := Lib.hid (below_then HB.out b1)
    have f1 := ((CB.out.later b1) 1 _ rfl).1
    have f2 := ((CB.out.later b1) 2 _ rfl).1
    clear b1
    go_wp2_with fail
    refine (HC2.out _ HB1.out).mono ?_
    rintro e w2 ⟨rfl, rfl⟩
    go_wp2_with fail
    refine (HC3.out _ HB1.out).mono ?_
    rintro e w3 ⟨rfl, b3⟩
    have HB3 := Lib.hid (below_then HB1.out b3)
    clear b3
    go_wp2
    go_ret
    exact ⟨ret_ei HN.out, HB3.out⟩
  · go_enter Tryz.func5, Tryz.ntmps5
    go_wp2_with fail
    refine HC1.out.mono ?_
    rintro e w1 ⟨rfl, b1⟩
    have HB1 := Lib.hid (below_then HB.out b1)
    have f1 := ((CB.out.later b1) 1 _ rfl).1
    have f2 := ((CB.out.later b1) 2 _ rfl).1
    clear b1
    go_wp2_with fail
    refine (HC2.out _ HB1.out).mono ?_
    rintro e w2 ⟨rfl, rfl⟩
    go_wp2_with fail
    refine (HC3.out _ HB1.out).mono ?_
    rintro e w3 ⟨rfl, b3⟩
    have HB3 := Lib.hid (below_then HB1.out b3)
    clear b3
    go_wp2
    go_ret
    exact ⟨ret_ei HN.out, HB3.out⟩
end Go.Proofs.YtckjmmapekaapaaGreatDoor
