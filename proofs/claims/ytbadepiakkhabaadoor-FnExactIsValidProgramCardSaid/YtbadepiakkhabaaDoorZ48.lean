/- Joined texts: A41, A42, H6. No conditions besides those that each states. -/
import Derived.StillTailTactics
import Derived.IntWalk
import Derived.Test.YtbadepiakkhabaaDoorZ8
import Derived.Test.YtbadepiakkhabaaDoorZ19
import Derived.Test.YtbadepiakkhabaaDoorZ20
import Derived.Test.YtbadepiakkhabaaDoorZ24
import Derived.Test.YtbadepiakkhabaaDoorZ28
/- The laws' measure of routines and programs. No conditions. -/
namespace Go.Proofs.YtbadepiakkhabaaDoor
open Go.RowKit
set_option linter.unusedVariables false

set_option maxHeartbeats 1600000 in
theorem sz_ro (r : Ro) (hok : r.Ok) (w : World) (v1 v2 : Value) (left : Nat) (h1 : Is w (strsD r.slots) v1) (h2 : Cr.Kids w v2 r.body.kids) (hs : (left : Int) ≤ 1048576) :
    Calls Tryd.prog 53 #[roV r v1 v2, .int .i64 (left : Int)] w fun e w' => e = .returned (.int .i64 (szR left r.bulk)) ∧ Below w.heap.size w w' := by
  obtain ⟨a1, c1, rfl⟩ := is_slice h1
  obtain ⟨a2, c2, rfl⟩ := Cr.kids_len h2
  have HB := Lib.hid (bl1 w (.cells #[.string r.name, .int .i64 r.params, .slice a1 r.slots.length c1, .int .i64 r.body.kind, .int .i64 r.body.op, .int .i64 r.body.num, .int .i64 r.body.line, .string r.body.text, .slice a2 r.body.kids.length c2] 121))
  have z0 := hok.1
  by_cases q0 : r.name.size ≤ left
  case neg =>
    have HN : Hid (szR left r.bulk = -1) := Lib.hid (szR_no (by unfold Ro.bulk; omega))
    have x0 : (left : Int) - r.name.size < 0 := by omega
    clear h1 h2 hok
    go_enter Tryd.func53, Tryd.ntmps53
    go_wp2
    go_ret
    exact ⟨ret_ei HN.out, HB.out⟩
  have e0 : ((left : Int) - r.name.size) = ((left - r.name.size : Nat) : Int) := by omega
  have n0 : 0 ≤ (left : Int) - r.name.size := by omega
  obtain ⟨l1, hl1⟩ : ∃ l1, left - r.name.size = l1 := ⟨_, rfl⟩
  rw [hl1] at e0
  have m1 : (l1 : Int) ≤ 1048576 := by omega
  have HC1 := Lib.hid (fun W (hW : Below w.heap.size w W) => sz_strsD _ r.slots W l1 (h1.later hW) m1 hok.2.2.1.1 hok.2.2.1.2)
  by_cases q1 : strsB r.slots ≤ l1
  case neg =>
    have HN : Hid (szR left r.bulk = -1) := Lib.hid (szR_no (by unfold Ro.bulk; omega))
    rw [szR_no q1] at HC1
    clear h1 h2 hok
    go_enter Tryd.func53, Tryd.ntmps53
    go_wp2_with fail
    refine (HC1.out _ HB.out).mono ?_
    rintro e w1 ⟨rfl, rfl⟩
    go_wp2
    go_ret
    exact ⟨ret_ei HN.out, HB.out⟩
  obtain ⟨l2, hl2⟩ : ∃ l2, l1 - strsB r.slots = l2 := ⟨_, rfl⟩
  rw [szR_yes q1, hl2] at HC1
  have m2 : (l2 : Int) ≤ 1048576 := by omega
  have HC2 := Lib.hid (fun W (hW : Below w.heap.size w W) => Cr.sz_tree _ r.body (Nat.le_refl _) hok.2.2.2 W _ l2 (h2.later hW) m2)
  by_cases q2 : r.body.bulk ≤ l2
  case neg =>
    have HN : Hid (szR left r.bulk = -1) := Lib.hid (szR_no (by unfold Ro.bulk; omega))
    rw [szR_no q2] at HC2
    clear h1 h2 hok
    go_enter Tryd.func53, Tryd.ntmps53
    go_wp2_with fail
    refine (HC1.out _ HB.out).mono ?_
    rintro e w1 ⟨rfl, rfl⟩
    go_wp2_with fail
    refine (HC2.out _ HB.out).mono ?_
    rintro e w2 ⟨rfl, b2⟩
    have HB2 := Lib.hid (below_then HB.out b2)
    clear b2
    go_wp2
    go_ret
    exact ⟨ret_ei HN.out, HB2.out⟩
  obtain ⟨l3, hl3⟩ : ∃ l3, l2 - r.body.bulk = l3 := ⟨_, rfl⟩
  rw [szR_yes q2, hl3] at HC2
  have m3 : (l3 : Int) ≤ 1048576 := by omega
  have HN : Hid (szR left r.bulk = (l3 : Int)) := Lib.hid (by unfold Ro.bulk; rw [szR_yes (by omega)]; congr 1; omega)
  clear h1 h2 hok
  go_enter Tryd.func53, Tryd.ntmps53
  go_wp2_with fail
  refine (HC1.out _ HB.out).mono ?_
  rintro e w1 ⟨rfl, rfl⟩
  go_wp2_with fail
  refine (HC2.out _ HB.out).mono ?_
  rintro e w2 ⟨rfl, b2⟩
  have HB2 := Lib.hid (below_then HB.out b2)
  clear b2
  go_wp2
  go_ret
  exact ⟨ret_ei HN.out, HB2.out⟩
theorem roB_next {ks : List Ro} {left k m : Nat} (h : m + (ks.length + wsum Ro.bulk (ks.take k)) = left) (hk : k < ks.length) (hb : ks[k].bulk ≤ m) : (m - ks[k].bulk) + (ks.length + wsum Ro.bulk (ks.take (k + 1))) = left := by
  rw [wsum_take Ro.bulk ks k hk]; omega
theorem roB_bad {ks : List Ro} {left k m : Nat} (h : m + (ks.length + wsum Ro.bulk (ks.take k)) = left) (hk : k < ks.length) (hb : ¬ ks[k].bulk ≤ m) : szR left (routsB ks) = -1 := by
  have h2 := wsum_take Ro.bulk ks k hk
  have h3 := wsum_take_le Ro.bulk ks (k + 1)
  exact szR_no (by unfold routsB; omega)
theorem roB_over {ks : List Ro} {left m : Nat} (h : m + (ks.length + wsum Ro.bulk (ks.take ks.length)) = left) : szR left (routsB ks) = (m : Int) := by
  rw [List.take_length] at h
  unfold routsB
  rw [szR_yes (by omega)]; congr 1; omega
set_option maxHeartbeats 1600000 in
theorem sz_ros (ks : List Ro) (hok : ∀ r ∈ ks, r.Ok) (hl : ks.length ≤ 9223372036854775807) (w : World) (v : Value) (left : Nat) (hk : Is w (routsD ks) v) (hs : (left : Int) ≤ 1048576) :
    Calls Tryd.prog 23 #[v, .int .i64 (left : Int)] w fun e w' => e = .returned (.int .i64 (szR left (routsB ks))) ∧ Below w.heap.size w w' := by
  obtain ⟨a, c, rfl⟩ := is_slice hk
  have HK := Lib.hid hk
  have HOK := Lib.hid hok
  clear hk hok
  by_cases h0 : ks.length ≤ left
  · have HST : Hid ((left - ks.length) + (ks.length + wsum Ro.bulk (ks.take 0)) = left) := Lib.hid (by simp [wsum]; omega)
    have e0 : ((left : Int) - ks.length) = ((left - ks.length : Nat) : Int) := by omega
    have hr0 : 0 ≤ (left : Int) - ks.length := by omega
    go_enter Tryd.func23, Tryd.ntmps23
    go_wp2
    go_loopw [1, 5] (fun m i wr => ∃ k n : Nat, i = .int .i64 k ∧ m = .int .i64 n ∧ k ≤ ks.length ∧ n ≤ left ∧ n + (ks.length + wsum Ro.bulk (ks.take k)) = left ∧ Below w.heap.size w wr) (fun _ i _ => ks.length - (intOf i).toNat)
    case atStart => exact ⟨0, left - ks.length, rfl, by rw [← e0], by omega, by omega, HST.out, Below.refl _ _⟩
    case round =>
      clear HST e0 hr0
      obtain ⟨k, n, rfl, rfl, hk, hn, hat, hb⟩ := hrel
      have HAT := Lib.hid hat
      have HB := Lib.hid hb
      have HK2 := Lib.hid (HK.out.later hb)
      clear hat hb
      by_cases hlt : k < ks.length
      · obtain ⟨g, o, rfl, ⟨q0, q1, ⟨v1, q2, k1⟩, ⟨q3, q4, q5, q6, q7⟩, ⟨v2, q8, k2⟩⟩⟩ := rout_at HK2.out k hlt
        have HC := Lib.hid (sz_ro ks[k] (HOK.out _ (List.getElem_mem hlt)) wr v1 v2 n k1 k2 (by omega))
        obtain ⟨a1, c1, rfl⟩ := is_slice k1
        clear k1
        obtain ⟨a2, c2, rfl⟩ := Cr.kids_len k2
        clear k2
        have k0 : (0 : Int) ≤ k := by omega
        have k1 : (k : Int) < ks.length := by omega
        by_cases hbk : ks[k].bulk ≤ n
        · have HN := Lib.hid (roB_next HAT.out hlt hbk)
          have hle : n - ks[k].bulk ≤ left := by omega
          rw [szR_yes hbk] at HC
          generalize n - ks[k].bulk = n2 at HC HN hle
          clear hbk HAT
          generalize ks[k] = x at q0 q1 q2 q3 q4 q5 q6 q7 q8 HC
          go_wp2_with (go_at_call 53; refine HC.out.mono ?_; rintro e w1 ⟨rfl, hb1⟩; have HB1 := Lib.hid (below_then HB.out hb1); clear hb1)
          go_roundw
          case rel => exact ⟨k + 1, n2, by go_num, rfl, by omega, hle, HN.out, HB1.out⟩
          case measure => first | (simp [intOf]; done) | (simp [intOf]; omega)
        · have HN := Lib.hid (roB_bad HAT.out hlt hbk)
          rw [szR_no hbk] at HC
          clear hbk HAT
          generalize ks[k] = x at q0 q1 q2 q3 q4 q5 q6 q7 q8 HC
          go_wp2_with (go_at_call 53; refine HC.out.mono ?_; rintro e w1 ⟨rfl, hb1⟩; have HB1 := Lib.hid (below_then HB.out hb1); clear hb1)
          go_ret
          exact ⟨ret_ei HN.out, HB1.out⟩
      · obtain rfl : k = ks.length := by omega
        have HN := Lib.hid (roB_over HAT.out)
        clear HAT
        go_wp2
        go_ret
        exact ⟨ret_ei HN.out, HB.out⟩
  · have HN := Lib.hid (szR_no (left := left) (b := routsB ks) (by unfold routsB; omega))
    have hlt0 : (left : Int) - ks.length < 0 := by omega
    go_enter Tryd.func23, Tryd.ntmps23
    go_wp2
    go_ret
    exact ⟨ret_ei HN.out, Below.refl _ _⟩
set_option maxHeartbeats 1600000 in
theorem sz_prog (u : Pg) (hok : u.Ok) (w : World) (v1 v2 v3 : Value) (h : PgIs w u v1 v2 v3) :
    Calls Tryd.prog 10 #[pgV v1 v2 v3 u.main, .int .i64 1048576] w fun e w' => e = .returned (.int .i64 (szR 1048576 u.bulk)) ∧ Below w.heap.size w w' := by
  have h1 := h.1
  have h2 := h.2.1
  have h3 := h.2.2
  obtain ⟨a1, c1, rfl⟩ := is_slice h1
  obtain ⟨a2, c2, rfl⟩ := is_slice h2
  obtain ⟨a3, c3, rfl⟩ := is_slice h3
  have HB := Lib.hid (bl1 w (.cells #[.slice a1 u.routs.length c1, .slice a2 u.recs.length c2, .slice a3 u.globs.length c3, .int .i64 u.main] 37))
  have HC1 := Lib.hid (sz_ros u.routs hok.1.2 hok.1.1 _ _ 1048576 (h1.later HB.out) (by decide))
  have CB := Lib.hid (Var.new w #[.slice a1 u.routs.length c1, .slice a2 u.recs.length c2, .slice a3 u.globs.length c3, .int .i64 u.main] 37)
  by_cases q1 : routsB u.routs ≤ 1048576
  case neg =>
    have HN : Hid (szR 1048576 u.bulk = -1) := Lib.hid (szR_no (by unfold Pg.bulk; omega))
    rw [szR_no q1] at HC1
    clear h h1 h2 h3 hok
    go_enter Tryd.func10, Tryd.ntmps10
    go_wp2_with fail
    refine HC1.out.mono ?_
    rintro e w1 ⟨rfl, b1⟩
    have HB1 := Lib.hid (below_then HB.out b1)
    clear b1
    go_wp2
    go_ret
    exact ⟨ret_ei HN.out, HB1.out⟩
  obtain ⟨l1, hl1⟩ : ∃ l1, 1048576 - routsB u.routs = l1 := ⟨_, rfl⟩
  rw [szR_yes q1, hl1] at HC1
  have m1 : (l1 : Int) ≤ 1048576 := by omega
  have HC2 := Lib.hid (fun W (hW : Below w.heap.size w W) => sz_recs u.recs hok.2.1.2 hok.2.1.1 W _ l1 (h2.later hW) m1)
  by_cases q2 : recsB u.recs ≤ l1
  case neg =>
    have HN : Hid (szR 1048576 u.bulk = -1) := Lib.hid (szR_no (by unfold Pg.bulk; omega))
    rw [szR_no q2] at HC2
    clear h h1 h2 h3 hok
    go_enter Tryd.func10, Tryd.ntmps10
    go_wp2_with fail
    refine HC1.out.mono ?_
    rintro e w1 ⟨rfl, b1⟩
    have HB1 := Lib.hid (below_then HB.out b1)
    have f1 := ((CB.out.later b1) 1 _ rfl).1
    clear b1
    go_wp2_with fail
    refine (HC2.out _ HB1.out).mono ?_
    rintro e w2 ⟨rfl, b2⟩
    have HB2 := Lib.hid (below_then HB1.out b2)
    clear b2
    go_wp2
    go_ret
    exact ⟨ret_ei HN.out, HB2.out⟩
  obtain ⟨l2, hl2⟩ : ∃ l2, l1 - recsB u.recs = l2 := ⟨_, rfl⟩
  rw [szR_yes q2, hl2] at HC2
  have m2 : (l2 : Int) ≤ 1048576 := by omega
  have HC3 := Lib.hid (fun W (hW : Below w.heap.size w W) => sz_strsD _ u.globs W l2 (h3.later hW) m2 hok.2.2.1.1 hok.2.2.1.2)
  obtain ⟨z, hz⟩ : ∃ z, szR l2 (strsB u.globs) = z := ⟨_, rfl⟩
  have HN : Hid (szR 1048576 u.bulk = z) := Lib.hid (by
    rw [← hz]
    unfold Pg.bulk
    rw [szR_part q1, hl1, szR_part q2, hl2])
  have hzc := szR_cases l2 (strsB u.globs)
  rw [hz] at HC3 hzc
  clear h h1 h2 h3 hok
  rcases hzc with hzc | rfl
  · obtain ⟨z0, z1⟩ := hzc
    go_enter Tryd.func10, Tryd.ntmps10
    go_wp2_with fail
    refine HC1.out.mono ?_
    rintro e w1 ⟨rfl, b1⟩
    have HB1 := Lib.hid (below_then HB.out b1)
    have CB1 := Lib.hid (CB.out.later b1)
    have f1 := (CB1.out 1 _ rfl).1
    clear b1
    go_wp2_with fail
    refine (HC2.out _ HB1.out).mono ?_
    rintro e w2 ⟨rfl, b2⟩
    have HB2 := Lib.hid (below_then HB1.out b2)
    have f2 := ((CB1.out.later b2) 2 _ rfl).1
    clear b2 f1
    go_wp2_with fail
    refine (HC3.out _ HB2.out).mono ?_
    rintro e w3 ⟨rfl, rfl⟩
    go_wp2
    go_ret
    exact ⟨ret_ei HN.out, HB2.out⟩
  · go_enter Tryd.func10, Tryd.ntmps10
    go_wp2_with fail
    refine HC1.out.mono ?_
    rintro e w1 ⟨rfl, b1⟩
    have HB1 := Lib.hid (below_then HB.out b1)
    have CB1 := Lib.hid (CB.out.later b1)
    have f1 := (CB1.out 1 _ rfl).1
    clear b1
    go_wp2_with fail
    refine (HC2.out _ HB1.out).mono ?_
    rintro e w2 ⟨rfl, b2⟩
    have HB2 := Lib.hid (below_then HB1.out b2)
    have f2 := ((CB1.out.later b2) 2 _ rfl).1
    clear b2 f1
    go_wp2_with fail
    refine (HC3.out _ HB2.out).mono ?_
    rintro e w3 ⟨rfl, rfl⟩
    go_wp2
    go_ret
    exact ⟨ret_ei HN.out, HB2.out⟩
end Go.Proofs.YtbadepiakkhabaaDoor
/- The laws' copies of routines and programs. No conditions. -/
namespace Go.Proofs.YtbadepiakkhabaaDoor
open Go.RowKit
set_option linter.unusedVariables false

theorem own_cor {w : World} {ks : List Co.T} {v : Value} {F : List Nat} (h : Cr.OwnK w v ks F) : Own w (.cor ks) v F := by rw [Own]; exact h
theorem own_cor' {w : World} : Own w (.cor []) (.slice none 0 0) [] := by rw [Own, Cr.OwnK]; exact ⟨rfl, _, _, rfl⟩
theorem own_int2 {w : World} {n : Int} : Own w (.int n) (.int .i64 n) [] := by rw [Own]; exact ⟨rfl, rfl⟩
def OwnO (w' : World) (r : Ro) (v1 v2 : Value) (F1 F2 : List Nat) : Prop := (Own w' (strsD r.slots) v1 F1 ∧ Own w' (.cor r.body.kids) v2 F2) ∧ Apart F1 F2
def MadeO (w : World) (r : Ro) (e : Ending) (w' : World) : Prop := ∃ v1 v2 F1 F2, e = .returned (roV r v1 v2) ∧ OwnO w' r v1 v2 F1 F2 ∧ (Foot w.heap.size w' F1 ∧ Foot w.heap.size w' F2) ∧ Below w.heap.size w w'
def PgOwn (w : World) (p : Pg) (v1 v2 v3 : Value) (F1 F2 F3 : List Nat) : Prop := (Own w (routsD p.routs) v1 F1 ∧ Own w (recsD p.recs) v2 F2 ∧ Own w (strsD p.globs) v3 F3) ∧ Apart F1 F2 ∧ Apart F1 F3 ∧ Apart F2 F3
theorem PgOwn.is {w : World} {p : Pg} {v1 v2 v3 : Value} {F1 F2 F3 : List Nat} (h : PgOwn w p v1 v2 v3 F1 F2 F3) : PgIs w p v1 v2 v3 := ⟨h.1.1.is, h.1.2.1.is, h.1.2.2.is⟩
def MadeG (w : World) (u : Pg) (e : Ending) (w' : World) : Prop := ∃ v1 v2 v3 F1 F2 F3, e = .returned (pgV v1 v2 v3 u.main) ∧ PgOwn w' u v1 v2 v3 F1 F2 F3 ∧ (Foot w.heap.size w' F1 ∧ Foot w.heap.size w' F2 ∧ Foot w.heap.size w' F3) ∧ Below w.heap.size w w'

set_option maxHeartbeats 3200000 in
theorem to_ro (r : Ro) (hb : r.bulk ≤ 1048576) (w : World) (v1 v2 : Value) (h1 : Is w (strsD r.slots) v1) (h2 : Is w (.cor r.body.kids) v2) : Calls Tryd.prog 62 #[roV r v1 v2] w (MadeO w r) := by
  obtain ⟨a1, c1, rfl⟩ := is_slice h1
  obtain ⟨a2, c2, rfl⟩ := Cr.kids_len (is_cor h2)
  have hbb := hb
  unfold Ro.bulk at hbb
  have HT1 := Lib.hid (fun W (hW : Below w.heap.size w W) => to_strsD _ r.slots W (h1.later hW) (by unfold strsB at hbb; omega))
  unfold RetD at HT1
  have HT2 := Lib.hid (fun W (hW : Below w.heap.size w W) => Cr.to_tree _ r.body (Nat.le_refl _) (by omega) W _ ((is_cor h2).later hW))
  unfold Cr.RetE at HT2
  have X := Lib.hid (Vars3.start w #[.string r.name, .int .i64 r.params, .slice a1 r.slots.length c1, .int .i64 r.body.kind, .int .i64 r.body.op, .int .i64 r.body.num, .int .i64 r.body.line, .string r.body.text, .slice a2 r.body.kids.length c2] #[.string ⟨#[]⟩, .int .i64 0, .slice none 0 0, .int .i64 0, .int .i64 0, .int .i64 0, .int .i64 0, .string ⟨#[]⟩, .slice none 0 0] #[.string r.name, .int .i64 r.params, .slice none 0 0, .int .i64 0, .int .i64 0, .int .i64 0, .int .i64 0, .string ⟨#[]⟩, .slice none 0 0] 121 70 70)
  clear hbb hb h1 h2
  go_enter Tryd.func62, Tryd.ntmps62
  go_wp2_with fail
  refine (HT1.out _ X.out.2.1).mono ?_
  rintro e w1 ⟨u1, F1, rfl, o1, f1, b1⟩
  obtain ⟨z1, d1, rfl⟩ := own_slice o1
  have Y1 := Lib.hid (X.out.later b1)
  have G1 := Lib.hid (foot_le f1 X.out.2.2 (Nat.le_refl _))
  have O1 := Lib.hid o1
  clear o1 f1 b1
  have qA3_1 := (Y1.out.1.1 3 _ rfl).1
  have qA4_1 := (Y1.out.1.1 4 _ rfl).1
  have qA5_1 := (Y1.out.1.1 5 _ rfl).1
  have qA6_1 := (Y1.out.1.1 6 _ rfl).1
  have qA7_1 := (Y1.out.1.1 7 _ rfl).1
  have qA8_1 := (Y1.out.1.1 8 _ rfl).1
  have qC2_1 := (Y1.out.1.2.2 2 _ rfl).1
  have qC2_1f := (Y1.out.1.2.2 2 _ rfl).2
  have X1 := Lib.hid ((Y1.out.set 2 (.slice z1 r.slots.length d1)))
  have P1O := Lib.hid (own_low (g := w.heap.size + 1 + 1) O1.out (fun b hb => (G1.out b hb).1) (by omega) 2 (.slice z1 r.slots.length d1))
  have P1G := Lib.hid (foot_low (g := w.heap.size + 1 + 1) (j := 2) (u := .slice z1 r.slots.length d1) G1.out)
  clear O1 G1
  go_wp2_with fail
  refine (HT2.out _ X1.out.2.1).mono ?_
  rintro e w2 ⟨u2, F2, rfl, o2, f2, b2⟩
  obtain ⟨z2, d2, rfl⟩ := Cr.kids_len (Cr.OwnK.kids _ o2)
  have o2 := own_cor o2
  have Y2 := Lib.hid (X1.out.later b2)
  have G2 := Lib.hid (foot_le f2 X1.out.2.2 (Nat.le_refl _))
  have O2 := Lib.hid o2
  have A12 := Lib.hid (apart_foot P1G.out f2 (Nat.le_refl _))
  have O1 := Lib.hid (Own.later P1O.out (fun b hb => (P1G.out b hb).2) b2)
  have G1 := Lib.hid (foot_le P1G.out (Nat.le_refl _) b2.size)
  clear o2 f2 b2 P1O P1G
  clear qA3_1 qA4_1 qA5_1 qA6_1 qA7_1 qA8_1 qC2_1 qC2_1f
  have qC0_2 := (Y2.out.1.2.2 0 _ rfl).1
  have qC0_2f := (Y2.out.1.2.2 0 _ rfl).2
  have qC1_2 := (Y2.out.1.2.2 1 _ rfl).1
  have qC1_2f := (Y2.out.1.2.2 1 _ rfl).2
  have qC2_2 := (Y2.out.1.2.2 2 _ rfl).1
  have qC2_2f := (Y2.out.1.2.2 2 _ rfl).2
  have qC3_2 := (Y2.out.1.2.2 3 _ rfl).1
  have qC3_2f := (Y2.out.1.2.2 3 _ rfl).2
  have qC4_2 := (Y2.out.1.2.2 4 _ rfl).1
  have qC4_2f := (Y2.out.1.2.2 4 _ rfl).2
  have qC5_2 := (Y2.out.1.2.2 5 _ rfl).1
  have qC5_2f := (Y2.out.1.2.2 5 _ rfl).2
  have qC6_2 := (Y2.out.1.2.2 6 _ rfl).1
  have qC6_2f := (Y2.out.1.2.2 6 _ rfl).2
  have qC7_2 := (Y2.out.1.2.2 7 _ rfl).1
  have qC7_2f := (Y2.out.1.2.2 7 _ rfl).2
  have qC8_2 := (Y2.out.1.2.2 8 _ rfl).1
  have qC8_2f := (Y2.out.1.2.2 8 _ rfl).2
  have qB0_2 := (Y2.out.1.2.1 0 _ rfl).1
  have qB0_2f := (Y2.out.1.2.1 0 _ rfl).2
  have qB1_2 := (Y2.out.1.2.1 1 _ rfl).1
  have qB1_2f := (Y2.out.1.2.1 1 _ rfl).2
  have qB2_2 := (Y2.out.1.2.1 2 _ rfl).1
  have qB2_2f := (Y2.out.1.2.1 2 _ rfl).2
  have qB3_2 := (Y2.out.1.2.1 3 _ rfl).1
  have qB3_2f := (Y2.out.1.2.1 3 _ rfl).2
  have qB4_2 := (Y2.out.1.2.1 4 _ rfl).1
  have qB4_2f := (Y2.out.1.2.1 4 _ rfl).2
  have qB5_2 := (Y2.out.1.2.1 5 _ rfl).1
  have qB5_2f := (Y2.out.1.2.1 5 _ rfl).2
  have qB6_2 := (Y2.out.1.2.1 6 _ rfl).1
  have qB6_2f := (Y2.out.1.2.1 6 _ rfl).2
  have qB7_2 := (Y2.out.1.2.1 7 _ rfl).1
  have qB7_2f := (Y2.out.1.2.1 7 _ rfl).2
  have qB8_2 := (Y2.out.1.2.1 8 _ rfl).1
  have qB8_2f := (Y2.out.1.2.1 8 _ rfl).2
  go_wp2
  refine bodyPost_ret (v := roV r (.slice z1 r.slots.length d1) (.slice z2 r.body.kids.length d2)) (by simp [results, Tryd.results62, go_sem, qB0_2, qB1_2, qB2_2, qB3_2, qB4_2, qB5_2, qB6_2, qB7_2, qB8_2]) rfl ?_
  have n1 : ∀ b ∈ F1, b ≠ w.heap.size + 1 ∧ b ≠ w.heap.size + 1 + 1 := fun b hb => by have h1 := (G1.out b hb).1; omega
  have n2 : ∀ b ∈ F2, b ≠ w.heap.size + 1 ∧ b ≠ w.heap.size + 1 + 1 := fun b hb => by have h1 := (G2.out b hb).1; omega
  refine ⟨_, _, F1, F2, rfl, ⟨⟨Own.keep _ _ _ (fun b hb => by repeat (first | rw [set_keep (n1 b hb).1] | rw [set_keep (n1 b hb).2])) O1.out, Own.keep _ _ _ (fun b hb => by repeat (first | rw [set_keep (n2 b hb).1] | rw [set_keep (n2 b hb).2])) O2.out⟩, A12.out⟩, ⟨(fun b hb => ⟨by have h1 := (G1.out b hb).1; omega, by have h1 := (G1.out b hb).2; simpa [World.setCell] using h1⟩), (fun b hb => ⟨by have h1 := (G2.out b hb).1; omega, by have h1 := (G2.out b hb).2; simpa [World.setCell] using h1⟩)⟩,
    (by (repeat (refine Below.setCell ?_ (by first | exact Nat.le_succ _ | (show _ ≤ _ + 1 + 1; omega)) _)); exact Y2.out.2.1)⟩
theorem ro_els {w w2 : World} {x : Ro} {z1 z2 : Option Addr} {d1 d2 : Nat} {F1 F2 : List Nat} (o1 : OwnO w2 x (.slice z1 x.slots.length d1) (.slice z2 x.body.kids.length d2) F1 F2) (f1 : Foot w.heap.size w2 F1 ∧ Foot w.heap.size w2 F2) : (∀ e ∈ ([(.str x.name, .string x.name, []), (.int x.params, .int .i64 x.params, []), (strsD x.slots, .slice z1 x.slots.length d1, F1), (.int x.body.kind, .int .i64 x.body.kind, []), (.int x.body.op, .int .i64 x.body.op, []), (.int x.body.num, .int .i64 x.body.num, []), (.int x.body.line, .int .i64 x.body.line, []), (.str x.body.text, .string x.body.text, []), (.cor x.body.kids, .slice z2 x.body.kids.length d2, F2)] : List (D × Value × List Nat)), Own w2 e.1 e.2.1 e.2.2 ∧ ∀ b ∈ e.2.2, w.heap.size ≤ b ∧ b < w2.heap.size) ∧ ([(.str x.name, .string x.name, []), (.int x.params, .int .i64 x.params, []), (strsD x.slots, .slice z1 x.slots.length d1, F1), (.int x.body.kind, .int .i64 x.body.kind, []), (.int x.body.op, .int .i64 x.body.op, []), (.int x.body.num, .int .i64 x.body.num, []), (.int x.body.line, .int .i64 x.body.line, []), (.str x.body.text, .string x.body.text, []), (.cor x.body.kids, .slice z2 x.body.kids.length d2, F2)] : List (D × Value × List Nat)).Pairwise (fun x y => Apart x.2.2 y.2.2) := by
  constructor
  · intro e he
    simp only [List.mem_cons, List.not_mem_nil, or_false] at he
    rcases he with rfl | rfl | rfl | rfl | rfl | rfl | rfl | rfl | rfl
    · exact ⟨own_str', fun b hb => by cases hb⟩
    · exact ⟨own_int', fun b hb => by cases hb⟩
    · exact ⟨o1.1.1, f1.1⟩
    · exact ⟨own_int', fun b hb => by cases hb⟩
    · exact ⟨own_int', fun b hb => by cases hb⟩
    · exact ⟨own_int', fun b hb => by cases hb⟩
    · exact ⟨own_int', fun b hb => by cases hb⟩
    · exact ⟨own_str', fun b hb => by cases hb⟩
    · exact ⟨o1.1.2, f1.2⟩
  · simp [apart_nil, nil_apart, o1.2]
theorem info_ro : (Tryd.prog.info? 70).map (fun i => (i.zero, i.size, i.bytes)) = some (some (.agg #[.string ByteArray.empty, .int .i64 0, .slice none 0 0, .int .i64 0, .int .i64 0, .int .i64 0, .int .i64 0, .string ByteArray.empty, .slice none 0 0]), 9, 120) := by kernel_rfl
theorem zero_ro : ∀ (j : Nat) (d : D), ([.str ByteArray.empty, .int 0, .row 0 [], .int 0, .int 0, .int 0, .int 0, .str ByteArray.empty, .cor []] : List D)[j]? = some d → ∃ u : Value, (#[.string ByteArray.empty, .int .i64 0, .slice none 0 0, .int .i64 0, .int .i64 0, .int .i64 0, .int .i64 0, .string ByteArray.empty, .slice none 0 0] : Array Value)[j]? = some u ∧ ∀ W, Own W d u [] := by
  intro j d hj
  match j with
  | 0 => obtain rfl := Option.some.inj hj; exact ⟨_, rfl, fun W => own_str'⟩
  | 1 => obtain rfl := Option.some.inj hj; exact ⟨_, rfl, fun W => own_int'⟩
  | 2 => obtain rfl := Option.some.inj hj; exact ⟨_, rfl, fun W => own_nil⟩
  | 3 => obtain rfl := Option.some.inj hj; exact ⟨_, rfl, fun W => own_int'⟩
  | 4 => obtain rfl := Option.some.inj hj; exact ⟨_, rfl, fun W => own_int'⟩
  | 5 => obtain rfl := Option.some.inj hj; exact ⟨_, rfl, fun W => own_int'⟩
  | 6 => obtain rfl := Option.some.inj hj; exact ⟨_, rfl, fun W => own_int'⟩
  | 7 => obtain rfl := Option.some.inj hj; exact ⟨_, rfl, fun W => own_str'⟩
  | 8 => obtain rfl := Option.some.inj hj; exact ⟨_, rfl, fun W => own_cor'⟩
    | j + 9 => simp at hj
set_option maxRecDepth 100000 in
set_option maxHeartbeats 3200000 in
theorem to_ros (ks : List Ro) (hb : ∀ r ∈ ks, r.bulk ≤ 1048576) (hln : ks.length ≤ 1048576) (w : World) (v : Value) (hk : Is w (routsD ks) v) : Calls Tryd.prog 32 #[v] w (RetD w (routsD ks)) := by
  obtain ⟨i0, hi, hz0, hz1, hz2⟩ := info_parts info_ro
  obtain ⟨a, c, rfl⟩ := is_slice hk
  have HK := Lib.hid hk
  have HI := Lib.hid hb
  clear hk hb
  go_enter Tryd.func32, Tryd.ntmps32
  go_wp2_with (at_make; refine wpList_make_full _ rfl _ _ 40 rfl 0 70 i0 (.agg #[.string ByteArray.empty, .int .i64 0, .slice none 0 0, .int .i64 0, .int .i64 0, .int .i64 0, .int .i64 0, .string ByteArray.empty, .slice none 0 0]) 9 Tryd.underlying40 hi hz0 hz1 _ _ _ _ ks.length rfl rfl (by omega) (by omega) (by rw [hz2]; omega) (by unfold maxLen; omega) (Nat.zero_le _) ?_)
  intro w1 hown hgr
  have HST := Lib.hid (FillD.start (f := Ro.ds) (zero := [.str ByteArray.empty, .int 0, .row 0 [], .int 0, .int 0, .int 0, .int 0, .str ByteArray.empty, .cor []]) (xs := ks) rfl (by decide) rfl zero_ro hown ((Below.refl w.heap.size w).grown hgr (Nat.le_refl _) (fun k hk => by cases hk)))
  clear hown hgr
  go_wp2
  go_loopw [4] (fun i wr => ∃ k : Nat, i = .int .i64 k ∧ k ≤ ks.length ∧ FillD Ro.ds [.str ByteArray.empty, .int 0, .row 0 [], .int 0, .int 0, .int 0, .int 0, .str ByteArray.empty, .cor []] w w.heap.size ks k wr) (fun i _ => ks.length - (intOf i).toNat)
  case atStart => exact ⟨0, rfl, Nat.zero_le _, HST.out⟩
  case round =>
    clear HST
    obtain ⟨k, rfl, hk, hat⟩ := hrel
    have HAT := Lib.hid hat
    have HK2 := Lib.hid (HK.out.later hat.choose_spec.2.2.2)
    clear hat
    by_cases hlt : k < ks.length
    · obtain ⟨g, o, rfl, ⟨q0, q1, ⟨v1, q2, k1⟩, ⟨q3, q4, q5, q6, q7⟩, ⟨v2, q8, k2⟩⟩⟩ := rout_at HK2.out k hlt
      have HC := Lib.hid (to_ro ks[k] (HI.out _ (List.getElem_mem hlt)) wr v1 v2 k1 (by rw [Is]; exact k2))
      unfold MadeO at HC
      have HN := Lib.hid (fun w2 (hb2 : Below wr.heap.size wr w2) es he ho hp => HAT.out.next (w1 := w2) (z := 9) (fun _ => rfl) rfl (Nat.le_refl _) hlt hb2 es he ho hp)
      have HF := Lib.hid (fun w2 j hj hb => HAT.out.cell (w1 := w2) (z := 9) (fun _ => rfl) rfl (Nat.le_of_lt hlt) j hj hb)
      have hltz : k * 9 + 8 < ks.length * 9 := by omega
      have k0 : (0 : Int) ≤ k := by omega
      have k1' : (k : Int) < ks.length := by omega
      clear HAT 
      generalize ks[k] = x at q0 q1 q2 q3 q4 q5 q6 q7 q8 HC HN
      obtain ⟨a1, c1, rfl⟩ := is_slice k1
      obtain ⟨a2, c2, rfl⟩ := Cr.kids_len k2
      clear k1 k2
      go_wp2_with (go_at_call 62; refine HC.out.mono ?_; rintro e w2 ⟨u1, u2, F1, F2, rfl, o1, f1, hb2⟩; obtain ⟨z1, d1, rfl⟩ := own_slice o1.1.1; obtain ⟨z2, d2, rfl⟩ := Cr.kids_len (is_cor o1.1.2.is); have HN2 := Lib.hid (HN.out w2 hb2 [(.str x.name, .string x.name, []), (.int x.params, .int .i64 x.params, []), (strsD x.slots, .slice z1 x.slots.length d1, F1), (.int x.body.kind, .int .i64 x.body.kind, []), (.int x.body.op, .int .i64 x.body.op, []), (.int x.body.num, .int .i64 x.body.num, []), (.int x.body.line, .int .i64 x.body.line, []), (.str x.body.text, .string x.body.text, []), (.cor x.body.kids, .slice z2 x.body.kids.length d2, F2)] rfl (ro_els o1 f1).1 (ro_els o1 f1).2); obtain ⟨⟨e0, c0⟩, g0⟩ := HF.out w2 (k * 9) (by omega) hb2; obtain ⟨⟨e1, c1⟩, g1⟩ := HF.out w2 (k * 9 + 1) (by omega) hb2; obtain ⟨⟨e2, c2⟩, g2⟩ := HF.out w2 (k * 9 + 2) (by omega) hb2; obtain ⟨⟨e3, c3⟩, g3⟩ := HF.out w2 (k * 9 + 3) (by omega) hb2; obtain ⟨⟨e4, c4⟩, g4⟩ := HF.out w2 (k * 9 + 4) (by omega) hb2; obtain ⟨⟨e5, c5⟩, g5⟩ := HF.out w2 (k * 9 + 5) (by omega) hb2; obtain ⟨⟨e6, c6⟩, g6⟩ := HF.out w2 (k * 9 + 6) (by omega) hb2; obtain ⟨⟨e7, c7⟩, g7⟩ := HF.out w2 (k * 9 + 7) (by omega) hb2; obtain ⟨⟨e8, c8⟩, g8⟩ := HF.out w2 (k * 9 + 8) (by omega) hb2; clear hb2 o1 f1)
      go_roundw
      case rel => exact ⟨k + 1, by go_num, by omega, HN2.out⟩
      case measure => first | (simp [intOf]; done) | (simp [intOf]; omega)
    · obtain rfl : k = ks.length := by omega
      have HD := Lib.hid (HAT.out.done (cp := ks.length) (z := 9) (fun _ => rfl) (by decide) (Nat.le_refl _) (Nat.le_refl _))
      go_wp2
      go_ret
      obtain ⟨F, h1, h2, h3⟩ := HD.out
      exact ⟨_, F, rfl, h1, h2, h3⟩
set_option maxHeartbeats 3200000 in
theorem to_prog (r : Pg) (hb : r.bulk ≤ 1048576) (w : World) (v1 v2 v3 : Value) (h1 : Is w (routsD r.routs) v1) (h2 : Is w (recsD r.recs) v2) (h3 : Is w (strsD r.globs) v3) : Calls Tryd.prog 12 #[pgV v1 v2 v3 r.main] w (MadeG w r) := by
  obtain ⟨a1, c1, rfl⟩ := is_slice h1
  obtain ⟨a2, c2, rfl⟩ := is_slice h2
  obtain ⟨a3, c3, rfl⟩ := is_slice h3
  have hbb := hb
  unfold Pg.bulk routsB recsB strsB at hbb
  have HT1 := Lib.hid (fun W (hW : Below w.heap.size w W) => to_ros r.routs (fun x hx => by have := wsum_mem Ro.bulk hx; omega) (by omega) W _ (h1.later hW))
  unfold RetD at HT1
  have HT2 := Lib.hid (fun W (hW : Below w.heap.size w W) => to_recs r.recs (fun x hx => by have := wsum_mem Rc.bulk hx; omega) (by omega) W _ (h2.later hW))
  unfold RetD at HT2
  have HT3 := Lib.hid (fun W (hW : Below w.heap.size w W) => to_strsD _ r.globs W (h3.later hW) (by omega))
  unfold RetD at HT3
  have X := Lib.hid (Vars3.start w #[.slice a1 r.routs.length c1, .slice a2 r.recs.length c2, .slice a3 r.globs.length c3, .int .i64 r.main] #[.slice none 0 0, .slice none 0 0, .slice none 0 0, .int .i64 0] #[.slice none 0 0, .slice none 0 0, .slice none 0 0, .int .i64 0] 37 43 43)
  clear hbb hb h1 h2 h3
  go_enter Tryd.func12, Tryd.ntmps12
  go_wp2_with fail
  refine (HT1.out _ X.out.2.1).mono ?_
  rintro e w1 ⟨u1, F1, rfl, o1, f1, b1⟩
  obtain ⟨z1, d1, rfl⟩ := own_slice o1
  have Y1 := Lib.hid (X.out.later b1)
  have G1 := Lib.hid (foot_le f1 X.out.2.2 (Nat.le_refl _))
  have O1 := Lib.hid o1
  clear o1 f1 b1
  have qA1_1 := (Y1.out.1.1 1 _ rfl).1
  have qC0_1 := (Y1.out.1.2.2 0 _ rfl).1
  have qC0_1f := (Y1.out.1.2.2 0 _ rfl).2
  have X1 := Lib.hid ((Y1.out.set 0 (.slice z1 r.routs.length d1)))
  have P1O := Lib.hid (own_low (g := w.heap.size + 1 + 1) O1.out (fun b hb => (G1.out b hb).1) (by omega) 0 (.slice z1 r.routs.length d1))
  have P1G := Lib.hid (foot_low (g := w.heap.size + 1 + 1) (j := 0) (u := .slice z1 r.routs.length d1) G1.out)
  clear O1 G1
  go_wp2_with fail
  refine (HT2.out _ X1.out.2.1).mono ?_
  rintro e w2 ⟨u2, F2, rfl, o2, f2, b2⟩
  obtain ⟨z2, d2, rfl⟩ := own_slice o2
  have Y2 := Lib.hid (X1.out.later b2)
  have G2 := Lib.hid (foot_le f2 X1.out.2.2 (Nat.le_refl _))
  have O2 := Lib.hid o2
  have A12 := Lib.hid (apart_foot P1G.out f2 (Nat.le_refl _))
  have O1 := Lib.hid (Own.later P1O.out (fun b hb => (P1G.out b hb).2) b2)
  have G1 := Lib.hid (foot_le P1G.out (Nat.le_refl _) b2.size)
  clear o2 f2 b2 P1O P1G
  clear qA1_1 qC0_1 qC0_1f
  have qA2_2 := (Y2.out.1.1 2 _ rfl).1
  have qC1_2 := (Y2.out.1.2.2 1 _ rfl).1
  have qC1_2f := (Y2.out.1.2.2 1 _ rfl).2
  have X2 := Lib.hid ((Y2.out.set 1 (.slice z2 r.recs.length d2)))
  have P1O := Lib.hid (own_low (g := w.heap.size + 1 + 1) O1.out (fun b hb => (G1.out b hb).1) (by omega) 1 (.slice z2 r.recs.length d2))
  have P1G := Lib.hid (foot_low (g := w.heap.size + 1 + 1) (j := 1) (u := .slice z2 r.recs.length d2) G1.out)
  have P2O := Lib.hid (own_low (g := w.heap.size + 1 + 1) O2.out (fun b hb => (G2.out b hb).1) (by omega) 1 (.slice z2 r.recs.length d2))
  have P2G := Lib.hid (foot_low (g := w.heap.size + 1 + 1) (j := 1) (u := .slice z2 r.recs.length d2) G2.out)
  clear O1 G1 O2 G2
  go_wp2_with fail
  refine (HT3.out _ X2.out.2.1).mono ?_
  rintro e w3 ⟨u3, F3, rfl, o3, f3, b3⟩
  obtain ⟨z3, d3, rfl⟩ := own_slice o3
  have Y3 := Lib.hid (X2.out.later b3)
  have G3 := Lib.hid (foot_le f3 X2.out.2.2 (Nat.le_refl _))
  have O3 := Lib.hid o3
  have A13 := Lib.hid (apart_foot P1G.out f3 (Nat.le_refl _))
  have O1 := Lib.hid (Own.later P1O.out (fun b hb => (P1G.out b hb).2) b3)
  have G1 := Lib.hid (foot_le P1G.out (Nat.le_refl _) b3.size)
  have A23 := Lib.hid (apart_foot P2G.out f3 (Nat.le_refl _))
  have O2 := Lib.hid (Own.later P2O.out (fun b hb => (P2G.out b hb).2) b3)
  have G2 := Lib.hid (foot_le P2G.out (Nat.le_refl _) b3.size)
  clear o3 f3 b3 P1O P1G P2O P2G
  clear qA2_2 qC1_2 qC1_2f
  have qA3_3 := (Y3.out.1.1 3 _ rfl).1
  have qC0_3 := (Y3.out.1.2.2 0 _ rfl).1
  have qC0_3f := (Y3.out.1.2.2 0 _ rfl).2
  have qC1_3 := (Y3.out.1.2.2 1 _ rfl).1
  have qC1_3f := (Y3.out.1.2.2 1 _ rfl).2
  have qC2_3 := (Y3.out.1.2.2 2 _ rfl).1
  have qC2_3f := (Y3.out.1.2.2 2 _ rfl).2
  have qC3_3 := (Y3.out.1.2.2 3 _ rfl).1
  have qC3_3f := (Y3.out.1.2.2 3 _ rfl).2
  have qB0_3 := (Y3.out.1.2.1 0 _ rfl).1
  have qB0_3f := (Y3.out.1.2.1 0 _ rfl).2
  have qB1_3 := (Y3.out.1.2.1 1 _ rfl).1
  have qB1_3f := (Y3.out.1.2.1 1 _ rfl).2
  have qB2_3 := (Y3.out.1.2.1 2 _ rfl).1
  have qB2_3f := (Y3.out.1.2.1 2 _ rfl).2
  have qB3_3 := (Y3.out.1.2.1 3 _ rfl).1
  have qB3_3f := (Y3.out.1.2.1 3 _ rfl).2
  go_wp2
  refine bodyPost_ret (v := pgV (.slice z1 r.routs.length d1) (.slice z2 r.recs.length d2) (.slice z3 r.globs.length d3) r.main) (by simp [results, Tryd.results12, go_sem, qB0_3, qB1_3, qB2_3, qB3_3]) rfl ?_
  have n1 : ∀ b ∈ F1, b ≠ w.heap.size + 1 ∧ b ≠ w.heap.size + 1 + 1 := fun b hb => by have h1 := (G1.out b hb).1; omega
  have n2 : ∀ b ∈ F2, b ≠ w.heap.size + 1 ∧ b ≠ w.heap.size + 1 + 1 := fun b hb => by have h1 := (G2.out b hb).1; omega
  have n3 : ∀ b ∈ F3, b ≠ w.heap.size + 1 ∧ b ≠ w.heap.size + 1 + 1 := fun b hb => by have h1 := (G3.out b hb).1; omega
  refine ⟨_, _, _, F1, F2, F3, rfl, ⟨⟨Own.keep _ _ _ (fun b hb => by repeat (first | rw [set_keep (n1 b hb).1] | rw [set_keep (n1 b hb).2])) O1.out, Own.keep _ _ _ (fun b hb => by repeat (first | rw [set_keep (n2 b hb).1] | rw [set_keep (n2 b hb).2])) O2.out, Own.keep _ _ _ (fun b hb => by repeat (first | rw [set_keep (n3 b hb).1] | rw [set_keep (n3 b hb).2])) O3.out⟩, A12.out, A13.out, A23.out⟩, ⟨(fun b hb => ⟨by have h1 := (G1.out b hb).1; omega, by have h1 := (G1.out b hb).2; simpa [World.setCell] using h1⟩), (fun b hb => ⟨by have h1 := (G2.out b hb).1; omega, by have h1 := (G2.out b hb).2; simpa [World.setCell] using h1⟩), (fun b hb => ⟨by have h1 := (G3.out b hb).1; omega, by have h1 := (G3.out b hb).2; simpa [World.setCell] using h1⟩)⟩,
    (by (repeat (refine Below.setCell ?_ (by first | exact Nat.le_succ _ | (show _ ≤ _ + 1 + 1; omega)) _)); exact Y3.out.2.1)⟩
end Go.Proofs.YtbadepiakkhabaaDoor
/- The laws' comparison of a tree with itself. No conditions. -/
namespace Go.Proofs.YtbadepiakkhabaaDoor.Cr
open Go.RowKit
set_option linter.unusedVariables false

def EqT (t : Co.T) : Prop := t.bulk ≤ 1048576 → ∀ (w : World) (v1 v2 : Value), Kids w v1 t.kids → Kids w v2 t.kids → Calls Tryd.prog 104 #[exV t v1, exV t v2] w fun e w' => e = .returned (.bool true) ∧ Below w.heap.size w w'
set_option maxRecDepth 100000 in
set_option maxHeartbeats 1600000 in
theorem eq_list (ks : List Co.T) (hI : ∀ x ∈ ks, EqT x) (hl : ks.length + Co.bulks ks ≤ 1048576) (w : World) (v1 v2 : Value) (h1 : Kids w v1 ks) (h2 : Kids w v2 ks) : Calls Tryd.prog 131 #[v1, v2] w fun e w' => e = .returned (.bool true) ∧ Below w.heap.size w w' := by
  obtain ⟨a1, c1, rfl⟩ := kids_len h1
  obtain ⟨a2, c2, rfl⟩ := kids_len h2
  have H1 := Lib.hid h1
  have H2 := Lib.hid h2
  have HI := Lib.hid hI
  have HL := Lib.hid hl
  have hln : ks.length ≤ 1048576 := by omega
  clear h1 h2 hI hl
  go_enter Tryd.func131, Tryd.ntmps131
  go_wp2
  go_loopw [5] (fun i wr => ∃ k : Nat, i = .int .i64 k ∧ k ≤ ks.length ∧ Below w.heap.size w wr) (fun i _ => ks.length - (intOf i).toNat)
  case atStart => exact ⟨0, rfl, Nat.zero_le _, Below.refl _ _⟩
  case round =>
    obtain ⟨k, rfl, hk, hb⟩ := hrel
    have HB := Lib.hid hb
    have HK1 := Lib.hid (H1.out.later hb)
    have HK2 := Lib.hid (H2.out.later hb)
    clear hb
    by_cases hlt : k < ks.length
    · obtain ⟨g1, o1, rfl, ht1⟩ := kids_at HK1.out k hlt
      obtain ⟨g2, o2, rfl, ht2⟩ := kids_at HK2.out k hlt
      obtain ⟨⟨q0, q1, q2, q3, q4⟩, u1, q5, hk1⟩ := tree_cells ht1
      obtain ⟨⟨p0, p1, p2, p3, p4⟩, u2, p5, hk2⟩ := tree_cells ht2
      have hbk : ks[k].bulk ≤ 1048576 := by have h1 := Co.bulks_mem (List.getElem_mem hlt); have h2 := HL.out; omega
      have HC := Lib.hid (fun W hW => HI.out ks[k] (List.getElem_mem hlt) hbk W u1 u2 (hk1.later hW) (hk2.later hW))
      have k0 : (0 : Int) ≤ k := by omega
      have k1 : (k : Int) < ks.length := by omega
      clear ht1 ht2 hk1 hk2 hbk
      generalize ks[k] = x at q0 q1 q2 q3 q4 p0 p1 p2 p3 p4 HC
      go_wp2_with fail
      go_still_tail 8, (by kernel_rfl)
      change wpList _ _ _ _ _ wr.drew
      have HC2 := Lib.hid (HC.out wr.drew ((Below.refl _ _).drew))
      have HB2 := Lib.hid HB.out.drew
      clear q0 q1 q2 q3 q4 q5 p0 p1 p2 p3 p4 p5 HK1 HK2 HB HC
      generalize wr.drew = w5 at HC2 HB2 ⊢
      go_wp2_with (go_at_call 104; refine HC2.out.mono ?_; rintro e w6 ⟨rfl, hb6⟩; have HB6 := Lib.hid (below_then HB2.out hb6); clear hb6)
      go_roundw
      case rel => exact ⟨k + 1, by go_num, by omega, HB6.out⟩
      case measure => first | (simp [intOf]; done) | (simp [intOf]; omega)
    · obtain rfl : k = ks.length := by omega
      go_wp2
      go_ret
      exact ⟨rfl, HB.out⟩
set_option maxHeartbeats 1600000 in
theorem eq_tree : ∀ (N : Nat) (t : Co.T), t.count ≤ N → EqT t := by
  intro N
  induction N with
  | zero => intro t h; have := Co.count_pos t; omega
  | succ N ih =>
    intro t hN hbt w v1 v2 h1 h2
    have HBE := bulk_eq t
    have HL := Lib.hid (fun W hW => eq_list t.kids (fun x hx => ih x (by have := kids_count hx; omega)) (by omega) W v1 v2 (h1.later hW) (h2.later hW))
    obtain ⟨a1, c1, rfl⟩ := kids_len h1
    obtain ⟨a2, c2, rfl⟩ := kids_len h2
    have HL2 := Lib.hid (HL.out _ (Below.alloc (bl1 w (.cells #[.int .i64 t.kind, .int .i64 t.op, .int .i64 t.num, .int .i64 t.line, .string t.text, .slice a1 t.kids.length c1] 68)) (bl1 w (.cells #[.int .i64 t.kind, .int .i64 t.op, .int .i64 t.num, .int .i64 t.line, .string t.text, .slice a1 t.kids.length c1] 68)).size (.cells #[.int .i64 t.kind, .int .i64 t.op, .int .i64 t.num, .int .i64 t.line, .string t.text, .slice a2 t.kids.length c2] 68)))
    have HB := Lib.hid (Below.alloc (bl1 w (.cells #[.int .i64 t.kind, .int .i64 t.op, .int .i64 t.num, .int .i64 t.line, .string t.text, .slice a1 t.kids.length c1] 68)) (bl1 w (.cells #[.int .i64 t.kind, .int .i64 t.op, .int .i64 t.num, .int .i64 t.line, .string t.text, .slice a1 t.kids.length c1] 68)).size (.cells #[.int .i64 t.kind, .int .i64 t.op, .int .i64 t.num, .int .i64 t.line, .string t.text, .slice a2 t.kids.length c2] 68))
    clear ih hN h1 h2 HL hbt HBE
    go_enter Tryd.func104, Tryd.ntmps104
    go_wp2_with (go_at_call 131; refine HL2.out.mono ?_; rintro e w1 ⟨rfl, hb1⟩; have HB1 := Lib.hid (below_then HB.out hb1); clear hb1)
    go_ret
    exact ⟨rfl, HB1.out⟩
end Go.Proofs.YtbadepiakkhabaaDoor.Cr
