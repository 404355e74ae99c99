/- Joined texts: A26. No conditions besides those that each states. -/
import Derived.Test.YtbadepiakkhabaaDoorZ14
import Derived.Test.YtbadepiakkhabaaDoorZ24
import Derived.Test.YtbadepiakkhabaaDoorZ45
/- The reference model's IsValidProgram. No conditions. -/
namespace Go.Proofs.YtbadepiakkhabaaDoor
open Go.RowKit
set_option linter.unusedVariables false

theorem pg_rec {p : Pg} (h : p.recs.all Rc.fine = false) : p.valid = false := by unfold Pg.valid; rw [h]; simp
theorem pg_ro {p : Pg} (h : p.routs.all p.ro = false) : p.valid = false := by unfold Pg.valid; rw [h]; simp
theorem pg_top {p : Pg} (h : p.top = false) : p.valid = false := by unfold Pg.valid; rw [h]; rfl
theorem ro_no {p : Pg} {r : Ro} (h : r.head = false) : p.ro r = false := by unfold Pg.ro; rw [h]; rfl
theorem slots_no {r : Ro} (h : r.slots.all slotB = false) : r.head = false := by unfold Ro.head; rw [h]; simp
/-- A routine's nine cells. -/
abbrev roA (r : Ro) (v1 v2 : Value) : Array Value := #[.string r.name, .int .i64 r.params, v1, .int .i64 r.body.kind, .int .i64 r.body.op, .int .i64 r.body.num, .int .i64 r.body.line, .string r.body.text, v2]
/-- Nodes so far. -/
def NdAt (l : List Ro) (k m : Nat) : Prop := m = nodesN (l.take k)
theorem NdAt.next {l : List Ro} {k m : Nat} (h : NdAt l k m) (hk : k < l.length) : NdAt l (k + 1) (m + l[k].body.count) := by
  unfold NdAt nodesN at h ⊢
  rw [wsum_take (fun r : Ro => r.body.count) l k hk]; omega
theorem NdAt.over {l : List Ro} {m : Nat} (h : NdAt l l.length m) : m = nodesN l := by
  unfold NdAt at h
  rw [List.take_length] at h; exact h
theorem nodes_le {l : List Ro} : nodesN l ≤ wsum Ro.bulk l + l.length := by
  unfold nodesN
  induction l with
  | nil => simp [wsum]
  | cons r l ih =>
    rw [wsum, wsum, List.length_cons]
    have := Co.count_bulk _ r.body (Nat.le_refl _)
    have e : Ro.bulk r = r.name.size + (strsB r.slots + r.body.bulk) := rfl
    omega
theorem nodes_take {l : List Ro} (k : Nat) : nodesN (l.take k) ≤ nodesN l := wsum_take_le (fun r : Ro => r.body.count) l k

theorem main_no {p : Pg} (h : Co.inR p.main 0 ((p.routs.length : Int) - 1) = false) : p.mainB = false := by
  have h2 := of_decide_eq_false h
  unfold Pg.mainB
  by_cases h0 : 0 ≤ p.main
  · rw [List.getElem?_eq_none (by omega)]; simp
  · rw [decide_eq_false h0]; rfl
theorem main_at2 {p : Pg} {m : Nat} (hm : p.main = (m : Int)) (h : m < p.routs.length) : p.mainB = decide (p.routs[m].params = 0) := by
  unfold Pg.mainB
  rw [decide_eq_true (by omega : 0 ≤ p.main), show p.main.toNat = m by omega, List.getElem?_eq_getElem h]; rfl
theorem top_eq {p : Pg} (n1 : 1 ≤ p.routs.length) (n2 : p.routs.length ≤ 12) (n3 : p.recs.length ≤ 8) (n4 : nmOk p.globs 12 = true) : p.top = p.mainB := by
  unfold Pg.top
  rw [decide_eq_true n1, decide_eq_true n2, decide_eq_true n3, n4]; rfl
theorem sub_one {n : Nat} (h : 1 ≤ n) (h2 : n ≤ 1048576) : IntKind.i64.wrap ((n : Int) - 1) = (n : Int) - 1 := by rw [IntKind.wrap_i64]; omega
set_option maxRecDepth 100000 in
set_option maxHeartbeats 1600000 in
theorem vp_n1 (p : Pg) (hb : p.bulk ≤ 1048576) (w : World) (v1 v2 v3 : Value) (h : PgIs w p v1 v2 v3) (n1 : p.routs = []) : Calls Tryd.prog 11 #[pgV v1 v2 v3 p.main] w fun e w' => e = .returned (.bool false) ∧ Below w.heap.size w w' := by
  have h1 := h.1
  have h2 := h.2.1
  have h3 := h.2.2
  obtain ⟨a1, c1, rfl⟩ := is_slice h1
  obtain ⟨a2, c2, rfl⟩ := is_slice h2
  obtain ⟨a3, c3, rfl⟩ := is_slice h3
  have hbb := hb
  unfold Pg.bulk recsB routsB at hbb
  have l1 : p.routs.length ≤ 1048576 := by omega
  have l2 : p.recs.length ≤ 1048576 := by omega
  have hsb : strsB p.globs ≤ 1048576 := by omega
  obtain ⟨mn, hmn⟩ : ∃ mn, p.main = mn := ⟨_, rfl⟩
  rw [hmn]
  have B0 := Lib.hid (bl1 w (.cells #[.slice a1 p.routs.length c1, .slice a2 p.recs.length c2, .slice a3 p.globs.length c3, .int .i64 mn] 43))
  have V0 := Lib.hid (Var.new w #[.slice a1 p.routs.length c1, .slice a2 p.recs.length c2, .slice a3 p.globs.length c3, .int .i64 mn] 43)
  have HC := Lib.hid (spec_namesok _ p.globs 12 _ (h3.later B0.out) hsb (by decide))
  have HR := Lib.hid (fun W => Cr.spec_inr mn 0 ((p.routs.length : Int) - 1) W)
  have hl : p.routs.length = 0 := by rw [n1]; rfl
  rw [hl] at B0 HC
  try rw [hl]
  clear h h1 h2 h3 hbb hb hsb V0
  go_enter Tryd.func11, Tryd.ntmps11
  go_wp2
  go_ret
  exact ⟨rfl, B0.out⟩
set_option maxRecDepth 100000 in
set_option maxHeartbeats 1600000 in
theorem vp_n2 (p : Pg) (hb : p.bulk ≤ 1048576) (w : World) (v1 v2 v3 : Value) (h : PgIs w p v1 v2 v3) (n1 : 1 ≤ p.routs.length) (n2 : 12 < p.routs.length) : Calls Tryd.prog 11 #[pgV v1 v2 v3 p.main] w fun e w' => e = .returned (.bool false) ∧ Below w.heap.size w w' := by
  have h1 := h.1
  have h2 := h.2.1
  have h3 := h.2.2
  obtain ⟨a1, c1, rfl⟩ := is_slice h1
  obtain ⟨a2, c2, rfl⟩ := is_slice h2
  obtain ⟨a3, c3, rfl⟩ := is_slice h3
  have hbb := hb
  unfold Pg.bulk recsB routsB at hbb
  have l1 : p.routs.length ≤ 1048576 := by omega
  have l2 : p.recs.length ≤ 1048576 := by omega
  have hsb : strsB p.globs ≤ 1048576 := by omega
  obtain ⟨mn, hmn⟩ : ∃ mn, p.main = mn := ⟨_, rfl⟩
  rw [hmn]
  have B0 := Lib.hid (bl1 w (.cells #[.slice a1 p.routs.length c1, .slice a2 p.recs.length c2, .slice a3 p.globs.length c3, .int .i64 mn] 43))
  have V0 := Lib.hid (Var.new w #[.slice a1 p.routs.length c1, .slice a2 p.recs.length c2, .slice a3 p.globs.length c3, .int .i64 mn] 43)
  have HC := Lib.hid (spec_namesok _ p.globs 12 _ (h3.later B0.out) hsb (by decide))
  have HR := Lib.hid (fun W => Cr.spec_inr mn 0 ((p.routs.length : Int) - 1) W)
  have t1 : decide (12 < p.routs.length) = true := decide_eq_true n2
  have t0 : decide (p.routs.length < 1) = false := decide_eq_false (by omega)
  clear h h1 h2 h3 hbb hb hsb V0
  go_enter Tryd.func11, Tryd.ntmps11
  go_wp2
  go_ret
  exact ⟨rfl, B0.out⟩
set_option maxRecDepth 100000 in
set_option maxHeartbeats 1600000 in
theorem vp_n3 (p : Pg) (hb : p.bulk ≤ 1048576) (w : World) (v1 v2 v3 : Value) (h : PgIs w p v1 v2 v3) (n1 : 1 ≤ p.routs.length) (n2 : p.routs.length ≤ 12) (n3 : 8 < p.recs.length) : Calls Tryd.prog 11 #[pgV v1 v2 v3 p.main] w fun e w' => e = .returned (.bool false) ∧ Below w.heap.size w w' := by
  have h1 := h.1
  have h2 := h.2.1
  have h3 := h.2.2
  obtain ⟨a1, c1, rfl⟩ := is_slice h1
  obtain ⟨a2, c2, rfl⟩ := is_slice h2
  obtain ⟨a3, c3, rfl⟩ := is_slice h3
  have hbb := hb
  unfold Pg.bulk recsB routsB at hbb
  have l1 : p.routs.length ≤ 1048576 := by omega
  have l2 : p.recs.length ≤ 1048576 := by omega
  have hsb : strsB p.globs ≤ 1048576 := by omega
  obtain ⟨mn, hmn⟩ : ∃ mn, p.main = mn := ⟨_, rfl⟩
  rw [hmn]
  have B0 := Lib.hid (bl1 w (.cells #[.slice a1 p.routs.length c1, .slice a2 p.recs.length c2, .slice a3 p.globs.length c3, .int .i64 mn] 43))
  have V0 := Lib.hid (Var.new w #[.slice a1 p.routs.length c1, .slice a2 p.recs.length c2, .slice a3 p.globs.length c3, .int .i64 mn] 43)
  have HC := Lib.hid (spec_namesok _ p.globs 12 _ (h3.later B0.out) hsb (by decide))
  have HR := Lib.hid (fun W => Cr.spec_inr mn 0 ((p.routs.length : Int) - 1) W)
  have t1 : decide (12 < p.routs.length) = false := decide_eq_false (by omega)
  have t0 : decide (p.routs.length < 1) = false := decide_eq_false (by omega)
  have t2 : decide (8 < p.recs.length) = true := decide_eq_true n3
  clear h h1 h2 h3 hbb hb hsb V0
  go_enter Tryd.func11, Tryd.ntmps11
  go_wp2
  go_ret
  exact ⟨rfl, B0.out⟩
set_option maxRecDepth 100000 in
set_option maxHeartbeats 1600000 in
theorem vp_n4 (p : Pg) (hb : p.bulk ≤ 1048576) (w : World) (v1 v2 v3 : Value) (h : PgIs w p v1 v2 v3) (n1 : 1 ≤ p.routs.length) (n2 : p.routs.length ≤ 12) (n3 : p.recs.length ≤ 8) (n4 : nmOk p.globs 12 = false) : Calls Tryd.prog 11 #[pgV v1 v2 v3 p.main] w fun e w' => e = .returned (.bool false) ∧ Below w.heap.size w w' := by
  have h1 := h.1
  have h2 := h.2.1
  have h3 := h.2.2
  obtain ⟨a1, c1, rfl⟩ := is_slice h1
  obtain ⟨a2, c2, rfl⟩ := is_slice h2
  obtain ⟨a3, c3, rfl⟩ := is_slice h3
  have hbb := hb
  unfold Pg.bulk recsB routsB at hbb
  have l1 : p.routs.length ≤ 1048576 := by omega
  have l2 : p.recs.length ≤ 1048576 := by omega
  have hsb : strsB p.globs ≤ 1048576 := by omega
  obtain ⟨mn, hmn⟩ : ∃ mn, p.main = mn := ⟨_, rfl⟩
  rw [hmn]
  have B0 := Lib.hid (bl1 w (.cells #[.slice a1 p.routs.length c1, .slice a2 p.recs.length c2, .slice a3 p.globs.length c3, .int .i64 mn] 43))
  have V0 := Lib.hid (Var.new w #[.slice a1 p.routs.length c1, .slice a2 p.recs.length c2, .slice a3 p.globs.length c3, .int .i64 mn] 43)
  have HC := Lib.hid (spec_namesok _ p.globs 12 _ (h3.later B0.out) hsb (by decide))
  have HR := Lib.hid (fun W => Cr.spec_inr mn 0 ((p.routs.length : Int) - 1) W)
  have t1 : decide (12 < p.routs.length) = false := decide_eq_false (by omega)
  have t0 : decide (p.routs.length < 1) = false := decide_eq_false (by omega)
  have t2 : decide (8 < p.recs.length) = false := decide_eq_false (by omega)
  have tw := sub_one n1 (by omega)
  rw [n4] at HC
  clear h h1 h2 h3 hbb hb hsb
  go_enter Tryd.func11, Tryd.ntmps11
  go_wp2_with fail
  refine (HC.out).mono ?_
  rintro e w1 ⟨rfl, b1⟩
  have B1 := Lib.hid (below_then B0.out b1)
  have V1 := Lib.hid (V0.out.later b1)
  have f0 := (V1.out 0 _ rfl).1
  have f1 := (V1.out 1 _ rfl).1
  have f2 := (V1.out 2 _ rfl).1
  have f3 := (V1.out 3 _ rfl).1
  clear b1 V0
  go_wp2
  go_ret
  exact ⟨rfl, B1.out⟩
set_option maxRecDepth 100000 in
set_option maxHeartbeats 1600000 in
theorem vp_n5 (p : Pg) (hb : p.bulk ≤ 1048576) (w : World) (v1 v2 v3 : Value) (h : PgIs w p v1 v2 v3) (n1 : 1 ≤ p.routs.length) (n2 : p.routs.length ≤ 12) (n3 : p.recs.length ≤ 8) (n4 : nmOk p.globs 12 = true) (n5 : Co.inR p.main 0 ((p.routs.length : Int) - 1) = false) : Calls Tryd.prog 11 #[pgV v1 v2 v3 p.main] w fun e w' => e = .returned (.bool false) ∧ Below w.heap.size w w' := by
  have h1 := h.1
  have h2 := h.2.1
  have h3 := h.2.2
  obtain ⟨a1, c1, rfl⟩ := is_slice h1
  obtain ⟨a2, c2, rfl⟩ := is_slice h2
  obtain ⟨a3, c3, rfl⟩ := is_slice h3
  have hbb := hb
  unfold Pg.bulk recsB routsB at hbb
  have l1 : p.routs.length ≤ 1048576 := by omega
  have l2 : p.recs.length ≤ 1048576 := by omega
  have hsb : strsB p.globs ≤ 1048576 := by omega
  obtain ⟨mn, hmn⟩ : ∃ mn, p.main = mn := ⟨_, rfl⟩
  rw [hmn]
  have B0 := Lib.hid (bl1 w (.cells #[.slice a1 p.routs.length c1, .slice a2 p.recs.length c2, .slice a3 p.globs.length c3, .int .i64 mn] 43))
  have V0 := Lib.hid (Var.new w #[.slice a1 p.routs.length c1, .slice a2 p.recs.length c2, .slice a3 p.globs.length c3, .int .i64 mn] 43)
  have HC := Lib.hid (spec_namesok _ p.globs 12 _ (h3.later B0.out) hsb (by decide))
  have HR := Lib.hid (fun W => Cr.spec_inr mn 0 ((p.routs.length : Int) - 1) W)
  have t1 : decide (12 < p.routs.length) = false := decide_eq_false (by omega)
  have t0 : decide (p.routs.length < 1) = false := decide_eq_false (by omega)
  have t2 : decide (8 < p.recs.length) = false := decide_eq_false (by omega)
  have tw := sub_one n1 (by omega)
  rw [n4] at HC
  rw [hmn] at n5
  rw [n5] at HR
  clear h h1 h2 h3 hbb hb hsb hmn
  go_enter Tryd.func11, Tryd.ntmps11
  go_wp2_with fail
  refine (HC.out).mono ?_
  rintro e w1 ⟨rfl, b1⟩
  have B1 := Lib.hid (below_then B0.out b1)
  have V1 := Lib.hid (V0.out.later b1)
  have f0 := (V1.out 0 _ rfl).1
  have f1 := (V1.out 1 _ rfl).1
  have f2 := (V1.out 2 _ rfl).1
  have f3 := (V1.out 3 _ rfl).1
  clear b1 V0
  go_wp2_with fail
  refine (HR.out _).mono ?_
  rintro e w2 ⟨rfl, rfl⟩
  go_wp2
  go_ret
  exact ⟨rfl, B1.out⟩
set_option maxRecDepth 100000 in
set_option maxHeartbeats 1600000 in
theorem vp_n6 (p : Pg) (hb : p.bulk ≤ 1048576) (w : World) (v1 v2 v3 : Value) (h : PgIs w p v1 v2 v3) (n1 : 1 ≤ p.routs.length) (n2 : p.routs.length ≤ 12) (n3 : p.recs.length ≤ 8) (n4 : nmOk p.globs 12 = true) (m : Nat) (hmn : p.main = (m : Int)) (hm : m < p.routs.length) (n6 : (p.routs[m].params != 0) = true) : Calls Tryd.prog 11 #[pgV v1 v2 v3 p.main] w fun e w' => e = .returned (.bool false) ∧ Below w.heap.size w w' := by
  have h1 := h.1
  have h2 := h.2.1
  have h3 := h.2.2
  obtain ⟨a1, c1, rfl⟩ := is_slice h1
  obtain ⟨a2, c2, rfl⟩ := is_slice h2
  obtain ⟨a3, c3, rfl⟩ := is_slice h3
  have hbb := hb
  unfold Pg.bulk recsB routsB at hbb
  have l1 : p.routs.length ≤ 1048576 := by omega
  have l2 : p.recs.length ≤ 1048576 := by omega
  have hsb : strsB p.globs ≤ 1048576 := by omega
  rw [hmn]
  have B0 := Lib.hid (bl1 w (.cells #[.slice a1 p.routs.length c1, .slice a2 p.recs.length c2, .slice a3 p.globs.length c3, .int .i64 (m : Int)] 43))
  have V0 := Lib.hid (Var.new w #[.slice a1 p.routs.length c1, .slice a2 p.recs.length c2, .slice a3 p.globs.length c3, .int .i64 (m : Int)] 43)
  have HC := Lib.hid (spec_namesok _ p.globs 12 _ (h3.later B0.out) hsb (by decide))
  have HR := Lib.hid (fun W => Cr.spec_inr (m : Int) 0 ((p.routs.length : Int) - 1) W)
  have t1 : decide (12 < p.routs.length) = false := decide_eq_false (by omega)
  have t0 : decide (p.routs.length < 1) = false := decide_eq_false (by omega)
  have t2 : decide (8 < p.recs.length) = false := decide_eq_false (by omega)
  have tw := sub_one n1 (by omega)
  rw [n4] at HC
  obtain ⟨g0, o0, ha0, q0, q1, ⟨y1, q2, k1⟩, ⟨q3, q4, q5, q6, q7⟩, ⟨y2, q8, k2⟩⟩ := rout_at h1 m hm
  have HQ1 : Hid (∀ W, Below w.heap.size w W → W.cell? ⟨g0, o0 + m * 9 + 1, none⟩ = some (.int .i64 p.routs[m].params)) := Lib.hid (fun W hW => subw_below hW _ _ _ q1)
  have HA0 := Lib.hid ha0
  have m0 : (0 : Int) ≤ (m : Int) := by omega
  have m1 : (m : Int) < (p.routs.length : Int) := by omega
  have n5 : Co.inR (m : Int) 0 ((p.routs.length : Int) - 1) = true := decide_eq_true (by omega)
  rw [n5] at HR
  clear ha0 q0 q1 q2 q3 q4 q5 q6 q7 q8 k1 k2 n5
  generalize p.routs[m].params = pm at HQ1 n6
  clear h h1 h2 h3 hbb hb hsb hmn hm
  go_enter Tryd.func11, Tryd.ntmps11
  go_wp2_with fail
  refine (HC.out).mono ?_
  rintro e w1 ⟨rfl, b1⟩
  have B1 := Lib.hid (below_then B0.out b1)
  have V1 := Lib.hid (V0.out.later b1)
  have f0 := (V1.out 0 _ rfl).1
  have f1 := (V1.out 1 _ rfl).1
  have f2 := (V1.out 2 _ rfl).1
  have f3 := (V1.out 3 _ rfl).1
  clear b1 V0
  go_wp2_with fail
  refine (HR.out _).mono ?_
  rintro e w2 ⟨rfl, rfl⟩
  have ha0 := HA0.out
  subst ha0
  have q1 := HQ1.out _ B1.out
  go_wp2
  go_ret
  exact ⟨rfl, B1.out⟩
set_option maxRecDepth 100000 in
set_option maxHeartbeats 6400000 in
theorem vp_run (p : Pg) (hb : p.bulk ≤ 1048576) (w : World) (v1 v2 v3 : Value) (h : PgIs w p v1 v2 v3) (n1 : 1 ≤ p.routs.length) (n2 : p.routs.length ≤ 12) (n3 : p.recs.length ≤ 8) (n4 : nmOk p.globs 12 = true) (m : Nat) (hmn : p.main = (m : Int)) (hm : m < p.routs.length) (n6 : (p.routs[m].params != 0) = false) : Calls Tryd.prog 11 #[pgV v1 v2 v3 p.main] w fun e w' => e = .returned (.bool (p.recs.all Rc.fine && (p.routs.all p.ro && decide (nodesN p.routs ≤ 40000)))) ∧ Below w.heap.size w w' := by
  have h1 := h.1
  have h2 := h.2.1
  have h3 := h.2.2
  obtain ⟨a1, c1, rfl⟩ := is_slice h1
  obtain ⟨a2, c2, rfl⟩ := is_slice h2
  obtain ⟨a3, c3, rfl⟩ := is_slice h3
  have hbb := hb
  unfold Pg.bulk recsB routsB at hbb
  have l1 : p.routs.length ≤ 1048576 := by omega
  have l2 : p.recs.length ≤ 1048576 := by omega
  have hsb : strsB p.globs ≤ 1048576 := by omega
  rw [hmn]
  have B0 := Lib.hid (bl1 w (.cells #[.slice a1 p.routs.length c1, .slice a2 p.recs.length c2, .slice a3 p.globs.length c3, .int .i64 (m : Int)] 43))
  have V0 := Lib.hid (Var.new w #[.slice a1 p.routs.length c1, .slice a2 p.recs.length c2, .slice a3 p.globs.length c3, .int .i64 (m : Int)] 43)
  have HC := Lib.hid (spec_namesok _ p.globs 12 _ (h3.later B0.out) hsb (by decide))
  have HR := Lib.hid (fun W => Cr.spec_inr (m : Int) 0 ((p.routs.length : Int) - 1) W)
  have t1 : decide (12 < p.routs.length) = false := decide_eq_false (by omega)
  have t0 : decide (p.routs.length < 1) = false := decide_eq_false (by omega)
  have t2 : decide (8 < p.recs.length) = false := decide_eq_false (by omega)
  have tw := sub_one n1 (by omega)
  rw [n4] at HC
  obtain ⟨g0, o0, ha0, q0, q1, ⟨y1, q2, k1⟩, ⟨q3, q4, q5, q6, q7⟩, ⟨y2, q8, k2⟩⟩ := rout_at h1 m hm
  have HQ1 : Hid (∀ W, Below w.heap.size w W → W.cell? ⟨g0, o0 + m * 9 + 1, none⟩ = some (.int .i64 p.routs[m].params)) := Lib.hid (fun W hW => subw_below hW _ _ _ q1)
  have HA0 := Lib.hid ha0
  have m0 : (0 : Int) ≤ (m : Int) := by omega
  have m1 : (m : Int) < (p.routs.length : Int) := by omega
  have n5 : Co.inR (m : Int) 0 ((p.routs.length : Int) - 1) = true := decide_eq_true (by omega)
  rw [n5] at HR
  clear ha0 q0 q1 q2 q3 q4 q5 q6 q7 q8 k1 k2 n5
  generalize p.routs[m].params = pm at HQ1 n6
  have H1 := Lib.hid h1
  have H2 := Lib.hid h2
  have hglb : strsB p.globs ≤ 1048576 := hsb
  have HBU : Hid (wsum Rc.bulk p.recs ≤ 1048576 ∧ wsum Ro.bulk p.routs ≤ 1048576) := Lib.hid (by omega)
  have HNR := Lib.hid (fun (h : p.recs.all Rc.fine = false) => show (p.recs.all Rc.fine && (p.routs.all p.ro && decide (nodesN p.routs ≤ 40000))) = false by rw [h]; rfl)
  have HNP := Lib.hid (fun (h : p.routs.all p.ro = false) => show (p.recs.all Rc.fine && (p.routs.all p.ro && decide (nodesN p.routs ≤ 40000))) = false by rw [h]; simp)
  have HYE := Lib.hid (fun (h : p.recs.all Rc.fine = true) (h2 : p.routs.all p.ro = true) => show (p.recs.all Rc.fine && (p.routs.all p.ro && decide (nodesN p.routs ≤ 40000))) = decide (nodesN p.routs ≤ 40000) by rw [h, h2]; rfl)
  generalize (p.recs.all Rc.fine && (p.routs.all p.ro && decide (nodesN p.routs ≤ 40000))) = res at HNR HNP HYE ⊢
  clear h h1 h2 h3 hbb hb hsb hmn hm
  go_enter Tryd.func11, Tryd.ntmps11
  go_wp2_with fail
  refine (HC.out).mono ?_
  rintro e w1 ⟨rfl, b1⟩
  have B1 := Lib.hid (below_then B0.out b1)
  have V1 := Lib.hid (V0.out.later b1)
  have f0 := (V1.out 0 _ rfl).1
  have f1 := (V1.out 1 _ rfl).1
  have f2 := (V1.out 2 _ rfl).1
  have f3 := (V1.out 3 _ rfl).1
  clear b1 V0
  go_wp2_with fail
  refine (HR.out _).mono ?_
  rintro e w2 ⟨rfl, rfl⟩
  have ha0 := HA0.out
  have q1 := HQ1.out _ B1.out
  subst ha0
  go_wp2
  go_loopw [3, 4] (fun i rv wr => ∃ k : Nat, i = .int .i64 k ∧ k ≤ p.recs.length ∧ (p.recs.take k).all Rc.fine = true ∧ Below w.heap.size w wr ∧ Var wr w.heap.size [.slice (some ⟨g0, o0, none⟩) p.routs.length c1, .slice a2 p.recs.length c2, .slice a3 p.globs.length c3, .int .i64 (m : Int)]) (fun i _ _ => p.recs.length - (intOf i).toNat)
  case atStart => exact ⟨0, rfl, Nat.zero_le _, rfl, B1.out, V1.out⟩
  case round =>
    clear f0 f1 f2 f3 B1 V1 q1 HQ1 HA0
    obtain ⟨k, rfl, hk, hall, hb, hv⟩ := hrel
    have HA := Lib.hid hall
    have HB := Lib.hid hb
    have HV := Lib.hid hv
    have x1 := (hv 1 _ rfl).1
    by_cases hlt : k < p.recs.length
    · obtain ⟨g, o, rfl, ⟨q0, ⟨y3, q1, k1⟩, q2⟩⟩ := rec_at (H2.out.later hb) k hlt
      have hbx : p.recs[k].bulk ≤ 1048576 := by have := wsum_mem Rc.bulk (List.getElem_mem hlt); have := HBU.out.1; omega
      have HY := Lib.hid (fun h => all_take Rc.fine p.recs k hlt HA.out h)
      have HNO := Lib.hid (fun h => HNR.out (all_no Rc.fine p.recs k hlt h))
      clear hall hb hv
      generalize p.recs[k] = x at hbx HY HNO q0 q1 q2 k1
      unfold Rc.bulk at hbx
      obtain ⟨e1, d1, rfl⟩ := is_slice k1
      have hnx : (x.name.size : Int) ≤ 1048576 := by omega
      have HBX := Lib.hid hbx
      have hfl : (x.fields.length : Int) ≤ 1048576 := by unfold strsB at hbx; omega
      have K1 := Lib.hid k1
      have bA := bl1 wr (.cells #[.string x.name, .slice e1 x.fields.length d1, .int .i64 x.line] 72)
      have VA := Lib.hid (Var.new wr #[.string x.name, .slice e1 x.fields.length d1, .int .i64 x.line] 72)
      have BA := Lib.hid bA
      clear bA hbx k1
      cases h0 : nmB x.name
      case false =>
        have HN := Lib.hid (HNO.out (by unfold Rc.fine; rw [h0]; rfl))
        go_wp2_with fail
        refine (spec_nm h0 _ hnx).mono ?_
        rintro e w1 ⟨rfl, b1⟩
        have B1 := Lib.hid (below_then BA.out b1)
        have V1 := Lib.hid (VA.out.later b1)
        have f0 := (V1.out 0 _ rfl).1
        have f1 := (V1.out 1 _ rfl).1
        have f2 := (V1.out 2 _ rfl).1
        clear b1
        have BW := Lib.hid (HB.out.trans (Below.mono B1.out HB.out.size))
        have VW := Lib.hid (HV.out.later B1.out)
        go_wp2
        go_ret
        exact ⟨ret_eb HN.out, BW.out⟩
      cases h1 : nmOk x.fields 6
      case false =>
        have HN := Lib.hid (HNO.out (by unfold Rc.fine; rw [h0, h1]; rfl))
        go_wp2_with fail
        refine (spec_nm h0 _ hnx).mono ?_
        rintro e w1 ⟨rfl, b1⟩
        have B1 := Lib.hid (below_then BA.out b1)
        have V1 := Lib.hid (VA.out.later b1)
        have f0 := (V1.out 0 _ rfl).1
        have f1 := (V1.out 1 _ rfl).1
        have f2 := (V1.out 2 _ rfl).1
        clear b1
        go_wp2_with fail
        refine (spec_nok h1 _ _ (K1.out.later B1.out) (by have := HBX.out; omega) (by decide)).mono ?_
        rintro e w2 ⟨rfl, b2⟩
        have B2 := Lib.hid (below_then B1.out b2)
        have V2 := Lib.hid (V1.out.later b2)
        clear f0 f1 f2
        have f0 := (V2.out 0 _ rfl).1
        have f1 := (V2.out 1 _ rfl).1
        have f2 := (V2.out 2 _ rfl).1
        clear b2
        have BW := Lib.hid (HB.out.trans (Below.mono B2.out HB.out.size))
        have VW := Lib.hid (HV.out.later B2.out)
        go_wp2
        go_ret
        exact ⟨ret_eb HN.out, BW.out⟩
      cases h2 : twice x.fields
      case true =>
        have HN := Lib.hid (HNO.out (by unfold Rc.fine; rw [h0, h1, h2]; rfl))
        go_wp2_with fail
        refine (spec_nm h0 _ hnx).mono ?_
        rintro e w1 ⟨rfl, b1⟩
        have B1 := Lib.hid (below_then BA.out b1)
        have V1 := Lib.hid (VA.out.later b1)
        have f0 := (V1.out 0 _ rfl).1
        have f1 := (V1.out 1 _ rfl).1
        have f2 := (V1.out 2 _ rfl).1
        clear b1
        go_wp2_with fail
        refine (spec_nok h1 _ _ (K1.out.later B1.out) (by have := HBX.out; omega) (by decide)).mono ?_
        rintro e w2 ⟨rfl, b2⟩
        have B2 := Lib.hid (below_then B1.out b2)
        have V2 := Lib.hid (V1.out.later b2)
        clear f0 f1 f2
        have f0 := (V2.out 0 _ rfl).1
        have f1 := (V2.out 1 _ rfl).1
        have f2 := (V2.out 2 _ rfl).1
        clear b2
        go_wp2_with fail
        have hT := spec_twice _ x.fields _ (K1.out.later B2.out) hfl
        rw [h2] at hT
        refine hT.mono ?_
        clear hT
        rintro e w3 ⟨rfl, rfl⟩
        have BW := Lib.hid (HB.out.trans (Below.mono B2.out HB.out.size))
        have VW := Lib.hid (HV.out.later B2.out)
        go_wp2
        go_ret
        exact ⟨ret_eb HN.out, BW.out⟩
      by_cases p3 : 0 ≤ x.line
      case neg =>
        have HN := Lib.hid (HNO.out (by unfold Rc.fine; rw [h0, h1, h2, decide_eq_false p3]; rfl))
        have g3 : x.line < 0 := by omega
        go_wp2_with fail
        refine (spec_nm h0 _ hnx).mono ?_
        rintro e w1 ⟨rfl, b1⟩
        have B1 := Lib.hid (below_then BA.out b1)
        have V1 := Lib.hid (VA.out.later b1)
        have f0 := (V1.out 0 _ rfl).1
        have f1 := (V1.out 1 _ rfl).1
        have f2 := (V1.out 2 _ rfl).1
        clear b1
        go_wp2_with fail
        refine (spec_nok h1 _ _ (K1.out.later B1.out) (by have := HBX.out; omega) (by decide)).mono ?_
        rintro e w2 ⟨rfl, b2⟩
        have B2 := Lib.hid (below_then B1.out b2)
        have V2 := Lib.hid (V1.out.later b2)
        clear f0 f1 f2
        have f0 := (V2.out 0 _ rfl).1
        have f1 := (V2.out 1 _ rfl).1
        have f2 := (V2.out 2 _ rfl).1
        clear b2
        go_wp2_with fail
        have hT := spec_twice _ x.fields _ (K1.out.later B2.out) hfl
        rw [h2] at hT
        refine hT.mono ?_
        clear hT
        rintro e w3 ⟨rfl, rfl⟩
        have BW := Lib.hid (HB.out.trans (Below.mono B2.out HB.out.size))
        have VW := Lib.hid (HV.out.later B2.out)
        go_wp2
        go_ret
        exact ⟨ret_eb HN.out, BW.out⟩
      have g3 : ¬ x.line < 0 := by omega
      have HN := Lib.hid (HY.out (by unfold Rc.fine; rw [h0, h1, h2, decide_eq_true p3]; rfl))
      go_wp2_with fail
      refine (spec_nm h0 _ hnx).mono ?_
      rintro e w1 ⟨rfl, b1⟩
      have B1 := Lib.hid (below_then BA.out b1)
      have V1 := Lib.hid (VA.out.later b1)
      have f0 := (V1.out 0 _ rfl).1
      have f1 := (V1.out 1 _ rfl).1
      have f2 := (V1.out 2 _ rfl).1
      clear b1
      go_wp2_with fail
      refine (spec_nok h1 _ _ (K1.out.later B1.out) (by have := HBX.out; omega) (by decide)).mono ?_
      rintro e w2 ⟨rfl, b2⟩
      have B2 := Lib.hid (below_then B1.out b2)
      have V2 := Lib.hid (V1.out.later b2)
      clear f0 f1 f2
      have f0 := (V2.out 0 _ rfl).1
      have f1 := (V2.out 1 _ rfl).1
      have f2 := (V2.out 2 _ rfl).1
      clear b2
      go_wp2_with fail
      have hT := spec_twice _ x.fields _ (K1.out.later B2.out) hfl
      rw [h2] at hT
      refine hT.mono ?_
      clear hT
      rintro e w3 ⟨rfl, rfl⟩
      have BW := Lib.hid (HB.out.trans (Below.mono B2.out HB.out.size))
      have VW := Lib.hid (HV.out.later B2.out)
      go_wp2
      go_roundw
      case rel => exact ⟨k + 1, by go_num, by omega, HN.out, BW.out, VW.out⟩
      case measure => first | (simp [intOf]; done) | (simp [intOf]; omega)
    · obtain rfl : k = p.recs.length := by omega
      have HAR := Lib.hid (all_end _ _ hall)
      have HB0 := Lib.hid hb
      have HV0 := Lib.hid hv
      clear hall hb hv HA HB HV
      go_wp2
      go_loopw [5, 6, 7, 8] (fun s5 i s7 s8 wr => ∃ k n : Nat, i = .int .i64 k ∧ s5 = .int .i64 n ∧ k ≤ p.routs.length ∧ (p.routs.take k).all p.ro = true ∧ NdAt p.routs k n ∧ Below w.heap.size w wr ∧ Var wr w.heap.size [.slice (some ⟨g0, o0, none⟩) p.routs.length c1, .slice a2 p.recs.length c2, .slice a3 p.globs.length c3, .int .i64 (m : Int)]) (fun _ i _ _ _ => p.routs.length - (intOf i).toNat)
      case atStart => exact ⟨0, 0, rfl, rfl, Nat.zero_le _, rfl, by unfold NdAt nodesN; simp [wsum], HB0.out, HV0.out⟩
      case round =>
        clear x1 HB0 HV0
        obtain ⟨k, n, rfl, rfl, hk, hall, hnd, hb, hv⟩ := hrel
        have HA := Lib.hid hall
        have HND := Lib.hid hnd
        have HB := Lib.hid hb
        have HV := Lib.hid hv
        have x0 := (hv 0 _ rfl).1
        have hnn : (n : Int) ≤ 3000000 := by
          have h1 := nodes_take (l := p.routs) k
          have h2 := nodes_le (l := p.routs)
          have h3 := HBU.out.2
          unfold NdAt at hnd
          omega
        by_cases hlt : k < p.routs.length
        · obtain ⟨g, o, hgo, q0, q1, ⟨y1, q2, k1⟩, ⟨q3, q4, q5, q6, q7⟩, ⟨y2, q8, k2⟩⟩ := rout_at (H1.out.later hb) k hlt
          obtain ⟨rfl, rfl⟩ : g0 = g ∧ o0 = o := by
            injection hgo with h1
            injection h1 with h2 h3
            exact ⟨h2, h3⟩
          clear hgo
          have hbx : p.routs[k].bulk ≤ 1048576 := by have := wsum_mem Ro.bulk (List.getElem_mem hlt); have := HBU.out.2; omega
          have HY := Lib.hid (fun h => all_take p.ro p.routs k hlt HA.out h)
          have HNO := Lib.hid (fun h => HNP.out (all_no p.ro p.routs k hlt h))
          have HNN := Lib.hid (HND.out.next hlt)
          have k0 : (0 : Int) ≤ k := by omega
          have k3 : (k : Int) < p.routs.length := by omega
          clear hall hb hv hnd
          generalize p.routs[k] = x at hbx HY HNO HNN q0 q1 q2 q3 q4 q5 q6 q7 q8 k1 k2
          unfold Ro.bulk at hbx
          obtain ⟨e1, d1, rfl⟩ := is_slice k1
          obtain ⟨e2, d2, rfl⟩ := Cr.kids_len k2
          have hnx : (x.name.size : Int) ≤ 1048576 := by omega
          have hsl : (x.slots.length : Int) ≤ 1048576 := by unfold strsB at hbx; omega
          have HZS := Lib.hid (str_bound (l := x.slots) (by omega))
          have hcx : (x.body.count : Int) ≤ 1048577 := by have := Co.count_bulk _ x.body (Nat.le_refl _); omega
          have K1 := Lib.hid k1
          have K2 := Lib.hid k2
          have bA := bl1 wr (.cells #[.string x.name, .int .i64 x.params, .slice e1 x.slots.length d1, .int .i64 x.body.kind, .int .i64 x.body.op, .int .i64 x.body.num, .int .i64 x.body.line, .string x.body.text, .slice e2 x.body.kids.length d2] 70)
          have VA := Lib.hid (Var.new wr #[.string x.name, .int .i64 x.params, .slice e1 x.slots.length d1, .int .i64 x.body.kind, .int .i64 x.body.op, .int .i64 x.body.num, .int .i64 x.body.line, .string x.body.text, .slice e2 x.body.kids.length d2] 70)
          have BA := Lib.hid bA
          have HVL := Lib.hid (fun W hW => Cr.spec_val (some ⟨g0, o0, none⟩) a2 a3 p.routs.length p.recs.length p.globs.length c1 c2 c3 (m : Int) (x.slots.length : Int) (by omega) (by omega) (by unfold strsB at hglb; omega) (by omega) hsl _ x.body (Nat.le_refl _) (by omega) false false 1 (by decide) (by decide) W _ (k2.later hW))
          unfold Cr.RetV at HVL
          have HCN := Lib.hid (fun W hW => Cr.spec_count _ x.body (Nat.le_refl _) (by omega) W _ (k2.later hW))
          clear bA hbx k1 k2
          have HSZ : Hid (wr.heap.size < wr.heap.size + 1) := Lib.hid (Nat.lt_succ_self _)
          have PN := Lib.hid (spec_nm (s := x.name) (b := nmB x.name) rfl (wr.alloc (.cells #[.string x.name, .int .i64 x.params, .slice e1 x.slots.length d1, .int .i64 x.body.kind, .int .i64 x.body.op, .int .i64 x.body.num, .int .i64 x.body.line, .string x.body.text, .slice e2 x.body.kids.length d2] 70)) hnx)
          cases h0 : nmB x.name
          case false =>
            rw [h0] at PN
            have HN := Lib.hid (HNO.out (ro_no (by unfold Ro.head; rw [h0]; rfl)))
            go_wp2_with fail
            refine (PN.out).mono ?_
            rintro e w1 ⟨rfl, b1⟩
            have B1 := Lib.hid (below_then BA.out b1)
            have V1 := Lib.hid (VA.out.later b1)
            have r0 := (V1.out 0 _ rfl).1
            have r1 := (V1.out 1 _ rfl).1
            have r2 := (V1.out 2 _ rfl).1
            have r3 := (V1.out 3 _ rfl).1
            have r4 := (V1.out 4 _ rfl).1
            have r5 := (V1.out 5 _ rfl).1
            have r6 := (V1.out 6 _ rfl).1
            have r7 := (V1.out 7 _ rfl).1
            have r8 := (V1.out 8 _ rfl).1
            clear b1
            have BW := Lib.hid (HB.out.trans (Below.mono B1.out HB.out.size))
            go_wp2
            go_ret
            exact ⟨ret_eb HN.out, BW.out⟩
          rw [h0] at PN
          by_cases p24 : x.slots.length ≤ 24
          case neg =>
            have HN := Lib.hid (HNO.out (ro_no (by unfold Ro.head; rw [h0, decide_eq_false p24]; rfl)))
            have g24 : decide (24 < x.slots.length) = true := decide_eq_true (by omega)
            go_wp2_with fail
            refine (PN.out).mono ?_
            rintro e w1 ⟨rfl, b1⟩
            have B1 := Lib.hid (below_then BA.out b1)
            have V1 := Lib.hid (VA.out.later b1)
            have r0 := (V1.out 0 _ rfl).1
            have r1 := (V1.out 1 _ rfl).1
            have r2 := (V1.out 2 _ rfl).1
            have r3 := (V1.out 3 _ rfl).1
            have r4 := (V1.out 4 _ rfl).1
            have r5 := (V1.out 5 _ rfl).1
            have r6 := (V1.out 6 _ rfl).1
            have r7 := (V1.out 7 _ rfl).1
            have r8 := (V1.out 8 _ rfl).1
            clear b1
            have BW := Lib.hid (HB.out.trans (Below.mono B1.out HB.out.size))
            go_wp2
            go_ret
            exact ⟨ret_eb HN.out, BW.out⟩
          have g24 : decide (24 < x.slots.length) = false := decide_eq_false (by omega)
          have HPI := Lib.hid (fun W => Cr.spec_inr x.params 0 (x.slots.length : Int) W)
          cases h2 : Co.inR x.params 0 (x.slots.length : Int)
          case false =>
            rw [h2] at HPI
            have HN := Lib.hid (HNO.out (ro_no (by unfold Ro.head; rw [h0, h2, decide_eq_true p24]; rfl)))
            go_wp2_with fail
            refine (PN.out).mono ?_
            rintro e w1 ⟨rfl, b1⟩
            have B1 := Lib.hid (below_then BA.out b1)
            have V1 := Lib.hid (VA.out.later b1)
            have r0 := (V1.out 0 _ rfl).1
            have r1 := (V1.out 1 _ rfl).1
            have r2 := (V1.out 2 _ rfl).1
            have r3 := (V1.out 3 _ rfl).1
            have r4 := (V1.out 4 _ rfl).1
            have r5 := (V1.out 5 _ rfl).1
            have r6 := (V1.out 6 _ rfl).1
            have r7 := (V1.out 7 _ rfl).1
            have r8 := (V1.out 8 _ rfl).1
            clear b1
            go_wp2_with fail
            refine (HPI.out _).mono ?_
            rintro e w2 ⟨rfl, rfl⟩
            have BW := Lib.hid (HB.out.trans (Below.mono B1.out HB.out.size))
            go_wp2
            go_ret
            exact ⟨ret_eb HN.out, BW.out⟩
          rw [h2] at HPI
          go_wp2_with fail
          refine (PN.out).mono ?_
          rintro e w1 ⟨rfl, b1⟩
          have B1 := Lib.hid (below_then BA.out b1)
          have V1 := Lib.hid (VA.out.later b1)
          have r0 := (V1.out 0 _ rfl).1
          have r1 := (V1.out 1 _ rfl).1
          have r2 := (V1.out 2 _ rfl).1
          have r3 := (V1.out 3 _ rfl).1
          have r4 := (V1.out 4 _ rfl).1
          have r5 := (V1.out 5 _ rfl).1
          have r6 := (V1.out 6 _ rfl).1
          have r7 := (V1.out 7 _ rfl).1
          have r8 := (V1.out 8 _ rfl).1
          clear b1
          go_wp2_with fail
          refine (HPI.out _).mono ?_
          rintro e w2 ⟨rfl, rfl⟩
          have BR := Lib.hid (HB.out.trans (Below.mono B1.out HB.out.size))
          have VR := Lib.hid (HV.out.later B1.out)
          have BQ0 := Lib.hid B1.out
          clear B1 VA BA HB HV x0 PN HPI
          go_wp2
          go_loopw [8] (fun i wq => ∃ q : Nat, i = .int .i64 q ∧ q ≤ x.slots.length ∧ (x.slots.take q).all slotB = true ∧ Below wr.heap.size wr wq ∧ Below w.heap.size w wq ∧ Var wq wr.heap.size [.string x.name, .int .i64 x.params, .slice e1 x.slots.length d1, .int .i64 x.body.kind, .int .i64 x.body.op, .int .i64 x.body.num, .int .i64 x.body.line, .string x.body.text, .slice e2 x.body.kids.length d2] ∧ Var wq w.heap.size [.slice (some ⟨g0, o0, none⟩) p.routs.length c1, .slice a2 p.recs.length c2, .slice a3 p.globs.length c3, .int .i64 (m : Int)]) (fun i _ => x.slots.length - (intOf i).toNat)
          case atStart => exact ⟨0, rfl, Nat.zero_le _, rfl, BQ0.out, BR.out, V1.out, VR.out⟩
          case round =>
            clear r0 r1 r2 r3 r4 r5 r6 r7 r8 V1 BR VR BQ0
            obtain ⟨q, rfl, hq, hsa, hbq, hbw, hvr, hvp⟩ := hrel
            have HSA := Lib.hid hsa
            have HBQ := Lib.hid hbq
            have HBW := Lib.hid hbw
            have HVR := Lib.hid hvr
            have HVP := Lib.hid hvp
            have z2 := (hvr 2 _ rfl).1
            have q0' : (0 : Int) ≤ q := by omega
            have hwq : IntKind.i64.wrap ((q : Int) + 1) = (q : Int) + 1 := by rw [IntKind.wrap_i64]; omega
            by_cases hltq : q < x.slots.length
            · obtain ⟨gs, os, rfl, d9⟩ := str_at (K1.out.later hbq) q hltq
              have hsz := HZS.out _ (List.getElem_mem hltq)
              have HAY := Lib.hid (fun h => all_take slotB x.slots q hltq HSA.out h)
              have HAN := Lib.hid (fun h => HNO.out (ro_no (slots_no (all_no slotB x.slots q hltq h))))
              have q1' : (q : Int) < x.slots.length := by omega
              have HLQ := Lib.hid (show q + 1 ≤ x.slots.length from hltq)
              clear hsa hbq hbw hvr hvp
              generalize x.slots[q] = sq at d9 hsz HAY HAN
              have HNM := Lib.hid (spec_nm (s := sq) (b := nmB sq) rfl wr hsz)
              clear hltq
              cases he : sq.toList.isEmpty
              case true =>
                have HN := Lib.hid (HAY.out (by unfold slotB; rw [he]; rfl))
                clear HAY HAN HNM hsz
                go_wp2
                go_roundw
                case rel => exact ⟨q + 1, by go_num, HLQ.out, HN.out, HBQ.out, HBW.out, HVR.out, HVP.out⟩
                case measure => have := HLQ.out; first | (simp [intOf]; done) | (simp [intOf]; omega)
              case false =>
                cases hn : nmB sq
                case false =>
                  rw [hn] at HNM
                  have HN := Lib.hid (HAN.out (by unfold slotB; rw [he, hn]; rfl))
                  clear HAY HAN hsz hn
                  go_wp2_with fail
                  refine (HNM.out).mono ?_
                  rintro e w5 ⟨rfl, b5⟩
                  have BW := Lib.hid (below_then HBW.out b5)
                  clear b5
                  go_wp2
                  go_ret
                  exact ⟨ret_eb HN.out, BW.out⟩
                case true =>
                  rw [hn] at HNM
                  have HN := Lib.hid (HAY.out (by unfold slotB; rw [he, hn]; rfl))
                  clear HAY HAN hsz hn
                  go_wp2_with fail
                  refine (HNM.out).mono ?_
                  rintro e w5 ⟨rfl, b5⟩
                  have BW := Lib.hid (below_then HBW.out b5)
                  have BQ := Lib.hid (below_then HBQ.out b5)
                  have VR5 := Lib.hid (HVR.out.later b5)
                  have VP5 := Lib.hid (HVP.out.later b5)
                  clear b5
                  go_wp2
                  go_roundw
                  case rel => exact ⟨q + 1, by go_num, HLQ.out, HN.out, BQ.out, BW.out, VR5.out, VP5.out⟩
                  case measure => have := HLQ.out; first | (simp [intOf]; done) | (simp [intOf]; omega)
            · obtain rfl : q = x.slots.length := by omega
              have HHD : Hid (x.head = true) := Lib.hid (by unfold Ro.head; rw [h0, h2, decide_eq_true p24, all_end _ _ hsa]; rfl)
              have r0 := (hvr 0 _ rfl).1
              have r1 := (hvr 1 _ rfl).1
              have r2 := (hvr 2 _ rfl).1
              have r3 := (hvr 3 _ rfl).1
              have r4 := (hvr 4 _ rfl).1
              have r5 := (hvr 5 _ rfl).1
              have r6 := (hvr 6 _ rfl).1
              have r7 := (hvr 7 _ rfl).1
              have r8 := (hvr 8 _ rfl).1
              have t20 := (hvp 0 _ rfl).1
              have t21 := (hvp 1 _ rfl).1
              have t22 := (hvp 2 _ rfl).1
              have t23 := (hvp 3 _ rfl).1
              have HV1 := Lib.hid (HVL.out wr hbq)
              clear hsa hbq hbw hvr hvp z2 HVL
              have HOK : Hid (p.ro x = x.body.ok (p.env x) false false 1) := Lib.hid (by unfold Pg.ro; rw [HHD.out, Bool.true_and])
              unfold Pg.env at HOK
              obtain ⟨b, hbv⟩ : ∃ b, x.body.ok ⟨x.slots.length, p.globs.length, p.routs.length, p.recs.length⟩ false false 1 = b := ⟨_, rfl⟩
              rw [hbv] at HV1 HOK
              clear hbv
              go_wp2_with fail
              refine HV1.out.mono ?_
              rintro e w6 ⟨rfl, b6⟩
              have BW := Lib.hid (below_then HBW.out b6)
              have BQ := Lib.hid (below_then HBQ.out b6)
              have VR6 := Lib.hid (HVR.out.later b6)
              have VP6 := Lib.hid (HVP.out.later b6)
              clear b6 r0 r1 r2 r3 r4 r5 r6 r7 r8 t20 t21 t22 t23
              cases b
              case false =>
                have HN := Lib.hid (HNO.out HOK.out)
                go_wp2
                go_ret
                exact ⟨ret_eb HN.out, BW.out⟩
              case true =>
                have HN := Lib.hid (HY.out HOK.out)
                have HCW := Lib.hid (HCN.out w6 BQ.out)
                have r0 := (VR6.out 0 _ rfl).1
                have r1 := (VR6.out 1 _ rfl).1
                have r2 := (VR6.out 2 _ rfl).1
                have r3 := (VR6.out 3 _ rfl).1
                have r4 := (VR6.out 4 _ rfl).1
                have r5 := (VR6.out 5 _ rfl).1
                have r6 := (VR6.out 6 _ rfl).1
                have r7 := (VR6.out 7 _ rfl).1
                have r8 := (VR6.out 8 _ rfl).1
                have hwn : IntKind.i64.wrap ((n : Int) + (x.body.count : Int)) = ((n + x.body.count : Nat) : Int) := by rw [IntKind.wrap_i64]; omega
                have hwk : IntKind.i64.wrap ((k : Int) + 1) = ((k + 1 : Nat) : Int) := by rw [IntKind.wrap_i64]; omega
                go_wp2_with fail
                refine HCW.out.mono ?_
                rintro e w7 ⟨rfl, b7⟩
                have BW7 := Lib.hid (below_then BW.out b7)
                have VP7 := Lib.hid (VP6.out.later b7)
                clear b7 r0 r1 r2 r3 r4 r5 r6 r7 r8
                go_wp2
                go_roundw
                case rel => exact ⟨k + 1, n + x.body.count, by go_num, by go_num, by omega, HN.out, HNN.out, BW7.out, VP7.out⟩
                case measure => first | (simp [intOf]; done) | (simp [intOf]; omega)
        · obtain rfl : k = p.routs.length := by omega
          have HN := Lib.hid (HYE.out HAR.out (all_end _ _ hall))
          have HNV := Lib.hid (HND.out.over)
          clear hall hnd hv
          by_cases h40 : n ≤ 40000
          · have HZ : Hid (res = true) := Lib.hid (by rw [HN.out, ← HNV.out]; exact decide_eq_true h40)
            have h41 : decide (n ≤ 40000) = true := decide_eq_true h40
            have h42 : (n : Int) ≤ 40000 := by omega
            go_wp2
            go_ret
            exact ⟨ret_eb HZ.out, HB.out⟩
          · have HZ : Hid (res = false) := Lib.hid (by rw [HN.out, ← HNV.out]; exact decide_eq_false h40)
            have h41 : decide (n ≤ 40000) = false := decide_eq_false h40
            have h42 : ¬ (n : Int) ≤ 40000 := by omega
            go_wp2
            go_ret
            exact ⟨ret_eb HZ.out, HB.out⟩
/-- The model's check of a program. -/
theorem spec_validprog (p : Pg) (hb : p.bulk ≤ 1048576) (w : World) (v1 v2 v3 : Value) (h : PgIs w p v1 v2 v3) : Calls Tryd.prog 11 #[pgV v1 v2 v3 p.main] w fun e w' => e = .returned (.bool p.valid) ∧ Below w.heap.size w w' := by
  by_cases n1 : 1 ≤ p.routs.length
  case neg =>
    rw [pg_top (by unfold Pg.top; rw [decide_eq_false n1]; rfl)]
    exact vp_n1 p hb w v1 v2 v3 h (List.length_eq_zero_iff.1 (by omega))
  by_cases n2 : p.routs.length ≤ 12
  case neg =>
    rw [pg_top (by unfold Pg.top; rw [decide_eq_false n2]; simp)]
    exact vp_n2 p hb w v1 v2 v3 h n1 (by omega)
  by_cases n3 : p.recs.length ≤ 8
  case neg =>
    rw [pg_top (by unfold Pg.top; rw [decide_eq_false n3]; simp)]
    exact vp_n3 p hb w v1 v2 v3 h n1 n2 (by omega)
  cases n4 : nmOk p.globs 12
  case false =>
    rw [pg_top (by unfold Pg.top; rw [n4]; simp)]
    exact vp_n4 p hb w v1 v2 v3 h n1 n2 n3 n4
  have ht := top_eq n1 n2 n3 n4
  cases n5 : Co.inR p.main 0 ((p.routs.length : Int) - 1)
  case false =>
    rw [pg_top (by rw [ht]; exact main_no n5)]
    exact vp_n5 p hb w v1 v2 v3 h n1 n2 n3 n4 n5
  have hr := of_decide_eq_true n5
  obtain ⟨m, hm⟩ : ∃ m : Nat, p.main = (m : Int) := ⟨p.main.toNat, by omega⟩
  have hml : m < p.routs.length := by omega
  have hma := main_at2 hm hml
  by_cases n6 : p.routs[m].params = 0
  case neg =>
    rw [pg_top (by rw [ht, hma, decide_eq_false n6])]
    exact vp_n6 p hb w v1 v2 v3 h n1 n2 n3 n4 m hm hml (bne_iff_ne.2 n6)
  have e : p.valid = (p.recs.all Rc.fine && (p.routs.all p.ro && decide (nodesN p.routs ≤ 40000))) := by
    unfold Pg.valid; rw [ht, hma, decide_eq_true n6]; rfl
  rw [e]
  exact vp_run p hb w v1 v2 v3 h n1 n2 n3 n4 m hm hml (by rw [n6]; rfl)
end Go.Proofs.YtbadepiakkhabaaDoor
