/- Joined texts: U13, V32, V21. No conditions besides those that each states. -/
import Derived.Deep.RegionHeld3
import Derived.Test.YtckjmmapekaapaaGreatDoorRows
import Derived.LaidLaws
import Derived.MakeChecks
import Derived.OpenShut
import Derived.Test.YtckjmmapekaapaaGreatDoorZ16
import Derived.Test.YtckjmmapekaapaaGreatDoorZ24
import Derived.Test.YtckjmmapekaapaaGreatDoorZ39
import Derived.Test.YtckjmmapekaapaaGreatDoorZ40
import Derived.Test.YtckjmmapekaapaaGreatDoorZ41
/- What the laws read again of records, procedures and units. No conditions. -/
namespace Go.Proofs.YtckjmmapekaapaaGreatDoor
open Go.RowKit
set_option linter.unusedVariables false

theorem heldSN {v : Value} {n0 m m2 : Nat} {w : World} {i : Int} (hi : i = (m : Int)) (ho : Is w (strsD (marks m n0)) v) (h0 : 0 < m) (hm : m + n0 = m2) (h1 : (m2 : Int) ≤ 8000000) : Calls Tryz.prog 13 #[v, .int .i64 i] w fun e w' => e = .returned (.int .i64 (m2 : Int)) ∧ Below w.heap.size w w' := by
  subst hi hm; exact held_strsD v n0 m w ho h0 h1
theorem slice_of {w : World} {l : List ByteArray} {v : Value} (h : Is w (strsD l) v) : ∃ a n c, v = .slice a n c := by
  obtain ⟨a, c, e⟩ := is_slice h
  exact ⟨a, _, c, e⟩

theorem mark_pos (u : Un) : 1 ≤ 1 + wsum Rc.wd u.recs := by omega
/-- How many letters a unit takes. -/
def Un.m1 (u : Un) : Nat := 1 + wsum Rc.wd u.recs
def Un.m2 (u : Un) : Nat := u.m1 + u.globs.length
def Un.m3 (u : Un) : Nat := u.m2 + wsum Pc.wd u.procs
def Un.mrk (u : Un) : Un := ⟨mks Rc.mk' Rc.wd u.recs 1, marks u.m1 u.globs.length, mks Pc.mk' Pc.wd u.procs u.m2⟩
theorem strsB_len (l : List ByteArray) : l.length ≤ strsB l := by unfold strsB; omega
theorem rc_wd (r : Rc) : Rc.wd r ≤ r.bulk + 2 := by unfold Rc.wd Rc.bulk; have := strsB_len r.fields; omega
theorem pc_wd (p : Pc) : Pc.wd p ≤ 4 * p.bulk + 6 := by
  unfold Pc.wd Pc.bulk
  have h1 := strsB_len p.params
  have h2 := strsB_len p.locals
  have h3 := count_eq p.body
  have h4 := Ex.count_bulk _ p.body (Nat.le_refl _)
  omega
theorem wsum_lin {α : Type} (f g : α → Nat) (a b : Nat) (h : ∀ x, f x ≤ a * g x + b) : ∀ l : List α, wsum f l ≤ a * wsum g l + b * l.length := by
  intro l
  induction l with
  | nil => simp [wsum]
  | cons x r ih =>
    rw [wsum, wsum, List.length_cons, Nat.mul_add, Nat.mul_succ]
    have := h x
    omega
theorem un_small {u : Un} (hb : u.bulk ≤ 1048576) : (u.m1 : Int) ≤ 8000000 ∧ (u.m2 : Int) ≤ 8000000 ∧ (u.m3 : Int) ≤ 8000000 := by
  have h1 := wsum_lin Rc.wd Rc.bulk 1 2 (fun r => by have := rc_wd r; omega) u.recs
  have h2 := wsum_lin Pc.wd Pc.bulk 4 6 pc_wd u.procs
  unfold Un.bulk recsB procsB at hb
  have h3 := strsB_len u.globs
  unfold Un.m3 Un.m2 Un.m1
  omega
set_option maxHeartbeats 3200000 in
theorem mark_unit (u : Un) (hb : u.bulk ≤ 1048576) (w : World) (v1 v2 v3 : Value) (F1 F2 F3 : List Nat) (ho : UnOwn w u v1 v2 v3 F1 F2 F3) (hF : ∀ b ∈ F1 ++ (F2 ++ F3), b < w.heap.size) :
    Calls Tryz.prog 11 #[unV v1 v2 v3, .int .i64 1] w fun e w' => e = .returned (.int .i64 (u.m3 : Int)) ∧ UnOwn w' u.mrk v1 v2 v3 F1 F2 F3 ∧ OnlyF (F1 ++ (F2 ++ F3)) w w' := by
  obtain ⟨⟨o1, o2, o3⟩, a12, a13, a23⟩ := ho
  have hs := un_small hb
  have hbb := hb
  unfold Un.bulk recsB procsB at hbb
  obtain ⟨x1, y1, rfl⟩ := own_slice o1
  obtain ⟨x2, y2, rfl⟩ := own_slice o2
  obtain ⟨x3, y3, rfl⟩ := own_slice o3
  have f1 : ∀ b ∈ F1, b < w.heap.size := fun b h => hF b (List.mem_append_left _ h)
  have f2 : ∀ b ∈ F2, b < w.heap.size := fun b h => hF b (List.mem_append_right _ (List.mem_append_left _ h))
  have f3 : ∀ b ∈ F3, b < w.heap.size := fun b h => hF b (List.mem_append_right _ (List.mem_append_right _ h))
  have bA := bl1 w (.cells #[.slice x1 u.recs.length y1, .slice x2 u.globs.length y2, .slice x3 u.procs.length y3] 32)
  have VA := Lib.hid (Var.new w #[.slice x1 u.recs.length y1, .slice x2 u.globs.length y2, .slice x3 u.procs.length y3] 32)
  have HC1 := Lib.hid (mark_recs u.recs (fun x hx => by have := wsum_mem Rc.bulk hx; omega) _ F1 1 _ (o1.later f1 bA) (fun b h => Nat.lt_of_lt_of_le (f1 b h) bA.size) (by decide) (by have := hs.1; unfold Un.m1 at this; exact this) (by omega))
  have BA := Lib.hid bA
  have O2 := Lib.hid o2
  have O3 := Lib.hid o3
  have A12 := Lib.hid a12
  have A13 := Lib.hid a13
  have A23 := Lib.hid a23
  have FF := Lib.hid (And.intro f1 (And.intro f2 f3))
  have HBB := Lib.hid hbb
  have HS := Lib.hid hs
  clear o1 o2 o3 a12 a13 a23 f1 f2 f3 bA hb hbb hF hs
  have HM1 : Hid (1 + wsum Rc.wd u.recs = u.m1) := Lib.hid rfl
  rw [HM1.out] at HC1
  go_enter Tryz.func11, Tryz.ntmps11
  go_wp2_with fail
  refine HC1.out.mono ?_
  rintro e w1 ⟨rfl, n1, of1⟩
  have hbA : ∀ b, b < w.heap.size → b ∉ F1 → w1.heap[b]? = w.heap[b]? := fun b h1 h2 => (of1.2 b h2 (Nat.lt_of_lt_of_le h1 BA.out.size)).trans (BA.out.block b h1)
  have hs1 : w.heap.size + 1 ≤ w1.heap.size := by have := of1.1.size; simpa using this
  have V1 := Lib.hid (VA.out.keep (w' := w1) (of1.2 _ (fun h => by have := FF.out.1 _ h; omega) (by simp)))
  have N1 := Lib.hid n1
  have O2b := Lib.hid (Own.keep _ _ _ (fun b hb => hbA b (FF.out.2.1 b hb) (fun h => A12.out b h hb)) O2.out)
  have O3b := Lib.hid (Own.keep _ _ _ (fun b hb => hbA b (FF.out.2.2 b hb) (fun h => A13.out b h hb)) O3.out)
  have OF1 := Lib.hid (OnlyF.trans ((OnlyF.refl F1 w).later BA.out) of1 fun b hb => hb)
  have g1 := (V1.out 1 _ rfl).1
  clear of1 n1 hbA
  go_wp2_with fail
  refine (markSN (m := u.m1) (m2 := u.m2) rfl O2b.out (fun b hb => by have := FF.out.2.1 b hb; omega) (by unfold Un.m1; omega) rfl HS.out.2.1).mono ?_
  rintro e w2 ⟨rfl, n2, of2⟩
  have V2 := Lib.hid (V1.out.keep (w' := w2) (of2.2 _ (fun h => by have := FF.out.2.1 _ h; omega) (by omega)))
  have N1b := Lib.hid (Own.keep _ _ _ (fun b hb => of2.2 b (fun h => A12.out b hb h) (by have := FF.out.1 b hb; omega)) N1.out)
  have N2 := Lib.hid n2
  have O3c := Lib.hid (Own.keep _ _ _ (fun b hb => of2.2 b (fun h => A23.out b h hb) (by have := FF.out.2.2 b hb; omega)) O3b.out)
  have OF2 := Lib.hid of2
  have hs2 : w.heap.size + 1 ≤ w2.heap.size := by have := of2.1.size; omega
  clear g1 n2 of2
  have g2 := (V2.out 2 _ rfl).1
  have HC3 := Lib.hid (mark_procs u.procs (fun x hx => by have := wsum_mem Pc.bulk hx; have := HBB.out; omega) _ F3 u.m2 _ O3c.out (fun b hb => by have := FF.out.2.2 b hb; omega) (by unfold Un.m2 Un.m1; omega) (by have := HS.out.2.2; unfold Un.m3 at this; exact this) (by have := HBB.out; omega))
  go_wp2_with fail
  refine HC3.out.mono ?_
  rintro e w3 ⟨rfl, n3, of3⟩
  have N1c := Lib.hid (Own.keep _ _ _ (fun b hb => of3.2 b (fun h => A13.out b hb h) (by have := FF.out.1 b hb; omega)) N1b.out)
  have N2b := Lib.hid (Own.keep _ _ _ (fun b hb => of3.2 b (fun h => A23.out b hb h) (by have := FF.out.2.1 b hb; omega)) N2.out)
  have N3 := Lib.hid n3
  have OF3 := Lib.hid of3
  clear g2 n3 of3 HC3
  go_wp2
  go_ret
  refine ⟨rfl, ⟨⟨N1c.out, N2b.out, N3.out⟩, A12.out, A13.out, A23.out⟩, ?_⟩
  exact (OnlyF.trans (F := F1 ++ (F2 ++ F3)) ⟨OF1.out.1, fun b h1 h2 => OF1.out.2 b (fun h => h1 (List.mem_append_left _ h)) h2⟩ OF2.out (fun b hb => List.mem_append_right _ (List.mem_append_left _ hb))).trans OF3.out (fun b hb => List.mem_append_right _ (List.mem_append_right _ hb))
end Go.Proofs.YtckjmmapekaapaaGreatDoor
/- The law on LocalNames: its walk. The table reads as the program's text lays it. -/
namespace Go.Proofs.YtckjmmapekaapaaGreatDoor
open Go.RowKit
set_option linter.unusedVariables false

/-- The law's argument and the model's answer. -/
def LnS (w : World) (A : List Value) (v0 : Value) (L : List ByteArray) (FW : List Nat) (W : World) : Prop := Var W w.heap.size A ∧ Own W (strsD L) v0 FW ∧ Below w.heap.size w W ∧ (∀ b ∈ FW, w.heap.size < b ∧ b < W.heap.size) ∧ w.heap.size < W.heap.size
theorem LnS.later {w W W' : World} {A : List Value} {v0 : Value} {L : List ByteArray} {FW : List Nat} (h : LnS w A v0 L FW W) (hb : Below W.heap.size W W') : LnS w A v0 L FW W' :=
  ⟨h.1.later hb, h.2.1.later (fun b hbF => (h.2.2.2.1 b hbF).2) hb, h.2.2.1.trans (hb.mono h.2.2.1.size), fun b hbF => ⟨(h.2.2.2.1 b hbF).1, Nat.lt_of_lt_of_le (h.2.2.2.1 b hbF).2 hb.size⟩, Nat.lt_of_lt_of_le h.2.2.2.2 hb.size⟩
theorem LnS.only {w W W' : World} {A : List Value} {v0 : Value} {L : List ByteArray} {FW F : List Nat} (h : LnS w A v0 L FW W) (ho : OnlyF F W W') (hF : ∀ b ∈ F, w.heap.size < b ∧ b ∉ FW) : LnS w A v0 L FW W' :=
  ⟨h.1.keep (ho.2 _ (fun e => by have := (hF _ e).1; omega) h.2.2.2.2), Own.keep _ _ _ (fun b hb => ho.2 b (fun e => (hF b e).2 hb) (h.2.2.2.1 b hb).2) h.2.1, h.2.2.1.trans (ho.below (fun b hb => Nat.le_of_lt (hF b hb).1) h.2.2.1.size), fun b hb => ⟨(h.2.2.2.1 b hb).1, Nat.lt_of_lt_of_le (h.2.2.2.1 b hb).2 ho.1.size⟩, Nat.lt_of_lt_of_le h.2.2.2.2 ho.1.size⟩
/-- .. and the program's answer. -/
def LnG (w : World) (A : List Value) (v0 : Value) (L : List ByteArray) (FW : List Nat) (vg : Value) (lg : List ByteArray) (FG : List Nat) (W : World) : Prop := LnS w A v0 L FW W ∧ Own W (strsD lg) vg FG ∧ ∀ b ∈ FG, w.heap.size < b ∧ b < W.heap.size ∧ b ∉ FW
theorem LnG.later {w W W' : World} {A : List Value} {v0 vg : Value} {L lg : List ByteArray} {FW FG : List Nat} (h : LnG w A v0 L FW vg lg FG W) (hb : Below W.heap.size W W') : LnG w A v0 L FW vg lg FG W' :=
  ⟨h.1.later hb, h.2.1.later (fun b hbF => (h.2.2 b hbF).2.1) hb, fun b hbF => ⟨(h.2.2 b hbF).1, Nat.lt_of_lt_of_le (h.2.2 b hbF).2.1 hb.size, (h.2.2 b hbF).2.2⟩⟩
theorem LnG.only {w W W' : World} {A : List Value} {v0 vg : Value} {L lg : List ByteArray} {FW FG F : List Nat} (h : LnG w A v0 L FW vg lg FG W) (ho : OnlyF F W W') (hF : ∀ b ∈ F, w.heap.size < b ∧ b ∉ FW ∧ b ∉ FG) : LnG w A v0 L FW vg lg FG W' :=
  ⟨h.1.only ho fun b hb => ⟨(hF b hb).1, (hF b hb).2.1⟩, Own.keep _ _ _ (fun b hb => ho.2 b (fun e => (hF b e).2.2 hb) (h.2.2 b hb).2.1) h.2.1, fun b hb => ⟨(h.2.2 b hb).1, Nat.lt_of_lt_of_le (h.2.2 b hb).2.1 ho.1.size, (h.2.2 b hb).2.2⟩⟩
theorem LnG.own {w W W' : World} {A : List Value} {v0 vg : Value} {L lg lh : List ByteArray} {FW FG : List Nat} (h : LnG w A v0 L FW vg lg FG W) (hk : Own W' (strsD lh) vg FG) (ho : OnlyF FG W W') : LnG w A v0 L FW vg lh FG W' :=
  ⟨h.1.only ho fun b hb => ⟨(h.2.2 b hb).1, (h.2.2 b hb).2.2⟩, hk, fun b hb => ⟨(h.2.2 b hb).1, Nat.lt_of_lt_of_le (h.2.2 b hb).2.1 ho.1.size, (h.2.2 b hb).2.2⟩⟩
theorem lnames_size {u : Un} (hb : u.bulk ≤ 1048576) (k : Int) : strsB (lnames u k) ≤ 1048576 := by
  unfold lnames
  split
  · split
    · rename_i p hp
      exact locs_size hb (List.mem_of_getElem? hp)
    · unfold strsB; simp [wsum]
  · unfold strsB; simp [wsum]
set_option maxRecDepth 100000 in
set_option maxHeartbeats 6400000 in
theorem FnExactLocalNames_walk (u : Un) (v1 v2 v3 : Value) (hok : u.Ok) (n : Int) (w : World) (hk : UnIs w u v1 v2 v3) (w1 : (Lit.int .i64 n).wf = true) (hN : NamesAt w) : Calls Tryz.prog 3 #[unV v1 v2 v3, .int .i64 n] w fun e w' => e = .returned (.bool true) ∧ Below w.heap.size w w' := by
  have HSZ := Lib.hid (fun W (hW : Below w.heap.size w W) => sz_unit u hok W v1 v2 v3 (hk.later hW))
  by_cases hb : u.bulk ≤ 1048576
  · rw [szR_yes hb] at HSZ
    have HTO := Lib.hid (fun W (hW : Below w.heap.size w W) => to_unit u hb W v1 v2 v3 (hk.later hW).1 (hk.later hW).2.1 (hk.later hW).2.2)
    unfold MadeU at HTO
    have HEQ := Lib.hid (fun W v1 v2 v3 u1 u2 u3 (h1 : UnIs W u v1 v2 v3) (h2 : UnIs W u u1 u2 u3) => eq_unit u hb W v1 v2 v3 u1 u2 u3 h1.1 h1.2.1 h1.2.2 h2.1 h2.2.1 h2.2.2)
    have HSP := Lib.hid (fun W v1 v2 v3 h1 => spec_locals u hb n W v1 v2 v3 h1)
    have HIM := Lib.hid (fun W (hW : Below w.heap.size w W) v1 v2 v3 h1 => impl_locals u hb n W v1 v2 v3 h1 (hN.later hW))
    have HMU := Lib.hid (fun W v1 v2 v3 F1 F2 F3 h1 h2 => mark_unit u hb W v1 v2 v3 F1 F2 F3 h1 h2)
    have hsz := lnames_size hb n
    unfold RetN at HSP
    unfold RetD at HIM
    obtain ⟨L, hL⟩ : ∃ L, lnames u n = L := ⟨_, rfl⟩
    rw [hL] at HSP HIM hsz
    have hll : L.length ≤ 1048576 := by unfold strsB at hsz; omega
    have HLL := Lib.hid hll
    have HEL := Lib.hid (fun v1 v2 W h1 h2 => eq_strsD v1 v2 L W h1 h2 hll)
    have HMG := Lib.hid (fun v F W h1 h2 => mark_strsD v L F 1 W h1 h2 (by omega) (by omega))
    have HHG := Lib.hid (fun v W h1 => held_strsD v L.length 1 W h1 (by omega) (by omega))
    have hmx : ¬ ((u.m3 : Int) < 0) := by omega
    clear hL hsz hll
    generalize (u.m3 : Int) = mm at HMU hmx
    have hg1 : decide (((1 + L.length : Nat) : Int) < 0) = false := decide_eq_false (by omega)
    have hg2 : (((1 + L.length : Nat) : Int) != ((1 + L.length : Nat) : Int)) = false := by simp
    generalize ((1 + L.length : Nat) : Int) = ml at HMG HHG hg1 hg2
    have hl1 : decide (((1048576 - u.bulk : Nat) : Int) < 0) = false := decide_eq_false (by omega)
    generalize ((1048576 - u.bulk : Nat) : Int) = left at HSZ hl1
    obtain ⟨a1, c1, rfl⟩ := is_slice hk.1
    obtain ⟨a2, c2, rfl⟩ := is_slice hk.2.1
    obtain ⟨a3, c3, rfl⟩ := is_slice hk.2.2
    have HV0 := Lib.hid (Var.new w #[.slice a1 u.recs.length c1, .slice a2 u.globs.length c2, .slice a3 u.procs.length c3] 26)
    clear hok hk hb hN
    go_enter Tryz.func3, Tryz.ntmps3
    go_wp2_with fail
    refine (HSZ.out _ (bl1 _ _)).mono ?_
    rintro e w1 ⟨rfl, b1⟩
    have B1 := Lib.hid (below_then (bl1 _ _) b1)
    have V1 := Lib.hid (HV0.out.later b1)
    have e0 := (V1.out 0 _ rfl).1
    have e1 := (V1.out 1 _ rfl).1
    have e2 := (V1.out 2 _ rfl).1
    clear b1 HSZ HV0
    go_wp2_with fail
    refine (HTO.out _ B1.out).mono ?_
    rintro e w2 ⟨x1, x2, x3, F1, F2, F3, rfl, o2, _, b2⟩
    have K2 := Lib.hid o2.is
    obtain ⟨z1, d1, rfl⟩ := is_slice o2.is.1
    obtain ⟨z2, d2, rfl⟩ := is_slice o2.is.2.1
    obtain ⟨z3, d3, rfl⟩ := is_slice o2.is.2.2
    have B2 := Lib.hid (below_then B1.out b2)
    have V2 := Lib.hid (V1.out.later b2)
    clear e0 e1 e2 o2 b2 V1 B1
    go_wp2_with fail
    refine (HSP.out _ _ _ _ K2.out).mono ?_
    rintro e w3 ⟨v0, rfl, ow, b3⟩
    obtain ⟨FW, oW, fW⟩ := own_of_owns ow
    have S3 : Hid (LnS w [.slice a1 u.recs.length c1, .slice a2 u.globs.length c2, .slice a3 u.procs.length c3] v0 L FW w3) := Lib.hid ⟨V2.out.later b3, oW, below_then B2.out b3, fun b hb => ⟨by have h1 := (fW b hb).1; have h2 := V2.out.lt; omega, (fW b hb).2⟩, by have h1 := V2.out.lt; have h2 := b3.size; omega⟩
    clear b3 K2 B2 V2 ow oW fW
    have e0 := (S3.out.1 0 _ rfl).1
    have e1 := (S3.out.1 1 _ rfl).1
    have e2 := (S3.out.1 2 _ rfl).1
    go_wp2_with fail
    refine (HTO.out _ S3.out.2.2.1).mono ?_
    rintro e w4 ⟨x1, x2, x3, F1, F2, F3, rfl, o4, f4, b4⟩
    obtain ⟨y1, g1, rfl⟩ := is_slice o4.is.1
    obtain ⟨y2, g2, rfl⟩ := is_slice o4.is.2.1
    obtain ⟨y3, g3, rfl⟩ := is_slice o4.is.2.2
    have n4 := bl1 w4 (.cells #[.slice y1 u.recs.length g1, .slice y2 u.globs.length g2, .slice y3 u.procs.length g3] 32)
    have hsz4 : (w4.alloc (.cells #[.slice y1 u.recs.length g1, .slice y2 u.globs.length g2, .slice y3 u.procs.length g3] 32)).heap.size = w4.heap.size + 1 := by simp
    have KX4 := Lib.hid (o4.keep (w' := w4.alloc (.cells #[.slice y1 u.recs.length g1, .slice y2 u.globs.length g2, .slice y3 u.procs.length g3] 32)) (fun b hb => n4.block b (by
      rcases List.mem_append.1 hb with h | h
      · exact (f4.1 b h).2
      · rcases List.mem_append.1 h with h | h
        · exact (f4.2.1 b h).2
        · exact (f4.2.2 b h).2)))
    have FXB : Hid (∀ b ∈ F1 ++ (F2 ++ F3), w.heap.size < b ∧ b ∉ FW ∧ b < w4.heap.size) := Lib.hid (fun b hb => by
      have h1 : w3.heap.size ≤ b ∧ b < w4.heap.size := by
        rcases List.mem_append.1 hb with h | h
        · exact f4.1 b h
        · rcases List.mem_append.1 h with h | h
          · exact f4.2.1 b h
          · exact f4.2.2 b h
      exact ⟨by have := S3.out.2.2.2.2; omega, fun e => by have := (S3.out.2.2.2.1 b e).2; omega, h1.2⟩)
    have S4 := Lib.hid ((S3.out.later b4).later n4)
    have P4 := Lib.hid (Var.new w4 #[.slice y1 u.recs.length g1, .slice y2 u.globs.length g2, .slice y3 u.procs.length g3] 32)
    have L4 : Hid (w3.heap.size ≤ w4.heap.size) := Lib.hid b4.size
    clear o4 f4 b4 n4 S3 e0 e1 e2
    have e0 := (P4.out 0 _ rfl).1
    have e1 := (P4.out 1 _ rfl).1
    have e2 := (P4.out 2 _ rfl).1
    obtain ⟨p0, q0, rfl⟩ := own_slice S4.out.2.1
    go_wp2_with fail
    refine (HIM.out _ S4.out.2.2.1 _ _ _ KX4.out.is).mono ?_
    rintro e w5 ⟨vg, FG, rfl, oG, fG, b5⟩
    obtain ⟨pg, qg, rfl⟩ := own_slice oG
    have h45 := b5.size
    rw [hsz4] at h45
    have G5 : Hid (LnG w [.slice a1 u.recs.length c1, .slice a2 u.globs.length c2, .slice a3 u.procs.length c3] (.slice p0 L.length q0) L FW (.slice pg L.length qg) L FG w5) := Lib.hid ⟨S4.out.later b5, oG, fun b hb => ⟨by have h1 := (fG b hb).1; have h2 := S4.out.2.2.2.2; omega, (fG b hb).2, fun e => by have h1 := (fG b hb).1; have h2 := (S4.out.2.2.2.1 b e).2; omega⟩⟩
    have FXG : Hid (∀ b ∈ F1 ++ (F2 ++ F3), w.heap.size < b ∧ b ∉ FW ∧ b ∉ FG) := Lib.hid (fun b hb => ⟨(FXB.out b hb).1, (FXB.out b hb).2.1, fun e => by have h1 := (fG b e).1; rw [hsz4] at h1; have h2 := (FXB.out b hb).2.2; omega⟩)
    have KX5 := Lib.hid (KX4.out.keep (w' := w5) (fun b hb => b5.block b (by rw [hsz4]; have := (FXB.out b hb).2.2; omega)))
    have P5 := Lib.hid (P4.out.later b5)
    have FX5 : Hid (∀ b ∈ F1 ++ (F2 ++ F3), b < w5.heap.size) := Lib.hid (fun b hb => by have := (FXB.out b hb).2.2; omega)
    clear oG fG b5 h45 hsz4 S4 KX4 P4 FXB L4 e0 e1 e2
    go_wp2_with fail
    refine (HEL.out _ _ _ G5.out.2.1.is G5.out.1.2.1.is).mono ?_
    rintro e w6 ⟨rfl, b6⟩
    have G6 := Lib.hid (G5.out.later b6)
    have KX6 := Lib.hid (KX5.out.keep (w' := w6) (fun b hb => b6.block b (FX5.out b hb)))
    have P6 := Lib.hid (P5.out.later b6)
    have FX6 := Lib.hid (fun b hb => Nat.lt_of_lt_of_le (FX5.out b hb) b6.size)
    clear b6 G5 KX5 P5 FX5
    have e0 := (P6.out 0 _ rfl).1
    have e1 := (P6.out 1 _ rfl).1
    have e2 := (P6.out 2 _ rfl).1
    have f0 := (G6.out.1.1 0 _ rfl).1
    have f1 := (G6.out.1.1 1 _ rfl).1
    have f2 := (G6.out.1.1 2 _ rfl).1
    go_wp2_with fail
    go_cut [35] (fun s6 wx => s6 = .bool false ∧ LnG w [.slice a1 u.recs.length c1, .slice a2 u.globs.length c2, .slice a3 u.procs.length c3] (.slice p0 L.length q0) L FW (.slice pg L.length qg) L FG wx ∧ (UnOwn wx u (.slice y1 u.recs.length g1) (.slice y2 u.globs.length g2) (.slice y3 u.procs.length g3) F1 F2 F3 ∧ Var wx w4.heap.size [.slice y1 u.recs.length g1, .slice y2 u.globs.length g2, .slice y3 u.procs.length g3]) ∧ ∀ b ∈ F1 ++ (F2 ++ F3), b < wx.heap.size)
    case first =>
      go_region_with (first
        | (go_at_call 7; refine (HTO.out _ G6.out.1.2.2.1.drew).mono ?_; rintro e w7 ⟨x1, x2, x3, H1, H2, H3, rfl, o7, _, b7⟩; obtain ⟨ma, mb, rfl⟩ := is_slice o7.is.1; obtain ⟨mc, md, rfl⟩ := is_slice o7.is.2.1; obtain ⟨me, mf, rfl⟩ := is_slice o7.is.2.2; have K7 := Lib.hid o7.is; have bb7 : Below w6.heap.size w6 w7 := ⟨b7.os, b7.tape, b7.output, b7.size, b7.block⟩; have G7 := Lib.hid (G6.out.later bb7); have KX7 := Lib.hid (KX6.out.keep (w' := w7) (fun b hb => bb7.block b (FX6.out b hb))); have P7 := Lib.hid (P6.out.later bb7); have FX7 := Lib.hid (fun b hb => Nat.lt_of_lt_of_le (FX6.out b hb) bb7.size); have p0 := (P7.out 0 _ rfl).1; have p1 := (P7.out 1 _ rfl).1; have p2 := (P7.out 2 _ rfl).1; clear o7 b7 bb7)
        | (go_at_call 10; refine (HEQ.out _ _ _ _ _ _ _ KX7.out.is K7.out).mono ?_; rintro e w8 ⟨rfl, b8⟩; have G8 := Lib.hid (G7.out.later b8); have KX8 := Lib.hid (KX7.out.keep (w' := w8) (fun b hb => b8.block b (FX7.out b hb))); have P8 := Lib.hid (P7.out.later b8); have FX8 := Lib.hid (fun b hb => Nat.lt_of_lt_of_le (FX7.out b hb) b8.size); clear b8))
      all_goals (go_wp2_with fail; go_meet; exact ⟨rfl, G8.out, ⟨KX8.out, P8.out⟩, FX8.out⟩)
    case rest =>
      obtain ⟨rfl, hG, ⟨hKX, hP5⟩, hFX⟩ := hcut
      have G9 := Lib.hid hG
      have KX9 := Lib.hid hKX
      have FX9 := Lib.hid hFX
      have e0 := (hP5 0 _ rfl).1
      have e1 := (hP5 1 _ rfl).1
      have e2 := (hP5 2 _ rfl).1
      clear hG hKX hP5 hFX G6 KX6 P6 FX6 f0 f1 f2
      go_wp2_with fail
      refine (HMU.out _ _ _ _ _ _ _ KX9.out FX9.out).mono ?_
      rintro e w10 ⟨rfl, _, on10⟩
      have G10 := Lib.hid (G9.out.only on10 FXG.out)
      clear on10 G9 KX9 FX9 e0 e1 e2
      go_wp2_with fail
      refine (HEL.out _ _ _ G10.out.2.1.is G10.out.1.2.1.is).mono ?_
      rintro e w11 ⟨rfl, b11⟩
      have G11 := Lib.hid (G10.out.later b11)
      clear b11 G10
      go_wp2_with fail
      refine (HMG.out _ _ _ G11.out.2.1 (fun b hb => (G11.out.2.2 b hb).2.1)).mono ?_
      rintro e w12 ⟨rfl, hk12, on12⟩
      have G12 := Lib.hid (G11.out.own hk12 on12)
      clear hk12 on12 G11
      go_wp2_with fail
      refine (HHG.out _ _ G12.out.2.1.is).mono ?_
      rintro e w13 ⟨rfl, b13⟩
      have G13 := Lib.hid (G12.out.later b13)
      have e0 := (G13.out.1.1 0 _ rfl).1
      have e1 := (G13.out.1.1 1 _ rfl).1
      have e2 := (G13.out.1.1 2 _ rfl).1
      clear b13 G12
      go_wp2_with fail
      refine (HTO.out _ G13.out.1.2.2.1).mono ?_
      rintro e w14 ⟨x1, x2, x3, H1, H2, H3, rfl, oH, _, b14⟩
      obtain ⟨ha, hb, rfl⟩ := is_slice oH.is.1
      obtain ⟨hc, hd, rfl⟩ := is_slice oH.is.2.1
      obtain ⟨he, hf, rfl⟩ := is_slice oH.is.2.2
      have KH14 := Lib.hid oH.is
      have G14 := Lib.hid (G13.out.later b14)
      clear oH b14 G13 e0 e1 e2
      go_wp2_with fail
      refine (HIM.out _ G14.out.1.2.2.1 _ _ _ KH14.out).mono ?_
      rintro e w15 ⟨vh, FH, rfl, oH, _, b15⟩
      obtain ⟨ph, qh, rfl⟩ := own_slice oH
      have H15 := Lib.hid oH.is
      have G15 := Lib.hid (G14.out.later b15)
      clear oH b15 G14 KH14
      go_wp2_with fail
      refine (HEL.out _ _ _ H15.out G15.out.1.2.1.is).mono ?_
      rintro e w16 ⟨rfl, b16⟩
      have G16 := Lib.hid (G15.out.later b16)
      clear b16 G15 H15
      go_wp2_with fail
      refine (HHG.out _ _ G16.out.2.1.is).mono ?_
      rintro e w17 ⟨rfl, b17⟩
      have B17 := Lib.hid (G16.out.1.2.2.1.trans (b17.mono G16.out.1.2.2.1.size))
      clear b17 G16
      go_wp2
      go_ret
      exact ⟨rfl, B17.out⟩
  · rw [szR_no hb] at HSZ
    clear hok hb hN
    obtain ⟨a1, c1, rfl⟩ := is_slice hk.1
    obtain ⟨a2, c2, rfl⟩ := is_slice hk.2.1
    obtain ⟨a3, c3, rfl⟩ := is_slice hk.2.2
    clear hk
    go_enter Tryz.func3, Tryz.ntmps3
    go_wp2_with fail
    refine (HSZ.out _ (bl1 _ _)).mono ?_
    rintro e w1 ⟨rfl, b1⟩
    have B1 := Lib.hid (below_then (bl1 _ _) b1)
    clear b1
    go_wp2
    go_ret
    exact ⟨rfl, B1.out⟩
end Go.Proofs.YtckjmmapekaapaaGreatDoor
/- What the row's list gives a walk: the table holds the functions' names. No conditions. -/
namespace Go.Proofs.YtckjmmapekaapaaGreatDoor
open Go.RowKit
set_option linter.unusedVariables false

theorem gNames : Tryz.prog.globalNamed "loop.example/g03106/impl.functionNames" = some 0 := by kernel_rfl
theorem gNamesType : (Tryz.prog.globals[0]?).map (·.type) = some 143 := by kernel_rfl
theorem cellsNames : Tryz.prog.cellsOf 143 = 55 := by kernel_rfl
theorem cellsName : Tryz.prog.cellsOf 9 = 1 := by kernel_rfl
theorem names_laid {H : Type} : (Rows.laid_loop_example_g03106_impl_functionNames : DataW H) = .agg (funL.map fun x => .lit (.string x.data.toList)) := rfl
theorem names_of {W : World} (hL : laidMetH Tryz.prog [("loop.example/g03106/impl.functionNames", Rows.laid_loop_example_g03106_impl_functionNames)] W) : NamesAt W := by
  rw [MakeChecks.laidMetH_plain _ _ _ (by kernel_rfl)] at hL
  obtain ⟨ps, ⟨g, t, cs, fuel, p, q, hg, ht, hvar, hd, _, _⟩, _⟩ := hL
  obtain rfl := Option.some.inj (gNames.symm.trans hg)
  obtain rfl := Option.some.inj (gNamesType.symm.trans ht)
  have hcs : cs = (funL.map Value.string).toArray := by
    obtain ⟨xs, m, rfl, hx, hl, hxl, hall⟩ := DataW.trod_array Tryz.underlying143 hd
    rw [cellsNames] at hl
    rw [cellsName] at hall
    simp only [Prod.mk.injEq] at hx
    have hxd := hx.1
    rw [names_laid] at hxd
    simp only [DataW.agg.injEq] at hxd
    apply Array.toList_inj.1
    apply List.ext_getElem?
    intro i
    by_cases hi : i < 55
    · have h1 := hall i hi
      have hxi : ∃ y, xs[i]? = some y := ⟨_, List.getElem?_eq_getElem (by rw [hxl]; exact hi)⟩
      obtain ⟨y, hy⟩ := hxi
      rw [hy] at h1
      obtain ⟨s, e0, e1, _⟩ := DataW.trod_string Tryz.underlying9 h1
      have hfi : i < funL.length := by rw [funL_len]; exact hi
      have h2 := congrArg (fun l => l[i]?) hxd
      simp only [List.getElem?_map, hy, List.getElem?_eq_getElem hfi, Option.map_some, Option.some.injEq] at h2
      rw [e1] at h2
      simp only [DataW.lit.injEq, Lit.string.injEq] at h2
      have h3 : s = funL[i] := by
        cases s; cases hq : funL[i]
        rw [hq] at h2
        exact congrArg ByteArray.mk (Array.toList_inj.1 h2.symm)
      have h4 : cs.toList[i]? = some (.string s) := by
        have := congrArg (fun l => l[0]?) e0
        simp at this
        simpa using this
      rw [h4, h3]
      simp [hfi]
    · rw [List.getElem?_eq_none (by omega), List.getElem?_eq_none (by simp [funL_len]; omega)]
  subst hcs
  unfold World.var? at hvar
  rw [gNames] at hvar
  simp only [Option.bind_some] at hvar
  split at hvar
  · rename_i cs2 t2 fr2 hh
    obtain rfl := Option.some.inj hvar
    exact ⟨t2, fr2, hh⟩
  · cases hvar
end Go.Proofs.YtckjmmapekaapaaGreatDoor
