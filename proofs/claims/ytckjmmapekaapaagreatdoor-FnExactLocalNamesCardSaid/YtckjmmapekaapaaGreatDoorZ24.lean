/- Joined texts: U7, G13, R1. No conditions besides those that each states. -/
import Derived.Test.YtckjmmapekaapaaGreatDoorZ9
import Derived.Test.YtckjmmapekaapaaGreatDoorZ16
import Derived.Test.YtckjmmapekaapaaGreatDoorZ19
import Derived.Test.YtckjmmapekaapaaGreatDoorZ23
/- The laws' comparison of records, procedures and units that are alike. No conditions. -/
namespace Go.Proofs.YtckjmmapekaapaaGreatDoor
open Go.RowKit
set_option linter.unusedVariables false

/-- Two new variables. -/
def Vars2 (w : World) (A B : List Value) (W : World) : Prop := (Var W w.heap.size A ∧ Var W (w.heap.size + 1) B) ∧ Below w.heap.size w W
theorem Vars2.start (w : World) (A B : Array Value) (S T : TypeId) : Vars2 w A.toList B.toList ((w.alloc (.cells A S)).alloc (.cells B T)) := by
  have h1 := Var.new w A S
  have h2 := Var.new (w.alloc (.cells A S)) B T
  rw [World.size_alloc] at h2
  have b1 := bl1 w (.cells A S)
  have b2 := bl1 (w.alloc (.cells A S)) (.cells B T)
  exact ⟨⟨h1.later b2, h2⟩, below_then b1 b2⟩
theorem Vars2.later {w W W' : World} {A B : List Value} (h : Vars2 w A B W) (hb : Below W.heap.size W W') : Vars2 w A B W' := ⟨⟨h.1.1.later hb, h.1.2.later hb⟩, below_then h.2 hb⟩

set_option maxHeartbeats 3200000 in
theorem eq_rec (r : Rc) (hb : r.bulk ≤ 1048576) (w : World) (v1 u1 : Value) (h1 : Is w (strsD r.fields) v1) (g1 : Is w (strsD r.fields) u1) : Calls Tryz.prog 54 #[rcV r v1, rcV r u1] w fun e w' => e = .returned (.bool true) ∧ Below w.heap.size w w' := by
  have hbb := hb
  unfold Rc.bulk at hbb
  have HT1 := Lib.hid (fun W (hW : Below w.heap.size w W) => eq_strsD _ _ r.fields W (h1.later hW) (g1.later hW) (by unfold strsB at hbb; omega))
  obtain ⟨a1, c1, rfl⟩ := is_slice h1
  obtain ⟨b1, d1, rfl⟩ := is_slice g1
  have X0 := Lib.hid (Vars2.start w #[.string r.name, .slice a1 r.fields.length c1, .int .i64 r.line] #[.string r.name, .slice b1 r.fields.length d1, .int .i64 r.line] 69 69)
  clear hbb hb h1 g1
  go_enter Tryz.func54, Tryz.ntmps54
  go_wp2_with fail
  refine (HT1.out _ X0.out.2).mono ?_
  rintro e w1 ⟨rfl, b⟩
  have X1 := Lib.hid (X0.out.later b)
  clear b 
  have p1_2 := (X1.out.1.1 2 _ rfl).1
  have q1_2 := (X1.out.1.2 2 _ rfl).1
  go_wp2
  go_ret
  exact ⟨rfl, X1.out.2⟩
set_option maxHeartbeats 3200000 in
theorem eq_proc (r : Pc) (hb : r.bulk ≤ 1048576) (w : World) (v1 v2 v3 u1 u2 u3 : Value) (h1 : Is w (strsD r.params) v1) (h2 : Is w (strsD r.locals) v2) (h3 : Is w (.ex r.body.kids) v3) (g1 : Is w (strsD r.params) u1) (g2 : Is w (strsD r.locals) u2) (g3 : Is w (.ex r.body.kids) u3) : Calls Tryz.prog 55 #[pcV r v1 v2 v3, pcV r u1 u2 u3] w fun e w' => e = .returned (.bool true) ∧ Below w.heap.size w w' := by
  have hbb := hb
  unfold Pc.bulk at hbb
  have HT1 := Lib.hid (fun W (hW : Below w.heap.size w W) => eq_strsD _ _ r.params W (h1.later hW) (g1.later hW) (by unfold strsB at hbb; omega))
  have HT2 := Lib.hid (fun W (hW : Below w.heap.size w W) => eq_strsD _ _ r.locals W (h2.later hW) (g2.later hW) (by unfold strsB at hbb; omega))
  have HT3 := Lib.hid (fun W (hW : Below w.heap.size w W) => eq_tree _ r.body (Nat.le_refl _) (by omega) W _ _ ((is_ex h3).later hW) ((is_ex g3).later hW))
  obtain ⟨a1, c1, rfl⟩ := is_slice h1
  obtain ⟨b1, d1, rfl⟩ := is_slice g1
  obtain ⟨a2, c2, rfl⟩ := is_slice h2
  obtain ⟨b2, d2, rfl⟩ := is_slice g2
  obtain ⟨a3, c3, rfl⟩ := kids_len (is_ex h3)
  obtain ⟨b3, d3, rfl⟩ := kids_len (is_ex g3)
  have X0 := Lib.hid (Vars2.start w #[.string r.name, .slice a1 r.params.length c1, .slice a2 r.locals.length c2, .int .i64 r.body.kind, .string r.body.text, .int .i64 r.body.num, .int .i64 r.body.line, .slice a3 r.body.kids.length c3, .int .i64 r.line] #[.string r.name, .slice b1 r.params.length d1, .slice b2 r.locals.length d2, .int .i64 r.body.kind, .string r.body.text, .int .i64 r.body.num, .int .i64 r.body.line, .slice b3 r.body.kids.length d3, .int .i64 r.line] 49 49)
  clear hbb hb h1 h2 h3 g1 g2 g3
  go_enter Tryz.func55, Tryz.ntmps55
  go_wp2_with fail
  refine (HT1.out _ X0.out.2).mono ?_
  rintro e w1 ⟨rfl, b⟩
  have X1 := Lib.hid (X0.out.later b)
  clear b 
  have p1_2 := (X1.out.1.1 2 _ rfl).1
  have q1_2 := (X1.out.1.2 2 _ rfl).1
  go_wp2_with fail
  refine (HT2.out _ X1.out.2).mono ?_
  rintro e w2 ⟨rfl, b⟩
  have X2 := Lib.hid (X1.out.later b)
  clear b p1_2 q1_2
  have p2_3 := (X2.out.1.1 3 _ rfl).1
  have q2_3 := (X2.out.1.2 3 _ rfl).1
  have p2_4 := (X2.out.1.1 4 _ rfl).1
  have q2_4 := (X2.out.1.2 4 _ rfl).1
  have p2_5 := (X2.out.1.1 5 _ rfl).1
  have q2_5 := (X2.out.1.2 5 _ rfl).1
  have p2_6 := (X2.out.1.1 6 _ rfl).1
  have q2_6 := (X2.out.1.2 6 _ rfl).1
  have p2_7 := (X2.out.1.1 7 _ rfl).1
  have q2_7 := (X2.out.1.2 7 _ rfl).1
  go_wp2_with fail
  refine (HT3.out _ X2.out.2).mono ?_
  rintro e w3 ⟨rfl, b⟩
  have X3 := Lib.hid (X2.out.later b)
  clear b p2_3 q2_3 p2_4 q2_4 p2_5 q2_5 p2_6 q2_6 p2_7 q2_7
  have p3_8 := (X3.out.1.1 8 _ rfl).1
  have q3_8 := (X3.out.1.2 8 _ rfl).1
  go_wp2
  go_ret
  exact ⟨rfl, X3.out.2⟩
set_option maxRecDepth 100000 in
set_option maxHeartbeats 3200000 in
theorem eq_recs (ks : List Rc) (hb : ∀ r ∈ ks, r.bulk ≤ 1048576) (hln : ks.length ≤ 1048576) (w : World) (v1 v2 : Value) (h1 : Is w (recsD ks) v1) (h2 : Is w (recsD ks) v2) : Calls Tryz.prog 27 #[v1, v2] w fun e w' => e = .returned (.bool true) ∧ Below w.heap.size w w' := by
  obtain ⟨a1, c1, rfl⟩ := is_slice h1
  obtain ⟨a2, c2, rfl⟩ := is_slice h2
  have H1 := Lib.hid h1
  have H2 := Lib.hid h2
  have HI := Lib.hid hb
  clear h1 h2 hb
  go_enter Tryz.func27, Tryz.ntmps27
  go_wp2
  go_loopw [5] (fun i wr => ∃ k : Nat, i = .int .i64 k ∧ k ≤ ks.length ∧ Below w.heap.size w wr) (fun i _ => ks.length - (intOf i).toNat)
  case atStart => exact ⟨0, rfl, Nat.zero_le _, Below.refl _ _⟩
  case round =>
    obtain ⟨k, rfl, hk, hb⟩ := hrel
    have HB := Lib.hid hb
    have HK1 := Lib.hid (H1.out.later hb)
    have HK2 := Lib.hid (H2.out.later hb)
    clear hb
    by_cases hlt : k < ks.length
    · obtain ⟨g1, o1, rfl, ⟨p0, ⟨pv1, p1, pk1⟩, p2⟩⟩ := rec_at HK1.out k hlt
      obtain ⟨g2, o2, rfl, ⟨q0, ⟨qv1, q1, qk1⟩, q2⟩⟩ := rec_at HK2.out k hlt
      have HC := Lib.hid (fun W (hW : Below wr.heap.size wr W) => eq_rec ks[k] (HI.out _ (List.getElem_mem hlt)) W pv1 qv1 (pk1.later hW) (qk1.later hW))
      obtain ⟨pa1, pc1, rfl⟩ := is_slice pk1
      obtain ⟨qa1, qc1, rfl⟩ := is_slice qk1
      have k0 : (0 : Int) ≤ k := by omega
      have k1 : (k : Int) < ks.length := by omega
      clear pk1 qk1
      generalize ks[k] = x at p0 p1 p2 q0 q1 q2 HC
      go_wp2_with fail
      go_still_tail 8, (by kernel_rfl)
      change wpList _ _ _ _ _ wr.drew
      have HC2 := Lib.hid (HC.out wr.drew ((Below.refl _ _).drew))
      have HB2 := Lib.hid HB.out.drew
      clear p0 p1 p2 q0 q1 q2 HK1 HK2 HB HC
      generalize wr.drew = w5 at HC2 HB2 ⊢
      go_wp2_with (go_at_call 54; refine HC2.out.mono ?_; rintro e w6 ⟨rfl, hb6⟩; have HB6 := Lib.hid (below_then HB2.out hb6); clear hb6)
      go_roundw
      case rel => exact ⟨k + 1, by go_num, by omega, HB6.out⟩
      case measure => first | (simp [intOf]; done) | (simp [intOf]; omega)
    · obtain rfl : k = ks.length := by omega
      go_wp2
      go_ret
      exact ⟨rfl, HB.out⟩
set_option maxRecDepth 100000 in
set_option maxHeartbeats 3200000 in
theorem eq_procs (ks : List Pc) (hb : ∀ r ∈ ks, r.bulk ≤ 1048576) (hln : ks.length ≤ 1048576) (w : World) (v1 v2 : Value) (h1 : Is w (procsD ks) v1) (h2 : Is w (procsD ks) v2) : Calls Tryz.prog 28 #[v1, v2] w fun e w' => e = .returned (.bool true) ∧ Below w.heap.size w w' := by
  obtain ⟨a1, c1, rfl⟩ := is_slice h1
  obtain ⟨a2, c2, rfl⟩ := is_slice h2
  have H1 := Lib.hid h1
  have H2 := Lib.hid h2
  have HI := Lib.hid hb
  clear h1 h2 hb
  go_enter Tryz.func28, Tryz.ntmps28
  go_wp2
  go_loopw [5] (fun i wr => ∃ k : Nat, i = .int .i64 k ∧ k ≤ ks.length ∧ Below w.heap.size w wr) (fun i _ => ks.length - (intOf i).toNat)
  case atStart => exact ⟨0, rfl, Nat.zero_le _, Below.refl _ _⟩
  case round =>
    obtain ⟨k, rfl, hk, hb⟩ := hrel
    have HB := Lib.hid hb
    have HK1 := Lib.hid (H1.out.later hb)
    have HK2 := Lib.hid (H2.out.later hb)
    clear hb
    by_cases hlt : k < ks.length
    · obtain ⟨g1, o1, rfl, ⟨p0, ⟨pv1, p1, pk1⟩, ⟨pv2, p2, pk2⟩, ⟨p3, p4, p5, p6⟩, ⟨pv3, p7, pk3⟩, p8⟩⟩ := proc_at HK1.out k hlt
      obtain ⟨g2, o2, rfl, ⟨q0, ⟨qv1, q1, qk1⟩, ⟨qv2, q2, qk2⟩, ⟨q3, q4, q5, q6⟩, ⟨qv3, q7, qk3⟩, q8⟩⟩ := proc_at HK2.out k hlt
      have HC := Lib.hid (fun W (hW : Below wr.heap.size wr W) => eq_proc ks[k] (HI.out _ (List.getElem_mem hlt)) W pv1 pv2 pv3 qv1 qv2 qv3 (pk1.later hW) (pk2.later hW) (by rw [Is]; exact Kids.later pk3 hW) (qk1.later hW) (qk2.later hW) (by rw [Is]; exact Kids.later qk3 hW))
      obtain ⟨pa1, pc1, rfl⟩ := is_slice pk1
      obtain ⟨pa2, pc2, rfl⟩ := is_slice pk2
      obtain ⟨pa3, pc3, rfl⟩ := kids_len pk3
      obtain ⟨qa1, qc1, rfl⟩ := is_slice qk1
      obtain ⟨qa2, qc2, rfl⟩ := is_slice qk2
      obtain ⟨qa3, qc3, rfl⟩ := kids_len qk3
      have k0 : (0 : Int) ≤ k := by omega
      have k1 : (k : Int) < ks.length := by omega
      clear pk1 pk2 pk3 qk1 qk2 qk3
      generalize ks[k] = x at p0 p1 p2 p3 p4 p5 p6 p7 p8 q0 q1 q2 q3 q4 q5 q6 q7 q8 HC
      go_wp2_with fail
      go_still_tail 8, (by kernel_rfl)
      change wpList _ _ _ _ _ wr.drew
      have HC2 := Lib.hid (HC.out wr.drew ((Below.refl _ _).drew))
      have HB2 := Lib.hid HB.out.drew
      clear p0 p1 p2 p3 p4 p5 p6 p7 p8 q0 q1 q2 q3 q4 q5 q6 q7 q8 HK1 HK2 HB HC
      generalize wr.drew = w5 at HC2 HB2 ⊢
      go_wp2_with (go_at_call 55; refine HC2.out.mono ?_; rintro e w6 ⟨rfl, hb6⟩; have HB6 := Lib.hid (below_then HB2.out hb6); clear hb6)
      go_roundw
      case rel => exact ⟨k + 1, by go_num, by omega, HB6.out⟩
      case measure => first | (simp [intOf]; done) | (simp [intOf]; omega)
    · obtain rfl : k = ks.length := by omega
      go_wp2
      go_ret
      exact ⟨rfl, HB.out⟩
set_option maxHeartbeats 3200000 in
theorem eq_unit (r : Un) (hb : r.bulk ≤ 1048576) (w : World) (v1 v2 v3 u1 u2 u3 : Value) (h1 : Is w (recsD r.recs) v1) (h2 : Is w (strsD r.globs) v2) (h3 : Is w (procsD r.procs) v3) (g1 : Is w (recsD r.recs) u1) (g2 : Is w (strsD r.globs) u2) (g3 : Is w (procsD r.procs) u3) : Calls Tryz.prog 10 #[unV v1 v2 v3, unV u1 u2 u3] w fun e w' => e = .returned (.bool true) ∧ Below w.heap.size w w' := by
  have hbb := hb
  unfold Un.bulk recsB strsB procsB at hbb
  have HT1 := Lib.hid (fun W (hW : Below w.heap.size w W) => eq_recs r.recs (fun x hx => by have := wsum_mem Rc.bulk hx; omega) (by omega) W _ _ (h1.later hW) (g1.later hW))
  have HT2 := Lib.hid (fun W (hW : Below w.heap.size w W) => eq_strsD _ _ r.globs W (h2.later hW) (g2.later hW) (by omega))
  have HT3 := Lib.hid (fun W (hW : Below w.heap.size w W) => eq_procs r.procs (fun x hx => by have := wsum_mem Pc.bulk hx; omega) (by omega) W _ _ (h3.later hW) (g3.later hW))
  obtain ⟨a1, c1, rfl⟩ := is_slice h1
  obtain ⟨b1, d1, rfl⟩ := is_slice g1
  obtain ⟨a2, c2, rfl⟩ := is_slice h2
  obtain ⟨b2, d2, rfl⟩ := is_slice g2
  obtain ⟨a3, c3, rfl⟩ := is_slice h3
  obtain ⟨b3, d3, rfl⟩ := is_slice g3
  have X0 := Lib.hid (Vars2.start w #[.slice a1 r.recs.length c1, .slice a2 r.globs.length c2, .slice a3 r.procs.length c3] #[.slice b1 r.recs.length d1, .slice b2 r.globs.length d2, .slice b3 r.procs.length d3] 32 32)
  clear hbb hb h1 h2 h3 g1 g2 g3
  go_enter Tryz.func10, Tryz.ntmps10
  go_wp2_with fail
  refine (HT1.out _ X0.out.2).mono ?_
  rintro e w1 ⟨rfl, b⟩
  have X1 := Lib.hid (X0.out.later b)
  clear b 
  have p1_1 := (X1.out.1.1 1 _ rfl).1
  have q1_1 := (X1.out.1.2 1 _ rfl).1
  go_wp2_with fail
  refine (HT2.out _ X1.out.2).mono ?_
  rintro e w2 ⟨rfl, b⟩
  have X2 := Lib.hid (X1.out.later b)
  clear b p1_1 q1_1
  have p2_2 := (X2.out.1.1 2 _ rfl).1
  have q2_2 := (X2.out.1.2 2 _ rfl).1
  go_wp2_with fail
  refine (HT3.out _ X2.out.2).mono ?_
  rintro e w3 ⟨rfl, b⟩
  have X3 := Lib.hid (X2.out.later b)
  clear b p2_2 q2_2
  go_wp2
  go_ret
  exact ⟨rfl, X3.out.2⟩
end Go.Proofs.YtckjmmapekaapaaGreatDoor
/- A bounded count of nodes, numbers of kids in the reference model. No conditions. -/
namespace Go.Proofs.YtckjmmapekaapaaGreatDoor
open Go.RowKit
set_option linter.unusedVariables false

def LeftT (t : Ex.T) : Prop := t.bulk ≤ 1048576 → ∀ (w : World) (v : Value) (left : Nat), (left : Int) ≤ 1048576 → Kids w v t.kids → Calls Tryz.prog 70 #[exV t v, .int .i64 (left : Int)] w fun e w' => e = .returned (.int .i64 (szR left t.count)) ∧ Below w.heap.size w w'
/-- Where the bounded count stands. -/
def LfAt (ks : List Ex.T) (left k : Nat) (m : Int) : Prop := m = szR left (1 + Ex.counts (ks.take k))
theorem LfAt.start (ks : List Ex.T) (left : Nat) : LfAt ks left 0 ((left : Int) - 1) := by
  unfold LfAt szR
  simp only [List.take_zero, Ex.counts]
  split <;> omega
theorem LfAt.next {ks : List Ex.T} {left k : Nat} {m : Int} (h : LfAt ks left k m) (hk : k < ks.length) (n : Nat) (hn : m = n) : LfAt ks left (k + 1) (szR n ks[k].count) := by
  unfold LfAt at h ⊢
  rw [Ex.counts_take ks k hk]
  unfold szR at h ⊢
  split at h <;> (split <;> split <;> omega)
theorem LfAt.over {ks : List Ex.T} {left : Nat} {m : Int} (h : LfAt ks left ks.length m) : szR left (1 + Ex.counts ks) = m := by
  unfold LfAt at h
  rw [List.take_length] at h; exact h.symm
theorem LfAt.bad {ks : List Ex.T} {left k : Nat} {m : Int} (h : LfAt ks left k m) (hm : m < 0) : szR left (1 + Ex.counts ks) = m := by
  unfold LfAt at h
  have := Ex.counts_take_le ks k
  unfold szR at h ⊢
  split at h
  · omega
  · rw [if_neg (by omega)]; exact h.symm
theorem LfAt.ge {ks : List Ex.T} {left k : Nat} {m : Int} (h : LfAt ks left k m) : -1 ≤ m ∧ m ≤ left := by
  unfold LfAt szR at h
  split at h <;> omega
set_option maxHeartbeats 1600000 in
theorem spec_leftT : ∀ (N : Nat) (t : Ex.T), t.count ≤ N → LeftT t := by
  intro N
  induction N with
  | zero => intro t h; have := Ex.count_pos t; omega
  | succ N ih =>
    intro t hN hb w v left hs hk
    have hbe := bulk_eq t
    obtain ⟨a, c, rfl⟩ := kids_len hk
    have HI := Lib.hid (fun (x : Ex.T) (hx : x ∈ t.kids) => ih x (by have := kids_count hx; omega) (by have := Ex.bulks_mem hx; omega))
    have HK := Lib.hid hk
    have HCE := Lib.hid (count_eq t)
    have hln : t.kids.length ≤ 1048576 := by omega
    have HE0 := Lib.hid (CellsE.new w t (.slice a t.kids.length c) 47)
    have HST := Lib.hid (LfAt.start t.kids left)
    clear ih hN hb hk hbe
    go_enter Tryz.func70, Tryz.ntmps70
    go_wp2
    go_loopw [1, 5] (fun m i wr => ∃ (k : Nat) (n : Int), i = .int .i64 k ∧ m = .int .i64 n ∧ k ≤ t.kids.length ∧ LfAt t.kids left k n ∧ CellsE wr w.heap.size t (.slice a t.kids.length c) ∧ Below w.heap.size w wr) (fun _ i _ => t.kids.length - (intOf i).toNat)
    case atStart => exact ⟨0, _, rfl, rfl, by omega, HST.out, HE0.out, bl1 _ _⟩
    case round =>
      clear HE0 HST
      obtain ⟨k, n, rfl, rfl, hkk, hat, hce, hb⟩ := hrel
      have HAT := Lib.hid hat
      have HB := Lib.hid hb
      have HE := Lib.hid hce
      have HK2 := Lib.hid (HK.out.later hb)
      obtain ⟨hg1, hg2⟩ := hat.ge
      obtain ⟨e0, e1, e2, e3, e4⟩ := hce
      clear hat hb e0 e1 e2 e3
      by_cases hlt : k < t.kids.length
      · have k0 : (0 : Int) ≤ k := by omega
        have k1 : (k : Int) < t.kids.length := by omega
        by_cases hn : 0 ≤ n
        · obtain ⟨g, o, rfl, ht⟩ := kids_at HK2.out k hlt
          obtain ⟨⟨q0, q1, q2, q3⟩, v, q4, hkv⟩ := tree_cells ht
          obtain ⟨m, rfl⟩ : ∃ m : Nat, n = m := ⟨n.toNat, by omega⟩
          have HC := Lib.hid (HI.out t.kids[k] (List.getElem_mem hlt) wr v m (by omega) hkv)
          have HN := Lib.hid (HAT.out.next hlt m rfl)
          clear ht hkv HAT
          generalize t.kids[k] = x at q0 q1 q2 q3 HC HN
          generalize szR m x.count = z at HC HN
          go_wp2_with (go_at_call 70; refine HC.out.mono ?_; rintro e w1 ⟨rfl, hb1⟩; have HB1 := Lib.hid (below_then HB.out hb1); have HE1 := Lib.hid (HE.out.later hb1); clear hb1)
          go_roundw
          case rel => exact ⟨k + 1, z, by go_num, rfl, by omega, HN.out, HE1.out, HB1.out⟩
          case measure => first | (simp [intOf]; done) | (simp [intOf]; omega)
        · have HN := Lib.hid (HAT.out.bad (by omega))
          go_wp2
          go_ret
          exact ⟨ret_ei (by rw [HCE.out, HN.out]), HB.out⟩
      · obtain rfl : k = t.kids.length := by omega
        have HN := Lib.hid HAT.out.over
        go_wp2
        go_ret
        exact ⟨ret_ei (by rw [HCE.out, HN.out]), HB.out⟩
/-- The least and the greatest number of kids of a kind. -/
def Ex.kidsOf (k : Int) : Int × Int := if k = 6 then (0, 8) else if k = 7 then (1, 1) else if k = 8 then (2, 2) else if k = 9 then (2, 3) else if k = 10 then (1, 9) else if k = 11 then (2, 2) else if k = 12 then (3, 3) else if k = 13 then (1, 1) else if k = 14 then (0, 24) else if k = 15 then (2, 3) else if k = 16 then (1, 2) else if k = 17 then (1, 2) else if k = 18 then (1, 2) else if k = 19 then (1, 1) else if k = 20 then (1, 14) else if k = 21 then (0, 1) else if k = 22 then (0, 2) else if k = 24 then (0, 1) else if k = 26 then (1, 1) else if k = 27 then (1, 1) else if k = 29 then (2, 8) else (0, 0)
theorem counts_6 (t : Ex.T) (v : Value) (w : World) (h : t.kind = 6) : Calls Tryz.prog 91 #[exV t v] w fun e w' => e = .returned (.tuple #[.int .i64 0, .int .i64 8]) ∧ Below w.heap.size w w' := by
  go_enter Tryz.func91, Tryz.ntmps91
  go_wp2
  go_ret2
  exact ⟨rfl, bl1 _ _⟩
theorem counts_7 (t : Ex.T) (v : Value) (w : World) (h : t.kind = 7) : Calls Tryz.prog 91 #[exV t v] w fun e w' => e = .returned (.tuple #[.int .i64 1, .int .i64 1]) ∧ Below w.heap.size w w' := by
  go_enter Tryz.func91, Tryz.ntmps91
  go_wp2
  go_ret2
  exact ⟨rfl, bl1 _ _⟩
theorem counts_8 (t : Ex.T) (v : Value) (w : World) (h : t.kind = 8) : Calls Tryz.prog 91 #[exV t v] w fun e w' => e = .returned (.tuple #[.int .i64 2, .int .i64 2]) ∧ Below w.heap.size w w' := by
  go_enter Tryz.func91, Tryz.ntmps91
  go_wp2
  go_ret2
  exact ⟨rfl, bl1 _ _⟩
theorem counts_9 (t : Ex.T) (v : Value) (w : World) (h : t.kind = 9) : Calls Tryz.prog 91 #[exV t v] w fun e w' => e = .returned (.tuple #[.int .i64 2, .int .i64 3]) ∧ Below w.heap.size w w' := by
  go_enter Tryz.func91, Tryz.ntmps91
  go_wp2
  go_ret2
  exact ⟨rfl, bl1 _ _⟩
theorem counts_10 (t : Ex.T) (v : Value) (w : World) (h : t.kind = 10) : Calls Tryz.prog 91 #[exV t v] w fun e w' => e = .returned (.tuple #[.int .i64 1, .int .i64 9]) ∧ Below w.heap.size w w' := by
  go_enter Tryz.func91, Tryz.ntmps91
  go_wp2
  go_ret2
  exact ⟨rfl, bl1 _ _⟩
theorem counts_11 (t : Ex.T) (v : Value) (w : World) (h : t.kind = 11) : Calls Tryz.prog 91 #[exV t v] w fun e w' => e = .returned (.tuple #[.int .i64 2, .int .i64 2]) ∧ Below w.heap.size w w' := by
  go_enter Tryz.func91, Tryz.ntmps91
  go_wp2
  go_ret2
  exact ⟨rfl, bl1 _ _⟩
theorem counts_12 (t : Ex.T) (v : Value) (w : World) (h : t.kind = 12) : Calls Tryz.prog 91 #[exV t v] w fun e w' => e = .returned (.tuple #[.int .i64 3, .int .i64 3]) ∧ Below w.heap.size w w' := by
  go_enter Tryz.func91, Tryz.ntmps91
  go_wp2
  go_ret2
  exact ⟨rfl, bl1 _ _⟩
theorem counts_13 (t : Ex.T) (v : Value) (w : World) (h : t.kind = 13) : Calls Tryz.prog 91 #[exV t v] w fun e w' => e = .returned (.tuple #[.int .i64 1, .int .i64 1]) ∧ Below w.heap.size w w' := by
  go_enter Tryz.func91, Tryz.ntmps91
  go_wp2
  go_ret2
  exact ⟨rfl, bl1 _ _⟩
theorem counts_14 (t : Ex.T) (v : Value) (w : World) (h : t.kind = 14) : Calls Tryz.prog 91 #[exV t v] w fun e w' => e = .returned (.tuple #[.int .i64 0, .int .i64 24]) ∧ Below w.heap.size w w' := by
  go_enter Tryz.func91, Tryz.ntmps91
  go_wp2
  go_ret2
  exact ⟨rfl, bl1 _ _⟩
theorem counts_15 (t : Ex.T) (v : Value) (w : World) (h : t.kind = 15) : Calls Tryz.prog 91 #[exV t v] w fun e w' => e = .returned (.tuple #[.int .i64 2, .int .i64 3]) ∧ Below w.heap.size w w' := by
  go_enter Tryz.func91, Tryz.ntmps91
  go_wp2
  go_ret2
  exact ⟨rfl, bl1 _ _⟩
theorem counts_16 (t : Ex.T) (v : Value) (w : World) (h : t.kind = 16) : Calls Tryz.prog 91 #[exV t v] w fun e w' => e = .returned (.tuple #[.int .i64 1, .int .i64 2]) ∧ Below w.heap.size w w' := by
  go_enter Tryz.func91, Tryz.ntmps91
  go_wp2
  go_ret2
  exact ⟨rfl, bl1 _ _⟩
theorem counts_17 (t : Ex.T) (v : Value) (w : World) (h : t.kind = 17) : Calls Tryz.prog 91 #[exV t v] w fun e w' => e = .returned (.tuple #[.int .i64 1, .int .i64 2]) ∧ Below w.heap.size w w' := by
  go_enter Tryz.func91, Tryz.ntmps91
  go_wp2
  go_ret2
  exact ⟨rfl, bl1 _ _⟩
theorem counts_18 (t : Ex.T) (v : Value) (w : World) (h : t.kind = 18) : Calls Tryz.prog 91 #[exV t v] w fun e w' => e = .returned (.tuple #[.int .i64 1, .int .i64 2]) ∧ Below w.heap.size w w' := by
  go_enter Tryz.func91, Tryz.ntmps91
  go_wp2
  go_ret2
  exact ⟨rfl, bl1 _ _⟩
theorem counts_19 (t : Ex.T) (v : Value) (w : World) (h : t.kind = 19) : Calls Tryz.prog 91 #[exV t v] w fun e w' => e = .returned (.tuple #[.int .i64 1, .int .i64 1]) ∧ Below w.heap.size w w' := by
  go_enter Tryz.func91, Tryz.ntmps91
  go_wp2
  go_ret2
  exact ⟨rfl, bl1 _ _⟩
theorem counts_20 (t : Ex.T) (v : Value) (w : World) (h : t.kind = 20) : Calls Tryz.prog 91 #[exV t v] w fun e w' => e = .returned (.tuple #[.int .i64 1, .int .i64 14]) ∧ Below w.heap.size w w' := by
  go_enter Tryz.func91, Tryz.ntmps91
  go_wp2
  go_ret2
  exact ⟨rfl, bl1 _ _⟩
theorem counts_21 (t : Ex.T) (v : Value) (w : World) (h : t.kind = 21) : Calls Tryz.prog 91 #[exV t v] w fun e w' => e = .returned (.tuple #[.int .i64 0, .int .i64 1]) ∧ Below w.heap.size w w' := by
  go_enter Tryz.func91, Tryz.ntmps91
  go_wp2
  go_ret2
  exact ⟨rfl, bl1 _ _⟩
theorem counts_22 (t : Ex.T) (v : Value) (w : World) (h : t.kind = 22) : Calls Tryz.prog 91 #[exV t v] w fun e w' => e = .returned (.tuple #[.int .i64 0, .int .i64 2]) ∧ Below w.heap.size w w' := by
  go_enter Tryz.func91, Tryz.ntmps91
  go_wp2
  go_ret2
  exact ⟨rfl, bl1 _ _⟩
theorem counts_24 (t : Ex.T) (v : Value) (w : World) (h : t.kind = 24) : Calls Tryz.prog 91 #[exV t v] w fun e w' => e = .returned (.tuple #[.int .i64 0, .int .i64 1]) ∧ Below w.heap.size w w' := by
  go_enter Tryz.func91, Tryz.ntmps91
  go_wp2
  go_ret2
  exact ⟨rfl, bl1 _ _⟩
theorem counts_26 (t : Ex.T) (v : Value) (w : World) (h : t.kind = 26) : Calls Tryz.prog 91 #[exV t v] w fun e w' => e = .returned (.tuple #[.int .i64 1, .int .i64 1]) ∧ Below w.heap.size w w' := by
  go_enter Tryz.func91, Tryz.ntmps91
  go_wp2
  go_ret2
  exact ⟨rfl, bl1 _ _⟩
theorem counts_27 (t : Ex.T) (v : Value) (w : World) (h : t.kind = 27) : Calls Tryz.prog 91 #[exV t v] w fun e w' => e = .returned (.tuple #[.int .i64 1, .int .i64 1]) ∧ Below w.heap.size w w' := by
  go_enter Tryz.func91, Tryz.ntmps91
  go_wp2
  go_ret2
  exact ⟨rfl, bl1 _ _⟩
theorem counts_29 (t : Ex.T) (v : Value) (w : World) (h : t.kind = 29) : Calls Tryz.prog 91 #[exV t v] w fun e w' => e = .returned (.tuple #[.int .i64 2, .int .i64 8]) ∧ Below w.heap.size w w' := by
  go_enter Tryz.func91, Tryz.ntmps91
  go_wp2
  go_ret2
  exact ⟨rfl, bl1 _ _⟩
theorem counts_no (t : Ex.T) (v : Value) (w : World) (h6 : (t.kind == 6) = false) (h7 : (t.kind == 7) = false) (h8 : (t.kind == 8) = false) (h9 : (t.kind == 9) = false) (h10 : (t.kind == 10) = false) (h11 : (t.kind == 11) = false) (h12 : (t.kind == 12) = false) (h13 : (t.kind == 13) = false) (h14 : (t.kind == 14) = false) (h15 : (t.kind == 15) = false) (h16 : (t.kind == 16) = false) (h17 : (t.kind == 17) = false) (h18 : (t.kind == 18) = false) (h19 : (t.kind == 19) = false) (h20 : (t.kind == 20) = false) (h21 : (t.kind == 21) = false) (h22 : (t.kind == 22) = false) (h24 : (t.kind == 24) = false) (h26 : (t.kind == 26) = false) (h27 : (t.kind == 27) = false) (h29 : (t.kind == 29) = false) : Calls Tryz.prog 91 #[exV t v] w fun e w' => e = .returned (.tuple #[.int .i64 0, .int .i64 0]) ∧ Below w.heap.size w w' := by
  go_enter Tryz.func91, Tryz.ntmps91
  go_wp2
  go_ret2
  exact ⟨rfl, bl1 _ _⟩
theorem spec_counts (t : Ex.T) (v : Value) (w : World) : Calls Tryz.prog 91 #[exV t v] w fun e w' => e = .returned (.tuple #[.int .i64 (Ex.kidsOf t.kind).1, .int .i64 (Ex.kidsOf t.kind).2]) ∧ Below w.heap.size w w' := by
  by_cases h6 : t.kind = 6
  · rw [show Ex.kidsOf t.kind = (0, 8) by rw [h6]; rfl]; exact counts_6 t v w h6
  by_cases h7 : t.kind = 7
  · rw [show Ex.kidsOf t.kind = (1, 1) by rw [h7]; rfl]; exact counts_7 t v w h7
  by_cases h8 : t.kind = 8
  · rw [show Ex.kidsOf t.kind = (2, 2) by rw [h8]; rfl]; exact counts_8 t v w h8
  by_cases h9 : t.kind = 9
  · rw [show Ex.kidsOf t.kind = (2, 3) by rw [h9]; rfl]; exact counts_9 t v w h9
  by_cases h10 : t.kind = 10
  · rw [show Ex.kidsOf t.kind = (1, 9) by rw [h10]; rfl]; exact counts_10 t v w h10
  by_cases h11 : t.kind = 11
  · rw [show Ex.kidsOf t.kind = (2, 2) by rw [h11]; rfl]; exact counts_11 t v w h11
  by_cases h12 : t.kind = 12
  · rw [show Ex.kidsOf t.kind = (3, 3) by rw [h12]; rfl]; exact counts_12 t v w h12
  by_cases h13 : t.kind = 13
  · rw [show Ex.kidsOf t.kind = (1, 1) by rw [h13]; rfl]; exact counts_13 t v w h13
  by_cases h14 : t.kind = 14
  · rw [show Ex.kidsOf t.kind = (0, 24) by rw [h14]; rfl]; exact counts_14 t v w h14
  by_cases h15 : t.kind = 15
  · rw [show Ex.kidsOf t.kind = (2, 3) by rw [h15]; rfl]; exact counts_15 t v w h15
  by_cases h16 : t.kind = 16
  · rw [show Ex.kidsOf t.kind = (1, 2) by rw [h16]; rfl]; exact counts_16 t v w h16
  by_cases h17 : t.kind = 17
  · rw [show Ex.kidsOf t.kind = (1, 2) by rw [h17]; rfl]; exact counts_17 t v w h17
  by_cases h18 : t.kind = 18
  · rw [show Ex.kidsOf t.kind = (1, 2) by rw [h18]; rfl]; exact counts_18 t v w h18
  by_cases h19 : t.kind = 19
  · rw [show Ex.kidsOf t.kind = (1, 1) by rw [h19]; rfl]; exact counts_19 t v w h19
  by_cases h20 : t.kind = 20
  · rw [show Ex.kidsOf t.kind = (1, 14) by rw [h20]; rfl]; exact counts_20 t v w h20
  by_cases h21 : t.kind = 21
  · rw [show Ex.kidsOf t.kind = (0, 1) by rw [h21]; rfl]; exact counts_21 t v w h21
  by_cases h22 : t.kind = 22
  · rw [show Ex.kidsOf t.kind = (0, 2) by rw [h22]; rfl]; exact counts_22 t v w h22
  by_cases h24 : t.kind = 24
  · rw [show Ex.kidsOf t.kind = (0, 1) by rw [h24]; rfl]; exact counts_24 t v w h24
  by_cases h26 : t.kind = 26
  · rw [show Ex.kidsOf t.kind = (1, 1) by rw [h26]; rfl]; exact counts_26 t v w h26
  by_cases h27 : t.kind = 27
  · rw [show Ex.kidsOf t.kind = (1, 1) by rw [h27]; rfl]; exact counts_27 t v w h27
  by_cases h29 : t.kind = 29
  · rw [show Ex.kidsOf t.kind = (2, 8) by rw [h29]; rfl]; exact counts_29 t v w h29
  rw [show Ex.kidsOf t.kind = (0, 0) by unfold Ex.kidsOf; rw [if_neg h6, if_neg h7, if_neg h8, if_neg h9, if_neg h10, if_neg h11, if_neg h12, if_neg h13, if_neg h14, if_neg h15, if_neg h16, if_neg h17, if_neg h18, if_neg h19, if_neg h20, if_neg h21, if_neg h22, if_neg h24, if_neg h26, if_neg h27, if_neg h29]]
  exact counts_no t v w (beq_eq_false_iff_ne.2 h6) (beq_eq_false_iff_ne.2 h7) (beq_eq_false_iff_ne.2 h8) (beq_eq_false_iff_ne.2 h9) (beq_eq_false_iff_ne.2 h10) (beq_eq_false_iff_ne.2 h11) (beq_eq_false_iff_ne.2 h12) (beq_eq_false_iff_ne.2 h13) (beq_eq_false_iff_ne.2 h14) (beq_eq_false_iff_ne.2 h15) (beq_eq_false_iff_ne.2 h16) (beq_eq_false_iff_ne.2 h17) (beq_eq_false_iff_ne.2 h18) (beq_eq_false_iff_ne.2 h19) (beq_eq_false_iff_ne.2 h20) (beq_eq_false_iff_ne.2 h21) (beq_eq_false_iff_ne.2 h22) (beq_eq_false_iff_ne.2 h24) (beq_eq_false_iff_ne.2 h26) (beq_eq_false_iff_ne.2 h27) (beq_eq_false_iff_ne.2 h29)
end Go.Proofs.YtckjmmapekaapaaGreatDoor
/- Words in the program: keywords, reserved words. No conditions. -/
namespace Go.Proofs.YtckjmmapekaapaaGreatDoor
open Go.RowKit
set_option linter.unusedVariables false

theorem word_yes {l : List (List UInt8)} {s : ByteArray} {x : List UInt8} (h : (s.toList == x) = true) (hx : l.contains x = true) : Ending.returned (.bool true) = .returned (.bool (hasW l s.data.toList)) := by
  have h2 := beq_iff_eq.1 h
  rw [ByteArray.toList_eq] at h2
  unfold hasW; rw [h2, hx]
theorem word_no {l : List (List UInt8)} {s : ByteArray} (h : l.contains s.toList = false) : Ending.returned (.bool false) = .returned (.bool (hasW l s.data.toList)) := by
  rw [ByteArray.toList_eq] at h
  unfold hasW; rw [h]
theorem both {b : Bool} {C : Prop} (h1 : b = true) (h2 : b = false) : C := by rw [h1] at h2; cases h2
set_option maxHeartbeats 1600000 in
theorem impl_keyword (s : ByteArray) (w : World) : Calls Tryz.prog 118 #[.string s] w fun e w' => e = .returned (.bool (hasW Tk.keywords s.data.toList)) ∧ Below w.heap.size w w' := by
  go_enter Tryz.func118, Tryz.ntmps118
  go_wp2
  all_goals first
    | (refine both (b := ?_) ?_ ?_; rotate_left; assumption; assumption)
    | (go_ret; refine ⟨word_yes (x := ?_) ?_ ?_, Below.refl _ _⟩; rotate_left; assumption; decide)
    | (go_ret; refine ⟨word_no ?_, Below.refl _ _⟩; simp only [Tk.keywords, List.contains_cons, List.contains_nil, Bool.or_false, *])
set_option maxHeartbeats 3200000 in
theorem impl_reserved (s : ByteArray) (w : World) : Calls Tryz.prog 99 #[.string s] w fun e w' => e = .returned (.bool (hasW Tk.reserved s.data.toList)) ∧ Below w.heap.size w w' := by
  go_enter Tryz.func99, Tryz.ntmps99
  go_wp2
  all_goals first
    | (refine both (b := ?_) ?_ ?_; rotate_left; assumption; assumption)
    | (go_ret; refine ⟨word_yes (x := ?_) ?_ ?_, Below.refl _ _⟩; rotate_left; assumption; decide)
    | (go_ret; refine ⟨word_no ?_, Below.refl _ _⟩; simp only [Tk.reserved, List.contains_cons, List.contains_nil, Bool.or_false, *])
end Go.Proofs.YtckjmmapekaapaaGreatDoor
