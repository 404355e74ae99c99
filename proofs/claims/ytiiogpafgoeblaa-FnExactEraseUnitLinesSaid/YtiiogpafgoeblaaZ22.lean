/- Joined texts: U7, N32. No conditions besides those that each states. -/
import Derived.Deep.RegionHeld3
import Derived.Test.YtiiogpafgoeblaaZ12
import Derived.Test.YtiiogpafgoeblaaZ20
import Derived.Test.YtiiogpafgoeblaaZ21
/- The laws' comparison of records, procedures and units that are alike. No conditions. -/
namespace Go.Proofs.Ytiiogpafgoeblaa
open Go.RowKit
set_option linter.unusedVariables false

/-- Two new variables. -/
def Vars2 (w : World) (A B : List Value) (W : World) : Prop := (Var W w.heap.size A ∧ Var W (w.heap.size + 1) B) ∧ Below w.heap.size w W
theorem Vars2.start (w : World) (A B : Array Value) (S T : TypeId) : Vars2 w A.toList B.toList ((w.alloc (.cells A S)).alloc (.cells B T)) := by
  have h1 := Var.new w A S
  have h2 := Var.new (w.alloc (.cells A S)) B T
  rw [World.size_alloc] at h2
  have b1 := bl1 w (.cells A S)
  have b2 := bl1 (w.alloc (.cells A S)) (.cells B T)
  exact ⟨⟨h1.later b2, h2⟩, below_then b1 b2⟩
theorem Vars2.later {w W W' : World} {A B : List Value} (h : Vars2 w A B W) (hb : Below W.heap.size W W') : Vars2 w A B W' := ⟨⟨h.1.1.later hb, h.1.2.later hb⟩, below_then h.2 hb⟩

set_option maxHeartbeats 3200000 in
theorem eq_rec (r : Rc) (hb : r.bulk ≤ 1048576) (w : World) (v1 u1 : Value) (h1 : Is w (strsD r.fields) v1) (g1 : Is w (strsD r.fields) u1) : Calls Try.prog 54 #[rcV r v1, rcV r u1] w fun e w' => e = .returned (.bool true) ∧ Below w.heap.size w w' := by
  have hbb := hb
  unfold Rc.bulk at hbb
  have HT1 := Lib.hid (fun W (hW : Below w.heap.size w W) => eq_strsD _ _ r.fields W (h1.later hW) (g1.later hW) (by unfold strsB at hbb; omega))
  obtain ⟨a1, c1, rfl⟩ := is_slice h1
  obtain ⟨b1, d1, rfl⟩ := is_slice g1
  have X0 := Lib.hid (Vars2.start w #[.string r.name, .slice a1 r.fields.length c1, .int .i64 r.line] #[.string r.name, .slice b1 r.fields.length d1, .int .i64 r.line] 53 53)
  clear hbb hb h1 g1
  go_enter Try.func54, Try.ntmps54
  go_wp2_with fail
  refine (HT1.out _ X0.out.2).mono ?_
  rintro e w1 ⟨rfl, b⟩
  have X1 := Lib.hid (X0.out.later b)
  clear b 
  have p1_2 := (X1.out.1.1 2 _ rfl).1
  have q1_2 := (X1.out.1.2 2 _ rfl).1
  go_wp2
  go_ret
  exact ⟨rfl, X1.out.2⟩
set_option maxHeartbeats 3200000 in
theorem eq_proc (r : Pc) (hb : r.bulk ≤ 1048576) (w : World) (v1 v2 v3 u1 u2 u3 : Value) (h1 : Is w (strsD r.params) v1) (h2 : Is w (strsD r.locals) v2) (h3 : Is w (.ex r.body.kids) v3) (g1 : Is w (strsD r.params) u1) (g2 : Is w (strsD r.locals) u2) (g3 : Is w (.ex r.body.kids) u3) : Calls Try.prog 55 #[pcV r v1 v2 v3, pcV r u1 u2 u3] w fun e w' => e = .returned (.bool true) ∧ Below w.heap.size w w' := by
  have hbb := hb
  unfold Pc.bulk at hbb
  have HT1 := Lib.hid (fun W (hW : Below w.heap.size w W) => eq_strsD _ _ r.params W (h1.later hW) (g1.later hW) (by unfold strsB at hbb; omega))
  have HT2 := Lib.hid (fun W (hW : Below w.heap.size w W) => eq_strsD _ _ r.locals W (h2.later hW) (g2.later hW) (by unfold strsB at hbb; omega))
  have HT3 := Lib.hid (fun W (hW : Below w.heap.size w W) => eq_tree _ r.body (Nat.le_refl _) (by omega) W _ _ ((is_ex h3).later hW) ((is_ex g3).later hW))
  obtain ⟨a1, c1, rfl⟩ := is_slice h1
  obtain ⟨b1, d1, rfl⟩ := is_slice g1
  obtain ⟨a2, c2, rfl⟩ := is_slice h2
  obtain ⟨b2, d2, rfl⟩ := is_slice g2
  obtain ⟨a3, c3, rfl⟩ := kids_len (is_ex h3)
  obtain ⟨b3, d3, rfl⟩ := kids_len (is_ex g3)
  have X0 := Lib.hid (Vars2.start w #[.string r.name, .slice a1 r.params.length c1, .slice a2 r.locals.length c2, .int .i64 r.body.kind, .string r.body.text, .int .i64 r.body.num, .int .i64 r.body.line, .slice a3 r.body.kids.length c3, .int .i64 r.line] #[.string r.name, .slice b1 r.params.length d1, .slice b2 r.locals.length d2, .int .i64 r.body.kind, .string r.body.text, .int .i64 r.body.num, .int .i64 r.body.line, .slice b3 r.body.kids.length d3, .int .i64 r.line] 55 55)
  clear hbb hb h1 h2 h3 g1 g2 g3
  go_enter Try.func55, Try.ntmps55
  go_wp2_with fail
  refine (HT1.out _ X0.out.2).mono ?_
  rintro e w1 ⟨rfl, b⟩
  have X1 := Lib.hid (X0.out.later b)
  clear b 
  have p1_2 := (X1.out.1.1 2 _ rfl).1
  have q1_2 := (X1.out.1.2 2 _ rfl).1
  go_wp2_with fail
  refine (HT2.out _ X1.out.2).mono ?_
  rintro e w2 ⟨rfl, b⟩
  have X2 := Lib.hid (X1.out.later b)
  clear b p1_2 q1_2
  have p2_3 := (X2.out.1.1 3 _ rfl).1
  have q2_3 := (X2.out.1.2 3 _ rfl).1
  have p2_4 := (X2.out.1.1 4 _ rfl).1
  have q2_4 := (X2.out.1.2 4 _ rfl).1
  have p2_5 := (X2.out.1.1 5 _ rfl).1
  have q2_5 := (X2.out.1.2 5 _ rfl).1
  have p2_6 := (X2.out.1.1 6 _ rfl).1
  have q2_6 := (X2.out.1.2 6 _ rfl).1
  have p2_7 := (X2.out.1.1 7 _ rfl).1
  have q2_7 := (X2.out.1.2 7 _ rfl).1
  go_wp2_with fail
  refine (HT3.out _ X2.out.2).mono ?_
  rintro e w3 ⟨rfl, b⟩
  have X3 := Lib.hid (X2.out.later b)
  clear b p2_3 q2_3 p2_4 q2_4 p2_5 q2_5 p2_6 q2_6 p2_7 q2_7
  have p3_8 := (X3.out.1.1 8 _ rfl).1
  have q3_8 := (X3.out.1.2 8 _ rfl).1
  go_wp2
  go_ret
  exact ⟨rfl, X3.out.2⟩
set_option maxRecDepth 100000 in
set_option maxHeartbeats 3200000 in
theorem eq_recs (ks : List Rc) (hb : ∀ r ∈ ks, r.bulk ≤ 1048576) (hln : ks.length ≤ 1048576) (w : World) (v1 v2 : Value) (h1 : Is w (recsD ks) v1) (h2 : Is w (recsD ks) v2) : Calls Try.prog 29 #[v1, v2] w fun e w' => e = .returned (.bool true) ∧ Below w.heap.size w w' := by
  obtain ⟨a1, c1, rfl⟩ := is_slice h1
  obtain ⟨a2, c2, rfl⟩ := is_slice h2
  have H1 := Lib.hid h1
  have H2 := Lib.hid h2
  have HI := Lib.hid hb
  clear h1 h2 hb
  go_enter Try.func29, Try.ntmps29
  go_wp2
  go_loopw [5] (fun i wr => ∃ k : Nat, i = .int .i64 k ∧ k ≤ ks.length ∧ Below w.heap.size w wr) (fun i _ => ks.length - (intOf i).toNat)
  case atStart => exact ⟨0, rfl, Nat.zero_le _, Below.refl _ _⟩
  case round =>
    obtain ⟨k, rfl, hk, hb⟩ := hrel
    have HB := Lib.hid hb
    have HK1 := Lib.hid (H1.out.later hb)
    have HK2 := Lib.hid (H2.out.later hb)
    clear hb
    by_cases hlt : k < ks.length
    · obtain ⟨g1, o1, rfl, ⟨p0, ⟨pv1, p1, pk1⟩, p2⟩⟩ := rec_at HK1.out k hlt
      obtain ⟨g2, o2, rfl, ⟨q0, ⟨qv1, q1, qk1⟩, q2⟩⟩ := rec_at HK2.out k hlt
      have HC := Lib.hid (fun W (hW : Below wr.heap.size wr W) => eq_rec ks[k] (HI.out _ (List.getElem_mem hlt)) W pv1 qv1 (pk1.later hW) (qk1.later hW))
      obtain ⟨pa1, pc1, rfl⟩ := is_slice pk1
      obtain ⟨qa1, qc1, rfl⟩ := is_slice qk1
      have k0 : (0 : Int) ≤ k := by omega
      have k1 : (k : Int) < ks.length := by omega
      clear pk1 qk1
      generalize ks[k] = x at p0 p1 p2 q0 q1 q2 HC
      go_wp2_with fail
      go_still_tail 8, (by kernel_rfl)
      change wpList _ _ _ _ _ wr.drew
      have HC2 := Lib.hid (HC.out wr.drew ((Below.refl _ _).drew))
      have HB2 := Lib.hid HB.out.drew
      clear p0 p1 p2 q0 q1 q2 HK1 HK2 HB HC
      generalize wr.drew = w5 at HC2 HB2 ⊢
      go_wp2_with (go_at_call 54; refine HC2.out.mono ?_; rintro e w6 ⟨rfl, hb6⟩; have HB6 := Lib.hid (below_then HB2.out hb6); clear hb6)
      go_roundw
      case rel => exact ⟨k + 1, by go_num, by omega, HB6.out⟩
      case measure => first | (simp [intOf]; done) | (simp [intOf]; omega)
    · obtain rfl : k = ks.length := by omega
      go_wp2
      go_ret
      exact ⟨rfl, HB.out⟩
set_option maxRecDepth 100000 in
set_option maxHeartbeats 3200000 in
theorem eq_procs (ks : List Pc) (hb : ∀ r ∈ ks, r.bulk ≤ 1048576) (hln : ks.length ≤ 1048576) (w : World) (v1 v2 : Value) (h1 : Is w (procsD ks) v1) (h2 : Is w (procsD ks) v2) : Calls Try.prog 31 #[v1, v2] w fun e w' => e = .returned (.bool true) ∧ Below w.heap.size w w' := by
  obtain ⟨a1, c1, rfl⟩ := is_slice h1
  obtain ⟨a2, c2, rfl⟩ := is_slice h2
  have H1 := Lib.hid h1
  have H2 := Lib.hid h2
  have HI := Lib.hid hb
  clear h1 h2 hb
  go_enter Try.func31, Try.ntmps31
  go_wp2
  go_loopw [5] (fun i wr => ∃ k : Nat, i = .int .i64 k ∧ k ≤ ks.length ∧ Below w.heap.size w wr) (fun i _ => ks.length - (intOf i).toNat)
  case atStart => exact ⟨0, rfl, Nat.zero_le _, Below.refl _ _⟩
  case round =>
    obtain ⟨k, rfl, hk, hb⟩ := hrel
    have HB := Lib.hid hb
    have HK1 := Lib.hid (H1.out.later hb)
    have HK2 := Lib.hid (H2.out.later hb)
    clear hb
    by_cases hlt : k < ks.length
    · obtain ⟨g1, o1, rfl, ⟨p0, ⟨pv1, p1, pk1⟩, ⟨pv2, p2, pk2⟩, ⟨p3, p4, p5, p6⟩, ⟨pv3, p7, pk3⟩, p8⟩⟩ := proc_at HK1.out k hlt
      obtain ⟨g2, o2, rfl, ⟨q0, ⟨qv1, q1, qk1⟩, ⟨qv2, q2, qk2⟩, ⟨q3, q4, q5, q6⟩, ⟨qv3, q7, qk3⟩, q8⟩⟩ := proc_at HK2.out k hlt
      have HC := Lib.hid (fun W (hW : Below wr.heap.size wr W) => eq_proc ks[k] (HI.out _ (List.getElem_mem hlt)) W pv1 pv2 pv3 qv1 qv2 qv3 (pk1.later hW) (pk2.later hW) (by rw [Is]; exact Kids.later pk3 hW) (qk1.later hW) (qk2.later hW) (by rw [Is]; exact Kids.later qk3 hW))
      obtain ⟨pa1, pc1, rfl⟩ := is_slice pk1
      obtain ⟨pa2, pc2, rfl⟩ := is_slice pk2
      obtain ⟨pa3, pc3, rfl⟩ := kids_len pk3
      obtain ⟨qa1, qc1, rfl⟩ := is_slice qk1
      obtain ⟨qa2, qc2, rfl⟩ := is_slice qk2
      obtain ⟨qa3, qc3, rfl⟩ := kids_len qk3
      have k0 : (0 : Int) ≤ k := by omega
      have k1 : (k : Int) < ks.length := by omega
      clear pk1 pk2 pk3 qk1 qk2 qk3
      generalize ks[k] = x at p0 p1 p2 p3 p4 p5 p6 p7 p8 q0 q1 q2 q3 q4 q5 q6 q7 q8 HC
      go_wp2_with fail
      go_still_tail 8, (by kernel_rfl)
      change wpList _ _ _ _ _ wr.drew
      have HC2 := Lib.hid (HC.out wr.drew ((Below.refl _ _).drew))
      have HB2 := Lib.hid HB.out.drew
      clear p0 p1 p2 p3 p4 p5 p6 p7 p8 q0 q1 q2 q3 q4 q5 q6 q7 q8 HK1 HK2 HB HC
      generalize wr.drew = w5 at HC2 HB2 ⊢
      go_wp2_with (go_at_call 55; refine HC2.out.mono ?_; rintro e w6 ⟨rfl, hb6⟩; have HB6 := Lib.hid (below_then HB2.out hb6); clear hb6)
      go_roundw
      case rel => exact ⟨k + 1, by go_num, by omega, HB6.out⟩
      case measure => first | (simp [intOf]; done) | (simp [intOf]; omega)
    · obtain rfl : k = ks.length := by omega
      go_wp2
      go_ret
      exact ⟨rfl, HB.out⟩
set_option maxHeartbeats 3200000 in
theorem eq_unit (r : Un) (hb : r.bulk ≤ 1048576) (w : World) (v1 v2 v3 u1 u2 u3 : Value) (h1 : Is w (recsD r.recs) v1) (h2 : Is w (strsD r.globs) v2) (h3 : Is w (procsD r.procs) v3) (g1 : Is w (recsD r.recs) u1) (g2 : Is w (strsD r.globs) u2) (g3 : Is w (procsD r.procs) u3) : Calls Try.prog 9 #[unV v1 v2 v3, unV u1 u2 u3] w fun e w' => e = .returned (.bool true) ∧ Below w.heap.size w w' := by
  have hbb := hb
  unfold Un.bulk recsB strsB procsB at hbb
  have HT1 := Lib.hid (fun W (hW : Below w.heap.size w W) => eq_recs r.recs (fun x hx => by have := wsum_mem Rc.bulk hx; omega) (by omega) W _ _ (h1.later hW) (g1.later hW))
  have HT2 := Lib.hid (fun W (hW : Below w.heap.size w W) => eq_strsD _ _ r.globs W (h2.later hW) (g2.later hW) (by omega))
  have HT3 := Lib.hid (fun W (hW : Below w.heap.size w W) => eq_procs r.procs (fun x hx => by have := wsum_mem Pc.bulk hx; omega) (by omega) W _ _ (h3.later hW) (g3.later hW))
  obtain ⟨a1, c1, rfl⟩ := is_slice h1
  obtain ⟨b1, d1, rfl⟩ := is_slice g1
  obtain ⟨a2, c2, rfl⟩ := is_slice h2
  obtain ⟨b2, d2, rfl⟩ := is_slice g2
  obtain ⟨a3, c3, rfl⟩ := is_slice h3
  obtain ⟨b3, d3, rfl⟩ := is_slice g3
  have X0 := Lib.hid (Vars2.start w #[.slice a1 r.recs.length c1, .slice a2 r.globs.length c2, .slice a3 r.procs.length c3] #[.slice b1 r.recs.length d1, .slice b2 r.globs.length d2, .slice b3 r.procs.length d3] 31 31)
  clear hbb hb h1 h2 h3 g1 g2 g3
  go_enter Try.func9, Try.ntmps9
  go_wp2_with fail
  refine (HT1.out _ X0.out.2).mono ?_
  rintro e w1 ⟨rfl, b⟩
  have X1 := Lib.hid (X0.out.later b)
  clear b 
  have p1_1 := (X1.out.1.1 1 _ rfl).1
  have q1_1 := (X1.out.1.2 1 _ rfl).1
  go_wp2_with fail
  refine (HT2.out _ X1.out.2).mono ?_
  rintro e w2 ⟨rfl, b⟩
  have X2 := Lib.hid (X1.out.later b)
  clear b p1_1 q1_1
  have p2_2 := (X2.out.1.1 2 _ rfl).1
  have q2_2 := (X2.out.1.2 2 _ rfl).1
  go_wp2_with fail
  refine (HT3.out _ X2.out.2).mono ?_
  rintro e w3 ⟨rfl, b⟩
  have X3 := Lib.hid (X2.out.later b)
  clear b p2_2 q2_2
  go_wp2
  go_ret
  exact ⟨rfl, X3.out.2⟩
end Go.Proofs.Ytiiogpafgoeblaa
/- What the laws read again of a list of trees. No conditions. -/
namespace Go.Proofs.Ytiiogpafgoeblaa
open Go.RowKit
set_option linter.unusedVariables false

def HeldK (ks : List Ex.T) : Prop := ∀ (w : World) (v : Value) (k : Nat), Kids w v (Ex.mrks ks k) → ((k + 4 * Ex.counts ks : Nat) : Int) ≤ 8000000 → ks.length ≤ 1048576 → Calls Try.prog 58 #[v, .int .i64 (k : Int)] w fun e w' => e = .returned (.int .i64 ((k + 4 * Ex.counts ks : Nat) : Int)) ∧ Below w.heap.size w w'
set_option maxRecDepth 100000 in
set_option maxHeartbeats 3200000 in
theorem held_list (ks : List Ex.T) (hI : ∀ x ∈ ks, HeldK x.kids) (hlen : ∀ x ∈ ks, x.kids.length ≤ 1048576) : HeldK ks := by
  intro w v k hkv hk hl
  obtain ⟨a, c, rfl⟩ := kids_len hkv
  rw [Ex.mrks_len] at hkv ⊢
  have HK := Lib.hid hkv
  have HI := Lib.hid hI
  have HLE := Lib.hid hlen
  have HKB := Lib.hid hk
  clear hkv hI hlen hk
  go_enter Try.func58, Try.ntmps58
  go_wp2
  go_loopw [1, 4, 5] (fun m _ i wr => ∃ j n : Nat, m = .int .i64 n ∧ i = .int .i64 j ∧ j ≤ ks.length ∧ n = k + 4 * Ex.counts (ks.take j) ∧ Below w.heap.size w wr) (fun _ _ i _ => ks.length - (intOf i).toNat)
  case atStart => exact ⟨0, k, rfl, rfl, Nat.zero_le _, by simp [Ex.counts], Below.refl _ _⟩
  case round =>
    obtain ⟨j, n, rfl, rfl, hj, hn, hb⟩ := hrel
    have HB := Lib.hid hb
    have HK2 := Lib.hid (HK.out.later hb)
    have HN := Lib.hid hn
    by_cases hlt : j < ks.length
    · obtain ⟨g, o, rfl, ht⟩ := kids_at HK2.out j (by rw [Ex.mrks_len]; exact hlt)
      have hmg := Ex.mrks_get ks k j hlt
      rw [List.getElem?_eq_getElem (by rw [Ex.mrks_len]; exact hlt), ← hn] at hmg
      rw [Option.some.inj hmg, Ex.mrk_eq] at ht
      obtain ⟨⟨q0, q1, q2, q3⟩, v3, q4, hkv⟩ := tree_cells ht
      have hct := Ex.counts_take ks j hlt
      have hcl := Ex.counts_take_le ks (j + 1)
      have hce := count_eq ks[j]
      have hkk := HKB.out
      have hnb : (n : Int) + 4 + 4 * Ex.counts ks[j].kids ≤ 8000000 := by omega
      have HC := Lib.hid (fun W hW => HI.out ks[j] (List.getElem_mem hlt) W v3 (n + 4) (Kids.later hkv hW) (by omega) (HLE.out _ (List.getElem_mem hlt)))
      rw [show ((n + 4 : Nat) : Int) = (n : Int) + 1 + 1 + 1 + 1 by omega] at HC
      have HM := Lib.hid fun W => mark_n n W (by omega)
      have HG := Lib.hid (World.block_lt_of_cell? wr _ q1)
      have HCT := Lib.hid hct
      have HCE := Lib.hid hce
      have k0 : (0 : Int) ≤ j := by omega
      have k1 : (j : Int) < ks.length := by omega
      have p1 : wr.cell? ⟨g, o + j * 5 + 1, none⟩ = some (.string (mark (n + 1))) := q1
      have p0 : wr.cell? ⟨g, o + j * 5, none⟩ = some (.int .i64 (n : Int)) := q0
      have P2 : Hid (wr.cell? ⟨g, o + j * 5 + 2, none⟩ = some (.int .i64 ((n : Int) + 1 + 1))) := Lib.hid q2
      have P3 : Hid (wr.cell? ⟨g, o + j * 5 + 3, none⟩ = some (.int .i64 ((n : Int) + 1 + 1 + 1))) := Lib.hid q3
      have P4 : Hid (wr.cell? ⟨g, o + j * 5 + 4, none⟩ = some v3) := Lib.hid q4
      obtain ⟨a5, n5, c5, rfl⟩ : ∃ a n c, v3 = .slice a n c := by
        obtain ⟨a5, c5, e⟩ := kids_len hkv
        exact ⟨_, _, _, e⟩
      clear q0 q1 q2 q3 q4 ht hkv hmg hct hcl hce hkk hn hb
      generalize ks[j] = x at HC HCT HCE hnb
      go_wp2
      go_region_held3 (fun w' => w'.cell? ⟨g, o + j * 5 + 1, none⟩ = some (.string (mark (n + 1))) ∧ Below wr.heap.size wr w')
        (first | exact ⟨p1, (Below.refl _ _).drew⟩ | exact ⟨(b1.cell HG.out).trans p1, (Below.refl _ _).drew.trans b1⟩ | go_keep)
        (first | (go_at_call 56; refine (HM.out _).mono ?_; rintro e w1 ⟨rfl, b1⟩))
      have hbb : Below wr.heap.size wr w1 := (Below.refl _ _).drew.trans b1
      have r2 := subw_below hbb _ _ _ P2.out
      have r3 := subw_below hbb _ _ _ P3.out
      have r4 := subw_below hbb _ _ _ P4.out
      have HC2 := Lib.hid (HC.out w1 hbb)
      have HB1 := Lib.hid (HB.out.trans (hbb.mono HB.out.size))
      obtain ⟨m2, hm2⟩ : ∃ m2, n + 4 + 4 * Ex.counts x.kids = m2 := ⟨_, rfl⟩
      rw [hm2] at HC2
      have HM2 : Hid (m2 = k + 4 * Ex.counts (ks.take (j + 1))) := Lib.hid (by rw [HCT.out, HCE.out, ← hm2, HN.out]; omega)
      have hm3 : (m2 : Int) ≤ 8000000 := by omega
      clear b1 p1 p0 hbb hm2
      go_wp2_with (go_at_call 58; refine HC2.out.mono ?_; rintro e w2 ⟨rfl, b2⟩; have HB2 := Lib.hid (below_then HB1.out b2); clear b2)
      go_roundw
      case rel => exact ⟨j + 1, m2, rfl, by go_num, by omega, HM2.out, HB2.out⟩
      case measure => first | (simp [intOf]; done) | (simp [intOf]; omega)
    · obtain rfl : j = ks.length := by omega
      have HN2 : Hid (n = k + 4 * Ex.counts ks) := Lib.hid (by rw [HN.out, List.take_length])
      clear hn
      go_wp2
      go_ret
      exact ⟨by rw [HN2.out]; rfl, HB.out⟩
theorem held_all : ∀ (N : Nat) (ks : List Ex.T), Ex.counts ks ≤ N → (∀ x ∈ ks, x.bulk ≤ 1048576) → HeldK ks := by
  intro N
  induction N with
  | zero =>
    intro ks h hb
    cases ks with
    | nil => exact held_list [] (fun x h => by cases h) (fun x h => by cases h)
    | cons x r => rw [Ex.counts] at h; have := Ex.count_pos x; omega
  | succ N ih =>
    intro ks h hb
    refine held_list ks (fun x hx => ih x.kids ?_ fun y hy => ?_) fun x hx => ?_
    · have h1 := Ex.counts_mem hx
      have h2 := count_eq x
      omega
    · have h1 := hb x hx
      have h2 := bulk_eq x
      have h3 := Ex.bulks_mem hy
      omega
    · have h1 := hb x hx
      have h2 := bulk_eq x
      omega
end Go.Proofs.Ytiiogpafgoeblaa
