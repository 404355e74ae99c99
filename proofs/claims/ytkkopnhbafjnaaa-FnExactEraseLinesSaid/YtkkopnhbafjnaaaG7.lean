/- Numbers of nodes and depths in the reference model. No conditions. -/
import Derived.Test.YtkkopnhbafjnaaaG3
namespace Go.Proofs.Ytkkopnhbafjnaaa
open Go.RowKit
set_option linter.unusedVariables false

theorem spec_max (a b : Int) (w : World) : Calls Try.prog 44 #[.int .i64 a, .int .i64 b] w fun e w' => e = .returned (.int .i64 (max a b)) ∧ w = w' := by
  by_cases h : b < a
  · have e : max a b = a := by omega
    rw [e]
    clear e
    go_enter Try.func44, Try.ntmps44
    go_wp2
    go_ret
    exact ⟨rfl, rfl⟩
  · have e : max a b = b := by omega
    rw [e]
    clear e
    go_enter Try.func44, Try.ntmps44
    go_wp2
    go_ret
    exact ⟨rfl, rfl⟩
def CntT (t : Ex.T) : Prop := t.bulk ≤ 1048576 → ∀ (w : World) (v : Value), Kids w v t.kids → Calls Try.prog 24 #[exV t v] w fun e w' => e = .returned (.int .i64 (t.count : Int)) ∧ Below w.heap.size w w'
theorem count_eq (t : Ex.T) : t.count = 1 + Ex.counts t.kids := by cases t; rw [Ex.T.count]; rfl
theorem deep_eq (t : Ex.T) : t.deep = Ex.deeps t.kids + 1 := by cases t; rw [Ex.T.deep]; rfl
theorem small_count {t : Ex.T} (h : t.bulk ≤ 1048576) : t.count ≤ 1048577 := by have := Ex.count_bulk _ t (Nat.le_refl _); omega
theorem small_deep {t : Ex.T} (h : t.bulk ≤ 1048576) : t.deep ≤ 1048577 := by have h1 := Ex.deep_count _ t (Nat.le_refl _); have := small_count h; omega
/-- Where a count stands. -/
def CntAt (ks : List Ex.T) (k m : Nat) : Prop := m = 1 + Ex.counts (ks.take k)
theorem CntAt.next {ks : List Ex.T} {k m : Nat} (h : CntAt ks k m) (hk : k < ks.length) : CntAt ks (k + 1) (m + ks[k].count) := by
  unfold CntAt at h ⊢
  rw [Ex.counts_take ks k hk]; omega
theorem CntAt.le {ks : List Ex.T} {k m : Nat} (h : CntAt ks k m) : m ≤ 1 + Ex.counts ks := by
  unfold CntAt at h
  have := Ex.counts_take_le ks k; omega
theorem CntAt.over {ks : List Ex.T} {m : Nat} (h : CntAt ks ks.length m) : m = 1 + Ex.counts ks := by
  unfold CntAt at h
  rw [List.take_length] at h; exact h
set_option maxHeartbeats 1600000 in
theorem spec_count : ∀ (N : Nat) (t : Ex.T), t.count ≤ N → CntT t := by
  intro N
  induction N with
  | zero => intro t h; have := Ex.count_pos t; omega
  | succ N ih =>
    intro t hN hb w v hk
    have hbe := bulk_eq t
    have hce := count_eq t
    have hcs := small_count hb
    obtain ⟨a, c, rfl⟩ := kids_len hk
    have HI := Lib.hid (fun (x : Ex.T) (hx : x ∈ t.kids) => ih x (by have := kids_count hx; omega) (by have := Ex.bulks_mem hx; omega))
    have HK := Lib.hid hk
    have HCE := Lib.hid hce
    have hln : t.kids.length ≤ 1048576 := by omega
    have hct : 1 + Ex.counts t.kids ≤ 1048577 := by omega
    have HE0 := Lib.hid (CellsE.new w t (.slice a t.kids.length c) 26)
    clear ih hN hb hk hbe hcs hce
    go_enter Try.func24, Try.ntmps24
    go_wp2
    go_loopw [3, 4] (fun m i wr => ∃ k n : Nat, i = .int .i64 k ∧ m = .int .i64 n ∧ k ≤ t.kids.length ∧ CntAt t.kids k n ∧ CellsE wr w.heap.size t (.slice a t.kids.length c) ∧ Below w.heap.size w wr) (fun _ i _ => t.kids.length - (intOf i).toNat)
    case atStart => exact ⟨0, 1, rfl, rfl, by omega, by unfold CntAt; simp [Ex.counts], HE0.out, bl1 _ _⟩
    case round =>
      clear HE0
      obtain ⟨k, n, rfl, rfl, hkk, hat, hce, hb⟩ := hrel
      have HAT := Lib.hid hat
      have HB := Lib.hid hb
      have HE := Lib.hid hce
      have HK2 := Lib.hid (HK.out.later hb)
      have hnl := hat.le
      obtain ⟨e0, e1, e2, e3, e4⟩ := hce
      clear hat hb e0 e1 e2 e3
      by_cases hlt : k < t.kids.length
      · obtain ⟨g, o, rfl, ht⟩ := kids_at HK2.out k hlt
        obtain ⟨⟨q0, q1, q2, q3⟩, v, q4, hkv⟩ := tree_cells ht
        have HC := Lib.hid (HI.out t.kids[k] (List.getElem_mem hlt) wr v hkv)
        have HN := Lib.hid (HAT.out.next hlt)
        have hnl2 := HN.out.le
        have k0 : (0 : Int) ≤ k := by omega
        have k1 : (k : Int) < t.kids.length := by omega
        clear ht hkv HAT
        generalize t.kids[k] = x at q0 q1 q2 q3 HC HN hnl2
        go_wp2_with (go_at_call 24; refine HC.out.mono ?_; rintro e w1 ⟨rfl, hb1⟩; have HB1 := Lib.hid (below_then HB.out hb1); have HE1 := Lib.hid (HE.out.later hb1); clear hb1)
        go_roundw
        case rel => exact ⟨k + 1, n + x.count, by go_num, by go_num, by omega, HN.out, HE1.out, HB1.out⟩
        case measure => first | (simp [intOf]; done) | (simp [intOf]; omega)
      · obtain rfl : k = t.kids.length := by omega
        have HN := Lib.hid HAT.out.over
        go_wp2
        go_ret
        exact ⟨ret_ei (by rw [HCE.out, ← HN.out]), HB.out⟩
def DepT (t : Ex.T) : Prop := t.bulk ≤ 1048576 → ∀ (w : World) (v : Value), Kids w v t.kids → Calls Try.prog 27 #[exV t v] w fun e w' => e = .returned (.int .i64 (t.deep : Int)) ∧ Below w.heap.size w w'
/-- Where a depth stands. -/
def DepAt (ks : List Ex.T) (k m : Nat) : Prop := m = Ex.deeps (ks.take k)
theorem DepAt.next {ks : List Ex.T} {k m : Nat} (h : DepAt ks k m) (hk : k < ks.length) : DepAt ks (k + 1) (max m ks[k].deep) := by
  unfold DepAt at h ⊢
  rw [Ex.deeps_take ks k hk, h]
theorem deeps_take_le (l : List Ex.T) (k : Nat) : Ex.deeps (l.take k) ≤ Ex.deeps l := by
  induction l generalizing k with
  | nil => simp [Ex.deeps]
  | cons y l ih =>
    cases k with
    | zero => simp [Ex.deeps]
    | succ k => rw [List.take_succ_cons, Ex.deeps, Ex.deeps]; have := ih k; omega
theorem DepAt.le {ks : List Ex.T} {k m : Nat} (h : DepAt ks k m) : m ≤ Ex.deeps ks := by
  unfold DepAt at h
  have := deeps_take_le ks k; omega
theorem DepAt.over {ks : List Ex.T} {m : Nat} (h : DepAt ks ks.length m) : m = Ex.deeps ks := by
  unfold DepAt at h
  rw [List.take_length] at h; exact h
theorem max_nat (a b : Nat) : max (a : Int) (b : Int) = ((max a b : Nat) : Int) := by omega
set_option maxHeartbeats 1600000 in
theorem spec_depth : ∀ (N : Nat) (t : Ex.T), t.count ≤ N → DepT t := by
  intro N
  induction N with
  | zero => intro t h; have := Ex.count_pos t; omega
  | succ N ih =>
    intro t hN hb w v hk
    have hbe := bulk_eq t
    have hde := deep_eq t
    have hds := small_deep hb
    obtain ⟨a, c, rfl⟩ := kids_len hk
    have HI := Lib.hid (fun (x : Ex.T) (hx : x ∈ t.kids) => ih x (by have := kids_count hx; omega) (by have := Ex.bulks_mem hx; omega))
    have HK := Lib.hid hk
    have HDE := Lib.hid hde
    have hln : t.kids.length ≤ 1048576 := by omega
    have hct : Ex.deeps t.kids ≤ 1048577 := by omega
    have HE0 := Lib.hid (CellsE.new w t (.slice a t.kids.length c) 26)
    clear ih hN hb hk hbe hds hde
    go_enter Try.func27, Try.ntmps27
    go_wp2
    go_loopw [3, 4] (fun m i wr => ∃ k n : Nat, i = .int .i64 k ∧ m = .int .i64 n ∧ k ≤ t.kids.length ∧ DepAt t.kids k n ∧ CellsE wr w.heap.size t (.slice a t.kids.length c) ∧ Below w.heap.size w wr) (fun _ i _ => t.kids.length - (intOf i).toNat)
    case atStart => exact ⟨0, 0, rfl, rfl, by omega, by unfold DepAt; simp [Ex.deeps], HE0.out, bl1 _ _⟩
    case round =>
      clear HE0
      obtain ⟨k, n, rfl, rfl, hkk, hat, hce, hb⟩ := hrel
      have HAT := Lib.hid hat
      have HB := Lib.hid hb
      have HE := Lib.hid hce
      have HK2 := Lib.hid (HK.out.later hb)
      have hnl := hat.le
      obtain ⟨e0, e1, e2, e3, e4⟩ := hce
      clear hat hb e0 e1 e2 e3
      by_cases hlt : k < t.kids.length
      · obtain ⟨g, o, rfl, ht⟩ := kids_at HK2.out k hlt
        obtain ⟨⟨q0, q1, q2, q3⟩, v, q4, hkv⟩ := tree_cells ht
        have HC := Lib.hid (HI.out t.kids[k] (List.getElem_mem hlt) wr v hkv)
        have HN := Lib.hid (HAT.out.next hlt)
        have HM := Lib.hid (fun W => spec_max (n : Int) (t.kids[k].deep : Int) W)
        rw [max_nat] at HM
        have k0 : (0 : Int) ≤ k := by omega
        have k1 : (k : Int) < t.kids.length := by omega
        clear ht hkv HAT
        generalize t.kids[k] = x at q0 q1 q2 q3 HC HN HM
        generalize max n x.deep = z at HN HM
        generalize x.deep = y at HC HM
        go_wp2_with (first | (go_at_call 27; refine HC.out.mono ?_; rintro e w1 ⟨rfl, hb1⟩; have HB1 := Lib.hid (below_then HB.out hb1); have HE1 := Lib.hid (HE.out.later hb1); clear hb1) | (go_at_call 44; refine (HM.out _).mono ?_; rintro e w2 ⟨rfl, rfl⟩))
        go_roundw
        case rel => exact ⟨k + 1, z, by go_num, rfl, by omega, HN.out, HE1.out, HB1.out⟩
        case measure => first | (simp [intOf]; done) | (simp [intOf]; omega)
      · obtain rfl : k = t.kids.length := by omega
        have HN := Lib.hid HAT.out.over
        go_wp2
        go_ret
        exact ⟨ret_ei (by rw [HDE.out, ← HN.out]; rfl), HB.out⟩
end Go.Proofs.Ytkkopnhbafjnaaa
