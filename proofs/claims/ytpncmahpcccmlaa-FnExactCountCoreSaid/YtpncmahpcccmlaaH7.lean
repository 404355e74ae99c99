/- Numbers of nodes and depths in the reference model. No conditions. -/
import Derived.Test.YtpncmahpcccmlaaH3
namespace Go.Proofs.Ytpncmahpcccmlaa.Cr
open Go.RowKit
set_option linter.unusedVariables false

def CntT (t : Co.T) : Prop := t.bulk ≤ 1048576 → ∀ (w : World) (v : Value), Kids w v t.kids → Calls Try.prog 5 #[exV t v] w fun e w' => e = .returned (.int .i64 (t.count : Int)) ∧ Below w.heap.size w w'
theorem count_eq (t : Co.T) : t.count = 1 + Co.counts t.kids := by cases t; rw [Co.T.count]; rfl
theorem deep_eq (t : Co.T) : t.deep = Co.deeps t.kids + 1 := by cases t; rw [Co.T.deep]; rfl
theorem small_count {t : Co.T} (h : t.bulk ≤ 1048576) : t.count ≤ 1048577 := by have := Co.count_bulk _ t (Nat.le_refl _); omega
theorem small_deep {t : Co.T} (h : t.bulk ≤ 1048576) : t.deep ≤ 1048577 := by have h1 := Co.deep_count _ t (Nat.le_refl _); have := small_count h; omega
/-- Where a count stands. -/
def CntAt (ks : List Co.T) (k m : Nat) : Prop := m = 1 + Co.counts (ks.take k)
theorem CntAt.next {ks : List Co.T} {k m : Nat} (h : CntAt ks k m) (hk : k < ks.length) : CntAt ks (k + 1) (m + ks[k].count) := by
  unfold CntAt at h ⊢
  rw [Co.counts_take ks k hk]; omega
theorem CntAt.le {ks : List Co.T} {k m : Nat} (h : CntAt ks k m) : m ≤ 1 + Co.counts ks := by
  unfold CntAt at h
  have := Co.counts_take_le ks k; omega
theorem CntAt.over {ks : List Co.T} {m : Nat} (h : CntAt ks ks.length m) : m = 1 + Co.counts ks := by
  unfold CntAt at h
  rw [List.take_length] at h; exact h
set_option maxHeartbeats 1600000 in
theorem spec_count : ∀ (N : Nat) (t : Co.T), t.count ≤ N → CntT t := by
  intro N
  induction N with
  | zero => intro t h; have := Co.count_pos t; omega
  | succ N ih =>
    intro t hN hb w v hk
    have hbe := bulk_eq t
    have hce := count_eq t
    have hcs := small_count hb
    obtain ⟨a, c, rfl⟩ := kids_len hk
    have HI := Lib.hid (fun (x : Co.T) (hx : x ∈ t.kids) => ih x (by have := kids_count hx; omega) (by have := Co.bulks_mem hx; omega))
    have HK := Lib.hid hk
    have HCE := Lib.hid hce
    have hln : t.kids.length ≤ 1048576 := by omega
    have hct : 1 + Co.counts t.kids ≤ 1048577 := by omega
    have HE0 := Lib.hid (CellsE.new w t (.slice a t.kids.length c) 29)
    clear ih hN hb hk hbe hcs hce
    go_enter Try.func5, Try.ntmps5
    go_wp2
    go_loopw [3, 4] (fun m i wr => ∃ k n : Nat, i = .int .i64 k ∧ m = .int .i64 n ∧ k ≤ t.kids.length ∧ CntAt t.kids k n ∧ CellsE wr w.heap.size t (.slice a t.kids.length c) ∧ Below w.heap.size w wr) (fun _ i _ => t.kids.length - (intOf i).toNat)
    case atStart => exact ⟨0, 1, rfl, rfl, by omega, by unfold CntAt; simp [Co.counts], HE0.out, bl1 _ _⟩
    case round =>
      clear HE0
      obtain ⟨k, n, rfl, rfl, hkk, hat, hce, hb⟩ := hrel
      have HAT := Lib.hid hat
      have HB := Lib.hid hb
      have HE := Lib.hid hce
      have HK2 := Lib.hid (HK.out.later hb)
      have hnl := hat.le
      obtain ⟨e0, e1, e2, e3, e4, e5⟩ := hce
      clear hat hb e0 e1 e2 e3 e4
      by_cases hlt : k < t.kids.length
      · obtain ⟨g, o, rfl, ht⟩ := kids_at HK2.out k hlt
        obtain ⟨⟨q0, q1, q2, q3, q4⟩, v, q5, hkv⟩ := tree_cells ht
        have HC := Lib.hid (HI.out t.kids[k] (List.getElem_mem hlt) wr v hkv)
        have HN := Lib.hid (HAT.out.next hlt)
        have hnl2 := HN.out.le
        have k0 : (0 : Int) ≤ k := by omega
        have k1 : (k : Int) < t.kids.length := by omega
        clear ht hkv HAT
        generalize t.kids[k] = x at q0 q1 q2 q3 q4 HC HN hnl2
        go_wp2_with (go_at_call 5; refine HC.out.mono ?_; rintro e w1 ⟨rfl, hb1⟩; have HB1 := Lib.hid (below_then HB.out hb1); have HE1 := Lib.hid (HE.out.later hb1); clear hb1)
        go_roundw
        case rel => exact ⟨k + 1, n + x.count, by go_num, by go_num, by omega, HN.out, HE1.out, HB1.out⟩
        case measure => first | (simp [intOf]; done) | (simp [intOf]; omega)
      · obtain rfl : k = t.kids.length := by omega
        have HN := Lib.hid HAT.out.over
        go_wp2
        go_ret
        exact ⟨ret_ei (by rw [HCE.out, ← HN.out]), HB.out⟩
/-- Where a depth stands. -/
def DepAt (ks : List Co.T) (k m : Nat) : Prop := m = Co.deeps (ks.take k)
theorem DepAt.next {ks : List Co.T} {k m : Nat} (h : DepAt ks k m) (hk : k < ks.length) : DepAt ks (k + 1) (max m ks[k].deep) := by
  unfold DepAt at h ⊢
  rw [Co.deeps_take ks k hk, h]
theorem deeps_take_le (l : List Co.T) (k : Nat) : Co.deeps (l.take k) ≤ Co.deeps l := by
  induction l generalizing k with
  | nil => simp [Co.deeps]
  | cons y l ih =>
    cases k with
    | zero => simp [Co.deeps]
    | succ k => rw [List.take_succ_cons, Co.deeps, Co.deeps]; have := ih k; omega
theorem DepAt.le {ks : List Co.T} {k m : Nat} (h : DepAt ks k m) : m ≤ Co.deeps ks := by
  unfold DepAt at h
  have := deeps_take_le ks k; omega
theorem DepAt.over {ks : List Co.T} {m : Nat} (h : DepAt ks ks.length m) : m = Co.deeps ks := by
  unfold DepAt at h
  rw [List.take_length] at h; exact h
end Go.Proofs.Ytpncmahpcccmlaa.Cr
