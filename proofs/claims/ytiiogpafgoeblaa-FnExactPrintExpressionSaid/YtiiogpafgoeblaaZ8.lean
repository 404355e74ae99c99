/- Joined texts: G7, G13, T3, D1, D2. No conditions besides those that each states. -/
import Derived.Maps.AppendAt
import Derived.Deep.AppendLies
import Derived.RegionTactic
import Derived.Test.YtiiogpafgoeblaaProg
import Derived.WalkKit
import Derived.ProofKit
import Derived.WalkLawsBesides
import Derived.WalkSpells
import Derived.Lib.Hide
import Derived.Deep.QuietTactic
import Derived.BigQuiet
import Derived.Test.YtiiogpafgoeblaaZ7
/- Numbers of nodes and depths in the reference model. No conditions. -/
namespace Go.Proofs.Ytiiogpafgoeblaa
open Go.RowKit
set_option linter.unusedVariables false

theorem count_eq (t : Ex.T) : t.count = 1 + Ex.counts t.kids := by cases t; rw [Ex.T.count]; rfl
theorem deep_eq (t : Ex.T) : t.deep = Ex.deeps t.kids + 1 := by cases t; rw [Ex.T.deep]; rfl
theorem small_count {t : Ex.T} (h : t.bulk ≤ 1048576) : t.count ≤ 1048577 := by have := Ex.count_bulk _ t (Nat.le_refl _); omega
theorem small_deep {t : Ex.T} (h : t.bulk ≤ 1048576) : t.deep ≤ 1048577 := by have h1 := Ex.deep_count _ t (Nat.le_refl _); have := small_count h; omega
/-- Where a count stands. -/
def CntAt (ks : List Ex.T) (k m : Nat) : Prop := m = 1 + Ex.counts (ks.take k)
theorem CntAt.next {ks : List Ex.T} {k m : Nat} (h : CntAt ks k m) (hk : k < ks.length) : CntAt ks (k + 1) (m + ks[k].count) := by
  unfold CntAt at h ⊢
  rw [Ex.counts_take ks k hk]; omega
theorem CntAt.le {ks : List Ex.T} {k m : Nat} (h : CntAt ks k m) : m ≤ 1 + Ex.counts ks := by
  unfold CntAt at h
  have := Ex.counts_take_le ks k; omega
theorem CntAt.over {ks : List Ex.T} {m : Nat} (h : CntAt ks ks.length m) : m = 1 + Ex.counts ks := by
  unfold CntAt at h
  rw [List.take_length] at h; exact h
/-- Where a depth stands. -/
def DepAt (ks : List Ex.T) (k m : Nat) : Prop := m = Ex.deeps (ks.take k)
theorem DepAt.next {ks : List Ex.T} {k m : Nat} (h : DepAt ks k m) (hk : k < ks.length) : DepAt ks (k + 1) (max m ks[k].deep) := by
  unfold DepAt at h ⊢
  rw [Ex.deeps_take ks k hk, h]
theorem deeps_take_le (l : List Ex.T) (k : Nat) : Ex.deeps (l.take k) ≤ Ex.deeps l := by
  induction l generalizing k with
  | nil => simp [Ex.deeps]
  | cons y l ih =>
    cases k with
    | zero => simp [Ex.deeps]
    | succ k => rw [List.take_succ_cons, Ex.deeps, Ex.deeps]; have := ih k; omega
theorem DepAt.le {ks : List Ex.T} {k m : Nat} (h : DepAt ks k m) : m ≤ Ex.deeps ks := by
  unfold DepAt at h
  have := deeps_take_le ks k; omega
theorem DepAt.over {ks : List Ex.T} {m : Nat} (h : DepAt ks ks.length m) : m = Ex.deeps ks := by
  unfold DepAt at h
  rw [List.take_length] at h; exact h
theorem max_nat (a b : Nat) : max (a : Int) (b : Int) = ((max a b : Nat) : Int) := by omega
end Go.Proofs.Ytiiogpafgoeblaa
/- A bounded count of nodes, numbers of kids in the reference model. No conditions. -/
namespace Go.Proofs.Ytiiogpafgoeblaa
open Go.RowKit
set_option linter.unusedVariables false

def LeftT (t : Ex.T) : Prop := t.bulk ≤ 1048576 → ∀ (w : World) (v : Value) (left : Nat), (left : Int) ≤ 1048576 → Kids w v t.kids → Calls Try.prog 59 #[exV t v, .int .i64 (left : Int)] w fun e w' => e = .returned (.int .i64 (szR left t.count)) ∧ Below w.heap.size w w'
/-- Where the bounded count stands. -/
def LfAt (ks : List Ex.T) (left k : Nat) (m : Int) : Prop := m = szR left (1 + Ex.counts (ks.take k))
theorem LfAt.start (ks : List Ex.T) (left : Nat) : LfAt ks left 0 ((left : Int) - 1) := by
  unfold LfAt szR
  simp only [List.take_zero, Ex.counts]
  split <;> omega
theorem LfAt.next {ks : List Ex.T} {left k : Nat} {m : Int} (h : LfAt ks left k m) (hk : k < ks.length) (n : Nat) (hn : m = n) : LfAt ks left (k + 1) (szR n ks[k].count) := by
  unfold LfAt at h ⊢
  rw [Ex.counts_take ks k hk]
  unfold szR at h ⊢
  split at h <;> (split <;> split <;> omega)
theorem LfAt.over {ks : List Ex.T} {left : Nat} {m : Int} (h : LfAt ks left ks.length m) : szR left (1 + Ex.counts ks) = m := by
  unfold LfAt at h
  rw [List.take_length] at h; exact h.symm
theorem LfAt.bad {ks : List Ex.T} {left k : Nat} {m : Int} (h : LfAt ks left k m) (hm : m < 0) : szR left (1 + Ex.counts ks) = m := by
  unfold LfAt at h
  have := Ex.counts_take_le ks k
  unfold szR at h ⊢
  split at h
  · omega
  · rw [if_neg (by omega)]; exact h.symm
theorem LfAt.ge {ks : List Ex.T} {left k : Nat} {m : Int} (h : LfAt ks left k m) : -1 ≤ m ∧ m ≤ left := by
  unfold LfAt szR at h
  split at h <;> omega
set_option maxHeartbeats 1600000 in
theorem spec_leftT : ∀ (N : Nat) (t : Ex.T), t.count ≤ N → LeftT t := by
  intro N
  induction N with
  | zero => intro t h; have := Ex.count_pos t; omega
  | succ N ih =>
    intro t hN hb w v left hs hk
    have hbe := bulk_eq t
    obtain ⟨a, c, rfl⟩ := kids_len hk
    have HI := Lib.hid (fun (x : Ex.T) (hx : x ∈ t.kids) => ih x (by have := kids_count hx; omega) (by have := Ex.bulks_mem hx; omega))
    have HK := Lib.hid hk
    have HCE := Lib.hid (count_eq t)
    have hln : t.kids.length ≤ 1048576 := by omega
    have HE0 := Lib.hid (CellsE.new w t (.slice a t.kids.length c) 45)
    have HST := Lib.hid (LfAt.start t.kids left)
    clear ih hN hb hk hbe
    go_enter Try.func59, Try.ntmps59
    go_wp2
    go_loopw [1, 5] (fun m i wr => ∃ (k : Nat) (n : Int), i = .int .i64 k ∧ m = .int .i64 n ∧ k ≤ t.kids.length ∧ LfAt t.kids left k n ∧ CellsE wr w.heap.size t (.slice a t.kids.length c) ∧ Below w.heap.size w wr) (fun _ i _ => t.kids.length - (intOf i).toNat)
    case atStart => exact ⟨0, _, rfl, rfl, by omega, HST.out, HE0.out, bl1 _ _⟩
    case round =>
      clear HE0 HST
      obtain ⟨k, n, rfl, rfl, hkk, hat, hce, hb⟩ := hrel
      have HAT := Lib.hid hat
      have HB := Lib.hid hb
      have HE := Lib.hid hce
      have HK2 := Lib.hid (HK.out.later hb)
      obtain ⟨hg1, hg2⟩ := hat.ge
      obtain ⟨e0, e1, e2, e3, e4⟩ := hce
      clear hat hb e0 e1 e2 e3
      by_cases hlt : k < t.kids.length
      · have k0 : (0 : Int) ≤ k := by omega
        have k1 : (k : Int) < t.kids.length := by omega
        by_cases hn : 0 ≤ n
        · obtain ⟨g, o, rfl, ht⟩ := kids_at HK2.out k hlt
          obtain ⟨⟨q0, q1, q2, q3⟩, v, q4, hkv⟩ := tree_cells ht
          obtain ⟨m, rfl⟩ : ∃ m : Nat, n = m := ⟨n.toNat, by omega⟩
          have HC := Lib.hid (HI.out t.kids[k] (List.getElem_mem hlt) wr v m (by omega) hkv)
          have HN := Lib.hid (HAT.out.next hlt m rfl)
          clear ht hkv HAT
          generalize t.kids[k] = x at q0 q1 q2 q3 HC HN
          generalize szR m x.count = z at HC HN
          go_wp2_with (go_at_call 59; refine HC.out.mono ?_; rintro e w1 ⟨rfl, hb1⟩; have HB1 := Lib.hid (below_then HB.out hb1); have HE1 := Lib.hid (HE.out.later hb1); clear hb1)
          go_roundw
          case rel => exact ⟨k + 1, z, by go_num, rfl, by omega, HN.out, HE1.out, HB1.out⟩
          case measure => first | (simp [intOf]; done) | (simp [intOf]; omega)
        · have HN := Lib.hid (HAT.out.bad (by omega))
          go_wp2
          go_ret
          exact ⟨ret_ei (by rw [HCE.out, HN.out]), HB.out⟩
      · obtain rfl : k = t.kids.length := by omega
        have HN := Lib.hid HAT.out.over
        go_wp2
        go_ret
        exact ⟨ret_ei (by rw [HCE.out, HN.out]), HB.out⟩
/-- The least and the greatest number of kids of a kind. -/
def Ex.kidsOf (k : Int) : Int × Int := if k = 6 then (0, 8) else if k = 7 then (1, 1) else if k = 8 then (2, 2) else if k = 9 then (2, 3) else if k = 10 then (1, 9) else if k = 11 then (2, 2) else if k = 12 then (3, 3) else if k = 13 then (1, 1) else if k = 14 then (0, 24) else if k = 15 then (2, 3) else if k = 16 then (1, 2) else if k = 17 then (1, 2) else if k = 18 then (1, 2) else if k = 19 then (1, 1) else if k = 20 then (1, 14) else if k = 21 then (0, 1) else if k = 22 then (0, 2) else if k = 24 then (0, 1) else if k = 26 then (1, 1) else if k = 27 then (1, 1) else if k = 29 then (2, 8) else (0, 0)
theorem counts_6 (t : Ex.T) (v : Value) (w : World) (h : t.kind = 6) : Calls Try.prog 76 #[exV t v] w fun e w' => e = .returned (.tuple #[.int .i64 0, .int .i64 8]) ∧ Below w.heap.size w w' := by
  go_enter Try.func76, Try.ntmps76
  go_wp2
  go_ret2
  exact ⟨rfl, bl1 _ _⟩
theorem counts_7 (t : Ex.T) (v : Value) (w : World) (h : t.kind = 7) : Calls Try.prog 76 #[exV t v] w fun e w' => e = .returned (.tuple #[.int .i64 1, .int .i64 1]) ∧ Below w.heap.size w w' := by
  go_enter Try.func76, Try.ntmps76
  go_wp2
  go_ret2
  exact ⟨rfl, bl1 _ _⟩
theorem counts_8 (t : Ex.T) (v : Value) (w : World) (h : t.kind = 8) : Calls Try.prog 76 #[exV t v] w fun e w' => e = .returned (.tuple #[.int .i64 2, .int .i64 2]) ∧ Below w.heap.size w w' := by
  go_enter Try.func76, Try.ntmps76
  go_wp2
  go_ret2
  exact ⟨rfl, bl1 _ _⟩
theorem counts_9 (t : Ex.T) (v : Value) (w : World) (h : t.kind = 9) : Calls Try.prog 76 #[exV t v] w fun e w' => e = .returned (.tuple #[.int .i64 2, .int .i64 3]) ∧ Below w.heap.size w w' := by
  go_enter Try.func76, Try.ntmps76
  go_wp2
  go_ret2
  exact ⟨rfl, bl1 _ _⟩
theorem counts_10 (t : Ex.T) (v : Value) (w : World) (h : t.kind = 10) : Calls Try.prog 76 #[exV t v] w fun e w' => e = .returned (.tuple #[.int .i64 1, .int .i64 9]) ∧ Below w.heap.size w w' := by
  go_enter Try.func76, Try.ntmps76
  go_wp2
  go_ret2
  exact ⟨rfl, bl1 _ _⟩
theorem counts_11 (t : Ex.T) (v : Value) (w : World) (h : t.kind = 11) : Calls Try.prog 76 #[exV t v] w fun e w' => e = .returned (.tuple #[.int .i64 2, .int .i64 2]) ∧ Below w.heap.size w w' := by
  go_enter Try.func76, Try.ntmps76
  go_wp2
  go_ret2
  exact ⟨rfl, bl1 _ _⟩
theorem counts_12 (t : Ex.T) (v : Value) (w : World) (h : t.kind = 12) : Calls Try.prog 76 #[exV t v] w fun e w' => e = .returned (.tuple #[.int .i64 3, .int .i64 3]) ∧ Below w.heap.size w w' := by
  go_enter Try.func76, Try.ntmps76
  go_wp2
  go_ret2
  exact ⟨rfl, bl1 _ _⟩
theorem counts_13 (t : Ex.T) (v : Value) (w : World) (h : t.kind = 13) : Calls Try.prog 76 #[exV t v] w fun e w' => e = .returned (.tuple #[.int .i64 1, .int .i64 1]) ∧ Below w.heap.size w w' := by
  go_enter Try.func76, Try.ntmps76
  go_wp2
  go_ret2
  exact ⟨rfl, bl1 _ _⟩
theorem counts_14 (t : Ex.T) (v : Value) (w : World) (h : t.kind = 14) : Calls Try.prog 76 #[exV t v] w fun e w' => e = .returned (.tuple #[.int .i64 0, .int .i64 24]) ∧ Below w.heap.size w w' := by
  go_enter Try.func76, Try.ntmps76
  go_wp2
  go_ret2
  exact ⟨rfl, bl1 _ _⟩
theorem counts_15 (t : Ex.T) (v : Value) (w : World) (h : t.kind = 15) : Calls Try.prog 76 #[exV t v] w fun e w' => e = .returned (.tuple #[.int .i64 2, .int .i64 3]) ∧ Below w.heap.size w w' := by
  go_enter Try.func76, Try.ntmps76
  go_wp2
  go_ret2
  exact ⟨rfl, bl1 _ _⟩
theorem counts_16 (t : Ex.T) (v : Value) (w : World) (h : t.kind = 16) : Calls Try.prog 76 #[exV t v] w fun e w' => e = .returned (.tuple #[.int .i64 1, .int .i64 2]) ∧ Below w.heap.size w w' := by
  go_enter Try.func76, Try.ntmps76
  go_wp2
  go_ret2
  exact ⟨rfl, bl1 _ _⟩
theorem counts_17 (t : Ex.T) (v : Value) (w : World) (h : t.kind = 17) : Calls Try.prog 76 #[exV t v] w fun e w' => e = .returned (.tuple #[.int .i64 1, .int .i64 2]) ∧ Below w.heap.size w w' := by
  go_enter Try.func76, Try.ntmps76
  go_wp2
  go_ret2
  exact ⟨rfl, bl1 _ _⟩
theorem counts_18 (t : Ex.T) (v : Value) (w : World) (h : t.kind = 18) : Calls Try.prog 76 #[exV t v] w fun e w' => e = .returned (.tuple #[.int .i64 1, .int .i64 2]) ∧ Below w.heap.size w w' := by
  go_enter Try.func76, Try.ntmps76
  go_wp2
  go_ret2
  exact ⟨rfl, bl1 _ _⟩
theorem counts_19 (t : Ex.T) (v : Value) (w : World) (h : t.kind = 19) : Calls Try.prog 76 #[exV t v] w fun e w' => e = .returned (.tuple #[.int .i64 1, .int .i64 1]) ∧ Below w.heap.size w w' := by
  go_enter Try.func76, Try.ntmps76
  go_wp2
  go_ret2
  exact ⟨rfl, bl1 _ _⟩
theorem counts_20 (t : Ex.T) (v : Value) (w : World) (h : t.kind = 20) : Calls Try.prog 76 #[exV t v] w fun e w' => e = .returned (.tuple #[.int .i64 1, .int .i64 14]) ∧ Below w.heap.size w w' := by
  go_enter Try.func76, Try.ntmps76
  go_wp2
  go_ret2
  exact ⟨rfl, bl1 _ _⟩
theorem counts_21 (t : Ex.T) (v : Value) (w : World) (h : t.kind = 21) : Calls Try.prog 76 #[exV t v] w fun e w' => e = .returned (.tuple #[.int .i64 0, .int .i64 1]) ∧ Below w.heap.size w w' := by
  go_enter Try.func76, Try.ntmps76
  go_wp2
  go_ret2
  exact ⟨rfl, bl1 _ _⟩
theorem counts_22 (t : Ex.T) (v : Value) (w : World) (h : t.kind = 22) : Calls Try.prog 76 #[exV t v] w fun e w' => e = .returned (.tuple #[.int .i64 0, .int .i64 2]) ∧ Below w.heap.size w w' := by
  go_enter Try.func76, Try.ntmps76
  go_wp2
  go_ret2
  exact ⟨rfl, bl1 _ _⟩
theorem counts_24 (t : Ex.T) (v : Value) (w : World) (h : t.kind = 24) : Calls Try.prog 76 #[exV t v] w fun e w' => e = .returned (.tuple #[.int .i64 0, .int .i64 1]) ∧ Below w.heap.size w w' := by
  go_enter Try.func76, Try.ntmps76
  go_wp2
  go_ret2
  exact ⟨rfl, bl1 _ _⟩
theorem counts_26 (t : Ex.T) (v : Value) (w : World) (h : t.kind = 26) : Calls Try.prog 76 #[exV t v] w fun e w' => e = .returned (.tuple #[.int .i64 1, .int .i64 1]) ∧ Below w.heap.size w w' := by
  go_enter Try.func76, Try.ntmps76
  go_wp2
  go_ret2
  exact ⟨rfl, bl1 _ _⟩
theorem counts_27 (t : Ex.T) (v : Value) (w : World) (h : t.kind = 27) : Calls Try.prog 76 #[exV t v] w fun e w' => e = .returned (.tuple #[.int .i64 1, .int .i64 1]) ∧ Below w.heap.size w w' := by
  go_enter Try.func76, Try.ntmps76
  go_wp2
  go_ret2
  exact ⟨rfl, bl1 _ _⟩
theorem counts_29 (t : Ex.T) (v : Value) (w : World) (h : t.kind = 29) : Calls Try.prog 76 #[exV t v] w fun e w' => e = .returned (.tuple #[.int .i64 2, .int .i64 8]) ∧ Below w.heap.size w w' := by
  go_enter Try.func76, Try.ntmps76
  go_wp2
  go_ret2
  exact ⟨rfl, bl1 _ _⟩
theorem counts_no (t : Ex.T) (v : Value) (w : World) (h6 : (t.kind == 6) = false) (h7 : (t.kind == 7) = false) (h8 : (t.kind == 8) = false) (h9 : (t.kind == 9) = false) (h10 : (t.kind == 10) = false) (h11 : (t.kind == 11) = false) (h12 : (t.kind == 12) = false) (h13 : (t.kind == 13) = false) (h14 : (t.kind == 14) = false) (h15 : (t.kind == 15) = false) (h16 : (t.kind == 16) = false) (h17 : (t.kind == 17) = false) (h18 : (t.kind == 18) = false) (h19 : (t.kind == 19) = false) (h20 : (t.kind == 20) = false) (h21 : (t.kind == 21) = false) (h22 : (t.kind == 22) = false) (h24 : (t.kind == 24) = false) (h26 : (t.kind == 26) = false) (h27 : (t.kind == 27) = false) (h29 : (t.kind == 29) = false) : Calls Try.prog 76 #[exV t v] w fun e w' => e = .returned (.tuple #[.int .i64 0, .int .i64 0]) ∧ Below w.heap.size w w' := by
  go_enter Try.func76, Try.ntmps76
  go_wp2
  go_ret2
  exact ⟨rfl, bl1 _ _⟩
theorem spec_counts (t : Ex.T) (v : Value) (w : World) : Calls Try.prog 76 #[exV t v] w fun e w' => e = .returned (.tuple #[.int .i64 (Ex.kidsOf t.kind).1, .int .i64 (Ex.kidsOf t.kind).2]) ∧ Below w.heap.size w w' := by
  by_cases h6 : t.kind = 6
  · rw [show Ex.kidsOf t.kind = (0, 8) by rw [h6]; rfl]; exact counts_6 t v w h6
  by_cases h7 : t.kind = 7
  · rw [show Ex.kidsOf t.kind = (1, 1) by rw [h7]; rfl]; exact counts_7 t v w h7
  by_cases h8 : t.kind = 8
  · rw [show Ex.kidsOf t.kind = (2, 2) by rw [h8]; rfl]; exact counts_8 t v w h8
  by_cases h9 : t.kind = 9
  · rw [show Ex.kidsOf t.kind = (2, 3) by rw [h9]; rfl]; exact counts_9 t v w h9
  by_cases h10 : t.kind = 10
  · rw [show Ex.kidsOf t.kind = (1, 9) by rw [h10]; rfl]; exact counts_10 t v w h10
  by_cases h11 : t.kind = 11
  · rw [show Ex.kidsOf t.kind = (2, 2) by rw [h11]; rfl]; exact counts_11 t v w h11
  by_cases h12 : t.kind = 12
  · rw [show Ex.kidsOf t.kind = (3, 3) by rw [h12]; rfl]; exact counts_12 t v w h12
  by_cases h13 : t.kind = 13
  · rw [show Ex.kidsOf t.kind = (1, 1) by rw [h13]; rfl]; exact counts_13 t v w h13
  by_cases h14 : t.kind = 14
  · rw [show Ex.kidsOf t.kind = (0, 24) by rw [h14]; rfl]; exact counts_14 t v w h14
  by_cases h15 : t.kind = 15
  · rw [show Ex.kidsOf t.kind = (2, 3) by rw [h15]; rfl]; exact counts_15 t v w h15
  by_cases h16 : t.kind = 16
  · rw [show Ex.kidsOf t.kind = (1, 2) by rw [h16]; rfl]; exact counts_16 t v w h16
  by_cases h17 : t.kind = 17
  · rw [show Ex.kidsOf t.kind = (1, 2) by rw [h17]; rfl]; exact counts_17 t v w h17
  by_cases h18 : t.kind = 18
  · rw [show Ex.kidsOf t.kind = (1, 2) by rw [h18]; rfl]; exact counts_18 t v w h18
  by_cases h19 : t.kind = 19
  · rw [show Ex.kidsOf t.kind = (1, 1) by rw [h19]; rfl]; exact counts_19 t v w h19
  by_cases h20 : t.kind = 20
  · rw [show Ex.kidsOf t.kind = (1, 14) by rw [h20]; rfl]; exact counts_20 t v w h20
  by_cases h21 : t.kind = 21
  · rw [show Ex.kidsOf t.kind = (0, 1) by rw [h21]; rfl]; exact counts_21 t v w h21
  by_cases h22 : t.kind = 22
  · rw [show Ex.kidsOf t.kind = (0, 2) by rw [h22]; rfl]; exact counts_22 t v w h22
  by_cases h24 : t.kind = 24
  · rw [show Ex.kidsOf t.kind = (0, 1) by rw [h24]; rfl]; exact counts_24 t v w h24
  by_cases h26 : t.kind = 26
  · rw [show Ex.kidsOf t.kind = (1, 1) by rw [h26]; rfl]; exact counts_26 t v w h26
  by_cases h27 : t.kind = 27
  · rw [show Ex.kidsOf t.kind = (1, 1) by rw [h27]; rfl]; exact counts_27 t v w h27
  by_cases h29 : t.kind = 29
  · rw [show Ex.kidsOf t.kind = (2, 8) by rw [h29]; rfl]; exact counts_29 t v w h29
  rw [show Ex.kidsOf t.kind = (0, 0) by unfold Ex.kidsOf; rw [if_neg h6, if_neg h7, if_neg h8, if_neg h9, if_neg h10, if_neg h11, if_neg h12, if_neg h13, if_neg h14, if_neg h15, if_neg h16, if_neg h17, if_neg h18, if_neg h19, if_neg h20, if_neg h21, if_neg h22, if_neg h24, if_neg h26, if_neg h27, if_neg h29]]
  exact counts_no t v w (beq_eq_false_iff_ne.2 h6) (beq_eq_false_iff_ne.2 h7) (beq_eq_false_iff_ne.2 h8) (beq_eq_false_iff_ne.2 h9) (beq_eq_false_iff_ne.2 h10) (beq_eq_false_iff_ne.2 h11) (beq_eq_false_iff_ne.2 h12) (beq_eq_false_iff_ne.2 h13) (beq_eq_false_iff_ne.2 h14) (beq_eq_false_iff_ne.2 h15) (beq_eq_false_iff_ne.2 h16) (beq_eq_false_iff_ne.2 h17) (beq_eq_false_iff_ne.2 h18) (beq_eq_false_iff_ne.2 h19) (beq_eq_false_iff_ne.2 h20) (beq_eq_false_iff_ne.2 h21) (beq_eq_false_iff_ne.2 h22) (beq_eq_false_iff_ne.2 h24) (beq_eq_false_iff_ne.2 h26) (beq_eq_false_iff_ne.2 h27) (beq_eq_false_iff_ne.2 h29)
end Go.Proofs.Ytiiogpafgoeblaa
/- Appending a few bytes that are written out to bytes of the call's own: in a plain region, and at a step of one that draws its order. No conditions. -/
namespace Go.Proofs.Ytiiogpafgoeblaa
open Go.RowKit
set_option linter.unusedVariables false

theorem new8s (w : World) (xs : List Value) (t : TypeId) : ∀ (j : Nat) (u : Value), xs[j]? = some u → (w.alloc (.cells xs.toArray t)).cell? ((⟨w.heap.size, 0, none⟩ : Addr).add j) = some u := by
  intro j u hj
  have e : (⟨w.heap.size, 0, none⟩ : Addr).add j = ⟨w.heap.size, j, none⟩ := by unfold Addr.add; split <;> simp_all
  rw [e, World.cell?_alloc_mark]
  simpa using hj
theorem max8b {n : Nat} (h : n ≤ 100000000) : n ≤ maxLen := by unfold maxLen; omega
theorem run_app8 (w : World) (base : Nat) (v : Value) (l news : List UInt8) (hown : Own8 w base v l) (hB : base ≤ w.heap.size) (n : Nat) (hn : n = news.length) (hl : l.length + n ≤ 100000000) (ty tc : TypeId) :
    ∃ v' w', (Builtin.append_ #[107, 107] ty #[v, .slice (some ⟨w.heap.size, 0, none⟩) n n]).run Try.prog (w.alloc (.cells (Lib.byteCells news).toArray tc)) = .ok v' w' ∧ Own8 w' base v' (l ++ news) ∧ Below base w w' := by
  subst hn
  obtain ⟨i0, hi, hz0, hz1, hz2⟩ := info_parts info8
  have hown2 := World.ownsRow.alloc hown (.cells (Lib.byteCells news).toArray tc)
  obtain ⟨v', w', hrun, h2, h3, _⟩ := run_append_own_at (P := Try.prog) (w.alloc (.cells (Lib.byteCells news).toArray tc)) base 107 ty 5 i0 (.int .u8 0) 1 1 Try.underlying107 hi hz0 hz1 hz2 rfl (by decide) v l.length (Lib.byteCells l) hown2
    ⟨w.heap.size, 0, none⟩ news.length news.length (Lib.byteCells news) (by rw [Lib.byteCells_length]; omega) (new8s _ _ _) (Lib.byteCells_one _) (max8b hl) (by omega) (by simp; omega)
  refine ⟨v', w', hrun, ?_, ?_⟩
  · unfold Own8; rw [cells8_app, List.length_append]; exact h2
  · exact ((Below.refl base w).alloc hB _).grown h3 (by simp; omega) (fun k hk => (hown2.lt k hk).1)
theorem wp_app8 {w : World} {o : Oper} {a : Act} {K : Act → World → Prop} {Q : Exit → Act → World → Prop} (s x : Operand)
    (ho : o.op = .call { callee := .builtin .append, args := #[s, x], argTypes := #[107, 107] })
    (base : Nat) (v : Value) (l news : List UInt8) (hs : a.eval s = v) (hown : Own8 w base v l) (hB : base ≤ w.heap.size) (n : Nat) (hn : n = news.length) (hx : a.eval x = .slice (some ⟨w.heap.size, 0, none⟩) n n) (hl : l.length + n ≤ 100000000)
    (cs : Array Value) (tc : TypeId) (hcs : cs = (Lib.byteCells news).toArray)
    (h : ∀ v' w', Hid (Own8 w' base v' (l ++ news)) → Hid (Below base w w') → K (a.put o.dst v') w') : o.wp Try.prog a (w.alloc (.cells cs tc)) K Q := by
  subst hcs
  obtain ⟨v', w', hrun, h2, h3⟩ := run_app8 w base v l news hown hB n hn hl o.type tc
  unfold Oper.wp execOp
  simp only [ho, resolve, invoke, builtin, Sem.run_bind, Sem.run_pure, Result.andThen_ok, List.map_toArray, List.map_cons, List.map_nil, hs, hx, hrun]
  exact h v' w' h2 h3
theorem wpList_app8 {w : World} {ops : Array Oper} {rest : List Oper} {o : Oper} {a : Act} {Q : Exit → Act → World → Prop} (hgd : o.guard = none) (s x : Operand)
    (ho : o.op = .call { callee := .builtin .append, args := #[s, x], argTypes := #[107, 107] })
    (base : Nat) (v : Value) (l news : List UInt8) (hs : a.eval s = v) (hown : Own8 w base v l) (hB : base ≤ w.heap.size) (n : Nat) (hn : n = news.length) (hx : a.eval x = .slice (some ⟨w.heap.size, 0, none⟩) n n) (hl : l.length + n ≤ 100000000)
    (cs : Array Value) (tc : TypeId) (hcs : cs = (Lib.byteCells news).toArray)
    (h : ∀ v' w', Hid (Own8 w' base v' (l ++ news)) → Hid (Below base w w') → wpList Try.prog ops Q rest (a.put o.dst v') w') : wpList Try.prog ops Q (o :: rest) a (w.alloc (.cells cs tc)) :=
  wpList_plain hgd fun _ hK => wp_app8 s x ho base v l news hs hown hB n hn hx hl cs tc hcs fun v' w' h2 h3 => hK _ _ (h v' w' h2 h3)
theorem step_app8 {w : World} {ops : Array Oper} {o : Oper} {a : Act} {K : Act → World → Prop} {Q : Exit → Act → World → Prop} {E : Prop} (hgd : o.guard = none) (s x : Operand)
    (ho : o.op = .call { callee := .builtin .append, args := #[s, x], argTypes := #[107, 107] })
    (base : Nat) (v : Value) (l news : List UInt8) (hs : a.eval s = v) (hown : Own8 w base v l) (hB : base ≤ w.heap.size) (n : Nat) (hn : n = news.length) (hx : a.eval x = .slice (some ⟨w.heap.size, 0, none⟩) n n) (hl : l.length + n ≤ 100000000)
    (cs : Array Value) (tc : TypeId) (hcs : cs = (Lib.byteCells news).toArray)
    (h : ∀ v' w', Hid (Own8 w' base v' (l ++ news)) → Hid (Below base w w') → K (a.put o.dst v') w') : if Region.wanted o (yielded ops a.tmps) = true then Oper.wp Try.prog o a (w.alloc (.cells cs tc)) K Q else E := by
  have hw : Region.wanted o (yielded ops a.tmps) = true := by simp [Region.wanted, hgd]
  rw [if_pos hw]
  exact wp_app8 s x ho base v l news hs hown hB n hn hx hl cs tc hcs h
/-- The same where the order has been drawn. -/
theorem step_app8d {w : World} {ops : Array Oper} {o : Oper} {a : Act} {K : Act → World → Prop} {Q : Exit → Act → World → Prop} {E : Prop} (hgd : o.guard = none) (s x : Operand)
    (ho : o.op = .call { callee := .builtin .append, args := #[s, x], argTypes := #[107, 107] })
    (base : Nat) (v : Value) (l news : List UInt8) (hs : a.eval s = v) (hown : Own8 w base v l) (hB : base ≤ w.heap.size) (n : Nat) (hn : n = news.length) (hx : a.eval x = .slice (some ⟨w.heap.size, 0, none⟩) n n) (hl : l.length + n ≤ 100000000)
    (cs : Array Value) (tc : TypeId) (hcs : cs = (Lib.byteCells news).toArray)
    (h : ∀ v' w', Hid (Own8 w' base v' (l ++ news)) → Hid (Below base w w') → K (a.put o.dst v') w') : if Region.wanted o (yielded ops a.tmps) = true then Oper.wp Try.prog o a (w.alloc (.cells cs tc)).drew K Q else E :=
  step_app8 (w := w.drew) hgd s x ho base v l news hs hown hB n hn hx hl cs tc hcs fun v' w' h2 h3 => h v' w' h2 (Lib.hid (Below.trans (Below.drew (Below.refl base w)) h3.out))
/-- The same where the memory made for the new bytes lies behind other memory. -/
theorem own8_lit (w : World) (base : Nat) (l : List UInt8) (n : Nat) (hB : base ≤ w.heap.size) (hn : l.length = n) (hm : n ≤ 100) : Own8 (w.alloc (.cells (Lib.byteCells l).toArray 5)) base (.slice (some ⟨w.heap.size, 0, none⟩) n n) l := by
  subst hn
  have h := World.ownsRow_lit (base := base) (e := 5) (size := 1) w (Lib.byteCells l).toArray l.length hB (by unfold maxLen; omega) (by rw [List.size_toArray, Lib.byteCells_length]; omega)
  simpa [Own8] using h
/-- The bytes of the call's own, and what lies below, in a later world. -/
theorem own8_at {w w1 : World} {base : Nat} {v : Value} {l : List UInt8} (h : Own8 w base v l) (hb : Below w.heap.size w w1) : Own8 w1 base v l := own8_below h hb
theorem own8_drewN {w : World} {base : Nat} {v : Value} {l : List UInt8} (h : Own8 w base v l) (n : Nat) : Own8 (w.drewN n) base v l := h
theorem drewN8 {B : Nat} {w wr : World} (h : Below B w wr) : ∀ n, Below B w (wr.drewN n)
  | 0 => h
  | n + 1 => ⟨h.1, h.2, h.3, h.4, h.5⟩
end Go.Proofs.Ytiiogpafgoeblaa
/- The reference model's draws: a cursor over bytes, and numbers and texts that are drawn from it. -/
namespace Go.Proofs.Ytiiogpafgoeblaa
open Go.RowKit
set_option linter.unusedVariables false

/-- Bytes that came in: below block B, each readable. -/
def Code (B : Nat) (w : World) (v : Value) (n : Nat) : Prop :=
  ((∃ a c, v = .slice a 0 c) ∧ n = 0) ∨ ∃ g off c, v = .slice (some ⟨g, off, none⟩) n c ∧ g < B ∧ n ≤ maxLen ∧ ∀ j, j < n → ∃ x : Int, w.cell? ⟨g, off + j, none⟩ = some (.int .u8 x) ∧ 0 ≤ x ∧ x ≤ 255

theorem code_below {B : Nat} {w w1 : World} {v : Value} {n : Nat} (h : Code B w v n) (hb : Below B w w1) : Code B w1 v n := by
  rcases h with h | ⟨g, off, c, hv, hg, hm, hc⟩
  · exact .inl h
  · refine .inr ⟨g, off, c, hv, hg, hm, fun j hj => ?_⟩
    obtain ⟨x, hx, h0⟩ := hc j hj
    exact ⟨x, (hb.cell hg).trans hx, h0⟩
theorem heap_cell {w : World} {b : Nat} {cs : Array Value} {T : TypeId} {fr : Nat × Nat} (hb : w.heap[b]? = some (.cells cs T fr)) (j : Nat) : w.cell? ⟨b, j, none⟩ = cs[j]? := by
  simp [World.cell?, hb]
theorem heap_free {w : World} {b : Nat} {cs : Array Value} {T : TypeId} (hb : w.heap[b]? = some (.cells cs T (0, 0))) (j : Nat) : w.frozen? ⟨b, j, none⟩ = false := by
  simp [World.frozen?, hb]

theorem and255 (n : Int) : 0 ≤ bits .and .i64 n 255 ∧ bits .and .i64 n 255 ≤ 255 := by
  have h : bits .and .i64 n 255 = n % 256 := by
    have h127 : (BitVec.ofInt 64 255).toNat = 2 ^ 8 - 1 := by decide
    have key : (BitVec.ofInt 64 n &&& BitVec.ofInt 64 255).toNat = (n % ((2 ^ 64 : Nat) : Int)).toNat % 2 ^ 8 := by
      rw [BitVec.toNat_and, BitVec.toNat_ofInt, h127, Nat.and_two_pow_sub_one_eq_mod]
    show IntKind.i64.wrap ((BitVec.ofInt 64 n &&& BitVec.ofInt 64 255).toNat : Nat) = n % 256
    rw [key, IntKind.wrap_i64]
    omega
  rw [h]; omega

theorem heap_set {w : World} {b j : Nat} {cs : Array Value} {T : TypeId} {u : Value} (hb : w.heap[b]? = some (.cells cs T (0, 0))) : (w.setCell ⟨b, j, none⟩ u).heap[b]? = some (.cells (cs.setIfInBounds j u) T (0, 0)) := heap_setCell_same w b j cs T u hb

theorem drewN_heap (w : World) (n : Nat) : (w.drewN n).heap = w.heap := rfl

/-- Only block cb may have changed, and blocks may be new. -/
def Only (cb : Nat) (w w' : World) : Prop := w.grownBy w' (some cb)
theorem Only.refl (cb : Nat) (w : World) : Only cb w w := ⟨rfl, rfl, rfl, Nat.le_refl _, fun _ _ _ => rfl⟩
theorem Only.trans {cb : Nat} {w w1 w2 : World} (h : Only cb w w1) (k : Only cb w1 w2) : Only cb w w2 :=
  ⟨k.os.trans h.os, k.tape.trans h.tape, k.output.trans h.output, Nat.le_trans h.size k.size, fun i hi hne => (k.block i (Nat.lt_of_lt_of_le hi h.size) hne).trans (h.block i hi hne)⟩
theorem Only.setCell {cb : Nat} {w w1 : World} (h : Only cb w w1) (j : Nat) (v : Value) : Only cb w (w1.setCell ⟨cb, j, none⟩ v) :=
  h.trans ⟨rfl, rfl, rfl, by simp [World.setCell], fun k _ hk => Below.heap_setCell _ _ _ _ (fun e => hk (by simp [e]))⟩
theorem Only.drewN {cb : Nat} {w w1 : World} (h : Only cb w w1) (n : Nat) : Only cb w (w1.drewN n) := h.trans ⟨rfl, rfl, rfl, Nat.le_refl _, fun _ _ _ => rfl⟩
theorem Only.of_below {cb : Nat} {w w1 : World} (h : Below w.heap.size w w1) : Only cb w w1 := ⟨h.os, h.tape, h.output, h.size, fun k hk _ => h.block k hk⟩
theorem Only.below {cb B : Nat} {w w1 : World} (h : Only cb w w1) (h1 : B ≤ cb) (h2 : B ≤ w.heap.size) : Below B w w1 :=
  (Below.refl _ _).grown h h2 (fun k hk => by cases hk; exact h1)

end Go.Proofs.Ytiiogpafgoeblaa
/- The reference model's draws: a new cursor, and picks from a list. -/
namespace Go.Proofs.Ytiiogpafgoeblaa
open Go.RowKit
set_option linter.unusedVariables false

end Go.Proofs.Ytiiogpafgoeblaa
