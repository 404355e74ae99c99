/- Joined texts: G13. No conditions besides those that each states. -/
import Derived.Test.YtfachlcahainhaaZ16
/- A bounded count of nodes, numbers of kids in the reference model. No conditions. -/
namespace Go.Proofs.Ytfachlcahainhaa
open Go.RowKit
set_option linter.unusedVariables false

def LeftT (t : Ex.T) : Prop := t.bulk ≤ 1048576 → ∀ (w : World) (v : Value) (left : Nat), (left : Int) ≤ 1048576 → Kids w v t.kids → Calls Try.prog 48 #[exV t v, .int .i64 (left : Int)] w fun e w' => e = .returned (.int .i64 (szR left t.count)) ∧ Below w.heap.size w w'
/-- Where the bounded count stands. -/
def LfAt (ks : List Ex.T) (left k : Nat) (m : Int) : Prop := m = szR left (1 + Ex.counts (ks.take k))
theorem LfAt.start (ks : List Ex.T) (left : Nat) : LfAt ks left 0 ((left : Int) - 1) := by
  unfold LfAt szR
  simp only [List.take_zero, Ex.counts]
  split <;> omega
theorem LfAt.next {ks : List Ex.T} {left k : Nat} {m : Int} (h : LfAt ks left k m) (hk : k < ks.length) (n : Nat) (hn : m = n) : LfAt ks left (k + 1) (szR n ks[k].count) := by
  unfold LfAt at h ⊢
  rw [Ex.counts_take ks k hk]
  unfold szR at h ⊢
  split at h <;> (split <;> split <;> omega)
theorem LfAt.over {ks : List Ex.T} {left : Nat} {m : Int} (h : LfAt ks left ks.length m) : szR left (1 + Ex.counts ks) = m := by
  unfold LfAt at h
  rw [List.take_length] at h; exact h.symm
theorem LfAt.bad {ks : List Ex.T} {left k : Nat} {m : Int} (h : LfAt ks left k m) (hm : m < 0) : szR left (1 + Ex.counts ks) = m := by
  unfold LfAt at h
  have := Ex.counts_take_le ks k
  unfold szR at h ⊢
  split at h
  · omega
  · rw [if_neg (by omega)]; exact h.symm
theorem LfAt.ge {ks : List Ex.T} {left k : Nat} {m : Int} (h : LfAt ks left k m) : -1 ≤ m ∧ m ≤ left := by
  unfold LfAt szR at h
  split at h <;> omega
set_option maxHeartbeats 1600000 in
theorem spec_leftT : ∀ (N : Nat) (t : Ex.T), t.count ≤ N → LeftT t := by
  intro N
  induction N with
  | zero => intro t h; have := Ex.count_pos t; omega
  | succ N ih =>
    intro t hN hb w v left hs hk
    have hbe := bulk_eq t
    obtain ⟨a, c, rfl⟩ := kids_len hk
    have HI := Lib.hid (fun (x : Ex.T) (hx : x ∈ t.kids) => ih x (by have := kids_count hx; omega) (by have := Ex.bulks_mem hx; omega))
    have HK := Lib.hid hk
    have HCE := Lib.hid (count_eq t)
    have hln : t.kids.length ≤ 1048576 := by omega
    have HE0 := Lib.hid (CellsE.new w t (.slice a t.kids.length c) 47)
    have HST := Lib.hid (LfAt.start t.kids left)
    clear ih hN hb hk hbe
    go_enter Try.func48, Try.ntmps48
    go_wp2
    go_loopw [1, 5] (fun m i wr => ∃ (k : Nat) (n : Int), i = .int .i64 k ∧ m = .int .i64 n ∧ k ≤ t.kids.length ∧ LfAt t.kids left k n ∧ CellsE wr w.heap.size t (.slice a t.kids.length c) ∧ Below w.heap.size w wr) (fun _ i _ => t.kids.length - (intOf i).toNat)
    case atStart => exact ⟨0, _, rfl, rfl, by omega, HST.out, HE0.out, bl1 _ _⟩
    case round =>
      clear HE0 HST
      obtain ⟨k, n, rfl, rfl, hkk, hat, hce, hb⟩ := hrel
      have HAT := Lib.hid hat
      have HB := Lib.hid hb
      have HE := Lib.hid hce
      have HK2 := Lib.hid (HK.out.later hb)
      obtain ⟨hg1, hg2⟩ := hat.ge
      obtain ⟨e0, e1, e2, e3, e4⟩ := hce
      clear hat hb e0 e1 e2 e3
      by_cases hlt : k < t.kids.length
      · have k0 : (0 : Int) ≤ k := by omega
        have k1 : (k : Int) < t.kids.length := by omega
        by_cases hn : 0 ≤ n
        · obtain ⟨g, o, rfl, ht⟩ := kids_at HK2.out k hlt
          obtain ⟨⟨q0, q1, q2, q3⟩, v, q4, hkv⟩ := tree_cells ht
          obtain ⟨m, rfl⟩ : ∃ m : Nat, n = m := ⟨n.toNat, by omega⟩
          have HC := Lib.hid (HI.out t.kids[k] (List.getElem_mem hlt) wr v m (by omega) hkv)
          have HN := Lib.hid (HAT.out.next hlt m rfl)
          clear ht hkv HAT
          generalize t.kids[k] = x at q0 q1 q2 q3 HC HN
          generalize szR m x.count = z at HC HN
          go_wp2_with (go_at_call 48; refine HC.out.mono ?_; rintro e w1 ⟨rfl, hb1⟩; have HB1 := Lib.hid (below_then HB.out hb1); have HE1 := Lib.hid (HE.out.later hb1); clear hb1)
          go_roundw
          case rel => exact ⟨k + 1, z, by go_num, rfl, by omega, HN.out, HE1.out, HB1.out⟩
          case measure => first | (simp [intOf]; done) | (simp [intOf]; omega)
        · have HN := Lib.hid (HAT.out.bad (by omega))
          go_wp2
          go_ret
          exact ⟨ret_ei (by rw [HCE.out, HN.out]), HB.out⟩
      · obtain rfl : k = t.kids.length := by omega
        have HN := Lib.hid HAT.out.over
        go_wp2
        go_ret
        exact ⟨ret_ei (by rw [HCE.out, HN.out]), HB.out⟩
/-- The least and the greatest number of kids of a kind. -/
def Ex.kidsOf (k : Int) : Int × Int := if k = 6 then (0, 8) else if k = 7 then (1, 1) else if k = 8 then (2, 2) else if k = 9 then (2, 3) else if k = 10 then (1, 9) else if k = 11 then (2, 2) else if k = 12 then (3, 3) else if k = 13 then (1, 1) else if k = 14 then (0, 24) else if k = 15 then (2, 3) else if k = 16 then (1, 2) else if k = 17 then (1, 2) else if k = 18 then (1, 2) else if k = 19 then (1, 1) else if k = 20 then (1, 14) else if k = 21 then (0, 1) else if k = 22 then (0, 2) else if k = 24 then (0, 1) else if k = 26 then (1, 1) else if k = 27 then (1, 1) else if k = 29 then (2, 8) else (0, 0)
theorem counts_6 (t : Ex.T) (v : Value) (w : World) (h : t.kind = 6) : Calls Try.prog 67 #[exV t v] w fun e w' => e = .returned (.tuple #[.int .i64 0, .int .i64 8]) ∧ Below w.heap.size w w' := by
  go_enter Try.func67, Try.ntmps67
  go_wp2
  go_ret2
  exact ⟨rfl, bl1 _ _⟩
theorem counts_7 (t : Ex.T) (v : Value) (w : World) (h : t.kind = 7) : Calls Try.prog 67 #[exV t v] w fun e w' => e = .returned (.tuple #[.int .i64 1, .int .i64 1]) ∧ Below w.heap.size w w' := by
  go_enter Try.func67, Try.ntmps67
  go_wp2
  go_ret2
  exact ⟨rfl, bl1 _ _⟩
theorem counts_8 (t : Ex.T) (v : Value) (w : World) (h : t.kind = 8) : Calls Try.prog 67 #[exV t v] w fun e w' => e = .returned (.tuple #[.int .i64 2, .int .i64 2]) ∧ Below w.heap.size w w' := by
  go_enter Try.func67, Try.ntmps67
  go_wp2
  go_ret2
  exact ⟨rfl, bl1 _ _⟩
theorem counts_9 (t : Ex.T) (v : Value) (w : World) (h : t.kind = 9) : Calls Try.prog 67 #[exV t v] w fun e w' => e = .returned (.tuple #[.int .i64 2, .int .i64 3]) ∧ Below w.heap.size w w' := by
  go_enter Try.func67, Try.ntmps67
  go_wp2
  go_ret2
  exact ⟨rfl, bl1 _ _⟩
theorem counts_10 (t : Ex.T) (v : Value) (w : World) (h : t.kind = 10) : Calls Try.prog 67 #[exV t v] w fun e w' => e = .returned (.tuple #[.int .i64 1, .int .i64 9]) ∧ Below w.heap.size w w' := by
  go_enter Try.func67, Try.ntmps67
  go_wp2
  go_ret2
  exact ⟨rfl, bl1 _ _⟩
theorem counts_11 (t : Ex.T) (v : Value) (w : World) (h : t.kind = 11) : Calls Try.prog 67 #[exV t v] w fun e w' => e = .returned (.tuple #[.int .i64 2, .int .i64 2]) ∧ Below w.heap.size w w' := by
  go_enter Try.func67, Try.ntmps67
  go_wp2
  go_ret2
  exact ⟨rfl, bl1 _ _⟩
theorem counts_12 (t : Ex.T) (v : Value) (w : World) (h : t.kind = 12) : Calls Try.prog 67 #[exV t v] w fun e w' => e = .returned (.tuple #[.int .i64 3, .int .i64 3]) ∧ Below w.heap.size w w' := by
  go_enter Try.func67, Try.ntmps67
  go_wp2
  go_ret2
  exact ⟨rfl, bl1 _ _⟩
theorem counts_13 (t : Ex.T) (v : Value) (w : World) (h : t.kind = 13) : Calls Try.prog 67 #[exV t v] w fun e w' => e = .returned (.tuple #[.int .i64 1, .int .i64 1]) ∧ Below w.heap.size w w' := by
  go_enter Try.func67, Try.ntmps67
  go_wp2
  go_ret2
  exact ⟨rfl, bl1 _ _⟩
theorem counts_14 (t : Ex.T) (v : Value) (w : World) (h : t.kind = 14) : Calls Try.prog 67 #[exV t v] w fun e w' => e = .returned (.tuple #[.int .i64 0, .int .i64 24]) ∧ Below w.heap.size w w' := by
  go_enter Try.func67, Try.ntmps67
  go_wp2
  go_ret2
  exact ⟨rfl, bl1 _ _⟩
theorem counts_15 (t : Ex.T) (v : Value) (w : World) (h : t.kind = 15) : Calls Try.prog 67 #[exV t v] w fun e w' => e = .returned (.tuple #[.int .i64 2, .int .i64 3]) ∧ Below w.heap.size w w' := by
  go_enter Try.func67, Try.ntmps67
  go_wp2
  go_ret2
  exact ⟨rfl, bl1 _ _⟩
theorem counts_16 (t : Ex.T) (v : Value) (w : World) (h : t.kind = 16) : Calls Try.prog 67 #[exV t v] w fun e w' => e = .returned (.tuple #[.int .i64 1, .int .i64 2]) ∧ Below w.heap.size w w' := by
  go_enter Try.func67, Try.ntmps67
  go_wp2
  go_ret2
  exact ⟨rfl, bl1 _ _⟩
theorem counts_17 (t : Ex.T) (v : Value) (w : World) (h : t.kind = 17) : Calls Try.prog 67 #[exV t v] w fun e w' => e = .returned (.tuple #[.int .i64 1, .int .i64 2]) ∧ Below w.heap.size w w' := by
  go_enter Try.func67, Try.ntmps67
  go_wp2
  go_ret2
  exact ⟨rfl, bl1 _ _⟩
theorem counts_18 (t : Ex.T) (v : Value) (w : World) (h : t.kind = 18) : Calls Try.prog 67 #[exV t v] w fun e w' => e = .returned (.tuple #[.int .i64 1, .int .i64 2]) ∧ Below w.heap.size w w' := by
  go_enter Try.func67, Try.ntmps67
  go_wp2
  go_ret2
  exact ⟨rfl, bl1 _ _⟩
theorem counts_19 (t : Ex.T) (v : Value) (w : World) (h : t.kind = 19) : Calls Try.prog 67 #[exV t v] w fun e w' => e = .returned (.tuple #[.int .i64 1, .int .i64 1]) ∧ Below w.heap.size w w' := by
  go_enter Try.func67, Try.ntmps67
  go_wp2
  go_ret2
  exact ⟨rfl, bl1 _ _⟩
theorem counts_20 (t : Ex.T) (v : Value) (w : World) (h : t.kind = 20) : Calls Try.prog 67 #[exV t v] w fun e w' => e = .returned (.tuple #[.int .i64 1, .int .i64 14]) ∧ Below w.heap.size w w' := by
  go_enter Try.func67, Try.ntmps67
  go_wp2
  go_ret2
  exact ⟨rfl, bl1 _ _⟩
theorem counts_21 (t : Ex.T) (v : Value) (w : World) (h : t.kind = 21) : Calls Try.prog 67 #[exV t v] w fun e w' => e = .returned (.tuple #[.int .i64 0, .int .i64 1]) ∧ Below w.heap.size w w' := by
  go_enter Try.func67, Try.ntmps67
  go_wp2
  go_ret2
  exact ⟨rfl, bl1 _ _⟩
theorem counts_22 (t : Ex.T) (v : Value) (w : World) (h : t.kind = 22) : Calls Try.prog 67 #[exV t v] w fun e w' => e = .returned (.tuple #[.int .i64 0, .int .i64 2]) ∧ Below w.heap.size w w' := by
  go_enter Try.func67, Try.ntmps67
  go_wp2
  go_ret2
  exact ⟨rfl, bl1 _ _⟩
theorem counts_24 (t : Ex.T) (v : Value) (w : World) (h : t.kind = 24) : Calls Try.prog 67 #[exV t v] w fun e w' => e = .returned (.tuple #[.int .i64 0, .int .i64 1]) ∧ Below w.heap.size w w' := by
  go_enter Try.func67, Try.ntmps67
  go_wp2
  go_ret2
  exact ⟨rfl, bl1 _ _⟩
theorem counts_26 (t : Ex.T) (v : Value) (w : World) (h : t.kind = 26) : Calls Try.prog 67 #[exV t v] w fun e w' => e = .returned (.tuple #[.int .i64 1, .int .i64 1]) ∧ Below w.heap.size w w' := by
  go_enter Try.func67, Try.ntmps67
  go_wp2
  go_ret2
  exact ⟨rfl, bl1 _ _⟩
theorem counts_27 (t : Ex.T) (v : Value) (w : World) (h : t.kind = 27) : Calls Try.prog 67 #[exV t v] w fun e w' => e = .returned (.tuple #[.int .i64 1, .int .i64 1]) ∧ Below w.heap.size w w' := by
  go_enter Try.func67, Try.ntmps67
  go_wp2
  go_ret2
  exact ⟨rfl, bl1 _ _⟩
theorem counts_29 (t : Ex.T) (v : Value) (w : World) (h : t.kind = 29) : Calls Try.prog 67 #[exV t v] w fun e w' => e = .returned (.tuple #[.int .i64 2, .int .i64 8]) ∧ Below w.heap.size w w' := by
  go_enter Try.func67, Try.ntmps67
  go_wp2
  go_ret2
  exact ⟨rfl, bl1 _ _⟩
theorem counts_no (t : Ex.T) (v : Value) (w : World) (h6 : (t.kind == 6) = false) (h7 : (t.kind == 7) = false) (h8 : (t.kind == 8) = false) (h9 : (t.kind == 9) = false) (h10 : (t.kind == 10) = false) (h11 : (t.kind == 11) = false) (h12 : (t.kind == 12) = false) (h13 : (t.kind == 13) = false) (h14 : (t.kind == 14) = false) (h15 : (t.kind == 15) = false) (h16 : (t.kind == 16) = false) (h17 : (t.kind == 17) = false) (h18 : (t.kind == 18) = false) (h19 : (t.kind == 19) = false) (h20 : (t.kind == 20) = false) (h21 : (t.kind == 21) = false) (h22 : (t.kind == 22) = false) (h24 : (t.kind == 24) = false) (h26 : (t.kind == 26) = false) (h27 : (t.kind == 27) = false) (h29 : (t.kind == 29) = false) : Calls Try.prog 67 #[exV t v] w fun e w' => e = .returned (.tuple #[.int .i64 0, .int .i64 0]) ∧ Below w.heap.size w w' := by
  go_enter Try.func67, Try.ntmps67
  go_wp2
  go_ret2
  exact ⟨rfl, bl1 _ _⟩
theorem spec_counts (t : Ex.T) (v : Value) (w : World) : Calls Try.prog 67 #[exV t v] w fun e w' => e = .returned (.tuple #[.int .i64 (Ex.kidsOf t.kind).1, .int .i64 (Ex.kidsOf t.kind).2]) ∧ Below w.heap.size w w' := by
  by_cases h6 : t.kind = 6
  · rw [show Ex.kidsOf t.kind = (0, 8) by rw [h6]; rfl]; exact counts_6 t v w h6
  by_cases h7 : t.kind = 7
  · rw [show Ex.kidsOf t.kind = (1, 1) by rw [h7]; rfl]; exact counts_7 t v w h7
  by_cases h8 : t.kind = 8
  · rw [show Ex.kidsOf t.kind = (2, 2) by rw [h8]; rfl]; exact counts_8 t v w h8
  by_cases h9 : t.kind = 9
  · rw [show Ex.kidsOf t.kind = (2, 3) by rw [h9]; rfl]; exact counts_9 t v w h9
  by_cases h10 : t.kind = 10
  · rw [show Ex.kidsOf t.kind = (1, 9) by rw [h10]; rfl]; exact counts_10 t v w h10
  by_cases h11 : t.kind = 11
  · rw [show Ex.kidsOf t.kind = (2, 2) by rw [h11]; rfl]; exact counts_11 t v w h11
  by_cases h12 : t.kind = 12
  · rw [show Ex.kidsOf t.kind = (3, 3) by rw [h12]; rfl]; exact counts_12 t v w h12
  by_cases h13 : t.kind = 13
  · rw [show Ex.kidsOf t.kind = (1, 1) by rw [h13]; rfl]; exact counts_13 t v w h13
  by_cases h14 : t.kind = 14
  · rw [show Ex.kidsOf t.kind = (0, 24) by rw [h14]; rfl]; exact counts_14 t v w h14
  by_cases h15 : t.kind = 15
  · rw [show Ex.kidsOf t.kind = (2, 3) by rw [h15]; rfl]; exact counts_15 t v w h15
  by_cases h16 : t.kind = 16
  · rw [show Ex.kidsOf t.kind = (1, 2) by rw [h16]; rfl]; exact counts_16 t v w h16
  by_cases h17 : t.kind = 17
  · rw [show Ex.kidsOf t.kind = (1, 2) by rw [h17]; rfl]; exact counts_17 t v w h17
  by_cases h18 : t.kind = 18
  · rw [show Ex.kidsOf t.kind = (1, 2) by rw [h18]; rfl]; exact counts_18 t v w h18
  by_cases h19 : t.kind = 19
  · rw [show Ex.kidsOf t.kind = (1, 1) by rw [h19]; rfl]; exact counts_19 t v w h19
  by_cases h20 : t.kind = 20
  · rw [show Ex.kidsOf t.kind = (1, 14) by rw [h20]; rfl]; exact counts_20 t v w h20
  by_cases h21 : t.kind = 21
  · rw [show Ex.kidsOf t.kind = (0, 1) by rw [h21]; rfl]; exact counts_21 t v w h21
  by_cases h22 : t.kind = 22
  · rw [show Ex.kidsOf t.kind = (0, 2) by rw [h22]; rfl]; exact counts_22 t v w h22
  by_cases h24 : t.kind = 24
  · rw [show Ex.kidsOf t.kind = (0, 1) by rw [h24]; rfl]; exact counts_24 t v w h24
  by_cases h26 : t.kind = 26
  · rw [show Ex.kidsOf t.kind = (1, 1) by rw [h26]; rfl]; exact counts_26 t v w h26
  by_cases h27 : t.kind = 27
  · rw [show Ex.kidsOf t.kind = (1, 1) by rw [h27]; rfl]; exact counts_27 t v w h27
  by_cases h29 : t.kind = 29
  · rw [show Ex.kidsOf t.kind = (2, 8) by rw [h29]; rfl]; exact counts_29 t v w h29
  rw [show Ex.kidsOf t.kind = (0, 0) by unfold Ex.kidsOf; rw [if_neg h6, if_neg h7, if_neg h8, if_neg h9, if_neg h10, if_neg h11, if_neg h12, if_neg h13, if_neg h14, if_neg h15, if_neg h16, if_neg h17, if_neg h18, if_neg h19, if_neg h20, if_neg h21, if_neg h22, if_neg h24, if_neg h26, if_neg h27, if_neg h29]]
  exact counts_no t v w (beq_eq_false_iff_ne.2 h6) (beq_eq_false_iff_ne.2 h7) (beq_eq_false_iff_ne.2 h8) (beq_eq_false_iff_ne.2 h9) (beq_eq_false_iff_ne.2 h10) (beq_eq_false_iff_ne.2 h11) (beq_eq_false_iff_ne.2 h12) (beq_eq_false_iff_ne.2 h13) (beq_eq_false_iff_ne.2 h14) (beq_eq_false_iff_ne.2 h15) (beq_eq_false_iff_ne.2 h16) (beq_eq_false_iff_ne.2 h17) (beq_eq_false_iff_ne.2 h18) (beq_eq_false_iff_ne.2 h19) (beq_eq_false_iff_ne.2 h20) (beq_eq_false_iff_ne.2 h21) (beq_eq_false_iff_ne.2 h22) (beq_eq_false_iff_ne.2 h24) (beq_eq_false_iff_ne.2 h26) (beq_eq_false_iff_ne.2 h27) (beq_eq_false_iff_ne.2 h29)
end Go.Proofs.Ytfachlcahainhaa
