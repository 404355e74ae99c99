/- l3Pad of the reference model and bytes.Repeat of one byte. No conditions. -/
import Derived.Test.YtapdkdgabhnliaaT2
import Derived.Test.YtapdkdgabhnliaaE2
import Derived.Deep.RegionLaw
import Derived.Lib.MakeNoZero
import Derived.IntWalk
namespace Go.Proofs.Ytapdkdgabhnliaa
open Go.RowKit
set_option linter.unusedVariables false

theorem rep_snoc (k : Nat) (x : UInt8) : List.replicate k x ++ [x] = List.replicate (k + 1) x := (List.replicate_succ' ).symm
set_option maxHeartbeats 400000 in
theorem spec_pad (N : Nat) (x : UInt8) (w : World) (hN : (N : Int) ≤ 1000) : Calls Try.prog 17 #[.int .i64 N, .int .u8 (x.toNat : Int)] w (RetT w (str8 (List.replicate N x))) := by
  unfold RetT
  obtain ⟨i0, hi, hz0, hz1, hz2⟩ := info_parts info8
  go_enter Try.func17, Try.ntmps17
  go_wp2
  go_loopw [5, 6] (fun v i wr => ∃ k : Nat, i = .int .i64 k ∧ k ≤ N ∧ Own8 wr w.heap.size v (List.replicate k x) ∧ Below w.heap.size w wr) (fun _ i _ => N - (intOf i).toNat)
  case atStart => exact ⟨0, rfl, by omega, World.ownsRow_made w #[] 0 (Nat.le_refl _) (by unfold maxLen; omega) rfl, bl1 _ _⟩
  case round =>
    obtain ⟨k, rfl, hk, ho, hb⟩ := hrel
    have HO := Lib.hid ho
    have HB := Lib.hid hb
    have hsz := hb.size
    have hlen : (List.replicate k x).length = k := List.length_replicate
    by_cases hlt : (k : Int) < N
    · clear ho hb
      go_wp2_with (at_builtin; refine wpList_append_own _ rfl _ _ 22 rfl w.heap.size 5 i0 (.int .u8 0) 1 1 Try.underlying22 hi hz0 hz1 hz2 rfl (by decide) _ _ _ rfl (HO.out.alloc _) ⟨wr.heap.size, 0, none⟩ 1 1 [.int .u8 (x.toNat : Int)] rfl rfl ?c1 ?c2 ?c3 ?c4 ?c5 ?_)
      case c1 => exact new8 _ _ _
      case c2 => exact one8 _ _
      case c3 => exact max8 (by omega)
      case c4 => omega
      case c5 => simp; omega
      intro v' w2 hown' hgrow _
      have HO2 := Lib.hid (own8_app (l := List.replicate k x) (x := x) (by rw [hlen]; exact hown'))
      have HB2 := Lib.hid (below8_app HB.out HO.out hgrow)
      clear hown' hgrow
      go_wp2
      go_roundw
      case rel => exact ⟨k + 1, by go_num, by omega, by rw [← rep_snoc]; exact HO2.out, HB2.out⟩
      case measure => first | (simp [intOf]; done) | (simp [intOf]; omega)
    · obtain rfl : k = N := by omega
      have hc := conv8 ho
      clear ho hb
      go_wp2
      go_ret
      exact ⟨rfl, HB.out⟩

/-- Bytes that all are x, in a block of the call's own. -/
def RetRep (w : World) (N : Nat) (x : UInt8) (e : Ending) (w' : World) : Prop := ∃ g r, e = .returned (.slice (some ⟨g, 0, none⟩) N N) ∧ w.heap.size ≤ g ∧ Row8 w' g (List.replicate N x) r ∧ Below w.heap.size w w'

theorem splice_rep (k m : Nat) (x : UInt8) (r : List Value) (h : m ≤ r.length) : splice (Lib.byteCells (List.replicate k x) ++ r) k (List.replicate m (.int .u8 (x.toNat : Int))) = Lib.byteCells (List.replicate (k + m) x) ++ r.drop m := by
  have h1 : (Lib.byteCells (List.replicate k x)).length = k := by rw [cells8_len, List.length_replicate]
  unfold splice
  rw [List.length_replicate, List.take_append_of_le_length (by omega), List.take_of_length_le (by omega), List.drop_append, h1, List.drop_eq_nil_of_le (by omega), List.nil_append, show k + m - k = m by omega, ← List.append_assoc, cells8_rep, cells8_rep, List.replicate_append_replicate]

set_option maxHeartbeats 800000 in
theorem repeat_one (g0 : Nat) (N : Nat) (x : UInt8) (w : World) (hN : N ≤ 120) (hc : w.cell? ⟨g0, 0, none⟩ = some (.int .u8 (x.toNat : Int))) : Calls Try.prog 23 #[.slice (some ⟨g0, 0, none⟩) 1 1, .int .i64 N] w (RetRep w N x) := by
  have hlt0 := World.block_lt_of_cell? w _ hc
  by_cases h0 : N = 0
  · subst h0
    have HR : Hid (Row8 (w.alloc (.cells #[] 5)) w.heap.size (List.replicate 0 x) []) := by
      show (w.alloc (.cells #[] 5)).heap[w.heap.size]? = some (.cells #[] 5 (0, 0))
      exact heap_alloc_new _ _
    have HC := Lib.hid hc
    clear hc hlt0
    go_enter Try.func23, Try.ntmps23
    go_wp2
    go_ret
    exact ⟨_, _, rfl, Nat.le_refl _, HR.out, bl1 _ _⟩
  · have HMUL : Hid (∀ W : World, Calls Try.prog 26 #[.int .u64 1, .int .u64 N] W fun e w' => e = .returned (.tuple #[.int .u64 0, .int .u64 N]) ∧ W = w') := by
      intro W
      have h := Try.bits_Mul 1 N (by decide) (by omega) W
      rw [Nat.one_mul, Nat.div_eq_of_lt (by omega), Nat.mod_eq_of_lt (by omega)] at h
      exact h.mono fun e w' ⟨h1, h2⟩ => ⟨h1, h2.symm⟩
    obtain ⟨cs, hrunM, hle, _⟩ := Lib.run_makeNoZero (P := Try.prog) w #[3] 22 5 Try.underlying22 N (by omega)
    have hcall : (callFunc 27 #[.int .i64 (N : Int)]).run Try.prog w = .ok (.value (.slice (some ⟨w.heap.size, 0, none⟩) N cs.size)) ((w.alloc (.cells cs 5)).drewN 2) := by
      rw [run_callFunc_extern Try.func27 (by kernel_rfl) (by kernel_rfl) (by kernel_rfl) (e := Extern.BytealgMakeNoZero.makeNoZero #[3] #[22]) (by kernel_rfl), hrunM]
      rfl
    clear hrunM
    have i0 : (0 : Int) ≤ (N : Int) := by omega
    have i1 : (N : Int) ≤ (cs.size : Int) := by omega
    have hN1 : (1 : Int) ≤ N := by omega
    have hN2 : (N : Int) ≤ 120 := by omega
    have hne : ((N : Int) == 0) = false := by simp; omega
    have HB0 : Hid (Below w.heap.size w ((w.alloc (.cells cs 5)).drewN 2)) := drewN_below (bl1 _ _) 2
    have HG0 : Hid (((w.alloc (.cells cs 5)).drewN 2).heap[w.heap.size]? = some (.cells cs.toList.toArray 5 (0, 0))) := by
      show (w.alloc (.cells cs 5)).heap[w.heap.size]? = some (.cells cs.toList.toArray 5 (0, 0))
      rw [Array.toArray_toList]; exact heap_alloc_new _ _
    have HSRC : Hid (∀ (j : Nat) (v : Value), ([.int .u8 (x.toNat : Int)] : List Value)[j]? = some v → ((w.alloc (.cells cs 5)).drewN 2).cell? ((⟨g0, 0, none⟩ : Addr).add j) = some v) := by
      intro j v hj
      match j, hj with
      | 0, hj => simp at hj; subst hj; exact (HB0.out.cell (p := ⟨g0, 0, none⟩) hlt0).trans hc
    have HMIN : Hid (([.int .u8 (x.toNat : Int)] : List Value).length = Nat.min 1 N) := by show 1 = Nat.min 1 N; exact (Nat.min_eq_left (by omega)).symm
    have HLE : Hid (0 + ([.int .u8 (x.toNat : Int)] : List Value).length ≤ cs.toList.length) := by show 0 + 1 ≤ _; rw [Array.length_toList]; omega
    have HSP : Hid (splice cs.toList 0 [.int .u8 (x.toNat : Int)] = Lib.byteCells (List.replicate 1 x) ++ cs.toList.drop 1) := by show _ = _; simp [splice, Lib.byteCells]
    have HLEN : Hid ((cs.toList.drop 1).length = cs.size - 1) := by show _ = _; simp
    clear hc hlt0
    go_enter Try.func23, Try.ntmps23
    go_wp2_with fail
    refine (HMUL.out _).mono ?_
    rintro e w1 ⟨rfl, rfl⟩
    go_wp2_with (with_reducible show wpList _ _ _ _ _ _; refine wpList_copy_splice rfl (.tmp 58) (.tmp 59) _ _ rfl 5 Try.underlying22 info8s _ _ _ _ _ _ rfl rfl w.heap.size 0 cs.toList _ HG0.out [.int .u8 (x.toNat : Int)] HMIN.out (fun _ => ⟨rfl, _, rfl, HSRC.out⟩) HLE.out (one8 _ _) w.heap.size w HB0.out (Nat.le_refl _) ?_)
    intro w2 hg2 hb2
    have HG2 : Hid (Row8 w2 w.heap.size (List.replicate 1 x) (cs.toList.drop 1)) := by
      have e := hg2.out
      rw [HSP.out] at e
      exact e
    have HB2 := Lib.hid hb2
    clear hg2 hb2 hcall
    go_wp2
    go_loopw [10, 11] (fun b _ wr => ∃ (k : Nat) (r : List Value), b = .int .i64 k ∧ 1 ≤ k ∧ k ≤ N ∧ Row8 wr w.heap.size (List.replicate k x) r ∧ N ≤ k + r.length ∧ Below w.heap.size w wr) (fun b _ _ => N - (intOf b).toNat)
    case atStart => exact ⟨1, _, rfl, by omega, by omega, HG2.out, by rw [HLEN.out]; omega, HB2.out⟩
    case round =>
      clear HG2 HB2
      obtain ⟨k, r, rfl, hk1, hk, hr, hrl, hb⟩ := hrel
      have HR := Lib.hid hr
      have HB := Lib.hid hb
      clear hr hb
      by_cases hlt : (k : Int) < N
      · obtain ⟨m, hm⟩ : ∃ m, m = Nat.min k (N - k) := ⟨_, rfl⟩
        have hm2 : m = min k (N - k) := hm
        have m0 : 1 ≤ m := by omega
        have m1 : m ≤ k := by omega
        have m2 : k + m ≤ N := by omega
        obtain ⟨C, hC⟩ : ∃ C, C = List.replicate m (Value.int .u8 (x.toNat : Int)) := ⟨_, rfl⟩
        have hCl : C.length = m := by rw [hC, List.length_replicate]
        have HCN : Hid (C.length = Nat.min k (N - k)) := hCl.trans hm
        have HS2 : Hid (∀ (j : Nat) (v : Value), C[j]? = some v → wr.drew.cell? ((⟨w.heap.size, 0, none⟩ : Addr).add j) = some v) := by
          intro j v hj
          have hjm : j < m := by
            rw [← hCl]; exact (List.getElem?_eq_some_iff.1 hj).1
          have e := row8_cell HR.out j (by rw [List.length_replicate]; omega)
          show wr.cell? ((⟨w.heap.size, 0, none⟩ : Addr).add j) = some v
          rw [show (⟨w.heap.size, 0, none⟩ : Addr).add j = ⟨w.heap.size, j, none⟩ by simp [Addr.add]; exact fun h => h.symm, e, ← hj, hC, cells8_rep]
          simp [List.getElem?_replicate, hjm]; omega
        have HF : Hid (k + C.length ≤ (Lib.byteCells (List.replicate k x) ++ r).length) := by show _ ≤ _; rw [List.length_append, cells8_len, List.length_replicate, hCl]; omega
        have HO : Hid (∀ v ∈ C, v.oneCell' = true) := by
          intro v hv
          rw [hC] at hv
          rw [(List.mem_replicate.1 hv).2]; rfl
        have HSP2 : Hid (splice (Lib.byteCells (List.replicate k x) ++ r) k C = Lib.byteCells (List.replicate (k + m) x) ++ r.drop m) := by show _ = _; rw [hC]; exact splice_rep k m x r (by omega)
        have HD : Hid (N ≤ k + m + (r.drop m).length) := by show _ ≤ _; rw [List.length_drop]; omega
        have HBD : Hid (Below w.heap.size w wr.drew) := HB.out.drew
        have hkm : IntKind.i64.wrap ((k : Int) + (m : Int)) = (k : Int) + (m : Int) := IntWalk.i64_in _ (by omega)
        have hk2 : (k : Int) ≤ N := by omega
        have hNk : ¬ N = k := by omega
        have hmn : min (k : Int) (N : Int) = k := by omega
        clear hm hm2 hC
        go_wp2_with fail
        go_region_law (refine step_copy_splice rfl (.tmp 70) (.tmp 73) 22 22 rfl 5 Try.underlying22 info8s (some ⟨w.heap.size, k, none⟩) (some ⟨w.heap.size, 0, none⟩) (N - k) (N - k) k N (by simp [Act.eval, Act.put]) (by simp [Act.eval, Act.put]) w.heap.size k (Lib.byteCells (List.replicate k x) ++ r) 5 HR.out C HCN.out (fun _ => ⟨rfl, _, rfl, HS2.out⟩) HF.out HO.out w.heap.size w HBD.out (Nat.le_refl _) ?_; intro w4 hg4 hb4)
        have HG4 : Hid (Row8 w4 w.heap.size (List.replicate (k + m) x) (r.drop m)) := by
          have e := hg4.out
          rw [HSP2.out] at e
          exact e
        have HB4 := Lib.hid hb4
        clear hg4 hb4
        clear hkm HS2 HF HO HSP2 HBD HCN hCl hmn
        simp only [List.getElem_toArray, List.getElem_cons_succ, List.getElem_cons_zero, Act.put, List.setIfInBounds_toArray, List.set_cons_succ, List.set_cons_zero]
        go_wp2
        go_roundw
        case rel => exact ⟨k + m, _, by go_num, by omega, by omega, HG4.out, HD.out, HB4.out⟩
        case measure => first | (simp [intOf]; done) | (simp [intOf]; omega)
      · obtain rfl : k = N := by omega
        go_wp2
        go_ret
        exact ⟨_, _, rfl, Nat.le_refl _, HR.out, HB.out⟩
end Go.Proofs.Ytapdkdgabhnliaa
