/- l3Pad of the reference model and bytes.Repeat of one byte. No conditions. -/
import Derived.Test.YtjgnigalodebkaaDoorT2
import Derived.Test.YtjgnigalodebkaaDoorE2
import Derived.Deep.RegionLaw
import Derived.Lib.MakeNoZero
import Derived.IntWalk
namespace Go.Proofs.YtjgnigalodebkaaDoor
open Go.RowKit
set_option linter.unusedVariables false

theorem rep_snoc (k : Nat) (x : UInt8) : List.replicate k x ++ [x] = List.replicate (k + 1) x := (List.replicate_succ' ).symm
set_option maxHeartbeats 400000 in
theorem spec_pad (N : Nat) (x : UInt8) (w : World) (hN : (N : Int) ≤ 1000) : Calls Tryd.prog 35 #[.int .i64 N, .int .u8 (x.toNat : Int)] w (RetT w (str8 (List.replicate N x))) := by
  unfold RetT
  obtain ⟨i0, hi, hz0, hz1, hz2⟩ := info_parts info8
  go_enter Tryd.func35, Tryd.ntmps35
  go_wp2
  go_loopw [5, 6] (fun v i wr => ∃ k : Nat, i = .int .i64 k ∧ k ≤ N ∧ Own8 wr w.heap.size v (List.replicate k x) ∧ Below w.heap.size w wr) (fun _ i _ => N - (intOf i).toNat)
  case atStart => exact ⟨0, rfl, by omega, World.ownsRow_made w #[] 0 (Nat.le_refl _) (by unfold maxLen; omega) rfl, bl1 _ _⟩
  case round =>
    obtain ⟨k, rfl, hk, ho, hb⟩ := hrel
    have HO := Lib.hid ho
    have HB := Lib.hid hb
    have hsz := hb.size
    have hlen : (List.replicate k x).length = k := List.length_replicate
    by_cases hlt : (k : Int) < N
    · clear ho hb
      go_wp2_with (at_builtin; refine wpList_append_own _ rfl _ _ 22 rfl w.heap.size 5 i0 (.int .u8 0) 1 1 Tryd.underlying22 hi hz0 hz1 hz2 rfl (by decide) _ _ _ rfl (HO.out.alloc _) ⟨wr.heap.size, 0, none⟩ 1 1 [.int .u8 (x.toNat : Int)] rfl rfl ?c1 ?c2 ?c3 ?c4 ?c5 ?_)
      case c1 => exact new8 _ _ _
      case c2 => exact one8 _ _
      case c3 => exact max8 (by omega)
      case c4 => omega
      case c5 => simp; omega
      intro v' w2 hown' hgrow _
      have HO2 := Lib.hid (own8_app (l := List.replicate k x) (x := x) (by rw [hlen]; exact hown'))
      have HB2 := Lib.hid (below8_app HB.out HO.out hgrow)
      clear hown' hgrow
      go_wp2
      go_roundw
      case rel => exact ⟨k + 1, by go_num, by omega, by rw [← rep_snoc]; exact HO2.out, HB2.out⟩
      case measure => first | (simp [intOf]; done) | (simp [intOf]; omega)
    · obtain rfl : k = N := by omega
      have hc := conv8 ho
      clear ho hb
      go_wp2
      go_ret
      exact ⟨rfl, HB.out⟩

/-- Bytes that all are x, in a block of the call's own. -/
def RetRep (w : World) (N : Nat) (x : UInt8) (e : Ending) (w' : World) : Prop := ∃ g r, e = .returned (.slice (some ⟨g, 0, none⟩) N N) ∧ w.heap.size ≤ g ∧ Row8 w' g (List.replicate N x) r ∧ Below w.heap.size w w'

theorem splice_rep (k m : Nat) (x : UInt8) (r : List Value) (h : m ≤ r.length) : splice (Lib.byteCells (List.replicate k x) ++ r) k (List.replicate m (.int .u8 (x.toNat : Int))) = Lib.byteCells (List.replicate (k + m) x) ++ r.drop m := by
  have h1 : (Lib.byteCells (List.replicate k x)).length = k := by rw [cells8_len, List.length_replicate]
  unfold splice
  rw [List.length_replicate, List.take_append_of_le_length (by omega), List.take_of_length_le (by omega), List.drop_append, h1, List.drop_eq_nil_of_le (by omega), List.nil_append, show k + m - k = m by omega, ← List.append_assoc, cells8_rep, cells8_rep, List.replicate_append_replicate]

end Go.Proofs.YtjgnigalodebkaaDoor
