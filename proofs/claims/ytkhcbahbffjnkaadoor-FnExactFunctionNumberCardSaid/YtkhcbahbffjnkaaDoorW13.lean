/- The laws' copy of a list of strings. No conditions. -/
import Derived.Test.YtkhcbahbffjnkaaDoorW8
import Derived.Test.YtkhcbahbffjnkaaDoorB0
import Derived.OwnWalk
namespace Go.Proofs.YtkhcbahbffjnkaaDoor
open Go.RowKit
set_option linter.unusedVariables false

/-- The first k strings, and empty ones for the rest. -/
def filled (l : List ByteArray) (k : Nat) : List ByteArray := l.take k ++ List.replicate (l.length - k) ByteArray.empty
theorem filled_length (l : List ByteArray) (k : Nat) (h : k ≤ l.length) : (filled l k).length = l.length := by
  simp [filled]; omega
theorem filled_zero (l : List ByteArray) : filled l 0 = List.replicate l.length ByteArray.empty := by simp [filled]
theorem filled_all (l : List ByteArray) : filled l l.length = l := by simp [filled]
theorem filled_set (l : List ByteArray) (k : Nat) (h : k < l.length) : (filled l k).set k (l.getD k ByteArray.empty) = filled l (k + 1) := by
  unfold filled
  have e1 : (l.take k).length = k := by rw [List.length_take]; omega
  rw [List.set_append_right _ _ (by omega), e1, Nat.sub_self, show l.length - k = (l.length - (k + 1)) + 1 by omega, List.replicate_succ, List.set_cons_zero, List.take_succ_eq_append_getElem h, List.append_assoc]
  simp [List.getD, List.getElem?_eq_getElem h]

theorem owns_made {w1 : World} {base : Nat} {v : Value} {n : Nat} (h : w1.ownsRow base 9 1 v n (List.replicate n (.string ByteArray.empty))) : Owns w1 base v (List.replicate n ByteArray.empty) := by
  unfold Owns; rw [List.length_replicate, List.map_replicate]; exact h

set_option maxHeartbeats 400000 in
theorem to_strs (v : Value) (l : List ByteArray) (w : World) (hr : Reads w v l) (hl : l.length ≤ 1048576) :
    Calls Tryd.prog 40 #[v] w fun e w' => ∃ v', e = .returned v' ∧ Owns w' w.heap.size v' l ∧ Below w.heap.size w w' := by
  obtain ⟨i0, hi, hz0, hz1, hz2⟩ := info_parts info_string
  obtain ⟨w0, hmk0, hown0, hgr0⟩ := run_make_full (P := Tryd.prog) w w.heap.size 25 9 i0 (.string ByteArray.empty) 1 Tryd.underlying25 hi hz0 hz1 .i64 .i64 l.length (by rw [hz2]; omega) (max_small (by omega)) (Nat.le_refl _)
  have HO0 := Lib.hid (owns_made (by rw [show (madeCells (Value.string ByteArray.empty).cells (l.length * 1)).toList = List.replicate (l.length * 1) (.string ByteArray.empty) from toList_madeCells_one _ _, Nat.mul_one] at hown0; exact hown0))
  have HB0 := Lib.hid (show Below w.heap.size w w0 from (Below.refl _ _).grown hgr0 (Nat.le_refl _) (fun k hk => by cases hk))
  clear hown0 hgr0
  by_cases hl0 : l = []
  · subst hl0
    obtain ⟨a, c, rfl⟩ := reads_empty hr
    clear hr
    have hmk1 : (Instr.makeSlice 25 (.int .i64 0) (.int .i64 0)).run Tryd.prog w = .ok (.slice (some ⟨w.heap.size, 0, none⟩) 0 0) w0 := hmk0
    go_enter Tryd.func40, Tryd.ntmps40
    go_wp2
    go_loopw [4] (fun i wr => i = .int .i64 0 ∧ wr = w0) (fun _ _ => 0)
    case atStart => exact ⟨rfl, rfl⟩
    case round =>
      obtain ⟨rfl, rfl⟩ := hrel
      go_wp2
      go_ret
      exact ⟨_, rfl, HO0.out, HB0.out⟩
  · obtain ⟨g, off, cap, rfl, hm, hc⟩ := reads_some hr hl0
    have HC := Lib.hid hc
    clear hr hl0 hc hm
    generalize hn : l.length = n at *
    have HN := Lib.hid hn
    clear hn
    go_enter Tryd.func40, Tryd.ntmps40
    go_wp2
    clear hmk0
    go_loopw [4] (fun i wr => ∃ k : Nat, i = .int .i64 k ∧ k ≤ n ∧ Owns wr w.heap.size (.slice (some ⟨w.heap.size, 0, none⟩) n n) (filled l k) ∧ Below w.heap.size w wr) (fun i _ => n - (intOf i).toNat)
    case atStart => exact ⟨0, rfl, Nat.zero_le _, by rw [filled_zero, HN.out]; exact HO0.out, HB0.out⟩
    case round =>
      obtain ⟨k, rfl, hk, ho, hb⟩ := hrel
      have HO := Lib.hid ho
      have HB := Lib.hid hb
      have hsz := hb.size
      clear ho hb
      by_cases hlt : k < n
      · have hcell := HC.out k hlt
        have hlg := World.block_lt_of_cell? w _ hcell
        have d1 : wr.cell? ⟨g, off + k, none⟩ = some (.string (l.getD k ByteArray.empty)) := (HB.out.cell hlg).trans hcell
        have HL := Lib.hid (show n = (filled l k).length by rw [filled_length _ _ (by have := HN.out; omega)]; exact HN.out.symm)
        have d2 := (owns_cell HL.out HO.out k hlt).1
        have f2 := (owns_cell HL.out HO.out k hlt).2
        clear hcell
        generalize hx : l.getD k ByteArray.empty = x at d1
        have HX := Lib.hid hx
        clear hx
        go_wp2
        go_roundw
        case rel => exact ⟨k + 1, by go_num, by omega, by rw [← filled_set l k (by have := HN.out; omega), HX.out]; exact owns_set HL.out HO.out k x, HB.out.setCell (Nat.le_refl _) _⟩
        case measure => first | (simp [intOf]; done) | (simp [intOf]; omega)
      · obtain rfl : k = n := by omega
        go_wp2
        go_ret
        exact ⟨_, rfl, by have h := HO.out; rw [← HN.out, filled_all] at h; rw [← HN.out]; exact h, HB.out⟩

end Go.Proofs.YtkhcbahbffjnkaaDoor
