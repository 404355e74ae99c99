/- The walk of the law on EraseLines. No conditions. -/
import Derived.Test.YtkkopnhbafjnaaaN34
namespace Go.Proofs.Ytkkopnhbafjnaaa
open Go.RowKit
set_option linter.unusedVariables false

theorem erase_law2 (t : Ex.T) (v : Value) (hok : t.Ok) (w : World) (hk : Kids w v t.kids) (hb : ¬ t.bulk ≤ 1048576) : Calls Try.prog 10 #[exV t v] w fun e w' => e = .returned (.bool true) ∧ Below w.heap.size w w' := by
  have HSZ := Lib.hid (fun W hW => sz_tree _ t (Nat.le_refl _) hok W v 1048576 (hk.later hW) (by decide))
  rw [szR_no hb] at HSZ
  clear hok hb
  obtain ⟨a, c, rfl⟩ := kids_len hk
  clear hk
  go_enter Try.func10, Try.ntmps10
  go_wp2_with fail
  refine (HSZ.out _ (bl1 _ _)).mono ?_
  rintro e w1 ⟨rfl, b1⟩
  have B1 := Lib.hid (below_then (bl1 _ _) b1)
  clear b1
  go_wp2
  go_ret
  exact ⟨rfl, B1.out⟩

theorem FnExactEraseLines_walk (t : Ex.T) (v : Value) (hok : t.Ok) (w : World) (hk : Kids w v t.kids) : Calls Try.prog 10 #[exV t v] w fun e w' => e = .returned (.bool true) ∧ Below w.heap.size w w' := by
  by_cases hb : t.bulk ≤ 1048576
  · exact erase_law1 t v hok w hk hb
  · exact erase_law2 t v hok w hk hb
end Go.Proofs.Ytkkopnhbafjnaaa
