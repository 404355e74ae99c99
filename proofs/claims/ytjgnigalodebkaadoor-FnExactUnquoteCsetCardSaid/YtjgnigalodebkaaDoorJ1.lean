/- The sentinel of a bad escape, and errors.Is on it and on nil. No conditions beside what the variable holds. -/
import Derived.Test.YtjgnigalodebkaaDoorRows
import Derived.Test.YtjgnigalodebkaaDoorT1
import Derived.Test.YtjgnigalodebkaaDoorL1
import Derived.LaidEql
import Derived.Stop.Asserts
import Derived.RowKitTokens
import Derived.Stop.LaidErr
import Derived.LaidMore
import Derived.ProofKit
namespace Go.Proofs.YtjgnigalodebkaaDoor
open Go.RowKit Go.Extern.Stop Go.Stop Go.Extern
set_option linter.unusedVariables false

/-- The variable holds a pointer to an error of errors.New's make. -/
def SentAt (a : Addr) (W : World) : Prop := W.cell? ⟨0, 0, none⟩ = some (.iface 111 (.pointer (some a)))
def Sent (W : World) : Prop := ∃ a, SentAt a W
theorem sentAt_lt {a : Addr} {W : World} (h : SentAt a W) : 0 < W.heap.size := by
  unfold SentAt World.cell? at h
  rcases Nat.lt_or_ge 0 W.heap.size with h1 | h1
  · exact h1
  · exfalso
    rw [Array.getElem?_eq_none h1] at h
    cases h
theorem sentAt_below {a : Addr} {W w : World} (h : SentAt a W) (hb : Below W.heap.size W w) : SentAt a w := (hb.cell (p := ⟨0, 0, none⟩) (sentAt_lt h)).trans h

theorem call_type (v : Value) (w : World) : (callFunc 64 #[.iface 111 v]).run Tryd.prog w = .ok (.value (.iface 93 (.agg #[.pointer (some ⟨4, 111, none⟩)]))) w := by kernel_rfl
theorem call_comp (w : World) : (callFunc 101 #[.agg #[.pointer (some ⟨4, 111, none⟩)]]).run Tryd.prog w = .ok (.value (.bool true)) w := by kernel_rfl
theorem meth_comp (n : Nat) (v : Value) (w : World) : (Go.method (n + 1) 93 v "Comparable").run Tryd.prog w = .ok (101, v) w := by kernel_rfl
theorem comp_at : (Tryd.prog.info? 111).map (·.comparable) = some true := by kernel_rfl
theorem size_at : (Tryd.prog.info? 137).map (·.size) = some 1 := by kernel_rfl

/-- errors.Is(nil, x) is false. -/
theorem is_nil (b : Addr) (w : World) :
    Calls Tryd.prog 40 #[.nilIface, .iface 111 (.pointer (some b))] w fun e w' => e = .returned (.bool false) ∧ w = w' := by
  have hn := run_eql_iface_nil_left (P := Tryd.prog) w 111 (.pointer (some b)) Tryd.underlying56
  go_enter Tryd.func40, Tryd.ntmps40
  go_wp2
  go_ret
  exact ⟨rfl, rfl⟩
set_option maxRecDepth 100000 in
/-- errors.Is(x, x) is true. -/
theorem is_same (a : Addr) (w : World) :
    Calls Tryd.prog 40 #[.iface 111 (.pointer (some a)), .iface 111 (.pointer (some a))] w fun e w' => e = .returned (.bool true) ∧ w = w' := by
  obtain ⟨i, hi, hcmp⟩ := Option.map_eq_some_iff.1 comp_at
  obtain ⟨j, hj, hjs⟩ := Option.map_eq_some_iff.1 size_at
  have h8 := call_type
  have h32 := call_comp
  have mR := meth_comp
  have heq := run_eql_iface_ptr_same (P := Tryd.prog) w a Tryd.underlying56 Tryd.underlying111 hi hcmp hj
  go_enter Tryd.func40, Tryd.ntmps40
  go_wp2
  refine wp_loop_rounds 1 ?_
  rw [rounds_succ]
  go_wp2
  go_ret
  exact ⟨rfl, rfl⟩
end Go.Proofs.YtjgnigalodebkaaDoor
