/- The law FnExactFormatInt answers true at every integer. No conditions. -/
import Derived.Test.YtmaahoanlgjpgaaW2
namespace Go.Proofs.Ytmaahoanlgjpgaa
open Go.RowKit

set_option maxHeartbeats 400000 in
theorem FnExactFormatInt_walk (a0 : Int) (w0 : (Lit.int .i64 a0).wf = true) (w : World) :
    Calls Try.prog 4 #[.int .i64 a0] w fun e w' => e = .returned (.bool true) ∧ Below w.heap.size w w' := by
  obtain ⟨h0, h1⟩ : -9223372036854775808 ≤ a0 ∧ a0 ≤ 9223372036854775807 := by simpa [Lit.wf, IntKind.min, IntKind.max, IntKind.signed, IntKind.bits] using w0
  clear w0
  go_enter Try.func4, Try.ntmps4
  go_wp2_with (first | (go_at_call 16; refine (spec_fmt _ _ h0 h1).mono ?_; rintro e w1 ⟨rfl, b1⟩) | (go_at_call 13; refine (impl_fmt _ _ h0 h1).mono ?_; rintro e w2 ⟨rfl, b2⟩))
  go_ret
  exact ⟨rfl, b1.trans (b2.mono b1.size)⟩
end Go.Proofs.Ytmaahoanlgjpgaa
