/- The text of a token in the program. No conditions. -/
import Derived.Test.YtfhakailbikjkaaK17
import Derived.Test.YtfhakailbikjkaaR0
namespace Go.Proofs.Ytfhakailbikjkaa
open Go.RowKit
set_option linter.unusedVariables false

theorem impl_tt (k : Int) (t : ByteArray) (l : Int) (w : World) (hs : (t.size : Int) ≤ 1048576) : Calls Try.prog 22 #[tokV k t l] w (RetT w (ttS k t)) := by
  unfold RetT tokV
  by_cases h4 : k = 4
  · subst h4
    rw [show ttS 4 t = qtS t from rfl]
    have H := Lib.hid (fun W => impl_qt t W hs)
    unfold RetT at H
    generalize qtS t = v at H ⊢
    go_enter Try.func22, Try.ntmps22
    go_wp2_with (go_at_call 32; refine (H.out _).mono ?_; rintro e w1 ⟨rfl, hb1⟩; have HB1 := Lib.hid (below_step (bl1 _ _) hb1); clear hb1)
    go_ret
    exact ⟨rfl, HB1.out⟩
  · by_cases h5 : k = 5
    · subst h5
      rw [show ttS 5 t = qcS (Cs.newL t) (Cs.newH t) from rfl]
      have H := Lib.hid (fun W => impl_new t (by unfold maxLen; omega) W)
      have H2 := Lib.hid (fun W => impl_qc (Cs.newL t) (Cs.newH t) W)
      unfold RetNew at H
      unfold RetT at H2
      generalize qcS (Cs.newL t) (Cs.newH t) = v at H2 ⊢
      generalize Cs.newL t = a at H H2
      generalize Cs.newH t = b at H H2
      go_enter Try.func22, Try.ntmps22
      go_wp2_with (first | (go_at_call 33; refine (H.out _).mono ?_; rintro e w1 ⟨rfl, hb1⟩; have HB1 := Lib.hid (below_step (bl1 _ _) hb1); clear hb1) | (go_at_call 34; refine (H2.out _).mono ?_; rintro e w2 ⟨rfl, hb2⟩; have HB2 := Lib.hid (below_step (HB1.out.alloc HB1.out.size _) hb2); clear hb2))
      go_ret
      exact ⟨rfl, HB2.out⟩
    · by_cases h6 : k = 6
      · subst h6
        rw [show ttS 6 t = str8 (38 :: t.data.toList) from rfl]
        go_enter Try.func22, Try.ntmps22
        go_wp2
        go_ret
        exact ⟨ret_amp t, bl1 _ _⟩
      · have e : ttS k t = t := by unfold ttS; rw [if_neg h4, if_neg h5, if_neg h6]
        rw [e]
        have u4 : (k == 4) = false := by simpa using h4
        have u5 : (k == 5) = false := by simpa using h5
        have u6 : (k == 6) = false := by simpa using h6
        have HC := Lib.hid (fun W => clone8 t W hs)
        clear h4 h5 h6 e
        go_enter Try.func22, Try.ntmps22
        go_wp2_with (first | (go_at_call 35; refine (HC.out _).mono ?_; rintro e w1 ⟨rfl, hb1⟩; have HB1 := Lib.hid (below_step (bl1 _ _) hb1); clear hb1))
        go_ret
        exact ⟨rfl, HB1.out⟩
end Go.Proofs.Ytfhakailbikjkaa
