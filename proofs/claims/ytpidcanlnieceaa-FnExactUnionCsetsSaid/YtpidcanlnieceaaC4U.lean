/- The walk of the law on UnionCsets. No conditions. -/
import Derived.Test.YtpidcanlnieceaaC4
namespace Go.Proofs.Ytpidcanlnieceaa
open Go.RowKit
attribute [local go_sem ↓] Go.wp_at_zero Go.wp_at_succ
set_option linter.unusedVariables false

set_option maxHeartbeats 1600000 in
theorem FnExactUnionCsets_walk (a0 b0 a1 b1 : Int) (w0 : (Lit.int .i64 a0).wf = true) (x0 : (Lit.int .i64 b0).wf = true) (w1 : (Lit.int .i64 a1).wf = true) (x1 : (Lit.int .i64 b1).wf = true) (w : World) :
    Calls Try.prog 9 #[.agg #[.int .i64 a0, .int .i64 b0], .agg #[.int .i64 a1, .int .i64 b1]] w fun e w' => e = .returned (.bool true) ∧ Below w.heap.size w w' := by
  clear w0 x0 w1 x1
  have HS := Lib.hid (fun W => spec_or a0 b0 a1 b1 W)
  have HI := Lib.hid (fun W => impl_or a0 b0 a1 b1 W)
  generalize bits .or .i64 a0 a1 = p at HS HI
  generalize bits .or .i64 b0 b1 = q at HS HI
  go_enter Try.func9, Try.ntmps9
  go_upto_region 1 with fail
  go_cut [5] (fun s5 wx => ∃ g : Nat, s5 = .pointer (some ⟨g, 0, none⟩) ∧ Sets3 w w.heap.size (w.heap.size + 1) g a0 b0 a1 b1 p q wx)
  case first =>
    go_region_held3 (fun w' => Sets2 w w.heap.size (w.heap.size + 1) a0 b0 a1 b1 w')
      (first | exact sets_start _ _ _ _ _ | exact HS1.out | exact HS2.out | exact Sets2.later HS1.out (bl1 _ _) | (exact Sets2.later (by assumption) (bl1 _ _)) | (exact Sets2.later HS2.out (bl1 _ _)) | (exact Sets2.far HS2.out (by omega) (by omega) (by omega) _ _))
      (first | (go_at_call 23; refine (to_set _ _ _).mono ?_; rintro e w1 ⟨rfl, hb1⟩; have hS1 : Sets2 w w.heap.size (w.heap.size + 1) a0 b0 a1 b1 w1 := Sets2.later (by assumption) hb1; have hx1 := hS1.1.1.lt; have hy1 := hS1.1.2.lt; have hl1 := below_le hS1.2; have HS1 := Lib.hid hS1; clear hS1; (try (have hv := VarAt.later var_new hb1; have hV := Lib.hid hv; obtain ⟨⟨hv0, hv1⟩, hq0, hq1⟩ := hv)); (try (have hv := VarAt.later var_newd2 hb1; have hV := Lib.hid hv; obtain ⟨⟨hv0, hv1⟩, hq0, hq1⟩ := hv)); (try (have hv := VarAt.later hV.out hb1; have hV := Lib.hid hv; obtain ⟨⟨hv0, hv1⟩, hq0, hq1⟩ := hv))) | (go_at_call 31; refine (HS.out _).mono ?_; rintro e w2 ⟨rfl, hb2⟩; have hS2 : Sets2 w w.heap.size (w.heap.size + 1) a0 b0 a1 b1 w2 := Sets2.later (by assumption) hb2; have hx2 := hS2.1.1.lt; have hy2 := hS2.1.2.lt; have hl2 := below_le hS2.2; have HS2 := Lib.hid hS2; clear hS2; (try (have hv := VarAt.later var_new hb2; have hV := Lib.hid hv; obtain ⟨⟨hv0, hv1⟩, hq0, hq1⟩ := hv)); (try (have hv := VarAt.later var_newd2 hb2; have hV := Lib.hid hv; obtain ⟨⟨hv0, hv1⟩, hq0, hq1⟩ := hv)); (try (have hv := VarAt.later hV.out hb2; have hV := Lib.hid hv; obtain ⟨⟨hv0, hv1⟩, hq0, hq1⟩ := hv))))
    all_goals (go_wp2_with fail; go_meet; first | exact ⟨_, rfl, ⟨(HS2.out.1.1).later (bl1 _ _), (HS2.out.1.2).later (bl1 _ _), SetAt.new _ _ _ _⟩, below_step HS2.out.2 (bl1 _ _)⟩ | exact ⟨_, rfl, ⟨(HS2.out.1.1).far (by omega) _ _, (HS2.out.1.2).far (by omega) _ _, SetAt.stored hV.out _ _⟩, below_store HS2.out.2 (by omega) _ _⟩)
  case rest =>
    obtain ⟨g, rfl, h3⟩ := hcut
    have hxw := h3.1.1.lt
    have hyw := h3.1.2.1.lt
    have hgw := h3.1.2.2.lt
    have hlw := below_le h3.2
    have H3 := Lib.hid h3
    clear h3
    go_upto_region 2 with fail
    go_cut [6] (fun s6 wx => ∃ k : Nat, s6 = .pointer (some ⟨k, 0, none⟩) ∧ (SetAt wx k p q ∧ SetAt wx g p q) ∧ Below w.heap.size w wx)
    case first =>
      go_region_held3 (fun w' => Sets3 w w.heap.size (w.heap.size + 1) g a0 b0 a1 b1 p q w')
        (first | exact ⟨⟨H3.out.1.1.drew, H3.out.1.2.1.drew, H3.out.1.2.2.drew⟩, H3.out.2.drew⟩ | exact HS1.out | exact HS2.out | exact Sets3.later HS1.out (bl1 _ _) | (exact Sets3.later (by assumption) (bl1 _ _)) | (exact Sets3.later HS2.out (bl1 _ _)) | (exact Sets3.far HS2.out (by omega) (by omega) (by omega) (by omega) _ _))
        (first | (go_at_call 23; refine (to_set _ _ _).mono ?_; rintro e w1 ⟨rfl, hb1⟩; have hS1 : Sets3 w w.heap.size (w.heap.size + 1) g a0 b0 a1 b1 p q w1 := Sets3.later (by assumption) hb1; have hx1 := hS1.1.1.lt; have hy1 := hS1.1.2.1.lt; have hg1 := hS1.1.2.2.lt; have hl1 := below_le hS1.2; have HS1 := Lib.hid hS1; clear hS1; (try (have hv := VarAt.later var_new hb1; have hV := Lib.hid hv; obtain ⟨⟨hv0, hv1⟩, hq0, hq1⟩ := hv)); (try (have hv := VarAt.later var_newd hb1; have hV := Lib.hid hv; obtain ⟨⟨hv0, hv1⟩, hq0, hq1⟩ := hv)); (try (have hv := VarAt.later hV.out hb1; have hV := Lib.hid hv; obtain ⟨⟨hv0, hv1⟩, hq0, hq1⟩ := hv))) | (go_at_call 18; refine (HI.out _).mono ?_; rintro e w2 ⟨rfl, hb2⟩; have hS2 : Sets3 w w.heap.size (w.heap.size + 1) g a0 b0 a1 b1 p q w2 := Sets3.later (by assumption) hb2; have hx2 := hS2.1.1.lt; have hy2 := hS2.1.2.1.lt; have hg2 := hS2.1.2.2.lt; have hl2 := below_le hS2.2; have HS2 := Lib.hid hS2; clear hS2; (try (have hv := VarAt.later var_new hb2; have hV := Lib.hid hv; obtain ⟨⟨hv0, hv1⟩, hq0, hq1⟩ := hv)); (try (have hv := VarAt.later var_newd hb2; have hV := Lib.hid hv; obtain ⟨⟨hv0, hv1⟩, hq0, hq1⟩ := hv)); (try (have hv := VarAt.later hV.out hb2; have hV := Lib.hid hv; obtain ⟨⟨hv0, hv1⟩, hq0, hq1⟩ := hv))))
      all_goals (go_wp2_with fail; go_meet; first | exact ⟨_, rfl, ⟨SetAt.new _ _ _ _, (HS2.out.1.2.2).later (bl1 _ _)⟩, below_step HS2.out.2 (bl1 _ _)⟩ | exact ⟨_, rfl, ⟨SetAt.stored hV.out _ _, (HS2.out.1.2.2).far (by omega) _ _⟩, below_store HS2.out.2 (by omega) _ _⟩)
    case rest =>
      obtain ⟨k, rfl, ⟨⟨k0, k1⟩, ⟨j0, j1⟩⟩, hB⟩ := hcut
      have HB := Lib.hid hB
      clear hB
      go_wp2_with fail
      refine (eq_set _ _ _).mono ?_
      rintro e we ⟨rfl, he⟩
      have HE := Lib.hid (below_step HB.out he)
      clear he
      go_wp2
      go_ret
      exact ⟨rfl, HE.out⟩
end Go.Proofs.Ytpidcanlnieceaa
