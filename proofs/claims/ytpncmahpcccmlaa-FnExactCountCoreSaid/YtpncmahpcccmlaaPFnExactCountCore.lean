/- The statement 'FnExactCountCoreSaid' is proved: at every input the law returns true, and the input reads as before. No conditions. -/
import Derived.Test.YtpncmahpcccmlaaRows
import Derived.Test.YtpncmahpcccmlaaB0
import Derived.Lib.SmallJoins
import Derived.Test.YtpncmahpcccmlaaH10
import Derived.Test.YtpncmahpcccmlaaH9
namespace Go.Proofs.Ytpncmahpcccmlaa.fnExactCountCore
open Go.ChangeShapes Go.WideShapes Go.ChangeAt Go.RowKit Go.Joins
open Go.ChangeMaps (open_string shut_string)
set_option linter.unusedVariables false

set_option maxRecDepth 100000 in
theorem lifted (os : Os) (started : os.Started) (H : Type) (enc : TypeId × Value → H) :
    ReturnsInHanded {} Try.checked os 3 .any (Rows.fnExactCountCoreSpec.pre6 enc Try.prog Try.f3 Rows.fnExactCountCoreRow.domain false) (Rows.fnExactCountCoreSpec.post enc Try.prog Try.f3 false true false false) := by
  refine returnsInHanded_of_change (C := Try.checked) own started (by kernel_rfl) Try.func3
    (ChangeSpec.witness6 (enc := enc) (C := Try.checked) false ⟨#[], #[.agg #[.int .i64 0, .int .i64 0, .int .i64 0, .int .i64 0, .string ByteArray.empty, .slice none 0 0]], []⟩ 8 (by kernel_rfl) (by kernel_rfl) (by kernel_rfl) (by kernel_rfl)) ?_
  intro W base args ds gs before hval0 hW hcnd _
  have hval : ∀ (j : Nat) t v, Try.f3.params[j]? = some t → args[j]? = some v → Value.okWide Try.prog W .any base t v := hval0
  have hW' := hW
  obtain ⟨p, q, hA0, hV, rfl, hfz, hnd⟩ := hW
  have hA : DataW.TrodAll enc Try.prog W 0 (fun _ => true) true Try.f3.params.toList args.toList ds p := hA0
  rw [Try.params3] at hA hval
  obtain ⟨v0, vs0, d0, ds0, p0, q0, hargs, rfl, rfl, h0, r0⟩ := trodAll_cons hA
  obtain ⟨rfl, rfl, rfl⟩ := trodAll_nil r0
  obtain rfl : args = #[v0] := by cases args; simp_all
  obtain ⟨rfl, rfl⟩ := trodVars_none hV
  have k0 := h0
  have lt0 : ∀ x ∈ p0, x.block < W.heap.size := by obtain ⟨m, hm⟩ := k0; exact DataW.trod_lt m _ _ _ hm
  obtain ⟨cs0, rfl, hsz0⟩ := okWide_struct Try.underlying24 (hval 0 24 v0 rfl rfl)
  obtain ⟨t0, u0, e0, hk0, ok0⟩ : ∃ (t : Co.T) (v : Value), cs0.toList = [.int .i64 t.kind, .int .i64 t.op, .int .i64 t.num, .int .i64 t.line, .string t.text, v] ∧ Cr.Kids W v t.kids ∧ t.Ok := by
    obtain ⟨fuel, hf⟩ := h0
    exact Cr.open_tree fuel _ _ hf
  obtain rfl : cs0 = #[.int .i64 t0.kind, .int .i64 t0.op, .int .i64 t0.num, .int .i64 t0.line, .string t0.text, u0] := Array.toList_inj.1 e0
  clear hA0 hval0
  refine (FnExactCountCore_walk t0 u0 ok0 W hk0).mono fun e W' ⟨he, bel⟩ => ?_
  subst he
  exact ⟨_, rfl, _, _, _, [], _, [], hW', trodAll_mk1 (shut_bool Try.underlying4 _), (trodAll_cons_mk (Below.trod laidOut (by kernel_rfl) (of_decide_eq_true (by kernel_rfl)) k0 bel lt0) trodAll_mk0), rfl, bel.frame _, fun h => by cases h⟩

theorem over : Rows.fnExactCountCoreRow.holds Try.pinned (OpenSpec.ofChange Rows.fnExactCountCoreSpec) :=
  OpenClaim.holds_of_wide 3 Try.f3 rfl rfl rfl rfl rfl rfl rfl ⟨rfl, rfl, rfl, rfl, rfl⟩ rfl rfl rfl rfl rfl (by kernel_rfl) Try.func3 (by kernel_rfl)
    (of_decide_eq_true (by kernel_rfl)) (by unfold Func.isWrapper; first | (rw [if_pos (by decide +kernel)]; kernel_rfl) | (rw [if_neg (by decide +kernel)]; exact ⟨rfl, rfl⟩))
    (fun os started H enc _ => lifted os started H enc)

/-- The statement. -/
theorem proved : Rows.FnExactCountCoreSaid :=
  over
#print axioms proved
end Go.Proofs.Ytpncmahpcccmlaa.fnExactCountCore
