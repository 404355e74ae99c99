/- The statement 'FnExactToCsetSaid' is proved: at every input the law returns true, and the input reads as before. No conditions. -/
import Derived.Test.YtlbidfegcfcaiaaRows
import Derived.Test.YtlbidfegcfcaiaaB0
import Derived.Lib.SmallJoins
import Derived.Test.YtlbidfegcfcaiaaS4
import Derived.Test.YtlbidfegcfcaiaaO6
namespace Go.Proofs.Ytlbidfegcfcaiaa.fnExactToCset
open Go.ChangeShapes Go.WideShapes Go.ChangeAt Go.RowKit Go.Joins
open Go.ChangeMaps (open_string shut_string)
set_option linter.unusedVariables false

set_option maxRecDepth 100000 in
theorem lifted (os : Os) (started : os.Started) (H : Type) (enc : TypeId × Value → H) :
    ReturnsInHanded {} Try.checked os 4 .any (Rows.fnExactToCsetSpec.pre6 enc Try.prog Try.f4 Rows.fnExactToCsetRow.domain false) (Rows.fnExactToCsetSpec.post enc Try.prog Try.f4 false true false false) := by
  refine returnsInHanded_of_change (C := Try.checked) own started (by kernel_rfl) Try.func4
    (ChangeSpec.witness6 (enc := enc) (C := Try.checked) false ⟨#[], #[.agg #[.int .i64 0, .int .i64 0, .int .i64 0, .string ByteArray.empty, .int .i64 0, .int .i64 0]], []⟩ 8 (by kernel_rfl) (by kernel_rfl) (by kernel_rfl) (by kernel_rfl)) ?_
  intro W base args ds gs before hval0 hW hcnd _
  have hval : ∀ (j : Nat) t v, Try.f4.params[j]? = some t → args[j]? = some v → Value.okWide Try.prog W .any base t v := hval0
  have hW' := hW
  obtain ⟨p, q, hA0, hV, rfl, hfz, hnd⟩ := hW
  have hA : DataW.TrodAll enc Try.prog W 0 (fun _ => true) true Try.f4.params.toList args.toList ds p := hA0
  rw [Try.params4] at hA hval
  obtain ⟨v0, vs0, d0, ds0, p0, q0, hargs, rfl, rfl, h0, r0⟩ := trodAll_cons hA
  obtain ⟨rfl, rfl, rfl⟩ := trodAll_nil r0
  obtain rfl : args = #[v0] := by cases args; simp_all
  obtain ⟨rfl, rfl⟩ := trodVars_none hV
  have k0 := h0
  have lt0 : ∀ x ∈ p0, x.block < W.heap.size := by obtain ⟨m, hm⟩ := k0; exact DataW.trod_lt m _ _ _ hm
  obtain ⟨cs0, rfl, hsz0⟩ := okWide_struct Try.underlying25 (hval 0 25 v0 rfl rfl)
  obtain ⟨ka0, na0, ia0, ta0, ga0, ha0, e0, wk0, wn0, wi0, w0⟩ : ∃ (k n i : Int) (t : ByteArray) (a b : Int), cs0.toList = vlL k n i t a b ∧ (Lit.int .i64 k).wf = true ∧ (Lit.int .i64 n).wf = true ∧ (Lit.int .i64 i).wf = true ∧ t.size ≤ maxLen := by
    obtain ⟨fuel, hf⟩ := h0
    exact open_value fuel _ _ hf
  obtain rfl : cs0 = #[.int .i64 ka0, .int .i64 na0, .int .i64 ia0, .string ta0, .int .i64 ga0, .int .i64 ha0] := Array.toList_inj.1 e0
  clear hA0 hval0
  refine (FnExactToCset_walk ka0 na0 ia0 ta0 ga0 ha0 wk0 wn0 wi0 w0 W).mono fun e W' ⟨he, bel⟩ => ?_
  subst he
  exact ⟨_, rfl, _, _, _, [], _, [], hW', trodAll_mk1 (shut_bool Try.underlying4 _), (trodAll_cons_mk (Below.trod laidOut (by kernel_rfl) (of_decide_eq_true (by kernel_rfl)) k0 bel lt0) trodAll_mk0), rfl, bel.frame _, fun h => by cases h⟩

theorem over : Rows.fnExactToCsetRow.holds Try.pinned (OpenSpec.ofChange Rows.fnExactToCsetSpec) :=
  OpenClaim.holds_of_wide 4 Try.f4 rfl rfl rfl rfl rfl rfl rfl ⟨rfl, rfl, rfl, rfl, rfl⟩ rfl rfl rfl rfl rfl (by kernel_rfl) Try.func4 (by kernel_rfl)
    (of_decide_eq_true (by kernel_rfl)) (by unfold Func.isWrapper; first | (rw [if_pos (by decide +kernel)]; kernel_rfl) | (rw [if_neg (by decide +kernel)]; exact ⟨rfl, rfl⟩))
    (fun os started H enc _ => lifted os started H enc)

/-- The statement. -/
theorem proved : Rows.FnExactToCsetSaid :=
  over
#print axioms proved
end Go.Proofs.Ytlbidfegcfcaiaa.fnExactToCset
