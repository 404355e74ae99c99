/- What the row's list gives a walk: the table holds the functions' names. No conditions. -/
import Derived.Test.YtkhcbahbffjnkaaDoorRows
import Derived.Test.YtkhcbahbffjnkaaDoorV20
import Derived.LaidLaws
import Derived.MakeChecks
import Derived.OpenShut
namespace Go.Proofs.YtkhcbahbffjnkaaDoor
open Go.RowKit
set_option linter.unusedVariables false

theorem gNames : Tryd.prog.globalNamed "loop.example/g03106/impl.functionNames" = some 0 := by kernel_rfl
theorem gNamesType : (Tryd.prog.globals[0]?).map (·.type) = some 76 := by kernel_rfl
theorem cellsNames : Tryd.prog.cellsOf 76 = 55 := by kernel_rfl
theorem cellsName : Tryd.prog.cellsOf 9 = 1 := by kernel_rfl
theorem names_laid {H : Type} : (Rows.laid_loop_example_g03106_impl_functionNames : DataW H) = .agg (funL.map fun x => .lit (.string x.data.toList)) := rfl
theorem names_of {W : World} (hL : laidMetH Tryd.prog [("loop.example/g03106/impl.functionNames", Rows.laid_loop_example_g03106_impl_functionNames)] W) : NamesAt W := by
  rw [MakeChecks.laidMetH_plain _ _ _ (by kernel_rfl)] at hL
  obtain ⟨ps, ⟨g, t, cs, fuel, p, q, hg, ht, hvar, hd, _, _⟩, _⟩ := hL
  obtain rfl := Option.some.inj (gNames.symm.trans hg)
  obtain rfl := Option.some.inj (gNamesType.symm.trans ht)
  have hcs : cs = (funL.map Value.string).toArray := by
    obtain ⟨xs, m, rfl, hx, hl, hxl, hall⟩ := DataW.trod_array Tryd.underlying76 hd
    rw [cellsNames] at hl
    rw [cellsName] at hall
    simp only [Prod.mk.injEq] at hx
    have hxd := hx.1
    rw [names_laid] at hxd
    simp only [DataW.agg.injEq] at hxd
    apply Array.toList_inj.1
    apply List.ext_getElem?
    intro i
    by_cases hi : i < 55
    · have h1 := hall i hi
      have hxi : ∃ y, xs[i]? = some y := ⟨_, List.getElem?_eq_getElem (by rw [hxl]; exact hi)⟩
      obtain ⟨y, hy⟩ := hxi
      rw [hy] at h1
      obtain ⟨s, e0, e1, _⟩ := DataW.trod_string Tryd.underlying9 h1
      have hfi : i < funL.length := by rw [funL_len]; exact hi
      have h2 := congrArg (fun l => l[i]?) hxd
      simp only [List.getElem?_map, hy, List.getElem?_eq_getElem hfi, Option.map_some, Option.some.injEq] at h2
      rw [e1] at h2
      simp only [DataW.lit.injEq, Lit.string.injEq] at h2
      have h3 : s = funL[i] := by
        cases s; cases hq : funL[i]
        rw [hq] at h2
        exact congrArg ByteArray.mk (Array.toList_inj.1 h2.symm)
      have h4 : cs.toList[i]? = some (.string s) := by
        have := congrArg (fun l => l[0]?) e0
        simp at this
        simpa using this
      rw [h4, h3]
      simp [hfi]
    · rw [List.getElem?_eq_none (by omega), List.getElem?_eq_none (by simp [funL_len]; omega)]
  subst hcs
  unfold World.var? at hvar
  rw [gNames] at hvar
  simp only [Option.bind_some] at hvar
  split at hvar
  · rename_i cs2 t2 fr2 hh
    obtain rfl := Option.some.inj hvar
    exact ⟨t2, fr2, hh⟩
  · cases hvar
end Go.Proofs.YtkhcbahbffjnkaaDoor
