/- What the row's list gives a walk: a table of texts. No conditions. -/
import Derived.Test.YtbadepiakkhabaaDoorRows
import Derived.Test.YtbadepiakkhabaaDoorTB
import Derived.LaidLaws
import Derived.MakeChecks
import Derived.OpenShut
namespace Go.Proofs.YtbadepiakkhabaaDoor
open Go.RowKit
set_option linter.unusedVariables false

/-- One listed variable that holds a table of texts. -/
theorem tab_of {W : World} {name : String} {v : Nat} {T : TypeId} {L : List ByteArray} {n : Nat} {D : DataW Unit} {ds : List (String × DataW Unit)} {ps : List MemPlace} (gT : Tryd.prog.globalNamed name = some v) (gTT : (Tryd.prog.globals[v]?).map (·.type) = some T) (hu : Tryd.prog.underlying T = some (.array n 9)) (cT : Tryd.prog.cellsOf T = n) (hLn : L.length = n)
    (hD : D = .agg (L.map fun x => .lit (.string x.data.toList))) (hL : DataW.LaidVars Tryd.prog W ((name, D) :: ds) ps) : TabAt v L W ∧ ∃ qs, DataW.LaidVars Tryd.prog W ds qs := by
  obtain ⟨g, t, cs, fuel, p, q, hg, ht, hvar, hd, hrest, _⟩ := hL
  refine ⟨?_, q, hrest⟩
  obtain rfl := Option.some.inj (gT.symm.trans hg)
  obtain rfl := Option.some.inj (gTT.symm.trans ht)
  have hcs : cs = (L.map Value.string).toArray := by
    obtain ⟨xs, m, rfl, hx, hl, hxl, hall⟩ := DataW.trod_array hu hd
    rw [cT] at hl
    rw [show Tryd.prog.cellsOf 9 = 1 by kernel_rfl] at hall
    simp only [Prod.mk.injEq] at hx
    have hxd := hx.1
    rw [hD] at hxd
    simp only [DataW.agg.injEq] at hxd
    apply Array.toList_inj.1
    apply List.ext_getElem?
    intro i
    by_cases hi : i < n
    · have h1 := hall i hi
      have hxi : ∃ y, xs[i]? = some y := ⟨_, List.getElem?_eq_getElem (by rw [hxl]; exact hi)⟩
      obtain ⟨y, hy⟩ := hxi
      rw [hy] at h1
      obtain ⟨s, e0, e1, _⟩ := DataW.trod_string Tryd.underlying9 h1
      have hfi : i < L.length := by rw [hLn]; exact hi
      have h2 := congrArg (fun l => l[i]?) hxd
      simp only [List.getElem?_map, hy, List.getElem?_eq_getElem hfi, Option.map_some, Option.some.injEq] at h2
      rw [e1] at h2
      simp only [DataW.lit.injEq, Lit.string.injEq] at h2
      have h3 : s = L[i] := by
        cases s; cases hq : L[i]
        rw [hq] at h2
        exact congrArg ByteArray.mk (Array.toList_inj.1 h2.symm)
      have h4 : cs.toList[i]? = some (.string s) := by
        have := congrArg (fun l => l[0]?) e0
        simp at this
        simpa using this
      rw [h4, h3]
      simp [hfi]
    · rw [List.getElem?_eq_none (by omega), List.getElem?_eq_none (by simp [hLn]; omega)]
  subst hcs
  unfold World.var? at hvar
  rw [gT] at hvar
  simp only [Option.bind_some] at hvar
  split at hvar
  · rename_i cs2 t2 fr2 hh
    obtain rfl := Option.some.inj hvar
    exact ⟨t2, fr2, hh⟩
  · cases hvar
end Go.Proofs.YtbadepiakkhabaaDoor
