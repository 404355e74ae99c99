/- The program's table of the functions' names; a function's number. The table reads as the program's text lays it. -/
import Derived.Test.YtkhcbahbffjnkaaDoorV2
import Derived.Laws.Rows
import Derived.IntWalk
namespace Go.Proofs.YtkhcbahbffjnkaaDoor
open Go.RowKit
set_option linter.unusedVariables false

/-- The table holds the names. -/
def NamesAt (W : World) : Prop := ∃ t fr, W.heap[0]? = some (.cells (funL.map Value.string).toArray t fr)
theorem NamesAt.lt {W : World} (h : NamesAt W) : 0 < W.heap.size := by
  obtain ⟨t, fr, h⟩ := h
  exact (Array.getElem?_eq_some_iff.1 h).1
theorem NamesAt.keep {W W' : World} (h : NamesAt W) (hb : W'.heap[0]? = W.heap[0]?) : NamesAt W' := by
  obtain ⟨t, fr, h⟩ := h
  exact ⟨t, fr, hb.trans h⟩
theorem NamesAt.later {W W' : World} (h : NamesAt W) (hb : Below W.heap.size W W') : NamesAt W' := h.keep (hb.block _ h.lt)
theorem run_index_names (k : Nat) (x : ByteArray) (hk : funL[k]? = some x) (w : World) : (Instr.index 76 (.agg (funL.map Value.string).toArray) (.int .i64 (k : Int))).run Tryd.prog w = .ok (.string x) w := by
  have hl : k < 55 := (List.getElem?_eq_some_iff.1 hk).1
  have hc : ((funL.map Value.string).toArray)[k]? = some (.string x) := by simp [hk]
  generalize (funL.map Value.string).toArray = cs at hc ⊢
  obtain ⟨i0, hi, hz0, hz1, hz2⟩ := info_parts info_string
  have h1 : (0 : Int) ≤ (k : Int) ∧ (k : Int) < ((55 : Nat) : Int) := by omega
  simp [Instr.index, run_underlying Tryd.underlying76, run_underlying Tryd.underlying9, asIntOf, sizeOf, typeInfo, hi, hz1, part, isAgg, hc]
  intro h; omega
theorem cell_names {W : World} (h : NamesAt W) (k : Nat) (x : ByteArray) (hk : funL[k]? = some x) : W.cell? ⟨0, k, none⟩ = some (.string x) := by
  obtain ⟨t, fr, h⟩ := h
  rw [cell_of_row W _ k _ t fr h]
  simp [hk]
set_option maxRecDepth 100000 in
set_option maxHeartbeats 1600000 in
theorem impl_number (s : ByteArray) (w : World) (hN : NamesAt w) : Calls Tryd.prog 16 #[.string s] w fun e w' => e = .returned (.int .i64 (fxI funL s)) ∧ w = w' := by
  obtain ⟨tt, fr, hg⟩ := hN
  have HG := Lib.hid hg
  have HI := Lib.hid run_index_names
  clear hg
  obtain ⟨cs, hcs⟩ : ∃ cs, (funL.map Value.string).toArray = cs := ⟨_, rfl⟩
  have hsz : (Tryd.prog.info? 76).map (·.size) = some cs.size := by rw [← hcs]; kernel_rfl
  have HSZ := Lib.hid hsz
  rw [hcs] at HG HI
  clear hcs hsz
  go_enter Tryd.func16, Tryd.ntmps16
  go_wp2_with (refine wpList_load_row rfl 76 _ rfl 0 rfl tt cs fr _ HG.out Tryd.underlying76 rfl HSZ.out ?_)
  go_loop [3, 4, 6] (fun _ _ i => ∃ k : Nat, i = .int .i64 k ∧ k ≤ funL.length ∧ NotYet funL s k) (fun _ _ i => funL.length - (intOf i).toNat)
  case atStart => exact ⟨0, rfl, Nat.zero_le _, notYet_zero funL s⟩
  case round =>
    obtain ⟨k, rfl, hk, hn⟩ := hrel
    have HN := Lib.hid hn
    have HL : Hid (funL.length = 55) := Lib.hid rfl
    clear hn
    by_cases hlt : k < funL.length
    · have hix := HI.out k funL[k] (List.getElem?_eq_getElem hlt)
      have hk55 : (k : Int) < 55 := by have := HL.out; omega
      have HLT := Lib.hid hlt
      cases he : eqN funL[k] s
      case true =>
        have HX := Lib.hid (fxI_some (fx_at hlt he HN.out))
        have t1 : (funL[k].toList == s.toList) = true := he
        clear he
        generalize funL[k] = x at hix t1
        clear hlt
        go_wp2
        go_ret
        exact ⟨ret_in HX.out.symm, rfl⟩
      case false =>
        have HX := Lib.hid (notYet_succ HN.out hlt he)
        have t1 : (funL[k].toList == s.toList) = false := he
        clear he
        generalize funL[k] = x at hix t1
        clear hlt
        go_wp2
        go_round
        case rel => exact ⟨k + 1, by go_num, HLT.out, HX.out⟩
        case measure => have := HLT.out; first | (simp [intOf]; done) | (simp [intOf]; omega)
    · obtain rfl : k = funL.length := by omega
      have HX := Lib.hid (fxI_none (notYet_all HN.out))
      have h55 : ¬ ((funL.length : Nat) : Int) < 55 := by have := HL.out; omega
      go_wp2
      go_ret
      exact ⟨ret_in HX.out.symm, rfl⟩
/-- The name of a function. -/
def fnName (n : Int) : ByteArray := if 0 ≤ n then (match funL[n.toNat]? with | some x => x | none => ByteArray.empty) else ByteArray.empty
theorem fnName_neg {n : Int} (h : n < 0) : fnName n = ByteArray.empty := by unfold fnName; rw [if_neg (by omega)]
theorem fnName_far {n : Int} (h : 55 ≤ n) : fnName n = ByteArray.empty := by
  unfold fnName
  split
  · rw [List.getElem?_eq_none (by rw [funL_len]; omega)]
  · rfl
theorem fnName_at {k : Nat} {x : ByteArray} (h : funL[k]? = some x) : fnName (k : Int) = x := by
  unfold fnName
  rw [if_pos (by omega), Int.toNat_natCast, h]
theorem ret_st {a b : ByteArray} (h : a = b) : Ending.returned (.string a) = .returned (.string b) := by rw [h]
set_option maxRecDepth 100000 in
theorem impl_fname (n : Int) (w : World) (hN : NamesAt w) : Calls Tryd.prog 14 #[.int .i64 n] w fun e w' => e = .returned (.string (fnName n)) ∧ w = w' := by
  have HN := Lib.hid hN
  clear hN
  by_cases h0 : n < 0
  · have HX := Lib.hid (fnName_neg h0)
    go_enter Tryd.func14, Tryd.ntmps14
    go_wp2
    go_ret
    exact ⟨ret_st HX.out.symm, rfl⟩
  · by_cases h1 : 55 ≤ n
    · have HX := Lib.hid (fnName_far h1)
      go_enter Tryd.func14, Tryd.ntmps14
      go_wp2
      go_ret
      exact ⟨ret_st HX.out.symm, rfl⟩
    · obtain ⟨k, rfl⟩ : ∃ k : Nat, (k : Int) = n := ⟨n.toNat, by omega⟩
      have hk : k < funL.length := by rw [funL_len]; omega
      have hx := List.getElem?_eq_getElem hk
      have HX := Lib.hid (fnName_at hx)
      have hc := cell_names HN.out k _ hx
      generalize funL[k] = x at hc HX
      clear hx hk
      go_enter Tryd.func14, Tryd.ntmps14
      go_wp2
      go_ret
      exact ⟨ret_st HX.out.symm, rfl⟩
set_option maxRecDepth 100000 in
theorem spec_number (s : ByteArray) (w : World) : Calls Tryd.prog 15 #[.string s] w fun e w' => e = .returned (.int .i64 (fxI funL s)) ∧ Below w.heap.size w w' := by
  have HF := Lib.hid (spec_funs2 w)
  go_enter Tryd.func15, Tryd.ntmps15
  go_wp2_with fail
  refine HF.out.mono ?_
  rintro e w2 ⟨rfl, hi2, hz2, b2⟩
  have HC := Lib.hid (spec_find _ funL s w2 hi2 (by decide))
  have B2 := Lib.hid b2
  clear hi2 hz2 b2
  go_wp2_with fail
  refine HC.out.mono ?_
  rintro e w3 ⟨rfl, rfl⟩
  go_wp2
  go_ret
  exact ⟨rfl, B2.out⟩
set_option maxRecDepth 100000 in
theorem spec_fname (n : Int) (w : World) : Calls Tryd.prog 13 #[.int .i64 n] w fun e w' => e = .returned (.string (fnName n)) ∧ Below w.heap.size w w' := by
  have HF := Lib.hid (spec_funs2 w)
  by_cases h0 : n < 0
  · have HX := Lib.hid (fnName_neg h0)
    go_enter Tryd.func13, Tryd.ntmps13
    go_wp2_with fail
    refine HF.out.mono ?_
    rintro e w2 ⟨rfl, hi2, hz2, b2⟩
    have B2 := Lib.hid b2
    clear hi2 hz2 b2
    go_wp2
    go_ret
    exact ⟨ret_st HX.out.symm, B2.out⟩
  · by_cases h1 : 55 ≤ n
    · have HX := Lib.hid (fnName_far h1)
      go_enter Tryd.func13, Tryd.ntmps13
      go_wp2_with fail
      refine HF.out.mono ?_
      rintro e w2 ⟨rfl, hi2, hz2, b2⟩
      have B2 := Lib.hid b2
      clear hi2 hz2 b2
      go_wp2
      go_ret
      exact ⟨ret_st HX.out.symm, B2.out⟩
    · obtain ⟨k, rfl⟩ : ∃ k : Nat, (k : Int) = n := ⟨n.toNat, by omega⟩
      have hk : k < funL.length := by rw [funL_len]; omega
      have hx := List.getElem?_eq_getElem hk
      have HX := Lib.hid (fnName_at hx)
      have HAT := Lib.hid (fun W h => str_at (w := W) (a := some ⟨w.heap.size, 0, none⟩) (n := 55) (c := 55) (l := funL) h k hk)
      generalize funL[k] = x at HX HAT
      clear hx hk
      go_enter Tryd.func13, Tryd.ntmps13
      go_wp2_with fail
      refine HF.out.mono ?_
      rintro e w2 ⟨rfl, hi2, hz2, b2⟩
      obtain ⟨g, o, e9, hc⟩ := HAT.out w2 hi2
      injection e9 with e9
      injection e9 with e1 e2
      subst e1 e2
      rw [Nat.zero_add] at hc
      have B2 := Lib.hid b2
      clear hi2 hz2 b2
      go_wp2
      go_ret
      exact ⟨ret_st HX.out.symm, B2.out⟩
end Go.Proofs.YtkhcbahbffjnkaaDoor
