/- Joined texts: U90, V20, V24, V25, V38. No conditions besides those that each states. -/
import Derived.Laws.Rows
import Derived.IntWalk
import Derived.Maps.OwnSet
import Derived.Maps.Views
import Derived.Test.YtbadepiakkhabaaDoorZ12
import Derived.Test.YtbadepiakkhabaaDoorZ23
import Derived.Test.YtbadepiakkhabaaDoorZ24
/- The program: lists of names, records. No conditions. -/
namespace Go.Proofs.YtbadepiakkhabaaDoor
open Go.RowKit
set_option linter.unusedVariables false

set_option maxHeartbeats 800000 in
theorem impl_names (v : Value) (l : List ByteArray) (m : Nat) (w : World) (hk : Is w (strsD l) v) (hb : strsB l ≤ 1048576) (hm : (m : Int) ≤ 100) :
    Calls Tryd.prog 64 #[v, .int .i64 (m : Int)] w fun e w' => e = .returned (.bool (nmOk l m)) ∧ Below w.heap.size w w' := by
  obtain ⟨a, c, rfl⟩ := is_slice hk
  have HK := Lib.hid hk
  have HZ := Lib.hid (str_bound hb)
  have hln : l.length ≤ 1048576 := by unfold strsB at hb; omega
  clear hk hb
  by_cases hmx : l.length ≤ m
  case neg =>
    have HN : Hid (nmOk l m = false) := Lib.hid (by unfold nmOk; rw [decide_eq_false hmx, Bool.and_false])
    have hlt : m < l.length := by omega
    have hlt2 : (m : Int) < l.length := by omega
    clear hmx
    go_enter Tryd.func64, Tryd.ntmps64
    go_wp2
    go_ret
    exact ⟨ret_eb HN.out, Below.refl _ _⟩
  have HM : Hid (∀ p : List ByteArray → Prop, (l.all nmB = true → nmOk l m = true)) := Lib.hid (fun _ h => by rw [nm_yes h, decide_eq_true hmx])
  have hnl : ¬ m < l.length := by omega
  have hnl2 : ¬ (m : Int) < l.length := by omega
  go_enter Tryd.func64, Tryd.ntmps64
  go_wp2
  go_loopw [6, 13] (fun _ i wr => ∃ k : Nat, i = .int .i64 k ∧ k ≤ l.length ∧ (l.take k).all nmB = true ∧ Below w.heap.size w wr) (fun _ i _ => l.length - (intOf i).toNat)
  case atStart => exact ⟨0, rfl, Nat.zero_le _, rfl, Below.refl _ _⟩
  case round =>
    obtain ⟨k, rfl, hk, hall, hb⟩ := hrel
    have HA := Lib.hid hall
    have HB := Lib.hid hb
    by_cases hlt : k < l.length
    · obtain ⟨g, o, rfl, d1⟩ := str_at (HK.out.later hb) k hlt
      have HC := Lib.hid (impl_name l[k] wr (HZ.out _ (List.getElem_mem hlt)))
      have HY := Lib.hid (fun h => all_take nmB l k hlt HA.out h)
      have HNO := Lib.hid (fun h => nm_no (m := m) (all_no nmB l k hlt h))
      have k0 : (0 : Int) ≤ k := by omega
      have k1 : (k : Int) < l.length := by omega
      clear hall hb
      generalize l[k] = x at d1 HC HY HNO
      cases hx : Tk.isName x.data.toList
      · rw [hx] at HC
        have HN := Lib.hid (HNO.out hx)
        clear HY HNO hx
        go_wp2_with fail
        refine HC.out.mono ?_
        rintro e w1 ⟨rfl, b1⟩
        have B1 := Lib.hid (below_then HB.out b1)
        clear b1
        go_wp2
        go_ret
        exact ⟨ret_eb HN.out, B1.out⟩
      · rw [hx] at HC
        have HN := Lib.hid (HY.out hx)
        clear HY HNO hx
        go_wp2_with fail
        refine HC.out.mono ?_
        rintro e w1 ⟨rfl, b1⟩
        have B1 := Lib.hid (below_then HB.out b1)
        clear b1
        go_wp2
        go_roundw
        case rel => exact ⟨k + 1, by go_num, by omega, HN.out, B1.out⟩
        case measure => first | (simp [intOf]; done) | (simp [intOf]; omega)
    · obtain rfl : k = l.length := by omega
      have HN := Lib.hid (HM.out (fun _ => True) (all_end _ _ hall))
      clear hall
      go_wp2
      go_ret
      exact ⟨ret_eb HN.out, hb⟩
theorem impl_nm {s : ByteArray} {b : Bool} (h : nmB s = b) (w : World) (hs : (s.size : Int) ≤ 1048576) : Calls Tryd.prog 94 #[.string s] w fun e w' => e = .returned (.bool b) ∧ Below w.heap.size w w' := by
  have hc := impl_name s w hs
  rw [show Tk.isName s.data.toList = b from h] at hc
  exact hc
theorem impl_nok {l : List ByteArray} {m : Nat} {b : Bool} (h : nmOk l m = b) (v : Value) (w : World) (hk : Is w (strsD l) v) (hb : strsB l ≤ 1048576) (hm : (m : Int) ≤ 100) : Calls Tryd.prog 64 #[v, .int .i64 (m : Int)] w fun e w' => e = .returned (.bool b) ∧ Below w.heap.size w w' := by
  have hc := impl_names v l m w hk hb hm
  rw [h] at hc
  exact hc
set_option maxHeartbeats 3200000 in
theorem impl_wrong_rec (x : Rc) (hb : x.bulk ≤ 1048576) (w : World) (y1 : Value) (k1 : Is w (strsD x.fields) y1) : Calls Tryd.prog 96 #[rcV x y1] w fun e w' => e = .returned (.bool (!x.valid)) ∧ Below w.heap.size w w' := by
  have hbx := hb
  unfold Rc.bulk at hbx
  have K1 := Lib.hid k1
  obtain ⟨e1, d1, rfl⟩ := is_slice k1
  have hnx : (x.name.size : Int) ≤ 1048576 := by omega
  have HBX := Lib.hid hbx
  have BA := Lib.hid (bl1 w (.cells #[.string x.name, .slice e1 x.fields.length d1, .int .i64 x.line] 72))
  have VA := Lib.hid (Var.new w #[.string x.name, .slice e1 x.fields.length d1, .int .i64 x.line] 72)
  clear hb hbx k1
  cases h0 : nmB x.name
  case false =>
    have HN : Hid ((!x.valid) = true) := Lib.hid (by unfold Rc.valid; rw [h0]; simp)
    go_enter Tryd.func96, Tryd.ntmps96
    go_wp2_with fail
    refine (impl_nm h0 _ hnx).mono ?_
    rintro e w1 ⟨rfl, b1⟩
    have B1 := Lib.hid (below_then BA.out b1)
    have V1 := Lib.hid (VA.out.later b1)
    have f0 := (V1.out 0 _ rfl).1
    have f1 := (V1.out 1 _ rfl).1
    have f2 := (V1.out 2 _ rfl).1
    clear b1
    go_wp2
    go_ret
    exact ⟨ret_eb HN.out, B1.out⟩
  cases h1 : nmOk x.fields 6
  case false =>
    have HN : Hid ((!x.valid) = true) := Lib.hid (by unfold Rc.valid; rw [h0, h1]; simp)
    go_enter Tryd.func96, Tryd.ntmps96
    go_wp2_with fail
    refine (impl_nm h0 _ hnx).mono ?_
    rintro e w1 ⟨rfl, b1⟩
    have B1 := Lib.hid (below_then BA.out b1)
    have V1 := Lib.hid (VA.out.later b1)
    have f0 := (V1.out 0 _ rfl).1
    have f1 := (V1.out 1 _ rfl).1
    have f2 := (V1.out 2 _ rfl).1
    clear b1
    go_wp2_with fail
    refine (impl_nok h1 _ _ (K1.out.later B1.out) (by have := HBX.out; omega) (by decide)).mono ?_
    rintro e w2 ⟨rfl, b2⟩
    have B2 := Lib.hid (below_then B1.out b2)
    have V2 := Lib.hid (V1.out.later b2)
    clear f0 f1 f2
    have f0 := (V2.out 0 _ rfl).1
    have f1 := (V2.out 1 _ rfl).1
    have f2 := (V2.out 2 _ rfl).1
    clear b2
    go_wp2
    go_ret
    exact ⟨ret_eb HN.out, B2.out⟩
  by_cases p2 : 0 ≤ x.line
  case neg =>
    have h2 : decide (0 ≤ x.line) = false := decide_eq_false p2
    have g2 : x.line < 0 := by omega
    have gd2 : decide (x.line < 0) = true := decide_eq_true g2
    have HN : Hid ((!x.valid) = true) := Lib.hid (by unfold Rc.valid; rw [h0, h1, h2]; simp)
    go_enter Tryd.func96, Tryd.ntmps96
    go_wp2_with fail
    refine (impl_nm h0 _ hnx).mono ?_
    rintro e w1 ⟨rfl, b1⟩
    have B1 := Lib.hid (below_then BA.out b1)
    have V1 := Lib.hid (VA.out.later b1)
    have f0 := (V1.out 0 _ rfl).1
    have f1 := (V1.out 1 _ rfl).1
    have f2 := (V1.out 2 _ rfl).1
    clear b1
    go_wp2_with fail
    refine (impl_nok h1 _ _ (K1.out.later B1.out) (by have := HBX.out; omega) (by decide)).mono ?_
    rintro e w2 ⟨rfl, b2⟩
    have B2 := Lib.hid (below_then B1.out b2)
    have V2 := Lib.hid (V1.out.later b2)
    clear f0 f1 f2
    have f0 := (V2.out 0 _ rfl).1
    have f1 := (V2.out 1 _ rfl).1
    have f2 := (V2.out 2 _ rfl).1
    clear b2
    go_wp2
    go_ret
    exact ⟨ret_eb HN.out, B2.out⟩
  have h2 : decide (0 ≤ x.line) = true := decide_eq_true p2
  have g2 : ¬ x.line < 0 := by omega
  have gd2 : decide (x.line < 0) = false := decide_eq_false g2
  have HN : Hid ((!x.valid) = false) := Lib.hid (by unfold Rc.valid; rw [h0, h1, h2]; rfl)
  go_enter Tryd.func96, Tryd.ntmps96
  go_wp2_with fail
  refine (impl_nm h0 _ hnx).mono ?_
  rintro e w1 ⟨rfl, b1⟩
  have B1 := Lib.hid (below_then BA.out b1)
  have V1 := Lib.hid (VA.out.later b1)
  have f0 := (V1.out 0 _ rfl).1
  have f1 := (V1.out 1 _ rfl).1
  have f2 := (V1.out 2 _ rfl).1
  clear b1
  go_wp2_with fail
  refine (impl_nok h1 _ _ (K1.out.later B1.out) (by have := HBX.out; omega) (by decide)).mono ?_
  rintro e w2 ⟨rfl, b2⟩
  have B2 := Lib.hid (below_then B1.out b2)
  have V2 := Lib.hid (V1.out.later b2)
  clear f0 f1 f2
  have f0 := (V2.out 0 _ rfl).1
  have f1 := (V2.out 1 _ rfl).1
  have f2 := (V2.out 2 _ rfl).1
  clear b2
  go_wp2
  go_ret
  exact ⟨ret_eb HN.out, B2.out⟩
set_option maxRecDepth 100000 in
set_option maxHeartbeats 3200000 in
theorem index_rec (l : List Rc) (hb : ∀ x ∈ l, x.bulk ≤ 1048576) (hln : l.length ≤ 1048576) (w : World) (v : Value) (hk : Is w (recsD l) v) : Calls Tryd.prog 95 #[v, .func (.func 96) #[] #[]] w fun e w' => (∃ n : Int, e = .returned (.int .i64 n) ∧ decide (0 ≤ n) = !(l.all Rc.valid)) ∧ Below w.heap.size w w' := by
  obtain ⟨a, c, rfl⟩ := is_slice hk
  have HK := Lib.hid hk
  have HI := Lib.hid hb
  clear hk hb
  go_enter Tryd.func95, Tryd.ntmps95
  go_wp2
  go_loopw [5, 8] (fun _ i wr => ∃ k : Nat, i = .int .i64 k ∧ k ≤ l.length ∧ (l.take k).all Rc.valid = true ∧ Below w.heap.size w wr) (fun _ i _ => l.length - (intOf i).toNat)
  case atStart => exact ⟨0, rfl, Nat.zero_le _, rfl, Below.refl _ _⟩
  case round =>
    obtain ⟨k, rfl, hk, hall, hb⟩ := hrel
    have HA := Lib.hid hall
    have HB := Lib.hid hb
    by_cases hlt : k < l.length
    · obtain ⟨g, o, rfl, ⟨q0, ⟨y1, q1, k1⟩, q2⟩⟩ := rec_at (HK.out.later hb) k hlt
      have HC := Lib.hid (fun W (hW : Below wr.heap.size wr W) => impl_wrong_rec l[k] (HI.out _ (List.getElem_mem hlt)) W y1 (k1.later hW))
      have HY := Lib.hid (fun h => all_take Rc.valid l k hlt HA.out h)
      have HNO := Lib.hid (fun h => all_no Rc.valid l k hlt h)
      have k0 : (0 : Int) ≤ k := by omega
      have k1' : (k : Int) < l.length := by omega
      clear hall hb
      obtain ⟨e1, d1, rfl⟩ := is_slice k1
      clear k1
      generalize l[k] = x at q0 q1 q2 HC HY HNO
      cases hx : x.valid
      · rw [hx] at HC
        have HN := Lib.hid (HNO.out hx)
        clear HY HNO hx
        go_wp2_with fail
        refine (HC.out _ (Below.refl _ _)).mono ?_
        rintro e w1 ⟨rfl, b1⟩
        have B1 := Lib.hid (below_then HB.out b1)
        clear b1
        go_wp2
        go_ret
        exact ⟨⟨_, rfl, by rw [HN.out]; simp⟩, B1.out⟩
      · rw [hx] at HC
        have HN := Lib.hid (HY.out hx)
        clear HY HNO hx
        go_wp2_with fail
        refine (HC.out _ (Below.refl _ _)).mono ?_
        rintro e w1 ⟨rfl, b1⟩
        have B1 := Lib.hid (below_then HB.out b1)
        clear b1
        go_wp2
        go_roundw
        case rel => exact ⟨k + 1, by go_num, by omega, HN.out, B1.out⟩
        case measure => first | (simp [intOf]; done) | (simp [intOf]; omega)
    · obtain rfl : k = l.length := by omega
      have HN := Lib.hid (all_end _ _ hall)
      clear hall
      go_wp2
      go_ret
      exact ⟨⟨_, rfl, by rw [HN.out]; rfl⟩, hb⟩
theorem contains_rec (l : List Rc) (hb : ∀ x ∈ l, x.bulk ≤ 1048576) (hln : l.length ≤ 1048576) (w : World) (v : Value) (hk : Is w (recsD l) v) : Calls Tryd.prog 65 #[v, .func (.func 96) #[] #[]] w fun e w' => e = .returned (.bool (!(l.all Rc.valid))) ∧ Below w.heap.size w w' := by
  have HC := Lib.hid (index_rec l hb hln w v hk)
  obtain ⟨a, c, rfl⟩ := is_slice hk
  clear hb hk
  go_enter Tryd.func65, Tryd.ntmps65
  go_wp2_with fail
  refine HC.out.mono ?_
  rintro e w1 ⟨⟨n, rfl, hn⟩, b1⟩
  have HN := Lib.hid hn
  have B1 := Lib.hid b1
  clear hn b1
  go_wp2
  go_ret
  exact ⟨ret_eb HN.out.symm, B1.out⟩
end Go.Proofs.YtbadepiakkhabaaDoor
/- The program's table of the functions' names; a function's number. The table reads as the program's text lays it. -/
namespace Go.Proofs.YtbadepiakkhabaaDoor
open Go.RowKit
set_option linter.unusedVariables false

/-- The table holds the names. -/
def NamesAt (W : World) : Prop := ∃ t fr, W.heap[1]? = some (.cells (funL.map Value.string).toArray t fr)
theorem NamesAt.lt {W : World} (h : NamesAt W) : 1 < W.heap.size := by
  obtain ⟨t, fr, h⟩ := h
  exact (Array.getElem?_eq_some_iff.1 h).1
theorem NamesAt.keep {W W' : World} (h : NamesAt W) (hb : W'.heap[1]? = W.heap[1]?) : NamesAt W' := by
  obtain ⟨t, fr, h⟩ := h
  exact ⟨t, fr, hb.trans h⟩
theorem NamesAt.later {W W' : World} (h : NamesAt W) (hb : Below W.heap.size W W') : NamesAt W' := h.keep (hb.block _ h.lt)
theorem run_index_names (k : Nat) (x : ByteArray) (hk : funL[k]? = some x) (w : World) : (Instr.index 186 (.agg (funL.map Value.string).toArray) (.int .i64 (k : Int))).run Tryd.prog w = .ok (.string x) w := by
  have hl : k < 55 := (List.getElem?_eq_some_iff.1 hk).1
  have hc : ((funL.map Value.string).toArray)[k]? = some (.string x) := by simp [hk]
  generalize (funL.map Value.string).toArray = cs at hc ⊢
  obtain ⟨i0, hi, hz0, hz1, hz2⟩ := info_parts info_string
  have h1 : (0 : Int) ≤ (k : Int) ∧ (k : Int) < ((55 : Nat) : Int) := by omega
  simp [Instr.index, run_underlying Tryd.underlying186, run_underlying Tryd.underlying9, asIntOf, sizeOf, typeInfo, hi, hz1, part, isAgg, hc]
  intro h; omega
theorem cell_names {W : World} (h : NamesAt W) (k : Nat) (x : ByteArray) (hk : funL[k]? = some x) : W.cell? ⟨1, k, none⟩ = some (.string x) := by
  obtain ⟨t, fr, h⟩ := h
  rw [cell_of_row W _ k _ t fr h]
  simp [hk]
set_option maxRecDepth 100000 in
set_option maxHeartbeats 1600000 in
theorem impl_fnumber (s : ByteArray) (w : World) (hN : NamesAt w) : Calls Tryd.prog 87 #[.string s] w fun e w' => e = .returned (.int .i64 (fxI funL s)) ∧ w = w' := by
  obtain ⟨tt, fr, hg⟩ := hN
  have HG := Lib.hid hg
  have HI := Lib.hid run_index_names
  clear hg
  obtain ⟨cs, hcs⟩ : ∃ cs, (funL.map Value.string).toArray = cs := ⟨_, rfl⟩
  have hsz : (Tryd.prog.info? 186).map (·.size) = some cs.size := by rw [← hcs]; kernel_rfl
  have HSZ := Lib.hid hsz
  rw [hcs] at HG HI
  clear hcs hsz
  go_enter Tryd.func87, Tryd.ntmps87
  go_wp2_with (refine wpList_load_row rfl 186 _ rfl 1 rfl tt cs fr _ HG.out Tryd.underlying186 rfl HSZ.out ?_)
  go_loop [3, 4, 6] (fun _ _ i => ∃ k : Nat, i = .int .i64 k ∧ k ≤ funL.length ∧ NotYet funL s k) (fun _ _ i => funL.length - (intOf i).toNat)
  case atStart => exact ⟨0, rfl, Nat.zero_le _, notYet_zero funL s⟩
  case round =>
    obtain ⟨k, rfl, hk, hn⟩ := hrel
    have HN := Lib.hid hn
    have HL : Hid (funL.length = 55) := Lib.hid rfl
    clear hn
    by_cases hlt : k < funL.length
    · have hix := HI.out k funL[k] (List.getElem?_eq_getElem hlt)
      have hk55 : (k : Int) < 55 := by have := HL.out; omega
      have HLT := Lib.hid hlt
      cases he : eqN funL[k] s
      case true =>
        have HX := Lib.hid (fxI_some (fx_at hlt he HN.out))
        have t1 : (funL[k].toList == s.toList) = true := he
        clear he
        generalize funL[k] = x at hix t1
        clear hlt
        go_wp2
        go_ret
        exact ⟨ret_in HX.out.symm, rfl⟩
      case false =>
        have HX := Lib.hid (notYet_succ HN.out hlt he)
        have t1 : (funL[k].toList == s.toList) = false := he
        clear he
        generalize funL[k] = x at hix t1
        clear hlt
        go_wp2
        go_round
        case rel => exact ⟨k + 1, by go_num, HLT.out, HX.out⟩
        case measure => have := HLT.out; first | (simp [intOf]; done) | (simp [intOf]; omega)
    · obtain rfl : k = funL.length := by omega
      have HX := Lib.hid (fxI_none (notYet_all HN.out))
      have h55 : ¬ ((funL.length : Nat) : Int) < 55 := by have := HL.out; omega
      go_wp2
      go_ret
      exact ⟨ret_in HX.out.symm, rfl⟩
/-- The name of a function. -/
def fnName (n : Int) : ByteArray := if 0 ≤ n then (match funL[n.toNat]? with | some x => x | none => ByteArray.empty) else ByteArray.empty
theorem fnName_neg {n : Int} (h : n < 0) : fnName n = ByteArray.empty := by unfold fnName; rw [if_neg (by omega)]
theorem fnName_far {n : Int} (h : 55 ≤ n) : fnName n = ByteArray.empty := by
  unfold fnName
  split
  · rw [List.getElem?_eq_none (by rw [funL_len]; omega)]
  · rfl
theorem fnName_at {k : Nat} {x : ByteArray} (h : funL[k]? = some x) : fnName (k : Int) = x := by
  unfold fnName
  rw [if_pos (by omega), Int.toNat_natCast, h]
theorem ret_st {a b : ByteArray} (h : a = b) : Ending.returned (.string a) = .returned (.string b) := by rw [h]
end Go.Proofs.YtbadepiakkhabaaDoor
/- Maps from names to what they mean: what is in them, behind a store, at a look-up. No conditions. -/
namespace Go.Proofs.YtbadepiakkhabaaDoor
open Go.RowKit
set_option linter.unusedVariables false

abbrev meanV (p : Int × Int) : Value := .agg #[.int .i64 p.1, .int .i64 p.2]
def meanD (p : Int × Int) : DataW Unit := .agg [.lit (.int .i64 p.1), .lit (.int .i64 p.2)]
/-- How a meaning reads. -/
def meanE : Value → Option (DataW Unit × List MemPlace)
  | .agg cs => match cs.toList with
    | [.int .i64 a, .int .i64 b] => some (meanD (a, b), [])
    | _ => none
  | _ => none
theorem meanE_mk (p : Int × Int) : meanE (meanV p) = some (meanD p, []) := rfl
theorem meanE_inv {v : Value} {p : Int × Int} {ps : List MemPlace} (h : meanE v = some (meanD p, ps)) : v = meanV p := by
  unfold meanE at h
  split at h
  · rename_i cs
    split at h
    · rename_i a b hl
      simp only [Option.some.injEq, Prod.mk.injEq, meanD, DataW.agg.injEq, List.cons.injEq, DataW.lit.injEq, Lit.int.injEq, true_and, and_true] at h
      obtain ⟨⟨h1, h2⟩, _⟩ := h
      obtain rfl : cs = #[.int .i64 a, .int .i64 b] := Array.toList_inj.1 hl
      rw [h1, h2]
    · cases h
  · cases h
abbrev keyL (s : ByteArray) : Lit := .string s.data.toList
theorem keyL_inj {s x : ByteArray} (h : keyL s = keyL x) : s = x := by
  injection h with h
  cases s; cases x
  exact congrArg ByteArray.mk (Array.toList_inj.1 h)
theorem keyL_is (s : ByteArray) : WideAt.IsKeyLit (keyL s) := trivial
theorem key_law : Maps.Keyed Tryd.prog 9 := Maps.string_keyed Tryd.underlying9
/-- Block b is a map of at most n names that says f. -/
def MapM (w : World) (b n : Nat) (f : ByteArray → Option (Int × Int)) : Prop := ∃ D : DataW Unit, w.ownsMap Tryd.prog 9 meanE b n D ∧ ∀ s : ByteArray, Maps.has D (keyL s) = (f s).isSome ∧ ∀ p, f s = some p → D.atKey (keyL s) (meanD (0, 0)) = meanD p
theorem MapM.lt {w : World} {b n : Nat} {f : ByteArray → Option (Int × Int)} (h : MapM w b n f) : b < w.heap.size := by obtain ⟨D, h, _⟩ := h; exact h.lt
theorem MapM.obj {w : World} {b n : Nat} {f : ByteArray → Option (Int × Int)} (h : MapM w b n f) : ∃ o : Obj, w.heap[b]? = some o ∧ o.isCells = false := by
  obtain ⟨D, ⟨es, clock, hb, _⟩, _⟩ := h
  exact ⟨_, hb, rfl⟩
theorem MapM.keep {w w' : World} {b n : Nat} {f : ByteArray → Option (Int × Int)} (h : MapM w b n f) (hb : w'.heap[b]? = w.heap[b]?) : MapM w' b n f := by
  obtain ⟨D, ⟨es, clock, h1, h2⟩, h3⟩ := h
  exact ⟨D, ⟨es, clock, hb.trans h1, h2⟩, h3⟩
theorem MapM.later {w w' : World} {b n : Nat} {f : ByteArray → Option (Int × Int)} (h : MapM w b n f) (hb : Below w.heap.size w w') : MapM w' b n f := h.keep (hb.block _ h.lt)
theorem MapM.made (w : World) : MapM (w.alloc (.map #[] 0)) w.heap.size 0 fun _ => none :=
  ⟨_, World.ownsMap_made w Tryd.prog 9 meanE, fun s => ⟨rfl, fun p h => by cases h⟩⟩
theorem MapM.congr {w : World} {b n : Nat} {f g : ByteArray → Option (Int × Int)} (h : MapM w b n f) (hg : ∀ s, g s = f s) : MapM w b n g := by
  obtain rfl : g = f := funext hg
  exact h
theorem MapM.mono {w : World} {b n m : Nat} {f : ByteArray → Option (Int × Int)} (h : MapM w b n f) (hn : n ≤ m) : MapM w b m f := by
  obtain ⟨D, h1, h2⟩ := h
  exact ⟨D, h1.mono hn, h2⟩
theorem zero_mean (w : World) : (zeroValue 114).run Tryd.prog w = .ok (.agg #[.int .i64 0, .int .i64 0]) w := by kernel_rfl
/-- What a look-up answers. -/
def lookV (f : ByteArray → Option (Int × Int)) (s : ByteArray) : Int × Int := match f s with | some p => p | none => (0, 0)
theorem MapM.look {w : World} {b n : Nat} {f : ByteArray → Option (Int × Int)} (h : MapM w b n f) {s : ByteArray} (hs : s.size ≤ maxLen) : (Instr.lookup 97 (.map (some b)) (.string s) true).run Tryd.prog w = .ok (.tuple #[meanV (lookV f s), .bool (f s).isSome]) w := by
  obtain ⟨D, h1, h2⟩ := h
  obtain ⟨v, ps, hr, hv⟩ := h1.look_ok key_law Tryd.underlying97 (zero_mean w) (meanE_mk (0, 0)) (WideMaps.keyOf_string_mk Tryd.underlying9 hs)
  rw [hr, (h2 s).1]
  have e : v = meanV (lookV f s) := by
    refine meanE_inv (ps := ps) (hv.trans ?_)
    unfold lookV
    cases hf : f s with
    | some p => rw [(h2 s).2 p hf]
    | none =>
      have hh := (h2 s).1
      rw [hf] at hh
      rw [Maps.atKey_of_not_has (by simpa using hh)]
  rw [e]
theorem wpList_look {w : World} {b n : Nat} {f : ByteArray → Option (Int × Int)} {s : ByteArray} {ops : Array Oper} {rest : List Oper} {o : Oper} {a : Act} {Q : Exit → Act → World → Prop} (hgd : o.guard = none) (m x : Operand) (hop : o.op = Op.lookup 97 m x true)
    (hm : a.eval m = .map (some b)) (hx : a.eval x = .string s) (h : MapM w b n f) (hs : s.size ≤ maxLen) (hK : wpList Tryd.prog ops Q rest (a.put o.dst (.tuple #[meanV (lookV f s), .bool (f s).isSome])) w) : wpList Tryd.prog ops Q (o :: rest) a w := by
  refine wpList_plain hgd fun K' hK' => ?_
  have hr := h.look hs
  unfold Oper.wp
  simp [execOp, hop, hm, hx, hr, Result.andThen]
  exact hK' _ _ hK
/-- What a name means once it has been given a meaning unless it had one. -/
def decl (f : ByteArray → Option (Int × Int)) (s : ByteArray) (p : Int × Int) : ByteArray → Option (Int × Int) := fun x => match f x with | some q => some q | none => if eqN s x then some p else none
theorem decl_old {f : ByteArray → Option (Int × Int)} {s : ByteArray} {p : Int × Int} (h : (f s).isSome = true) (x : ByteArray) : decl f s p x = f x := by
  unfold decl
  cases hx : f x with
  | some q => rfl
  | none =>
    simp only
    rw [if_neg]
    intro he
    rw [eqN_iff.1 he, hx] at h
    cases h
theorem MapM.put {w : World} {b n : Nat} {f : ByteArray → Option (Int × Int)} (h : MapM w b n f) {s : ByteArray} (hs : s.size ≤ maxLen) (hn : n < maxLen) (hf : f s = none) (p : Int × Int) : ∃ w', (Instr.mapUpdate 97 (.map (some b)) (.string s) (meanV p)).run Tryd.prog w = .ok () w' ∧ MapM w' b (n + 1) (decl f s p) ∧ w.grownBy w' (some b) := by
  obtain ⟨D, h1, h2⟩ := h
  obtain ⟨w', hr, h3, h4⟩ := h1.update key_law Tryd.underlying97 hn (WideMaps.keyOf_string_mk Tryd.underlying9 hs) (meanE_mk p)
  have hM := h1.isMap
  refine ⟨w', hr, ⟨_, h3, fun x => ?_⟩, h4⟩
  by_cases hx : x = s
  · subst hx
    rw [Maps.has_put_same hM (keyL_is x)]
    unfold decl
    rw [hf, eqN_self]
    refine ⟨rfl, fun q hq => ?_⟩
    obtain rfl : p = q := by simpa using hq
    exact Maps.atKey_put_same hM (keyL_is x) _ _
  · have hne : keyL x ≠ keyL s := fun e => hx (keyL_inj e)
    rw [Maps.has_put_other hne, (h2 x).1]
    have e : decl f s p x = f x := by
      unfold decl
      rw [eqN_ne (fun e => hx e.symm)]
      cases f x <;> rfl
    rw [e]
    refine ⟨rfl, fun q hq => ?_⟩
    rw [Maps.atKey_put_other hne]
    exact (h2 x).2 q hq
theorem wpList_put {w : World} {b n : Nat} {f : ByteArray → Option (Int × Int)} {s : ByteArray} {p : Int × Int} {ops : Array Oper} {rest : List Oper} {o : Oper} {a : Act} {Q : Exit → Act → World → Prop} (hgd : o.guard = none) (m x y : Operand) (hop : o.op = Op.mapUpdate 97 m x y)
    (hm : a.eval m = .map (some b)) (hx : a.eval x = .string s) (hy : a.eval y = meanV p) (h : MapM w b n f) (hs : s.size ≤ maxLen) (hn : n < maxLen) (hf : f s = none) (hK : ∀ w', MapM w' b (n + 1) (decl f s p) → w.grownBy w' (some b) → wpList Tryd.prog ops Q rest (a.put o.dst undef) w') : wpList Tryd.prog ops Q (o :: rest) a w := by
  refine wpList_plain hgd fun K' hK' => ?_
  obtain ⟨w', hr, h1, h2⟩ := h.put hs hn hf p
  unfold Oper.wp
  simp [execOp, hop, hm, hx, hy, hr, Result.andThen]
  exact hK' _ _ (hK w' h1 h2)
end Go.Proofs.YtbadepiakkhabaaDoor
/- The program's meanings: declaring a name, asking for one. The table reads as the program's text lays it. -/
namespace Go.Proofs.YtbadepiakkhabaaDoor
open Go.RowKit
set_option linter.unusedVariables false

def DeclR (b n : Nat) (f : ByteArray → Option (Int × Int)) (w : World) (e : Ending) (w' : World) : Prop := e = .returned (.tuple #[]) ∧ MapM w' b n f ∧ w.grownBy w' (some b)
theorem grown_alloc (w : World) (o : Obj) (r : Option Nat) : w.grownBy (w.alloc o) r := World.grownBy_alloc w o r
theorem grownr_trans {w w1 w2 : World} {r : Option Nat} (h1 : w.grownBy w1 r) (h2 : w1.grownBy w2 r) : w.grownBy w2 r :=
  ⟨h2.os.trans h1.os, h2.tape.trans h1.tape, h2.output.trans h1.output, Nat.le_trans h1.size h2.size, fun b hb hne => (h2.block b (Nat.lt_of_lt_of_le hb h1.size) hne).trans (h1.block b hb hne)⟩
set_option maxHeartbeats 800000 in
theorem impl_declare (b n : Nat) (f : ByteArray → Option (Int × Int)) (s : ByteArray) (k1 k2 : Int) (w : World) (h : MapM w b n f) (hs : s.size ≤ maxLen) (hn : n < maxLen) : Calls Tryd.prog 114 #[.map (some b), .string s, .int .i64 k1, .int .i64 k2] w (DeclR b (n + 1) (decl f s (k1, k2)) w) := by
  unfold DeclR
  have HM := Lib.hid h
  have HS := Lib.hid hs
  have HN := Lib.hid hn
  obtain ⟨p, hp⟩ : ∃ p, lookV f s = p := ⟨_, rfl⟩
  have hl := h.look hs
  rw [hp] at hl
  rcases hf : f s with _ | q
  · have h1 : (f s).isSome = false := by rw [hf]; rfl
    rw [h1] at hl
    have HF := Lib.hid hf
    have hm2 := h.later (bl1 w (.cells #[.int .i64 p.1, .int .i64 p.2] 114))
    have HM2 := Lib.hid hm2
    have HL := Lib.hid hl
    clear h hs hn hf h1 hm2 hp hl
    go_enter Tryd.func114, Tryd.ntmps114
    have hl := HL.out
    go_wp2_with (at_mapUpdate; refine wpList_put (p := (k1, k2)) rfl _ _ _ rfl rfl rfl rfl HM2.out HS.out HN.out HF.out ?_; intro w2 hm2 hg2)
    go_end0
    exact ⟨rfl, hm2, grownr_trans (grown_alloc _ _ _) hg2⟩
  · have h1 : (f s).isSome = true := by rw [hf]; rfl
    have HX := Lib.hid (decl_old (p := (k1, k2)) h1)
    rw [h1] at hl
    have hm2 := h.later (bl1 w (.cells #[.int .i64 p.1, .int .i64 p.2] 114))
    have HM2 := Lib.hid hm2
    have HL := Lib.hid hl
    clear h hs hn hf h1 hm2 hp hl
    go_enter Tryd.func114, Tryd.ntmps114
    have hl := HL.out
    go_wp2
    go_end0
    exact ⟨rfl, (HM2.out.congr HX.out).mono (Nat.le_succ _), grown_alloc _ _ _⟩
/-- What a name means, functions included. -/
def meanOf (f : ByteArray → Option (Int × Int)) (s : ByteArray) : Int × Int := match f s with | some p => p | none => (match fx funL s with | some k => (4, k) | none => (0, 0))
def RetM (w : World) (p : Int × Int) (e : Ending) (w' : World) : Prop := e = .returned (meanV p) ∧ Below w.heap.size w w'
set_option maxHeartbeats 1600000 in
theorem impl_of (b n : Nat) (f : ByteArray → Option (Int × Int)) (s : ByteArray) (w : World) (h : MapM w b n f) (hN : NamesAt w) (hs : s.size ≤ maxLen) : Calls Tryd.prog 52 #[.map (some b), .string s] w (RetM w (meanOf f s)) := by
  unfold RetM
  have HM := Lib.hid h
  have HS := Lib.hid hs
  have HN := Lib.hid (fun W (hW : Below w.heap.size w W) => impl_fnumber s W (hN.later hW))
  rcases hf : f s with _ | q
  · have hl : (Instr.lookup 97 (.map (some b)) (.string s) true).run Tryd.prog (w.alloc (.cells #[.int .i64 0, .int .i64 0] 114)) = .ok (.tuple #[.agg #[.int .i64 0, .int .i64 0], .bool false]) (w.alloc (.cells #[.int .i64 0, .int .i64 0] 114)) := by
      rw [(h.later (bl1 w _)).look hs]
      unfold lookV
      rw [hf]; rfl
    have HB := Lib.hid (bl2 w (.cells #[.int .i64 0, .int .i64 0] 114) (.cells #[.int .i64 0, .int .i64 0] 114))
    have HC := Lib.hid (HN.out _ HB.out)
    rcases hg : fx funL s with _ | k
    · have HX : Hid (meanOf f s = (0, 0)) := Lib.hid (by unfold meanOf; rw [hf]; simp only; rw [hg])
      rw [fxI_none hg] at HC
      rw [HX.out]
      clear h hs hN hf hg HX HN
      go_enter Tryd.func52, Tryd.ntmps52
      go_wp2_with (go_at_call 87; (with_reducible refine HC.out.mono ?_); rintro e w3 ⟨rfl, rfl⟩)
      exact bodyPost_ret (v := meanV (0, 0)) (by simp [results, Tryd.results52, go_sem]) rfl ⟨rfl, bl2 _ _ _⟩
    · have HX : Hid (meanOf f s = (4, (k : Int))) := Lib.hid (by unfold meanOf; rw [hf]; simp only; rw [hg])
      rw [fxI_some hg] at HC
      rw [HX.out]
      clear h hs hN hf hg HX HN
      go_enter Tryd.func52, Tryd.ntmps52
      go_wp2_with (go_at_call 87; (with_reducible refine HC.out.mono ?_); rintro e w3 ⟨rfl, rfl⟩)
      exact bodyPost_ret (v := meanV (4, (k : Int))) (by simp [results, Tryd.results52, go_sem]) rfl ⟨rfl, bl2 _ _ _⟩
  · have hl : (Instr.lookup 97 (.map (some b)) (.string s) true).run Tryd.prog (w.alloc (.cells #[.int .i64 0, .int .i64 0] 114)) = .ok (.tuple #[.agg #[.int .i64 q.1, .int .i64 q.2], .bool true]) (w.alloc (.cells #[.int .i64 0, .int .i64 0] 114)) := by
      rw [(h.later (bl1 w _)).look hs]
      unfold lookV
      rw [hf]; rfl
    have HB := Lib.hid (bl2 w (.cells #[.int .i64 0, .int .i64 0] 114) (.cells #[.int .i64 q.1, .int .i64 q.2] 114))
    have HX : Hid (meanOf f s = q) := Lib.hid (by unfold meanOf; rw [hf])
    rw [HX.out]
    clear h hs hN hf HX HN
    go_enter Tryd.func52, Tryd.ntmps52
    go_wp2
    exact bodyPost_ret (v := meanV q) (by simp [results, Tryd.results52, go_sem]) rfl ⟨rfl, bl2 _ _ _⟩
end Go.Proofs.YtbadepiakkhabaaDoor
/- Sets of names as the program's maps: what is in them, behind a store, at a look-up. No conditions. -/
namespace Go.Proofs.YtbadepiakkhabaaDoor
open Go.RowKit
set_option linter.unusedVariables false

def boolD (b : Bool) : DataW Unit := .lit (.bool b)
def boolE : Value → Option (DataW Unit × List MemPlace)
  | .bool b => some (boolD b, [])
  | _ => none
theorem boolE_mk (b : Bool) : boolE (.bool b) = some (boolD b, []) := rfl
theorem boolE_inv {v : Value} {b : Bool} {ps : List MemPlace} (h : boolE v = some (boolD b, ps)) : v = .bool b := by
  unfold boolE at h
  split at h
  · simp only [Option.some.injEq, Prod.mk.injEq, boolD, DataW.lit.injEq, Lit.bool.injEq] at h
    rw [h.1]
  · cases h
/-- Block b is a map of at most n names that says f. -/
def SetM (w : World) (b n : Nat) (f : ByteArray → Bool) : Prop := ∃ D : DataW Unit, w.ownsMap Tryd.prog 9 boolE b n D ∧ ∀ s : ByteArray, Maps.has D (keyL s) = f s ∧ (f s = true → D.atKey (keyL s) (boolD false) = boolD true)
theorem SetM.lt {w : World} {b n : Nat} {f : ByteArray → Bool} (h : SetM w b n f) : b < w.heap.size := by obtain ⟨D, h, _⟩ := h; exact h.lt
theorem SetM.obj {w : World} {b n : Nat} {f : ByteArray → Bool} (h : SetM w b n f) : ∃ o : Obj, w.heap[b]? = some o ∧ o.isCells = false := by
  obtain ⟨D, ⟨es, clock, hb, _⟩, _⟩ := h
  exact ⟨_, hb, rfl⟩
theorem SetM.keep {w w' : World} {b n : Nat} {f : ByteArray → Bool} (h : SetM w b n f) (hb : w'.heap[b]? = w.heap[b]?) : SetM w' b n f := by
  obtain ⟨D, ⟨es, clock, h1, h2⟩, h3⟩ := h
  exact ⟨D, ⟨es, clock, hb.trans h1, h2⟩, h3⟩
theorem SetM.later {w w' : World} {b n : Nat} {f : ByteArray → Bool} (h : SetM w b n f) (hb : Below w.heap.size w w') : SetM w' b n f := h.keep (hb.block _ h.lt)
theorem SetM.made (w : World) : SetM (w.alloc (.map #[] 0)) w.heap.size 0 fun _ => false :=
  ⟨_, World.ownsMap_made w Tryd.prog 9 boolE, fun s => ⟨rfl, fun h => by cases h⟩⟩
theorem SetM.congr {w : World} {b n : Nat} {f g : ByteArray → Bool} (h : SetM w b n f) (hg : ∀ s, g s = f s) : SetM w b n g := by
  obtain rfl : g = f := funext hg
  exact h
theorem SetM.mono {w : World} {b n m : Nat} {f : ByteArray → Bool} (h : SetM w b n f) (hn : n ≤ m) : SetM w b m f := by
  obtain ⟨D, h1, h2⟩ := h
  exact ⟨D, h1.mono hn, h2⟩
theorem zero_bool (w : World) : (zeroValue 4).run Tryd.prog w = .ok (.bool false) w := by kernel_rfl
theorem SetM.look {w : World} {b n : Nat} {f : ByteArray → Bool} (h : SetM w b n f) {s : ByteArray} (hs : s.size ≤ maxLen) : (Instr.lookup 192 (.map (some b)) (.string s) false).run Tryd.prog w = .ok (.bool (f s)) w := by
  obtain ⟨D, h1, h2⟩ := h
  obtain ⟨v, ps, hr, hv⟩ := h1.lookup key_law Tryd.underlying192 (zero_bool w) (boolE_mk false) (WideMaps.keyOf_string_mk Tryd.underlying9 hs)
  rw [hr]
  have e : v = .bool (f s) := by
    refine boolE_inv (ps := ps) (hv.trans ?_)
    cases hf : f s with
    | true => rw [(h2 s).2 hf]
    | false =>
      have hh := (h2 s).1
      rw [hf] at hh
      rw [Maps.atKey_of_not_has (by simpa using hh)]
  rw [e]
/-- A set with one name more. -/
def addS (f : ByteArray → Bool) (s : ByteArray) : ByteArray → Bool := fun x => f x || eqN s x
theorem SetM.put {w : World} {b n : Nat} {f : ByteArray → Bool} (h : SetM w b n f) {s : ByteArray} (hs : s.size ≤ maxLen) (hn : n < maxLen) : ∃ w', (Instr.mapUpdate 192 (.map (some b)) (.string s) (.bool true)).run Tryd.prog w = .ok () w' ∧ SetM w' b (n + 1) (addS f s) ∧ w.grownBy w' (some b) := by
  obtain ⟨D, h1, h2⟩ := h
  obtain ⟨w', hr, h3, h4⟩ := h1.update key_law Tryd.underlying192 hn (WideMaps.keyOf_string_mk Tryd.underlying9 hs) (boolE_mk true)
  have hM := h1.isMap
  refine ⟨w', hr, ⟨_, h3, fun x => ?_⟩, h4⟩
  by_cases hx : x = s
  · subst hx
    rw [Maps.has_put_same hM (keyL_is x)]
    unfold addS
    rw [eqN_self, Bool.or_true]
    exact ⟨rfl, fun _ => Maps.atKey_put_same hM (keyL_is x) _ _⟩
  · have hne : keyL x ≠ keyL s := fun e => hx (keyL_inj e)
    rw [Maps.has_put_other hne, (h2 x).1]
    have e : addS f s x = f x := by
      unfold addS
      rw [eqN_ne (fun e => hx e.symm), Bool.or_false]
    rw [e]
    refine ⟨rfl, fun hq => ?_⟩
    rw [Maps.atKey_put_other hne]
    exact (h2 x).2 hq
theorem wpList_mark {w : World} {b n : Nat} {f : ByteArray → Bool} {s : ByteArray} {ops : Array Oper} {rest : List Oper} {o : Oper} {a : Act} {Q : Exit → Act → World → Prop} (hgd : o.guard = none) (m x y : Operand) (hop : o.op = Op.mapUpdate 192 m x y)
    (hm : a.eval m = .map (some b)) (hx : a.eval x = .string s) (hy : a.eval y = .bool true) (h : SetM w b n f) (hs : s.size ≤ maxLen) (hn : n < maxLen) (hK : ∀ w', SetM w' b (n + 1) (addS f s) → w.grownBy w' (some b) → wpList Tryd.prog ops Q rest (a.put o.dst undef) w') : wpList Tryd.prog ops Q (o :: rest) a w := by
  refine wpList_plain hgd fun K' hK' => ?_
  obtain ⟨w', hr, h1, h2⟩ := h.put hs hn
  unfold Oper.wp
  simp [execOp, hop, hm, hx, hy, hr, Result.andThen]
  exact hK' _ _ (hK w' h1 h2)
/-- A map is no block of cells: what cells say outlives a store into it. -/
theorem subw_set {w w' : World} {b n : Nat} {f : ByteArray → Bool} (hm : SetM w b n f) (hg : w.grownBy w' (some b)) : Subw w w' := fun g o v hc => by
  by_cases e : g = b
  · subst e
    obtain ⟨x, ho, hx⟩ := hm.obj
    unfold World.cell? at hc
    rw [ho] at hc
    cases x <;> simp [Obj.isCells] at hx <;> cases hc
  · exact hg.cell hc (fun e2 => e (Option.some.inj e2))
/-- A set with the names of a list. -/
def addL (f : ByteArray → Bool) (l : List ByteArray) : ByteArray → Bool := fun x => f x || (fx l x).isSome
/-- Is each of the first k names new? -/
def newAt (f : ByteArray → Bool) (l : List ByteArray) (k : Nat) : Bool := (List.range k).all fun i => !(f (l.getD i ByteArray.empty) || (fx (l.take i) (l.getD i ByteArray.empty)).isSome)
theorem newAt_zero (f : ByteArray → Bool) (l : List ByteArray) : newAt f l 0 = true := rfl
theorem newAt_succ (f : ByteArray → Bool) (l : List ByteArray) (k : Nat) (hk : k < l.length) : newAt f l (k + 1) = (newAt f l k && !(addL f (l.take k) l[k])) := by
  unfold newAt addL
  rw [List.range_succ, List.all_append, List.all_cons, List.all_nil, Bool.and_true, getD_at l k hk]
theorem addL_zero (f : ByteArray → Bool) (l : List ByteArray) (s : ByteArray) : addL f (l.take 0) s = f s := by
  unfold addL
  rw [List.take_zero, fx_nil]; simp
theorem addL_succ (f : ByteArray → Bool) (l : List ByteArray) (k : Nat) (hk : k < l.length) (s : ByteArray) : addL f (l.take (k + 1)) s = addS (addL f (l.take k)) l[k] s := by
  unfold addS addL
  rw [List.take_succ_eq_append_getElem hk, fx_snoc]
  cases fx (l.take k) s with
  | some j => simp
  | none => cases eqN l[k] s <;> simp
theorem newAt_twice (l : List ByteArray) : newAt (fun _ => false) l l.length = !(twice l) := by
  unfold newAt twice
  rw [← List.not_any_eq_all_not]
  simp
theorem addL_one (f : ByteArray → Bool) (s x : ByteArray) : addL f [s] x = addS f s x := by
  unfold addL addS
  have e : fx [s] x = if eqN s x then some 0 else none := by unfold fx; rw [List.findIdx?_cons]; cases eqN s x <;> rfl
  rw [e]
  cases eqN s x <;> rfl
theorem newAt_one (f : ByteArray → Bool) (s : ByteArray) : newAt f [s] 1 = !(f s) := by
  rw [newAt_succ f [s] 0 (by simp), newAt_zero]
  have := addL_zero f [s] s
  simp only [List.getElem_cons_zero, Bool.true_and]
  rw [this]
theorem fx_names (a : List ByteArray) (s x : ByteArray) : (fx (a ++ [s]) x).isSome = addS (fun y => (fx a y).isSome) s x := by
  unfold addS
  rw [fx_snoc]
  cases h : fx a x with
  | some j => simp [h]
  | none => cases eqN s x <;> simp [h]
end Go.Proofs.YtbadepiakkhabaaDoor
