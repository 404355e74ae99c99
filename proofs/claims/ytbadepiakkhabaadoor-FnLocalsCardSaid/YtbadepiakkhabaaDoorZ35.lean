/- Joined texts: V51, V72, V21. No conditions besides those that each states. -/
import Derived.Deep.RegionHeld3
import Derived.Test.YtbadepiakkhabaaDoorRows
import Derived.LaidLaws
import Derived.MakeChecks
import Derived.OpenShut
import Derived.Test.YtbadepiakkhabaaDoorZ16
import Derived.Test.YtbadepiakkhabaaDoorZ21
import Derived.Test.YtbadepiakkhabaaDoorZ26
import Derived.Test.YtbadepiakkhabaaDoorZ27
import Derived.Test.YtbadepiakkhabaaDoorZ34
/- The local names of a procedure of a unit without faults are distinct. No conditions. -/
namespace Go.Proofs.YtbadepiakkhabaaDoor
set_option linter.unusedVariables false

theorem noTwin_of {l : List ByteArray} (h : twice l = false) : NoTwin l l.length := by
  intro i hi
  unfold twice at h
  rw [List.any_eq_false] at h
  have := h i (List.mem_range.2 hi)
  simpa using this
theorem fx_self {l : List ByteArray} (h : twice l = false) {i : Nat} (hi : i < l.length) : fx l l[i] = some i := by
  have h1 := noTwin_of h i hi
  rw [getD_at l i hi] at h1
  rw [fx_here hi]
  cases hf : fx (l.take i) l[i] with
  | none => rfl
  | some j => rw [hf] at h1; cases h1
theorem twice_snoc {l : List ByteArray} {s : ByteArray} (h : twice l = false) (h2 : fx l s = none) : twice (l ++ [s]) = false := by
  apply noTwin_all
  intro i hi
  rw [List.length_append, List.length_singleton] at hi
  by_cases e : i = l.length
  · subst e
    rw [List.take_left, getD_at _ _ (by simp)]
    simp [h2]
  · have hl : i < l.length := by omega
    have h1 := noTwin_of h i hl
    rw [getD_at l i hl] at h1
    rw [List.take_append_of_le_length (by omega), getD_at _ _ (by simp; omega), List.getElem_append_left hl]
    exact h1
mutual
theorem coll_twice (u : Un) : ∀ (t : Ex.T) (acc : List ByteArray), twice acc = false → twice (coll u t acc) = false
  | .node k t n l ks, acc, h => by
    rw [coll]
    split
    · split
      · rename_i hf
        unfold fresh at hf
        simp only [Bool.and_eq_true, Option.isNone_iff_eq_none] at hf
        exact twice_snoc h hf.2
      · exact h
    · exact colls_twice u ks acc h
theorem colls_twice (u : Un) : ∀ (ks : List Ex.T) (acc : List ByteArray), twice acc = false → twice (colls u ks acc) = false
  | [], acc, h => by rw [colls]; exact h
  | x :: r, acc, h => by
    rw [colls]
    exact colls_twice u r _ (coll_twice u x acc h)
end
theorem dupR_two {l : List Rc} : ∀ {acc : List ByteArray} {f : Int × Int}, dupR acc l = .inl f → f.1 = 2 := by
  induction l with
  | nil => intro acc f h; rw [dupR] at h; cases h
  | cons r l ih =>
    intro acc f h
    rw [dupR] at h
    split at h
    · injection h with h; rw [← h]
    · exact ih h
theorem dupG_two {l : List ByteArray} : ∀ {acc : List ByteArray} {f : Int × Int}, dupG acc l = .inl f → f.1 = 2 := by
  induction l with
  | nil => intro acc f h; rw [dupG] at h; cases h
  | cons r l ih =>
    intro acc f h
    rw [dupG] at h
    split at h
    · injection h with h; rw [← h]
    · exact ih h
theorem dupP_two {l : List Pc} : ∀ {acc : List ByteArray} {f : Int × Int}, dupP acc l = .inl f → f.1 = 2 := by
  induction l with
  | nil => intro acc f h; rw [dupP] at h; cases h
  | cons r l ih =>
    intro acc f h
    rw [dupP] at h
    split at h
    · injection h with h; rw [← h]
    · exact ih h
theorem dupP_all {l : List Pc} : ∀ {acc b : List ByteArray}, dupP acc l = .inr b → ∀ p ∈ l, twice (p.params ++ p.locals) = false := by
  induction l with
  | nil => intro acc b h p hp; cases hp
  | cons r l ih =>
    intro acc b h p hp
    rw [dupP] at h
    split at h
    · cases h
    · rename_i hn
      simp only [Bool.or_eq_true, not_or] at hn
      rcases List.mem_cons.1 hp with rfl | hp
      · simpa using hn.2
      · exact ih h p hp
theorem dup_fine {u : Un} (h : (dup u).1 = 0) : ∀ p ∈ u.procs, twice (p.params ++ p.locals) = false := by
  unfold dup at h
  split at h
  · rename_i f hf; have := dupR_two hf; omega
  · split at h
    · rename_i f hf; have := dupG_two hf; omega
    · split at h
      · rename_i f hf; have := dupP_two hf; omega
      · rename_i b hb; exact dupP_all hb
/-- In a unit without faults each local name means its slot. -/
theorem slot_of {u : Un} {k : Int} (h : (chk u).1 = 0) {i : Nat} (hi : i < (lnames u k).length) : resv u k (lnames u k)[i] = (1, (i : Int)) := by
  by_cases hv : u.valid = true
  · by_cases h0 : 0 ≤ k
    · obtain ⟨n, rfl⟩ : ∃ n : Nat, k = n := ⟨k.toNat, by omega⟩
      by_cases hn : n < u.procs.length
      · have e := lnames_at hv hn
        rw [resv_at hv hn]
        have hd : (dup u).1 = 0 := by
          rw [chk_ok hv] at h
          unfold fltU at h
          by_cases hd : (dup u).1 = 0
          · exact hd
          · rw [if_neg (by simp [hd])] at h; exact absurd h hd
        have ht : twice (locs u u.procs[n]) = false := coll_twice u _ _ (dup_fine hd _ (List.getElem_mem hn))
        have hi2 : i < (locs u u.procs[n]).length := by rw [← e]; exact hi
        have ee : (lnames u (n : Int))[i] = (locs u u.procs[n])[i] := by congr 1
        rw [ee]
        exact means_in (fx_self ht hi2)
      · rw [lnames_far (by omega)] at hi; simp at hi
    · rw [lnames_neg (by omega)] at hi; simp at hi
  · rw [lnames_bad (by simpa using hv)] at hi; simp at hi
end Go.Proofs.YtbadepiakkhabaaDoor
/- The law on local names: its walk. The table reads as the program's text lays it. -/
namespace Go.Proofs.YtbadepiakkhabaaDoor
open Go.RowKit
set_option linter.unusedVariables false

/-- Where the law's loop stands. -/
def LcAt (w : World) (bu : Nat) (u : Un) (A : List Value) (v1 v2 v3 vl : Value) (L : List ByteArray) (W : World) : Prop := Below w.heap.size w W ∧ Var W bu A ∧ UnIs W u v1 v2 v3 ∧ Is W (strsD L) vl
theorem LcAt.later {w W W' : World} {bu : Nat} {u : Un} {A : List Value} {v1 v2 v3 vl : Value} {L : List ByteArray} (h : LcAt w bu u A v1 v2 v3 vl L W) (hb : Below W.heap.size W W') : LcAt w bu u A v1 v2 v3 vl L W' :=
  ⟨below_then h.1 hb, h.2.1.later hb, h.2.2.1.later hb, h.2.2.2.later hb⟩
theorem lnames_lens {u : Un} (hb : u.bulk ≤ 1048576) (k : Int) : strsB (lnames u k) ≤ 1048576 := by
  unfold lnames
  split
  · split
    · rename_i p hp
      exact locs_size hb (List.mem_of_getElem? hp)
    · unfold strsB; simp [wsum]
  · unfold strsB; simp [wsum]
set_option maxRecDepth 100000 in
set_option maxHeartbeats 6400000 in
theorem FnLocals_walk (a0 : Option Addr) (len0 cap0 : Nat) (z0 : List Int) (w : World) (w0 : IsRow .u8 w a0 len0 cap0 z0) (hN : NamesAt w) :
    Calls Tryd.prog 5 #[.slice a0 len0 cap0] w fun e w' => e = .returned (.bool true) ∧ Below w.heap.size w w' := by
  have HC := Lib.hid (code_of_in w0)
  have hl : (len0 : Int) ≤ 9223372036854775807 := by
    rcases w0 with ⟨_, rfl, _⟩ | ⟨x, _, h1, h2, _⟩
    · omega
    · unfold maxLen at h2; omega
  clear w0
  by_cases hbig : (1048576 : Int) < len0
  · clear hN HC
    go_enter Tryd.func5, Tryd.ntmps5
    go_wp2
    go_ret
    exact ⟨rfl, Below.refl _ _⟩
  · have hs : (len0 : Int) ≤ 1048576 := by omega
    have HD := Lib.hid (draw_local _ len0 w HC.out hs)
    have HNN := Lib.hid (fun W (hW : Below w.heap.size w W) => hN.later hW)
    unfold DrawnL at HD
    clear HC hN
    go_enter Tryd.func5, Tryd.ntmps5
    go_wp2_with fail
    refine (big_no a0 len0 cap0 _ hs).mono ?_
    rintro ee wz ⟨rfl, rfl⟩
    go_wp2_with fail
    refine HD.out.mono ?_
    rintro ee w1 ⟨u, v1, v2, v3, k, rfl, hu, hbk, _, hb1⟩
    obtain ⟨a1, c1, rfl⟩ := is_slice hu.1
    obtain ⟨a2, c2, rfl⟩ := is_slice hu.2.1
    obtain ⟨a3, c3, rfl⟩ := is_slice hu.2.2
    have hb : u.bulk ≤ 1048576 := by omega
    have HUB := Lib.hid hb
    have n1 := bl1 w1 (.cells #[.slice a1 u.recs.length c1, .slice a2 u.globs.length c2, .slice a3 u.procs.length c3] 51)
    have HU2 := Lib.hid (hu.later n1)
    have HB2 := Lib.hid (below_then hb1 n1)
    have HV2 := Lib.hid (Var.new w1 #[.slice a1 u.recs.length c1, .slice a2 u.globs.length c2, .slice a3 u.procs.length c3] 51)
    have HL := Lib.hid (impl_locals u hb k _ _ _ _ HU2.out (HNN.out _ HB2.out))
    unfold RetD at HL
    clear hu hb1 n1 HD hs hbig hl hbk hb
    go_wp2_with fail
    (with_reducible refine HL.out.mono ?_)
    rintro e w3 ⟨vl, F3, rfl, o3, _, b3⟩
    have hsz := lnames_lens HUB.out k
    have HSL : Hid (∀ (L : List ByteArray), lnames u k = L → (chk u).1 = 0 → ∀ (i : Nat) (hi : i < L.length), resv u k L[i] = (1, (i : Int))) := Lib.hid (fun L hL hz i hi => by subst hL; exact slot_of hz hi)
    have HSP := Lib.hid (fun W (hW : UnIs W u (.slice a1 u.recs.length c1) (.slice a2 u.globs.length c2) (.slice a3 u.procs.length c3)) => spec_locals u HUB.out k W _ _ _ hW)
    unfold RetN at HSP
    obtain ⟨L, hL⟩ : ∃ L, lnames u k = L := ⟨_, rfl⟩
    have HSLL := Lib.hid (HSL.out L hL)
    rw [hL] at o3 HSP hsz
    obtain ⟨al, cl, rfl⟩ := own_slice o3
    have hll : L.length ≤ 1048576 := by unfold strsB at hsz; omega
    have HLS := Lib.hid (fun s (hs : s ∈ L) => by have h1 := str_bound hsz s hs; exact (show s.size ≤ maxLen by unfold maxLen; omega))
    have HS3 := Lib.hid (show LcAt w w1.heap.size u _ _ _ _ _ L w3 from ⟨below_then HB2.out b3, HV2.out.later b3, HU2.out.later b3, o3.is⟩)
    obtain ⟨e0, _⟩ := HS3.out.2.1 0 _ rfl
    obtain ⟨e1, _⟩ := HS3.out.2.1 1 _ rfl
    obtain ⟨e2, _⟩ := HS3.out.2.1 2 _ rfl
    clear o3 b3 HL HU2 HB2 HV2 HSL hL hsz
    have hq3 := HS3.out.2.2.1
    have HSP3 := Lib.hid (HSP.out _ hq3)
    clear hq3 HSP
    go_wp2_with fail
    (with_reducible refine HSP3.out.mono ?_)
    rintro e w4 ⟨vs, rfl, o4, b4⟩
    obtain ⟨az, cz, rfl⟩ := owns_slice o4
    have HS4 := Lib.hid (HS3.out.later b4)
    clear o4 b4 HS3 e0 e1 e2
    obtain ⟨e0, _⟩ := HS4.out.2.1 0 _ rfl
    obtain ⟨e1, _⟩ := HS4.out.2.1 1 _ rfl
    obtain ⟨e2, _⟩ := HS4.out.2.1 2 _ rfl
    have HCK := Lib.hid (fun W (hW : UnIs W u (.slice a1 u.recs.length c1) (.slice a2 u.globs.length c2) (.slice a3 u.procs.length c3)) => spec_chk u HUB.out W _ _ _ hW)
    unfold RetII at HCK
    generalize (chk u).1 = bad at HCK HSLL
    generalize (chk u).2 = bad2 at HCK
    have hq4 := HS4.out.2.2.1
    have HCK4 := Lib.hid (HCK.out _ hq4)
    clear hq4 HCK
    go_wp2_with fail
    (with_reducible refine HCK4.out.mono ?_)
    rintro e w5 ⟨rfl, b5⟩
    have HS5 := Lib.hid (HS4.out.later b5)
    clear b5 HS4 e0 e1 e2
    go_wp2
    go_loopw [8, 9, 10] (fun i _ _ wr => ∃ k : Nat, i = .int .i64 k ∧ k ≤ L.length ∧ LcAt w w1.heap.size u [.slice a1 u.recs.length c1, .slice a2 u.globs.length c2, .slice a3 u.procs.length c3] (.slice a1 u.recs.length c1) (.slice a2 u.globs.length c2) (.slice a3 u.procs.length c3) (.slice al L.length cl) L wr) (fun i _ _ _ => L.length - (intOf i).toNat)
    case atStart => exact ⟨0, rfl, Nat.zero_le _, HS5.out⟩
    case round =>
      obtain ⟨j, rfl, hj, hst⟩ := hrel
      have HST := Lib.hid hst
      clear hst HS5
      by_cases hlt : j < L.length
      · have hjt : decide (j < L.length) = true := decide_eq_true hlt
        by_cases hz : bad = 0
        · have hzb : (bad == 0) = true := beq_iff_eq.2 hz
          obtain ⟨g, o, rfl, hc⟩ := str_at HST.out.2.2.2 j hlt
          obtain ⟨e0, _⟩ := HST.out.2.1 0 _ rfl
          obtain ⟨e1, _⟩ := HST.out.2.1 1 _ rfl
          obtain ⟨e2, _⟩ := HST.out.2.1 2 _ rfl
          have HR := Lib.hid (fun W (hW : Below wr.heap.size wr W) => impl_resolve u HUB.out k L[j] (HLS.out _ (List.getElem_mem hlt)) W _ _ _ (HST.out.later hW).2.2.1 (HNN.out W (HST.out.later hW).1))
          rw [HSLL.out hz j hlt] at HR
          unfold RetII at HR
          have j0 : (0 : Int) ≤ j := by omega
          have j1 : (j : Int) < L.length := by omega
          have hw2 : IntKind.i64.wrap ((j : Int) + 1) = (j : Int) + 1 := by rw [IntKind.wrap_i64]; omega
          have HD9 : Hid (∀ W', Below wr.heap.size wr W' → W'.cell? ⟨w1.heap.size, 0, none⟩ = some (.slice a1 u.recs.length c1) ∧ W'.cell? ⟨w1.heap.size, 1, none⟩ = some (.slice a2 u.globs.length c2) ∧ W'.cell? ⟨w1.heap.size, 2, none⟩ = some (.slice a3 u.procs.length c3) ∧ W'.cell? ⟨g, o + j, none⟩ = some (.string L[j]) ∧ Below wr.heap.size wr W') := Lib.hid (fun W' h => ⟨cell_later h e0, cell_later h e1, cell_later h e2, cell_later h hc, h⟩)
          clear hz
          generalize L[j] = s at hc HR HD9
          go_wp2_with fail
          go_region_held3 (fun W' => W'.cell? ⟨w1.heap.size, 0, none⟩ = some (.slice a1 u.recs.length c1) ∧ W'.cell? ⟨w1.heap.size, 1, none⟩ = some (.slice a2 u.globs.length c2) ∧ W'.cell? ⟨w1.heap.size, 2, none⟩ = some (.slice a3 u.procs.length c3) ∧ W'.cell? ⟨g, o + j, none⟩ = some (.string s) ∧ Below wr.heap.size wr W')
            (first | exact HD9.out _ ((Below.refl _ _).drew) | exact HD9.out _ (below_then ((Below.refl _ _).drew) (by assumption)) | (go_split_ands; exact HD9.out _ (below_then (by assumption) (by assumption))))
            (first | (go_at_call 20; refine (HR.out _ ?_).mono ?_; (first | exact (Below.refl _ _).drew | (go_split_ands; assumption)); rintro e w7 ⟨rfl, hb7⟩))
          all_goals (
            have HB9 : Hid (Below wr.heap.size wr w7) := Lib.hid (by go_split_ands; assumption)
            have HS9 := Lib.hid (HST.out.later HB9.out)
            clear hb7 HB9 HST HR HD9
            go_wp2
            go_roundw
            case rel => exact ⟨j + 1, by go_num, by omega, HS9.out⟩
            case measure => first | (simp [intOf]; done) | (simp [intOf]; omega))
        · have hzb : (bad == 0) = false := beq_eq_false_iff_ne.2 hz
          clear hz
          go_wp2
          go_ret
          exact ⟨rfl, HST.out.1⟩
      · have hjt : decide (j < L.length) = false := decide_eq_false hlt
        go_wp2
        go_ret
        exact ⟨rfl, HST.out.1⟩
end Go.Proofs.YtbadepiakkhabaaDoor
/- What the row's list gives a walk: the table holds the functions' names. No conditions. -/
namespace Go.Proofs.YtbadepiakkhabaaDoor
open Go.RowKit
set_option linter.unusedVariables false

theorem gNames : Tryd.prog.globalNamed "loop.example/g03106/impl.functionNames" = some 1 := by kernel_rfl
theorem gNamesType : (Tryd.prog.globals[1]?).map (·.type) = some 186 := by kernel_rfl
theorem cellsNames : Tryd.prog.cellsOf 186 = 55 := by kernel_rfl
theorem cellsName : Tryd.prog.cellsOf 9 = 1 := by kernel_rfl
theorem names_laid {H : Type} : (Rows.laid_loop_example_g03106_impl_functionNames : DataW H) = .agg (funL.map fun x => .lit (.string x.data.toList)) := rfl
theorem names_of {W : World} (hL : laidMetH Tryd.prog [("loop.example/g03106/impl.functionNames", Rows.laid_loop_example_g03106_impl_functionNames)] W) : NamesAt W := by
  rw [MakeChecks.laidMetH_plain _ _ _ (by kernel_rfl)] at hL
  obtain ⟨ps, ⟨g, t, cs, fuel, p, q, hg, ht, hvar, hd, _, _⟩, _⟩ := hL
  obtain rfl := Option.some.inj (gNames.symm.trans hg)
  obtain rfl := Option.some.inj (gNamesType.symm.trans ht)
  have hcs : cs = (funL.map Value.string).toArray := by
    obtain ⟨xs, m, rfl, hx, hl, hxl, hall⟩ := DataW.trod_array Tryd.underlying186 hd
    rw [cellsNames] at hl
    rw [cellsName] at hall
    simp only [Prod.mk.injEq] at hx
    have hxd := hx.1
    rw [names_laid] at hxd
    simp only [DataW.agg.injEq] at hxd
    apply Array.toList_inj.1
    apply List.ext_getElem?
    intro i
    by_cases hi : i < 55
    · have h1 := hall i hi
      have hxi : ∃ y, xs[i]? = some y := ⟨_, List.getElem?_eq_getElem (by rw [hxl]; exact hi)⟩
      obtain ⟨y, hy⟩ := hxi
      rw [hy] at h1
      obtain ⟨s, e0, e1, _⟩ := DataW.trod_string Tryd.underlying9 h1
      have hfi : i < funL.length := by rw [funL_len]; exact hi
      have h2 := congrArg (fun l => l[i]?) hxd
      simp only [List.getElem?_map, hy, List.getElem?_eq_getElem hfi, Option.map_some, Option.some.injEq] at h2
      rw [e1] at h2
      simp only [DataW.lit.injEq, Lit.string.injEq] at h2
      have h3 : s = funL[i] := by
        cases s; cases hq : funL[i]
        rw [hq] at h2
        exact congrArg ByteArray.mk (Array.toList_inj.1 h2.symm)
      have h4 : cs.toList[i]? = some (.string s) := by
        have := congrArg (fun l => l[0]?) e0
        simp at this
        simpa using this
      rw [h4, h3]
      simp [hfi]
    · rw [List.getElem?_eq_none (by omega), List.getElem?_eq_none (by simp [funL_len]; omega)]
  subst hcs
  unfold World.var? at hvar
  rw [gNames] at hvar
  simp only [Option.bind_some] at hvar
  split at hvar
  · rename_i cs2 t2 fr2 hh
    obtain rfl := Option.some.inj hvar
    exact ⟨t2, fr2, hh⟩
  · cases hvar
end Go.Proofs.YtbadepiakkhabaaDoor
