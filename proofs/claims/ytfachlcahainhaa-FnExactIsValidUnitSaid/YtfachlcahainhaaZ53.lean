/- Joined texts: U11, G9. No conditions besides those that each states. -/
import Derived.Deep.Fields
import Derived.Lib.SmallJoins
import Derived.Test.YtfachlcahainhaaZ11
import Derived.Test.YtfachlcahainhaaZ52
/- The law on IsValidUnit: its walk. No conditions. -/
namespace Go.Proofs.Ytfachlcahainhaa
open Go.RowKit
set_option linter.unusedVariables false

set_option maxHeartbeats 3200000 in
theorem FnExactIsValidUnit_walk (u : Un) (v1 v2 v3 : Value) (hok : u.Ok) (w : World) (hk : UnIs w u v1 v2 v3) : Calls Try.prog 3 #[unV v1 v2 v3] w fun e w' => e = .returned (.bool true) ∧ Below w.heap.size w w' := by
  have HSZ := Lib.hid (fun W (hW : Below w.heap.size w W) => sz_unit u hok W v1 v2 v3 (hk.later hW))
  by_cases hb : u.bulk ≤ 1048576
  · rw [szR_yes hb] at HSZ
    have HTO := Lib.hid (fun W (hW : Below w.heap.size w W) => to_unit u hb W v1 v2 v3 (hk.later hW).1 (hk.later hW).2.1 (hk.later hW).2.2)
    unfold MadeU at HTO
    have HEQ := Lib.hid (fun W v1 v2 v3 u1 u2 u3 (h1 : UnIs W u v1 v2 v3) (h2 : UnIs W u u1 u2 u3) => eq_unit u hb W v1 v2 v3 u1 u2 u3 h1.1 h1.2.1 h1.2.2 h2.1 h2.2.1 h2.2.2)
    have HSP := Lib.hid (fun W v1 v2 v3 h1 => spec_validunit u hb W v1 v2 v3 h1)
    have HIM := Lib.hid (fun W v1 v2 v3 h1 => impl_validunit u hb W v1 v2 v3 h1)
    generalize u.valid = z at HSP HIM
    have hl1 : decide (((1048576 - u.bulk : Nat) : Int) < 0) = false := decide_eq_false (by omega)
    generalize ((1048576 - u.bulk : Nat) : Int) = left at HSZ hl1
    obtain ⟨a1, c1, rfl⟩ := is_slice hk.1
    obtain ⟨a2, c2, rfl⟩ := is_slice hk.2.1
    obtain ⟨a3, c3, rfl⟩ := is_slice hk.2.2
    have HV0 := Lib.hid (Var.new w #[.slice a1 u.recs.length c1, .slice a2 u.globs.length c2, .slice a3 u.procs.length c3] 26)
    clear hok hk hb
    go_enter Try.func3, Try.ntmps3
    go_wp2_with fail
    refine (HSZ.out _ (bl1 _ _)).mono ?_
    rintro e w1 ⟨rfl, b1⟩
    have B1 := Lib.hid (below_then (bl1 _ _) b1)
    have V1 := Lib.hid (HV0.out.later b1)
    have e0 := (V1.out 0 _ rfl).1
    have e1 := (V1.out 1 _ rfl).1
    have e2 := (V1.out 2 _ rfl).1
    clear b1
    go_wp2_with fail
    refine (HTO.out _ B1.out).mono ?_
    rintro e w2 ⟨x1, x2, x3, F1, F2, F3, rfl, o2, _, b2⟩
    have K2 := Lib.hid o2.is
    obtain ⟨z1, d1, rfl⟩ := is_slice o2.is.1
    obtain ⟨z2, d2, rfl⟩ := is_slice o2.is.2.1
    obtain ⟨z3, d3, rfl⟩ := is_slice o2.is.2.2
    have B2 := Lib.hid (below_then B1.out b2)
    have V2 := Lib.hid (V1.out.later b2)
    clear e0 e1 e2 o2 b2
    go_wp2_with fail
    refine (HSP.out _ _ _ _ K2.out).mono ?_
    rintro e w3 ⟨rfl, b3⟩
    have B3 := Lib.hid (below_then B2.out b3)
    have V3 := Lib.hid (V2.out.later b3)
    have e0 := (V3.out 0 _ rfl).1
    have e1 := (V3.out 1 _ rfl).1
    have e2 := (V3.out 2 _ rfl).1
    clear b3 K2
    go_wp2_with fail
    refine (HTO.out _ B3.out).mono ?_
    rintro e w4 ⟨x1, x2, x3, F1, F2, F3, rfl, o4, _, b4⟩
    have K4' := o4.is
    obtain ⟨y1, g1, rfl⟩ := is_slice o4.is.1
    obtain ⟨y2, g2, rfl⟩ := is_slice o4.is.2.1
    obtain ⟨y3, g3, rfl⟩ := is_slice o4.is.2.2
    have n4 := bl1 w4 (.cells #[.slice y1 u.recs.length g1, .slice y2 u.globs.length g2, .slice y3 u.procs.length g3] 32)
    have K4 := Lib.hid (K4'.later n4)
    have B4 := Lib.hid (below_then (below_then B3.out b4) n4)
    have V4 := Lib.hid ((V3.out.later b4).later n4)
    have X4 := Lib.hid (Var.new w4 #[.slice y1 u.recs.length g1, .slice y2 u.globs.length g2, .slice y3 u.procs.length g3] 32)
    clear e0 e1 e2 o4 b4 n4 K4'
    go_wp2_with fail
    refine (HIM.out _ _ _ _ K4.out).mono ?_
    rintro e w5 ⟨rfl, b5⟩
    have B5 := Lib.hid (below_then B4.out b5)
    have V5 := Lib.hid (V4.out.later b5)
    have X5 := Lib.hid (X4.out.later b5)
    have K5 := Lib.hid (K4.out.later b5)
    have e0 := (V5.out 0 _ rfl).1
    have e1 := (V5.out 1 _ rfl).1
    have e2 := (V5.out 2 _ rfl).1
    have f0 := (X5.out 0 _ rfl).1
    have f1 := (X5.out 1 _ rfl).1
    have f2 := (X5.out 2 _ rfl).1
    clear b5 K4 V4 X4 V3 V2 V1
    go_wp2_with fail
    go_region_with (first | (go_at_call 7; refine (HTO.out _ B5.out.drew).mono ?_; rintro e w6 ⟨x1, x2, x3, F1, F2, F3, rfl, o6, _, b6⟩; have K6 := Lib.hid o6.is; obtain ⟨m1, n1, rfl⟩ := is_slice o6.is.1; obtain ⟨m2, n2, rfl⟩ := is_slice o6.is.2.1; obtain ⟨m3, n3, rfl⟩ := is_slice o6.is.2.2; have B6 := Lib.hid (below_then B5.out.drew b6); have bb6 : Below w5.heap.size w5 w6 := ⟨b6.os, b6.tape, b6.output, b6.size, b6.block⟩; have L6 := Lib.hid (K5.out.later bb6); have p0 := (X5.out.later bb6 0 _ rfl).1; have p1 := (X5.out.later bb6 1 _ rfl).1; have p2 := (X5.out.later bb6 2 _ rfl).1; clear o6 b6 bb6) | (go_at_call 9; refine (HEQ.out _ _ _ _ _ _ _ L6.out K6.out).mono ?_; rintro e w7 ⟨rfl, b7⟩; have B7 := Lib.hid (below_then B6.out b7); clear b7))
    all_goals go_wp2
    all_goals go_ret
    all_goals exact ⟨rfl, B7.out⟩
  · rw [szR_no hb] at HSZ
    clear hok hb
    obtain ⟨a1, c1, rfl⟩ := is_slice hk.1
    obtain ⟨a2, c2, rfl⟩ := is_slice hk.2.1
    obtain ⟨a3, c3, rfl⟩ := is_slice hk.2.2
    clear hk
    go_enter Try.func3, Try.ntmps3
    go_wp2_with fail
    refine (HSZ.out _ (bl1 _ _)).mono ?_
    rintro e w1 ⟨rfl, b1⟩
    have B1 := Lib.hid (below_then (bl1 _ _) b1)
    clear b1
    go_wp2
    go_ret
    exact ⟨rfl, B1.out⟩
end Go.Proofs.Ytfachlcahainhaa
/- A tree that came in. No conditions. -/
namespace Go.Proofs.Ytfachlcahainhaa
open Go.RowKit Go.Joins
open Go.Deep (hone_of choose_lt oneCellFields)
set_option linter.unusedVariables false

theorem one_cell {H : Type} {enc : TypeId × Value → H} {W : World} {base n : Nat} {spare : Nat → Bool} {held : Bool} {fs : Array Field} (hone : oneCellFields Try.prog fs = true) {cs : List Value} (hl : cs.length = 5) {xs : List (DataW H × List MemPlace)} (hlen : xs.length = fs.size)
    (hf : ∀ (i : Nat) (f : Field), fs[i]? = some f → DataW.trod enc Try.prog W base spare held n f.type ((cs.drop f.offset).take (Try.prog.cellsOf f.type)) = xs[i]?) (i : Nat) (hi : i < 5) (f : Field) (hfi : fs[i]? = some f) : ∃ y, DataW.trod enc Try.prog W base spare held n f.type [cs[i]] = some y := by
  obtain ⟨o, k⟩ := hone_of hone i f hfi
  have h := hf i f hfi
  rw [o, k] at h
  have hx : i < xs.length := by rw [hlen]; exact (Array.getElem?_eq_some_iff.1 hfi).1
  rw [List.getElem?_eq_getElem hx, List.drop_eq_getElem_cons (by omega)] at h
  exact ⟨_, h⟩
theorem addr_add (g o i : Nat) : (⟨g, o, none⟩ : Addr).add i = ⟨g, o + i, none⟩ := by
  unfold Addr.add; split <;> simp_all
theorem list5 {α : Type} {l : List α} (h : l.length = 5) : ∃ a b c d e, l = [a, b, c, d, e] := by
  match l, h with
  | [a, b, c, d, e], _ => exact ⟨a, b, c, d, e, rfl⟩
theorem wf_int {n : Int} (h : (Lit.int .i64 n).wf = true) : -9223372036854775808 ≤ n ∧ n ≤ 9223372036854775807 := by
  simpa [Lit.wf, IntKind.min, IntKind.max, IntKind.signed, IntKind.bits] using h
instance : Inhabited Ex.T := ⟨.node 0 ByteArray.empty 0 0 []⟩
theorem oks_of : ∀ {l : List Ex.T}, (∀ x ∈ l, x.Ok) → Ex.Oks l := by
  intro l
  induction l with
  | nil => intro _; rw [Ex.Oks]; trivial
  | cons x r ih => intro h; rw [Ex.Oks]; exact ⟨h x List.mem_cons_self, ih fun y hy => h y (List.mem_cons_of_mem _ hy)⟩
theorem open_tree {H : Type} {enc : TypeId × Value → H} {W : World} {spare : Nat → Bool} {held : Bool} : ∀ (fuel : Nat) (cs : List Value) (x : DataW H × List MemPlace), DataW.trod enc Try.prog W 0 spare held fuel 72 cs = some x →
    ∃ (t : Ex.T) (v : Value), cs = [.int .i64 t.kind, .string t.text, .int .i64 t.num, .int .i64 t.line, v] ∧ Kids W v t.kids ∧ t.Ok := by
  intro fuel
  induction fuel using Nat.strongRecOn with
  | _ fuel ih =>
    intro cs x h
    obtain ⟨xs, n, rfl, _, hl, hlen, hf⟩ := DataW.trod_struct Try.underlying72 h
    rw [show Try.prog.cellsOf 72 = 5 by kernel_rfl] at hl
    have hone := one_cell (H := H) (by kernel_rfl) hl hlen hf
    obtain ⟨y0, h0⟩ := hone 0 (by omega) _ rfl
    obtain ⟨y1, h1⟩ := hone 1 (by omega) _ rfl
    obtain ⟨y2, h2⟩ := hone 2 (by omega) _ rfl
    obtain ⟨y3, h3⟩ := hone 3 (by omega) _ rfl
    obtain ⟨y4, h4⟩ := hone 4 (by omega) _ rfl
    clear hone hf hlen
    obtain ⟨c0, c1, c2, c3, c4, rfl⟩ := list5 hl
    simp only [List.getElem_cons_zero, List.getElem_cons_succ] at h0 h1 h2 h3 h4
    obtain ⟨k, e0, _, w0⟩ := DataW.trod_int Try.underlying3 h0
    obtain ⟨s, e1, _, w1⟩ := DataW.trod_string Try.underlying9 h1
    obtain ⟨m, e2, _, w2⟩ := DataW.trod_int Try.underlying3 h2
    obtain ⟨l, e3, _, w3⟩ := DataW.trod_int Try.underlying3 h3
    simp only [List.cons.injEq, and_true] at e0 e1 e2 e3
    subst e0 e1 e2 e3
    have w1b : s.size ≤ 9223372036854775807 := by unfold maxLen at w1; omega
    suffices hk : ∃ ks : List Ex.T, Kids W c4 ks ∧ ks.length ≤ 9223372036854775807 ∧ Ex.Oks ks by
      obtain ⟨ks, hk, hkl, hok⟩ := hk
      refine ⟨.node k s m l ks, c4, rfl, hk, ?_⟩
      rw [Ex.T.Ok]
      exact ⟨wf_int w0, wf_int w2, wf_int w3, ⟨w1b, hkl⟩, hok⟩
    rcases DataW.trod_slice Try.underlying70 h4 with ⟨e4, _⟩ | ⟨a, len, cap, elems, rest, n2, hn, e4, _, _, hlc, hcm, hel, hget, _, _⟩
    · simp only [List.cons.injEq, and_true] at e4
      subst e4
      exact ⟨[], by rw [Kids]; exact ⟨_, _, rfl⟩, by simp, by rw [Ex.Oks]; trivial⟩
    · simp only [List.cons.injEq, and_true] at e4
      subst e4
      rw [show Try.prog.cellsOf 72 = 5 by kernel_rfl] at hget
      have hex : ∀ i, i < len → ∃ t : Ex.T, t.Ok ∧ ∃ v, (W.cell? ((a.add (i * 5)).add 0) = some (.int .i64 t.kind) ∧ W.cell? ((a.add (i * 5)).add 1) = some (.string t.text) ∧ W.cell? ((a.add (i * 5)).add 2) = some (.int .i64 t.num) ∧ W.cell? ((a.add (i * 5)).add 3) = some (.int .i64 t.line)) ∧ W.cell? ((a.add (i * 5)).add 4) = some v ∧ Kids W v t.kids := by
        intro i hi
        have hg := hget i hi
        rw [List.getElem?_eq_getElem (by omega)] at hg
        obtain ⟨cs', hc, ht⟩ := Option.bind_eq_some_iff.1 hg
        obtain ⟨_, hcl, hcc⟩ := World.cells?_some hc
        obtain ⟨t, v, rfl, hk, hok⟩ := ih n2 (by omega) _ _ ht
        exact ⟨t, hok, v, ⟨hcc 0 (by omega), hcc 1 (by omega), hcc 2 (by omega), hcc 3 (by omega)⟩, hcc 4 (by omega), hk⟩
      obtain ⟨T, hT⟩ := choose_lt hex
      refine ⟨(List.range len).map T, ?_, by simp; unfold maxLen at hcm; omega, oks_of fun x hx => ?_⟩
      · by_cases h0 : len = 0
        · subst h0; rw [List.range_zero, List.map_nil, Kids]; exact ⟨_, _, rfl⟩
        · obtain ⟨b, o, sp⟩ := a
          have hsp : sp = none := by
            have := World.cell?_spot (hT 0 (by omega)).2.choose_spec.1.1
            simpa [Addr.add] using this
          subst hsp
          have hkd : Kids W (.slice (some ⟨b, o, none⟩) ((List.range len).map T).length cap) ((List.range len).map T) := by
            refine kids_of fun i hi => ?_
            rw [List.length_map, List.length_range] at hi
            obtain ⟨_, v, ⟨c0, c1, c2, c3⟩, c4, hk⟩ := hT i hi
            have e : ∀ j, ((⟨b, o, none⟩ : Addr).add (i * 5)).add j = ⟨b, o + i * 5 + j, none⟩ := fun j => by rw [addr_add, addr_add]
            rw [e] at c0 c1 c2 c3 c4
            rw [List.getElem_map, List.getElem_range]
            exact tree_of ⟨c0, c1, c2, c3⟩ c4 hk
          rw [List.length_map, List.length_range] at hkd
          exact hkd
      · obtain ⟨i, hi, rfl⟩ := List.mem_map.1 hx
        exact (hT i (List.mem_range.1 hi)).1
end Go.Proofs.Ytfachlcahainhaa
