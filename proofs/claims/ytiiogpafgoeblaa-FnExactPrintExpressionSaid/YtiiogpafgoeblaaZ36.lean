/- Joined texts: G8, Y20, G9. No conditions besides those that each states. -/
import Derived.Deep.Fields
import Derived.Lib.SmallJoins
import Derived.Test.YtiiogpafgoeblaaZ7
import Derived.Test.YtiiogpafgoeblaaZ8
import Derived.Test.YtiiogpafgoeblaaZ34
import Derived.Test.YtiiogpafgoeblaaZ35
/- The walks of the laws on numbers of nodes and depths, from contracts of the program's functions. No conditions. -/
namespace Go.Proofs.Ytiiogpafgoeblaa
open Go.RowKit
set_option linter.unusedVariables false

end Go.Proofs.Ytiiogpafgoeblaa
/- The walk of the law on PrintExpression. No conditions. -/
namespace Go.Proofs.Ytiiogpafgoeblaa
open Go.RowKit
set_option linter.unusedVariables false

set_option maxHeartbeats 1600000 in
theorem print_law (hI : ∀ (t : Ex.T), t.bulk ≤ 1048576 → ∀ (w : World) (v : Value), Kids w v t.kids → Calls Try.prog 15 #[exV t v] w (RetP w (prS t) (prB t)))
    (t : Ex.T) (v : Value) (hok : t.Ok) (w : World) (hk : Kids w v t.kids) : Calls Try.prog 4 #[exV t v] w fun e w' => e = .returned (.bool true) ∧ Below w.heap.size w w' := by
  have HSZ := Lib.hid (fun W hW => sz_tree _ t (Nat.le_refl _) hok W v 1048576 (hk.later hW) (by decide))
  by_cases hb : t.bulk ≤ 1048576
  · rw [szR_yes hb] at HSZ
    have hl0 : ((1048576 - t.bulk : Nat) : Int) < 0 → False := by omega
    have HTO := Lib.hid (fun W hW => to_tree _ t (Nat.le_refl _) hb W v (hk.later hW))
    unfold RetE at HTO
    have HEQ := Lib.hid (fun W v1 v2 h1 h2 => eq_tree _ t (Nat.le_refl _) hb W v1 v2 h1 h2)
    have HSP := Lib.hid (fun W v1 h1 => spec_print t hb W v1 h1)
    have HIM := Lib.hid (fun W v1 h1 => hI t hb W v1 h1)
    unfold RetP at HSP HIM
    generalize prS t = rs at HSP HIM
    generalize prB t = rv at HSP HIM
    have hl1 : decide (((1048576 - t.bulk : Nat) : Int) < 0) = false := decide_eq_false (by omega)
    generalize ((1048576 - t.bulk : Nat) : Int) = left at HSZ hl1
    obtain ⟨a, c, rfl⟩ := kids_len hk
    have HV0 := Lib.hid (CellsE.new w t (.slice a t.kids.length c) 39)
    clear hI hok hk hb hl0
    go_enter Try.func4, Try.ntmps4
    go_wp2_with fail
    refine (HSZ.out _ (bl1 _ _)).mono ?_
    rintro e w1 ⟨rfl, b1⟩
    have B1 := Lib.hid (below_then (bl1 _ _) b1)
    have V1 := Lib.hid (HV0.out.later b1)
    obtain ⟨e0, e1, e2, e3, e4⟩ := V1.out
    clear b1
    go_wp2_with fail
    refine (HTO.out _ B1.out).mono ?_
    rintro e w2 ⟨v2, F2, rfl, o2, f2, b2⟩
    obtain ⟨z2, d2, rfl⟩ := kids_len (OwnK.kids _ o2)
    have K2 := Lib.hid (OwnK.kids _ o2)
    have B2 := Lib.hid (below_then B1.out b2)
    have V2 := Lib.hid (V1.out.later b2)
    clear e0 e1 e2 e3 e4 o2 f2 b2
    go_wp2_with fail
    refine (HSP.out _ _ K2.out).mono ?_
    rintro e w3 ⟨rfl, b3⟩
    have B3 := Lib.hid (below_then B2.out b3)
    have V3 := Lib.hid (V2.out.later b3)
    obtain ⟨e0, e1, e2, e3, e4⟩ := V3.out
    clear b3 K2
    go_wp2_with fail
    refine (HTO.out _ B3.out).mono ?_
    rintro e w4 ⟨v4, F4, rfl, o4, f4, b4⟩
    obtain ⟨z4, d4, rfl⟩ := kids_len (OwnK.kids _ o4)
    have K4 := Lib.hid (Kids.later (OwnK.kids _ o4) (bl1 w4 (.cells #[.int .i64 t.kind, .string t.text, .int .i64 t.num, .int .i64 t.line, .slice z4 t.kids.length d4] 45)))
    have B4 := Lib.hid (below_then (below_then B3.out b4) (bl1 w4 (.cells #[.int .i64 t.kind, .string t.text, .int .i64 t.num, .int .i64 t.line, .slice z4 t.kids.length d4] 45)))
    have V4 := Lib.hid ((V3.out.later b4).later (bl1 w4 (.cells #[.int .i64 t.kind, .string t.text, .int .i64 t.num, .int .i64 t.line, .slice z4 t.kids.length d4] 45)))
    have X4 := Lib.hid (CellsE.new w4 t (.slice z4 t.kids.length d4) 45)
    clear e0 e1 e2 e3 e4 o4 f4 b4
    go_wp2_with fail
    refine (HIM.out _ _ K4.out).mono ?_
    rintro e w5 ⟨rfl, b5⟩
    have B5 := Lib.hid (below_then B4.out b5)
    have V5 := Lib.hid (V4.out.later b5)
    have X5 := Lib.hid (X4.out.later b5)
    have K5 := Lib.hid (K4.out.later b5)
    obtain ⟨e0, e1, e2, e3, e4⟩ := V5.out
    obtain ⟨x0, x1, x2, x3, x4⟩ := X5.out
    clear b5 K4 V4 X4 V3 V2 V1
    go_wp2_with fail
    go_region_with (first | (go_at_call 14; refine (HTO.out _ B5.out.drew).mono ?_; rintro e w6 ⟨v6, F6, rfl, o6, f6, b6⟩; obtain ⟨z6, d6, rfl⟩ := kids_len (OwnK.kids _ o6); have K6 := Lib.hid (OwnK.kids _ o6); have B6 := Lib.hid (below_then B5.out.drew b6); have L6 := Lib.hid (K5.out.later (w' := w6) ⟨b6.os, b6.tape, b6.output, b6.size, b6.block⟩); obtain ⟨y0, y1, y2, y3, y4⟩ := X5.out.later (w' := w6) ⟨b6.os, b6.tape, b6.output, b6.size, b6.block⟩; clear o6 f6 b6) | (go_at_call 16; refine (HEQ.out _ _ _ L6.out K6.out).mono ?_; rintro e w7 ⟨rfl, b7⟩; have B7 := Lib.hid (below_then B6.out b7); clear b7))
    all_goals go_wp2
    all_goals go_ret
    all_goals exact ⟨rfl, B7.out⟩
  · rw [szR_no hb] at HSZ
    clear hI hok hb
    obtain ⟨a, c, rfl⟩ := kids_len hk
    clear hk
    go_enter Try.func4, Try.ntmps4
    go_wp2_with fail
    refine (HSZ.out _ (bl1 _ _)).mono ?_
    rintro e w1 ⟨rfl, b1⟩
    have B1 := Lib.hid (below_then (bl1 _ _) b1)
    clear b1
    go_wp2
    go_ret
    exact ⟨rfl, B1.out⟩
theorem FnExactPrintExpression_walk (t : Ex.T) (v : Value) (hok : t.Ok) (w : World) (hk : Kids w v t.kids) : Calls Try.prog 4 #[exV t v] w fun e w' => e = .returned (.bool true) ∧ Below w.heap.size w w' :=
  print_law impl_print t v hok w hk
end Go.Proofs.Ytiiogpafgoeblaa
/- A tree that came in. No conditions. -/
namespace Go.Proofs.Ytiiogpafgoeblaa
open Go.RowKit Go.Joins
open Go.Deep (hone_of choose_lt oneCellFields)
set_option linter.unusedVariables false

theorem one_cell {H : Type} {enc : TypeId × Value → H} {W : World} {base n : Nat} {spare : Nat → Bool} {held : Bool} {fs : Array Field} (hone : oneCellFields Try.prog fs = true) {cs : List Value} (hl : cs.length = 5) {xs : List (DataW H × List MemPlace)} (hlen : xs.length = fs.size)
    (hf : ∀ (i : Nat) (f : Field), fs[i]? = some f → DataW.trod enc Try.prog W base spare held n f.type ((cs.drop f.offset).take (Try.prog.cellsOf f.type)) = xs[i]?) (i : Nat) (hi : i < 5) (f : Field) (hfi : fs[i]? = some f) : ∃ y, DataW.trod enc Try.prog W base spare held n f.type [cs[i]] = some y := by
  obtain ⟨o, k⟩ := hone_of hone i f hfi
  have h := hf i f hfi
  rw [o, k] at h
  have hx : i < xs.length := by rw [hlen]; exact (Array.getElem?_eq_some_iff.1 hfi).1
  rw [List.getElem?_eq_getElem hx, List.drop_eq_getElem_cons (by omega)] at h
  exact ⟨_, h⟩
theorem addr_add (g o i : Nat) : (⟨g, o, none⟩ : Addr).add i = ⟨g, o + i, none⟩ := by
  unfold Addr.add; split <;> simp_all
theorem list5 {α : Type} {l : List α} (h : l.length = 5) : ∃ a b c d e, l = [a, b, c, d, e] := by
  match l, h with
  | [a, b, c, d, e], _ => exact ⟨a, b, c, d, e, rfl⟩
theorem wf_int {n : Int} (h : (Lit.int .i64 n).wf = true) : -9223372036854775808 ≤ n ∧ n ≤ 9223372036854775807 := by
  simpa [Lit.wf, IntKind.min, IntKind.max, IntKind.signed, IntKind.bits] using h
instance : Inhabited Ex.T := ⟨.node 0 ByteArray.empty 0 0 []⟩
theorem oks_of : ∀ {l : List Ex.T}, (∀ x ∈ l, x.Ok) → Ex.Oks l := by
  intro l
  induction l with
  | nil => intro _; rw [Ex.Oks]; trivial
  | cons x r ih => intro h; rw [Ex.Oks]; exact ⟨h x List.mem_cons_self, ih fun y hy => h y (List.mem_cons_of_mem _ hy)⟩
theorem open_tree {H : Type} {enc : TypeId × Value → H} {W : World} {spare : Nat → Bool} {held : Bool} : ∀ (fuel : Nat) (cs : List Value) (x : DataW H × List MemPlace), DataW.trod enc Try.prog W 0 spare held fuel 39 cs = some x →
    ∃ (t : Ex.T) (v : Value), cs = [.int .i64 t.kind, .string t.text, .int .i64 t.num, .int .i64 t.line, v] ∧ Kids W v t.kids ∧ t.Ok := by
  intro fuel
  induction fuel using Nat.strongRecOn with
  | _ fuel ih =>
    intro cs x h
    obtain ⟨xs, n, rfl, _, hl, hlen, hf⟩ := DataW.trod_struct Try.underlying39 h
    rw [show Try.prog.cellsOf 39 = 5 by kernel_rfl] at hl
    have hone := one_cell (H := H) (by kernel_rfl) hl hlen hf
    obtain ⟨y0, h0⟩ := hone 0 (by omega) _ rfl
    obtain ⟨y1, h1⟩ := hone 1 (by omega) _ rfl
    obtain ⟨y2, h2⟩ := hone 2 (by omega) _ rfl
    obtain ⟨y3, h3⟩ := hone 3 (by omega) _ rfl
    obtain ⟨y4, h4⟩ := hone 4 (by omega) _ rfl
    clear hone hf hlen
    obtain ⟨c0, c1, c2, c3, c4, rfl⟩ := list5 hl
    simp only [List.getElem_cons_zero, List.getElem_cons_succ] at h0 h1 h2 h3 h4
    obtain ⟨k, e0, _, w0⟩ := DataW.trod_int Try.underlying3 h0
    obtain ⟨s, e1, _, w1⟩ := DataW.trod_string Try.underlying9 h1
    obtain ⟨m, e2, _, w2⟩ := DataW.trod_int Try.underlying3 h2
    obtain ⟨l, e3, _, w3⟩ := DataW.trod_int Try.underlying3 h3
    simp only [List.cons.injEq, and_true] at e0 e1 e2 e3
    subst e0 e1 e2 e3
    have w1b : s.size ≤ 9223372036854775807 := by unfold maxLen at w1; omega
    suffices hk : ∃ ks : List Ex.T, Kids W c4 ks ∧ ks.length ≤ 9223372036854775807 ∧ Ex.Oks ks by
      obtain ⟨ks, hk, hkl, hok⟩ := hk
      refine ⟨.node k s m l ks, c4, rfl, hk, ?_⟩
      rw [Ex.T.Ok]
      exact ⟨wf_int w0, wf_int w2, wf_int w3, ⟨w1b, hkl⟩, hok⟩
    rcases DataW.trod_slice Try.underlying37 h4 with ⟨e4, _⟩ | ⟨a, len, cap, elems, rest, n2, hn, e4, _, _, hlc, hcm, hel, hget, _, _⟩
    · simp only [List.cons.injEq, and_true] at e4
      subst e4
      exact ⟨[], by rw [Kids]; exact ⟨_, _, rfl⟩, by simp, by rw [Ex.Oks]; trivial⟩
    · simp only [List.cons.injEq, and_true] at e4
      subst e4
      rw [show Try.prog.cellsOf 39 = 5 by kernel_rfl] at hget
      have hex : ∀ i, i < len → ∃ t : Ex.T, t.Ok ∧ ∃ v, (W.cell? ((a.add (i * 5)).add 0) = some (.int .i64 t.kind) ∧ W.cell? ((a.add (i * 5)).add 1) = some (.string t.text) ∧ W.cell? ((a.add (i * 5)).add 2) = some (.int .i64 t.num) ∧ W.cell? ((a.add (i * 5)).add 3) = some (.int .i64 t.line)) ∧ W.cell? ((a.add (i * 5)).add 4) = some v ∧ Kids W v t.kids := by
        intro i hi
        have hg := hget i hi
        rw [List.getElem?_eq_getElem (by omega)] at hg
        obtain ⟨cs', hc, ht⟩ := Option.bind_eq_some_iff.1 hg
        obtain ⟨_, hcl, hcc⟩ := World.cells?_some hc
        obtain ⟨t, v, rfl, hk, hok⟩ := ih n2 (by omega) _ _ ht
        exact ⟨t, hok, v, ⟨hcc 0 (by omega), hcc 1 (by omega), hcc 2 (by omega), hcc 3 (by omega)⟩, hcc 4 (by omega), hk⟩
      obtain ⟨T, hT⟩ := choose_lt hex
      refine ⟨(List.range len).map T, ?_, by simp; unfold maxLen at hcm; omega, oks_of fun x hx => ?_⟩
      · by_cases h0 : len = 0
        · subst h0; rw [List.range_zero, List.map_nil, Kids]; exact ⟨_, _, rfl⟩
        · obtain ⟨b, o, sp⟩ := a
          have hsp : sp = none := by
            have := World.cell?_spot (hT 0 (by omega)).2.choose_spec.1.1
            simpa [Addr.add] using this
          subst hsp
          have hkd : Kids W (.slice (some ⟨b, o, none⟩) ((List.range len).map T).length cap) ((List.range len).map T) := by
            refine kids_of (by rw [List.length_map, List.length_range]; exact hlc) fun i hi => ?_
            rw [List.length_map, List.length_range] at hi
            obtain ⟨_, v, ⟨c0, c1, c2, c3⟩, c4, hk⟩ := hT i hi
            have e : ∀ j, ((⟨b, o, none⟩ : Addr).add (i * 5)).add j = ⟨b, o + i * 5 + j, none⟩ := fun j => by rw [addr_add, addr_add]
            rw [e] at c0 c1 c2 c3 c4
            rw [List.getElem_map, List.getElem_range]
            exact tree_of ⟨c0, c1, c2, c3⟩ c4 hk
          rw [List.length_map, List.length_range] at hkd
          exact hkd
      · obtain ⟨i, hi, rfl⟩ := List.mem_map.1 hx
        exact (hT i (List.mem_range.1 hi)).1
end Go.Proofs.Ytiiogpafgoeblaa
