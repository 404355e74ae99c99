/- A tree that came in. No conditions. -/
import Derived.Test.YtpncmahpcccmlaaDoorG9
import Derived.Test.YtpncmahpcccmlaaDoorH2
import Derived.Deep.Fields
import Derived.Lib.SmallJoins
namespace Go.Proofs.YtpncmahpcccmlaaDoor.Cr
open Go.RowKit Go.Joins
open Go.Deep (hone_of choose_lt oneCellFields)
set_option linter.unusedVariables false

theorem one_cell {H : Type} {enc : TypeId × Value → H} {W : World} {base n : Nat} {spare : Nat → Bool} {held : Bool} {fs : Array Field} (hone : oneCellFields Tryd.prog fs = true) {cs : List Value} (hl : cs.length = 6) {xs : List (DataW H × List MemPlace)} (hlen : xs.length = fs.size)
    (hf : ∀ (i : Nat) (f : Field), fs[i]? = some f → DataW.trod enc Tryd.prog W base spare held n f.type ((cs.drop f.offset).take (Tryd.prog.cellsOf f.type)) = xs[i]?) (i : Nat) (hi : i < 6) (f : Field) (hfi : fs[i]? = some f) : ∃ y, DataW.trod enc Tryd.prog W base spare held n f.type [cs[i]] = some y := by
  obtain ⟨o, k⟩ := hone_of hone i f hfi
  have h := hf i f hfi
  rw [o, k] at h
  have hx : i < xs.length := by rw [hlen]; exact (Array.getElem?_eq_some_iff.1 hfi).1
  rw [List.getElem?_eq_getElem hx, List.drop_eq_getElem_cons (by omega)] at h
  exact ⟨_, h⟩
theorem list6 {α : Type} {l : List α} (h : l.length = 6) : ∃ a b c d e f, l = [a, b, c, d, e, f] := by
  match l, h with
  | [a, b, c, d, e, f], _ => exact ⟨a, b, c, d, e, f, rfl⟩
instance : Inhabited Co.T := ⟨.node 0 0 0 0 ByteArray.empty []⟩
theorem oks_of : ∀ {l : List Co.T}, (∀ x ∈ l, x.Ok) → Co.Oks l := by
  intro l
  induction l with
  | nil => intro _; rw [Co.Oks]; trivial
  | cons x r ih => intro h; rw [Co.Oks]; exact ⟨h x List.mem_cons_self, ih fun y hy => h y (List.mem_cons_of_mem _ hy)⟩
theorem open_tree {H : Type} {enc : TypeId × Value → H} {W : World} {spare : Nat → Bool} {held : Bool} : ∀ (fuel : Nat) (cs : List Value) (x : DataW H × List MemPlace), DataW.trod enc Tryd.prog W 0 spare held fuel 52 cs = some x →
    ∃ (t : Co.T) (v : Value), cs = [.int .i64 t.kind, .int .i64 t.op, .int .i64 t.num, .int .i64 t.line, .string t.text, v] ∧ Kids W v t.kids ∧ t.Ok := by
  intro fuel
  induction fuel using Nat.strongRecOn with
  | _ fuel ih =>
    intro cs x h
    obtain ⟨xs, n, rfl, _, hl, hlen, hf⟩ := DataW.trod_struct Tryd.underlying52 h
    rw [show Tryd.prog.cellsOf 52 = 6 by kernel_rfl] at hl
    have hone := one_cell (H := H) (by kernel_rfl) hl hlen hf
    obtain ⟨y0, h0⟩ := hone 0 (by omega) _ rfl
    obtain ⟨y1, h1⟩ := hone 1 (by omega) _ rfl
    obtain ⟨y2, h2⟩ := hone 2 (by omega) _ rfl
    obtain ⟨y3, h3⟩ := hone 3 (by omega) _ rfl
    obtain ⟨y4, h4⟩ := hone 4 (by omega) _ rfl
    obtain ⟨y5, h5⟩ := hone 5 (by omega) _ rfl
    clear hone hf hlen
    obtain ⟨c0, c1, c2, c3, c4, c5, rfl⟩ := list6 hl
    simp only [List.getElem_cons_zero, List.getElem_cons_succ] at h0 h1 h2 h3 h4 h5
    obtain ⟨k, e0, _, w0⟩ := DataW.trod_int Tryd.underlying3 h0
    obtain ⟨p, e1, _, w1⟩ := DataW.trod_int Tryd.underlying3 h1
    obtain ⟨m, e2, _, w2⟩ := DataW.trod_int Tryd.underlying3 h2
    obtain ⟨l, e3, _, w3⟩ := DataW.trod_int Tryd.underlying3 h3
    obtain ⟨s, e4, _, w4⟩ := DataW.trod_string Tryd.underlying9 h4
    simp only [List.cons.injEq, and_true] at e0 e1 e2 e3 e4
    subst e0 e1 e2 e3 e4
    have w4b : s.size ≤ 9223372036854775807 := by unfold maxLen at w4; omega
    suffices hk : ∃ ks : List Co.T, Kids W c5 ks ∧ ks.length ≤ 9223372036854775807 ∧ Co.Oks ks by
      obtain ⟨ks, hk, hkl, hok⟩ := hk
      refine ⟨.node k p m l s ks, c5, rfl, hk, ?_⟩
      rw [Co.T.Ok]
      exact ⟨wf_int w0, wf_int w1, wf_int w2, wf_int w3, ⟨w4b, hkl⟩, hok⟩
    rcases DataW.trod_slice Tryd.underlying50 h5 with ⟨e5, _⟩ | ⟨a, len, cap, elems, rest, n2, hn, e5, _, _, hlc, hcm, hel, hget, _, _⟩
    · simp only [List.cons.injEq, and_true] at e5
      subst e5
      exact ⟨[], by rw [Kids]; exact ⟨_, _, rfl⟩, by simp, by rw [Co.Oks]; trivial⟩
    · simp only [List.cons.injEq, and_true] at e5
      subst e5
      rw [show Tryd.prog.cellsOf 52 = 6 by kernel_rfl] at hget
      have hex : ∀ i, i < len → ∃ t : Co.T, t.Ok ∧ ∃ v, (W.cell? ((a.add (i * 6)).add 0) = some (.int .i64 t.kind) ∧ W.cell? ((a.add (i * 6)).add 1) = some (.int .i64 t.op) ∧ W.cell? ((a.add (i * 6)).add 2) = some (.int .i64 t.num) ∧ W.cell? ((a.add (i * 6)).add 3) = some (.int .i64 t.line) ∧ W.cell? ((a.add (i * 6)).add 4) = some (.string t.text)) ∧ W.cell? ((a.add (i * 6)).add 5) = some v ∧ Kids W v t.kids := by
        intro i hi
        have hg := hget i hi
        rw [List.getElem?_eq_getElem (by omega)] at hg
        obtain ⟨cs', hc, ht⟩ := Option.bind_eq_some_iff.1 hg
        obtain ⟨_, hcl, hcc⟩ := World.cells?_some hc
        obtain ⟨t, v, rfl, hk, hok⟩ := ih n2 (by omega) _ _ ht
        exact ⟨t, hok, v, ⟨hcc 0 (by omega), hcc 1 (by omega), hcc 2 (by omega), hcc 3 (by omega), hcc 4 (by omega)⟩, hcc 5 (by omega), hk⟩
      obtain ⟨T, hT⟩ := choose_lt hex
      refine ⟨(List.range len).map T, ?_, by simp; unfold maxLen at hcm; omega, oks_of fun x hx => ?_⟩
      · by_cases h0 : len = 0
        · subst h0; rw [List.range_zero, List.map_nil, Kids]; exact ⟨_, _, rfl⟩
        · obtain ⟨b, o, sp⟩ := a
          have hsp : sp = none := by
            have := World.cell?_spot (hT 0 (by omega)).2.choose_spec.1.1
            simpa [Addr.add] using this
          subst hsp
          have hkd : Kids W (.slice (some ⟨b, o, none⟩) ((List.range len).map T).length cap) ((List.range len).map T) := by
            refine kids_of (by rw [List.length_map, List.length_range]; exact hlc) fun i hi => ?_
            rw [List.length_map, List.length_range] at hi
            obtain ⟨_, v, ⟨c0, c1, c2, c3, c4⟩, c5, hk⟩ := hT i hi
            have e : ∀ j, ((⟨b, o, none⟩ : Addr).add (i * 6)).add j = ⟨b, o + i * 6 + j, none⟩ := fun j => by rw [addr_add, addr_add]
            rw [e] at c0 c1 c2 c3 c4 c5
            rw [List.getElem_map, List.getElem_range]
            exact tree_of ⟨c0, c1, c2, c3, c4⟩ c5 hk
          rw [List.length_map, List.length_range] at hkd
          exact hkd
      · obtain ⟨i, hi, rfl⟩ := List.mem_map.1 hx
        exact (hT i (List.mem_range.1 hi)).1
end Go.Proofs.YtpncmahpcccmlaaDoor.Cr
