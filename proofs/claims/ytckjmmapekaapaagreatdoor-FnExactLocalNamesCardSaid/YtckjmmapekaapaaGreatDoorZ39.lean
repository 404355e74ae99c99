/- Joined texts: R0, N26, G9, U10, U18. No conditions besides those that each states. -/
import Derived.Test.YtckjmmapekaapaaGreatDoorShelf
import Derived.Deep.Fields
import Derived.Lib.SmallJoins
import Derived.Test.YtckjmmapekaapaaGreatDoorZ7
import Derived.Test.YtckjmmapekaapaaGreatDoorZ11
import Derived.Test.YtckjmmapekaapaaGreatDoorZ14
import Derived.Test.YtckjmmapekaapaaGreatDoorZ31
/- strings.Clone: the string itself. -/
namespace Go.Proofs.YtckjmmapekaapaaGreatDoor
open Go.RowKit
set_option linter.unusedVariables false

theorem clone8 (s : ByteArray) (w : World) (h : (s.size : Int) ≤ 1048576) :
    Calls Tryz.prog 48 #[.string s] w fun e w' => e = .returned (.string s) ∧ Below w.heap.size w w' := by
  have HC := Lib.hid (fun W => Tryz.stringslite_Clone s W (by omega))
  go_enter Tryz.func48, Tryz.ntmps48
  go_wp2_with (go_at_call 73; refine (HC.out _).mono ?_; rintro e w1 ⟨rfl, b1⟩)
  go_ret
  exact ⟨rfl, b1⟩
end Go.Proofs.YtckjmmapekaapaaGreatDoor
/- EraseLines of the program. No conditions. -/
namespace Go.Proofs.YtckjmmapekaapaaGreatDoor
open Go.RowKit Go.Shelf
set_option linter.unusedVariables false
attribute [local go_sem] Oper.semAt_some

theorem set_cell_other (W : World) (g o j : Nat) (u : Value) (h : o ≠ j) : (W.setCell ⟨g, o, none⟩ u).cell? ⟨g, j, none⟩ = W.cell? ⟨g, j, none⟩ := by
  have : ¬ j = o := fun e => h e.symm
  go_simp
theorem set_size_n (W : World) (g o : Nat) (u : Value) : (W.setCell ⟨g, o, none⟩ u).heap.size = W.heap.size := by simp [World.setCell]
end Go.Proofs.YtckjmmapekaapaaGreatDoor
/- A tree that came in. No conditions. -/
namespace Go.Proofs.YtckjmmapekaapaaGreatDoor
open Go.RowKit Go.Joins
open Go.Deep (hone_of choose_lt oneCellFields)
set_option linter.unusedVariables false

theorem one_cell {H : Type} {enc : TypeId × Value → H} {W : World} {base n : Nat} {spare : Nat → Bool} {held : Bool} {fs : Array Field} (hone : oneCellFields Tryz.prog fs = true) {cs : List Value} (hl : cs.length = 5) {xs : List (DataW H × List MemPlace)} (hlen : xs.length = fs.size)
    (hf : ∀ (i : Nat) (f : Field), fs[i]? = some f → DataW.trod enc Tryz.prog W base spare held n f.type ((cs.drop f.offset).take (Tryz.prog.cellsOf f.type)) = xs[i]?) (i : Nat) (hi : i < 5) (f : Field) (hfi : fs[i]? = some f) : ∃ y, DataW.trod enc Tryz.prog W base spare held n f.type [cs[i]] = some y := by
  obtain ⟨o, k⟩ := hone_of hone i f hfi
  have h := hf i f hfi
  rw [o, k] at h
  have hx : i < xs.length := by rw [hlen]; exact (Array.getElem?_eq_some_iff.1 hfi).1
  rw [List.getElem?_eq_getElem hx, List.drop_eq_getElem_cons (by omega)] at h
  exact ⟨_, h⟩
theorem addr_add (g o i : Nat) : (⟨g, o, none⟩ : Addr).add i = ⟨g, o + i, none⟩ := by
  unfold Addr.add; split <;> simp_all
theorem list5 {α : Type} {l : List α} (h : l.length = 5) : ∃ a b c d e, l = [a, b, c, d, e] := by
  match l, h with
  | [a, b, c, d, e], _ => exact ⟨a, b, c, d, e, rfl⟩
theorem wf_int {n : Int} (h : (Lit.int .i64 n).wf = true) : -9223372036854775808 ≤ n ∧ n ≤ 9223372036854775807 := by
  simpa [Lit.wf, IntKind.min, IntKind.max, IntKind.signed, IntKind.bits] using h
instance : Inhabited Ex.T := ⟨.node 0 ByteArray.empty 0 0 []⟩
theorem oks_of : ∀ {l : List Ex.T}, (∀ x ∈ l, x.Ok) → Ex.Oks l := by
  intro l
  induction l with
  | nil => intro _; rw [Ex.Oks]; trivial
  | cons x r ih => intro h; rw [Ex.Oks]; exact ⟨h x List.mem_cons_self, ih fun y hy => h y (List.mem_cons_of_mem _ hy)⟩
theorem open_tree {H : Type} {enc : TypeId × Value → H} {W : World} {spare : Nat → Bool} {held : Bool} : ∀ (fuel : Nat) (cs : List Value) (x : DataW H × List MemPlace), DataW.trod enc Tryz.prog W 0 spare held fuel 81 cs = some x →
    ∃ (t : Ex.T) (v : Value), cs = [.int .i64 t.kind, .string t.text, .int .i64 t.num, .int .i64 t.line, v] ∧ Kids W v t.kids ∧ t.Ok := by
  intro fuel
  induction fuel using Nat.strongRecOn with
  | _ fuel ih =>
    intro cs x h
    obtain ⟨xs, n, rfl, _, hl, hlen, hf⟩ := DataW.trod_struct Tryz.underlying81 h
    rw [show Tryz.prog.cellsOf 81 = 5 by kernel_rfl] at hl
    have hone := one_cell (H := H) (by kernel_rfl) hl hlen hf
    obtain ⟨y0, h0⟩ := hone 0 (by omega) _ rfl
    obtain ⟨y1, h1⟩ := hone 1 (by omega) _ rfl
    obtain ⟨y2, h2⟩ := hone 2 (by omega) _ rfl
    obtain ⟨y3, h3⟩ := hone 3 (by omega) _ rfl
    obtain ⟨y4, h4⟩ := hone 4 (by omega) _ rfl
    clear hone hf hlen
    obtain ⟨c0, c1, c2, c3, c4, rfl⟩ := list5 hl
    simp only [List.getElem_cons_zero, List.getElem_cons_succ] at h0 h1 h2 h3 h4
    obtain ⟨k, e0, _, w0⟩ := DataW.trod_int Tryz.underlying3 h0
    obtain ⟨s, e1, _, w1⟩ := DataW.trod_string Tryz.underlying9 h1
    obtain ⟨m, e2, _, w2⟩ := DataW.trod_int Tryz.underlying3 h2
    obtain ⟨l, e3, _, w3⟩ := DataW.trod_int Tryz.underlying3 h3
    simp only [List.cons.injEq, and_true] at e0 e1 e2 e3
    subst e0 e1 e2 e3
    have w1b : s.size ≤ 9223372036854775807 := by unfold maxLen at w1; omega
    suffices hk : ∃ ks : List Ex.T, Kids W c4 ks ∧ ks.length ≤ 9223372036854775807 ∧ Ex.Oks ks by
      obtain ⟨ks, hk, hkl, hok⟩ := hk
      refine ⟨.node k s m l ks, c4, rfl, hk, ?_⟩
      rw [Ex.T.Ok]
      exact ⟨wf_int w0, wf_int w2, wf_int w3, ⟨w1b, hkl⟩, hok⟩
    rcases DataW.trod_slice Tryz.underlying79 h4 with ⟨e4, _⟩ | ⟨a, len, cap, elems, rest, n2, hn, e4, _, _, hlc, hcm, hel, hget, _, _⟩
    · simp only [List.cons.injEq, and_true] at e4
      subst e4
      exact ⟨[], by rw [Kids]; exact ⟨_, _, rfl⟩, by simp, by rw [Ex.Oks]; trivial⟩
    · simp only [List.cons.injEq, and_true] at e4
      subst e4
      rw [show Tryz.prog.cellsOf 81 = 5 by kernel_rfl] at hget
      have hex : ∀ i, i < len → ∃ t : Ex.T, t.Ok ∧ ∃ v, (W.cell? ((a.add (i * 5)).add 0) = some (.int .i64 t.kind) ∧ W.cell? ((a.add (i * 5)).add 1) = some (.string t.text) ∧ W.cell? ((a.add (i * 5)).add 2) = some (.int .i64 t.num) ∧ W.cell? ((a.add (i * 5)).add 3) = some (.int .i64 t.line)) ∧ W.cell? ((a.add (i * 5)).add 4) = some v ∧ Kids W v t.kids := by
        intro i hi
        have hg := hget i hi
        rw [List.getElem?_eq_getElem (by omega)] at hg
        obtain ⟨cs', hc, ht⟩ := Option.bind_eq_some_iff.1 hg
        obtain ⟨_, hcl, hcc⟩ := World.cells?_some hc
        obtain ⟨t, v, rfl, hk, hok⟩ := ih n2 (by omega) _ _ ht
        exact ⟨t, hok, v, ⟨hcc 0 (by omega), hcc 1 (by omega), hcc 2 (by omega), hcc 3 (by omega)⟩, hcc 4 (by omega), hk⟩
      obtain ⟨T, hT⟩ := choose_lt hex
      refine ⟨(List.range len).map T, ?_, by simp; unfold maxLen at hcm; omega, oks_of fun x hx => ?_⟩
      · by_cases h0 : len = 0
        · subst h0; rw [List.range_zero, List.map_nil, Kids]; exact ⟨_, _, rfl⟩
        · obtain ⟨b, o, sp⟩ := a
          have hsp : sp = none := by
            have := World.cell?_spot (hT 0 (by omega)).2.choose_spec.1.1
            simpa [Addr.add] using this
          subst hsp
          have hkd : Kids W (.slice (some ⟨b, o, none⟩) ((List.range len).map T).length cap) ((List.range len).map T) := by
            refine kids_of (by rw [List.length_map, List.length_range]; exact hlc) fun i hi => ?_
            rw [List.length_map, List.length_range] at hi
            obtain ⟨_, v, ⟨c0, c1, c2, c3⟩, c4, hk⟩ := hT i hi
            have e : ∀ j, ((⟨b, o, none⟩ : Addr).add (i * 5)).add j = ⟨b, o + i * 5 + j, none⟩ := fun j => by rw [addr_add, addr_add]
            rw [e] at c0 c1 c2 c3 c4
            rw [List.getElem_map, List.getElem_range]
            exact tree_of ⟨c0, c1, c2, c3⟩ c4 hk
          rw [List.length_map, List.length_range] at hkd
          exact hkd
      · obtain ⟨i, hi, rfl⟩ := List.mem_map.1 hx
        exact (hT i (List.mem_range.1 hi)).1
end Go.Proofs.YtckjmmapekaapaaGreatDoor
/- A unit that came in. No conditions. -/
namespace Go.Proofs.YtckjmmapekaapaaGreatDoor
open Go.RowKit Go.Joins
open Go.Deep (choose_lt oneCellFields)
set_option linter.unusedVariables false

theorem is_of_kids {w : World} {ks : List Ex.T} {v : Value} (h : Kids w v ks) : Is w (.ex ks) v := by rw [Is]; exact h
/-- Cells that read as data, one after the other. -/
def IsV (W : World) (ds : List D) (cs : List Value) : Prop := ∀ (j : Nat) (d : D), ds[j]? = some d → ∃ u : Value, cs[j]? = some u ∧ Is W d u
/-- A slice of structs that came in, by its elements. -/
theorem open_rows {H : Type} {enc : TypeId × Value → H} {W : World} {spare : Nat → Bool} {held : Bool} {α : Type} [Inhabited α] (f : α → List D) (P : α → Prop) {z : Nat} (hz : ∀ x, (f x).length = z) (hz0 : 0 < z) {S E : TypeId} (hS : Tryz.prog.underlying S = some (.slice E)) (hE : Tryz.prog.cellsOf E = z)
    (he : ∀ (fuel : Nat) (cs : List Value) (x : DataW H × List MemPlace), DataW.trod enc Tryz.prog W 0 spare held fuel E cs = some x → ∃ a : α, P a ∧ IsV W (f a) cs) (fuel : Nat) (v : Value) (x : DataW H × List MemPlace) (h : DataW.trod enc Tryz.prog W 0 spare held fuel S [v] = some x) :
    ∃ l : List α, (∀ a ∈ l, P a) ∧ l.length ≤ maxLen ∧ Is W (.row l.length (l.flatMap f)) v := by
  rcases DataW.trod_slice hS h with ⟨e4, _⟩ | ⟨a, len, cap, elems, rest, n2, hn, e4, _, _, hlc, hcm, hel, hget, _, _⟩
  · simp only [List.cons.injEq, and_true] at e4
    subst e4
    exact ⟨[], (fun a h => by cases h), by simp, by rw [List.flatMap_nil, Is]; exact ⟨_, _, rfl, .inl rfl⟩⟩
  · simp only [List.cons.injEq, and_true] at e4
    subst e4
    rw [hE] at hget
    have hex : ∀ i, i < len → ∃ t : α, P t ∧ ∀ j d, (f t)[j]? = some d → ∃ u, W.cell? ((a.add (i * z)).add j) = some u ∧ Is W d u := by
      intro i hi
      have hg := hget i hi
      rw [List.getElem?_eq_getElem (by omega)] at hg
      obtain ⟨cs', hc, ht⟩ := Option.bind_eq_some_iff.1 hg
      obtain ⟨_, hcl, hcc⟩ := World.cells?_some hc
      obtain ⟨t, hP, hd⟩ := he _ _ _ ht
      refine ⟨t, hP, fun j d hj => ?_⟩
      obtain ⟨u, hu, hI⟩ := hd j d hj
      have hlt : j < cs'.length := (List.getElem?_eq_some_iff.1 hu).1
      exact ⟨u, (hcc j (by omega)).trans hu, hI⟩
    obtain ⟨T, hT⟩ := choose_lt hex
    refine ⟨(List.range len).map T, fun x hx => ?_, by simp; omega, ?_⟩
    · obtain ⟨i, hi, rfl⟩ := List.mem_map.1 hx
      exact (hT i (List.mem_range.1 hi)).1
    · rw [List.length_map, List.length_range, Is]
      refine ⟨_, _, rfl, ?_⟩
      by_cases h0 : len = 0
      · subst h0; exact .inl rfl
      · refine .inr ⟨by omega, ?_⟩
        obtain ⟨b, o, sp⟩ := a
        have hsp : sp = none := by
          obtain ⟨u, hu, _⟩ := (hT 0 (by omega)).2 0 _ (List.getElem?_eq_getElem (by rw [hz]; exact hz0))
          have := World.cell?_spot hu
          simpa [Addr.add] using this
        subst hsp
        refine ⟨b, o, rfl, isAll_of fun p d hp => ?_⟩
        have hlen : (((List.range len).map T).flatMap f).length = len * z := by rw [flat_len f hz, List.length_map, List.length_range]
        have hpl : p < len * z := by rw [← hlen]; exact (List.getElem?_eq_some_iff.1 hp).1
        have hdiv : p / z < len := Nat.div_lt_of_lt_mul (by rw [Nat.mul_comm]; exact hpl)
        have he2 : p = p / z * z + p % z := by rw [Nat.mul_comm]; exact (Nat.div_add_mod p z).symm
        have h1 := flat_at f hz ((List.range len).map T) (p / z) (p % z) (T (p / z)) (by rw [List.getElem?_map, List.getElem?_range hdiv]; rfl) (Nat.mod_lt _ hz0)
        rw [← he2, hp] at h1
        obtain ⟨u, hu, hI⟩ := (hT (p / z) hdiv).2 (p % z) d h1.symm
        rw [addr_add, addr_add, Nat.add_assoc, ← he2] at hu
        exact ⟨u, hu, hI⟩
theorem cells_at {H : Type} {enc : TypeId × Value → H} {W : World} {base n : Nat} {spare : Nat → Bool} {held : Bool} {fs : Array Field} {cs : List Value} {xs : List (DataW H × List MemPlace)} (hlen : xs.length = fs.size)
    (hf : ∀ (i : Nat) (f : Field), fs[i]? = some f → DataW.trod enc Tryz.prog W base spare held n f.type ((cs.drop f.offset).take (Tryz.prog.cellsOf f.type)) = xs[i]?) (i : Nat) (f : Field) (hfi : fs[i]? = some f) : ∃ y, DataW.trod enc Tryz.prog W base spare held n f.type ((cs.drop f.offset).take (Tryz.prog.cellsOf f.type)) = some y := by
  have h := hf i f hfi
  rw [List.getElem?_eq_getElem (by rw [hlen]; exact (Array.getElem?_eq_some_iff.1 hfi).1)] at h
  exact ⟨_, h⟩
theorem open_str1 {H : Type} {enc : TypeId × Value → H} {W : World} {spare : Nat → Bool} {held : Bool} (fuel : Nat) (cs : List Value) (x : DataW H × List MemPlace) (h : DataW.trod enc Tryz.prog W 0 spare held fuel 9 cs = some x) : ∃ s : ByteArray, s.size ≤ 9223372036854775807 ∧ IsV W [.str s] cs := by
  obtain ⟨s, rfl, _, w1⟩ := DataW.trod_string Tryz.underlying9 h
  refine ⟨s, by unfold maxLen at w1; omega, fun j d hj => ?_⟩
  match j with
  | 0 => obtain rfl := Option.some.inj hj; exact ⟨_, rfl, by rw [Is]⟩
  | j + 1 => simp at hj
theorem flat_str (l : List ByteArray) : (l.flatMap fun s => [D.str s]) = l.map D.str := by
  induction l with
  | nil => rfl
  | cons s r ih => rw [List.flatMap_cons, ih]; rfl
theorem open_strs {H : Type} {enc : TypeId × Value → H} {W : World} {spare : Nat → Bool} {held : Bool} (fuel : Nat) (v : Value) (x : DataW H × List MemPlace) (h : DataW.trod enc Tryz.prog W 0 spare held fuel 23 [v] = some x) : ∃ l : List ByteArray, StrsOk l ∧ Is W (strsD l) v := by
  obtain ⟨l, h1, h2, h3⟩ := open_rows (fun s => [D.str s]) (fun s : ByteArray => s.size ≤ 9223372036854775807) (fun _ => rfl) (by decide) Tryz.underlying23 (by kernel_rfl) open_str1 fuel v x h
  rw [flat_str] at h3
  exact ⟨l, ⟨by unfold maxLen at h2; omega, h1⟩, h3⟩
instance : Inhabited Rc := ⟨⟨ByteArray.empty, [], 0⟩⟩
instance : Inhabited Pc := ⟨⟨ByteArray.empty, [], [], default, 0⟩⟩
theorem list3 {α : Type} {l : List α} (h : l.length = 3) : ∃ a b c, l = [a, b, c] := by
  match l, h with
  | [a, b, c], _ => exact ⟨a, b, c, rfl⟩
theorem list9 {α : Type} {l : List α} (h : l.length = 9) : ∃ a b c d e f g i j, l = [a, b, c, d, e, f, g, i, j] := by
  match l, h with
  | [a, b, c, d, e, f, g, i, j], _ => exact ⟨a, b, c, d, e, f, g, i, j, rfl⟩
theorem open_rec {H : Type} {enc : TypeId × Value → H} {W : World} {spare : Nat → Bool} {held : Bool} (fuel : Nat) (cs : List Value) (x : DataW H × List MemPlace) (h : DataW.trod enc Tryz.prog W 0 spare held fuel 77 cs = some x) : ∃ r : Rc, r.Ok ∧ IsV W r.ds cs := by
  obtain ⟨xs, n, rfl, _, hl, hlen, hf⟩ := DataW.trod_struct Tryz.underlying77 h
  rw [show Tryz.prog.cellsOf 77 = 3 by kernel_rfl] at hl
  have hone := cells_at (H := H) hlen hf
  obtain ⟨c0, c1, c2, rfl⟩ := list3 hl
  obtain ⟨y0, h0⟩ := hone 0 _ rfl
  obtain ⟨y1, h1⟩ := hone 1 _ rfl
  obtain ⟨y2, h2⟩ := hone 2 _ rfl
  clear hone hf hlen
  change DataW.trod enc Tryz.prog W 0 spare held n 9 (([c0, c1, c2].drop 0).take (Tryz.prog.cellsOf 9)) = some y0 at h0
  change DataW.trod enc Tryz.prog W 0 spare held n 23 (([c0, c1, c2].drop 1).take (Tryz.prog.cellsOf 23)) = some y1 at h1
  change DataW.trod enc Tryz.prog W 0 spare held n 3 (([c0, c1, c2].drop 2).take (Tryz.prog.cellsOf 3)) = some y2 at h2
  rw [show Tryz.prog.cellsOf 9 = 1 by kernel_rfl] at h0
  rw [show Tryz.prog.cellsOf 23 = 1 by kernel_rfl] at h1
  rw [show Tryz.prog.cellsOf 3 = 1 by kernel_rfl] at h2
  obtain ⟨s, e0, _, w0⟩ := DataW.trod_string Tryz.underlying9 h0
  obtain ⟨l, hl1, hl2⟩ := open_strs _ _ _ h1
  obtain ⟨k, e2, _, _⟩ := DataW.trod_int Tryz.underlying3 h2
  have e0' : c0 = .string s := by simpa using e0
  have e2' : c2 = .int .i64 k := by simpa using e2
  subst e0' e2'
  refine ⟨⟨s, l, k⟩, ⟨by show s.size ≤ _; unfold maxLen at w0; omega, hl1⟩, fun j d hj => ?_⟩
  match j with
  | 0 => obtain rfl := Option.some.inj hj; exact ⟨_, rfl, by rw [Is]⟩
  | 1 => obtain rfl := Option.some.inj hj; exact ⟨_, rfl, hl2⟩
  | 2 => obtain rfl := Option.some.inj hj; exact ⟨_, rfl, by rw [Is]⟩
  | j + 3 => simp [Rc.ds] at hj
theorem open_proc {H : Type} {enc : TypeId × Value → H} {W : World} {spare : Nat → Bool} {held : Bool} (fuel : Nat) (cs : List Value) (x : DataW H × List MemPlace) (h : DataW.trod enc Tryz.prog W 0 spare held fuel 83 cs = some x) : ∃ r : Pc, r.Ok ∧ IsV W r.ds cs := by
  obtain ⟨xs, n, rfl, _, hl, hlen, hf⟩ := DataW.trod_struct Tryz.underlying83 h
  rw [show Tryz.prog.cellsOf 83 = 9 by kernel_rfl] at hl
  have hone := cells_at (H := H) hlen hf
  obtain ⟨c0, c1, c2, c3, c4, c5, c6, c7, c8, rfl⟩ := list9 hl
  obtain ⟨y0, h0⟩ := hone 0 _ rfl
  obtain ⟨y1, h1⟩ := hone 1 _ rfl
  obtain ⟨y2, h2⟩ := hone 2 _ rfl
  obtain ⟨y3, h3⟩ := hone 3 _ rfl
  obtain ⟨y4, h4⟩ := hone 4 _ rfl
  clear hone hf hlen
  change DataW.trod enc Tryz.prog W 0 spare held n 9 (([c0, c1, c2, c3, c4, c5, c6, c7, c8].drop 0).take (Tryz.prog.cellsOf 9)) = some y0 at h0
  change DataW.trod enc Tryz.prog W 0 spare held n 23 (([c0, c1, c2, c3, c4, c5, c6, c7, c8].drop 1).take (Tryz.prog.cellsOf 23)) = some y1 at h1
  change DataW.trod enc Tryz.prog W 0 spare held n 23 (([c0, c1, c2, c3, c4, c5, c6, c7, c8].drop 2).take (Tryz.prog.cellsOf 23)) = some y2 at h2
  change DataW.trod enc Tryz.prog W 0 spare held n 81 (([c0, c1, c2, c3, c4, c5, c6, c7, c8].drop 3).take (Tryz.prog.cellsOf 81)) = some y3 at h3
  change DataW.trod enc Tryz.prog W 0 spare held n 3 (([c0, c1, c2, c3, c4, c5, c6, c7, c8].drop 8).take (Tryz.prog.cellsOf 3)) = some y4 at h4
  rw [show Tryz.prog.cellsOf 9 = 1 by kernel_rfl] at h0
  rw [show Tryz.prog.cellsOf 23 = 1 by kernel_rfl] at h1 h2
  rw [show Tryz.prog.cellsOf 81 = 5 by kernel_rfl] at h3
  rw [show Tryz.prog.cellsOf 3 = 1 by kernel_rfl] at h4
  obtain ⟨s, e0, _, w0⟩ := DataW.trod_string Tryz.underlying9 h0
  obtain ⟨l1, hl1, hl2⟩ := open_strs _ _ _ h1
  obtain ⟨l2, hm1, hm2⟩ := open_strs _ _ _ h2
  obtain ⟨t, v, e3, hk, hok⟩ := open_tree _ _ _ h3
  obtain ⟨k, e4, _, _⟩ := DataW.trod_int Tryz.underlying3 h4
  have e0' : c0 = .string s := by simpa using e0
  have e4' : c8 = .int .i64 k := by simpa using e4
  have e3' : c3 = .int .i64 t.kind ∧ c4 = .string t.text ∧ c5 = .int .i64 t.num ∧ c6 = .int .i64 t.line ∧ c7 = v := by simpa using e3
  obtain ⟨rfl, rfl, rfl, rfl, rfl⟩ := e3'
  subst e0' e4'
  refine ⟨⟨s, l1, l2, t, k⟩, ⟨by show s.size ≤ _; unfold maxLen at w0; omega, hl1, hm1, hok⟩, fun j d hj => ?_⟩
  match j with
  | 0 => obtain rfl := Option.some.inj hj; exact ⟨_, rfl, by rw [Is]⟩
  | 1 => obtain rfl := Option.some.inj hj; exact ⟨_, rfl, hl2⟩
  | 2 => obtain rfl := Option.some.inj hj; exact ⟨_, rfl, hm2⟩
  | 3 => obtain rfl := Option.some.inj hj; exact ⟨_, rfl, by rw [Is]⟩
  | 4 => obtain rfl := Option.some.inj hj; exact ⟨_, rfl, by rw [Is]⟩
  | 5 => obtain rfl := Option.some.inj hj; exact ⟨_, rfl, by rw [Is]⟩
  | 6 => obtain rfl := Option.some.inj hj; exact ⟨_, rfl, by rw [Is]⟩
  | 7 => obtain rfl := Option.some.inj hj; exact ⟨_, rfl, is_of_kids hk⟩
  | 8 => obtain rfl := Option.some.inj hj; exact ⟨_, rfl, by rw [Is]⟩
  | j + 9 => simp [Pc.ds] at hj
theorem open_unit {H : Type} {enc : TypeId × Value → H} {W : World} {spare : Nat → Bool} {held : Bool} (fuel : Nat) (cs : List Value) (x : DataW H × List MemPlace) (h : DataW.trod enc Tryz.prog W 0 spare held fuel 26 cs = some x) : ∃ (u : Un) (v1 v2 v3 : Value), cs = [v1, v2, v3] ∧ u.Ok ∧ UnIs W u v1 v2 v3 := by
  obtain ⟨xs, n, rfl, _, hl, hlen, hf⟩ := DataW.trod_struct Tryz.underlying26 h
  rw [show Tryz.prog.cellsOf 26 = 3 by kernel_rfl] at hl
  have hone := cells_at (H := H) hlen hf
  obtain ⟨c0, c1, c2, rfl⟩ := list3 hl
  obtain ⟨y0, h0⟩ := hone 0 _ rfl
  obtain ⟨y1, h1⟩ := hone 1 _ rfl
  obtain ⟨y2, h2⟩ := hone 2 _ rfl
  clear hone hf hlen
  change DataW.trod enc Tryz.prog W 0 spare held n 22 (([c0, c1, c2].drop 0).take (Tryz.prog.cellsOf 22)) = some y0 at h0
  change DataW.trod enc Tryz.prog W 0 spare held n 23 (([c0, c1, c2].drop 1).take (Tryz.prog.cellsOf 23)) = some y1 at h1
  change DataW.trod enc Tryz.prog W 0 spare held n 24 (([c0, c1, c2].drop 2).take (Tryz.prog.cellsOf 24)) = some y2 at h2
  rw [show Tryz.prog.cellsOf 22 = 1 by kernel_rfl] at h0
  rw [show Tryz.prog.cellsOf 23 = 1 by kernel_rfl] at h1
  rw [show Tryz.prog.cellsOf 24 = 1 by kernel_rfl] at h2
  obtain ⟨rs, r1, r2, r3⟩ := open_rows Rc.ds Rc.Ok Rc.ds_len (by decide) Tryz.underlying22 (by kernel_rfl) open_rec _ _ _ h0
  obtain ⟨l, hl1, hl2⟩ := open_strs _ _ _ h1
  obtain ⟨ps, p1, p2, p3⟩ := open_rows Pc.ds Pc.Ok Pc.ds_len (by decide) Tryz.underlying24 (by kernel_rfl) open_proc _ _ _ h2
  exact ⟨⟨rs, l, ps⟩, c0, c1, c2, rfl, ⟨⟨by unfold maxLen at r2; show rs.length ≤ _; omega, r1⟩, hl1, by unfold maxLen at p2; show ps.length ≤ _; omega, p1⟩, r3, hl2, p3⟩
end Go.Proofs.YtckjmmapekaapaaGreatDoor
/- The program's copy of a list of texts; rows that are written over. No conditions. -/
namespace Go.Proofs.YtckjmmapekaapaaGreatDoor
open Go.RowKit
set_option linter.unusedVariables false

theorem txt_bound {l : List ByteArray} (h : strsB l ≤ 1048576) : ∀ s ∈ l, (s.size : Int) ≤ 1048576 := fun s hs => by
  have := wsum_mem ByteArray.size hs
  unfold strsB at h
  omega
theorem any_len (z : Nat) : (List.replicate z D.any).length = z := List.length_replicate
set_option maxRecDepth 100000 in
set_option maxHeartbeats 1600000 in
theorem impl_texts (v : Value) (l : List ByteArray) (w : World) (hk : Is w (strsD l) v) (hb : strsB l ≤ 1048576) : Calls Tryz.prog 25 #[v] w (RetD w (strsD l)) := by
  have hln : l.length ≤ 1048576 := by unfold strsB at hb; omega
  have HC := Lib.hid (clone_str v l w hk hln)
  unfold RetAny at HC
  have HZ := Lib.hid (txt_bound hb)
  obtain ⟨a, c, rfl⟩ := is_slice hk
  have HK := Lib.hid hk
  clear hk hb
  by_cases h0 : l = []
  · subst h0
    go_enter Tryz.func25, Tryz.ntmps25
    go_wp2_with fail
    refine HC.out.mono ?_
    rintro e w1 ⟨v1, rfl, hr, b1⟩
    obtain ⟨a1, c1, rfl⟩ : ∃ a1 c1, v1 = .slice a1 0 c1 := by
      rcases hr with ⟨_, a1, c1, e⟩ | ⟨h, _⟩
      · exact ⟨a1, c1, e⟩
      · exact absurd rfl h
    have B1 := Lib.hid b1
    clear hr b1
    go_wp2
    go_loopw [4, 5, 10] (fun _ _ i wr => i = .int .i64 0 ∧ wr = w1) (fun _ _ _ _ => 0)
    case atStart => exact ⟨rfl, rfl⟩
    case round =>
      obtain ⟨rfl, rfl⟩ := hrel
      go_wp2
      go_ret
      exact ⟨_, [], rfl, own_nil, (fun b hb => by cases hb), B1.out⟩
  · have H0 := Lib.hid h0
    clear h0
    go_enter Tryz.func25, Tryz.ntmps25
    go_wp2_with fail
    refine HC.out.mono ?_
    rintro e w1 ⟨v1, rfl, hr, b1⟩
    obtain ⟨g1, c1, rfl, hg, hrow, hgl⟩ : ∃ g1 c1, v1 = .slice (some ⟨g1, 0, none⟩) l.length c1 ∧ (l.length ≤ c1 ∧ w.heap.size ≤ g1) ∧ RowD w1 g1 0 (List.replicate (l.length * 1) D.any) (List.replicate (l.length * 1) []) ∧ g1 < w1.heap.size := by
      rcases hr with ⟨h, _⟩ | ⟨_, g1, c1, e, h1, h2, h3⟩
      · exact absurd (List.length_eq_zero_iff.1 h) H0.out
      · exact ⟨g1, c1, e, h1, h2, h3⟩
    have HST := Lib.hid (FillD.any (f := fun s => [D.str s]) (c := 0) hrow hgl b1)
    have HG := Lib.hid hg
    clear hr b1 hrow hgl HC
    go_wp2
    go_loopw [4, 5, 10] (fun _ _ i wr => ∃ k : Nat, i = .int .i64 k ∧ k ≤ l.length ∧ FillD (fun s => [D.str s]) (List.replicate 1 D.any) w g1 l k wr) (fun _ _ i _ => l.length - (intOf i).toNat)
    case atStart => exact ⟨0, rfl, Nat.zero_le _, HST.out⟩
    case round =>
      clear HST
      obtain ⟨k, rfl, hk, hat⟩ := hrel
      have HAT := Lib.hid hat
      have HB := Lib.hid hat.choose_spec.2.2.2
      by_cases hlt : k < l.length
      · obtain ⟨g, o, rfl, d1⟩ := str_at (HK.out.later HB.out) k hlt
        have HX := Lib.hid (clone8 l[k] wr (HZ.out _ (List.getElem_mem hlt)))
        have HN := Lib.hid (fun w2 (hb2 : Below wr.heap.size wr w2) es he ho hp => HAT.out.next (w1 := w2) (z := 1) (fun _ => rfl) (any_len 1) HG.out.2 hlt hb2 es he ho hp)
        have HF := Lib.hid (fun w2 hb => HAT.out.cell (w1 := w2) (z := 1) (fun _ => rfl) (any_len 1) (Nat.le_of_lt hlt) k (by omega) hb)
        have k0 : (0 : Int) ≤ k := by omega
        have k1 : (k : Int) < l.length := by omega
        clear hat HAT
        generalize l[k] = x at d1 HX HN
        go_wp2_with fail
        refine HX.out.mono ?_
        rintro e w2 ⟨rfl, hb2⟩
        have HN2 := Lib.hid (HN.out w2 hb2 [(.str x, .string x, [])] rfl (fun e he => by rw [List.mem_singleton] at he; subst he; exact ⟨own_str', fun b hb => by cases hb⟩) (List.pairwise_singleton _ _))
        obtain ⟨⟨e0, c0⟩, g0⟩ := HF.out w2 hb2
        rw [show k * 1 = k from Nat.mul_one k] at HN2
        clear hb2 HN HF
        go_wp2
        go_roundw
        case rel => exact ⟨k + 1, by go_num, by omega, HN2.out⟩
        case measure => first | (simp [intOf]; done) | (simp [intOf]; omega)
      · obtain rfl : k = l.length := by omega
        have HD := Lib.hid (HAT.out.done (cp := c1) (z := 1) (fun _ => rfl) (by decide) HG.out.2 HG.out.1)
        clear hat
        go_wp2
        go_ret
        obtain ⟨F, h1, h2, h3⟩ := HD.out
        rw [flat_str] at h1
        exact ⟨_, F, rfl, h1, h2, h3⟩
end Go.Proofs.YtckjmmapekaapaaGreatDoor
