/- Joined texts: U10. No conditions besides those that each states. -/
import Derived.Test.YtfachlcahainhaaZ27
import Derived.Test.YtfachlcahainhaaZ53
/- A unit that came in. No conditions. -/
namespace Go.Proofs.Ytfachlcahainhaa
open Go.RowKit Go.Joins
open Go.Deep (choose_lt oneCellFields)
set_option linter.unusedVariables false

theorem is_of_kids {w : World} {ks : List Ex.T} {v : Value} (h : Kids w v ks) : Is w (.ex ks) v := by rw [Is]; exact h
/-- Cells that read as data, one after the other. -/
def IsV (W : World) (ds : List D) (cs : List Value) : Prop := ∀ (j : Nat) (d : D), ds[j]? = some d → ∃ u : Value, cs[j]? = some u ∧ Is W d u
/-- A slice of structs that came in, by its elements. -/
theorem open_rows {H : Type} {enc : TypeId × Value → H} {W : World} {spare : Nat → Bool} {held : Bool} {α : Type} [Inhabited α] (f : α → List D) (P : α → Prop) {z : Nat} (hz : ∀ x, (f x).length = z) (hz0 : 0 < z) {S E : TypeId} (hS : Try.prog.underlying S = some (.slice E)) (hE : Try.prog.cellsOf E = z)
    (he : ∀ (fuel : Nat) (cs : List Value) (x : DataW H × List MemPlace), DataW.trod enc Try.prog W 0 spare held fuel E cs = some x → ∃ a : α, P a ∧ IsV W (f a) cs) (fuel : Nat) (v : Value) (x : DataW H × List MemPlace) (h : DataW.trod enc Try.prog W 0 spare held fuel S [v] = some x) :
    ∃ l : List α, (∀ a ∈ l, P a) ∧ l.length ≤ maxLen ∧ Is W (.row l.length (l.flatMap f)) v := by
  rcases DataW.trod_slice hS h with ⟨e4, _⟩ | ⟨a, len, cap, elems, rest, n2, hn, e4, _, _, hlc, hcm, hel, hget, _, _⟩
  · simp only [List.cons.injEq, and_true] at e4
    subst e4
    exact ⟨[], (fun a h => by cases h), by simp, by rw [List.flatMap_nil, Is]; exact ⟨_, _, rfl, .inl rfl⟩⟩
  · simp only [List.cons.injEq, and_true] at e4
    subst e4
    rw [hE] at hget
    have hex : ∀ i, i < len → ∃ t : α, P t ∧ ∀ j d, (f t)[j]? = some d → ∃ u, W.cell? ((a.add (i * z)).add j) = some u ∧ Is W d u := by
      intro i hi
      have hg := hget i hi
      rw [List.getElem?_eq_getElem (by omega)] at hg
      obtain ⟨cs', hc, ht⟩ := Option.bind_eq_some_iff.1 hg
      obtain ⟨_, hcl, hcc⟩ := World.cells?_some hc
      obtain ⟨t, hP, hd⟩ := he _ _ _ ht
      refine ⟨t, hP, fun j d hj => ?_⟩
      obtain ⟨u, hu, hI⟩ := hd j d hj
      have hlt : j < cs'.length := (List.getElem?_eq_some_iff.1 hu).1
      exact ⟨u, (hcc j (by omega)).trans hu, hI⟩
    obtain ⟨T, hT⟩ := choose_lt hex
    refine ⟨(List.range len).map T, fun x hx => ?_, by simp; omega, ?_⟩
    · obtain ⟨i, hi, rfl⟩ := List.mem_map.1 hx
      exact (hT i (List.mem_range.1 hi)).1
    · rw [List.length_map, List.length_range, Is]
      refine ⟨_, _, rfl, ?_⟩
      by_cases h0 : len = 0
      · subst h0; exact .inl rfl
      · right
        obtain ⟨b, o, sp⟩ := a
        have hsp : sp = none := by
          obtain ⟨u, hu, _⟩ := (hT 0 (by omega)).2 0 _ (List.getElem?_eq_getElem (by rw [hz]; exact hz0))
          have := World.cell?_spot hu
          simpa [Addr.add] using this
        subst hsp
        refine ⟨b, o, rfl, isAll_of fun p d hp => ?_⟩
        have hlen : (((List.range len).map T).flatMap f).length = len * z := by rw [flat_len f hz, List.length_map, List.length_range]
        have hpl : p < len * z := by rw [← hlen]; exact (List.getElem?_eq_some_iff.1 hp).1
        have hdiv : p / z < len := Nat.div_lt_of_lt_mul (by rw [Nat.mul_comm]; exact hpl)
        have he2 : p = p / z * z + p % z := by rw [Nat.mul_comm]; exact (Nat.div_add_mod p z).symm
        have h1 := flat_at f hz ((List.range len).map T) (p / z) (p % z) (T (p / z)) (by rw [List.getElem?_map, List.getElem?_range hdiv]; rfl) (Nat.mod_lt _ hz0)
        rw [← he2, hp] at h1
        obtain ⟨u, hu, hI⟩ := (hT (p / z) hdiv).2 (p % z) d h1.symm
        rw [addr_add, addr_add, Nat.add_assoc, ← he2] at hu
        exact ⟨u, hu, hI⟩
theorem cells_at {H : Type} {enc : TypeId × Value → H} {W : World} {base n : Nat} {spare : Nat → Bool} {held : Bool} {fs : Array Field} {cs : List Value} {xs : List (DataW H × List MemPlace)} (hlen : xs.length = fs.size)
    (hf : ∀ (i : Nat) (f : Field), fs[i]? = some f → DataW.trod enc Try.prog W base spare held n f.type ((cs.drop f.offset).take (Try.prog.cellsOf f.type)) = xs[i]?) (i : Nat) (f : Field) (hfi : fs[i]? = some f) : ∃ y, DataW.trod enc Try.prog W base spare held n f.type ((cs.drop f.offset).take (Try.prog.cellsOf f.type)) = some y := by
  have h := hf i f hfi
  rw [List.getElem?_eq_getElem (by rw [hlen]; exact (Array.getElem?_eq_some_iff.1 hfi).1)] at h
  exact ⟨_, h⟩
theorem open_str1 {H : Type} {enc : TypeId × Value → H} {W : World} {spare : Nat → Bool} {held : Bool} (fuel : Nat) (cs : List Value) (x : DataW H × List MemPlace) (h : DataW.trod enc Try.prog W 0 spare held fuel 9 cs = some x) : ∃ s : ByteArray, s.size ≤ 9223372036854775807 ∧ IsV W [.str s] cs := by
  obtain ⟨s, rfl, _, w1⟩ := DataW.trod_string Try.underlying9 h
  refine ⟨s, by unfold maxLen at w1; omega, fun j d hj => ?_⟩
  match j with
  | 0 => obtain rfl := Option.some.inj hj; exact ⟨_, rfl, by rw [Is]⟩
  | j + 1 => simp at hj
theorem flat_str (l : List ByteArray) : (l.flatMap fun s => [D.str s]) = l.map D.str := by
  induction l with
  | nil => rfl
  | cons s r ih => rw [List.flatMap_cons, ih]; rfl
theorem open_strs {H : Type} {enc : TypeId × Value → H} {W : World} {spare : Nat → Bool} {held : Bool} (fuel : Nat) (v : Value) (x : DataW H × List MemPlace) (h : DataW.trod enc Try.prog W 0 spare held fuel 23 [v] = some x) : ∃ l : List ByteArray, StrsOk l ∧ Is W (strsD l) v := by
  obtain ⟨l, h1, h2, h3⟩ := open_rows (fun s => [D.str s]) (fun s : ByteArray => s.size ≤ 9223372036854775807) (fun _ => rfl) (by decide) Try.underlying23 (by kernel_rfl) open_str1 fuel v x h
  rw [flat_str] at h3
  exact ⟨l, ⟨by unfold maxLen at h2; omega, h1⟩, h3⟩
instance : Inhabited Rc := ⟨⟨ByteArray.empty, [], 0⟩⟩
instance : Inhabited Pc := ⟨⟨ByteArray.empty, [], [], default, 0⟩⟩
theorem list3 {α : Type} {l : List α} (h : l.length = 3) : ∃ a b c, l = [a, b, c] := by
  match l, h with
  | [a, b, c], _ => exact ⟨a, b, c, rfl⟩
theorem list9 {α : Type} {l : List α} (h : l.length = 9) : ∃ a b c d e f g i j, l = [a, b, c, d, e, f, g, i, j] := by
  match l, h with
  | [a, b, c, d, e, f, g, i, j], _ => exact ⟨a, b, c, d, e, f, g, i, j, rfl⟩
theorem open_rec {H : Type} {enc : TypeId × Value → H} {W : World} {spare : Nat → Bool} {held : Bool} (fuel : Nat) (cs : List Value) (x : DataW H × List MemPlace) (h : DataW.trod enc Try.prog W 0 spare held fuel 68 cs = some x) : ∃ r : Rc, r.Ok ∧ IsV W r.ds cs := by
  obtain ⟨xs, n, rfl, _, hl, hlen, hf⟩ := DataW.trod_struct Try.underlying68 h
  rw [show Try.prog.cellsOf 68 = 3 by kernel_rfl] at hl
  have hone := cells_at (H := H) hlen hf
  obtain ⟨c0, c1, c2, rfl⟩ := list3 hl
  obtain ⟨y0, h0⟩ := hone 0 _ rfl
  obtain ⟨y1, h1⟩ := hone 1 _ rfl
  obtain ⟨y2, h2⟩ := hone 2 _ rfl
  clear hone hf hlen
  change DataW.trod enc Try.prog W 0 spare held n 9 (([c0, c1, c2].drop 0).take (Try.prog.cellsOf 9)) = some y0 at h0
  change DataW.trod enc Try.prog W 0 spare held n 23 (([c0, c1, c2].drop 1).take (Try.prog.cellsOf 23)) = some y1 at h1
  change DataW.trod enc Try.prog W 0 spare held n 3 (([c0, c1, c2].drop 2).take (Try.prog.cellsOf 3)) = some y2 at h2
  rw [show Try.prog.cellsOf 9 = 1 by kernel_rfl] at h0
  rw [show Try.prog.cellsOf 23 = 1 by kernel_rfl] at h1
  rw [show Try.prog.cellsOf 3 = 1 by kernel_rfl] at h2
  obtain ⟨s, e0, _, w0⟩ := DataW.trod_string Try.underlying9 h0
  obtain ⟨l, hl1, hl2⟩ := open_strs _ _ _ h1
  obtain ⟨k, e2, _, _⟩ := DataW.trod_int Try.underlying3 h2
  have e0' : c0 = .string s := by simpa using e0
  have e2' : c2 = .int .i64 k := by simpa using e2
  subst e0' e2'
  refine ⟨⟨s, l, k⟩, ⟨by show s.size ≤ _; unfold maxLen at w0; omega, hl1⟩, fun j d hj => ?_⟩
  match j with
  | 0 => obtain rfl := Option.some.inj hj; exact ⟨_, rfl, by rw [Is]⟩
  | 1 => obtain rfl := Option.some.inj hj; exact ⟨_, rfl, hl2⟩
  | 2 => obtain rfl := Option.some.inj hj; exact ⟨_, rfl, by rw [Is]⟩
  | j + 3 => simp [Rc.ds] at hj
theorem open_proc {H : Type} {enc : TypeId × Value → H} {W : World} {spare : Nat → Bool} {held : Bool} (fuel : Nat) (cs : List Value) (x : DataW H × List MemPlace) (h : DataW.trod enc Try.prog W 0 spare held fuel 74 cs = some x) : ∃ r : Pc, r.Ok ∧ IsV W r.ds cs := by
  obtain ⟨xs, n, rfl, _, hl, hlen, hf⟩ := DataW.trod_struct Try.underlying74 h
  rw [show Try.prog.cellsOf 74 = 9 by kernel_rfl] at hl
  have hone := cells_at (H := H) hlen hf
  obtain ⟨c0, c1, c2, c3, c4, c5, c6, c7, c8, rfl⟩ := list9 hl
  obtain ⟨y0, h0⟩ := hone 0 _ rfl
  obtain ⟨y1, h1⟩ := hone 1 _ rfl
  obtain ⟨y2, h2⟩ := hone 2 _ rfl
  obtain ⟨y3, h3⟩ := hone 3 _ rfl
  obtain ⟨y4, h4⟩ := hone 4 _ rfl
  clear hone hf hlen
  change DataW.trod enc Try.prog W 0 spare held n 9 (([c0, c1, c2, c3, c4, c5, c6, c7, c8].drop 0).take (Try.prog.cellsOf 9)) = some y0 at h0
  change DataW.trod enc Try.prog W 0 spare held n 23 (([c0, c1, c2, c3, c4, c5, c6, c7, c8].drop 1).take (Try.prog.cellsOf 23)) = some y1 at h1
  change DataW.trod enc Try.prog W 0 spare held n 23 (([c0, c1, c2, c3, c4, c5, c6, c7, c8].drop 2).take (Try.prog.cellsOf 23)) = some y2 at h2
  change DataW.trod enc Try.prog W 0 spare held n 72 (([c0, c1, c2, c3, c4, c5, c6, c7, c8].drop 3).take (Try.prog.cellsOf 72)) = some y3 at h3
  change DataW.trod enc Try.prog W 0 spare held n 3 (([c0, c1, c2, c3, c4, c5, c6, c7, c8].drop 8).take (Try.prog.cellsOf 3)) = some y4 at h4
  rw [show Try.prog.cellsOf 9 = 1 by kernel_rfl] at h0
  rw [show Try.prog.cellsOf 23 = 1 by kernel_rfl] at h1 h2
  rw [show Try.prog.cellsOf 72 = 5 by kernel_rfl] at h3
  rw [show Try.prog.cellsOf 3 = 1 by kernel_rfl] at h4
  obtain ⟨s, e0, _, w0⟩ := DataW.trod_string Try.underlying9 h0
  obtain ⟨l1, hl1, hl2⟩ := open_strs _ _ _ h1
  obtain ⟨l2, hm1, hm2⟩ := open_strs _ _ _ h2
  obtain ⟨t, v, e3, hk, hok⟩ := open_tree _ _ _ h3
  obtain ⟨k, e4, _, _⟩ := DataW.trod_int Try.underlying3 h4
  have e0' : c0 = .string s := by simpa using e0
  have e4' : c8 = .int .i64 k := by simpa using e4
  have e3' : c3 = .int .i64 t.kind ∧ c4 = .string t.text ∧ c5 = .int .i64 t.num ∧ c6 = .int .i64 t.line ∧ c7 = v := by simpa using e3
  obtain ⟨rfl, rfl, rfl, rfl, rfl⟩ := e3'
  subst e0' e4'
  refine ⟨⟨s, l1, l2, t, k⟩, ⟨by show s.size ≤ _; unfold maxLen at w0; omega, hl1, hm1, hok⟩, fun j d hj => ?_⟩
  match j with
  | 0 => obtain rfl := Option.some.inj hj; exact ⟨_, rfl, by rw [Is]⟩
  | 1 => obtain rfl := Option.some.inj hj; exact ⟨_, rfl, hl2⟩
  | 2 => obtain rfl := Option.some.inj hj; exact ⟨_, rfl, hm2⟩
  | 3 => obtain rfl := Option.some.inj hj; exact ⟨_, rfl, by rw [Is]⟩
  | 4 => obtain rfl := Option.some.inj hj; exact ⟨_, rfl, by rw [Is]⟩
  | 5 => obtain rfl := Option.some.inj hj; exact ⟨_, rfl, by rw [Is]⟩
  | 6 => obtain rfl := Option.some.inj hj; exact ⟨_, rfl, by rw [Is]⟩
  | 7 => obtain rfl := Option.some.inj hj; exact ⟨_, rfl, is_of_kids hk⟩
  | 8 => obtain rfl := Option.some.inj hj; exact ⟨_, rfl, by rw [Is]⟩
  | j + 9 => simp [Pc.ds] at hj
theorem open_unit {H : Type} {enc : TypeId × Value → H} {W : World} {spare : Nat → Bool} {held : Bool} (fuel : Nat) (cs : List Value) (x : DataW H × List MemPlace) (h : DataW.trod enc Try.prog W 0 spare held fuel 26 cs = some x) : ∃ (u : Un) (v1 v2 v3 : Value), cs = [v1, v2, v3] ∧ u.Ok ∧ UnIs W u v1 v2 v3 := by
  obtain ⟨xs, n, rfl, _, hl, hlen, hf⟩ := DataW.trod_struct Try.underlying26 h
  rw [show Try.prog.cellsOf 26 = 3 by kernel_rfl] at hl
  have hone := cells_at (H := H) hlen hf
  obtain ⟨c0, c1, c2, rfl⟩ := list3 hl
  obtain ⟨y0, h0⟩ := hone 0 _ rfl
  obtain ⟨y1, h1⟩ := hone 1 _ rfl
  obtain ⟨y2, h2⟩ := hone 2 _ rfl
  clear hone hf hlen
  change DataW.trod enc Try.prog W 0 spare held n 22 (([c0, c1, c2].drop 0).take (Try.prog.cellsOf 22)) = some y0 at h0
  change DataW.trod enc Try.prog W 0 spare held n 23 (([c0, c1, c2].drop 1).take (Try.prog.cellsOf 23)) = some y1 at h1
  change DataW.trod enc Try.prog W 0 spare held n 24 (([c0, c1, c2].drop 2).take (Try.prog.cellsOf 24)) = some y2 at h2
  rw [show Try.prog.cellsOf 22 = 1 by kernel_rfl] at h0
  rw [show Try.prog.cellsOf 23 = 1 by kernel_rfl] at h1
  rw [show Try.prog.cellsOf 24 = 1 by kernel_rfl] at h2
  obtain ⟨rs, r1, r2, r3⟩ := open_rows Rc.ds Rc.Ok Rc.ds_len (by decide) Try.underlying22 (by kernel_rfl) open_rec _ _ _ h0
  obtain ⟨l, hl1, hl2⟩ := open_strs _ _ _ h1
  obtain ⟨ps, p1, p2, p3⟩ := open_rows Pc.ds Pc.Ok Pc.ds_len (by decide) Try.underlying24 (by kernel_rfl) open_proc _ _ _ h2
  exact ⟨⟨rs, l, ps⟩, c0, c1, c2, rfl, ⟨⟨by unfold maxLen at r2; show rs.length ≤ _; omega, r1⟩, hl1, by unfold maxLen at p2; show ps.length ≤ _; omega, p1⟩, r3, hl2, p3⟩
end Go.Proofs.Ytfachlcahainhaa
