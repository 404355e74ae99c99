/- Joined texts: U10, U18, V30. No conditions besides those that each states. -/
import Derived.Test.YtkhcbahbffjnkaaGreatDoorZ15
import Derived.Test.YtkhcbahbffjnkaaGreatDoorZ33
import Derived.Test.YtkhcbahbffjnkaaGreatDoorZ39
import Derived.Test.YtkhcbahbffjnkaaGreatDoorZ40
import Derived.Test.YtkhcbahbffjnkaaGreatDoorZ41
/- A unit that came in. No conditions. -/
namespace Go.Proofs.YtkhcbahbffjnkaaGreatDoor
open Go.RowKit Go.Joins
open Go.Deep (choose_lt oneCellFields)
set_option linter.unusedVariables false

theorem is_of_kids {w : World} {ks : List Ex.T} {v : Value} (h : Kids w v ks) : Is w (.ex ks) v := by rw [Is]; exact h
/-- Cells that read as data, one after the other. -/
def IsV (W : World) (ds : List D) (cs : List Value) : Prop := ∀ (j : Nat) (d : D), ds[j]? = some d → ∃ u : Value, cs[j]? = some u ∧ Is W d u
/-- A slice of structs that came in, by its elements. -/
theorem open_rows {H : Type} {enc : TypeId × Value → H} {W : World} {spare : Nat → Bool} {held : Bool} {α : Type} [Inhabited α] (f : α → List D) (P : α → Prop) {z : Nat} (hz : ∀ x, (f x).length = z) (hz0 : 0 < z) {S E : TypeId} (hS : Tryz.prog.underlying S = some (.slice E)) (hE : Tryz.prog.cellsOf E = z)
    (he : ∀ (fuel : Nat) (cs : List Value) (x : DataW H × List MemPlace), DataW.trod enc Tryz.prog W 0 spare held fuel E cs = some x → ∃ a : α, P a ∧ IsV W (f a) cs) (fuel : Nat) (v : Value) (x : DataW H × List MemPlace) (h : DataW.trod enc Tryz.prog W 0 spare held fuel S [v] = some x) :
    ∃ l : List α, (∀ a ∈ l, P a) ∧ l.length ≤ maxLen ∧ Is W (.row l.length (l.flatMap f)) v := by
  rcases DataW.trod_slice hS h with ⟨e4, _⟩ | ⟨a, len, cap, elems, rest, n2, hn, e4, _, _, hlc, hcm, hel, hget, _, _⟩
  · simp only [List.cons.injEq, and_true] at e4
    subst e4
    exact ⟨[], (fun a h => by cases h), by simp, by rw [List.flatMap_nil, Is]; exact ⟨_, _, rfl, .inl rfl⟩⟩
  · simp only [List.cons.injEq, and_true] at e4
    subst e4
    rw [hE] at hget
    have hex : ∀ i, i < len → ∃ t : α, P t ∧ ∀ j d, (f t)[j]? = some d → ∃ u, W.cell? ((a.add (i * z)).add j) = some u ∧ Is W d u := by
      intro i hi
      have hg := hget i hi
      rw [List.getElem?_eq_getElem (by omega)] at hg
      obtain ⟨cs', hc, ht⟩ := Option.bind_eq_some_iff.1 hg
      obtain ⟨_, hcl, hcc⟩ := World.cells?_some hc
      obtain ⟨t, hP, hd⟩ := he _ _ _ ht
      refine ⟨t, hP, fun j d hj => ?_⟩
      obtain ⟨u, hu, hI⟩ := hd j d hj
      have hlt : j < cs'.length := (List.getElem?_eq_some_iff.1 hu).1
      exact ⟨u, (hcc j (by omega)).trans hu, hI⟩
    obtain ⟨T, hT⟩ := choose_lt hex
    refine ⟨(List.range len).map T, fun x hx => ?_, by simp; omega, ?_⟩
    · obtain ⟨i, hi, rfl⟩ := List.mem_map.1 hx
      exact (hT i (List.mem_range.1 hi)).1
    · rw [List.length_map, List.length_range, Is]
      refine ⟨_, _, rfl, ?_⟩
      by_cases h0 : len = 0
      · subst h0; exact .inl rfl
      · refine .inr ⟨by omega, ?_⟩
        obtain ⟨b, o, sp⟩ := a
        have hsp : sp = none := by
          obtain ⟨u, hu, _⟩ := (hT 0 (by omega)).2 0 _ (List.getElem?_eq_getElem (by rw [hz]; exact hz0))
          have := World.cell?_spot hu
          simpa [Addr.add] using this
        subst hsp
        refine ⟨b, o, rfl, isAll_of fun p d hp => ?_⟩
        have hlen : (((List.range len).map T).flatMap f).length = len * z := by rw [flat_len f hz, List.length_map, List.length_range]
        have hpl : p < len * z := by rw [← hlen]; exact (List.getElem?_eq_some_iff.1 hp).1
        have hdiv : p / z < len := Nat.div_lt_of_lt_mul (by rw [Nat.mul_comm]; exact hpl)
        have he2 : p = p / z * z + p % z := by rw [Nat.mul_comm]; exact (Nat.div_add_mod p z).symm
        have h1 := flat_at f hz ((List.range len).map T) (p / z) (p % z) (T (p / z)) (by rw [List.getElem?_map, List.getElem?_range hdiv]; rfl) (Nat.mod_lt _ hz0)
        rw [← he2, hp] at h1
        obtain ⟨u, hu, hI⟩ := (hT (p / z) hdiv).2 (p % z) d h1.symm
        rw [addr_add, addr_add, Nat.add_assoc, ← he2] at hu
        exact ⟨u, hu, hI⟩
theorem cells_at {H : Type} {enc : TypeId × Value → H} {W : World} {base n : Nat} {spare : Nat → Bool} {held : Bool} {fs : Array Field} {cs : List Value} {xs : List (DataW H × List MemPlace)} (hlen : xs.length = fs.size)
    (hf : ∀ (i : Nat) (f : Field), fs[i]? = some f → DataW.trod enc Tryz.prog W base spare held n f.type ((cs.drop f.offset).take (Tryz.prog.cellsOf f.type)) = xs[i]?) (i : Nat) (f : Field) (hfi : fs[i]? = some f) : ∃ y, DataW.trod enc Tryz.prog W base spare held n f.type ((cs.drop f.offset).take (Tryz.prog.cellsOf f.type)) = some y := by
  have h := hf i f hfi
  rw [List.getElem?_eq_getElem (by rw [hlen]; exact (Array.getElem?_eq_some_iff.1 hfi).1)] at h
  exact ⟨_, h⟩
theorem open_str1 {H : Type} {enc : TypeId × Value → H} {W : World} {spare : Nat → Bool} {held : Bool} (fuel : Nat) (cs : List Value) (x : DataW H × List MemPlace) (h : DataW.trod enc Tryz.prog W 0 spare held fuel 9 cs = some x) : ∃ s : ByteArray, s.size ≤ 9223372036854775807 ∧ IsV W [.str s] cs := by
  obtain ⟨s, rfl, _, w1⟩ := DataW.trod_string Tryz.underlying9 h
  refine ⟨s, by unfold maxLen at w1; omega, fun j d hj => ?_⟩
  match j with
  | 0 => obtain rfl := Option.some.inj hj; exact ⟨_, rfl, by rw [Is]⟩
  | j + 1 => simp at hj
theorem flat_str (l : List ByteArray) : (l.flatMap fun s => [D.str s]) = l.map D.str := by
  induction l with
  | nil => rfl
  | cons s r ih => rw [List.flatMap_cons, ih]; rfl
theorem open_strs {H : Type} {enc : TypeId × Value → H} {W : World} {spare : Nat → Bool} {held : Bool} (fuel : Nat) (v : Value) (x : DataW H × List MemPlace) (h : DataW.trod enc Tryz.prog W 0 spare held fuel 35 [v] = some x) : ∃ l : List ByteArray, StrsOk l ∧ Is W (strsD l) v := by
  obtain ⟨l, h1, h2, h3⟩ := open_rows (fun s => [D.str s]) (fun s : ByteArray => s.size ≤ 9223372036854775807) (fun _ => rfl) (by decide) Tryz.underlying35 (by kernel_rfl) open_str1 fuel v x h
  rw [flat_str] at h3
  exact ⟨l, ⟨by unfold maxLen at h2; omega, h1⟩, h3⟩
instance : Inhabited Rc := ⟨⟨ByteArray.empty, [], 0⟩⟩
instance : Inhabited Pc := ⟨⟨ByteArray.empty, [], [], default, 0⟩⟩
theorem list3 {α : Type} {l : List α} (h : l.length = 3) : ∃ a b c, l = [a, b, c] := by
  match l, h with
  | [a, b, c], _ => exact ⟨a, b, c, rfl⟩
theorem list9 {α : Type} {l : List α} (h : l.length = 9) : ∃ a b c d e f g i j, l = [a, b, c, d, e, f, g, i, j] := by
  match l, h with
  | [a, b, c, d, e, f, g, i, j], _ => exact ⟨a, b, c, d, e, f, g, i, j, rfl⟩
theorem open_rec {H : Type} {enc : TypeId × Value → H} {W : World} {spare : Nat → Bool} {held : Bool} (fuel : Nat) (cs : List Value) (x : DataW H × List MemPlace) (h : DataW.trod enc Tryz.prog W 0 spare held fuel 197 cs = some x) : ∃ r : Rc, r.Ok ∧ IsV W r.ds cs := by
  obtain ⟨xs, n, rfl, _, hl, hlen, hf⟩ := DataW.trod_struct Tryz.underlying197 h
  rw [show Tryz.prog.cellsOf 197 = 3 by kernel_rfl] at hl
  have hone := cells_at (H := H) hlen hf
  obtain ⟨c0, c1, c2, rfl⟩ := list3 hl
  obtain ⟨y0, h0⟩ := hone 0 _ rfl
  obtain ⟨y1, h1⟩ := hone 1 _ rfl
  obtain ⟨y2, h2⟩ := hone 2 _ rfl
  clear hone hf hlen
  change DataW.trod enc Tryz.prog W 0 spare held n 9 (([c0, c1, c2].drop 0).take (Tryz.prog.cellsOf 9)) = some y0 at h0
  change DataW.trod enc Tryz.prog W 0 spare held n 35 (([c0, c1, c2].drop 1).take (Tryz.prog.cellsOf 35)) = some y1 at h1
  change DataW.trod enc Tryz.prog W 0 spare held n 3 (([c0, c1, c2].drop 2).take (Tryz.prog.cellsOf 3)) = some y2 at h2
  rw [show Tryz.prog.cellsOf 9 = 1 by kernel_rfl] at h0
  rw [show Tryz.prog.cellsOf 35 = 1 by kernel_rfl] at h1
  rw [show Tryz.prog.cellsOf 3 = 1 by kernel_rfl] at h2
  obtain ⟨s, e0, _, w0⟩ := DataW.trod_string Tryz.underlying9 h0
  obtain ⟨l, hl1, hl2⟩ := open_strs _ _ _ h1
  obtain ⟨k, e2, _, _⟩ := DataW.trod_int Tryz.underlying3 h2
  have e0' : c0 = .string s := by simpa using e0
  have e2' : c2 = .int .i64 k := by simpa using e2
  subst e0' e2'
  refine ⟨⟨s, l, k⟩, ⟨by show s.size ≤ _; unfold maxLen at w0; omega, hl1⟩, fun j d hj => ?_⟩
  match j with
  | 0 => obtain rfl := Option.some.inj hj; exact ⟨_, rfl, by rw [Is]⟩
  | 1 => obtain rfl := Option.some.inj hj; exact ⟨_, rfl, hl2⟩
  | 2 => obtain rfl := Option.some.inj hj; exact ⟨_, rfl, by rw [Is]⟩
  | j + 3 => simp [Rc.ds] at hj
theorem open_proc {H : Type} {enc : TypeId × Value → H} {W : World} {spare : Nat → Bool} {held : Bool} (fuel : Nat) (cs : List Value) (x : DataW H × List MemPlace) (h : DataW.trod enc Tryz.prog W 0 spare held fuel 203 cs = some x) : ∃ r : Pc, r.Ok ∧ IsV W r.ds cs := by
  obtain ⟨xs, n, rfl, _, hl, hlen, hf⟩ := DataW.trod_struct Tryz.underlying203 h
  rw [show Tryz.prog.cellsOf 203 = 9 by kernel_rfl] at hl
  have hone := cells_at (H := H) hlen hf
  obtain ⟨c0, c1, c2, c3, c4, c5, c6, c7, c8, rfl⟩ := list9 hl
  obtain ⟨y0, h0⟩ := hone 0 _ rfl
  obtain ⟨y1, h1⟩ := hone 1 _ rfl
  obtain ⟨y2, h2⟩ := hone 2 _ rfl
  obtain ⟨y3, h3⟩ := hone 3 _ rfl
  obtain ⟨y4, h4⟩ := hone 4 _ rfl
  clear hone hf hlen
  change DataW.trod enc Tryz.prog W 0 spare held n 9 (([c0, c1, c2, c3, c4, c5, c6, c7, c8].drop 0).take (Tryz.prog.cellsOf 9)) = some y0 at h0
  change DataW.trod enc Tryz.prog W 0 spare held n 35 (([c0, c1, c2, c3, c4, c5, c6, c7, c8].drop 1).take (Tryz.prog.cellsOf 35)) = some y1 at h1
  change DataW.trod enc Tryz.prog W 0 spare held n 35 (([c0, c1, c2, c3, c4, c5, c6, c7, c8].drop 2).take (Tryz.prog.cellsOf 35)) = some y2 at h2
  change DataW.trod enc Tryz.prog W 0 spare held n 201 (([c0, c1, c2, c3, c4, c5, c6, c7, c8].drop 3).take (Tryz.prog.cellsOf 201)) = some y3 at h3
  change DataW.trod enc Tryz.prog W 0 spare held n 3 (([c0, c1, c2, c3, c4, c5, c6, c7, c8].drop 8).take (Tryz.prog.cellsOf 3)) = some y4 at h4
  rw [show Tryz.prog.cellsOf 9 = 1 by kernel_rfl] at h0
  rw [show Tryz.prog.cellsOf 35 = 1 by kernel_rfl] at h1 h2
  rw [show Tryz.prog.cellsOf 201 = 5 by kernel_rfl] at h3
  rw [show Tryz.prog.cellsOf 3 = 1 by kernel_rfl] at h4
  obtain ⟨s, e0, _, w0⟩ := DataW.trod_string Tryz.underlying9 h0
  obtain ⟨l1, hl1, hl2⟩ := open_strs _ _ _ h1
  obtain ⟨l2, hm1, hm2⟩ := open_strs _ _ _ h2
  obtain ⟨t, v, e3, hk, hok⟩ := open_tree _ _ _ h3
  obtain ⟨k, e4, _, _⟩ := DataW.trod_int Tryz.underlying3 h4
  have e0' : c0 = .string s := by simpa using e0
  have e4' : c8 = .int .i64 k := by simpa using e4
  have e3' : c3 = .int .i64 t.kind ∧ c4 = .string t.text ∧ c5 = .int .i64 t.num ∧ c6 = .int .i64 t.line ∧ c7 = v := by simpa using e3
  obtain ⟨rfl, rfl, rfl, rfl, rfl⟩ := e3'
  subst e0' e4'
  refine ⟨⟨s, l1, l2, t, k⟩, ⟨by show s.size ≤ _; unfold maxLen at w0; omega, hl1, hm1, hok⟩, fun j d hj => ?_⟩
  match j with
  | 0 => obtain rfl := Option.some.inj hj; exact ⟨_, rfl, by rw [Is]⟩
  | 1 => obtain rfl := Option.some.inj hj; exact ⟨_, rfl, hl2⟩
  | 2 => obtain rfl := Option.some.inj hj; exact ⟨_, rfl, hm2⟩
  | 3 => obtain rfl := Option.some.inj hj; exact ⟨_, rfl, by rw [Is]⟩
  | 4 => obtain rfl := Option.some.inj hj; exact ⟨_, rfl, by rw [Is]⟩
  | 5 => obtain rfl := Option.some.inj hj; exact ⟨_, rfl, by rw [Is]⟩
  | 6 => obtain rfl := Option.some.inj hj; exact ⟨_, rfl, by rw [Is]⟩
  | 7 => obtain rfl := Option.some.inj hj; exact ⟨_, rfl, is_of_kids hk⟩
  | 8 => obtain rfl := Option.some.inj hj; exact ⟨_, rfl, by rw [Is]⟩
  | j + 9 => simp [Pc.ds] at hj
theorem open_unit {H : Type} {enc : TypeId × Value → H} {W : World} {spare : Nat → Bool} {held : Bool} (fuel : Nat) (cs : List Value) (x : DataW H × List MemPlace) (h : DataW.trod enc Tryz.prog W 0 spare held fuel 53 cs = some x) : ∃ (u : Un) (v1 v2 v3 : Value), cs = [v1, v2, v3] ∧ u.Ok ∧ UnIs W u v1 v2 v3 := by
  obtain ⟨xs, n, rfl, _, hl, hlen, hf⟩ := DataW.trod_struct Tryz.underlying53 h
  rw [show Tryz.prog.cellsOf 53 = 3 by kernel_rfl] at hl
  have hone := cells_at (H := H) hlen hf
  obtain ⟨c0, c1, c2, rfl⟩ := list3 hl
  obtain ⟨y0, h0⟩ := hone 0 _ rfl
  obtain ⟨y1, h1⟩ := hone 1 _ rfl
  obtain ⟨y2, h2⟩ := hone 2 _ rfl
  clear hone hf hlen
  change DataW.trod enc Tryz.prog W 0 spare held n 50 (([c0, c1, c2].drop 0).take (Tryz.prog.cellsOf 50)) = some y0 at h0
  change DataW.trod enc Tryz.prog W 0 spare held n 35 (([c0, c1, c2].drop 1).take (Tryz.prog.cellsOf 35)) = some y1 at h1
  change DataW.trod enc Tryz.prog W 0 spare held n 51 (([c0, c1, c2].drop 2).take (Tryz.prog.cellsOf 51)) = some y2 at h2
  rw [show Tryz.prog.cellsOf 50 = 1 by kernel_rfl] at h0
  rw [show Tryz.prog.cellsOf 35 = 1 by kernel_rfl] at h1
  rw [show Tryz.prog.cellsOf 51 = 1 by kernel_rfl] at h2
  obtain ⟨rs, r1, r2, r3⟩ := open_rows Rc.ds Rc.Ok Rc.ds_len (by decide) Tryz.underlying50 (by kernel_rfl) open_rec _ _ _ h0
  obtain ⟨l, hl1, hl2⟩ := open_strs _ _ _ h1
  obtain ⟨ps, p1, p2, p3⟩ := open_rows Pc.ds Pc.Ok Pc.ds_len (by decide) Tryz.underlying51 (by kernel_rfl) open_proc _ _ _ h2
  exact ⟨⟨rs, l, ps⟩, c0, c1, c2, rfl, ⟨⟨by unfold maxLen at r2; show rs.length ≤ _; omega, r1⟩, hl1, by unfold maxLen at p2; show ps.length ≤ _; omega, p1⟩, r3, hl2, p3⟩
end Go.Proofs.YtkhcbahbffjnkaaGreatDoor
/- The program's copy of a list of texts; rows that are written over. No conditions. -/
namespace Go.Proofs.YtkhcbahbffjnkaaGreatDoor
open Go.RowKit
set_option linter.unusedVariables false

theorem txt_bound {l : List ByteArray} (h : strsB l ≤ 1048576) : ∀ s ∈ l, (s.size : Int) ≤ 1048576 := fun s hs => by
  have := wsum_mem ByteArray.size hs
  unfold strsB at h
  omega
theorem any_len (z : Nat) : (List.replicate z D.any).length = z := List.length_replicate
set_option maxRecDepth 100000 in
set_option maxHeartbeats 1600000 in
theorem impl_texts (v : Value) (l : List ByteArray) (w : World) (hk : Is w (strsD l) v) (hb : strsB l ≤ 1048576) : Calls Tryz.prog 103 #[v] w (RetD w (strsD l)) := by
  have hln : l.length ≤ 1048576 := by unfold strsB at hb; omega
  have HC := Lib.hid (clone_str v l w hk hln)
  unfold RetAny at HC
  have HZ := Lib.hid (txt_bound hb)
  obtain ⟨a, c, rfl⟩ := is_slice hk
  have HK := Lib.hid hk
  clear hk hb
  by_cases h0 : l = []
  · subst h0
    go_enter Tryz.func103, Tryz.ntmps103
    go_wp2_with fail
    refine HC.out.mono ?_
    rintro e w1 ⟨v1, rfl, hr, b1⟩
    obtain ⟨a1, c1, rfl⟩ : ∃ a1 c1, v1 = .slice a1 0 c1 := by
      rcases hr with ⟨_, a1, c1, e⟩ | ⟨h, _⟩
      · exact ⟨a1, c1, e⟩
      · exact absurd rfl h
    have B1 := Lib.hid b1
    clear hr b1
    go_wp2
    go_loopw [4, 5, 10] (fun _ _ i wr => i = .int .i64 0 ∧ wr = w1) (fun _ _ _ _ => 0)
    case atStart => exact ⟨rfl, rfl⟩
    case round =>
      obtain ⟨rfl, rfl⟩ := hrel
      go_wp2
      go_ret
      exact ⟨_, [], rfl, own_nil, (fun b hb => by cases hb), B1.out⟩
  · have H0 := Lib.hid h0
    clear h0
    go_enter Tryz.func103, Tryz.ntmps103
    go_wp2_with fail
    refine HC.out.mono ?_
    rintro e w1 ⟨v1, rfl, hr, b1⟩
    obtain ⟨g1, c1, rfl, hg, hrow, hgl⟩ : ∃ g1 c1, v1 = .slice (some ⟨g1, 0, none⟩) l.length c1 ∧ (l.length ≤ c1 ∧ w.heap.size ≤ g1) ∧ RowD w1 g1 0 (List.replicate (l.length * 1) D.any) (List.replicate (l.length * 1) []) ∧ g1 < w1.heap.size := by
      rcases hr with ⟨h, _⟩ | ⟨_, g1, c1, e, h1, h2, h3⟩
      · exact absurd (List.length_eq_zero_iff.1 h) H0.out
      · exact ⟨g1, c1, e, h1, h2, h3⟩
    have HST := Lib.hid (FillD.any (f := fun s => [D.str s]) (c := 0) hrow hgl b1)
    have HG := Lib.hid hg
    clear hr b1 hrow hgl HC
    go_wp2
    go_loopw [4, 5, 10] (fun _ _ i wr => ∃ k : Nat, i = .int .i64 k ∧ k ≤ l.length ∧ FillD (fun s => [D.str s]) (List.replicate 1 D.any) w g1 l k wr) (fun _ _ i _ => l.length - (intOf i).toNat)
    case atStart => exact ⟨0, rfl, Nat.zero_le _, HST.out⟩
    case round =>
      clear HST
      obtain ⟨k, rfl, hk, hat⟩ := hrel
      have HAT := Lib.hid hat
      have HB := Lib.hid hat.choose_spec.2.2.2
      by_cases hlt : k < l.length
      · obtain ⟨g, o, rfl, d1⟩ := str_at (HK.out.later HB.out) k hlt
        have HX := Lib.hid (clone8 l[k] wr (HZ.out _ (List.getElem_mem hlt)))
        have HN := Lib.hid (fun w2 (hb2 : Below wr.heap.size wr w2) es he ho hp => HAT.out.next (w1 := w2) (z := 1) (fun _ => rfl) (any_len 1) HG.out.2 hlt hb2 es he ho hp)
        have HF := Lib.hid (fun w2 hb => HAT.out.cell (w1 := w2) (z := 1) (fun _ => rfl) (any_len 1) (Nat.le_of_lt hlt) k (by omega) hb)
        have k0 : (0 : Int) ≤ k := by omega
        have k1 : (k : Int) < l.length := by omega
        clear hat HAT
        generalize l[k] = x at d1 HX HN
        go_wp2_with fail
        refine HX.out.mono ?_
        rintro e w2 ⟨rfl, hb2⟩
        have HN2 := Lib.hid (HN.out w2 hb2 [(.str x, .string x, [])] rfl (fun e he => by rw [List.mem_singleton] at he; subst he; exact ⟨own_str', fun b hb => by cases hb⟩) (List.pairwise_singleton _ _))
        obtain ⟨⟨e0, c0⟩, g0⟩ := HF.out w2 hb2
        rw [show k * 1 = k from Nat.mul_one k] at HN2
        clear hb2 HN HF
        go_wp2
        go_roundw
        case rel => exact ⟨k + 1, by go_num, by omega, HN2.out⟩
        case measure => first | (simp [intOf]; done) | (simp [intOf]; omega)
      · obtain rfl : k = l.length := by omega
        have HD := Lib.hid (HAT.out.done (cp := c1) (z := 1) (fun _ => rfl) (by decide) HG.out.2 HG.out.1)
        clear hat
        go_wp2
        go_ret
        obtain ⟨F, h1, h2, h3⟩ := HD.out
        rw [flat_str] at h1
        exact ⟨_, F, rfl, h1, h2, h3⟩
end Go.Proofs.YtkhcbahbffjnkaaGreatDoor
/- The program's LocalNames and ResolveName. The table reads as the program's text lays it. -/
namespace Go.Proofs.YtkhcbahbffjnkaaGreatDoor
open Go.RowKit
set_option linter.unusedVariables false

theorem strsB_app (a b : List ByteArray) : strsB (a ++ b) = strsB a + strsB b := by
  unfold strsB
  rw [wsum_app, List.length_append]; omega
theorem strsB_one (x : ByteArray) : strsB [x] = 1 + x.size := by unfold strsB; simp [wsum]
mutual
theorem coll_size (u : Un) : ∀ (t : Ex.T) (acc : List ByteArray), strsB (coll u t acc) ≤ strsB acc + (t.bulk + 1)
  | .node k t n l ks, acc => by
    rw [coll, Ex.T.bulk]
    have h := colls_size u ks acc
    split
    · split
      · rw [strsB_app, strsB_one]; omega
      · omega
    · omega
theorem colls_size (u : Un) : ∀ (ks : List Ex.T) (acc : List ByteArray), strsB (colls u ks acc) ≤ strsB acc + (ks.length + Ex.bulks ks)
  | [], acc => by rw [colls, Ex.bulks]; omega
  | x :: r, acc => by
    rw [colls, Ex.bulks, List.length_cons]
    have h1 := coll_size u x acc
    have h2 := colls_size u r (coll u x acc)
    omega
end
theorem locs_size {u : Un} (hb : u.bulk ≤ 1048576) {p : Pc} (hp : p ∈ u.procs) : strsB (locs u p) ≤ 1048576 := by
  have h1 := coll_size u p.body (p.params ++ p.locals)
  rw [strsB_app] at h1
  have h2 := wsum_mem Pc.bulk hp
  have h3 := List.length_pos_of_mem hp
  unfold locs
  unfold Un.bulk procsB at hb
  have h4 : p.bulk = p.name.size + (strsB p.params + (strsB p.locals + p.body.bulk)) := rfl
  omega
/-- Is the unit valid, and is there such a procedure? -/
def hasP (u : Un) (k : Int) : Bool := (decide (0 ≤ k) && decide (k < u.procs.length)) && u.valid
set_option maxRecDepth 100000 in
set_option maxHeartbeats 1600000 in
theorem impl_hasproc (u : Un) (hb : u.bulk ≤ 1048576) (k : Int) (w : World) (v1 v2 v3 : Value) (h : UnIs w u v1 v2 v3) : Calls Tryz.prog 102 #[unV v1 v2 v3, .int .i64 k] w fun e w' => e = .returned (.bool (hasP u k)) ∧ Below w.heap.size w w' := by
  obtain ⟨_, _, l3⟩ := un_lens hb
  obtain ⟨h1, h2, h3⟩ := h
  have HV := Lib.hid (fun W (hW : Below w.heap.size w W) => impl_validunit u hb W v1 v2 v3 ⟨h1.later hW, h2.later hW, h3.later hW⟩)
  obtain ⟨a1, c1, rfl⟩ := is_slice h1
  obtain ⟨a2, c2, rfl⟩ := is_slice h2
  obtain ⟨a3, c3, rfl⟩ := is_slice h3
  have B0 := Lib.hid (bl1 w (.cells #[.slice a1 u.recs.length c1, .slice a2 u.globs.length c2, .slice a3 u.procs.length c3] 38))
  have V0 := Lib.hid (Var.new w #[.slice a1 u.recs.length c1, .slice a2 u.globs.length c2, .slice a3 u.procs.length c3] 38)
  obtain ⟨w1, hw1⟩ : ∃ W, w.alloc (.cells #[.slice a1 u.recs.length c1, .slice a2 u.globs.length c2, .slice a3 u.procs.length c3] 38) = W := ⟨_, rfl⟩
  rw [hw1] at B0 V0
  have HW1 := Lib.hid hw1
  have HVC := Lib.hid (HV.out w1 B0.out)
  clear h1 h2 h3 hw1 HV hb
  by_cases hk0 : 0 ≤ k
  · by_cases hkn : k < u.procs.length
    · have HX : Hid (hasP u k = u.valid) := Lib.hid (by unfold hasP; rw [decide_eq_true hk0, decide_eq_true hkn]; rfl)
      rw [HX.out]
      generalize u.valid = b at HVC ⊢
      go_enter Tryz.func102, Tryz.ntmps102
      go_wp2_with fail
      rw [HW1.out]
      have x0 := (V0.out 0 _ rfl).1
      have x1 := (V0.out 1 _ rfl).1
      have x2 := (V0.out 2 _ rfl).1
      go_wp2_with fail
      refine HVC.out.mono ?_
      rintro e w2 ⟨rfl, b2⟩
      have B2 := Lib.hid (below_then B0.out b2)
      clear b2
      go_wp2
      go_ret
      exact ⟨rfl, B2.out⟩
    · have HX : Hid (hasP u k = false) := Lib.hid (by unfold hasP; rw [decide_eq_true hk0, decide_eq_false hkn]; rfl)
      rw [HX.out]
      go_enter Tryz.func102, Tryz.ntmps102
      go_wp2_with fail
      rw [HW1.out]
      have x0 := (V0.out 0 _ rfl).1
      have x1 := (V0.out 1 _ rfl).1
      have x2 := (V0.out 2 _ rfl).1
      go_wp2
      go_ret
      exact ⟨rfl, B0.out⟩
  · have HX : Hid (hasP u k = false) := Lib.hid (by unfold hasP; rw [decide_eq_false hk0]; rfl)
    rw [HX.out]
    go_enter Tryz.func102, Tryz.ntmps102
    go_wp2_with fail
    rw [HW1.out]
    have x0 := (V0.out 0 _ rfl).1
    have x1 := (V0.out 1 _ rfl).1
    have x2 := (V0.out 2 _ rfl).1
    go_wp2
    go_ret
    exact ⟨rfl, B0.out⟩
theorem hasP_no {u : Un} {k : Int} (h : hasP u k = false) : lnames u k = [] ∧ ∀ s, resv u k s = (0, 0) := by
  unfold hasP at h
  by_cases h1 : u.valid = true
  · by_cases h2 : 0 ≤ k
    · by_cases h3 : k < u.procs.length
      · rw [h1, decide_eq_true h2, decide_eq_true h3] at h; cases h
      · exact ⟨lnames_far (by omega), fun s => resv_far (by omega)⟩
    · exact ⟨lnames_neg (by omega), fun s => resv_neg (by omega)⟩
  · have h1 : u.valid = false := by simpa using h1
    exact ⟨lnames_bad h1, fun s => resv_bad h1⟩
theorem hasP_yes {u : Un} {k : Int} (h : hasP u k = true) : u.valid = true ∧ ∃ n : Nat, k = (n : Int) ∧ n < u.procs.length := by
  unfold hasP at h
  simp only [Bool.and_eq_true, decide_eq_true_eq] at h
  exact ⟨h.2, k.toNat, by omega, by omega⟩
theorem un_names {u : Un} (hb : u.bulk ≤ 1048576) (hv : u.valid = true) : UnNames u := by
  have hv2 := hv
  unfold Un.valid at hv2
  simp only [Bool.and_eq_true, decide_eq_true_eq] at hv2
  have hg := hv2.2.2.1
  unfold nmOk at hg
  simp only [Bool.and_eq_true, decide_eq_true_eq] at hg
  unfold Un.bulk recsB procsB at hb
  have hgs := fun s hs => str_bound (l := u.globs) (by omega) s hs
  refine ⟨fun r hr => ?_, fun s hs => by have := hgs s hs; unfold maxLen; omega, fun p hp => ?_, hv2.1, hg.2, hv2.2.1⟩
  · have h1 := wsum_mem Rc.bulk hr
    have h2 : r.bulk = r.name.size + strsB r.fields := rfl
    unfold maxLen; omega
  · have h1 := wsum_mem Pc.bulk hp
    have h2 : p.bulk = p.name.size + (strsB p.params + (strsB p.locals + p.body.bulk)) := rfl
    unfold maxLen; omega
theorem impl_scope (u : Un) (hb : u.bulk ≤ 1048576) (hv : u.valid = true) (w : World) (v1 v2 v3 : Value) (h : UnIs w u v1 v2 v3) (gu : Nat) (hu : Var w gu [v1, v2, v3]) (hN : NamesAt w) (n : Nat) (hn : n < u.procs.length) :
    Calls Tryz.prog 104 #[.pointer (some ⟨gu, 0, none⟩), .int .i64 (n : Int)] w (RetSc w (locs u u.procs[n]) (meanU u (locs u u.procs[n]))) := by
  have hpo := proc_ok hv (List.getElem_mem hn)
  have hv2 := hv
  unfold Un.valid at hv2
  simp only [Bool.and_eq_true, decide_eq_true_eq] at hv2
  have hpv := List.all_eq_true.1 hv2.2.2.2.2 u.procs[n] (List.getElem_mem hn)
  unfold Pc.valid exOk at hpv
  simp only [Bool.and_eq_true, decide_eq_true_eq] at hpv
  have hbb := hb
  unfold Un.bulk procsB at hbb
  have h1 : u.procs[n].bulk ≤ wsum Pc.bulk u.procs := wsum_mem Pc.bulk (List.getElem_mem hn)
  have h2 : u.procs[n].bulk = u.procs[n].name.size + (strsB u.procs[n].params + (strsB u.procs[n].locals + u.procs[n].body.bulk)) := rfl
  refine (callsIn_wide (n := 6)).1 (scope_in u (un_names hb hv) w v1 v2 v3 h gu 0 (hu 0 _ rfl).1 (hu 1 _ rfl).1 (hu 2 _ rfl).1 hN n hn (nk_valid _ 1 hpv.2.2.2.2.2.2) ⟨hpo.1, hpo.2.1⟩ (fun s hs => ?_) (by omega) hpo.2.2.2.1)
  have := str_bound (l := u.procs[n].params ++ u.procs[n].locals) (by rw [strsB_app]; omega) s hs
  unfold maxLen; omega
set_option maxRecDepth 100000 in
set_option maxHeartbeats 1600000 in
theorem impl_locals (u : Un) (hb : u.bulk ≤ 1048576) (k : Int) (w : World) (v1 v2 v3 : Value) (h : UnIs w u v1 v2 v3) (hN : NamesAt w) : Calls Tryz.prog 35 #[unV v1 v2 v3, .int .i64 k] w (RetD w (strsD (lnames u k))) := by
  unfold RetD
  have HU := Lib.hid (fun W (hW : Below w.heap.size w W) => (⟨h.1.later hW, h.2.1.later hW, h.2.2.later hW⟩ : UnIs W u v1 v2 v3))
  have HN := Lib.hid (fun W (hW : Below w.heap.size w W) => hN.later hW)
  have HH := Lib.hid (fun W (hW : Below w.heap.size w W) => impl_hasproc u hb k W v1 v2 v3 (HU.out W hW))
  obtain ⟨h1, h2, h3⟩ := h
  obtain ⟨a1, c1, rfl⟩ := is_slice h1
  obtain ⟨a2, c2, rfl⟩ := is_slice h2
  obtain ⟨a3, c3, rfl⟩ := is_slice h3
  have B0 := Lib.hid (bl1 w (.cells #[.slice a1 u.recs.length c1, .slice a2 u.globs.length c2, .slice a3 u.procs.length c3] 38))
  have V0 := Lib.hid (Var.new w #[.slice a1 u.recs.length c1, .slice a2 u.globs.length c2, .slice a3 u.procs.length c3] 38)
  obtain ⟨w1, hw1⟩ : ∃ W, w.alloc (.cells #[.slice a1 u.recs.length c1, .slice a2 u.globs.length c2, .slice a3 u.procs.length c3] 38) = W := ⟨_, rfl⟩
  rw [hw1] at B0 V0
  have HW1 := Lib.hid hw1
  have HVC := Lib.hid (HH.out w1 B0.out)
  have HBB := Lib.hid hb
  clear h1 h2 h3 hw1 HH hN hb
  cases hp : hasP u k
  case false =>
    rw [hp] at HVC
    rw [(hasP_no hp).1]
    clear hp
    go_enter Tryz.func35, Tryz.ntmps35
    go_wp2_with fail
    rw [HW1.out]
    have x0 := (V0.out 0 _ rfl).1
    have x1 := (V0.out 1 _ rfl).1
    have x2 := (V0.out 2 _ rfl).1
    go_wp2_with fail
    refine HVC.out.mono ?_
    rintro e w2 ⟨rfl, b2⟩
    have B2 := Lib.hid (below_then B0.out b2)
    clear b2
    go_wp2
    go_ret
    exact ⟨_, [], rfl, own_nil, (fun b hb => by cases hb), B2.out⟩
  case true =>
    rw [hp] at HVC
    obtain ⟨hv, n, rfl, hn⟩ := hasP_yes hp
    rw [lnames_at hv hn]
    have HS := Lib.hid (fun W (hW : Below w.heap.size w W) hvar => impl_scope u HBB.out hv W _ _ _ (HU.out W hW) w.heap.size hvar (HN.out W hW) n hn)
    unfold RetSc at HS
    have HLZ := Lib.hid (locs_size HBB.out (List.getElem_mem hn))
    generalize locs u u.procs[n] = L at HS HLZ ⊢
    clear hp hv hn
    have hfld : ∀ (a : Option Addr) (n c bm : Nat) (W : World), (Instr.field 137 (.agg #[.slice a n c, .map (some bm)]) 0).run Tryz.prog W = .ok (.slice a n c) W := fun a n c bm W => by kernel_rfl
    go_enter Tryz.func35, Tryz.ntmps35
    go_wp2_with fail
    rw [HW1.out]
    have x0 := (V0.out 0 _ rfl).1
    have x1 := (V0.out 1 _ rfl).1
    have x2 := (V0.out 2 _ rfl).1
    go_wp2_with fail
    refine HVC.out.mono ?_
    rintro e w2 ⟨rfl, b2⟩
    have HB2 := Lib.hid (below_then B0.out b2)
    have HV2 := Lib.hid (V0.out.later b2)
    clear b2 x0 x1 x2
    go_wp2_with fail
    refine (HS.out w2 HB2.out HV2.out).mono ?_
    rintro e w3 ⟨v3, bm, m3, rfl, o3, _, _, b3⟩
    have HB3 := Lib.hid (below_then HB2.out b3)
    have HT := Lib.hid (impl_texts _ L w3 (Is.strs_of_owns o3) HLZ.out)
    unfold RetD at HT
    obtain ⟨a5, c5, rfl⟩ := owns_slice o3
    clear o3 b3
    go_wp2_with fail
    refine HT.out.mono ?_
    rintro e w4 ⟨v4, F4, rfl, h4, f4, b4⟩
    have HB4 := Lib.hid (below_then HB3.out b4)
    have H4 := Lib.hid h4
    have HF4 : Hid (Foot w.heap.size w4 F4) := Lib.hid (fun b hb => ⟨Nat.le_trans HB3.out.size (f4 b hb).1, (f4 b hb).2⟩)
    clear h4 f4 b4
    go_wp2
    go_ret
    exact ⟨_, F4, rfl, H4.out, HF4.out, HB4.out⟩
end Go.Proofs.YtkhcbahbffjnkaaGreatDoor
