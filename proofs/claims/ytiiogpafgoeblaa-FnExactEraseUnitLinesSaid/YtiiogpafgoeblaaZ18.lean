/- Joined texts: U10, U18, U19. No conditions besides those that each states. -/
import Derived.Test.YtiiogpafgoeblaaZ10
import Derived.Test.YtiiogpafgoeblaaZ15
import Derived.Test.YtiiogpafgoeblaaZ17
/- A unit that came in. No conditions. -/
namespace Go.Proofs.Ytiiogpafgoeblaa
open Go.RowKit Go.Joins
open Go.Deep (choose_lt oneCellFields)
set_option linter.unusedVariables false

theorem is_of_kids {w : World} {ks : List Ex.T} {v : Value} (h : Kids w v ks) : Is w (.ex ks) v := by rw [Is]; exact h
/-- Cells that read as data, one after the other. -/
def IsV (W : World) (ds : List D) (cs : List Value) : Prop := ∀ (j : Nat) (d : D), ds[j]? = some d → ∃ u : Value, cs[j]? = some u ∧ Is W d u
/-- A slice of structs that came in, by its elements. -/
theorem open_rows {H : Type} {enc : TypeId × Value → H} {W : World} {spare : Nat → Bool} {held : Bool} {α : Type} [Inhabited α] (f : α → List D) (P : α → Prop) {z : Nat} (hz : ∀ x, (f x).length = z) (hz0 : 0 < z) {S E : TypeId} (hS : Try.prog.underlying S = some (.slice E)) (hE : Try.prog.cellsOf E = z)
    (he : ∀ (fuel : Nat) (cs : List Value) (x : DataW H × List MemPlace), DataW.trod enc Try.prog W 0 spare held fuel E cs = some x → ∃ a : α, P a ∧ IsV W (f a) cs) (fuel : Nat) (v : Value) (x : DataW H × List MemPlace) (h : DataW.trod enc Try.prog W 0 spare held fuel S [v] = some x) :
    ∃ l : List α, (∀ a ∈ l, P a) ∧ l.length ≤ maxLen ∧ Is W (.row l.length (l.flatMap f)) v := by
  rcases DataW.trod_slice hS h with ⟨e4, _⟩ | ⟨a, len, cap, elems, rest, n2, hn, e4, _, _, hlc, hcm, hel, hget, _, _⟩
  · simp only [List.cons.injEq, and_true] at e4
    subst e4
    exact ⟨[], (fun a h => by cases h), by simp, by rw [List.flatMap_nil, Is]; exact ⟨_, _, rfl, .inl rfl⟩⟩
  · simp only [List.cons.injEq, and_true] at e4
    subst e4
    rw [hE] at hget
    have hex : ∀ i, i < len → ∃ t : α, P t ∧ ∀ j d, (f t)[j]? = some d → ∃ u, W.cell? ((a.add (i * z)).add j) = some u ∧ Is W d u := by
      intro i hi
      have hg := hget i hi
      rw [List.getElem?_eq_getElem (by omega)] at hg
      obtain ⟨cs', hc, ht⟩ := Option.bind_eq_some_iff.1 hg
      obtain ⟨_, hcl, hcc⟩ := World.cells?_some hc
      obtain ⟨t, hP, hd⟩ := he _ _ _ ht
      refine ⟨t, hP, fun j d hj => ?_⟩
      obtain ⟨u, hu, hI⟩ := hd j d hj
      have hlt : j < cs'.length := (List.getElem?_eq_some_iff.1 hu).1
      exact ⟨u, (hcc j (by omega)).trans hu, hI⟩
    obtain ⟨T, hT⟩ := choose_lt hex
    refine ⟨(List.range len).map T, fun x hx => ?_, by simp; omega, ?_⟩
    · obtain ⟨i, hi, rfl⟩ := List.mem_map.1 hx
      exact (hT i (List.mem_range.1 hi)).1
    · rw [List.length_map, List.length_range, Is]
      refine ⟨_, _, rfl, ?_⟩
      by_cases h0 : len = 0
      · subst h0; exact .inl rfl
      · right
        obtain ⟨b, o, sp⟩ := a
        have hsp : sp = none := by
          obtain ⟨u, hu, _⟩ := (hT 0 (by omega)).2 0 _ (List.getElem?_eq_getElem (by rw [hz]; exact hz0))
          have := World.cell?_spot hu
          simpa [Addr.add] using this
        subst hsp
        refine ⟨b, o, rfl, isAll_of fun p d hp => ?_⟩
        have hlen : (((List.range len).map T).flatMap f).length = len * z := by rw [flat_len f hz, List.length_map, List.length_range]
        have hpl : p < len * z := by rw [← hlen]; exact (List.getElem?_eq_some_iff.1 hp).1
        have hdiv : p / z < len := Nat.div_lt_of_lt_mul (by rw [Nat.mul_comm]; exact hpl)
        have he2 : p = p / z * z + p % z := by rw [Nat.mul_comm]; exact (Nat.div_add_mod p z).symm
        have h1 := flat_at f hz ((List.range len).map T) (p / z) (p % z) (T (p / z)) (by rw [List.getElem?_map, List.getElem?_range hdiv]; rfl) (Nat.mod_lt _ hz0)
        rw [← he2, hp] at h1
        obtain ⟨u, hu, hI⟩ := (hT (p / z) hdiv).2 (p % z) d h1.symm
        rw [addr_add, addr_add, Nat.add_assoc, ← he2] at hu
        exact ⟨u, hu, hI⟩
theorem cells_at {H : Type} {enc : TypeId × Value → H} {W : World} {base n : Nat} {spare : Nat → Bool} {held : Bool} {fs : Array Field} {cs : List Value} {xs : List (DataW H × List MemPlace)} (hlen : xs.length = fs.size)
    (hf : ∀ (i : Nat) (f : Field), fs[i]? = some f → DataW.trod enc Try.prog W base spare held n f.type ((cs.drop f.offset).take (Try.prog.cellsOf f.type)) = xs[i]?) (i : Nat) (f : Field) (hfi : fs[i]? = some f) : ∃ y, DataW.trod enc Try.prog W base spare held n f.type ((cs.drop f.offset).take (Try.prog.cellsOf f.type)) = some y := by
  have h := hf i f hfi
  rw [List.getElem?_eq_getElem (by rw [hlen]; exact (Array.getElem?_eq_some_iff.1 hfi).1)] at h
  exact ⟨_, h⟩
theorem open_str1 {H : Type} {enc : TypeId × Value → H} {W : World} {spare : Nat → Bool} {held : Bool} (fuel : Nat) (cs : List Value) (x : DataW H × List MemPlace) (h : DataW.trod enc Try.prog W 0 spare held fuel 9 cs = some x) : ∃ s : ByteArray, s.size ≤ 9223372036854775807 ∧ IsV W [.str s] cs := by
  obtain ⟨s, rfl, _, w1⟩ := DataW.trod_string Try.underlying9 h
  refine ⟨s, by unfold maxLen at w1; omega, fun j d hj => ?_⟩
  match j with
  | 0 => obtain rfl := Option.some.inj hj; exact ⟨_, rfl, by rw [Is]⟩
  | j + 1 => simp at hj
theorem flat_str (l : List ByteArray) : (l.flatMap fun s => [D.str s]) = l.map D.str := by
  induction l with
  | nil => rfl
  | cons s r ih => rw [List.flatMap_cons, ih]; rfl
theorem open_strs {H : Type} {enc : TypeId × Value → H} {W : World} {spare : Nat → Bool} {held : Bool} (fuel : Nat) (v : Value) (x : DataW H × List MemPlace) (h : DataW.trod enc Try.prog W 0 spare held fuel 23 [v] = some x) : ∃ l : List ByteArray, StrsOk l ∧ Is W (strsD l) v := by
  obtain ⟨l, h1, h2, h3⟩ := open_rows (fun s => [D.str s]) (fun s : ByteArray => s.size ≤ 9223372036854775807) (fun _ => rfl) (by decide) Try.underlying23 (by kernel_rfl) open_str1 fuel v x h
  rw [flat_str] at h3
  exact ⟨l, ⟨by unfold maxLen at h2; omega, h1⟩, h3⟩
instance : Inhabited Rc := ⟨⟨ByteArray.empty, [], 0⟩⟩
instance : Inhabited Pc := ⟨⟨ByteArray.empty, [], [], default, 0⟩⟩
theorem list3 {α : Type} {l : List α} (h : l.length = 3) : ∃ a b c, l = [a, b, c] := by
  match l, h with
  | [a, b, c], _ => exact ⟨a, b, c, rfl⟩
theorem list9 {α : Type} {l : List α} (h : l.length = 9) : ∃ a b c d e f g i j, l = [a, b, c, d, e, f, g, i, j] := by
  match l, h with
  | [a, b, c, d, e, f, g, i, j], _ => exact ⟨a, b, c, d, e, f, g, i, j, rfl⟩
theorem open_rec {H : Type} {enc : TypeId × Value → H} {W : World} {spare : Nat → Bool} {held : Bool} (fuel : Nat) (cs : List Value) (x : DataW H × List MemPlace) (h : DataW.trod enc Try.prog W 0 spare held fuel 77 cs = some x) : ∃ r : Rc, r.Ok ∧ IsV W r.ds cs := by
  obtain ⟨xs, n, rfl, _, hl, hlen, hf⟩ := DataW.trod_struct Try.underlying77 h
  rw [show Try.prog.cellsOf 77 = 3 by kernel_rfl] at hl
  have hone := cells_at (H := H) hlen hf
  obtain ⟨c0, c1, c2, rfl⟩ := list3 hl
  obtain ⟨y0, h0⟩ := hone 0 _ rfl
  obtain ⟨y1, h1⟩ := hone 1 _ rfl
  obtain ⟨y2, h2⟩ := hone 2 _ rfl
  clear hone hf hlen
  change DataW.trod enc Try.prog W 0 spare held n 9 (([c0, c1, c2].drop 0).take (Try.prog.cellsOf 9)) = some y0 at h0
  change DataW.trod enc Try.prog W 0 spare held n 23 (([c0, c1, c2].drop 1).take (Try.prog.cellsOf 23)) = some y1 at h1
  change DataW.trod enc Try.prog W 0 spare held n 3 (([c0, c1, c2].drop 2).take (Try.prog.cellsOf 3)) = some y2 at h2
  rw [show Try.prog.cellsOf 9 = 1 by kernel_rfl] at h0
  rw [show Try.prog.cellsOf 23 = 1 by kernel_rfl] at h1
  rw [show Try.prog.cellsOf 3 = 1 by kernel_rfl] at h2
  obtain ⟨s, e0, _, w0⟩ := DataW.trod_string Try.underlying9 h0
  obtain ⟨l, hl1, hl2⟩ := open_strs _ _ _ h1
  obtain ⟨k, e2, _, _⟩ := DataW.trod_int Try.underlying3 h2
  have e0' : c0 = .string s := by simpa using e0
  have e2' : c2 = .int .i64 k := by simpa using e2
  subst e0' e2'
  refine ⟨⟨s, l, k⟩, ⟨by show s.size ≤ _; unfold maxLen at w0; omega, hl1⟩, fun j d hj => ?_⟩
  match j with
  | 0 => obtain rfl := Option.some.inj hj; exact ⟨_, rfl, by rw [Is]⟩
  | 1 => obtain rfl := Option.some.inj hj; exact ⟨_, rfl, hl2⟩
  | 2 => obtain rfl := Option.some.inj hj; exact ⟨_, rfl, by rw [Is]⟩
  | j + 3 => simp [Rc.ds] at hj
theorem open_proc {H : Type} {enc : TypeId × Value → H} {W : World} {spare : Nat → Bool} {held : Bool} (fuel : Nat) (cs : List Value) (x : DataW H × List MemPlace) (h : DataW.trod enc Try.prog W 0 spare held fuel 80 cs = some x) : ∃ r : Pc, r.Ok ∧ IsV W r.ds cs := by
  obtain ⟨xs, n, rfl, _, hl, hlen, hf⟩ := DataW.trod_struct Try.underlying80 h
  rw [show Try.prog.cellsOf 80 = 9 by kernel_rfl] at hl
  have hone := cells_at (H := H) hlen hf
  obtain ⟨c0, c1, c2, c3, c4, c5, c6, c7, c8, rfl⟩ := list9 hl
  obtain ⟨y0, h0⟩ := hone 0 _ rfl
  obtain ⟨y1, h1⟩ := hone 1 _ rfl
  obtain ⟨y2, h2⟩ := hone 2 _ rfl
  obtain ⟨y3, h3⟩ := hone 3 _ rfl
  obtain ⟨y4, h4⟩ := hone 4 _ rfl
  clear hone hf hlen
  change DataW.trod enc Try.prog W 0 spare held n 9 (([c0, c1, c2, c3, c4, c5, c6, c7, c8].drop 0).take (Try.prog.cellsOf 9)) = some y0 at h0
  change DataW.trod enc Try.prog W 0 spare held n 23 (([c0, c1, c2, c3, c4, c5, c6, c7, c8].drop 1).take (Try.prog.cellsOf 23)) = some y1 at h1
  change DataW.trod enc Try.prog W 0 spare held n 23 (([c0, c1, c2, c3, c4, c5, c6, c7, c8].drop 2).take (Try.prog.cellsOf 23)) = some y2 at h2
  change DataW.trod enc Try.prog W 0 spare held n 39 (([c0, c1, c2, c3, c4, c5, c6, c7, c8].drop 3).take (Try.prog.cellsOf 39)) = some y3 at h3
  change DataW.trod enc Try.prog W 0 spare held n 3 (([c0, c1, c2, c3, c4, c5, c6, c7, c8].drop 8).take (Try.prog.cellsOf 3)) = some y4 at h4
  rw [show Try.prog.cellsOf 9 = 1 by kernel_rfl] at h0
  rw [show Try.prog.cellsOf 23 = 1 by kernel_rfl] at h1 h2
  rw [show Try.prog.cellsOf 39 = 5 by kernel_rfl] at h3
  rw [show Try.prog.cellsOf 3 = 1 by kernel_rfl] at h4
  obtain ⟨s, e0, _, w0⟩ := DataW.trod_string Try.underlying9 h0
  obtain ⟨l1, hl1, hl2⟩ := open_strs _ _ _ h1
  obtain ⟨l2, hm1, hm2⟩ := open_strs _ _ _ h2
  obtain ⟨t, v, e3, hk, hok⟩ := open_tree _ _ _ h3
  obtain ⟨k, e4, _, _⟩ := DataW.trod_int Try.underlying3 h4
  have e0' : c0 = .string s := by simpa using e0
  have e4' : c8 = .int .i64 k := by simpa using e4
  have e3' : c3 = .int .i64 t.kind ∧ c4 = .string t.text ∧ c5 = .int .i64 t.num ∧ c6 = .int .i64 t.line ∧ c7 = v := by simpa using e3
  obtain ⟨rfl, rfl, rfl, rfl, rfl⟩ := e3'
  subst e0' e4'
  refine ⟨⟨s, l1, l2, t, k⟩, ⟨by show s.size ≤ _; unfold maxLen at w0; omega, hl1, hm1, hok⟩, fun j d hj => ?_⟩
  match j with
  | 0 => obtain rfl := Option.some.inj hj; exact ⟨_, rfl, by rw [Is]⟩
  | 1 => obtain rfl := Option.some.inj hj; exact ⟨_, rfl, hl2⟩
  | 2 => obtain rfl := Option.some.inj hj; exact ⟨_, rfl, hm2⟩
  | 3 => obtain rfl := Option.some.inj hj; exact ⟨_, rfl, by rw [Is]⟩
  | 4 => obtain rfl := Option.some.inj hj; exact ⟨_, rfl, by rw [Is]⟩
  | 5 => obtain rfl := Option.some.inj hj; exact ⟨_, rfl, by rw [Is]⟩
  | 6 => obtain rfl := Option.some.inj hj; exact ⟨_, rfl, by rw [Is]⟩
  | 7 => obtain rfl := Option.some.inj hj; exact ⟨_, rfl, is_of_kids hk⟩
  | 8 => obtain rfl := Option.some.inj hj; exact ⟨_, rfl, by rw [Is]⟩
  | j + 9 => simp [Pc.ds] at hj
theorem open_unit {H : Type} {enc : TypeId × Value → H} {W : World} {spare : Nat → Bool} {held : Bool} (fuel : Nat) (cs : List Value) (x : DataW H × List MemPlace) (h : DataW.trod enc Try.prog W 0 spare held fuel 26 cs = some x) : ∃ (u : Un) (v1 v2 v3 : Value), cs = [v1, v2, v3] ∧ u.Ok ∧ UnIs W u v1 v2 v3 := by
  obtain ⟨xs, n, rfl, _, hl, hlen, hf⟩ := DataW.trod_struct Try.underlying26 h
  rw [show Try.prog.cellsOf 26 = 3 by kernel_rfl] at hl
  have hone := cells_at (H := H) hlen hf
  obtain ⟨c0, c1, c2, rfl⟩ := list3 hl
  obtain ⟨y0, h0⟩ := hone 0 _ rfl
  obtain ⟨y1, h1⟩ := hone 1 _ rfl
  obtain ⟨y2, h2⟩ := hone 2 _ rfl
  clear hone hf hlen
  change DataW.trod enc Try.prog W 0 spare held n 22 (([c0, c1, c2].drop 0).take (Try.prog.cellsOf 22)) = some y0 at h0
  change DataW.trod enc Try.prog W 0 spare held n 23 (([c0, c1, c2].drop 1).take (Try.prog.cellsOf 23)) = some y1 at h1
  change DataW.trod enc Try.prog W 0 spare held n 24 (([c0, c1, c2].drop 2).take (Try.prog.cellsOf 24)) = some y2 at h2
  rw [show Try.prog.cellsOf 22 = 1 by kernel_rfl] at h0
  rw [show Try.prog.cellsOf 23 = 1 by kernel_rfl] at h1
  rw [show Try.prog.cellsOf 24 = 1 by kernel_rfl] at h2
  obtain ⟨rs, r1, r2, r3⟩ := open_rows Rc.ds Rc.Ok Rc.ds_len (by decide) Try.underlying22 (by kernel_rfl) open_rec _ _ _ h0
  obtain ⟨l, hl1, hl2⟩ := open_strs _ _ _ h1
  obtain ⟨ps, p1, p2, p3⟩ := open_rows Pc.ds Pc.Ok Pc.ds_len (by decide) Try.underlying24 (by kernel_rfl) open_proc _ _ _ h2
  exact ⟨⟨rs, l, ps⟩, c0, c1, c2, rfl, ⟨⟨by unfold maxLen at r2; show rs.length ≤ _; omega, r1⟩, hl1, by unfold maxLen at p2; show ps.length ≤ _; omega, p1⟩, r3, hl2, p3⟩
end Go.Proofs.Ytiiogpafgoeblaa
/- The program's copy of a list of texts; rows that are written over. No conditions. -/
namespace Go.Proofs.Ytiiogpafgoeblaa
open Go.RowKit
set_option linter.unusedVariables false

theorem txt_bound {l : List ByteArray} (h : strsB l ≤ 1048576) : ∀ s ∈ l, (s.size : Int) ≤ 1048576 := fun s hs => by
  have := wsum_mem ByteArray.size hs
  unfold strsB at h
  omega
theorem any_len (z : Nat) : (List.replicate z D.any).length = z := List.length_replicate
set_option maxRecDepth 100000 in
set_option maxHeartbeats 1600000 in
theorem impl_texts (v : Value) (l : List ByteArray) (w : World) (hk : Is w (strsD l) v) (hb : strsB l ≤ 1048576) : Calls Try.prog 25 #[v] w (RetD w (strsD l)) := by
  have hln : l.length ≤ 1048576 := by unfold strsB at hb; omega
  have HC := Lib.hid (clone_str v l w hk hln)
  unfold RetAny at HC
  have HZ := Lib.hid (txt_bound hb)
  obtain ⟨a, c, rfl⟩ := is_slice hk
  have HK := Lib.hid hk
  clear hk hb
  by_cases h0 : l = []
  · subst h0
    go_enter Try.func25, Try.ntmps25
    go_wp2_with fail
    refine HC.out.mono ?_
    rintro e w1 ⟨v1, rfl, hr, b1⟩
    obtain ⟨a1, c1, rfl⟩ : ∃ a1 c1, v1 = .slice a1 0 c1 := by
      rcases hr with ⟨_, a1, c1, e⟩ | ⟨h, _⟩
      · exact ⟨a1, c1, e⟩
      · exact absurd rfl h
    have B1 := Lib.hid b1
    clear hr b1
    go_wp2
    go_loopw [4, 5, 10] (fun _ _ i wr => i = .int .i64 0 ∧ wr = w1) (fun _ _ _ _ => 0)
    case atStart => exact ⟨rfl, rfl⟩
    case round =>
      obtain ⟨rfl, rfl⟩ := hrel
      go_wp2
      go_ret
      exact ⟨_, [], rfl, own_nil, (fun b hb => by cases hb), B1.out⟩
  · have H0 := Lib.hid h0
    clear h0
    go_enter Try.func25, Try.ntmps25
    go_wp2_with fail
    refine HC.out.mono ?_
    rintro e w1 ⟨v1, rfl, hr, b1⟩
    obtain ⟨g1, c1, rfl, hg, hrow, hgl⟩ : ∃ g1 c1, v1 = .slice (some ⟨g1, 0, none⟩) l.length c1 ∧ w.heap.size ≤ g1 ∧ RowD w1 g1 0 (List.replicate (l.length * 1) D.any) (List.replicate (l.length * 1) []) ∧ g1 < w1.heap.size := by
      rcases hr with ⟨h, _⟩ | ⟨_, g1, c1, e, h1, h2, h3⟩
      · exact absurd (List.length_eq_zero_iff.1 h) H0.out
      · exact ⟨g1, c1, e, h1, h2, h3⟩
    have HST := Lib.hid (FillD.any (f := fun s => [D.str s]) (c := 0) hrow hgl b1)
    have HG := Lib.hid hg
    clear hr b1 hrow hgl HC
    go_wp2
    go_loopw [4, 5, 10] (fun _ _ i wr => ∃ k : Nat, i = .int .i64 k ∧ k ≤ l.length ∧ FillD (fun s => [D.str s]) (List.replicate 1 D.any) w g1 l k wr) (fun _ _ i _ => l.length - (intOf i).toNat)
    case atStart => exact ⟨0, rfl, Nat.zero_le _, HST.out⟩
    case round =>
      clear HST
      obtain ⟨k, rfl, hk, hat⟩ := hrel
      have HAT := Lib.hid hat
      have HB := Lib.hid hat.choose_spec.2.2.2
      by_cases hlt : k < l.length
      · obtain ⟨g, o, rfl, d1⟩ := str_at (HK.out.later HB.out) k hlt
        have HX := Lib.hid (clone8 l[k] wr (HZ.out _ (List.getElem_mem hlt)))
        have HN := Lib.hid (fun w2 (hb2 : Below wr.heap.size wr w2) es he ho hp => HAT.out.next (w1 := w2) (z := 1) (fun _ => rfl) (any_len 1) HG.out hlt hb2 es he ho hp)
        have HF := Lib.hid (fun w2 hb => HAT.out.cell (w1 := w2) (z := 1) (fun _ => rfl) (any_len 1) (Nat.le_of_lt hlt) k (by omega) hb)
        have k0 : (0 : Int) ≤ k := by omega
        have k1 : (k : Int) < l.length := by omega
        clear hat HAT
        generalize l[k] = x at d1 HX HN
        go_wp2_with fail
        refine HX.out.mono ?_
        rintro e w2 ⟨rfl, hb2⟩
        have HN2 := Lib.hid (HN.out w2 hb2 [(.str x, .string x, [])] rfl (fun e he => by rw [List.mem_singleton] at he; subst he; exact ⟨own_str', fun b hb => by cases hb⟩) (List.pairwise_singleton _ _))
        obtain ⟨⟨e0, c0⟩, g0⟩ := HF.out w2 hb2
        rw [show k * 1 = k from Nat.mul_one k] at HN2
        clear hb2 HN HF
        go_wp2
        go_roundw
        case rel => exact ⟨k + 1, by go_num, by omega, HN2.out⟩
        case measure => first | (simp [intOf]; done) | (simp [intOf]; omega)
      · obtain rfl : k = l.length := by omega
        have HD := Lib.hid (HAT.out.done (cp := c1) (z := 1) (fun _ => rfl) (by decide) HG.out)
        clear hat
        go_wp2
        go_ret
        obtain ⟨F, h1, h2, h3⟩ := HD.out
        rw [flat_str] at h1
        exact ⟨_, F, rfl, h1, h2, h3⟩
end Go.Proofs.Ytiiogpafgoeblaa
/- Rows that are written over, element by element; what the program's EraseUnitLines starts with. No conditions. -/
namespace Go.Proofs.Ytiiogpafgoeblaa
open Go.RowKit
set_option linter.unusedVariables false

theorem heldA_mk {w0 W : World} {n : Nat} (h : Below n w0 W) : True ∧ Below n w0 W := ⟨trivial, h⟩
theorem putAll_only {g : Nat} {w : World} : ∀ (es : List (D × Value × List Nat)) (w1 : World) (o : Nat), OnlyF [g] w w1 → OnlyF [g] w (putAll w1 g o es) := by
  intro es
  induction es with
  | nil => intro w1 o h; exact h
  | cons e r ih => intro w1 o h; rw [putAll]; exact ih _ _ (h.set (by simp) o _)
/-- A row of the call's own that is written over: the first k elements are new. -/
def FillM {α : Type} (f : α → List D) (zero : List D) (WL : World) (g : Nat) (xs : List α) (k : Nat) (wr : World) : Prop := ∃ Fs, RowD wr g 0 ((xs.take k).flatMap f ++ (List.replicate (xs.length - k) ()).flatMap fun _ => zero) Fs ∧ (∀ b ∈ Fs.flatten, WL.heap.size ≤ b ∧ b < wr.heap.size) ∧ g < WL.heap.size ∧ OnlyF [g] WL wr
theorem FillM.start {α : Type} {f : α → List D} {WL : World} {g z : Nat} {xs : List α} (h : RowD WL g 0 (List.replicate (xs.length * z) D.any) (List.replicate (xs.length * z) [])) (hg : g < WL.heap.size) : FillM f (List.replicate z D.any) WL g xs 0 WL := by
  rw [FillM, List.take_zero, List.flatMap_nil, List.nil_append, Nat.sub_zero, flat_any]
  exact ⟨_, h, fun b hb2 => by simp at hb2, hg, OnlyF.refl _ _⟩
theorem FillM.next {α : Type} {f : α → List D} {zero : List D} {WL wr w1 : World} {g k z : Nat} {xs : List α} (h : FillM f zero WL g xs k wr) (hf : ∀ x, (f x).length = z) (hzl : zero.length = z) (hk : k < xs.length) (hb : Below wr.heap.size wr w1) (es : List (D × Value × List Nat)) (he : es.map (fun e => e.1) = f xs[k]) (ho : ∀ e ∈ es, Own w1 e.1 e.2.1 e.2.2 ∧ ∀ b ∈ e.2.2, wr.heap.size ≤ b ∧ b < w1.heap.size) (hp : es.Pairwise (fun x y => Apart x.2.2 y.2.2)) : FillM f zero WL g xs (k + 1) (putAll w1 g (k * z) es) := by
  obtain ⟨Fs, hr, hF, hgl, hO⟩ := h
  have hsz := hO.1.size
  have hel : es.length = z := by rw [← hf xs[k], ← he, List.length_map]
  have hr1 := hr.keep (hb.block g (by omega)) (fun b hb2 => hb.block b (hF b hb2).2)
  have htk : ((xs.take k).flatMap f).length = k * z := by rw [flat_len f hf, List.length_take, Nat.min_eq_left (by omega)]
  have hrep : List.replicate (xs.length - k) () = () :: List.replicate (xs.length - (k + 1)) () := by
    rw [show xs.length - k = (xs.length - (k + 1)) + 1 by omega, List.replicate_succ]
  have hps := RowD.puts es w1 (k * z) _ Fs hr1 (by rw [List.length_append, htk, hrep, List.flatMap_cons, List.length_append, hzl]; omega) (fun e he2 => ⟨(ho e he2).1, fun hb2 => by have := ((ho e he2).2 g hb2).1; omega, fun b hb1 hb2 => by have h1 := (hF b hb1).2; have h2 := ((ho e he2).2 b hb2).1; omega⟩) hp
  rw [Nat.zero_add] at hps
  refine ⟨setAll Fs (k * z) (es.map fun e => e.2.2), ?_, fun b hb2 => ?_, hgl, putAll_only es w1 _ (hO.later hb)⟩
  · have e : setAll ((xs.take k).flatMap f ++ (List.replicate (xs.length - k) ()).flatMap fun _ => zero) (k * z) (es.map fun e => e.1) = (xs.take (k + 1)).flatMap f ++ (List.replicate (xs.length - (k + 1)) ()).flatMap fun _ => zero := by
      rw [hrep, List.flatMap_cons, ← List.append_assoc, ← htk, setAll_mid _ _ _ _ (by rw [List.length_map, hel, hzl]), he, List.take_succ_eq_append_getElem hk, List.flatMap_append]
      simp
    rw [e] at hps
    exact hps
  · rw [putAll_size]
    have hs := hb.size
    rcases mem_setAll _ _ _ hb2 with hb2 | hb2
    · have := hF b hb2; omega
    · obtain ⟨K, hK, hb3⟩ := List.mem_flatten.1 hb2
      obtain ⟨e, he2, rfl⟩ := List.mem_map.1 hK
      have := (ho e he2).2 b hb3; omega
theorem FillM.cell {α : Type} {f : α → List D} {zero : List D} {WL wr w1 : World} {g k z : Nat} {xs : List α} (h : FillM f zero WL g xs k wr) (hf : ∀ x, (f x).length = z) (hzl : zero.length = z) (hk : k ≤ xs.length) (j : Nat) (hj : j < xs.length * z) (hb : Below wr.heap.size wr w1) : (∃ u, w1.cell? ⟨g, j, none⟩ = some u) ∧ w1.frozen? ⟨g, j, none⟩ = false := by
  obtain ⟨Fs, hr, hF, hgl, hO⟩ := h
  have hsz := hO.1.size
  have hl : ((xs.take k).flatMap f ++ (List.replicate (xs.length - k) ()).flatMap fun _ => zero).length = xs.length * z := by
    rw [List.length_append, flat_len f hf, flat_len (fun _ => zero) (fun _ => hzl), List.length_take, List.length_replicate, Nat.min_eq_left hk, ← Nat.add_mul]
    congr 1; omega
  obtain ⟨u, G, _, hc, hfz, _⟩ := (hr.keep (hb.block g (by omega)) (fun b hb2 => hb.block b (hF b hb2).2)).2.2 j _ (List.getElem?_eq_getElem (by rw [hl]; exact hj))
  rw [Nat.zero_add] at hc hfz
  exact ⟨⟨u, hc⟩, hfz⟩
theorem FillM.done {α : Type} {f : α → List D} {zero : List D} {WL wr : World} {g z : Nat} {xs : List α} (h : FillM f zero WL g xs xs.length wr) (hf : ∀ x, (f x).length = z) (hz0 : 0 < z) (h0 : xs ≠ []) {cp : Nat} : ∃ F, Own wr (.row xs.length (xs.flatMap f)) (.slice (some ⟨g, 0, none⟩) xs.length cp) (g :: F) ∧ (∀ b ∈ F, WL.heap.size ≤ b ∧ b < wr.heap.size) := by
  obtain ⟨Fs, hr, hF, hgl, hO⟩ := h
  rw [List.take_length, Nat.sub_self, List.replicate_zero, List.flatMap_nil, List.append_nil] at hr
  refine ⟨_, own_of_rowD hr (fun e => ?_), hF⟩
  have h3 := congrArg List.length e
  rw [flat_len f hf] at h3
  have h4 := List.length_pos_iff.2 h0
  have h5 : 0 < xs.length * z := Nat.mul_pos h4 hz0
  simp only [List.length_nil] at h3
  omega
/-- A row, or none where there is no element. -/
def RowM {α : Type} (f : α → List D) (z : Nat) (WL : World) (xs : List α) (k : Nat) (v : Value) (wr : World) : Prop := (xs = [] ∧ (∃ a c, v = .slice a 0 c) ∧ OnlyF [] WL wr) ∨ (xs ≠ [] ∧ ∃ g c, v = .slice (some ⟨g, 0, none⟩) xs.length c ∧ FillM f (List.replicate z D.any) WL g xs k wr)
theorem AnyRow.keep {z n B : Nat} {w w' : World} {v : Value} (h : AnyRow z n B w v) (hs : w.heap.size ≤ w'.heap.size) (hb : ∀ b, v.ownBlock = some b → w'.heap[b]? = w.heap[b]?) : AnyRow z n B w' v := by
  rcases h with h | ⟨h0, g, c, rfl, h1, h2, h3⟩
  · exact .inl h
  · exact .inr ⟨h0, g, c, rfl, h1, h2.keep (hb g rfl) (fun b hb2 => by simp at hb2), Nat.lt_of_lt_of_le h3 hs⟩
theorem AnyRow.slice {z n B : Nat} {w : World} {v : Value} (h : AnyRow z n B w v) : ∃ a c, v = .slice a n c := by
  rcases h with ⟨rfl, h⟩ | ⟨h0, g, c, rfl, _⟩
  · exact h
  · exact ⟨_, _, rfl⟩
/-- Where its block lies, if it has one that counts. -/
def Own1 (v : Value) (n : Nat) (P : Nat → Prop) : Prop := n ≠ 0 → ∀ b, v.ownBlock = some b → P b
theorem AnyRow.own1 {z n B : Nat} {w : World} {v : Value} (h : AnyRow z n B w v) : Own1 v n fun b => B ≤ b ∧ b < w.heap.size := by
  intro h0 b hb
  rcases h with ⟨rfl, _⟩ | ⟨_, g, c, rfl, h1, _, h3⟩
  · exact absurd rfl h0
  · cases hb; exact ⟨h1, h3⟩
theorem AnyRow.move {z n B C : Nat} {w w' : World} {v : Value} (h : AnyRow z n B w v) (hC : C ≤ B) (hs : w.heap.size ≤ w'.heap.size) (hb : ∀ b, B ≤ b → b < w.heap.size → w'.heap[b]? = w.heap[b]?) : AnyRow z n C w' v := by
  rcases h with h | ⟨h0, g, c, rfl, h1, h2, h3⟩
  · exact .inl h
  · exact .inr ⟨h0, g, c, rfl, Nat.le_trans hC h1, h2.keep (hb g h1 h3) (fun b hb2 => by simp at hb2), Nat.lt_of_lt_of_le h3 hs⟩
theorem AnyRow.rowM {α : Type} {f : α → List D} {z B : Nat} {w : World} {xs : List α} {v : Value} (h : AnyRow z xs.length B w v) : RowM f z w xs 0 v w := by
  rcases h with ⟨h0, h⟩ | ⟨h0, g, c, rfl, h1, h2, h3⟩
  · exact .inl ⟨List.length_eq_zero_iff.1 h0, h, OnlyF.refl _ _⟩
  · exact .inr ⟨fun e => h0 (by rw [e]; rfl), g, c, rfl, FillM.start h2 h3⟩
/-- What lies in memory behind the program's first statement. -/
def EiS (w : World) (A : List Value) (b3 : Nat) (c0 c1 c2 : Value) (l : List ByteArray) (Fg : List Nat) (n0 n2 : Nat) (wr : World) : Prop := (Var wr w.heap.size A ∧ Var wr (w.heap.size + 1) [.slice none 0 0, .slice none 0 0, .slice none 0 0] ∧ Var wr b3 [c0, c1, c2]) ∧ (AnyRow 3 n0 (w.heap.size + 2) wr c0 ∧ Own wr (strsD l) c1 Fg ∧ AnyRow 9 n2 (w.heap.size + 2) wr c2) ∧ Below w.heap.size w wr ∧ (w.heap.size + 2 ≤ b3 ∧ b3 < wr.heap.size) ∧ (∀ b ∈ Fg, w.heap.size + 2 ≤ b ∧ b < wr.heap.size ∧ b ≠ b3) ∧ Own1 c0 n0 (fun b => b ≠ b3 ∧ b ∉ Fg ∧ (n2 ≠ 0 → c2.ownBlock ≠ some b)) ∧ Own1 c2 n2 (fun b => b ≠ b3 ∧ b ∉ Fg)
theorem eis_of {w W2 a0 w5 a1 w6 a2 w7 wx : World} {A : List Value} {b3 : Nat} {c0 c1 c2 : Value} {l : List ByteArray} {Fg : List Nat} {n0 n2 : Nat} (hw : W2.heap.size = w.heap.size + 2) (hA : Var W2 w.heap.size A) (hZ : Var W2 (w.heap.size + 1) [.slice none 0 0, .slice none 0 0, .slice none 0 0]) (hb : Below w.heap.size w W2)
    (h0 : Below W2.heap.size W2 a0) (r5 : AnyRow 3 n0 a0.heap.size w5 c0) (b5 : Below a0.heap.size a0 w5) (h1 : Below w5.heap.size w5 a1) (og : Own w6 (strsD l) c1 Fg) (fg : Foot a1.heap.size w6 Fg) (b6 : Below a1.heap.size a1 w6) (h2 : Below w6.heap.size w6 a2) (r7 : AnyRow 9 n2 a2.heap.size w7 c2) (b7 : Below a2.heap.size a2 w7)
    (hx : ∀ b, b < w7.heap.size → b ≠ b3 → wx.heap[b]? = w7.heap[b]?) (hv : Var wx b3 [c0, c1, c2]) (hb3 : W2.heap.size ≤ b3 ∧ ¬ (a0.heap.size ≤ b3 ∧ b3 < w5.heap.size) ∧ ¬ (a1.heap.size ≤ b3 ∧ b3 < w6.heap.size) ∧ ¬ (a2.heap.size ≤ b3 ∧ b3 < w7.heap.size)) (hbx : Below W2.heap.size W2 wx) (hsx : w7.heap.size ≤ wx.heap.size) : EiS w A b3 c0 c1 c2 l Fg n0 n2 wx := by
  have s0 := h0.size
  have s5 := b5.size
  have s1 := h1.size
  have s6 := b6.size
  have s2 := h2.size
  have s7 := b7.size
  have k5 : ∀ b, b < w5.heap.size → w7.heap[b]? = w5.heap[b]? := fun b h => by rw [b7.block b (by omega), h2.block b (by omega), b6.block b (by omega), h1.block b h]
  have k6 : ∀ b, b < w6.heap.size → w7.heap[b]? = w6.heap[b]? := fun b h => by rw [b7.block b (by omega), h2.block b h]
  have kA := hA.later hbx
  have kZ := hZ.later hbx
  refine ⟨⟨kA, kZ, hv⟩, ⟨r5.move (by omega) (by omega) fun b h1 h2 => by rw [hx b (by omega) (by omega), k5 b h2], Own.keep _ _ _ (fun b h => by have := fg b h; rw [hx b (by omega) (by omega), k6 b this.2]) og, r7.move (by omega) (by omega) fun b h1 h2 => hx b h2 (by omega)⟩, below_then hb hbx, ⟨by omega, hv.lt⟩, fun b h => by have := fg b h; exact ⟨by omega, by omega, by omega⟩, fun hn b h => ?_, fun hn b h => ?_⟩
  · have h4 := r5.own1 hn b h
    refine ⟨by omega, fun h5 => by have := fg b h5; omega, fun h5 h6 => ?_⟩
    have := r7.own1 h5 b h6
    omega
  · have h4 := r7.own1 hn b h
    exact ⟨by omega, fun h5 => by have := fg b h5; omega⟩
end Go.Proofs.Ytiiogpafgoeblaa
