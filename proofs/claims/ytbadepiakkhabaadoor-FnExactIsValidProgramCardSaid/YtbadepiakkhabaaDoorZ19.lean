/- Joined texts: N30, U3, U4, U5. No conditions besides those that each states. -/
import Derived.Test.YtbadepiakkhabaaDoorZ17
import Derived.Test.YtbadepiakkhabaaDoorZ18
/- What the laws write into a list of trees: the walk. No conditions. -/
namespace Go.Proofs.YtbadepiakkhabaaDoor
open Go.RowKit
set_option linter.unusedVariables false

theorem map_set_same {α β : Type} (f : α → β) (l : List α) (i : Nat) (x : α) (h : l[i]?.map f = some (f x)) : (l.set i x).map f = l.map f := by
  apply List.ext_getElem?
  intro j
  rw [List.getElem?_map, List.getElem?_map, List.getElem?_set]
  split
  · rename_i e
    subst e
    split
    · rw [h]; rfl
    · rename_i hn
      rw [List.getElem?_eq_none (by omega)]
  · rfl
theorem mk_next {w wr B1 W2 : World} {g c k0 i : Nat} {l : List El} {ks : List Ex.T} {le : List El} {v : Value} {F : List Nat} (h1 : le.map Prod.snd = l.map Prod.snd) (h2 : le.map Prod.fst = Ex.mrks (ks.take i) k0 ++ ks.drop i) (h3 : RowE wr g ks.length c (rowV le)) (h4 : Els wr le) (h5 : OnlyF (g :: elsF l) w wr) (hg : g ∉ elsF l) (hlt : ∀ b ∈ elsF l, b < w.heap.size)
    (hi : i < ks.length) (hp : le[i]? = some (ks[i], v, F)) (hb1 : Below (wr.setCell ⟨g, i * 5, none⟩ (.int .i64 ((k0 + 4 * Ex.counts (ks.take i) : Nat) : Int))).heap.size (wr.setCell ⟨g, i * 5, none⟩ (.int .i64 ((k0 + 4 * Ex.counts (ks.take i) : Nat) : Int))) B1)
    (hk : OwnK W2 v (Ex.mrks ks[i].kids (k0 + 4 * Ex.counts (ks.take i) + 4)) F)
    (ho : OnlyF F (((B1.setCell ⟨g, i * 5 + 1, none⟩ (.string (mark (k0 + 4 * Ex.counts (ks.take i) + 1)))).setCell ⟨g, i * 5 + 2, none⟩ (.int .i64 (((k0 + 4 * Ex.counts (ks.take i) : Nat) : Int) + 1 + 1))).setCell ⟨g, i * 5 + 3, none⟩ (.int .i64 (((k0 + 4 * Ex.counts (ks.take i) : Nat) : Int) + 1 + 1 + 1))) W2) :
    MkAt w g c l ks k0 (i + 1) W2 := by
  have hF : elsF le = elsF l := elsF_snd h1
  have hpm : (ks[i], v, F) ∈ le := List.mem_of_getElem? hp
  have hFm : ∀ b ∈ F, b ∈ elsF l := fun b hb => hF ▸ elsF_mem hpm hb
  have hgF : g ∉ F := fun e => hg (hFm g e)
  have hz : ∀ (A : World) (o : Nat) (u : Value), (A.setCell ⟨g, o, none⟩ u).heap.size = A.heap.size := fun A o u => by simp [World.setCell]
  have hlg := h3.lt
  have hs5 := h5.1.size
  have hsb := hb1.size
  rw [hz] at hsb
  -- the row
  have r1 := h3.set (i * 5) (.int .i64 ((k0 + 4 * Ex.counts (ks.take i) : Nat) : Int))
  have r2 := r1.keep (hb1.block g (by rw [hz]; exact hlg))
  have r3 := ((r2.set (i * 5 + 1) (.string (mark (k0 + 4 * Ex.counts (ks.take i) + 1)))).set (i * 5 + 2) (.int .i64 (((k0 + 4 * Ex.counts (ks.take i) : Nat) : Int) + 1 + 1))).set (i * 5 + 3) (.int .i64 (((k0 + 4 * Ex.counts (ks.take i) : Nat) : Int) + 1 + 1 + 1))
  have r4 := r3.keep (ho.2 g hgF (by rw [hz, hz, hz]; omega))
  rw [rowV_mark (p := (ks[i], v, F)) (ks := Ex.mrks ks[i].kids (k0 + 4 * Ex.counts (ks.take i) + 4)) le i hp] at r4
  -- other blocks
  have old : ∀ b, b ≠ g → b < wr.heap.size → b ∉ F → W2.heap[b]? = wr.heap[b]? := fun b hb1' hb2 hb3 => by
    rw [ho.2 b hb3 (by rw [hz, hz, hz]; omega), Below.heap_setCell _ _ _ _ hb1', Below.heap_setCell _ _ _ _ hb1', Below.heap_setCell _ _ _ _ hb1', hb1.block b (by rw [hz]; exact hb2), Below.heap_setCell _ _ _ _ hb1']
  have e : (Ex.T.node ((k0 + 4 * Ex.counts (ks.take i) : Nat) : Int) (mark (k0 + 4 * Ex.counts (ks.take i) + 1)) (((k0 + 4 * Ex.counts (ks.take i) : Nat) : Int) + 1 + 1) (((k0 + 4 * Ex.counts (ks.take i) : Nat) : Int) + 1 + 1 + 1) (Ex.mrks ks[i].kids (k0 + 4 * Ex.counts (ks.take i) + 4))) = ks[i].mrk (k0 + 4 * Ex.counts (ks.take i)) := (Ex.mrk_eq _ _).symm
  rw [e] at r4
  have hsnd : (le.set i (ks[i].mrk (k0 + 4 * Ex.counts (ks.take i)), v, F)).map Prod.snd = le.map Prod.snd := map_set_same _ _ _ _ (by rw [hp]; rfl)
  refine ⟨le.set i (ks[i].mrk (k0 + 4 * Ex.counts (ks.take i)), v, F), hsnd.trans h1, ?_, r4, ⟨fun p hpm2 => ?_, ?_⟩, ?_⟩
  · rw [List.map_set, h2, List.take_succ_eq_append_getElem hi, Ex.mrks_snoc, List.set_append_right _ _ (by rw [Ex.mrks_len, List.length_take]; omega), Ex.mrks_len, List.length_take, Nat.min_eq_left (by omega), Nat.sub_self, List.drop_eq_getElem_cons hi, List.append_assoc]
    rfl
  · obtain ⟨j, hj⟩ := List.mem_iff_getElem?.1 hpm2
    rw [List.getElem?_set] at hj
    split at hj
    · split at hj
      · have hj := Option.some.inj hj
        subst hj
        show OwnK W2 v (ks[i].mrk (k0 + 4 * Ex.counts (ks.take i))).kids F
        rw [Ex.mrk_eq]; exact hk
      · cases hj
    · rename_i hij
      have hpj : p ∈ le := List.mem_of_getElem? hj
      refine OwnK.keep _ (fun b hb => ?_) (h4.1 p hpj)
      have hbl : b ∈ elsF l := hF ▸ elsF_mem hpj hb
      refine old b (fun e => hg (e ▸ hbl)) (by have := hlt b hbl; omega) fun hbF => ?_
      have hpw := h4.2
      rw [List.pairwise_iff_getElem] at hpw
      obtain ⟨hi1, hi2⟩ := List.getElem?_eq_some_iff.1 hp
      obtain ⟨hj1, hj2⟩ := List.getElem?_eq_some_iff.1 hj
      rcases Nat.lt_or_ge i j with h | h
      · have h7 := hpw i j hi1 hj1 h b
        rw [hi2, hj2] at h7
        exact h7 hbF hb
      · have h7 := hpw j i hj1 hi1 (by omega) b
        rw [hi2, hj2] at h7
        exact h7 hb hbF
  · have h8 := h4.2
    rw [← List.pairwise_map (f := Prod.snd) (R := fun p q : Value × List Nat => ∀ b ∈ p.2, b ∉ q.2)] at h8 ⊢
    rw [hsnd]; exact h8
  · refine (((((h5.set List.mem_cons_self _ _).later hb1).set List.mem_cons_self _ _).set List.mem_cons_self _ _).set List.mem_cons_self _ _).trans ho fun b hb => List.mem_cons_of_mem _ (hFm b hb)
theorem MkAt.done {w wr : World} {g c k0 : Nat} {l : List El} {ks : List Ex.T} (h : MkAt w g c l ks k0 ks.length wr) (hg : g ∉ elsF l) (h0 : ks ≠ []) : OwnK wr (.slice (some ⟨g, 0, none⟩) ks.length c) (Ex.mrks ks k0) (g :: elsF l) ∧ OnlyF (g :: elsF l) w wr := by
  obtain ⟨le, h1, h2, h3, h4, h5⟩ := h
  rw [List.take_length, List.drop_length, List.append_nil] at h2
  have hF : elsF le = elsF l := elsF_snd h1
  have hlen : le.length = ks.length := by
    have h6 := congrArg List.length h2
    rw [List.length_map, Ex.mrks_len] at h6; exact h6
  have hr : RowE wr g le.length c (rowV le) := by rw [hlen]; exact h3
  have hK := ownK_els hr h4 (hF ▸ hg)
  rw [hlen, h2, hF, if_neg (fun e => h0 (by have h7 := congrArg List.length e; rw [Ex.mrks_len] at h7; exact List.length_eq_zero_iff.1 h7))] at hK
  exact ⟨hK, h5⟩
end Go.Proofs.YtbadepiakkhabaaDoor
/- The laws' helpers over lists of strings, wherever they stand: their measure, their copy, comparing them, marking them and reading the marks. No conditions. -/
namespace Go.Proofs.YtbadepiakkhabaaDoor
open Go.RowKit
set_option linter.unusedVariables false

abbrev strsD (l : List ByteArray) : D := .row l.length (l.map D.str)
/-- How much a list of strings counts. -/
def strsB (l : List ByteArray) : Nat := l.length + wsum ByteArray.size l
theorem str_at {w : World} {a : Option Addr} {n c : Nat} {l : List ByteArray} (h : Is w (.row n (l.map D.str)) (.slice a n c)) (i : Nat) (hi : i < l.length) : ∃ g o, a = some ⟨g, o, none⟩ ∧ w.cell? ⟨g, o + i, none⟩ = some (.string l[i]) := by
  obtain ⟨g, o, e, hc⟩ := is_elem h i [.str l[i]] (by simp) fun j d hj => by
    match j with
    | 0 => obtain rfl := Option.some.inj hj; rw [Nat.add_zero, List.getElem?_map, List.getElem?_eq_getElem hi]; rfl
    | j + 1 => simp at hj
  obtain ⟨u, hu, hd⟩ := hc 0 _ rfl
  rw [Is] at hd
  subst hd
  exact ⟨g, o, e, hu⟩
theorem reads_of_is {w : World} {v : Value} {l : List ByteArray} (h : Is w (strsD l) v) (hl : l.length ≤ maxLen) : Reads w v l := by
  obtain ⟨a, c, rfl⟩ := is_slice h
  by_cases h0 : l = []
  · subst h0; exact .inl ⟨⟨_, _, rfl⟩, rfl⟩
  · have hp := List.length_pos_iff.2 h0
    obtain ⟨g, o, rfl, _⟩ := str_at h 0 hp
    refine .inr ⟨g, o, c, rfl, hl, fun i hi => ?_⟩
    obtain ⟨g2, o2, e, hc⟩ := str_at h i hi
    injection e with e
    injection e with e1 e2
    subst e1 e2
    rw [hc]; simp [List.getD, List.getElem?_eq_getElem hi]
theorem own_of_owns {w : World} {base : Nat} {v : Value} {l : List ByteArray} (h : Owns w base v l) : ∃ F, Own w (strsD l) v F ∧ Foot base w F := by
  by_cases h0 : l = []
  · subst h0
    rcases h.2 with ⟨rfl, _⟩ | ⟨g, cap, cur, rfl, _⟩
    · exact ⟨[], own_nil, fun b hb => by cases hb⟩
    · exact ⟨[], own_nil, fun b hb => by cases hb⟩
  · rcases id h.2 with ⟨rfl, hn⟩ | ⟨g, cap, cur, rfl, hb, _, hcap, _⟩
    · exact absurd (List.length_eq_zero_iff.1 hn) h0
    · have hfl : (List.replicate l.length ([] : List Nat)).flatten = [] := by simp
      have hr : RowD w g 0 (l.map D.str) (List.replicate l.length []) := by
        refine ⟨⟨by rw [hfl]; exact List.not_mem_nil, pairwise_of fun i j F G _ hi hj b hb2 => ?_⟩, by rw [List.length_replicate, List.length_map], fun j d hj => ?_⟩
        · obtain ⟨_, rfl⟩ := List.mem_replicate.1 (List.mem_of_getElem? hi)
          cases hb2
        · rw [List.getElem?_map] at hj
          obtain ⟨s, hs, rfl⟩ := Option.map_eq_some_iff.1 hj
          have hjl : j < l.length := (List.getElem?_eq_some_iff.1 hs).1
          refine ⟨.string s, [], by rw [List.getElem?_replicate, if_pos hjl], ?_, World.ownsRow.frozenAt h _, by rw [Own]; exact ⟨rfl, rfl⟩⟩
          rw [Nat.zero_add, World.ownsRow.cellAt h j (by omega), List.getElem?_map, hs]
          rfl
      refine ⟨_, own_of_rowD hr (by simpa using h0) hcap, fun b hb2 => ?_⟩
      rw [hfl, List.mem_singleton] at hb2
      subst hb2
      exact ⟨hb, (World.ownsRow.lt h b rfl).2⟩
theorem to_strsD (v : Value) (l : List ByteArray) (w : World) (hr : Is w (strsD l) v) (hl : l.length ≤ 1048576) : Calls Tryd.prog 34 #[v] w (RetD w (strsD l)) := by
  refine (to_strs v l w (reads_of_is hr (by unfold maxLen; omega)) hl).mono ?_
  rintro e w' ⟨v', rfl, ho, hb⟩
  obtain ⟨F, h1, h2⟩ := own_of_owns ho
  exact ⟨v', F, rfl, h1, h2, hb⟩
theorem eq_strsD (v1 v2 : Value) (l : List ByteArray) (w : World) (h1 : Is w (strsD l) v1) (h2 : Is w (strsD l) v2) (hl : l.length ≤ 1048576) : Calls Tryd.prog 39 #[v1, v2] w fun e w' => e = .returned (.bool true) ∧ Below w.heap.size w w' :=
  eq_strs v1 v2 l w (reads_of_is h1 (by unfold maxLen; omega)) (reads_of_is h2 (by unfold maxLen; omega))
/-- Where the measure of a list of strings stands. -/
def SzS (l : List ByteArray) (left k m : Nat) : Prop := m + (l.length + wsum ByteArray.size (l.take k)) = left
set_option maxHeartbeats 800000 in
theorem sz_strsD (v : Value) (l : List ByteArray) (w : World) (left : Nat) (hk : Is w (strsD l) v) (hs : (left : Int) ≤ 1048576) (hl : l.length ≤ 9223372036854775807) (hz : ∀ s ∈ l, s.size ≤ 9223372036854775807) :
    Calls Tryd.prog 25 #[v, .int .i64 (left : Int)] w fun e w' => e = .returned (.int .i64 (szR left (strsB l))) ∧ w = w' := by
  obtain ⟨a, c, rfl⟩ := is_slice hk
  have HK := Lib.hid hk
  have HZ := Lib.hid hz
  clear hk hz
  by_cases h0 : l.length ≤ left
  · have HST : Hid (SzS l left 0 (left - l.length)) := Lib.hid (by unfold SzS; simp [wsum]; omega)
    have e0 : ((left : Int) - l.length) = ((left - l.length : Nat) : Int) := by omega
    have hr0 : 0 ≤ (left : Int) - l.length := by omega
    go_enter Tryd.func25, Tryd.ntmps25
    go_wp2
    go_loop [1, 4, 5] (fun m _ i => ∃ k n : Nat, i = .int .i64 k ∧ m = .int .i64 n ∧ k ≤ l.length ∧ n ≤ left ∧ SzS l left k n) (fun _ _ i => l.length - (intOf i).toNat)
    case atStart => exact ⟨0, left - l.length, rfl, by rw [← e0], by omega, by omega, HST.out⟩
    case round =>
      clear HST e0 hr0
      obtain ⟨k, n, rfl, rfl, hk, hn, hat⟩ := hrel
      by_cases hlt : k < l.length
      · obtain ⟨g, o, rfl, d1⟩ := str_at HK.out k hlt
        have hz := HZ.out l[k] (List.getElem_mem hlt)
        have hwt := wsum_take ByteArray.size l k hlt
        have hwl := wsum_take_le ByteArray.size l (k + 1)
        have HAT := Lib.hid hat
        have HWT := Lib.hid hwt
        have HWL := Lib.hid hwl
        clear hat hwt hwl
        generalize l[k] = y at d1 hz HWT
        by_cases hneg : (n : Int) - (y.size : Int) < 0
        · have HN : Hid (szR left (strsB l) = -1) := Lib.hid (szR_no (by have h1 := HAT.out; have h2 := HWT.out; have h3 := HWL.out; unfold SzS at h1; unfold strsB; omega))
          go_wp2
          go_ret
          exact ⟨ret_ei HN.out, rfl⟩
        · have HN : Hid (SzS l left (k + 1) (n - y.size)) := Lib.hid (by have h1 := HAT.out; have h2 := HWT.out; unfold SzS at h1 ⊢; omega)
          have e1 : (n : Int) - (y.size : Int) = ((n - y.size : Nat) : Int) := by omega
          have HE := Lib.hid e1
          clear e1
          go_wp2
          go_round
          case rel => exact ⟨k + 1, n - y.size, by go_num, by rw [← HE.out], by omega, by omega, HN.out⟩
          case measure => first | (simp [intOf]; done) | (simp [intOf]; omega)
      · obtain rfl : k = l.length := by omega
        have HN : Hid (szR left (strsB l) = (n : Int)) := Lib.hid (by
          unfold SzS at hat
          rw [List.take_length] at hat
          rw [szR_yes (by unfold strsB; omega)]; unfold strsB; congr 1; omega)
        clear hat
        go_wp2
        go_ret
        exact ⟨ret_ei HN.out, rfl⟩
  · have HN := Lib.hid (szR_no (left := left) (b := strsB l) (by unfold strsB; omega))
    have hlt0 : (left : Int) - l.length < 0 := by omega
    go_enter Tryd.func25, Tryd.ntmps25
    go_wp2
    go_ret
    exact ⟨ret_ei HN.out, rfl⟩
/-- The places of a list, the first i of them marked from k on. -/
def partlyK (k : Nat) (l : List ByteArray) (i : Nat) : List ByteArray := marks k i ++ l.drop i
theorem partlyK_length (k : Nat) (l : List ByteArray) (i : Nat) (h : i ≤ l.length) : (partlyK k l i).length = l.length := by
  simp [partlyK, marks_length]; omega
theorem partlyK_set (k : Nat) (l : List ByteArray) (i : Nat) (h : i < l.length) : (partlyK k l i).set i (mark (k + i)) = partlyK k l (i + 1) := by
  unfold partlyK
  rw [marks_succ, List.set_append_right _ _ (by rw [marks_length]; exact Nat.le_refl _), marks_length, Nat.sub_self, List.drop_eq_getElem_cons h, List.append_assoc]
  rfl
theorem partlyK_zero (k : Nat) (l : List ByteArray) : partlyK k l 0 = l := by simp [partlyK, marks]
theorem partlyK_all (k : Nat) (l : List ByteArray) : partlyK k l l.length = marks k l.length := by simp [partlyK]
/-- A list of strings of the call's own lies in one block. -/
theorem own_strs {w : World} {v : Value} {l : List ByteArray} {F : List Nat} (h : Own w (strsD l) v F) (h0 : l ≠ []) : ∃ g o c, v = .slice (some ⟨g, o, none⟩) l.length c ∧ F = [g] ∧ RowD w g o (l.map D.str) (List.replicate l.length []) := by
  obtain ⟨g, o, c, Fs, rfl, rfl, hr⟩ := rowD_of_own h (by simpa using h0)
  have hFs : Fs = List.replicate l.length [] := by
    apply List.ext_getElem?
    intro j
    by_cases hj : j < l.length
    · obtain ⟨u, G, e, _, _, ho⟩ := hr.2.2 j (.str l[j]) (by rw [List.getElem?_map, List.getElem?_eq_getElem hj]; rfl)
      rw [Own] at ho
      obtain ⟨_, rfl⟩ := ho
      rw [e, List.getElem?_replicate, if_pos hj]
    · have := hr.2.1
      rw [List.length_map] at this
      rw [List.getElem?_eq_none (by omega), List.getElem?_eq_none (by rw [List.length_replicate]; omega)]
  subst hFs
  exact ⟨g, o, c, rfl, by simp, hr⟩
theorem rowD_str {w : World} {g o : Nat} {l : List ByteArray} {Fs : List (List Nat)} (h : RowD w g o (l.map D.str) Fs) (i : Nat) (hi : i < l.length) : w.cell? ⟨g, o + i, none⟩ = some (.string l[i]) ∧ w.frozen? ⟨g, o + i, none⟩ = false := by
  obtain ⟨u, G, _, hc, hf, ho⟩ := h.2.2 i (.str l[i]) (by rw [List.getElem?_map, List.getElem?_eq_getElem hi]; rfl)
  rw [Own] at ho
  rw [ho.1] at hc
  exact ⟨hc, hf⟩
theorem rowD_set {w : World} {g o n : Nat} {l : List ByteArray} (h : RowD w g o (l.map D.str) (List.replicate n [])) (i : Nat) (hi : i < l.length) (s : ByteArray) : RowD (w.setCell ⟨g, o + i, none⟩ (.string s)) g o ((l.set i s).map D.str) (List.replicate n []) := by
  have h2 := h.put (j := i) (d := .str s) (u := .string s) (G := []) (by rw [List.length_map]; exact hi) (by rw [Own]; exact ⟨rfl, rfl⟩) List.not_mem_nil fun _ K _ _ => apart_nil K
  rw [List.map_set]
  have e : (List.replicate n ([] : List Nat)).set i [] = List.replicate n [] := by
    apply List.ext_getElem?
    intro j
    rw [List.getElem?_set, List.getElem?_replicate]
    split
    · rename_i e; subst e; rw [List.length_replicate]
    · rfl
  rw [e] at h2
  exact h2
end Go.Proofs.YtbadepiakkhabaaDoor
/- Records, procedures, units as data. No conditions. -/
namespace Go.Proofs.YtbadepiakkhabaaDoor
open Go.RowKit
set_option linter.unusedVariables false

structure Rc where
  name : ByteArray
  fields : List ByteArray
  line : Int
structure Pc where
  name : ByteArray
  params : List ByteArray
  locals : List ByteArray
  body : Ex.T
  line : Int
structure Un where
  recs : List Rc
  globs : List ByteArray
  procs : List Pc
def Rc.ds (r : Rc) : List D := [.str r.name, strsD r.fields, .int r.line]
def Pc.ds (p : Pc) : List D := [.str p.name, strsD p.params, strsD p.locals, .int p.body.kind, .str p.body.text, .int p.body.num, .int p.body.line, .ex p.body.kids, .int p.line]
abbrev recsD (l : List Rc) : D := .row l.length (l.flatMap Rc.ds)
abbrev procsD (l : List Pc) : D := .row l.length (l.flatMap Pc.ds)
theorem Rc.ds_len (r : Rc) : r.ds.length = 3 := rfl
theorem Pc.ds_len (p : Pc) : p.ds.length = 9 := rfl
abbrev rcV (r : Rc) (v1 : Value) : Value := .agg #[.string r.name, v1, .int .i64 r.line]
abbrev pcV (p : Pc) (v1 v2 v3 : Value) : Value := .agg #[.string p.name, v1, v2, .int .i64 p.body.kind, .string p.body.text, .int .i64 p.body.num, .int .i64 p.body.line, v3, .int .i64 p.line]
abbrev unV (v1 v2 v3 : Value) : Value := .agg #[v1, v2, v3]
/-- The cells of a record at a place. -/
def RecAt (w : World) (g o : Nat) (r : Rc) : Prop := w.cell? ⟨g, o, none⟩ = some (.string r.name) ∧ (∃ v1, w.cell? ⟨g, o + 1, none⟩ = some v1 ∧ Is w (strsD r.fields) v1) ∧ w.cell? ⟨g, o + 2, none⟩ = some (.int .i64 r.line)
def ProcAt (w : World) (g o : Nat) (p : Pc) : Prop := w.cell? ⟨g, o, none⟩ = some (.string p.name) ∧ (∃ v1, w.cell? ⟨g, o + 1, none⟩ = some v1 ∧ Is w (strsD p.params) v1) ∧ (∃ v2, w.cell? ⟨g, o + 2, none⟩ = some v2 ∧ Is w (strsD p.locals) v2) ∧ (w.cell? ⟨g, o + 3, none⟩ = some (.int .i64 p.body.kind) ∧ w.cell? ⟨g, o + 4, none⟩ = some (.string p.body.text) ∧ w.cell? ⟨g, o + 5, none⟩ = some (.int .i64 p.body.num) ∧ w.cell? ⟨g, o + 6, none⟩ = some (.int .i64 p.body.line)) ∧ (∃ v3, w.cell? ⟨g, o + 7, none⟩ = some v3 ∧ Kids w v3 p.body.kids) ∧ w.cell? ⟨g, o + 8, none⟩ = some (.int .i64 p.line)
theorem is_int {w : World} {n : Int} {v : Value} (h : Is w (.int n) v) : v = .int .i64 n := by rw [Is] at h; exact h
theorem is_str {w : World} {s : ByteArray} {v : Value} (h : Is w (.str s) v) : v = .string s := by rw [Is] at h; exact h
theorem is_ex {w : World} {ks : List Ex.T} {v : Value} (h : Is w (.ex ks) v) : Kids w v ks := by rw [Is] at h; exact h
theorem rec_at {w : World} {a : Option Addr} {n c : Nat} {l : List Rc} (h : Is w (.row n (l.flatMap Rc.ds)) (.slice a n c)) (i : Nat) (hi : i < l.length) : ∃ g o, a = some ⟨g, o, none⟩ ∧ RecAt w g (o + i * 3) l[i] := by
  obtain ⟨g, o, e, hc⟩ := is_nth Rc.ds Rc.ds_len (by decide) h i l[i] (List.getElem?_eq_getElem hi)
  obtain ⟨u0, c0, d0⟩ := hc 0 _ rfl
  obtain ⟨u1, c1, d1⟩ := hc 1 _ rfl
  obtain ⟨u2, c2, d2⟩ := hc 2 _ rfl
  obtain rfl := is_str d0
  obtain rfl := is_int d2
  exact ⟨g, o, e, c0, ⟨u1, c1, d1⟩, c2⟩
theorem proc_at {w : World} {a : Option Addr} {n c : Nat} {l : List Pc} (h : Is w (.row n (l.flatMap Pc.ds)) (.slice a n c)) (i : Nat) (hi : i < l.length) : ∃ g o, a = some ⟨g, o, none⟩ ∧ ProcAt w g (o + i * 9) l[i] := by
  obtain ⟨g, o, e, hc⟩ := is_nth Pc.ds Pc.ds_len (by decide) h i l[i] (List.getElem?_eq_getElem hi)
  obtain ⟨u0, c0, d0⟩ := hc 0 _ rfl
  obtain ⟨u1, c1, d1⟩ := hc 1 _ rfl
  obtain ⟨u2, c2, d2⟩ := hc 2 _ rfl
  obtain ⟨u3, c3, d3⟩ := hc 3 _ rfl
  obtain ⟨u4, c4, d4⟩ := hc 4 _ rfl
  obtain ⟨u5, c5, d5⟩ := hc 5 _ rfl
  obtain ⟨u6, c6, d6⟩ := hc 6 _ rfl
  obtain ⟨u7, c7, d7⟩ := hc 7 _ rfl
  obtain ⟨u8, c8, d8⟩ := hc 8 _ rfl
  obtain rfl := is_str d0
  obtain rfl := is_int d3
  obtain rfl := is_str d4
  obtain rfl := is_int d5
  obtain rfl := is_int d6
  obtain rfl := is_int d8
  exact ⟨g, o, e, c0, ⟨u1, c1, d1⟩, ⟨u2, c2, d2⟩, ⟨c3, c4, c5, c6⟩, ⟨u7, c7, is_ex d7⟩, c8⟩
def Rc.bulk (r : Rc) : Nat := r.name.size + strsB r.fields
def Pc.bulk (p : Pc) : Nat := p.name.size + (strsB p.params + (strsB p.locals + p.body.bulk))
def recsB (l : List Rc) : Nat := l.length + wsum Rc.bulk l
def procsB (l : List Pc) : Nat := l.length + wsum Pc.bulk l
def Un.bulk (u : Un) : Nat := recsB u.recs + (strsB u.globs + procsB u.procs)
/-- Nothing is greater than memory can hold. -/
def StrsOk (l : List ByteArray) : Prop := l.length ≤ 9223372036854775807 ∧ ∀ s ∈ l, s.size ≤ 9223372036854775807
def Rc.Ok (r : Rc) : Prop := r.name.size ≤ 9223372036854775807 ∧ StrsOk r.fields
def Pc.Ok (p : Pc) : Prop := p.name.size ≤ 9223372036854775807 ∧ StrsOk p.params ∧ StrsOk p.locals ∧ p.body.Ok
def Un.Ok (u : Un) : Prop := (u.recs.length ≤ 9223372036854775807 ∧ ∀ r ∈ u.recs, r.Ok) ∧ StrsOk u.globs ∧ u.procs.length ≤ 9223372036854775807 ∧ ∀ p ∈ u.procs, p.Ok
/-- A unit by its three lists. -/
def UnIs (w : World) (u : Un) (v1 v2 v3 : Value) : Prop := Is w (recsD u.recs) v1 ∧ Is w (strsD u.globs) v2 ∧ Is w (procsD u.procs) v3
theorem UnIs.later {w w' : World} {u : Un} {v1 v2 v3 : Value} (h : UnIs w u v1 v2 v3) (hb : Below w.heap.size w w') : UnIs w' u v1 v2 v3 := ⟨h.1.later hb, h.2.1.later hb, h.2.2.later hb⟩
/-- A unit whose lists lie in the blocks F, each met once. -/
def UnOwn (w : World) (u : Un) (v1 v2 v3 : Value) (F1 F2 F3 : List Nat) : Prop := (Own w (recsD u.recs) v1 F1 ∧ Own w (strsD u.globs) v2 F2 ∧ Own w (procsD u.procs) v3 F3) ∧ Apart F1 F2 ∧ Apart F1 F3 ∧ Apart F2 F3
theorem UnOwn.is {w : World} {u : Un} {v1 v2 v3 : Value} {F1 F2 F3 : List Nat} (h : UnOwn w u v1 v2 v3 F1 F2 F3) : UnIs w u v1 v2 v3 := ⟨h.1.1.is, h.1.2.1.is, h.1.2.2.is⟩
theorem UnOwn.keep {w w' : World} {u : Un} {v1 v2 v3 : Value} {F1 F2 F3 : List Nat} (h : UnOwn w u v1 v2 v3 F1 F2 F3) (hF : ∀ b ∈ F1 ++ (F2 ++ F3), w'.heap[b]? = w.heap[b]?) : UnOwn w' u v1 v2 v3 F1 F2 F3 :=
  ⟨⟨Own.keep _ _ _ (fun b hb => hF b (List.mem_append_left _ hb)) h.1.1, Own.keep _ _ _ (fun b hb => hF b (List.mem_append_right _ (List.mem_append_left _ hb))) h.1.2.1, Own.keep _ _ _ (fun b hb => hF b (List.mem_append_right _ (List.mem_append_right _ hb))) h.1.2.2⟩, h.2⟩
/-- What the laws write. -/
def Rc.mk' (r : Rc) (k : Nat) : Rc := ⟨mark k, marks (k + 1) r.fields.length, ((k + 1 + r.fields.length : Nat) : Int)⟩
def Rc.wd (r : Rc) : Nat := r.fields.length + 2
def Pc.k1 (p : Pc) (k : Nat) : Nat := k + 1 + p.params.length + p.locals.length
def Pc.mk' (p : Pc) (k : Nat) : Pc := ⟨mark k, marks (k + 1) p.params.length, marks (k + 1 + p.params.length) p.locals.length, .node ((p.k1 k : Nat) : Int) (mark (p.k1 k + 1)) ((p.k1 k + 2 : Nat) : Int) ((p.k1 k + 3 : Nat) : Int) (Ex.mrks p.body.kids (p.k1 k + 4)), ((p.k1 k + 4 + 4 * Ex.counts p.body.kids : Nat) : Int)⟩
def Pc.wd (p : Pc) : Nat := p.params.length + p.locals.length + 4 * Ex.counts p.body.kids + 6
def Un.wd (u : Un) : Nat := wsum Rc.wd u.recs + (u.globs.length + wsum Pc.wd u.procs)
def Un.mk' (u : Un) (k : Nat) : Un := ⟨mks Rc.mk' Rc.wd u.recs k, marks (k + wsum Rc.wd u.recs) u.globs.length, mks Pc.mk' Pc.wd u.procs (k + wsum Rc.wd u.recs + u.globs.length)⟩
end Go.Proofs.YtbadepiakkhabaaDoor
/- The laws' measure of records, procedures and units. No conditions. -/
namespace Go.Proofs.YtbadepiakkhabaaDoor
open Go.RowKit
set_option linter.unusedVariables false

set_option maxHeartbeats 1600000 in
theorem sz_rec (r : Rc) (hok : r.Ok) (w : World) (v1 : Value) (left : Nat) (h1 : Is w (strsD r.fields) v1) (hs : (left : Int) ≤ 1048576) :
    Calls Tryd.prog 54 #[rcV r v1, .int .i64 (left : Int)] w fun e w' => e = .returned (.int .i64 (szR left r.bulk)) ∧ Below w.heap.size w w' := by
  obtain ⟨a1, c1, rfl⟩ := is_slice h1
  have HB := Lib.hid (bl1 w (.cells #[.string r.name, .slice a1 r.fields.length c1, .int .i64 r.line] 123))
  have z0 := hok.1
  by_cases q0 : r.name.size ≤ left
  case neg =>
    have HN : Hid (szR left r.bulk = -1) := Lib.hid (szR_no (by unfold Rc.bulk; omega))
    have x0 : (left : Int) - r.name.size < 0 := by omega
    clear h1 hok
    go_enter Tryd.func54, Tryd.ntmps54
    go_wp2
    go_ret
    exact ⟨ret_ei HN.out, HB.out⟩
  have e0 : ((left : Int) - r.name.size) = ((left - r.name.size : Nat) : Int) := by omega
  have n0 : 0 ≤ (left : Int) - r.name.size := by omega
  obtain ⟨l1, hl1⟩ : ∃ l1, left - r.name.size = l1 := ⟨_, rfl⟩
  rw [hl1] at e0
  have m1 : (l1 : Int) ≤ 1048576 := by omega
  have HC1 := Lib.hid (fun W (hW : Below w.heap.size w W) => sz_strsD _ r.fields W l1 (h1.later hW) m1 hok.2.1 hok.2.2)
  by_cases q1 : strsB r.fields ≤ l1
  case neg =>
    have HN : Hid (szR left r.bulk = -1) := Lib.hid (szR_no (by unfold Rc.bulk; omega))
    rw [szR_no q1] at HC1
    clear h1 hok
    go_enter Tryd.func54, Tryd.ntmps54
    go_wp2_with fail
    refine (HC1.out _ HB.out).mono ?_
    rintro e w1 ⟨rfl, rfl⟩
    go_wp2
    go_ret
    exact ⟨ret_ei HN.out, HB.out⟩
  obtain ⟨l2, hl2⟩ : ∃ l2, l1 - strsB r.fields = l2 := ⟨_, rfl⟩
  rw [szR_yes q1, hl2] at HC1
  have m2 : (l2 : Int) ≤ 1048576 := by omega
  have HN : Hid (szR left r.bulk = (l2 : Int)) := Lib.hid (by unfold Rc.bulk; rw [szR_yes (by omega)]; congr 1; omega)
  clear h1 hok
  go_enter Tryd.func54, Tryd.ntmps54
  go_wp2_with fail
  refine (HC1.out _ HB.out).mono ?_
  rintro e w1 ⟨rfl, rfl⟩
  go_wp2
  go_ret
  exact ⟨ret_ei HN.out, HB.out⟩
theorem recB_next {ks : List Rc} {left k m : Nat} (h : m + (ks.length + wsum Rc.bulk (ks.take k)) = left) (hk : k < ks.length) (hb : ks[k].bulk ≤ m) : (m - ks[k].bulk) + (ks.length + wsum Rc.bulk (ks.take (k + 1))) = left := by
  rw [wsum_take Rc.bulk ks k hk]; omega
theorem recB_bad {ks : List Rc} {left k m : Nat} (h : m + (ks.length + wsum Rc.bulk (ks.take k)) = left) (hk : k < ks.length) (hb : ¬ ks[k].bulk ≤ m) : szR left (recsB ks) = -1 := by
  have h2 := wsum_take Rc.bulk ks k hk
  have h3 := wsum_take_le Rc.bulk ks (k + 1)
  exact szR_no (by unfold recsB; omega)
theorem recB_over {ks : List Rc} {left m : Nat} (h : m + (ks.length + wsum Rc.bulk (ks.take ks.length)) = left) : szR left (recsB ks) = (m : Int) := by
  rw [List.take_length] at h
  unfold recsB
  rw [szR_yes (by omega)]; congr 1; omega
set_option maxHeartbeats 1600000 in
theorem sz_recs (ks : List Rc) (hok : ∀ r ∈ ks, r.Ok) (hl : ks.length ≤ 9223372036854775807) (w : World) (v : Value) (left : Nat) (hk : Is w (recsD ks) v) (hs : (left : Int) ≤ 1048576) :
    Calls Tryd.prog 24 #[v, .int .i64 (left : Int)] w fun e w' => e = .returned (.int .i64 (szR left (recsB ks))) ∧ Below w.heap.size w w' := by
  obtain ⟨a, c, rfl⟩ := is_slice hk
  have HK := Lib.hid hk
  have HOK := Lib.hid hok
  clear hk hok
  by_cases h0 : ks.length ≤ left
  · have HST : Hid ((left - ks.length) + (ks.length + wsum Rc.bulk (ks.take 0)) = left) := Lib.hid (by simp [wsum]; omega)
    have e0 : ((left : Int) - ks.length) = ((left - ks.length : Nat) : Int) := by omega
    have hr0 : 0 ≤ (left : Int) - ks.length := by omega
    go_enter Tryd.func24, Tryd.ntmps24
    go_wp2
    go_loopw [1, 5] (fun m i wr => ∃ k n : Nat, i = .int .i64 k ∧ m = .int .i64 n ∧ k ≤ ks.length ∧ n ≤ left ∧ n + (ks.length + wsum Rc.bulk (ks.take k)) = left ∧ Below w.heap.size w wr) (fun _ i _ => ks.length - (intOf i).toNat)
    case atStart => exact ⟨0, left - ks.length, rfl, by rw [← e0], by omega, by omega, HST.out, Below.refl _ _⟩
    case round =>
      clear HST e0 hr0
      obtain ⟨k, n, rfl, rfl, hk, hn, hat, hb⟩ := hrel
      have HAT := Lib.hid hat
      have HB := Lib.hid hb
      have HK2 := Lib.hid (HK.out.later hb)
      clear hat hb
      by_cases hlt : k < ks.length
      · obtain ⟨g, o, rfl, ⟨q0, ⟨v1, q1, k1⟩, q2⟩⟩ := rec_at HK2.out k hlt
        have HC := Lib.hid (sz_rec ks[k] (HOK.out _ (List.getElem_mem hlt)) wr v1 n k1 (by omega))
        obtain ⟨a1, c1, rfl⟩ := is_slice k1
        clear k1
        have k0 : (0 : Int) ≤ k := by omega
        have k1 : (k : Int) < ks.length := by omega
        by_cases hbk : ks[k].bulk ≤ n
        · have HN := Lib.hid (recB_next HAT.out hlt hbk)
          have hle : n - ks[k].bulk ≤ left := by omega
          rw [szR_yes hbk] at HC
          generalize n - ks[k].bulk = n2 at HC HN hle
          clear hbk HAT
          generalize ks[k] = x at q0 q1 q2 HC
          go_wp2_with (go_at_call 54; refine HC.out.mono ?_; rintro e w1 ⟨rfl, hb1⟩; have HB1 := Lib.hid (below_then HB.out hb1); clear hb1)
          go_roundw
          case rel => exact ⟨k + 1, n2, by go_num, rfl, by omega, hle, HN.out, HB1.out⟩
          case measure => first | (simp [intOf]; done) | (simp [intOf]; omega)
        · have HN := Lib.hid (recB_bad HAT.out hlt hbk)
          rw [szR_no hbk] at HC
          clear hbk HAT
          generalize ks[k] = x at q0 q1 q2 HC
          go_wp2_with (go_at_call 54; refine HC.out.mono ?_; rintro e w1 ⟨rfl, hb1⟩; have HB1 := Lib.hid (below_then HB.out hb1); clear hb1)
          go_ret
          exact ⟨ret_ei HN.out, HB1.out⟩
      · obtain rfl : k = ks.length := by omega
        have HN := Lib.hid (recB_over HAT.out)
        clear HAT
        go_wp2
        go_ret
        exact ⟨ret_ei HN.out, HB.out⟩
  · have HN := Lib.hid (szR_no (left := left) (b := recsB ks) (by unfold recsB; omega))
    have hlt0 : (left : Int) - ks.length < 0 := by omega
    go_enter Tryd.func24, Tryd.ntmps24
    go_wp2
    go_ret
    exact ⟨ret_ei HN.out, Below.refl _ _⟩
theorem procB_next {ks : List Pc} {left k m : Nat} (h : m + (ks.length + wsum Pc.bulk (ks.take k)) = left) (hk : k < ks.length) (hb : ks[k].bulk ≤ m) : (m - ks[k].bulk) + (ks.length + wsum Pc.bulk (ks.take (k + 1))) = left := by
  rw [wsum_take Pc.bulk ks k hk]; omega
theorem procB_bad {ks : List Pc} {left k m : Nat} (h : m + (ks.length + wsum Pc.bulk (ks.take k)) = left) (hk : k < ks.length) (hb : ¬ ks[k].bulk ≤ m) : szR left (procsB ks) = -1 := by
  have h2 := wsum_take Pc.bulk ks k hk
  have h3 := wsum_take_le Pc.bulk ks (k + 1)
  exact szR_no (by unfold procsB; omega)
theorem procB_over {ks : List Pc} {left m : Nat} (h : m + (ks.length + wsum Pc.bulk (ks.take ks.length)) = left) : szR left (procsB ks) = (m : Int) := by
  rw [List.take_length] at h
  unfold procsB
  rw [szR_yes (by omega)]; congr 1; omega
end Go.Proofs.YtbadepiakkhabaaDoor
