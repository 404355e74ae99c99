/- Joined texts: U3, U4, V1. No conditions besides those that each states. -/
import Derived.Test.YtkhcbahbffjnkaaDoorZ13
/- The laws' helpers over lists of strings, wherever they stand: their measure, their copy, comparing them, marking them and reading the marks. No conditions. -/
namespace Go.Proofs.YtkhcbahbffjnkaaDoor
open Go.RowKit
set_option linter.unusedVariables false

abbrev strsD (l : List ByteArray) : D := .row l.length (l.map D.str)
/-- How much a list of strings counts. -/
def strsB (l : List ByteArray) : Nat := l.length + wsum ByteArray.size l
theorem str_at {w : World} {a : Option Addr} {n c : Nat} {l : List ByteArray} (h : Is w (.row n (l.map D.str)) (.slice a n c)) (i : Nat) (hi : i < l.length) : ∃ g o, a = some ⟨g, o, none⟩ ∧ w.cell? ⟨g, o + i, none⟩ = some (.string l[i]) := by
  obtain ⟨g, o, e, hc⟩ := is_elem h i [.str l[i]] (by simp) fun j d hj => by
    match j with
    | 0 => obtain rfl := Option.some.inj hj; rw [Nat.add_zero, List.getElem?_map, List.getElem?_eq_getElem hi]; rfl
    | j + 1 => simp at hj
  obtain ⟨u, hu, hd⟩ := hc 0 _ rfl
  rw [Is] at hd
  subst hd
  exact ⟨g, o, e, hu⟩
theorem reads_of_is {w : World} {v : Value} {l : List ByteArray} (h : Is w (strsD l) v) (hl : l.length ≤ maxLen) : Reads w v l := by
  obtain ⟨a, c, rfl⟩ := is_slice h
  by_cases h0 : l = []
  · subst h0; exact .inl ⟨⟨_, _, rfl⟩, rfl⟩
  · have hp := List.length_pos_iff.2 h0
    obtain ⟨g, o, rfl, _⟩ := str_at h 0 hp
    refine .inr ⟨g, o, c, rfl, hl, fun i hi => ?_⟩
    obtain ⟨g2, o2, e, hc⟩ := str_at h i hi
    injection e with e
    injection e with e1 e2
    subst e1 e2
    rw [hc]; simp [List.getD, List.getElem?_eq_getElem hi]
theorem own_of_owns {w : World} {base : Nat} {v : Value} {l : List ByteArray} (h : Owns w base v l) : ∃ F, Own w (strsD l) v F ∧ Foot base w F := by
  by_cases h0 : l = []
  · subst h0
    rcases h.2 with ⟨rfl, _⟩ | ⟨g, cap, cur, rfl, _⟩
    · exact ⟨[], own_nil, fun b hb => by cases hb⟩
    · exact ⟨[], own_nil, fun b hb => by cases hb⟩
  · rcases id h.2 with ⟨rfl, hn⟩ | ⟨g, cap, cur, rfl, hb, _, hcap, _⟩
    · exact absurd (List.length_eq_zero_iff.1 hn) h0
    · have hfl : (List.replicate l.length ([] : List Nat)).flatten = [] := by simp
      have hr : RowD w g 0 (l.map D.str) (List.replicate l.length []) := by
        refine ⟨⟨by rw [hfl]; exact List.not_mem_nil, pairwise_of fun i j F G _ hi hj b hb2 => ?_⟩, by rw [List.length_replicate, List.length_map], fun j d hj => ?_⟩
        · obtain ⟨_, rfl⟩ := List.mem_replicate.1 (List.mem_of_getElem? hi)
          cases hb2
        · rw [List.getElem?_map] at hj
          obtain ⟨s, hs, rfl⟩ := Option.map_eq_some_iff.1 hj
          have hjl : j < l.length := (List.getElem?_eq_some_iff.1 hs).1
          refine ⟨.string s, [], by rw [List.getElem?_replicate, if_pos hjl], ?_, World.ownsRow.frozenAt h _, by rw [Own]; exact ⟨rfl, rfl⟩⟩
          rw [Nat.zero_add, World.ownsRow.cellAt h j (by omega), List.getElem?_map, hs]
          rfl
      refine ⟨_, own_of_rowD hr (by simpa using h0) hcap, fun b hb2 => ?_⟩
      rw [hfl, List.mem_singleton] at hb2
      subst hb2
      exact ⟨hb, (World.ownsRow.lt h b rfl).2⟩
theorem to_strsD (v : Value) (l : List ByteArray) (w : World) (hr : Is w (strsD l) v) (hl : l.length ≤ 1048576) : Calls Tryd.prog 40 #[v] w (RetD w (strsD l)) := by
  refine (to_strs v l w (reads_of_is hr (by unfold maxLen; omega)) hl).mono ?_
  rintro e w' ⟨v', rfl, ho, hb⟩
  obtain ⟨F, h1, h2⟩ := own_of_owns ho
  exact ⟨v', F, rfl, h1, h2, hb⟩
theorem eq_strsD (v1 v2 : Value) (l : List ByteArray) (w : World) (h1 : Is w (strsD l) v1) (h2 : Is w (strsD l) v2) (hl : l.length ≤ 1048576) : Calls Tryd.prog 43 #[v1, v2] w fun e w' => e = .returned (.bool true) ∧ Below w.heap.size w w' :=
  eq_strs v1 v2 l w (reads_of_is h1 (by unfold maxLen; omega)) (reads_of_is h2 (by unfold maxLen; omega))
/-- Where the measure of a list of strings stands. -/
def SzS (l : List ByteArray) (left k m : Nat) : Prop := m + (l.length + wsum ByteArray.size (l.take k)) = left
set_option maxHeartbeats 800000 in
theorem sz_strsD (v : Value) (l : List ByteArray) (w : World) (left : Nat) (hk : Is w (strsD l) v) (hs : (left : Int) ≤ 1048576) (hl : l.length ≤ 9223372036854775807) (hz : ∀ s ∈ l, s.size ≤ 9223372036854775807) :
    Calls Tryd.prog 36 #[v, .int .i64 (left : Int)] w fun e w' => e = .returned (.int .i64 (szR left (strsB l))) ∧ w = w' := by
  obtain ⟨a, c, rfl⟩ := is_slice hk
  have HK := Lib.hid hk
  have HZ := Lib.hid hz
  clear hk hz
  by_cases h0 : l.length ≤ left
  · have HST : Hid (SzS l left 0 (left - l.length)) := Lib.hid (by unfold SzS; simp [wsum]; omega)
    have e0 : ((left : Int) - l.length) = ((left - l.length : Nat) : Int) := by omega
    have hr0 : 0 ≤ (left : Int) - l.length := by omega
    go_enter Tryd.func36, Tryd.ntmps36
    go_wp2
    go_loop [1, 4, 5] (fun m _ i => ∃ k n : Nat, i = .int .i64 k ∧ m = .int .i64 n ∧ k ≤ l.length ∧ n ≤ left ∧ SzS l left k n) (fun _ _ i => l.length - (intOf i).toNat)
    case atStart => exact ⟨0, left - l.length, rfl, by rw [← e0], by omega, by omega, HST.out⟩
    case round =>
      clear HST e0 hr0
      obtain ⟨k, n, rfl, rfl, hk, hn, hat⟩ := hrel
      by_cases hlt : k < l.length
      · obtain ⟨g, o, rfl, d1⟩ := str_at HK.out k hlt
        have hz := HZ.out l[k] (List.getElem_mem hlt)
        have hwt := wsum_take ByteArray.size l k hlt
        have hwl := wsum_take_le ByteArray.size l (k + 1)
        have HAT := Lib.hid hat
        have HWT := Lib.hid hwt
        have HWL := Lib.hid hwl
        clear hat hwt hwl
        generalize l[k] = y at d1 hz HWT
        by_cases hneg : (n : Int) - (y.size : Int) < 0
        · have HN : Hid (szR left (strsB l) = -1) := Lib.hid (szR_no (by have h1 := HAT.out; have h2 := HWT.out; have h3 := HWL.out; unfold SzS at h1; unfold strsB; omega))
          go_wp2
          go_ret
          exact ⟨ret_ei HN.out, rfl⟩
        · have HN : Hid (SzS l left (k + 1) (n - y.size)) := Lib.hid (by have h1 := HAT.out; have h2 := HWT.out; unfold SzS at h1 ⊢; omega)
          have e1 : (n : Int) - (y.size : Int) = ((n - y.size : Nat) : Int) := by omega
          have HE := Lib.hid e1
          clear e1
          go_wp2
          go_round
          case rel => exact ⟨k + 1, n - y.size, by go_num, by rw [← HE.out], by omega, by omega, HN.out⟩
          case measure => first | (simp [intOf]; done) | (simp [intOf]; omega)
      · obtain rfl : k = l.length := by omega
        have HN : Hid (szR left (strsB l) = (n : Int)) := Lib.hid (by
          unfold SzS at hat
          rw [List.take_length] at hat
          rw [szR_yes (by unfold strsB; omega)]; unfold strsB; congr 1; omega)
        clear hat
        go_wp2
        go_ret
        exact ⟨ret_ei HN.out, rfl⟩
  · have HN := Lib.hid (szR_no (left := left) (b := strsB l) (by unfold strsB; omega))
    have hlt0 : (left : Int) - l.length < 0 := by omega
    go_enter Tryd.func36, Tryd.ntmps36
    go_wp2
    go_ret
    exact ⟨ret_ei HN.out, rfl⟩
/-- The places of a list, the first i of them marked from k on. -/
def partlyK (k : Nat) (l : List ByteArray) (i : Nat) : List ByteArray := marks k i ++ l.drop i
theorem partlyK_length (k : Nat) (l : List ByteArray) (i : Nat) (h : i ≤ l.length) : (partlyK k l i).length = l.length := by
  simp [partlyK, marks_length]; omega
theorem partlyK_set (k : Nat) (l : List ByteArray) (i : Nat) (h : i < l.length) : (partlyK k l i).set i (mark (k + i)) = partlyK k l (i + 1) := by
  unfold partlyK
  rw [marks_succ, List.set_append_right _ _ (by rw [marks_length]; exact Nat.le_refl _), marks_length, Nat.sub_self, List.drop_eq_getElem_cons h, List.append_assoc]
  rfl
theorem partlyK_zero (k : Nat) (l : List ByteArray) : partlyK k l 0 = l := by simp [partlyK, marks]
theorem partlyK_all (k : Nat) (l : List ByteArray) : partlyK k l l.length = marks k l.length := by simp [partlyK]
/-- A list of strings of the call's own lies in one block. -/
theorem own_strs {w : World} {v : Value} {l : List ByteArray} {F : List Nat} (h : Own w (strsD l) v F) (h0 : l ≠ []) : ∃ g o c, v = .slice (some ⟨g, o, none⟩) l.length c ∧ F = [g] ∧ RowD w g o (l.map D.str) (List.replicate l.length []) := by
  obtain ⟨g, o, c, Fs, rfl, rfl, hr⟩ := rowD_of_own h (by simpa using h0)
  have hFs : Fs = List.replicate l.length [] := by
    apply List.ext_getElem?
    intro j
    by_cases hj : j < l.length
    · obtain ⟨u, G, e, _, _, ho⟩ := hr.2.2 j (.str l[j]) (by rw [List.getElem?_map, List.getElem?_eq_getElem hj]; rfl)
      rw [Own] at ho
      obtain ⟨_, rfl⟩ := ho
      rw [e, List.getElem?_replicate, if_pos hj]
    · have := hr.2.1
      rw [List.length_map] at this
      rw [List.getElem?_eq_none (by omega), List.getElem?_eq_none (by rw [List.length_replicate]; omega)]
  subst hFs
  exact ⟨g, o, c, rfl, by simp, hr⟩
theorem rowD_str {w : World} {g o : Nat} {l : List ByteArray} {Fs : List (List Nat)} (h : RowD w g o (l.map D.str) Fs) (i : Nat) (hi : i < l.length) : w.cell? ⟨g, o + i, none⟩ = some (.string l[i]) ∧ w.frozen? ⟨g, o + i, none⟩ = false := by
  obtain ⟨u, G, _, hc, hf, ho⟩ := h.2.2 i (.str l[i]) (by rw [List.getElem?_map, List.getElem?_eq_getElem hi]; rfl)
  rw [Own] at ho
  rw [ho.1] at hc
  exact ⟨hc, hf⟩
theorem rowD_set {w : World} {g o n : Nat} {l : List ByteArray} (h : RowD w g o (l.map D.str) (List.replicate n [])) (i : Nat) (hi : i < l.length) (s : ByteArray) : RowD (w.setCell ⟨g, o + i, none⟩ (.string s)) g o ((l.set i s).map D.str) (List.replicate n []) := by
  have h2 := h.put (j := i) (d := .str s) (u := .string s) (G := []) (by rw [List.length_map]; exact hi) (by rw [Own]; exact ⟨rfl, rfl⟩) List.not_mem_nil fun _ K _ _ => apart_nil K
  rw [List.map_set]
  have e : (List.replicate n ([] : List Nat)).set i [] = List.replicate n [] := by
    apply List.ext_getElem?
    intro j
    rw [List.getElem?_set, List.getElem?_replicate]
    split
    · rename_i e; subst e; rw [List.length_replicate]
    · rfl
  rw [e] at h2
  exact h2
end Go.Proofs.YtkhcbahbffjnkaaDoor
/- Records, procedures, units as data. No conditions. -/
namespace Go.Proofs.YtkhcbahbffjnkaaDoor
open Go.RowKit
set_option linter.unusedVariables false

structure Rc where
  name : ByteArray
  fields : List ByteArray
  line : Int
structure Pc where
  name : ByteArray
  params : List ByteArray
  locals : List ByteArray
  body : Ex.T
  line : Int
structure Un where
  recs : List Rc
  globs : List ByteArray
  procs : List Pc
def Rc.ds (r : Rc) : List D := [.str r.name, strsD r.fields, .int r.line]
def Pc.ds (p : Pc) : List D := [.str p.name, strsD p.params, strsD p.locals, .int p.body.kind, .str p.body.text, .int p.body.num, .int p.body.line, .ex p.body.kids, .int p.line]
abbrev recsD (l : List Rc) : D := .row l.length (l.flatMap Rc.ds)
abbrev procsD (l : List Pc) : D := .row l.length (l.flatMap Pc.ds)
theorem Rc.ds_len (r : Rc) : r.ds.length = 3 := rfl
theorem Pc.ds_len (p : Pc) : p.ds.length = 9 := rfl
abbrev rcV (r : Rc) (v1 : Value) : Value := .agg #[.string r.name, v1, .int .i64 r.line]
abbrev pcV (p : Pc) (v1 v2 v3 : Value) : Value := .agg #[.string p.name, v1, v2, .int .i64 p.body.kind, .string p.body.text, .int .i64 p.body.num, .int .i64 p.body.line, v3, .int .i64 p.line]
abbrev unV (v1 v2 v3 : Value) : Value := .agg #[v1, v2, v3]
/-- The cells of a record at a place. -/
def RecAt (w : World) (g o : Nat) (r : Rc) : Prop := w.cell? ⟨g, o, none⟩ = some (.string r.name) ∧ (∃ v1, w.cell? ⟨g, o + 1, none⟩ = some v1 ∧ Is w (strsD r.fields) v1) ∧ w.cell? ⟨g, o + 2, none⟩ = some (.int .i64 r.line)
def ProcAt (w : World) (g o : Nat) (p : Pc) : Prop := w.cell? ⟨g, o, none⟩ = some (.string p.name) ∧ (∃ v1, w.cell? ⟨g, o + 1, none⟩ = some v1 ∧ Is w (strsD p.params) v1) ∧ (∃ v2, w.cell? ⟨g, o + 2, none⟩ = some v2 ∧ Is w (strsD p.locals) v2) ∧ (w.cell? ⟨g, o + 3, none⟩ = some (.int .i64 p.body.kind) ∧ w.cell? ⟨g, o + 4, none⟩ = some (.string p.body.text) ∧ w.cell? ⟨g, o + 5, none⟩ = some (.int .i64 p.body.num) ∧ w.cell? ⟨g, o + 6, none⟩ = some (.int .i64 p.body.line)) ∧ (∃ v3, w.cell? ⟨g, o + 7, none⟩ = some v3 ∧ Kids w v3 p.body.kids) ∧ w.cell? ⟨g, o + 8, none⟩ = some (.int .i64 p.line)
theorem is_int {w : World} {n : Int} {v : Value} (h : Is w (.int n) v) : v = .int .i64 n := by rw [Is] at h; exact h
theorem is_str {w : World} {s : ByteArray} {v : Value} (h : Is w (.str s) v) : v = .string s := by rw [Is] at h; exact h
theorem is_ex {w : World} {ks : List Ex.T} {v : Value} (h : Is w (.ex ks) v) : Kids w v ks := by rw [Is] at h; exact h
theorem rec_at {w : World} {a : Option Addr} {n c : Nat} {l : List Rc} (h : Is w (.row n (l.flatMap Rc.ds)) (.slice a n c)) (i : Nat) (hi : i < l.length) : ∃ g o, a = some ⟨g, o, none⟩ ∧ RecAt w g (o + i * 3) l[i] := by
  obtain ⟨g, o, e, hc⟩ := is_nth Rc.ds Rc.ds_len (by decide) h i l[i] (List.getElem?_eq_getElem hi)
  obtain ⟨u0, c0, d0⟩ := hc 0 _ rfl
  obtain ⟨u1, c1, d1⟩ := hc 1 _ rfl
  obtain ⟨u2, c2, d2⟩ := hc 2 _ rfl
  obtain rfl := is_str d0
  obtain rfl := is_int d2
  exact ⟨g, o, e, c0, ⟨u1, c1, d1⟩, c2⟩
theorem proc_at {w : World} {a : Option Addr} {n c : Nat} {l : List Pc} (h : Is w (.row n (l.flatMap Pc.ds)) (.slice a n c)) (i : Nat) (hi : i < l.length) : ∃ g o, a = some ⟨g, o, none⟩ ∧ ProcAt w g (o + i * 9) l[i] := by
  obtain ⟨g, o, e, hc⟩ := is_nth Pc.ds Pc.ds_len (by decide) h i l[i] (List.getElem?_eq_getElem hi)
  obtain ⟨u0, c0, d0⟩ := hc 0 _ rfl
  obtain ⟨u1, c1, d1⟩ := hc 1 _ rfl
  obtain ⟨u2, c2, d2⟩ := hc 2 _ rfl
  obtain ⟨u3, c3, d3⟩ := hc 3 _ rfl
  obtain ⟨u4, c4, d4⟩ := hc 4 _ rfl
  obtain ⟨u5, c5, d5⟩ := hc 5 _ rfl
  obtain ⟨u6, c6, d6⟩ := hc 6 _ rfl
  obtain ⟨u7, c7, d7⟩ := hc 7 _ rfl
  obtain ⟨u8, c8, d8⟩ := hc 8 _ rfl
  obtain rfl := is_str d0
  obtain rfl := is_int d3
  obtain rfl := is_str d4
  obtain rfl := is_int d5
  obtain rfl := is_int d6
  obtain rfl := is_int d8
  exact ⟨g, o, e, c0, ⟨u1, c1, d1⟩, ⟨u2, c2, d2⟩, ⟨c3, c4, c5, c6⟩, ⟨u7, c7, is_ex d7⟩, c8⟩
def Rc.bulk (r : Rc) : Nat := r.name.size + strsB r.fields
def Pc.bulk (p : Pc) : Nat := p.name.size + (strsB p.params + (strsB p.locals + p.body.bulk))
def recsB (l : List Rc) : Nat := l.length + wsum Rc.bulk l
def procsB (l : List Pc) : Nat := l.length + wsum Pc.bulk l
def Un.bulk (u : Un) : Nat := recsB u.recs + (strsB u.globs + procsB u.procs)
/-- Nothing is greater than memory can hold. -/
def StrsOk (l : List ByteArray) : Prop := l.length ≤ 9223372036854775807 ∧ ∀ s ∈ l, s.size ≤ 9223372036854775807
def Rc.Ok (r : Rc) : Prop := r.name.size ≤ 9223372036854775807 ∧ StrsOk r.fields
def Pc.Ok (p : Pc) : Prop := p.name.size ≤ 9223372036854775807 ∧ StrsOk p.params ∧ StrsOk p.locals ∧ p.body.Ok
def Un.Ok (u : Un) : Prop := (u.recs.length ≤ 9223372036854775807 ∧ ∀ r ∈ u.recs, r.Ok) ∧ StrsOk u.globs ∧ u.procs.length ≤ 9223372036854775807 ∧ ∀ p ∈ u.procs, p.Ok
/-- A unit by its three lists. -/
def UnIs (w : World) (u : Un) (v1 v2 v3 : Value) : Prop := Is w (recsD u.recs) v1 ∧ Is w (strsD u.globs) v2 ∧ Is w (procsD u.procs) v3
theorem UnIs.later {w w' : World} {u : Un} {v1 v2 v3 : Value} (h : UnIs w u v1 v2 v3) (hb : Below w.heap.size w w') : UnIs w' u v1 v2 v3 := ⟨h.1.later hb, h.2.1.later hb, h.2.2.later hb⟩
/-- A unit whose lists lie in the blocks F, each met once. -/
def UnOwn (w : World) (u : Un) (v1 v2 v3 : Value) (F1 F2 F3 : List Nat) : Prop := (Own w (recsD u.recs) v1 F1 ∧ Own w (strsD u.globs) v2 F2 ∧ Own w (procsD u.procs) v3 F3) ∧ Apart F1 F2 ∧ Apart F1 F3 ∧ Apart F2 F3
theorem UnOwn.is {w : World} {u : Un} {v1 v2 v3 : Value} {F1 F2 F3 : List Nat} (h : UnOwn w u v1 v2 v3 F1 F2 F3) : UnIs w u v1 v2 v3 := ⟨h.1.1.is, h.1.2.1.is, h.1.2.2.is⟩
theorem UnOwn.keep {w w' : World} {u : Un} {v1 v2 v3 : Value} {F1 F2 F3 : List Nat} (h : UnOwn w u v1 v2 v3 F1 F2 F3) (hF : ∀ b ∈ F1 ++ (F2 ++ F3), w'.heap[b]? = w.heap[b]?) : UnOwn w' u v1 v2 v3 F1 F2 F3 :=
  ⟨⟨Own.keep _ _ _ (fun b hb => hF b (List.mem_append_left _ hb)) h.1.1, Own.keep _ _ _ (fun b hb => hF b (List.mem_append_right _ (List.mem_append_left _ hb))) h.1.2.1, Own.keep _ _ _ (fun b hb => hF b (List.mem_append_right _ (List.mem_append_right _ hb))) h.1.2.2⟩, h.2⟩
/-- What the laws write. -/
def Rc.mk' (r : Rc) (k : Nat) : Rc := ⟨mark k, marks (k + 1) r.fields.length, ((k + 1 + r.fields.length : Nat) : Int)⟩
def Rc.wd (r : Rc) : Nat := r.fields.length + 2
def Pc.k1 (p : Pc) (k : Nat) : Nat := k + 1 + p.params.length + p.locals.length
def Pc.mk' (p : Pc) (k : Nat) : Pc := ⟨mark k, marks (k + 1) p.params.length, marks (k + 1 + p.params.length) p.locals.length, .node ((p.k1 k : Nat) : Int) (mark (p.k1 k + 1)) ((p.k1 k + 2 : Nat) : Int) ((p.k1 k + 3 : Nat) : Int) (Ex.mrks p.body.kids (p.k1 k + 4)), ((p.k1 k + 4 + 4 * Ex.counts p.body.kids : Nat) : Int)⟩
def Pc.wd (p : Pc) : Nat := p.params.length + p.locals.length + 4 * Ex.counts p.body.kids + 6
def Un.wd (u : Un) : Nat := wsum Rc.wd u.recs + (u.globs.length + wsum Pc.wd u.procs)
def Un.mk' (u : Un) (k : Nat) : Un := ⟨mks Rc.mk' Rc.wd u.recs k, marks (k + wsum Rc.wd u.recs) u.globs.length, mks Pc.mk' Pc.wd u.procs (k + wsum Rc.wd u.recs + u.globs.length)⟩
end Go.Proofs.YtkhcbahbffjnkaaDoor
/- Names: their first places in lists, what they mean, the faults of a unit. No conditions. -/
namespace Go.Proofs.YtkhcbahbffjnkaaDoor
set_option linter.unusedVariables false

/-- The names of the functions. -/
def funL : List ByteArray := [⟨#[119, 114, 105, 116, 101]⟩, ⟨#[105, 109, 97, 103, 101]⟩, ⟨#[116, 121, 112, 101]⟩, ⟨#[105, 110, 116, 101, 103, 101, 114]⟩, ⟨#[115, 116, 114, 105, 110, 103]⟩, ⟨#[99, 115, 101, 116]⟩, ⟨#[108, 105, 115, 116]⟩, ⟨#[116, 97, 98, 108, 101]⟩, ⟨#[115, 101, 116]⟩, ⟨#[112, 117, 116]⟩, ⟨#[112, 117, 115, 104]⟩, ⟨#[103, 101, 116]⟩, ⟨#[112, 111, 112]⟩, ⟨#[112, 117, 108, 108]⟩, ⟨#[109, 101, 109, 98, 101, 114]⟩, ⟨#[105, 110, 115, 101, 114, 116]⟩, ⟨#[100, 101, 108, 101, 116, 101]⟩, ⟨#[107, 101, 121]⟩, ⟨#[115, 111, 114, 116]⟩, ⟨#[99, 111, 112, 121]⟩, ⟨#[102, 105, 110, 100]⟩, ⟨#[117, 112, 116, 111]⟩, ⟨#[109, 97, 110, 121]⟩, ⟨#[97, 110, 121]⟩, ⟨#[109, 97, 116, 99, 104]⟩, ⟨#[116, 97, 98]⟩, ⟨#[109, 111, 118, 101]⟩, ⟨#[112, 111, 115]⟩, ⟨#[114, 101, 112, 108]⟩, ⟨#[114, 101, 118, 101, 114, 115, 101]⟩, ⟨#[108, 101, 102, 116]⟩, ⟨#[114, 105, 103, 104, 116]⟩, ⟨#[99, 101, 110, 116, 101, 114]⟩, ⟨#[116, 114, 105, 109]⟩, ⟨#[109, 97, 112]⟩, ⟨#[111, 114, 100]⟩, ⟨#[99, 104, 97, 114]⟩, ⟨#[97, 98, 115]⟩, ⟨#[115, 101, 113]⟩, ⟨#[76, 101, 110]⟩, ⟨#[80, 111, 115]⟩, ⟨#[82, 80, 111, 115]⟩, ⟨#[84, 97, 98]⟩, ⟨#[82, 84, 97, 98]⟩, ⟨#[65, 110, 121]⟩, ⟨#[78, 111, 116, 65, 110, 121]⟩, ⟨#[83, 112, 97, 110]⟩, ⟨#[66, 114, 101, 97, 107]⟩, ⟨#[65, 114, 98]⟩, ⟨#[82, 101, 109]⟩, ⟨#[65, 114, 98, 110, 111]⟩, ⟨#[70, 101, 110, 99, 101]⟩, ⟨#[65, 98, 111, 114, 116]⟩, ⟨#[69, 109, 112, 116, 121]⟩, ⟨#[70, 97, 105, 108]⟩]
theorem funL_len : funL.length = 55 := rfl
/-- Are two names equal? -/
def eqN (x s : ByteArray) : Bool := x.toList == s.toList
theorem eqN_iff {x s : ByteArray} : eqN x s = true ↔ x = s := by
  unfold eqN
  rw [beq_iff_eq, ByteArray.toList_eq, ByteArray.toList_eq]
  constructor
  · intro h
    cases x; cases s
    exact congrArg ByteArray.mk (Array.toList_inj.1 h)
  · rintro rfl; rfl
theorem eqN_self (x : ByteArray) : eqN x x = true := eqN_iff.2 rfl
theorem eqN_ne {x s : ByteArray} (h : x ≠ s) : eqN x s = false := by
  cases e : eqN x s
  · rfl
  · exact absurd (eqN_iff.1 e) h
/-- The first place of a name. -/
def fx (l : List ByteArray) (s : ByteArray) : Option Nat := l.findIdx? fun x => eqN x s
def fxI (l : List ByteArray) (s : ByteArray) : Int := match fx l s with | some k => (k : Int) | none => -1
theorem fx_nil (s : ByteArray) : fx [] s = none := rfl
theorem fx_lt {l : List ByteArray} {s : ByteArray} {k : Nat} (h : fx l s = some k) : k < l.length := by
  unfold fx at h
  obtain ⟨h1, _⟩ := List.findIdx?_eq_some_iff_getElem.1 h
  exact h1
theorem fx_none {l : List ByteArray} {s : ByteArray} : fx l s = none ↔ ∀ x ∈ l, eqN x s = false := by
  unfold fx
  rw [List.findIdx?_eq_none_iff]
theorem fx_at {l : List ByteArray} {s : ByteArray} {k : Nat} (hk : k < l.length) (h1 : eqN l[k] s = true) (h2 : ∀ x ∈ l.take k, eqN x s = false) : fx l s = some k := by
  unfold fx
  rw [List.findIdx?_eq_some_iff_getElem]
  refine ⟨hk, h1, fun j hj => ?_⟩
  have := h2 l[j] (by rw [List.mem_take_iff_getElem]; exact ⟨j, by omega, rfl⟩)
  rw [this]; decide
theorem fx_snoc (l : List ByteArray) (x s : ByteArray) : fx (l ++ [x]) s = match fx l s with | some k => some k | none => if eqN x s then some l.length else none := by
  unfold fx
  rw [List.findIdx?_append]
  cases h : List.findIdx? (fun x => eqN x s) l with
  | some k => rfl
  | none =>
    simp only [Option.none_or]
    rw [List.findIdx?_cons]
    cases eqN x s <;> simp
theorem fxI_none {l : List ByteArray} {s : ByteArray} (h : fx l s = none) : fxI l s = -1 := by unfold fxI; rw [h]
theorem fxI_some {l : List ByteArray} {s : ByteArray} {k : Nat} (h : fx l s = some k) : fxI l s = k := by unfold fxI; rw [h]
theorem fxI_pos {l : List ByteArray} {s : ByteArray} : (0 ≤ fxI l s) ↔ (fx l s).isSome = true := by
  unfold fxI
  cases fx l s with
  | none => simp
  | some k => simp
theorem fxI_range (l : List ByteArray) (s : ByteArray) : -1 ≤ fxI l s ∧ fxI l s < l.length + 1 := by
  unfold fxI
  cases h : fx l s with
  | none => simp; omega
  | some k => have := fx_lt h; simp; omega
/-- What a name means outside a procedure: the sort and the number. -/
def outer (u : Un) (s : ByteArray) : Int × Int :=
  match fx (u.recs.map Rc.name) s with
  | some k => (5, k)
  | none => match fx u.globs s with
    | some k => (2, k)
    | none => match fx (u.procs.map Pc.name) s with
      | some k => (3, k)
      | none => match fx funL s with
        | some k => (4, k)
        | none => (0, 0)
/-- Is it a name that is new in a procedure? -/
def fresh (u : Un) (s : ByteArray) (acc : List ByteArray) : Bool := (outer u s).1 == 0 && (fx acc s).isNone
mutual
/-- The names that are met in a body, behind those that are there. -/
def coll (u : Un) : Ex.T → List ByteArray → List ByteArray
  | .node k t n l ks, acc => if k == 4 || k == 28 then (if fresh u t acc then acc ++ [t] else acc) else colls u ks acc
def colls (u : Un) : List Ex.T → List ByteArray → List ByteArray
  | [], acc => acc
  | x :: r, acc => colls u r (coll u x acc)
end
/-- The local names of a procedure. -/
def locs (u : Un) (p : Pc) : List ByteArray := coll u p.body (p.params ++ p.locals)
/-- What a name means in a procedure whose local names these are. -/
def means (u : Un) (L : List ByteArray) (s : ByteArray) : Int × Int := match fx L s with | some k => (1, k) | none => outer u s
mutual
/-- How many case expressions. -/
def csN : Ex.T → Nat
  | .node k t n l ks => (if k == 20 then 1 else 0) + csNs ks
def csNs : List Ex.T → Nat
  | [] => 0
  | x :: r => csN x + csNs r
end
/-- The fault of a node, whatever its kids have. -/
def flt (u : Un) (L : List ByteArray) (k : Int) (t : ByteArray) (loop made : Bool) : Int :=
  if ((k == 24 || k == 25) && !loop) || ((k == 21 || k == 22 || k == 23) && made) then 4
  else if k == 13 && !(u.recs.any fun r => (fx r.fields t).isSome) then 5
  else if k == 28 && ((fx L t).isNone && !((outer u t).1 == 2)) then 6
  else 0
/-- Is kid i of a node in a loop? -/
def kidL (k : Int) (loop : Bool) (i : Nat) : Bool := if k == 16 || k == 17 || k == 18 then i == 1 else if k == 19 then true else if k == 24 || k == 26 then false else loop
mutual
/-- The first fault of a tree: its code and its line. -/
def wlk (u : Un) (L : List ByteArray) : Ex.T → Bool → Bool → Int × Int
  | .node k t n l ks, loop, made => if flt u L k t loop made == 0 then wlks u L k ks 0 loop (made || k == 26) else (flt u L k t loop made, l)
def wlks (u : Un) (L : List ByteArray) (k : Int) : List Ex.T → Nat → Bool → Bool → Int × Int
  | [], i, loop, made => (0, 0)
  | x :: r, i, loop, made => if (wlk u L x (kidL k loop i) made).1 == 0 then wlks u L k r (i + 1) loop made else wlk u L x (kidL k loop i) made
end
/-- Does a name stand twice? -/
def twice (l : List ByteArray) : Bool := match l with | [] => false | x :: r => (fx r x).isSome || twice r
/-- The first fault of the declarations among themselves, by the names that are there. -/
def dupR (acc : List ByteArray) : List Rc → (Int × Int) ⊕ List ByteArray
  | [] => .inr acc
  | r :: l => if (fx acc r.name).isSome || twice r.fields then .inl (2, r.line) else dupR (acc ++ [r.name]) l
def dupG (acc : List ByteArray) : List ByteArray → (Int × Int) ⊕ List ByteArray
  | [] => .inr acc
  | s :: l => if (fx acc s).isSome then .inl (2, 0) else dupG (acc ++ [s]) l
def dupP (acc : List ByteArray) : List Pc → (Int × Int) ⊕ List ByteArray
  | [] => .inr acc
  | p :: l => if (fx acc p.name).isSome || twice (p.params ++ p.locals) then .inl (2, p.line) else dupP (acc ++ [p.name]) l
def dup (u : Un) : Int × Int :=
  match dupR funL u.recs with
  | .inl f => f
  | .inr a => match dupG a u.globs with
    | .inl f => f
    | .inr b => match dupP b u.procs with
      | .inl f => f
      | .inr _ => (0, 0)
def fltP (u : Un) (p : Pc) : Int × Int :=
  if (wlk u (locs u p) p.body false false).1 == 0 then (if 24 < (locs u p).length + csN p.body then (7, p.line) else (0, 0)) else wlk u (locs u p) p.body false false
def fltPs (u : Un) : List Pc → Int × Int
  | [] => (0, 0)
  | p :: l => if (fltP u p).1 == 0 then fltPs u l else fltP u p
def isMain (p : Pc) : Bool := eqN p.name ⟨#[109, 97, 105, 110]⟩ && p.params.length == 0
def fltU (u : Un) : Int × Int :=
  if (dup u).1 == 0 then (if (fltPs u u.procs).1 == 0 then (if u.procs.any isMain then (0, 0) else (3, 0)) else fltPs u u.procs) else dup u
end Go.Proofs.YtkhcbahbffjnkaaDoor
