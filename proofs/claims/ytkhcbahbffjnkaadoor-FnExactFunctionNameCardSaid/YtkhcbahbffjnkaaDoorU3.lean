/- The laws' helpers over lists of strings, wherever they stand: their measure, their copy, comparing them, marking them and reading the marks. No conditions. -/
import Derived.Test.YtkhcbahbffjnkaaDoorU2
import Derived.Test.YtkhcbahbffjnkaaDoorW13
import Derived.Test.YtkhcbahbffjnkaaDoorN30
namespace Go.Proofs.YtkhcbahbffjnkaaDoor
open Go.RowKit
set_option linter.unusedVariables false

abbrev strsD (l : List ByteArray) : D := .row l.length (l.map D.str)
/-- How much a list of strings counts. -/
def strsB (l : List ByteArray) : Nat := l.length + wsum ByteArray.size l
theorem str_at {w : World} {a : Option Addr} {n c : Nat} {l : List ByteArray} (h : Is w (.row n (l.map D.str)) (.slice a n c)) (i : Nat) (hi : i < l.length) : ∃ g o, a = some ⟨g, o, none⟩ ∧ w.cell? ⟨g, o + i, none⟩ = some (.string l[i]) := by
  obtain ⟨g, o, e, hc⟩ := is_elem h i [.str l[i]] (by simp) fun j d hj => by
    match j with
    | 0 => obtain rfl := Option.some.inj hj; rw [Nat.add_zero, List.getElem?_map, List.getElem?_eq_getElem hi]; rfl
    | j + 1 => simp at hj
  obtain ⟨u, hu, hd⟩ := hc 0 _ rfl
  rw [Is] at hd
  subst hd
  exact ⟨g, o, e, hu⟩
theorem reads_of_is {w : World} {v : Value} {l : List ByteArray} (h : Is w (strsD l) v) (hl : l.length ≤ maxLen) : Reads w v l := by
  obtain ⟨a, c, rfl⟩ := is_slice h
  by_cases h0 : l = []
  · subst h0; exact .inl ⟨⟨_, _, rfl⟩, rfl⟩
  · have hp := List.length_pos_iff.2 h0
    obtain ⟨g, o, rfl, _⟩ := str_at h 0 hp
    refine .inr ⟨g, o, c, rfl, hl, fun i hi => ?_⟩
    obtain ⟨g2, o2, e, hc⟩ := str_at h i hi
    injection e with e
    injection e with e1 e2
    subst e1 e2
    rw [hc]; simp [List.getD, List.getElem?_eq_getElem hi]
theorem own_of_owns {w : World} {base : Nat} {v : Value} {l : List ByteArray} (h : Owns w base v l) : ∃ F, Own w (strsD l) v F ∧ Foot base w F := by
  by_cases h0 : l = []
  · subst h0
    rcases h.2 with ⟨rfl, _⟩ | ⟨g, cap, cur, rfl, _⟩
    · exact ⟨[], own_nil, fun b hb => by cases hb⟩
    · exact ⟨[], own_nil, fun b hb => by cases hb⟩
  · rcases id h.2 with ⟨rfl, hn⟩ | ⟨g, cap, cur, rfl, hb, _, hcap, _⟩
    · exact absurd (List.length_eq_zero_iff.1 hn) h0
    · have hfl : (List.replicate l.length ([] : List Nat)).flatten = [] := by simp
      have hr : RowD w g 0 (l.map D.str) (List.replicate l.length []) := by
        refine ⟨⟨by rw [hfl]; exact List.not_mem_nil, pairwise_of fun i j F G _ hi hj b hb2 => ?_⟩, by rw [List.length_replicate, List.length_map], fun j d hj => ?_⟩
        · obtain ⟨_, rfl⟩ := List.mem_replicate.1 (List.mem_of_getElem? hi)
          cases hb2
        · rw [List.getElem?_map] at hj
          obtain ⟨s, hs, rfl⟩ := Option.map_eq_some_iff.1 hj
          have hjl : j < l.length := (List.getElem?_eq_some_iff.1 hs).1
          refine ⟨.string s, [], by rw [List.getElem?_replicate, if_pos hjl], ?_, World.ownsRow.frozenAt h _, by rw [Own]; exact ⟨rfl, rfl⟩⟩
          rw [Nat.zero_add, World.ownsRow.cellAt h j (by omega), List.getElem?_map, hs]
          rfl
      refine ⟨_, own_of_rowD hr (by simpa using h0) hcap, fun b hb2 => ?_⟩
      rw [hfl, List.mem_singleton] at hb2
      subst hb2
      exact ⟨hb, (World.ownsRow.lt h b rfl).2⟩
theorem to_strsD (v : Value) (l : List ByteArray) (w : World) (hr : Is w (strsD l) v) (hl : l.length ≤ 1048576) : Calls Tryd.prog 40 #[v] w (RetD w (strsD l)) := by
  refine (to_strs v l w (reads_of_is hr (by unfold maxLen; omega)) hl).mono ?_
  rintro e w' ⟨v', rfl, ho, hb⟩
  obtain ⟨F, h1, h2⟩ := own_of_owns ho
  exact ⟨v', F, rfl, h1, h2, hb⟩
theorem eq_strsD (v1 v2 : Value) (l : List ByteArray) (w : World) (h1 : Is w (strsD l) v1) (h2 : Is w (strsD l) v2) (hl : l.length ≤ 1048576) : Calls Tryd.prog 43 #[v1, v2] w fun e w' => e = .returned (.bool true) ∧ Below w.heap.size w w' :=
  eq_strs v1 v2 l w (reads_of_is h1 (by unfold maxLen; omega)) (reads_of_is h2 (by unfold maxLen; omega))
/-- Where the measure of a list of strings stands. -/
def SzS (l : List ByteArray) (left k m : Nat) : Prop := m + (l.length + wsum ByteArray.size (l.take k)) = left
set_option maxHeartbeats 800000 in
theorem sz_strsD (v : Value) (l : List ByteArray) (w : World) (left : Nat) (hk : Is w (strsD l) v) (hs : (left : Int) ≤ 1048576) (hl : l.length ≤ 9223372036854775807) (hz : ∀ s ∈ l, s.size ≤ 9223372036854775807) :
    Calls Tryd.prog 36 #[v, .int .i64 (left : Int)] w fun e w' => e = .returned (.int .i64 (szR left (strsB l))) ∧ w = w' := by
  obtain ⟨a, c, rfl⟩ := is_slice hk
  have HK := Lib.hid hk
  have HZ := Lib.hid hz
  clear hk hz
  by_cases h0 : l.length ≤ left
  · have HST : Hid (SzS l left 0 (left - l.length)) := Lib.hid (by unfold SzS; simp [wsum]; omega)
    have e0 : ((left : Int) - l.length) = ((left - l.length : Nat) : Int) := by omega
    have hr0 : 0 ≤ (left : Int) - l.length := by omega
    go_enter Tryd.func36, Tryd.ntmps36
    go_wp2
    go_loop [1, 4, 5] (fun m _ i => ∃ k n : Nat, i = .int .i64 k ∧ m = .int .i64 n ∧ k ≤ l.length ∧ n ≤ left ∧ SzS l left k n) (fun _ _ i => l.length - (intOf i).toNat)
    case atStart => exact ⟨0, left - l.length, rfl, by rw [← e0], by omega, by omega, HST.out⟩
    case round =>
      clear HST e0 hr0
      obtain ⟨k, n, rfl, rfl, hk, hn, hat⟩ := hrel
      by_cases hlt : k < l.length
      · obtain ⟨g, o, rfl, d1⟩ := str_at HK.out k hlt
        have hz := HZ.out l[k] (List.getElem_mem hlt)
        have hwt := wsum_take ByteArray.size l k hlt
        have hwl := wsum_take_le ByteArray.size l (k + 1)
        have HAT := Lib.hid hat
        have HWT := Lib.hid hwt
        have HWL := Lib.hid hwl
        clear hat hwt hwl
        generalize l[k] = y at d1 hz HWT
        by_cases hneg : (n : Int) - (y.size : Int) < 0
        · have HN : Hid (szR left (strsB l) = -1) := Lib.hid (szR_no (by have h1 := HAT.out; have h2 := HWT.out; have h3 := HWL.out; unfold SzS at h1; unfold strsB; omega))
          go_wp2
          go_ret
          exact ⟨ret_ei HN.out, rfl⟩
        · have HN : Hid (SzS l left (k + 1) (n - y.size)) := Lib.hid (by have h1 := HAT.out; have h2 := HWT.out; unfold SzS at h1 ⊢; omega)
          have e1 : (n : Int) - (y.size : Int) = ((n - y.size : Nat) : Int) := by omega
          have HE := Lib.hid e1
          clear e1
          go_wp2
          go_round
          case rel => exact ⟨k + 1, n - y.size, by go_num, by rw [← HE.out], by omega, by omega, HN.out⟩
          case measure => first | (simp [intOf]; done) | (simp [intOf]; omega)
      · obtain rfl : k = l.length := by omega
        have HN : Hid (szR left (strsB l) = (n : Int)) := Lib.hid (by
          unfold SzS at hat
          rw [List.take_length] at hat
          rw [szR_yes (by unfold strsB; omega)]; unfold strsB; congr 1; omega)
        clear hat
        go_wp2
        go_ret
        exact ⟨ret_ei HN.out, rfl⟩
  · have HN := Lib.hid (szR_no (left := left) (b := strsB l) (by unfold strsB; omega))
    have hlt0 : (left : Int) - l.length < 0 := by omega
    go_enter Tryd.func36, Tryd.ntmps36
    go_wp2
    go_ret
    exact ⟨ret_ei HN.out, rfl⟩
/-- The places of a list, the first i of them marked from k on. -/
def partlyK (k : Nat) (l : List ByteArray) (i : Nat) : List ByteArray := marks k i ++ l.drop i
theorem partlyK_length (k : Nat) (l : List ByteArray) (i : Nat) (h : i ≤ l.length) : (partlyK k l i).length = l.length := by
  simp [partlyK, marks_length]; omega
theorem partlyK_set (k : Nat) (l : List ByteArray) (i : Nat) (h : i < l.length) : (partlyK k l i).set i (mark (k + i)) = partlyK k l (i + 1) := by
  unfold partlyK
  rw [marks_succ, List.set_append_right _ _ (by rw [marks_length]; exact Nat.le_refl _), marks_length, Nat.sub_self, List.drop_eq_getElem_cons h, List.append_assoc]
  rfl
theorem partlyK_zero (k : Nat) (l : List ByteArray) : partlyK k l 0 = l := by simp [partlyK, marks]
theorem partlyK_all (k : Nat) (l : List ByteArray) : partlyK k l l.length = marks k l.length := by simp [partlyK]
/-- A list of strings of the call's own lies in one block. -/
theorem own_strs {w : World} {v : Value} {l : List ByteArray} {F : List Nat} (h : Own w (strsD l) v F) (h0 : l ≠ []) : ∃ g o c, v = .slice (some ⟨g, o, none⟩) l.length c ∧ F = [g] ∧ RowD w g o (l.map D.str) (List.replicate l.length []) := by
  obtain ⟨g, o, c, Fs, rfl, rfl, hr⟩ := rowD_of_own h (by simpa using h0)
  have hFs : Fs = List.replicate l.length [] := by
    apply List.ext_getElem?
    intro j
    by_cases hj : j < l.length
    · obtain ⟨u, G, e, _, _, ho⟩ := hr.2.2 j (.str l[j]) (by rw [List.getElem?_map, List.getElem?_eq_getElem hj]; rfl)
      rw [Own] at ho
      obtain ⟨_, rfl⟩ := ho
      rw [e, List.getElem?_replicate, if_pos hj]
    · have := hr.2.1
      rw [List.length_map] at this
      rw [List.getElem?_eq_none (by omega), List.getElem?_eq_none (by rw [List.length_replicate]; omega)]
  subst hFs
  exact ⟨g, o, c, rfl, by simp, hr⟩
theorem rowD_str {w : World} {g o : Nat} {l : List ByteArray} {Fs : List (List Nat)} (h : RowD w g o (l.map D.str) Fs) (i : Nat) (hi : i < l.length) : w.cell? ⟨g, o + i, none⟩ = some (.string l[i]) ∧ w.frozen? ⟨g, o + i, none⟩ = false := by
  obtain ⟨u, G, _, hc, hf, ho⟩ := h.2.2 i (.str l[i]) (by rw [List.getElem?_map, List.getElem?_eq_getElem hi]; rfl)
  rw [Own] at ho
  rw [ho.1] at hc
  exact ⟨hc, hf⟩
theorem rowD_set {w : World} {g o n : Nat} {l : List ByteArray} (h : RowD w g o (l.map D.str) (List.replicate n [])) (i : Nat) (hi : i < l.length) (s : ByteArray) : RowD (w.setCell ⟨g, o + i, none⟩ (.string s)) g o ((l.set i s).map D.str) (List.replicate n []) := by
  have h2 := h.put (j := i) (d := .str s) (u := .string s) (G := []) (by rw [List.length_map]; exact hi) (by rw [Own]; exact ⟨rfl, rfl⟩) List.not_mem_nil fun _ K _ _ => apart_nil K
  rw [List.map_set]
  have e : (List.replicate n ([] : List Nat)).set i [] = List.replicate n [] := by
    apply List.ext_getElem?
    intro j
    rw [List.getElem?_set, List.getElem?_replicate]
    split
    · rename_i e; subst e; rw [List.length_replicate]
    · rfl
  rw [e] at h2
  exact h2
end Go.Proofs.YtkhcbahbffjnkaaDoor
