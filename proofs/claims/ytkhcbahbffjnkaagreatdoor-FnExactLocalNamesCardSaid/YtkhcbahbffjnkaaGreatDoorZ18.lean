/- Joined texts: K5, V2, V20, V24. No conditions besides those that each states. -/
import Derived.Laws.Rows
import Derived.IntWalk
import Derived.Maps.OwnSet
import Derived.Maps.Views
import Derived.Test.YtkhcbahbffjnkaaGreatDoorZ16
import Derived.Test.YtkhcbahbffjnkaaGreatDoorZ17
/- Which tokens begin or end an expression, and the operators, in the reference model. No conditions. -/
namespace Go.Proofs.YtkhcbahbffjnkaaGreatDoor
open Go.RowKit
set_option linter.unusedVariables false

/-- A token by value. -/
abbrev tokV (k : Int) (t : ByteArray) (ln : Int) : Value := .agg #[.int .i64 k, .string t, .int .i64 ln]
theorem eq_word (t : ByteArray) (l : List UInt8) (b : Bool) (h : (t.data.toList == l) = b) : (t.toList == l) = b := by rw [ByteArray.toList_eq]; exact h
theorem kind_cases (k : Int) : k = 2 ∨ k = 7 ∨ (k ≠ 2 ∧ k ≠ 7 ∧ k = 1) ∨ (k ≠ 2 ∧ k ≠ 7 ∧ k ≠ 1 ∧ k < 3) ∨ (k ≠ 2 ∧ k ≠ 7 ∧ k ≠ 1 ∧ 3 ≤ k ∧ k ≤ 6) ∨ (k ≠ 2 ∧ k ≠ 7 ∧ k ≠ 1 ∧ 3 ≤ k ∧ 6 < k) := by omega
theorem rest_kind {k : Int} (b : Bool) (h : k = 1 ∧ b = true ∨ k ≠ 1 ∧ k < 3 ∧ b = false ∨ k ≠ 1 ∧ 3 ≤ k ∧ k ≤ 6 ∧ b = true ∨ k ≠ 1 ∧ 6 < k ∧ b = false) : (k == 1 || (decide (3 ≤ k) && decide (k ≤ 6))) = b := by
  rcases h with ⟨rfl, rfl⟩ | ⟨h1, h2, rfl⟩ | ⟨h1, h2, h3, rfl⟩ | ⟨h1, h2, rfl⟩
  · rfl
  · simp [h1]; omega
  · simp [h2, h3]
  · simp [h1]; omega
set_option maxHeartbeats 800000 in
theorem spec_ends (k : Int) (t : ByteArray) (ln : Int) (w : World) : Calls Tryz.prog 150 #[tokV k t ln] w fun e w' => e = .returned (.bool (Tk.ends k t.data.toList)) ∧ Below w.heap.size w w' := by
  unfold tokV
  rcases kind_cases k with rfl | rfl | ⟨h1, h2, h3⟩ | ⟨h1, h2, h3, h4⟩ | ⟨h1, h2, h3, h4, h5⟩ | ⟨h1, h2, h3, h4, h5⟩
  · have e : Tk.ends 2 t.data.toList = hasW Tk.end2 t.data.toList := by unfold Tk.ends; rfl
    rw [e]
    clear e
    have HH : Hid (∀ W : World, Calls Tryz.prog 216 #[.slice (some ⟨W.heap.size, 0, none⟩) 5 5, .string t] (W.alloc (.cells (Tk.end2.map fun x => Value.string (str8 x)).toArray 9)) fun e w' => e = .returned (.bool (hasW Tk.end2 t.data.toList)) ∧ (W.alloc (.cells (Tk.end2.map fun x => Value.string (str8 x)).toArray 9)) = w') :=
      fun W => spec_hasw Tk.end2 W.heap.size 5 t _ (words_new W Tk.end2 9 _ rfl) (words_lt _ (by decide))
    have HW := Lib.hid (HH.out (w.alloc (.cells #[.int .i64 2, .string t, .int .i64 ln] 117)))
    rw [show (w.alloc (.cells #[.int .i64 2, .string t, .int .i64 ln] 117)).heap.size = w.heap.size + 1 by simp] at HW
    generalize hasW Tk.end2 t.data.toList = b at HW ⊢
    clear HH
    go_enter Tryz.func150, Tryz.ntmps150
    go_wp2_with fail
    refine HW.out.mono ?_
    rintro e w1 ⟨rfl, rfl⟩
    go_wp2
    go_ret
    exact ⟨rfl, bl2 _ _ _⟩
  · have e : Tk.ends 7 t.data.toList = (t.data.toList == [41] || (t.data.toList == [93] || (t.data.toList == [125] || false))) := by
      unfold Tk.ends; rfl
    cases e1 : (t.data.toList == [41])
    · cases e2 : (t.data.toList == [93])
      · cases e3 : (t.data.toList == [125])
        all_goals
          rw [e1, e2, e3] at e
          have HE := Lib.hid e
          have u1 := eq_word t _ _ e1
          have u2 := eq_word t _ _ e2
          have u3 := eq_word t _ _ e3
          clear e e1 e2 e3
          go_enter Tryz.func150, Tryz.ntmps150
          go_wp2
          go_ret
          exact ⟨ret_b HE.out.symm, bl1 _ _⟩
      · rw [e1, e2] at e
        have HE := Lib.hid e
        have u1 := eq_word t _ _ e1
        have u2 := eq_word t _ _ e2
        clear e e1 e2
        go_enter Tryz.func150, Tryz.ntmps150
        go_wp2
        go_ret
        exact ⟨ret_b HE.out.symm, bl1 _ _⟩
    · rw [e1] at e
      have HE := Lib.hid e
      have u1 := eq_word t _ _ e1
      clear e e1
      go_enter Tryz.func150, Tryz.ntmps150
      go_wp2
      go_ret
      exact ⟨ret_b HE.out.symm, bl1 _ _⟩
  · have HE : Hid (Tk.ends k t.data.toList = true) := by
      show _ = _
      unfold Tk.ends
      rw [if_neg h1, if_neg h2]
      exact rest_kind true (.inl ⟨h3, rfl⟩)
    have u1 : (k == 2) = false := by simpa using h1
    have u2 : (k == 7) = false := by simpa using h2
    have u3 : (k == 1) = true := by simpa using h3
    clear h3
    clear h1 h2
    go_enter Tryz.func150, Tryz.ntmps150
    go_wp2
    go_ret
    exact ⟨ret_b HE.out.symm, bl1 _ _⟩
  · have HE : Hid (Tk.ends k t.data.toList = false) := by
      show _ = _
      unfold Tk.ends
      rw [if_neg h1, if_neg h2]
      exact rest_kind false (.inr (.inl ⟨h3, h4, rfl⟩))
    have u1 : (k == 2) = false := by simpa using h1
    have u2 : (k == 7) = false := by simpa using h2
    have u3 : (k == 1) = false := by simpa using h3
    have u4 : decide (3 ≤ k) = false := by simp; omega
    clear h3
    clear h1 h2
    go_enter Tryz.func150, Tryz.ntmps150
    go_wp2
    go_ret
    exact ⟨ret_b HE.out.symm, bl1 _ _⟩
  · have HE : Hid (Tk.ends k t.data.toList = true) := by
      show _ = _
      unfold Tk.ends
      rw [if_neg h1, if_neg h2]
      exact rest_kind true (.inr (.inr (.inl ⟨h3, h4, h5, rfl⟩)))
    have u1 : (k == 2) = false := by simpa using h1
    have u2 : (k == 7) = false := by simpa using h2
    have u3 : (k == 1) = false := by simpa using h3
    have u4 : decide (3 ≤ k) = true := by simp; omega
    have u5 : decide (k ≤ 6) = true := by simp; omega
    clear h3
    clear h1 h2
    go_enter Tryz.func150, Tryz.ntmps150
    go_wp2
    go_ret
    exact ⟨ret_b HE.out.symm, bl1 _ _⟩
  · have HE : Hid (Tk.ends k t.data.toList = false) := by
      show _ = _
      unfold Tk.ends
      rw [if_neg h1, if_neg h2]
      exact rest_kind false (.inr (.inr (.inr ⟨h3, h5, rfl⟩)))
    have u1 : (k == 2) = false := by simpa using h1
    have u2 : (k == 7) = false := by simpa using h2
    have u3 : (k == 1) = false := by simpa using h3
    have u4 : decide (3 ≤ k) = true := by simp; omega
    have u5 : decide (k ≤ 6) = false := by simp; omega
    clear h3
    clear h1 h2
    go_enter Tryz.func150, Tryz.ntmps150
    go_wp2
    go_ret
    exact ⟨ret_b HE.out.symm, bl1 _ _⟩
set_option maxHeartbeats 800000 in
theorem spec_begins (k : Int) (t : ByteArray) (ln : Int) (w : World) : Calls Tryz.prog 151 #[tokV k t ln] w fun e w' => e = .returned (.bool (Tk.begins k t.data.toList)) ∧ Below w.heap.size w w' := by
  unfold tokV
  rcases kind_cases k with rfl | rfl | ⟨h1, h2, h3⟩ | ⟨h1, h2, h3, h4⟩ | ⟨h1, h2, h3, h4, h5⟩ | ⟨h1, h2, h3, h4, h5⟩
  · have e : Tk.begins 2 t.data.toList = hasW Tk.beg2 t.data.toList := by unfold Tk.begins; rfl
    rw [e]
    clear e
    have HH : Hid (∀ W : World, Calls Tryz.prog 216 #[.slice (some ⟨W.heap.size, 0, none⟩) 14 14, .string t] (W.alloc (.cells (Tk.beg2.map fun x => Value.string (str8 x)).toArray 9)) fun e w' => e = .returned (.bool (hasW Tk.beg2 t.data.toList)) ∧ (W.alloc (.cells (Tk.beg2.map fun x => Value.string (str8 x)).toArray 9)) = w') :=
      fun W => spec_hasw Tk.beg2 W.heap.size 14 t _ (words_new W Tk.beg2 9 _ rfl) (words_lt _ (by decide))
    have HW := Lib.hid (HH.out (w.alloc (.cells #[.int .i64 2, .string t, .int .i64 ln] 117)))
    rw [show (w.alloc (.cells #[.int .i64 2, .string t, .int .i64 ln] 117)).heap.size = w.heap.size + 1 by simp] at HW
    generalize hasW Tk.beg2 t.data.toList = b at HW ⊢
    clear HH
    go_enter Tryz.func151, Tryz.ntmps151
    go_wp2_with fail
    refine HW.out.mono ?_
    rintro e w1 ⟨rfl, rfl⟩
    go_wp2
    go_ret
    exact ⟨rfl, bl2 _ _ _⟩
  · have e : Tk.begins 7 t.data.toList = hasW Tk.beg7 t.data.toList := by unfold Tk.begins; rfl
    rw [e]
    clear e
    have HH : Hid (∀ W : World, Calls Tryz.prog 216 #[.slice (some ⟨W.heap.size, 0, none⟩) 16 16, .string t] (W.alloc (.cells (Tk.beg7.map fun x => Value.string (str8 x)).toArray 9)) fun e w' => e = .returned (.bool (hasW Tk.beg7 t.data.toList)) ∧ (W.alloc (.cells (Tk.beg7.map fun x => Value.string (str8 x)).toArray 9)) = w') :=
      fun W => spec_hasw Tk.beg7 W.heap.size 16 t _ (words_new W Tk.beg7 9 _ rfl) (words_lt _ (by decide))
    have HW := Lib.hid (HH.out (w.alloc (.cells #[.int .i64 7, .string t, .int .i64 ln] 117)))
    rw [show (w.alloc (.cells #[.int .i64 7, .string t, .int .i64 ln] 117)).heap.size = w.heap.size + 1 by simp] at HW
    generalize hasW Tk.beg7 t.data.toList = b at HW ⊢
    clear HH
    go_enter Tryz.func151, Tryz.ntmps151
    go_wp2_with fail
    refine HW.out.mono ?_
    rintro e w1 ⟨rfl, rfl⟩
    go_wp2
    go_ret
    exact ⟨rfl, bl2 _ _ _⟩
  · have HE : Hid (Tk.begins k t.data.toList = true) := by
      show _ = _
      unfold Tk.begins
      rw [if_neg h1, if_neg h2]
      exact rest_kind true (.inl ⟨h3, rfl⟩)
    have u1 : (k == 2) = false := by simpa using h1
    have u2 : (k == 7) = false := by simpa using h2
    have u3 : (k == 1) = true := by simpa using h3
    clear h3
    clear h1 h2
    go_enter Tryz.func151, Tryz.ntmps151
    go_wp2
    go_ret
    exact ⟨ret_b HE.out.symm, bl1 _ _⟩
  · have HE : Hid (Tk.begins k t.data.toList = false) := by
      show _ = _
      unfold Tk.begins
      rw [if_neg h1, if_neg h2]
      exact rest_kind false (.inr (.inl ⟨h3, h4, rfl⟩))
    have u1 : (k == 2) = false := by simpa using h1
    have u2 : (k == 7) = false := by simpa using h2
    have u3 : (k == 1) = false := by simpa using h3
    have u4 : decide (3 ≤ k) = false := by simp; omega
    clear h3
    clear h1 h2
    go_enter Tryz.func151, Tryz.ntmps151
    go_wp2
    go_ret
    exact ⟨ret_b HE.out.symm, bl1 _ _⟩
  · have HE : Hid (Tk.begins k t.data.toList = true) := by
      show _ = _
      unfold Tk.begins
      rw [if_neg h1, if_neg h2]
      exact rest_kind true (.inr (.inr (.inl ⟨h3, h4, h5, rfl⟩)))
    have u1 : (k == 2) = false := by simpa using h1
    have u2 : (k == 7) = false := by simpa using h2
    have u3 : (k == 1) = false := by simpa using h3
    have u4 : decide (3 ≤ k) = true := by simp; omega
    have u5 : decide (k ≤ 6) = true := by simp; omega
    clear h3
    clear h1 h2
    go_enter Tryz.func151, Tryz.ntmps151
    go_wp2
    go_ret
    exact ⟨ret_b HE.out.symm, bl1 _ _⟩
  · have HE : Hid (Tk.begins k t.data.toList = false) := by
      show _ = _
      unfold Tk.begins
      rw [if_neg h1, if_neg h2]
      exact rest_kind false (.inr (.inr (.inr ⟨h3, h5, rfl⟩)))
    have u1 : (k == 2) = false := by simpa using h1
    have u2 : (k == 7) = false := by simpa using h2
    have u3 : (k == 1) = false := by simpa using h3
    have u4 : decide (3 ≤ k) = true := by simp; omega
    have u5 : decide (k ≤ 6) = false := by simp; omega
    clear h3
    clear h1 h2
    go_enter Tryz.func151, Tryz.ntmps151
    go_wp2
    go_ret
    exact ⟨ret_b HE.out.symm, bl1 _ _⟩
theorem spec_ops (w : World) : Calls Tryz.prog 147 #[] w fun e w' => e = .returned (.slice (some ⟨w.heap.size, 0, none⟩) 62 62) ∧ w.alloc (.cells (Tk.operators.map fun x => Value.string (str8 x)).toArray 9) = w' := by
  go_enter Tryz.func147, Tryz.ntmps147
  go_wp2
  go_ret
  exact ⟨rfl, rfl⟩
end Go.Proofs.YtkhcbahbffjnkaaGreatDoor
/- The reference model: the first place of a name, the names of the functions. No conditions. -/
namespace Go.Proofs.YtkhcbahbffjnkaaGreatDoor
open Go.RowKit
set_option linter.unusedVariables false

theorem ret_in {a b : Int} (h : a = b) : Ending.returned (.int .i64 a) = .returned (.int .i64 b) := by rw [h]
/-- Up to place k the name was not met. -/
def NotYet (l : List ByteArray) (s : ByteArray) (k : Nat) : Prop := ∀ x ∈ l.take k, eqN x s = false
theorem notYet_zero (l : List ByteArray) (s : ByteArray) : NotYet l s 0 := fun x h => by simp at h
theorem notYet_succ {l : List ByteArray} {s : ByteArray} {k : Nat} (h : NotYet l s k) (hk : k < l.length) (hx : eqN l[k] s = false) : NotYet l s (k + 1) := fun x hm => by
  rw [List.take_succ_eq_append_getElem hk] at hm
  rcases List.mem_append.1 hm with hm | hm
  · exact h x hm
  · rw [List.mem_singleton] at hm; rw [hm]; exact hx
theorem notYet_all {l : List ByteArray} {s : ByteArray} (h : NotYet l s l.length) : fx l s = none := fx_none.2 fun x hx => h x (by rw [List.take_length]; exact hx)
set_option maxHeartbeats 800000 in
theorem spec_find (v : Value) (l : List ByteArray) (s : ByteArray) (w : World) (h : Is w (strsD l) v) (hl : (l.length : Int) ≤ 1048576) : Calls Tryz.prog 107 #[v, .string s] w fun e w' => e = .returned (.int .i64 (fxI l s)) ∧ w = w' := by
  obtain ⟨a, c, rfl⟩ := is_slice h
  have HK := Lib.hid h
  clear h
  go_enter Tryz.func107, Tryz.ntmps107
  go_wp2
  go_loop [5] (fun i => ∃ k : Nat, i = .int .i64 k ∧ k ≤ l.length ∧ NotYet l s k) (fun i => l.length - (intOf i).toNat)
  case atStart => exact ⟨0, rfl, Nat.zero_le _, notYet_zero l s⟩
  case round =>
    obtain ⟨k, rfl, hk, hn⟩ := hrel
    have HN := Lib.hid hn
    clear hn
    by_cases hlt : k < l.length
    · obtain ⟨g, o, rfl, d1⟩ := str_at HK.out k hlt
      cases he : eqN l[k] s
      case true =>
        have HX := Lib.hid (fxI_some (fx_at hlt he HN.out))
        have t1 : (l[k].toList == s.toList) = true := he
        clear he
        generalize l[k] = x at d1 t1
        go_wp2
        go_ret
        exact ⟨ret_in HX.out.symm, rfl⟩
      case false =>
        have HX := Lib.hid (notYet_succ HN.out hlt he)
        have t1 : (l[k].toList == s.toList) = false := he
        clear he
        generalize l[k] = x at d1 t1
        go_wp2
        go_round
        case rel => exact ⟨k + 1, by go_num, by omega, HX.out⟩
        case measure => first | (simp [intOf]; done) | (simp [intOf]; omega)
    · obtain rfl : k = l.length := by omega
      have HX := Lib.hid (fxI_none (notYet_all HN.out))
      go_wp2
      go_ret
      exact ⟨ret_in HX.out.symm, rfl⟩
theorem is_strs_new (w : World) (l : List ByteArray) (t : TypeId) (cs : Array Value) (hcs : cs = (l.map Value.string).toArray) : Is (w.alloc (.cells cs t)) (strsD l) (.slice (some ⟨w.heap.size, 0, none⟩) l.length l.length) := by
  subst hcs
  rw [Is]
  refine ⟨_, _, rfl, .inr ⟨Nat.le_refl _, w.heap.size, 0, rfl, isAll_of fun j d hj => ?_⟩⟩
  rw [List.getElem?_map] at hj
  obtain ⟨s, hs, rfl⟩ := Option.map_eq_some_iff.1 hj
  refine ⟨.string s, ?_, by rw [Is]⟩
  rw [Nat.zero_add, World.cell?_alloc_mark]
  simp [hs]
set_option maxRecDepth 100000 in
theorem spec_funs (w : World) : Calls Tryz.prog 106 #[] w fun e w' => e = .returned (.slice (some ⟨w.heap.size, 0, none⟩) 55 55) ∧ w.alloc (.cells (funL.map Value.string).toArray 9) = w' := by
  go_enter Tryz.func106, Tryz.ntmps106
  go_wp2
  go_ret
  exact ⟨rfl, rfl⟩
theorem spec_funs2 (w : World) : Calls Tryz.prog 106 #[] w fun e w' => e = .returned (.slice (some ⟨w.heap.size, 0, none⟩) 55 55) ∧ Is w' (strsD funL) (.slice (some ⟨w.heap.size, 0, none⟩) 55 55) ∧ w'.heap.size = w.heap.size + 1 ∧ Below w.heap.size w w' :=
  (spec_funs w).mono fun e w' ⟨he, hw⟩ => by
    subst hw
    exact ⟨he, is_strs_new w funL 9 _ rfl, World.size_alloc _ _, bl1 _ _⟩
end Go.Proofs.YtkhcbahbffjnkaaGreatDoor
/- The program's table of the functions' names; a function's number. The table reads as the program's text lays it. -/
namespace Go.Proofs.YtkhcbahbffjnkaaGreatDoor
open Go.RowKit
set_option linter.unusedVariables false

/-- The table holds the names. -/
def NamesAt (W : World) : Prop := ∃ t fr, W.heap[0]? = some (.cells (funL.map Value.string).toArray t fr)
theorem NamesAt.lt {W : World} (h : NamesAt W) : 0 < W.heap.size := by
  obtain ⟨t, fr, h⟩ := h
  exact (Array.getElem?_eq_some_iff.1 h).1
theorem NamesAt.keep {W W' : World} (h : NamesAt W) (hb : W'.heap[0]? = W.heap[0]?) : NamesAt W' := by
  obtain ⟨t, fr, h⟩ := h
  exact ⟨t, fr, hb.trans h⟩
theorem NamesAt.later {W W' : World} (h : NamesAt W) (hb : Below W.heap.size W W') : NamesAt W' := h.keep (hb.block _ h.lt)
theorem run_index_names (k : Nat) (x : ByteArray) (hk : funL[k]? = some x) (w : World) : (Instr.index 271 (.agg (funL.map Value.string).toArray) (.int .i64 (k : Int))).run Tryz.prog w = .ok (.string x) w := by
  have hl : k < 55 := (List.getElem?_eq_some_iff.1 hk).1
  have hc : ((funL.map Value.string).toArray)[k]? = some (.string x) := by simp [hk]
  generalize (funL.map Value.string).toArray = cs at hc ⊢
  obtain ⟨i0, hi, hz0, hz1, hz2⟩ := info_parts info_string
  have h1 : (0 : Int) ≤ (k : Int) ∧ (k : Int) < ((55 : Nat) : Int) := by omega
  simp [Instr.index, run_underlying Tryz.underlying271, run_underlying Tryz.underlying9, asIntOf, sizeOf, typeInfo, hi, hz1, part, isAgg, hc]
  intro h; omega
theorem cell_names {W : World} (h : NamesAt W) (k : Nat) (x : ByteArray) (hk : funL[k]? = some x) : W.cell? ⟨0, k, none⟩ = some (.string x) := by
  obtain ⟨t, fr, h⟩ := h
  rw [cell_of_row W _ k _ t fr h]
  simp [hk]
set_option maxRecDepth 100000 in
set_option maxHeartbeats 1600000 in
theorem impl_fnumber (s : ByteArray) (w : World) (hN : NamesAt w) : Calls Tryz.prog 228 #[.string s] w fun e w' => e = .returned (.int .i64 (fxI funL s)) ∧ w = w' := by
  obtain ⟨tt, fr, hg⟩ := hN
  have HG := Lib.hid hg
  have HI := Lib.hid run_index_names
  clear hg
  obtain ⟨cs, hcs⟩ : ∃ cs, (funL.map Value.string).toArray = cs := ⟨_, rfl⟩
  have hsz : (Tryz.prog.info? 271).map (·.size) = some cs.size := by rw [← hcs]; kernel_rfl
  have HSZ := Lib.hid hsz
  rw [hcs] at HG HI
  clear hcs hsz
  go_enter Tryz.func228, Tryz.ntmps228
  go_wp2_with (refine wpList_load_row rfl 271 _ rfl 0 rfl tt cs fr _ HG.out Tryz.underlying271 rfl HSZ.out ?_)
  go_loop [3, 4, 6] (fun _ _ i => ∃ k : Nat, i = .int .i64 k ∧ k ≤ funL.length ∧ NotYet funL s k) (fun _ _ i => funL.length - (intOf i).toNat)
  case atStart => exact ⟨0, rfl, Nat.zero_le _, notYet_zero funL s⟩
  case round =>
    obtain ⟨k, rfl, hk, hn⟩ := hrel
    have HN := Lib.hid hn
    have HL : Hid (funL.length = 55) := Lib.hid rfl
    clear hn
    by_cases hlt : k < funL.length
    · have hix := HI.out k funL[k] (List.getElem?_eq_getElem hlt)
      have hk55 : (k : Int) < 55 := by have := HL.out; omega
      have HLT := Lib.hid hlt
      cases he : eqN funL[k] s
      case true =>
        have HX := Lib.hid (fxI_some (fx_at hlt he HN.out))
        have t1 : (funL[k].toList == s.toList) = true := he
        clear he
        generalize funL[k] = x at hix t1
        clear hlt
        go_wp2
        go_ret
        exact ⟨ret_in HX.out.symm, rfl⟩
      case false =>
        have HX := Lib.hid (notYet_succ HN.out hlt he)
        have t1 : (funL[k].toList == s.toList) = false := he
        clear he
        generalize funL[k] = x at hix t1
        clear hlt
        go_wp2
        go_round
        case rel => exact ⟨k + 1, by go_num, HLT.out, HX.out⟩
        case measure => have := HLT.out; first | (simp [intOf]; done) | (simp [intOf]; omega)
    · obtain rfl : k = funL.length := by omega
      have HX := Lib.hid (fxI_none (notYet_all HN.out))
      have h55 : ¬ ((funL.length : Nat) : Int) < 55 := by have := HL.out; omega
      go_wp2
      go_ret
      exact ⟨ret_in HX.out.symm, rfl⟩
/-- The name of a function. -/
def fnName (n : Int) : ByteArray := if 0 ≤ n then (match funL[n.toNat]? with | some x => x | none => ByteArray.empty) else ByteArray.empty
theorem fnName_neg {n : Int} (h : n < 0) : fnName n = ByteArray.empty := by unfold fnName; rw [if_neg (by omega)]
theorem fnName_far {n : Int} (h : 55 ≤ n) : fnName n = ByteArray.empty := by
  unfold fnName
  split
  · rw [List.getElem?_eq_none (by rw [funL_len]; omega)]
  · rfl
theorem fnName_at {k : Nat} {x : ByteArray} (h : funL[k]? = some x) : fnName (k : Int) = x := by
  unfold fnName
  rw [if_pos (by omega), Int.toNat_natCast, h]
theorem ret_st {a b : ByteArray} (h : a = b) : Ending.returned (.string a) = .returned (.string b) := by rw [h]
end Go.Proofs.YtkhcbahbffjnkaaGreatDoor
/- Maps from names to what they mean: what is in them, behind a store, at a look-up. No conditions. -/
namespace Go.Proofs.YtkhcbahbffjnkaaGreatDoor
open Go.RowKit
set_option linter.unusedVariables false

abbrev meanV (p : Int × Int) : Value := .agg #[.int .i64 p.1, .int .i64 p.2]
def meanD (p : Int × Int) : DataW Unit := .agg [.lit (.int .i64 p.1), .lit (.int .i64 p.2)]
/-- How a meaning reads. -/
def meanE : Value → Option (DataW Unit × List MemPlace)
  | .agg cs => match cs.toList with
    | [.int .i64 a, .int .i64 b] => some (meanD (a, b), [])
    | _ => none
  | _ => none
theorem meanE_mk (p : Int × Int) : meanE (meanV p) = some (meanD p, []) := rfl
theorem meanE_inv {v : Value} {p : Int × Int} {ps : List MemPlace} (h : meanE v = some (meanD p, ps)) : v = meanV p := by
  unfold meanE at h
  split at h
  · rename_i cs
    split at h
    · rename_i a b hl
      simp only [Option.some.injEq, Prod.mk.injEq, meanD, DataW.agg.injEq, List.cons.injEq, DataW.lit.injEq, Lit.int.injEq, true_and, and_true] at h
      obtain ⟨⟨h1, h2⟩, _⟩ := h
      obtain rfl : cs = #[.int .i64 a, .int .i64 b] := Array.toList_inj.1 hl
      rw [h1, h2]
    · cases h
  · cases h
abbrev keyL (s : ByteArray) : Lit := .string s.data.toList
theorem keyL_inj {s x : ByteArray} (h : keyL s = keyL x) : s = x := by
  injection h with h
  cases s; cases x
  exact congrArg ByteArray.mk (Array.toList_inj.1 h)
theorem keyL_is (s : ByteArray) : WideAt.IsKeyLit (keyL s) := trivial
theorem key_law : Maps.Keyed Tryz.prog 9 := Maps.string_keyed Tryz.underlying9
/-- Block b is a map of at most n names that says f. -/
def MapM (w : World) (b n : Nat) (f : ByteArray → Option (Int × Int)) : Prop := ∃ D : DataW Unit, w.ownsMap Tryz.prog 9 meanE b n D ∧ ∀ s : ByteArray, Maps.has D (keyL s) = (f s).isSome ∧ ∀ p, f s = some p → D.atKey (keyL s) (meanD (0, 0)) = meanD p
theorem MapM.lt {w : World} {b n : Nat} {f : ByteArray → Option (Int × Int)} (h : MapM w b n f) : b < w.heap.size := by obtain ⟨D, h, _⟩ := h; exact h.lt
theorem MapM.obj {w : World} {b n : Nat} {f : ByteArray → Option (Int × Int)} (h : MapM w b n f) : ∃ o : Obj, w.heap[b]? = some o ∧ o.isCells = false := by
  obtain ⟨D, ⟨es, clock, hb, _⟩, _⟩ := h
  exact ⟨_, hb, rfl⟩
theorem MapM.keep {w w' : World} {b n : Nat} {f : ByteArray → Option (Int × Int)} (h : MapM w b n f) (hb : w'.heap[b]? = w.heap[b]?) : MapM w' b n f := by
  obtain ⟨D, ⟨es, clock, h1, h2⟩, h3⟩ := h
  exact ⟨D, ⟨es, clock, hb.trans h1, h2⟩, h3⟩
theorem MapM.later {w w' : World} {b n : Nat} {f : ByteArray → Option (Int × Int)} (h : MapM w b n f) (hb : Below w.heap.size w w') : MapM w' b n f := h.keep (hb.block _ h.lt)
theorem MapM.made (w : World) : MapM (w.alloc (.map #[] 0)) w.heap.size 0 fun _ => none :=
  ⟨_, World.ownsMap_made w Tryz.prog 9 meanE, fun s => ⟨rfl, fun p h => by cases h⟩⟩
theorem MapM.congr {w : World} {b n : Nat} {f g : ByteArray → Option (Int × Int)} (h : MapM w b n f) (hg : ∀ s, g s = f s) : MapM w b n g := by
  obtain rfl : g = f := funext hg
  exact h
theorem MapM.mono {w : World} {b n m : Nat} {f : ByteArray → Option (Int × Int)} (h : MapM w b n f) (hn : n ≤ m) : MapM w b m f := by
  obtain ⟨D, h1, h2⟩ := h
  exact ⟨D, h1.mono hn, h2⟩
theorem zero_mean (w : World) : (zeroValue 209).run Tryz.prog w = .ok (.agg #[.int .i64 0, .int .i64 0]) w := by kernel_rfl
/-- What a look-up answers. -/
def lookV (f : ByteArray → Option (Int × Int)) (s : ByteArray) : Int × Int := match f s with | some p => p | none => (0, 0)
theorem MapM.look {w : World} {b n : Nat} {f : ByteArray → Option (Int × Int)} (h : MapM w b n f) {s : ByteArray} (hs : s.size ≤ maxLen) : (Instr.lookup 135 (.map (some b)) (.string s) true).run Tryz.prog w = .ok (.tuple #[meanV (lookV f s), .bool (f s).isSome]) w := by
  obtain ⟨D, h1, h2⟩ := h
  obtain ⟨v, ps, hr, hv⟩ := h1.look_ok key_law Tryz.underlying135 (zero_mean w) (meanE_mk (0, 0)) (WideMaps.keyOf_string_mk Tryz.underlying9 hs)
  rw [hr, (h2 s).1]
  have e : v = meanV (lookV f s) := by
    refine meanE_inv (ps := ps) (hv.trans ?_)
    unfold lookV
    cases hf : f s with
    | some p => rw [(h2 s).2 p hf]
    | none =>
      have hh := (h2 s).1
      rw [hf] at hh
      rw [Maps.atKey_of_not_has (by simpa using hh)]
  rw [e]
theorem wpList_look {w : World} {b n : Nat} {f : ByteArray → Option (Int × Int)} {s : ByteArray} {ops : Array Oper} {rest : List Oper} {o : Oper} {a : Act} {Q : Exit → Act → World → Prop} (hgd : o.guard = none) (m x : Operand) (hop : o.op = Op.lookup 135 m x true)
    (hm : a.eval m = .map (some b)) (hx : a.eval x = .string s) (h : MapM w b n f) (hs : s.size ≤ maxLen) (hK : wpList Tryz.prog ops Q rest (a.put o.dst (.tuple #[meanV (lookV f s), .bool (f s).isSome])) w) : wpList Tryz.prog ops Q (o :: rest) a w := by
  refine wpList_plain hgd fun K' hK' => ?_
  have hr := h.look hs
  unfold Oper.wp
  simp [execOp, hop, hm, hx, hr, Result.andThen]
  exact hK' _ _ hK
/-- What a name means once it has been given a meaning unless it had one. -/
def decl (f : ByteArray → Option (Int × Int)) (s : ByteArray) (p : Int × Int) : ByteArray → Option (Int × Int) := fun x => match f x with | some q => some q | none => if eqN s x then some p else none
theorem decl_old {f : ByteArray → Option (Int × Int)} {s : ByteArray} {p : Int × Int} (h : (f s).isSome = true) (x : ByteArray) : decl f s p x = f x := by
  unfold decl
  cases hx : f x with
  | some q => rfl
  | none =>
    simp only
    rw [if_neg]
    intro he
    rw [eqN_iff.1 he, hx] at h
    cases h
theorem MapM.put {w : World} {b n : Nat} {f : ByteArray → Option (Int × Int)} (h : MapM w b n f) {s : ByteArray} (hs : s.size ≤ maxLen) (hn : n < maxLen) (hf : f s = none) (p : Int × Int) : ∃ w', (Instr.mapUpdate 135 (.map (some b)) (.string s) (meanV p)).run Tryz.prog w = .ok () w' ∧ MapM w' b (n + 1) (decl f s p) ∧ w.grownBy w' (some b) := by
  obtain ⟨D, h1, h2⟩ := h
  obtain ⟨w', hr, h3, h4⟩ := h1.update key_law Tryz.underlying135 hn (WideMaps.keyOf_string_mk Tryz.underlying9 hs) (meanE_mk p)
  have hM := h1.isMap
  refine ⟨w', hr, ⟨_, h3, fun x => ?_⟩, h4⟩
  by_cases hx : x = s
  · subst hx
    rw [Maps.has_put_same hM (keyL_is x)]
    unfold decl
    rw [hf, eqN_self]
    refine ⟨rfl, fun q hq => ?_⟩
    obtain rfl : p = q := by simpa using hq
    exact Maps.atKey_put_same hM (keyL_is x) _ _
  · have hne : keyL x ≠ keyL s := fun e => hx (keyL_inj e)
    rw [Maps.has_put_other hne, (h2 x).1]
    have e : decl f s p x = f x := by
      unfold decl
      rw [eqN_ne (fun e => hx e.symm)]
      cases f x <;> rfl
    rw [e]
    refine ⟨rfl, fun q hq => ?_⟩
    rw [Maps.atKey_put_other hne]
    exact (h2 x).2 q hq
theorem wpList_put {w : World} {b n : Nat} {f : ByteArray → Option (Int × Int)} {s : ByteArray} {p : Int × Int} {ops : Array Oper} {rest : List Oper} {o : Oper} {a : Act} {Q : Exit → Act → World → Prop} (hgd : o.guard = none) (m x y : Operand) (hop : o.op = Op.mapUpdate 135 m x y)
    (hm : a.eval m = .map (some b)) (hx : a.eval x = .string s) (hy : a.eval y = meanV p) (h : MapM w b n f) (hs : s.size ≤ maxLen) (hn : n < maxLen) (hf : f s = none) (hK : ∀ w', MapM w' b (n + 1) (decl f s p) → w.grownBy w' (some b) → wpList Tryz.prog ops Q rest (a.put o.dst undef) w') : wpList Tryz.prog ops Q (o :: rest) a w := by
  refine wpList_plain hgd fun K' hK' => ?_
  obtain ⟨w', hr, h1, h2⟩ := h.put hs hn hf p
  unfold Oper.wp
  simp [execOp, hop, hm, hx, hy, hr, Result.andThen]
  exact hK' _ _ (hK w' h1 h2)
end Go.Proofs.YtkhcbahbffjnkaaGreatDoor
