/- Joined texts: G14. No conditions besides those that each states. -/
import Derived.Deep.RegionHeld3
import Derived.BigQuiet
import Derived.WalkSmall
import Derived.Test.YtfachlcahainhaaZ16
import Derived.Test.YtfachlcahainhaaZ35
import Derived.Test.YtfachlcahainhaaZ36
import Derived.Test.YtfachlcahainhaaZ39
import Derived.Test.YtfachlcahainhaaZ40
/- What a node's text must be, in the reference model. No conditions. -/
namespace Go.Proofs.Ytfachlcahainhaa
open Go.RowKit
set_option linter.unusedVariables false

theorem words_2 (t : Ex.T) (v : Value) (w : World) (hs : (t.text.size : Int) ≤ 1048576) (h : t.kind = 2) : Calls Try.prog 68 #[exV t v] w fun e w' => e = .returned (.bool (decide ((t.text.size : Int) ≤ 120))) ∧ Below w.heap.size w w' := by
  go_enter Try.func68, Try.ntmps68
  go_wp2
  go_ret
  exact ⟨rfl, bl1 _ _⟩
theorem words_4 (t : Ex.T) (v : Value) (w : World) (hs : (t.text.size : Int) ≤ 1048576) (h : t.kind = 4) : Calls Try.prog 68 #[exV t v] w fun e w' => e = .returned (.bool (Tk.isName t.text.data.toList)) ∧ Below w.heap.size w w' := by
  have HC := Lib.hid (fun wr => spec_name t.text wr hs)
  clear hs
  go_enter Try.func68, Try.ntmps68
  go_wp2_with (go_at_call 18; refine (HC.out _).mono ?_; rintro e w1 ⟨rfl, hb⟩; have HB := Lib.hid (below_then (bl1 _ _) hb); clear hb)
  go_ret
  exact ⟨rfl, HB.out⟩
theorem words_13 (t : Ex.T) (v : Value) (w : World) (hs : (t.text.size : Int) ≤ 1048576) (h : t.kind = 13) : Calls Try.prog 68 #[exV t v] w fun e w' => e = .returned (.bool (Tk.isName t.text.data.toList)) ∧ Below w.heap.size w w' := by
  have HC := Lib.hid (fun wr => spec_name t.text wr hs)
  clear hs
  go_enter Try.func68, Try.ntmps68
  go_wp2_with (go_at_call 18; refine (HC.out _).mono ?_; rintro e w1 ⟨rfl, hb⟩; have HB := Lib.hid (below_then (bl1 _ _) hb); clear hb)
  go_ret
  exact ⟨rfl, HB.out⟩
theorem words_28 (t : Ex.T) (v : Value) (w : World) (hs : (t.text.size : Int) ≤ 1048576) (h : t.kind = 28) : Calls Try.prog 68 #[exV t v] w fun e w' => e = .returned (.bool (Tk.isName t.text.data.toList)) ∧ Below w.heap.size w w' := by
  have HC := Lib.hid (fun wr => spec_name t.text wr hs)
  clear hs
  go_enter Try.func68, Try.ntmps68
  go_wp2_with (go_at_call 18; refine (HC.out _).mono ?_; rintro e w1 ⟨rfl, hb⟩; have HB := Lib.hid (below_then (bl1 _ _) hb); clear hb)
  go_ret
  exact ⟨rfl, HB.out⟩
theorem words_5 (t : Ex.T) (v : Value) (w : World) (hs : (t.text.size : Int) ≤ 1048576) (h : t.kind = 5) : Calls Try.prog 68 #[exV t v] w fun e w' => e = .returned (.bool (hasW Tk.keywords t.text.data.toList)) ∧ Below w.heap.size w w' := by
  have HC := Lib.hid (fun wr => spec_keyword t.text wr)
  clear hs
  go_enter Try.func68, Try.ntmps68
  go_wp2_with (go_at_call 81; refine (HC.out _).mono ?_; rintro e w1 ⟨rfl, hb⟩; have HB := Lib.hid (below_then (bl1 _ _) hb); clear hb)
  go_ret
  exact ⟨rfl, HB.out⟩
theorem words_7 (t : Ex.T) (v : Value) (w : World) (hs : (t.text.size : Int) ≤ 1048576) (h : t.kind = 7) : Calls Try.prog 68 #[exV t v] w fun e w' => e = .returned (.bool (hasW Ex.unary t.text.data.toList)) ∧ Below w.heap.size w w' := by
  have HC := Lib.hid (fun wr => spec_unary t.text wr)
  clear hs
  go_enter Try.func68, Try.ntmps68
  go_wp2_with (go_at_call 82; refine (HC.out _).mono ?_; rintro e w1 ⟨rfl, hb⟩; have HB := Lib.hid (below_then (bl1 _ _) hb); clear hb)
  go_ret
  exact ⟨rfl, HB.out⟩
theorem words_8 (t : Ex.T) (v : Value) (w : World) (hs : (t.text.size : Int) ≤ 1048576) (h : t.kind = 8) : Calls Try.prog 68 #[exV t v] w fun e w' => e = .returned (.bool (decide (0 < Ex.lvl t.text.data.toList))) ∧ Below w.heap.size w w' := by
  have HC := Lib.hid (fun wr => spec_level t.text wr)
  clear hs
  go_enter Try.func68, Try.ntmps68
  go_wp2_with (go_at_call 83; refine (HC.out _).mono ?_; rintro e w1 ⟨rfl, hb⟩; subst hb)
  go_ret
  exact ⟨by simp, bl1 _ _⟩
theorem words_no (t : Ex.T) (v : Value) (w : World) (h2 : (t.kind == 2) = false) (h3 : (t.kind == 3) = false) (h4 : (t.kind == 4) = false) (h13 : (t.kind == 13) = false) (h28 : (t.kind == 28) = false) (h5 : (t.kind == 5) = false) (h7 : (t.kind == 7) = false) (h8 : (t.kind == 8) = false) : Calls Try.prog 68 #[exV t v] w fun e w' => e = .returned (.bool t.text.toList.isEmpty) ∧ Below w.heap.size w w' := by
  go_enter Try.func68, Try.ntmps68
  go_wp2
  go_ret
  exact ⟨rfl, bl1 _ _⟩
theorem words_3a (t : Ex.T) (v : Value) (w : World) (hs : (t.text.size : Int) ≤ 1048576) (h : t.kind = 3) (hg : Cs.good t.text = true) : Calls Try.prog 68 #[exV t v] w fun e w' => e = .returned (.bool ((txt (Cs.text (Cs.newL t.text) (Cs.newH t.text))).toList == t.text.toList)) ∧ Below w.heap.size w w' := by
  have HC := Lib.hid (fun wr => spec_new t.text (by unfold maxLen; omega) wr)
  rw [hg] at HC
  clear hs hg
  have HT := Lib.hid (fun wr => spec_text (Cs.newL t.text) (Cs.newH t.text) wr)
  have HE := Lib.hid (CellsE.new w t v 47)
  rw [h] at HE
  generalize Cs.newL t.text = a at HC HT ⊢
  generalize Cs.newH t.text = b at HC HT ⊢
  generalize txt (Cs.text a b) = y at HT ⊢
  go_enter Try.func68, Try.ntmps68
  go_wp2_with (go_at_call 79; refine (HC.out _).mono ?_; rintro e w1 ⟨rfl, hb⟩; have HB := Lib.hid (below_then (bl1 _ _) hb); obtain ⟨e0, e1, e2, e3, e4⟩ := HE.out.later hb; clear hb e0 e2 e3 e4)
  go_wp2_with fail
  go_region_held3 (fun w' => w'.cell? ⟨w.heap.size, 1, none⟩ = some (.string t.text) ∧ w'.cell? ⟨w1.heap.size, 0, none⟩ = some (.int .i64 a) ∧ w'.cell? ⟨w1.heap.size, 1, none⟩ = some (.int .i64 b) ∧ Below w.heap.size w w')
    (first | ((refine ⟨?_, ?_, ?_, ?_⟩) <;> first | go_keep | exact ((HB.out.alloc HB.out.size _)).drew) | (go_split_ands; exact ⟨cell_later (by assumption) (by assumption), cell_later (by assumption) (by assumption), cell_later (by assumption) (by assumption), below_step (by assumption) (by assumption)⟩))
    (first | (go_at_call 80; refine (HT.out _).mono ?_; rintro e w2 ⟨rfl, hb2⟩))
  go_wp2
  go_ret
  refine ⟨rfl, ?_⟩
  first | exact (HB.out.alloc HB.out.size _).drew | exact HB.out.alloc HB.out.size _ | exact below_drewN (HB.out.alloc HB.out.size _) _ | (go_split_ands; assumption)
theorem words_3b (t : Ex.T) (v : Value) (w : World) (hs : (t.text.size : Int) ≤ 1048576) (h : t.kind = 3) (hg : Cs.good t.text = false) : Calls Try.prog 68 #[exV t v] w fun e w' => e = .returned (.bool (false)) ∧ Below w.heap.size w w' := by
  have HC := Lib.hid (fun wr => spec_new t.text (by unfold maxLen; omega) wr)
  rw [hg] at HC
  clear hs hg
  have HT := Lib.hid (fun wr => spec_text (Cs.newL t.text) (Cs.newH t.text) wr)
  have HE := Lib.hid (CellsE.new w t v 47)
  rw [h] at HE
  generalize Cs.newL t.text = a at HC HT ⊢
  generalize Cs.newH t.text = b at HC HT ⊢
  generalize txt (Cs.text a b) = y at HT ⊢
  go_enter Try.func68, Try.ntmps68
  go_wp2_with (go_at_call 79; refine (HC.out _).mono ?_; rintro e w1 ⟨rfl, hb⟩; have HB := Lib.hid (below_then (bl1 _ _) hb); obtain ⟨e0, e1, e2, e3, e4⟩ := HE.out.later hb; clear hb e0 e2 e3 e4)
  go_wp2_with fail
  go_quiet (fail)
  go_wp2
  go_ret
  refine ⟨rfl, ?_⟩
  first | exact (HB.out.alloc HB.out.size _).drew | exact HB.out.alloc HB.out.size _ | exact below_drewN (HB.out.alloc HB.out.size _) _ | (go_split_ands; assumption)
/-- What the text of a node of this kind must be. -/
def Ex.words (k : Int) (s : ByteArray) : Bool :=
  if k = 2 then decide ((s.size : Int) ≤ 120) else if k = 3 then (Cs.good s && ((txt (Cs.text (Cs.newL s) (Cs.newH s))).toList == s.toList)) else if k = 4 then Tk.isName s.data.toList else if k = 13 then Tk.isName s.data.toList else if k = 28 then Tk.isName s.data.toList
  else if k = 5 then hasW Tk.keywords s.data.toList else if k = 7 then hasW Ex.unary s.data.toList else if k = 8 then decide (0 < Ex.lvl s.data.toList) else s.toList.isEmpty
theorem spec_words (t : Ex.T) (v : Value) (w : World) (hs : (t.text.size : Int) ≤ 1048576) : Calls Try.prog 68 #[exV t v] w fun e w' => e = .returned (.bool (Ex.words t.kind t.text)) ∧ Below w.heap.size w w' := by
  unfold Ex.words
  by_cases h2 : t.kind = 2
  · rw [if_pos h2]; exact words_2 t v w hs h2
  rw [if_neg h2]
  by_cases h3 : t.kind = 3
  · rw [if_pos h3]
    by_cases hg : Cs.good t.text = true
    · rw [hg, Bool.true_and]; exact words_3a t v w hs h3 hg
    · rw [Bool.not_eq_true] at hg
      rw [hg, Bool.false_and]; exact words_3b t v w hs h3 hg
  rw [if_neg h3]
  by_cases h4 : t.kind = 4
  · rw [if_pos h4]; exact words_4 t v w hs h4
  rw [if_neg h4]
  by_cases h13 : t.kind = 13
  · rw [if_pos h13]; exact words_13 t v w hs h13
  rw [if_neg h13]
  by_cases h28 : t.kind = 28
  · rw [if_pos h28]; exact words_28 t v w hs h28
  rw [if_neg h28]
  by_cases h5 : t.kind = 5
  · rw [if_pos h5]; exact words_5 t v w hs h5
  rw [if_neg h5]
  by_cases h7 : t.kind = 7
  · rw [if_pos h7]; exact words_7 t v w hs h7
  rw [if_neg h7]
  by_cases h8 : t.kind = 8
  · rw [if_pos h8]; exact words_8 t v w hs h8
  rw [if_neg h8]
  exact words_no t v w (beq_eq_false_iff_ne.2 h2) (beq_eq_false_iff_ne.2 h3) (beq_eq_false_iff_ne.2 h4) (beq_eq_false_iff_ne.2 h13) (beq_eq_false_iff_ne.2 h28) (beq_eq_false_iff_ne.2 h5) (beq_eq_false_iff_ne.2 h7) (beq_eq_false_iff_ne.2 h8)
end Go.Proofs.Ytfachlcahainhaa
