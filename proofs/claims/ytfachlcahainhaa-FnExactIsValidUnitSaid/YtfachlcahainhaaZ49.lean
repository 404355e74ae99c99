/- Joined texts: N10. No conditions besides those that each states. -/
import Derived.Test.YtfachlcahainhaaZ41
import Derived.Test.YtfachlcahainhaaZ46
import Derived.Test.YtfachlcahainhaaZ47
import Derived.Test.YtfachlcahainhaaZ48
/- What a node's text must be, and a node, in the program. No conditions. -/
namespace Go.Proofs.Ytfachlcahainhaa
open Go.RowKit
set_option linter.unusedVariables false

theorem text_2 (t : Ex.T) (w : World) (g o : Nat) (h : TreeAt w g o t) (hs : (t.text.size : Int) ≤ 1048576) (h2 : t.kind = 2) : Calls Try.prog 87 #[.pointer (some ⟨g, o, none⟩)] w fun e w' => e = .returned (.bool (decide ((t.text.size : Int) ≤ 120))) ∧ Below w.heap.size w w' := by
  obtain ⟨⟨q0, q1, q2, q3⟩, v, q4, hk⟩ := tree_cells h
  clear h hk
  go_enter Try.func87, Try.ntmps87
  go_wp2
  go_ret
  exact ⟨rfl, Below.refl _ _⟩
theorem text_4 (t : Ex.T) (w : World) (g o : Nat) (h : TreeAt w g o t) (hs : (t.text.size : Int) ≤ 1048576) (h2 : t.kind = 4) : Calls Try.prog 87 #[.pointer (some ⟨g, o, none⟩)] w fun e w' => e = .returned (.bool (Tk.isName t.text.data.toList)) ∧ Below w.heap.size w w' := by
  have HC := Lib.hid (fun wr => impl_name t.text wr hs)
  obtain ⟨⟨q0, q1, q2, q3⟩, v, q4, hk⟩ := tree_cells h
  clear h hk
  clear hs
  generalize Tk.isName t.text.data.toList = r at HC ⊢
  go_enter Try.func87, Try.ntmps87
  go_wp2_with (go_at_call 52; refine (HC.out _).mono ?_; rintro e w1 ⟨rfl, hb⟩; have HB := Lib.hid hb; clear hb)
  go_ret
  exact ⟨rfl, HB.out⟩
theorem text_13 (t : Ex.T) (w : World) (g o : Nat) (h : TreeAt w g o t) (hs : (t.text.size : Int) ≤ 1048576) (h2 : t.kind = 13) : Calls Try.prog 87 #[.pointer (some ⟨g, o, none⟩)] w fun e w' => e = .returned (.bool (Tk.isName t.text.data.toList)) ∧ Below w.heap.size w w' := by
  have HC := Lib.hid (fun wr => impl_name t.text wr hs)
  obtain ⟨⟨q0, q1, q2, q3⟩, v, q4, hk⟩ := tree_cells h
  clear h hk
  clear hs
  generalize Tk.isName t.text.data.toList = r at HC ⊢
  go_enter Try.func87, Try.ntmps87
  go_wp2_with (go_at_call 52; refine (HC.out _).mono ?_; rintro e w1 ⟨rfl, hb⟩; have HB := Lib.hid hb; clear hb)
  go_ret
  exact ⟨rfl, HB.out⟩
theorem text_28 (t : Ex.T) (w : World) (g o : Nat) (h : TreeAt w g o t) (hs : (t.text.size : Int) ≤ 1048576) (h2 : t.kind = 28) : Calls Try.prog 87 #[.pointer (some ⟨g, o, none⟩)] w fun e w' => e = .returned (.bool (Tk.isName t.text.data.toList)) ∧ Below w.heap.size w w' := by
  have HC := Lib.hid (fun wr => impl_name t.text wr hs)
  obtain ⟨⟨q0, q1, q2, q3⟩, v, q4, hk⟩ := tree_cells h
  clear h hk
  clear hs
  generalize Tk.isName t.text.data.toList = r at HC ⊢
  go_enter Try.func87, Try.ntmps87
  go_wp2_with (go_at_call 52; refine (HC.out _).mono ?_; rintro e w1 ⟨rfl, hb⟩; have HB := Lib.hid hb; clear hb)
  go_ret
  exact ⟨rfl, HB.out⟩
theorem text_5 (t : Ex.T) (w : World) (g o : Nat) (h : TreeAt w g o t) (hs : (t.text.size : Int) ≤ 1048576) (h2 : t.kind = 5) : Calls Try.prog 87 #[.pointer (some ⟨g, o, none⟩)] w fun e w' => e = .returned (.bool (hasW Tk.keywords t.text.data.toList)) ∧ Below w.heap.size w w' := by
  have HC := Lib.hid (fun wr => impl_keyword t.text wr)
  obtain ⟨⟨q0, q1, q2, q3⟩, v, q4, hk⟩ := tree_cells h
  clear h hk
  generalize hasW Tk.keywords t.text.data.toList = r at HC ⊢
  go_enter Try.func87, Try.ntmps87
  go_wp2_with (go_at_call 95; refine (HC.out _).mono ?_; rintro e w1 ⟨rfl, hb⟩; have HB := Lib.hid hb; clear hb)
  go_ret
  exact ⟨rfl, HB.out⟩
theorem text_7 (t : Ex.T) (w : World) (g o : Nat) (h : TreeAt w g o t) (hs : (t.text.size : Int) ≤ 1048576) (h2 : t.kind = 7) : Calls Try.prog 87 #[.pointer (some ⟨g, o, none⟩)] w fun e w' => e = .returned (.bool (hasW Ex.unary t.text.data.toList)) ∧ Below w.heap.size w w' := by
  have HC := Lib.hid (fun wr => impl_unary t.text wr)
  obtain ⟨⟨q0, q1, q2, q3⟩, v, q4, hk⟩ := tree_cells h
  clear h hk
  generalize hasW Ex.unary t.text.data.toList = r at HC ⊢
  go_enter Try.func87, Try.ntmps87
  go_wp2_with (go_at_call 96; refine (HC.out _).mono ?_; rintro e w1 ⟨rfl, hb⟩; subst hb)
  go_ret
  exact ⟨rfl, Below.refl _ _⟩
theorem text_8 (t : Ex.T) (w : World) (g o : Nat) (h : TreeAt w g o t) (hs : (t.text.size : Int) ≤ 1048576) (h2 : t.kind = 8) : Calls Try.prog 87 #[.pointer (some ⟨g, o, none⟩)] w fun e w' => e = .returned (.bool (decide (0 < Ex.lvl t.text.data.toList))) ∧ Below w.heap.size w w' := by
  have HC := Lib.hid (fun wr => impl_level t.text wr)
  obtain ⟨⟨q0, q1, q2, q3⟩, v, q4, hk⟩ := tree_cells h
  clear h hk
  generalize Ex.lvl t.text.data.toList = r at HC ⊢
  go_enter Try.func87, Try.ntmps87
  go_wp2_with (go_at_call 97; refine (HC.out _).mono ?_; rintro e w1 ⟨rfl, hb⟩; subst hb)
  go_ret
  exact ⟨rfl, Below.refl _ _⟩
theorem text_no (t : Ex.T) (w : World) (g o : Nat) (h : TreeAt w g o t) (hs : (t.text.size : Int) ≤ 1048576) (h2 : (t.kind == 2) = false) (h3 : (t.kind == 3) = false) (h4 : (t.kind == 4) = false) (h13 : (t.kind == 13) = false) (h28 : (t.kind == 28) = false) (h5 : (t.kind == 5) = false) (h7 : (t.kind == 7) = false) (h8 : (t.kind == 8) = false) : Calls Try.prog 87 #[.pointer (some ⟨g, o, none⟩)] w fun e w' => e = .returned (.bool t.text.toList.isEmpty) ∧ Below w.heap.size w w' := by
  obtain ⟨⟨q0, q1, q2, q3⟩, v, q4, hk⟩ := tree_cells h
  clear h hk
  go_enter Try.func87, Try.ntmps87
  go_wp2
  go_ret
  exact ⟨rfl, Below.refl _ _⟩
set_option maxHeartbeats 800000 in
theorem text_3a (t : Ex.T) (w : World) (g o : Nat) (h : TreeAt w g o t) (hs : (t.text.size : Int) ≤ 1048576) (h2 : t.kind = 3) (hg : Cs.good t.text = true) : Calls Try.prog 87 #[.pointer (some ⟨g, o, none⟩)] w fun e w' => e = .returned (.bool ((txt (Cs.text (Cs.newL t.text) (Cs.newH t.text))).toList == t.text.toList)) ∧ Below w.heap.size w w' := by
  have HC := Lib.hid (fun wr => impl_new t.text (by unfold maxLen; omega) wr)
  rw [hg] at HC
  clear hs hg
  have HT := Lib.hid (fun wr => impl_text (Cs.newL t.text) (Cs.newH t.text) wr)
  obtain ⟨⟨q0, q1, q2, q3⟩, v, q4, hk⟩ := tree_cells h
  clear h hk
  rw [h2] at q0
  have Q1 := Lib.hid (fun wr (hh : Below w.heap.size w wr) => subw_below hh _ _ _ q1)
  generalize Cs.newL t.text = a at HC HT ⊢
  generalize Cs.newH t.text = b at HC HT ⊢
  generalize txt (Cs.text a b) = y at HT ⊢
  go_enter Try.func87, Try.ntmps87
  go_wp2_with (go_at_call 93; refine (HC.out _).mono ?_; rintro e w1 ⟨rfl, hb⟩; have HB := Lib.hid hb; have p1 := Q1.out _ hb; clear hb q0 q1 q2 q3 q4)
  go_wp2_with fail
  go_region_held3 (fun w' => w'.cell? ⟨g, o + 1, none⟩ = some (.string t.text) ∧ w'.cell? ⟨w1.heap.size, 0, none⟩ = some (.int .i64 a) ∧ w'.cell? ⟨w1.heap.size, 1, none⟩ = some (.int .i64 b) ∧ Below w.heap.size w w')
    (first | ((refine ⟨?_, ?_, ?_, ?_⟩) <;> first | go_keep | exact ((HB.out.alloc HB.out.size _)).drew) | (go_split_ands; exact ⟨cell_later (by assumption) (by assumption), cell_later (by assumption) (by assumption), cell_later (by assumption) (by assumption), below_step (by assumption) (by assumption)⟩))
    (first | (go_at_call 94; refine (HT.out _).mono ?_; rintro e w2 ⟨rfl, hb2⟩))
  go_wp2
  go_ret
  refine ⟨rfl, ?_⟩
  first | exact (HB.out.alloc HB.out.size _).drew | exact HB.out.alloc HB.out.size _ | exact below_drewN (HB.out.alloc HB.out.size _) _ | (go_split_ands; assumption)
set_option maxHeartbeats 800000 in
theorem text_3b (t : Ex.T) (w : World) (g o : Nat) (h : TreeAt w g o t) (hs : (t.text.size : Int) ≤ 1048576) (h2 : t.kind = 3) (hg : Cs.good t.text = false) : Calls Try.prog 87 #[.pointer (some ⟨g, o, none⟩)] w fun e w' => e = .returned (.bool false) ∧ Below w.heap.size w w' := by
  have HC := Lib.hid (fun wr => impl_new t.text (by unfold maxLen; omega) wr)
  rw [hg] at HC
  clear hs hg
  have HT := Lib.hid (fun wr => impl_text (Cs.newL t.text) (Cs.newH t.text) wr)
  obtain ⟨⟨q0, q1, q2, q3⟩, v, q4, hk⟩ := tree_cells h
  clear h hk
  rw [h2] at q0
  have Q1 := Lib.hid (fun wr (hh : Below w.heap.size w wr) => subw_below hh _ _ _ q1)
  generalize Cs.newL t.text = a at HC HT ⊢
  generalize Cs.newH t.text = b at HC HT ⊢
  generalize txt (Cs.text a b) = y at HT ⊢
  go_enter Try.func87, Try.ntmps87
  go_wp2_with (go_at_call 93; refine (HC.out _).mono ?_; rintro e w1 ⟨rfl, hb⟩; have HB := Lib.hid hb; have p1 := Q1.out _ hb; clear hb q0 q1 q2 q3 q4)
  go_wp2_with fail
  go_quiet (fail)
  go_wp2
  go_ret
  refine ⟨rfl, ?_⟩
  first | exact (HB.out.alloc HB.out.size _).drew | exact HB.out.alloc HB.out.size _ | exact below_drewN (HB.out.alloc HB.out.size _) _ | (go_split_ands; assumption)
theorem impl_words (t : Ex.T) (w : World) (g o : Nat) (h : TreeAt w g o t) (hs : (t.text.size : Int) ≤ 1048576) : Calls Try.prog 87 #[.pointer (some ⟨g, o, none⟩)] w fun e w' => e = .returned (.bool (Ex.words t.kind t.text)) ∧ Below w.heap.size w w' := by
  unfold Ex.words
  by_cases h2 : t.kind = 2
  · rw [if_pos h2]; exact text_2 t w g o h hs h2
  rw [if_neg h2]
  by_cases h3 : t.kind = 3
  · rw [if_pos h3]
    by_cases hg : Cs.good t.text = true
    · rw [hg, Bool.true_and]; exact text_3a t w g o h hs h3 hg
    · rw [Bool.not_eq_true] at hg
      rw [hg, Bool.false_and]; exact text_3b t w g o h hs h3 hg
  rw [if_neg h3]
  by_cases h4 : t.kind = 4
  · rw [if_pos h4]; exact text_4 t w g o h hs h4
  rw [if_neg h4]
  by_cases h13 : t.kind = 13
  · rw [if_pos h13]; exact text_13 t w g o h hs h13
  rw [if_neg h13]
  by_cases h28 : t.kind = 28
  · rw [if_pos h28]; exact text_28 t w g o h hs h28
  rw [if_neg h28]
  by_cases h5 : t.kind = 5
  · rw [if_pos h5]; exact text_5 t w g o h hs h5
  rw [if_neg h5]
  by_cases h7 : t.kind = 7
  · rw [if_pos h7]; exact text_7 t w g o h hs h7
  rw [if_neg h7]
  by_cases h8 : t.kind = 8
  · rw [if_pos h8]; exact text_8 t w g o h hs h8
  rw [if_neg h8]
  exact text_no t w g o h hs (beq_eq_false_iff_ne.2 h2) (beq_eq_false_iff_ne.2 h3) (beq_eq_false_iff_ne.2 h4) (beq_eq_false_iff_ne.2 h13) (beq_eq_false_iff_ne.2 h28) (beq_eq_false_iff_ne.2 h5) (beq_eq_false_iff_ne.2 h7) (beq_eq_false_iff_ne.2 h8)
set_option maxHeartbeats 1600000 in
theorem impl_node (t : Ex.T) (w : World) (g o : Nat) (h : TreeAt w g o t) (hb : t.bulk ≤ 1048576) : Calls Try.prog 74 #[.pointer (some ⟨g, o, none⟩)] w fun e w' => e = .returned (.bool (decide (0 ≤ t.line) && Ex.kidsB t.kind t.num t.kids.length && Ex.words t.kind t.text && Ex.numberB t.kind t.num)) ∧ Below w.heap.size w w' := by
  have hbe := bulk_eq t
  have HK := Lib.hid (fun W hW => impl_kids t W g o (h.later hW) (by omega))
  have HT := Lib.hid (fun W hW => impl_words t W g o (h.later hW) (by omega))
  have HN := Lib.hid (fun W hW => impl_number t W g o (h.later hW) (by omega))
  clear hbe hb
  by_cases hl : 0 ≤ t.line
  · rw [decide_eq_true hl, Bool.true_and]
    cases hk : Ex.kidsB t.kind t.num t.kids.length
    · rw [Bool.false_and, Bool.false_and]
      rw [hk] at HK
      clear hk HT HN
      obtain ⟨⟨q0, q1, q2, q3⟩, v, q4, hk⟩ := tree_cells h
      clear h hk
      go_enter Try.func74, Try.ntmps74
      go_wp2_with (first | (go_at_call 86; refine (HK.out _ (Below.refl _ _)).mono ?_; rintro e w1 ⟨rfl, b1⟩; have B1 := Lib.hid b1; clear b1) | (go_at_call 87; refine (HT.out _ B1.out).mono ?_; rintro e w2 ⟨rfl, b2⟩; have B2 := Lib.hid (below_then B1.out b2); clear b2) | (go_at_call 88; refine (HN.out _ B2.out).mono ?_; rintro e w3 ⟨rfl, b3⟩; have B3 := Lib.hid (below_then B2.out b3); clear b3))
      go_ret
      exact ⟨rfl, B1.out⟩
    · rw [Bool.true_and]
      rw [hk] at HK
      clear hk
      cases ht : Ex.words t.kind t.text
      · rw [Bool.false_and]
        rw [ht] at HT
        clear ht HN
        obtain ⟨⟨q0, q1, q2, q3⟩, v, q4, hk⟩ := tree_cells h
        clear h hk
        go_enter Try.func74, Try.ntmps74
        go_wp2_with (first | (go_at_call 86; refine (HK.out _ (Below.refl _ _)).mono ?_; rintro e w1 ⟨rfl, b1⟩; have B1 := Lib.hid b1; clear b1) | (go_at_call 87; refine (HT.out _ B1.out).mono ?_; rintro e w2 ⟨rfl, b2⟩; have B2 := Lib.hid (below_then B1.out b2); clear b2) | (go_at_call 88; refine (HN.out _ B2.out).mono ?_; rintro e w3 ⟨rfl, b3⟩; have B3 := Lib.hid (below_then B2.out b3); clear b3))
        go_ret
        exact ⟨rfl, B2.out⟩
      · rw [Bool.true_and]
        rw [ht] at HT
        clear ht
        obtain ⟨⟨q0, q1, q2, q3⟩, v, q4, hk⟩ := tree_cells h
        clear h hk
        generalize Ex.numberB t.kind t.num = r at HN ⊢
        go_enter Try.func74, Try.ntmps74
        go_wp2_with (first | (go_at_call 86; refine (HK.out _ (Below.refl _ _)).mono ?_; rintro e w1 ⟨rfl, b1⟩; have B1 := Lib.hid b1; clear b1) | (go_at_call 87; refine (HT.out _ B1.out).mono ?_; rintro e w2 ⟨rfl, b2⟩; have B2 := Lib.hid (below_then B1.out b2); clear b2) | (go_at_call 88; refine (HN.out _ B2.out).mono ?_; rintro e w3 ⟨rfl, b3⟩; have B3 := Lib.hid (below_then B2.out b3); clear b3))
        go_ret
        exact ⟨rfl, B3.out⟩
  · rw [decide_eq_false hl, Bool.false_and, Bool.false_and, Bool.false_and]
    clear HK HT HN
    obtain ⟨⟨q0, q1, q2, q3⟩, v, q4, hk⟩ := tree_cells h
    clear h hk
    have hl : t.line < 0 := by omega
    go_enter Try.func74, Try.ntmps74
    go_wp2
    go_ret
    exact ⟨rfl, Below.refl _ _⟩
end Go.Proofs.Ytfachlcahainhaa
