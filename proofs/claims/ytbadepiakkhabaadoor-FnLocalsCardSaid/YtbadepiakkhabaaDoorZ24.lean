/- Joined texts: N10, N11, N12, V28. No conditions besides those that each states. -/
import Derived.Test.YtbadepiakkhabaaDoorZ4
import Derived.Test.YtbadepiakkhabaaDoorZ17
import Derived.Test.YtbadepiakkhabaaDoorZ18
import Derived.Test.YtbadepiakkhabaaDoorZ19
import Derived.Test.YtbadepiakkhabaaDoorZ20
import Derived.Test.YtbadepiakkhabaaDoorZ21
import Derived.Test.YtbadepiakkhabaaDoorZ22
import Derived.Test.YtbadepiakkhabaaDoorZ23
/- What a node's text must be, and a node, in the program. No conditions. -/
namespace Go.Proofs.YtbadepiakkhabaaDoor
open Go.RowKit
set_option linter.unusedVariables false

theorem text_2 (t : Ex.T) (w : World) (g o : Nat) (h : TreeAt w g o t) (hs : (t.text.size : Int) ≤ 1048576) (h2 : t.kind = 2) : Calls Tryd.prog 158 #[.pointer (some ⟨g, o, none⟩)] w fun e w' => e = .returned (.bool (decide ((t.text.size : Int) ≤ 120))) ∧ Below w.heap.size w w' := by
  obtain ⟨⟨q0, q1, q2, q3⟩, v, q4, hk⟩ := tree_cells h
  clear h hk
  go_enter Tryd.func158, Tryd.ntmps158
  go_wp2
  go_ret
  exact ⟨rfl, Below.refl _ _⟩
theorem text_4 (t : Ex.T) (w : World) (g o : Nat) (h : TreeAt w g o t) (hs : (t.text.size : Int) ≤ 1048576) (h2 : t.kind = 4) : Calls Tryd.prog 158 #[.pointer (some ⟨g, o, none⟩)] w fun e w' => e = .returned (.bool (Tk.isName t.text.data.toList)) ∧ Below w.heap.size w w' := by
  have HC := Lib.hid (fun wr => impl_name t.text wr hs)
  obtain ⟨⟨q0, q1, q2, q3⟩, v, q4, hk⟩ := tree_cells h
  clear h hk
  clear hs
  generalize Tk.isName t.text.data.toList = r at HC ⊢
  go_enter Tryd.func158, Tryd.ntmps158
  go_wp2_with (go_at_call 94; refine (HC.out _).mono ?_; rintro e w1 ⟨rfl, hb⟩; have HB := Lib.hid hb; clear hb)
  go_ret
  exact ⟨rfl, HB.out⟩
theorem text_13 (t : Ex.T) (w : World) (g o : Nat) (h : TreeAt w g o t) (hs : (t.text.size : Int) ≤ 1048576) (h2 : t.kind = 13) : Calls Tryd.prog 158 #[.pointer (some ⟨g, o, none⟩)] w fun e w' => e = .returned (.bool (Tk.isName t.text.data.toList)) ∧ Below w.heap.size w w' := by
  have HC := Lib.hid (fun wr => impl_name t.text wr hs)
  obtain ⟨⟨q0, q1, q2, q3⟩, v, q4, hk⟩ := tree_cells h
  clear h hk
  clear hs
  generalize Tk.isName t.text.data.toList = r at HC ⊢
  go_enter Tryd.func158, Tryd.ntmps158
  go_wp2_with (go_at_call 94; refine (HC.out _).mono ?_; rintro e w1 ⟨rfl, hb⟩; have HB := Lib.hid hb; clear hb)
  go_ret
  exact ⟨rfl, HB.out⟩
theorem text_28 (t : Ex.T) (w : World) (g o : Nat) (h : TreeAt w g o t) (hs : (t.text.size : Int) ≤ 1048576) (h2 : t.kind = 28) : Calls Tryd.prog 158 #[.pointer (some ⟨g, o, none⟩)] w fun e w' => e = .returned (.bool (Tk.isName t.text.data.toList)) ∧ Below w.heap.size w w' := by
  have HC := Lib.hid (fun wr => impl_name t.text wr hs)
  obtain ⟨⟨q0, q1, q2, q3⟩, v, q4, hk⟩ := tree_cells h
  clear h hk
  clear hs
  generalize Tk.isName t.text.data.toList = r at HC ⊢
  go_enter Tryd.func158, Tryd.ntmps158
  go_wp2_with (go_at_call 94; refine (HC.out _).mono ?_; rintro e w1 ⟨rfl, hb⟩; have HB := Lib.hid hb; clear hb)
  go_ret
  exact ⟨rfl, HB.out⟩
theorem text_5 (t : Ex.T) (w : World) (g o : Nat) (h : TreeAt w g o t) (hs : (t.text.size : Int) ≤ 1048576) (h2 : t.kind = 5) : Calls Tryd.prog 158 #[.pointer (some ⟨g, o, none⟩)] w fun e w' => e = .returned (.bool (hasW Tk.keywords t.text.data.toList)) ∧ Below w.heap.size w w' := by
  have HC := Lib.hid (fun wr => impl_keyword t.text wr)
  obtain ⟨⟨q0, q1, q2, q3⟩, v, q4, hk⟩ := tree_cells h
  clear h hk
  generalize hasW Tk.keywords t.text.data.toList = r at HC ⊢
  go_enter Tryd.func158, Tryd.ntmps158
  go_wp2_with (go_at_call 164; refine (HC.out _).mono ?_; rintro e w1 ⟨rfl, hb⟩; have HB := Lib.hid hb; clear hb)
  go_ret
  exact ⟨rfl, HB.out⟩
theorem text_7 (t : Ex.T) (w : World) (g o : Nat) (h : TreeAt w g o t) (hs : (t.text.size : Int) ≤ 1048576) (h2 : t.kind = 7) : Calls Tryd.prog 158 #[.pointer (some ⟨g, o, none⟩)] w fun e w' => e = .returned (.bool (hasW Ex.unary t.text.data.toList)) ∧ Below w.heap.size w w' := by
  have HC := Lib.hid (fun wr => impl_unary t.text wr)
  obtain ⟨⟨q0, q1, q2, q3⟩, v, q4, hk⟩ := tree_cells h
  clear h hk
  generalize hasW Ex.unary t.text.data.toList = r at HC ⊢
  go_enter Tryd.func158, Tryd.ntmps158
  go_wp2_with (go_at_call 165; refine (HC.out _).mono ?_; rintro e w1 ⟨rfl, hb⟩; subst hb)
  go_ret
  exact ⟨rfl, Below.refl _ _⟩
theorem text_8 (t : Ex.T) (w : World) (g o : Nat) (h : TreeAt w g o t) (hs : (t.text.size : Int) ≤ 1048576) (h2 : t.kind = 8) : Calls Tryd.prog 158 #[.pointer (some ⟨g, o, none⟩)] w fun e w' => e = .returned (.bool (decide (0 < Ex.lvl t.text.data.toList))) ∧ Below w.heap.size w w' := by
  have HC := Lib.hid (fun wr => impl_level t.text wr)
  obtain ⟨⟨q0, q1, q2, q3⟩, v, q4, hk⟩ := tree_cells h
  clear h hk
  generalize Ex.lvl t.text.data.toList = r at HC ⊢
  go_enter Tryd.func158, Tryd.ntmps158
  go_wp2_with (go_at_call 166; refine (HC.out _).mono ?_; rintro e w1 ⟨rfl, hb⟩; subst hb)
  go_ret
  exact ⟨rfl, Below.refl _ _⟩
theorem text_no (t : Ex.T) (w : World) (g o : Nat) (h : TreeAt w g o t) (hs : (t.text.size : Int) ≤ 1048576) (h2 : (t.kind == 2) = false) (h3 : (t.kind == 3) = false) (h4 : (t.kind == 4) = false) (h13 : (t.kind == 13) = false) (h28 : (t.kind == 28) = false) (h5 : (t.kind == 5) = false) (h7 : (t.kind == 7) = false) (h8 : (t.kind == 8) = false) : Calls Tryd.prog 158 #[.pointer (some ⟨g, o, none⟩)] w fun e w' => e = .returned (.bool t.text.toList.isEmpty) ∧ Below w.heap.size w w' := by
  obtain ⟨⟨q0, q1, q2, q3⟩, v, q4, hk⟩ := tree_cells h
  clear h hk
  go_enter Tryd.func158, Tryd.ntmps158
  go_wp2
  go_ret
  exact ⟨rfl, Below.refl _ _⟩
theorem text_3 (t : Ex.T) (w : World) (g o : Nat) (h : TreeAt w g o t) (hs : (t.text.size : Int) ≤ 1048576) (h2 : t.kind = 3) : Calls Tryd.prog 158 #[.pointer (some ⟨g, o, none⟩)] w fun e w' => e = .returned (.bool (Cs.good t.text && ((txt (Cs.text (Cs.newL t.text) (Cs.newH t.text))).toList == t.text.toList))) ∧ Below w.heap.size w w' := by
  have HC := Lib.hid (fun wr => elems_impl t.text wr hs)
  obtain ⟨⟨q0, q1, q2, q3⟩, v, q4, hk⟩ := tree_cells h
  clear h hk
  clear hs
  generalize (Cs.good t.text && ((txt (Cs.text (Cs.newL t.text) (Cs.newH t.text))).toList == t.text.toList)) = r at HC ⊢
  go_enter Tryd.func158, Tryd.ntmps158
  go_wp2_with (go_at_call 129; refine (HC.out _).mono ?_; rintro e w1 ⟨rfl, hb⟩; have HB := Lib.hid hb; clear hb)
  go_ret
  exact ⟨rfl, HB.out⟩
theorem impl_words (t : Ex.T) (w : World) (g o : Nat) (h : TreeAt w g o t) (hs : (t.text.size : Int) ≤ 1048576) : Calls Tryd.prog 158 #[.pointer (some ⟨g, o, none⟩)] w fun e w' => e = .returned (.bool (Ex.words t.kind t.text)) ∧ Below w.heap.size w w' := by
  unfold Ex.words
  by_cases h2 : t.kind = 2
  · rw [if_pos h2]; exact text_2 t w g o h hs h2
  rw [if_neg h2]
  by_cases h3 : t.kind = 3
  · rw [if_pos h3]; exact text_3 t w g o h hs h3
  rw [if_neg h3]
  by_cases h4 : t.kind = 4
  · rw [if_pos h4]; exact text_4 t w g o h hs h4
  rw [if_neg h4]
  by_cases h13 : t.kind = 13
  · rw [if_pos h13]; exact text_13 t w g o h hs h13
  rw [if_neg h13]
  by_cases h28 : t.kind = 28
  · rw [if_pos h28]; exact text_28 t w g o h hs h28
  rw [if_neg h28]
  by_cases h5 : t.kind = 5
  · rw [if_pos h5]; exact text_5 t w g o h hs h5
  rw [if_neg h5]
  by_cases h7 : t.kind = 7
  · rw [if_pos h7]; exact text_7 t w g o h hs h7
  rw [if_neg h7]
  by_cases h8 : t.kind = 8
  · rw [if_pos h8]; exact text_8 t w g o h hs h8
  rw [if_neg h8]
  exact text_no t w g o h hs (beq_eq_false_iff_ne.2 h2) (beq_eq_false_iff_ne.2 h3) (beq_eq_false_iff_ne.2 h4) (beq_eq_false_iff_ne.2 h13) (beq_eq_false_iff_ne.2 h28) (beq_eq_false_iff_ne.2 h5) (beq_eq_false_iff_ne.2 h7) (beq_eq_false_iff_ne.2 h8)
set_option maxHeartbeats 1600000 in
theorem impl_node (t : Ex.T) (w : World) (g o : Nat) (h : TreeAt w g o t) (hb : t.bulk ≤ 1048576) : Calls Tryd.prog 148 #[.pointer (some ⟨g, o, none⟩)] w fun e w' => e = .returned (.bool (decide (0 ≤ t.line) && Ex.kidsB t.kind t.num t.kids.length && Ex.words t.kind t.text && Ex.numberB t.kind t.num)) ∧ Below w.heap.size w w' := by
  have hbe := bulk_eq t
  have HK := Lib.hid (fun W hW => impl_kids t W g o (h.later hW) (by omega))
  have HT := Lib.hid (fun W hW => impl_words t W g o (h.later hW) (by omega))
  have HN := Lib.hid (fun W hW => impl_number t W g o (h.later hW) (by omega))
  clear hbe hb
  by_cases hl : 0 ≤ t.line
  · rw [decide_eq_true hl, Bool.true_and]
    cases hk : Ex.kidsB t.kind t.num t.kids.length
    · rw [Bool.false_and, Bool.false_and]
      rw [hk] at HK
      clear hk HT HN
      obtain ⟨⟨q0, q1, q2, q3⟩, v, q4, hk⟩ := tree_cells h
      clear h hk
      go_enter Tryd.func148, Tryd.ntmps148
      go_wp2_with (first | (go_at_call 157; refine (HK.out _ (Below.refl _ _)).mono ?_; rintro e w1 ⟨rfl, b1⟩; have B1 := Lib.hid b1; clear b1) | (go_at_call 158; refine (HT.out _ B1.out).mono ?_; rintro e w2 ⟨rfl, b2⟩; have B2 := Lib.hid (below_then B1.out b2); clear b2) | (go_at_call 159; refine (HN.out _ B2.out).mono ?_; rintro e w3 ⟨rfl, b3⟩; have B3 := Lib.hid (below_then B2.out b3); clear b3))
      go_ret
      exact ⟨rfl, B1.out⟩
    · rw [Bool.true_and]
      rw [hk] at HK
      clear hk
      cases ht : Ex.words t.kind t.text
      · rw [Bool.false_and]
        rw [ht] at HT
        clear ht HN
        obtain ⟨⟨q0, q1, q2, q3⟩, v, q4, hk⟩ := tree_cells h
        clear h hk
        go_enter Tryd.func148, Tryd.ntmps148
        go_wp2_with (first | (go_at_call 157; refine (HK.out _ (Below.refl _ _)).mono ?_; rintro e w1 ⟨rfl, b1⟩; have B1 := Lib.hid b1; clear b1) | (go_at_call 158; refine (HT.out _ B1.out).mono ?_; rintro e w2 ⟨rfl, b2⟩; have B2 := Lib.hid (below_then B1.out b2); clear b2) | (go_at_call 159; refine (HN.out _ B2.out).mono ?_; rintro e w3 ⟨rfl, b3⟩; have B3 := Lib.hid (below_then B2.out b3); clear b3))
        go_ret
        exact ⟨rfl, B2.out⟩
      · rw [Bool.true_and]
        rw [ht] at HT
        clear ht
        obtain ⟨⟨q0, q1, q2, q3⟩, v, q4, hk⟩ := tree_cells h
        clear h hk
        generalize Ex.numberB t.kind t.num = r at HN ⊢
        go_enter Tryd.func148, Tryd.ntmps148
        go_wp2_with (first | (go_at_call 157; refine (HK.out _ (Below.refl _ _)).mono ?_; rintro e w1 ⟨rfl, b1⟩; have B1 := Lib.hid b1; clear b1) | (go_at_call 158; refine (HT.out _ B1.out).mono ?_; rintro e w2 ⟨rfl, b2⟩; have B2 := Lib.hid (below_then B1.out b2); clear b2) | (go_at_call 159; refine (HN.out _ B2.out).mono ?_; rintro e w3 ⟨rfl, b3⟩; have B3 := Lib.hid (below_then B2.out b3); clear b3))
        go_ret
        exact ⟨rfl, B3.out⟩
  · rw [decide_eq_false hl, Bool.false_and, Bool.false_and, Bool.false_and]
    clear HK HT HN
    obtain ⟨⟨q0, q1, q2, q3⟩, v, q4, hk⟩ := tree_cells h
    clear h hk
    have hl : t.line < 0 := by omega
    go_enter Tryd.func148, Tryd.ntmps148
    go_wp2
    go_ret
    exact ⟨rfl, Below.refl _ _⟩
end Go.Proofs.YtbadepiakkhabaaDoor
/- IsValidExpr of the program. No conditions. -/
namespace Go.Proofs.YtbadepiakkhabaaDoor
open Go.RowKit Go.Shelf
set_option linter.unusedVariables false
attribute [local go_sem] Oper.semAt_some

/-- Is a node well, wherever it stands? -/
def Ex.T.well (t : Ex.T) : Bool := decide (0 ≤ t.line) && Ex.kidsB t.kind t.num t.kids.length && Ex.words t.kind t.text && Ex.numberB t.kind t.num
def okP (x : Ex.T × Nat) : Bool := decide (x.2 ≤ 40) && x.1.well
theorem keeps_below {W W' : World} (h : Below W.heap.size W W') : KeepsOthers W W' := ⟨h.size, fun k o hk _ => (h.block k (Array.getElem?_eq_some_iff.1 hk).1).trans hk⟩
theorem node_at (t : Ex.T) (hb : t.bulk ≤ 1048576) (W : World) (g o : Nat) (h : TreeAt W g o t) : Calls Tryd.prog 148 #[.pointer (some ⟨g, o, none⟩)] W fun e w' => e = .returned (.bool t.well) ∧ Below W.heap.size W w' := impl_node t W g o h hb
set_option maxRecDepth 100000 in
set_option maxHeartbeats 4000000 in
theorem valid_in (t : Ex.T) (hb : t.bulk ≤ 1048576) (v : Value) (w : World) (hk : Kids w v t.kids) :
    CallsIn Fence.wide 6 Tryd.prog 135 #[exV t v] w fun e w' => e = .returned (.bool (decide (t.count ≤ 600) && (t.pre 1).all okP)) ∧ Below w.heap.size w w' := by
  have hro : Fence.wide.round = none := rfl
  obtain ⟨a, c, rfl⟩ := kids_len hk
  refine callsIn_of_wp_marks Tryd.func135 rfl trivial ?_ hro
  simp only [Tryd.ntmps135, List.size_toArray, List.length_cons, List.length_nil, Nat.reduceAdd, Nat.reduceSub, Array.replicate_succ, Array.replicate_zero, List.push_toArray, List.append_toArray, List.nil_append, List.cons_append]
  gi_wp2_with (refine ⟨trivial, ?_⟩; gi_at_call 84; refine (nodes_of Fence.wide _ trivial hro _ _).mono ?_; rintro e w' ⟨rfl, rfl⟩)
  have HT := box_tree hk
  have c1 := cell_one (w.alloc (.cells #[.int .i64 t.kind, .string t.text, .int .i64 t.num, .int .i64 t.line, .slice a t.kids.length c] 105)) (.bool false) 4
  have c2 := cell_one ((w.alloc (.cells #[.int .i64 t.kind, .string t.text, .int .i64 t.num, .int .i64 t.line, .slice a t.kids.length c] 105)).alloc (.cells #[.bool false] 4)) (.int .i64 0) 3
  have c3 := cell_one (((w.alloc (.cells #[.int .i64 t.kind, .string t.text, .int .i64 t.num, .int .i64 t.line, .slice a t.kids.length c] 105)).alloc (.cells #[.bool false] 4)).alloc (.cells #[.int .i64 0] 3)) (.pointer (some ⟨w.heap.size, 0, none⟩)) 155
  simp only [World.size_alloc] at c1 c2 c3
  obtain ⟨w0, hw0⟩ : ∃ w0, w.alloc (.cells #[.int .i64 t.kind, .string t.text, .int .i64 t.num, .int .i64 t.line, .slice a t.kids.length c] 105) = w0 := ⟨_, rfl⟩
  have hz0 : w0.heap.size = w.heap.size + 1 := by rw [← hw0]; simp
  have hbw : Below w.heap.size w w0 := by rw [← hw0]; exact bl1 _ _
  rw [hw0] at c1 c2 c3 HT ⊢
  clear hw0
  have hb1 : Below w0.heap.size w0 (((w0.alloc (.cells #[.bool false] 4)).alloc (.cells #[.int .i64 0] 3)).alloc (.cells #[.pointer (some ⟨w.heap.size, 0, none⟩)] 155)) := (((Below.refl _ _).alloc (Nat.le_refl _) _).alloc (by simp) _).alloc (by simp; omega) _
  have hcs := small_count hb
  refine wpIn_rangeFunc_ownF hro (by omega) (gf := 115) (lb := #[.pointer (some ⟨w.heap.size + 1 + 1 + 1, 0, none⟩)]) rfl trivial (enters_of Tryd.func115 (by kernel_rfl) rfl)
    (nodes_stop Fence.wide rfl (6 - 1) trivial trivial hro w0 w.heap.size 0 (w.heap.size + 1 + 1 + 1) t _ (by simp; omega) hb1 c3.1 HT hb) belowK_t (belowK_b (by simp; omega)) (Below.refl _ _) (fun _ => rfl)
    (fun pre W => (((pre.map Nd.dat).all okP = true ∧ pre.length ≤ 600) ∧ (W.cell? ⟨w.heap.size + 1, 0, none⟩ = some (.bool false) ∧ W.frozen? ⟨w.heap.size + 1, 0, none⟩ = false) ∧ W.cell? ⟨w.heap.size + 1 + 1, 0, none⟩ = some (.int .i64 (pre.length : Int)) ∧ W.frozen? ⟨w.heap.size + 1 + 1, 0, none⟩ = false) ∧ Below w0.heap.size w0 W)
    (fun c pre W => (c = .ret ∧ ((pre.map Nd.dat).all okP = false ∨ 600 < pre.length) ∧ W.cell? ⟨w.heap.size + 1, 0, none⟩ = some (.bool false)) ∧ Below w0.heap.size w0 W)
    (OwnFrom.and (Own.from (fun s A B row hs hg hr => ⟨hs.1, ⟨cell_kept hs.2.1.1 hg hr, (frozen_kept hs.2.1.1 hg hr).trans hs.2.1.2⟩, cell_kept hs.2.2.1 hg hr, (frozen_kept hs.2.2.1 hg hr).trans hs.2.2.2⟩) _) (ownFrom_below (Nat.le_refl _) (by simp; omega)))
    (fun c => OwnFrom.and (Own.from (fun s A B row hs hg hr => ⟨hs.1, hs.2.1, cell_kept hs.2.2 hg hr⟩) _) (ownFrom_below (Nat.le_refl _) (by simp; omega)))
    ⟨⟨⟨rfl, Nat.zero_le _⟩, ⟨cell_alloc _ (cell_alloc _ c1.1), frozen_alloc _ (cell_alloc _ c1.1) (frozen_alloc _ c1.1 c1.2)⟩, cell_alloc _ c2.1, frozen_alloc _ c2.1 c2.2⟩, hb1⟩
    (fun x => { tmps := #[exV t (.slice a t.kids.length c), .pointer (some ⟨w.heap.size, 0, none⟩), .pointer (some ⟨w.heap.size + 1, 0, none⟩), .pointer (some ⟨w.heap.size + 1 + 1, 0, none⟩), .pointer (some ⟨x.1.1.1, x.1.1.2, none⟩), .int .i64 (x.1.2.2 : Int), .func (.func 115) #[] #[.pointer (some ⟨w.heap.size + 1 + 1 + 1, 0, none⟩)], .pointer (some ⟨x.1.1.1, x.1.1.2, none⟩), .int .i64 (x.1.2.2 : Int), undef, undef, undef, undef, undef, undef, undef, undef, undef, undef, undef, undef, undef], defers := [] }) ?assign ?body ?done ?stop
  case assign =>
    intro l x W K hK
    dsimp only [ndV]
    gi_wp2
    first | exact hK | simpa using hK
  case body =>
    rintro l pre x W ⟨⟨⟨hall, hle⟩, ⟨hr1, hf1⟩, hc2, hf2⟩, hB⟩ hlen
    have HALL := Lib.hid hall
    have hd2 := x.2.2.2
    have HB := Lib.hid hB
    have HZ := Lib.hid hz0
    have HTX := Lib.hid (fun W2 (hh : Below w0.heap.size w0 W2) => node_at x.1.2.1 x.2.2.1 W2 x.1.1.1 x.1.1.2 (TreeAt.mono (subw_below hh) _ x.2.1))
    have hln : (pre.length : Int) ≤ 600 := by omega
    clear hall hB hz0 c1 c2 c3 hb1 HT
    obtain ⟨W1, hW1⟩ : ∃ W1, W.setCell ⟨w.heap.size + 1 + 1, 0, none⟩ (.int .i64 ((pre.length : Int) + 1)) = W1 := ⟨_, rfl⟩
    have hs1 : W1.heap.size = W.heap.size := by rw [← hW1]; simp [World.setCell]
    have hk1 : KeepsOthers W W1 := by rw [← hW1]; exact KeepsOthers.setCell _ _ _
    have hbB : Below w0.heap.size W W1 := by rw [← hW1]; exact (Below.refl w0.heap.size W).setCell (p := ⟨w.heap.size + 1 + 1, 0, none⟩) (by rw [HZ.out]; exact Nat.le_succ _) _
    have hr3 : W1.cell? ⟨w.heap.size + 1, 0, none⟩ = some (.bool false) := by
      rw [← hW1]; exact (World.cell?_of_block (a := ⟨w.heap.size + 1, 0, none⟩) (Below.heap_setCell _ _ _ _ (show w.heap.size + 1 ≠ w.heap.size + 1 + 1 by omega))).trans hr1
    have hf3 : W1.frozen? ⟨w.heap.size + 1, 0, none⟩ = false := by rw [← hW1, World.frozen?_setCell]; exact hf1
    have hc3 : W1.cell? ⟨w.heap.size + 1 + 1, 0, none⟩ = some (.int .i64 ((pre.length : Int) + 1)) := by rw [← hW1]; exact World.cell?_setCell_same' _ _ _ (by rw [hc2]; rfl)
    have hf4 : W1.frozen? ⟨w.heap.size + 1 + 1, 0, none⟩ = false := by rw [← hW1, World.frozen?_setCell]; exact hf2
    have HB1 := Lib.hid (HB.out.trans hbB)
    have HBB := Lib.hid hbB
    have HK1 := Lib.hid hk1
    have HW1 := Lib.hid hW1
    have HS1 := Lib.hid hs1
    have HX := Lib.hid (HTX.out W1 HB1.out)
    have hbad : ∀ (h : okP x.dat = false ∨ 600 < pre.length + 1), ((pre ++ [x]).map Nd.dat).all okP = false ∨ 600 < (pre ++ [x]).length := fun h => by
      rcases h with h | h
      · left; rw [List.map_append, List.all_append, List.map_singleton]; simp [h]
      · right; simpa using h
    have HBAD := Lib.hid hbad
    clear hW1 hs1 hbB hk1 hbad
    by_cases hq : (pre.length : Int) + 1 ≤ 600
    · by_cases hd40 : (x.1.2.2 : Int) ≤ 40
      · cases hwl : x.1.2.1.well
        · rw [hwl] at HX
          have HQ := Lib.hid (HBAD.out (.inl (by unfold okP; rw [show x.dat.1.well = false from hwl]; simp)))
          clear hwl
          gi_wp2
          rw [HW1.out]
          refine ⟨trivial, ?_⟩
          refine (CallsIn.inRound l (callsIn_wide.2 HX.out)).mono ?_
          rintro e W2 ⟨rfl, hb4⟩
          have hr5 := subw_below hb4 _ _ _ hr3
          have hf5 := (hb4.frozen (p := ⟨w.heap.size + 1, 0, none⟩) (World.block_lt_of_cell? W1 _ hr3)).trans hf3
          have HB4 := Lib.hid hb4
          clear hr1 hf1 hc2 hf2 hr3 hf3 hc3 hf4 hb4
          gi_wp2
          exact ⟨(HK1.out.trans (keeps_below HB4.out)).trans (KeepsOthers.setCell _ _ _), ⟨rfl, HQ.out, World.cell?_setCell_same' _ _ _ (by rw [hr5]; rfl)⟩, (HB1.out.trans (HB4.out.mono HB1.out.size)).setCell (p := ⟨w.heap.size + 1, 0, none⟩) (by rw [HZ.out]; exact Nat.le_refl _) _⟩
        · rw [hwl] at HX
          have HQ : Hid (((pre ++ [x]).map Nd.dat).all okP = true) := Lib.hid (by
            rw [List.map_append, List.all_append, HALL.out, List.map_singleton]
            have e1 : x.dat.1.well = true := hwl
            have e2 : decide (x.dat.2 ≤ 40) = true := decide_eq_true (show x.1.2.2 ≤ 40 by omega)
            simp [okP, e1, e2])
          clear hwl
          gi_wp2
          rw [HW1.out]
          refine ⟨trivial, ?_⟩
          refine (CallsIn.inRound l (callsIn_wide.2 HX.out)).mono ?_
          rintro e W2 ⟨rfl, hb4⟩
          have hr5 := Lib.hid (subw_below hb4 _ _ _ hr3)
          have hf5 := Lib.hid ((hb4.frozen (p := ⟨w.heap.size + 1, 0, none⟩) (World.block_lt_of_cell? W1 _ hr3)).trans hf3)
          have hc5 := Lib.hid (subw_below hb4 _ _ _ hc3)
          have hf6 := Lib.hid ((hb4.frozen (p := ⟨w.heap.size + 1 + 1, 0, none⟩) (World.block_lt_of_cell? W1 _ hc3)).trans hf4)
          have HB4 := Lib.hid hb4
          clear hr1 hf1 hc2 hf2 hr3 hf3 hc3 hf4 hb4
          gi_wp2
          exact ⟨HK1.out.trans (keeps_below HB4.out), HBB.out.trans (HB4.out.mono HB1.out.size), ⟨⟨HQ.out, by rw [List.length_append, List.length_singleton]; omega⟩, ⟨hr5.out, hf5.out⟩, by rw [List.length_append, List.length_singleton, Int.natCast_add]; exact hc5.out, hf6.out⟩, HB1.out.trans (HB4.out.mono HB1.out.size)⟩
      · have HQ := Lib.hid (HBAD.out (.inl (by unfold okP; rw [decide_eq_false (show ¬ x.dat.2 ≤ 40 by show ¬ x.1.2.2 ≤ 40; omega)]; simp)))
        have hd41 : 40 < (x.1.2.2 : Int) := by omega
        gi_wp2
        rw [HW1.out]
        refine ⟨trivial, ?_⟩
        clear hr1 hf1 hc2 hf2
        gi_wp2
        exact ⟨HK1.out.trans (KeepsOthers.setCell _ _ _), ⟨rfl, HQ.out, World.cell?_setCell_same' _ _ _ (by rw [hr3]; rfl)⟩, HB1.out.setCell (p := ⟨w.heap.size + 1, 0, none⟩) (by rw [HZ.out]; exact Nat.le_refl _) _⟩
    · have HQ := Lib.hid (HBAD.out (.inr (by omega)))
      have hq1 : 600 < (pre.length : Int) + 1 := by omega
      gi_wp2
      rw [HW1.out]
      refine ⟨trivial, ?_⟩
      clear hr1 hf1 hc2 hf2
      gi_wp2
      exact ⟨HK1.out.trans (KeepsOthers.setCell _ _ _), ⟨rfl, HQ.out, World.cell?_setCell_same' _ _ _ (by rw [hr3]; rfl)⟩, HB1.out.setCell (p := ⟨w.heap.size + 1, 0, none⟩) (by rw [HZ.out]; exact Nat.le_refl _) _⟩
  case done =>
    rintro D ys W hD hys ⟨⟨⟨hall, hle⟩, ⟨hr1, hf1⟩, _, _⟩, hB⟩ hK
    have HR : Hid ((decide (t.count ≤ 600) && (t.pre 1).all okP) = true) := Lib.hid (by
      rw [← hys, hall, ← Ex.pre_len t 1, ← hys, List.length_map, decide_eq_true hle]; rfl)
    have HYS := Lib.hid hys
    clear hys hall
    gi_wp2
    have hK' := (KeepsOthers.setCell W ⟨w.heap.size + 1, 0, none⟩ (.bool true)).same D _ hK rfl
    refine ⟨by simp, .inl ⟨_, _, rfl, run_takeDeferred hK', ?_⟩⟩
    have hc5 := cell_kept (World.cell?_setCell_same' W ⟨w.heap.size + 1, 0, none⟩ (.bool true) (by rw [hr1]; rfl)) (grownBy_putObj' _ D (.deferred none)) (fun r e => by cases e; exact ⟨_, hK', rfl⟩)
    refine ⟨.bool true, ?_, by rw [HR.out], ((hbw.trans (hB.mono hbw.size)).setCell (p := ⟨w.heap.size + 1, 0, none⟩) (by simp) _).trans (belowK_b (w := w) (Nat.le_refl _) _ D _ _ (by simp at hD; omega) hK' rfl rfl)⟩
    simp [results, Tryd.results135, go_sem, hc5]
  case stop =>
    rintro D c pre W hD hpre ⟨⟨rfl, hbad, hcr⟩, hB⟩ hK
    have HR : Hid ((decide (t.count ≤ 600) && (t.pre 1).all okP) = false) := Lib.hid (by
      obtain ⟨r, hr⟩ := hpre
      rcases hbad with h | h
      · rw [← hr, List.all_append, h]; simp
      · have h1 := congrArg List.length hr
        rw [List.length_append, List.length_map, Ex.pre_len] at h1
        rw [decide_eq_false (by omega)]; rfl)
    have HP := Lib.hid hpre
    clear hpre hbad
    gi_wp2
    refine ⟨by simp, .inl ⟨_, _, rfl, run_takeDeferred hK, ?_⟩⟩
    have hc5 := cell_kept hcr (grownBy_putObj' _ D (.deferred none)) (fun r e => by cases e; exact ⟨_, hK, rfl⟩)
    refine ⟨.bool false, ?_, by rw [HR.out], (hbw.trans (hB.mono hbw.size)).trans (belowK_b (w := w) (Nat.le_refl _) W D _ _ (by simp at hD; omega) hK rfl rfl)⟩
    simp [results, Tryd.results135, go_sem, hc5]
end Go.Proofs.YtbadepiakkhabaaDoor
/- IsValidExpr of the program and of the reference model say the same; the walk of its law. No conditions. -/
namespace Go.Proofs.YtbadepiakkhabaaDoor
open Go.RowKit
set_option linter.unusedVariables false

theorem wrap64_in (x : Int) (h : -9223372036854775808 ≤ x ∧ x ≤ 9223372036854775807) : wrap64 x = x := by unfold wrap64; omega
theorem head_20 (n l lo hi : Int) (b : Bool) (z d : Nat) (hz : z ≤ 1048576) (hlo : lo = 1) :
    ((decide ((d : Int) ≤ 40) && decide (0 ≤ l) && decide (lo ≤ z) && decide ((z : Int) ≤ hi) && b) && (decide (0 ≤ n) && decide (n ≤ 1) && decide (((z : Int) - 1 - n).tmod 2 = 0) && decide (1 + n ≤ z)))
      = (decide (d ≤ 40) && (decide (0 ≤ l) && ((!((wrap64 ((z : Int) - 1 - n)).tmod 2 != 0)) && (decide (lo ≤ z) && decide ((z : Int) ≤ hi))) && b && (n == 0 || n == 1))) := by
  by_cases hn : n = 0 ∨ n = 1
  · rw [wrap64_in _ (by omega)]
    have hm : ((z : Int) - 1 - n).tmod 2 = 0 → 1 ≤ z → 1 + n ≤ z := by
      intro h h1
      rcases hn with rfl | rfl
      · omega
      · by_cases hz1 : z = 1
        · subst hz1; revert h; decide
        · omega
    by_cases hr : ((z : Int) - 1 - n).tmod 2 = 0
    · have hm2 := hm hr
      rw [decide_eq_true hr, hr]
      subst hlo
      have e1 : (n == 0 || n == 1) = true := by rcases hn with rfl | rfl <;> rfl
      have e2 : decide (0 ≤ n) = true := decide_eq_true (by omega)
      have e3 : decide (n ≤ 1) = true := decide_eq_true (by omega)
      rw [e1, e2, e3]
      by_cases hz1 : 1 ≤ z
      · have e4 : decide (1 + n ≤ z) = true := decide_eq_true (hm2 hz1)
        rw [e4]
        rw [Bool.eq_iff_iff]
        simp
        cases b <;> simp <;> omega
      · have e5 : decide ((1 : Int) ≤ z) = false := decide_eq_false (by omega)
        rw [e5]; simp
    · rw [decide_eq_false hr]
      have e0 : (((z : Int) - 1 - n).tmod 2 != 0) = true := bne_iff_ne.2 hr
      rw [e0]; simp
  · have e1 : (n == 0 || n == 1) = false := by
      rw [Bool.or_eq_false_iff]; exact ⟨beq_eq_false_iff_ne.2 fun h => hn (.inl h), beq_eq_false_iff_ne.2 fun h => hn (.inr h)⟩
    rw [e1]
    by_cases h0 : 0 ≤ n
    · have e3 : decide (n ≤ 1) = false := decide_eq_false (by omega)
      rw [e3]; simp
    · rw [decide_eq_false h0]; simp
theorem head_ok (k n l : Int) (s : ByteArray) (z d : Nat) (hz : z ≤ 1048576) : Ex.headB k s n l z d = (decide (d ≤ 40) && (decide (0 ≤ l) && Ex.kidsB k n z && Ex.words k s && Ex.numberB k n)) := by
  unfold Ex.headB Ex.kidsB Ex.numberB
  generalize Ex.words k s = b
  by_cases hk : 1 ≤ k ∧ k ≤ 29
  · rw [show Ex.rangeOf k = Ex.kidsOf k by unfold Ex.rangeOf; rw [if_pos hk]]
    rw [decide_eq_true hk.1, decide_eq_true hk.2, Bool.and_true, Bool.and_true]
    by_cases k20 : k = 20
    · subst k20
      rw [if_neg (by decide), if_pos rfl, if_pos rfl, if_neg (by decide), if_pos rfl]
      exact head_20 n l _ _ b z d hz (by decide)
    · rw [if_neg k20, if_neg k20]
      by_cases k1 : k = 1
      · rw [if_pos k1, if_pos k1]
        rw [Bool.eq_iff_iff]
        simp
        cases b <;> simp <;> omega
      · rw [if_neg k1, if_neg k1, if_neg k20]
        rw [Bool.eq_iff_iff]
        simp
        cases b <;> simp <;> omega
  · rw [show Ex.rangeOf k = (0, -1) by unfold Ex.rangeOf; rw [if_neg hk]]
    have e : decide ((z : Int) ≤ -1) = false := decide_eq_false (by omega)
    rw [e]
    have e2 : (decide (1 ≤ k) && decide (k ≤ 29)) = false := by
      rw [← Bool.decide_and]; exact decide_eq_false hk
    rw [Bool.and_assoc (decide ((d : Int) ≤ 40)), e2]
    simp
mutual
theorem valid_pre : ∀ (t : Ex.T) (d : Nat), t.bulk ≤ 1048576 → t.valid d = (t.pre d).all okP
  | .node k s n l ks, d, hb => by
    rw [Ex.T.bulk] at hb
    rw [Ex.T.valid, Ex.T.pre, List.all_cons, head_ok _ _ _ _ _ _ (by omega)]
    have h := valids_pres ks (d + 1) (by omega)
    rw [show ((d + 1 : Nat) : Int) = (d : Int) + 1 by omega] at h
    rw [h]; rfl
theorem valids_pres : ∀ (l : List Ex.T) (d : Nat), Ex.bulks l ≤ 1048576 → Ex.valids l d = (Ex.pres l d).all okP
  | [], d, hb => by rw [Ex.valids, Ex.pres]; rfl
  | x :: r, d, hb => by
    rw [Ex.bulks] at hb
    rw [Ex.valids, Ex.pres, List.all_append, valid_pre x d (by omega), valids_pres r d (by omega)]
end
theorem impl_isvalid (t : Ex.T) (hb : t.bulk ≤ 1048576) (w : World) (v : Value) (hk : Kids w v t.kids) : Calls Tryd.prog 135 #[exV t v] w fun e w' => e = .returned (.bool (decide (t.count ≤ 600) && t.valid 1)) ∧ Below w.heap.size w w' := by
  have h := (callsIn_wide (n := 6)).1 (valid_in t hb v w hk)
  rw [← valid_pre t 1 hb] at h
  exact h
end Go.Proofs.YtbadepiakkhabaaDoor
/- The names that are met in a body, node by node. No conditions. -/
namespace Go.Proofs.YtbadepiakkhabaaDoor
open Go.RowKit
set_option linter.unusedVariables false

/-- What a node adds to the names. -/
def collN (u : Un) (acc : List ByteArray) (x : Ex.T) : List ByteArray := if x.kind == 4 || x.kind == 28 then (if fresh u x.text acc then acc ++ [x.text] else acc) else acc
mutual
/-- No name has kids. -/
def nk : Ex.T → Bool
  | .node k t n l ks => (!(k == 4 || k == 28) || ks.isEmpty) && nks ks
def nks : List Ex.T → Bool
  | [] => true
  | x :: r => nk x && nks r
end
mutual
theorem coll_fold (u : Un) : ∀ (t : Ex.T) (acc : List ByteArray) (d : Nat), nk t = true → coll u t acc = ((t.pre d).map Prod.fst).foldl (collN u) acc
  | .node k t n l ks, acc, d, h => by
    rw [nk, Bool.and_eq_true] at h
    rw [coll, Ex.T.pre, List.map_cons, List.foldl_cons]
    have h2 := colls_fold u ks (collN u acc (.node k t n l ks)) (d + 1) h.2
    by_cases hk : (k == 4 || k == 28) = true
    · have hks : ks = [] := by
        have h1 := h.1
        rw [hk] at h1
        simpa using h1
      subst hks
      rw [if_pos hk]
      have e : collN u acc (.node k t n l []) = if fresh u t acc then acc ++ [t] else acc := by unfold collN; rw [show (Ex.T.node k t n l []).kind = k from rfl, if_pos hk]; rfl
      rw [Ex.pres, List.map_nil, List.foldl_nil, e]
    · rw [if_neg hk, ← h2]
      have e : collN u acc (.node k t n l ks) = acc := by unfold collN; rw [show (Ex.T.node k t n l ks).kind = k from rfl, if_neg hk]
      rw [e]
theorem colls_fold (u : Un) : ∀ (ks : List Ex.T) (acc : List ByteArray) (d : Nat), nks ks = true → colls u ks acc = ((Ex.pres ks d).map Prod.fst).foldl (collN u) acc
  | [], acc, d, _ => by rw [colls, Ex.pres]; rfl
  | x :: r, acc, d, h => by
    rw [nks, Bool.and_eq_true] at h
    rw [colls, Ex.pres, List.map_append, List.foldl_append, ← coll_fold u x acc d h.1]
    exact colls_fold u r _ d h.2
end
mutual
theorem nk_valid : ∀ (t : Ex.T) (d : Int), t.valid d = true → nk t = true
  | .node k t n l ks, d, h => by
    rw [Ex.valid_eq, Bool.and_eq_true] at h
    rw [nk, Bool.and_eq_true]
    refine ⟨?_, nks_valid ks (d + 1) h.2⟩
    have h1 := h.1
    unfold Ex.headB at h1
    simp only [Bool.and_eq_true, decide_eq_true_eq] at h1
    have hl : (ks.length : Int) ≤ (Ex.kidsOf k).2 := h1.1.1.2
    by_cases hk : (k == 4 || k == 28) = true
    · rw [Bool.or_eq_true, beq_iff_eq, beq_iff_eq] at hk
      have h0 : (Ex.kidsOf k).2 = 0 := by rcases hk with rfl | rfl <;> rfl
      rw [h0] at hl
      have : ks = [] := List.length_eq_zero_iff.1 (by omega)
      subst this
      simp
    · simp at hk; simp [hk]
theorem nks_valid : ∀ (ks : List Ex.T) (d : Int), Ex.valids ks d = true → nks ks = true
  | [], d, _ => by rw [nks]
  | x :: r, d, h => by
    rw [Ex.valids, Bool.and_eq_true] at h
    rw [nks, nk_valid x d h.1, nks_valid r d h.2]; rfl
end
theorem means_zero {u : Un} {L : List ByteArray} {s : ByteArray} : ((means u L s).1 == 0) = fresh u s L := by
  unfold means fresh
  cases fx L s with
  | some k => simp
  | none => simp
theorem meanU_none {u : Un} {L : List ByteArray} {s : ByteArray} (h : (means u L s).1 = 0) : meanU u L s = none := by
  rw [← meanOf_means] at h
  unfold meanOf at h
  cases hf : meanU u L s with
  | none => rfl
  | some q =>
    rw [hf] at h
    exfalso
    unfold meanU mean4 at hf
    revert hf
    generalize fx L s = a
    generalize fx (u.recs.map Rc.name) s = b
    generalize fx u.globs s = c
    generalize fx (u.procs.map Pc.name) s = d
    intro hf
    cases a <;> cases b <;> cases c <;> cases d <;> simp at hf <;> subst hf <;> simp at h
theorem collN_yes {u : Un} {acc : List ByteArray} {x : Ex.T} (hk : x.kind = 4 ∨ x.kind = 28) (h : (means u acc x.text).1 = 0) : collN u acc x = acc ++ [x.text] := by
  unfold collN
  rw [if_pos (by rcases hk with h | h <;> simp [h]), if_pos (by rw [← means_zero, h]; rfl)]
theorem collN_no {u : Un} {acc : List ByteArray} {x : Ex.T} (hk : x.kind = 4 ∨ x.kind = 28) (h : (means u acc x.text).1 ≠ 0) : collN u acc x = acc := by
  unfold collN
  rw [if_pos (by rcases hk with h | h <;> simp [h]), if_neg (by rw [← means_zero, beq_eq_false_iff_ne.2 h]; decide)]
theorem collN_oth {u : Un} {acc : List ByteArray} {x : Ex.T} (h4 : x.kind ≠ 4) (h28 : x.kind ≠ 28) : collN u acc x = acc := by
  unfold collN
  rw [if_neg (by simp [h4, h28])]
end Go.Proofs.YtbadepiakkhabaaDoor
