/- Joined texts: G14, G15. No conditions besides those that each states. -/
import Derived.Deep.RegionHeld3
import Derived.BigQuiet
import Derived.WalkSmall
import Derived.Test.YtckjmmapekaapaaGreatDoorZ9
import Derived.Test.YtckjmmapekaapaaGreatDoorZ16
import Derived.Test.YtckjmmapekaapaaGreatDoorZ24
import Derived.Test.YtckjmmapekaapaaGreatDoorZ25
import Derived.Test.YtckjmmapekaapaaGreatDoorZ27
/- What a node's text must be, in the reference model. No conditions. -/
namespace Go.Proofs.YtckjmmapekaapaaGreatDoor
open Go.RowKit
set_option linter.unusedVariables false

theorem words_2 (t : Ex.T) (v : Value) (w : World) (hs : (t.text.size : Int) ≤ 1048576) (h : t.kind = 2) : Calls Tryz.prog 92 #[exV t v] w fun e w' => e = .returned (.bool (decide ((t.text.size : Int) ≤ 120))) ∧ Below w.heap.size w w' := by
  go_enter Tryz.func92, Tryz.ntmps92
  go_wp2
  go_ret
  exact ⟨rfl, bl1 _ _⟩
theorem words_4 (t : Ex.T) (v : Value) (w : World) (hs : (t.text.size : Int) ≤ 1048576) (h : t.kind = 4) : Calls Tryz.prog 92 #[exV t v] w fun e w' => e = .returned (.bool (Tk.isName t.text.data.toList)) ∧ Below w.heap.size w w' := by
  have HC := Lib.hid (fun wr => spec_name t.text wr hs)
  clear hs
  go_enter Tryz.func92, Tryz.ntmps92
  go_wp2_with (go_at_call 42; refine (HC.out _).mono ?_; rintro e w1 ⟨rfl, hb⟩; have HB := Lib.hid (below_then (bl1 _ _) hb); clear hb)
  go_ret
  exact ⟨rfl, HB.out⟩
theorem words_13 (t : Ex.T) (v : Value) (w : World) (hs : (t.text.size : Int) ≤ 1048576) (h : t.kind = 13) : Calls Tryz.prog 92 #[exV t v] w fun e w' => e = .returned (.bool (Tk.isName t.text.data.toList)) ∧ Below w.heap.size w w' := by
  have HC := Lib.hid (fun wr => spec_name t.text wr hs)
  clear hs
  go_enter Tryz.func92, Tryz.ntmps92
  go_wp2_with (go_at_call 42; refine (HC.out _).mono ?_; rintro e w1 ⟨rfl, hb⟩; have HB := Lib.hid (below_then (bl1 _ _) hb); clear hb)
  go_ret
  exact ⟨rfl, HB.out⟩
theorem words_28 (t : Ex.T) (v : Value) (w : World) (hs : (t.text.size : Int) ≤ 1048576) (h : t.kind = 28) : Calls Tryz.prog 92 #[exV t v] w fun e w' => e = .returned (.bool (Tk.isName t.text.data.toList)) ∧ Below w.heap.size w w' := by
  have HC := Lib.hid (fun wr => spec_name t.text wr hs)
  clear hs
  go_enter Tryz.func92, Tryz.ntmps92
  go_wp2_with (go_at_call 42; refine (HC.out _).mono ?_; rintro e w1 ⟨rfl, hb⟩; have HB := Lib.hid (below_then (bl1 _ _) hb); clear hb)
  go_ret
  exact ⟨rfl, HB.out⟩
theorem words_5 (t : Ex.T) (v : Value) (w : World) (hs : (t.text.size : Int) ≤ 1048576) (h : t.kind = 5) : Calls Tryz.prog 92 #[exV t v] w fun e w' => e = .returned (.bool (hasW Tk.keywords t.text.data.toList)) ∧ Below w.heap.size w w' := by
  have HC := Lib.hid (fun wr => spec_keyword t.text wr)
  clear hs
  go_enter Tryz.func92, Tryz.ntmps92
  go_wp2_with (go_at_call 105; refine (HC.out _).mono ?_; rintro e w1 ⟨rfl, hb⟩; have HB := Lib.hid (below_then (bl1 _ _) hb); clear hb)
  go_ret
  exact ⟨rfl, HB.out⟩
theorem words_7 (t : Ex.T) (v : Value) (w : World) (hs : (t.text.size : Int) ≤ 1048576) (h : t.kind = 7) : Calls Tryz.prog 92 #[exV t v] w fun e w' => e = .returned (.bool (hasW Ex.unary t.text.data.toList)) ∧ Below w.heap.size w w' := by
  have HC := Lib.hid (fun wr => spec_unary t.text wr)
  clear hs
  go_enter Tryz.func92, Tryz.ntmps92
  go_wp2_with (go_at_call 106; refine (HC.out _).mono ?_; rintro e w1 ⟨rfl, hb⟩; have HB := Lib.hid (below_then (bl1 _ _) hb); clear hb)
  go_ret
  exact ⟨rfl, HB.out⟩
theorem words_8 (t : Ex.T) (v : Value) (w : World) (hs : (t.text.size : Int) ≤ 1048576) (h : t.kind = 8) : Calls Tryz.prog 92 #[exV t v] w fun e w' => e = .returned (.bool (decide (0 < Ex.lvl t.text.data.toList))) ∧ Below w.heap.size w w' := by
  have HC := Lib.hid (fun wr => spec_level t.text wr)
  clear hs
  go_enter Tryz.func92, Tryz.ntmps92
  go_wp2_with (go_at_call 107; refine (HC.out _).mono ?_; rintro e w1 ⟨rfl, hb⟩; subst hb)
  go_ret
  exact ⟨by simp, bl1 _ _⟩
theorem words_no (t : Ex.T) (v : Value) (w : World) (h2 : (t.kind == 2) = false) (h3 : (t.kind == 3) = false) (h4 : (t.kind == 4) = false) (h13 : (t.kind == 13) = false) (h28 : (t.kind == 28) = false) (h5 : (t.kind == 5) = false) (h7 : (t.kind == 7) = false) (h8 : (t.kind == 8) = false) : Calls Tryz.prog 92 #[exV t v] w fun e w' => e = .returned (.bool t.text.toList.isEmpty) ∧ Below w.heap.size w w' := by
  go_enter Tryz.func92, Tryz.ntmps92
  go_wp2
  go_ret
  exact ⟨rfl, bl1 _ _⟩
theorem words_3a (t : Ex.T) (v : Value) (w : World) (hs : (t.text.size : Int) ≤ 1048576) (h : t.kind = 3) (hg : Cs.good t.text = true) : Calls Tryz.prog 92 #[exV t v] w fun e w' => e = .returned (.bool ((txt (Cs.text (Cs.newL t.text) (Cs.newH t.text))).toList == t.text.toList)) ∧ Below w.heap.size w w' := by
  have HC := Lib.hid (fun wr => spec_new t.text (by unfold maxLen; omega) wr)
  rw [hg] at HC
  clear hs hg
  have HT := Lib.hid (fun wr => spec_text (Cs.newL t.text) (Cs.newH t.text) wr)
  have HE := Lib.hid (CellsE.new w t v 47)
  rw [h] at HE
  generalize Cs.newL t.text = a at HC HT ⊢
  generalize Cs.newH t.text = b at HC HT ⊢
  generalize txt (Cs.text a b) = y at HT ⊢
  go_enter Tryz.func92, Tryz.ntmps92
  go_wp2_with (go_at_call 103; refine (HC.out _).mono ?_; rintro e w1 ⟨rfl, hb⟩; have HB := Lib.hid (below_then (bl1 _ _) hb); obtain ⟨e0, e1, e2, e3, e4⟩ := HE.out.later hb; clear hb e0 e2 e3 e4)
  go_wp2_with fail
  go_region_held3 (fun w' => w'.cell? ⟨w.heap.size, 1, none⟩ = some (.string t.text) ∧ w'.cell? ⟨w1.heap.size, 0, none⟩ = some (.int .i64 a) ∧ w'.cell? ⟨w1.heap.size, 1, none⟩ = some (.int .i64 b) ∧ Below w.heap.size w w')
    (first | ((refine ⟨?_, ?_, ?_, ?_⟩) <;> first | go_keep | exact ((HB.out.alloc HB.out.size _)).drew) | (go_split_ands; exact ⟨cell_later (by assumption) (by assumption), cell_later (by assumption) (by assumption), cell_later (by assumption) (by assumption), below_step (by assumption) (by assumption)⟩))
    (first | (go_at_call 104; refine (HT.out _).mono ?_; rintro e w2 ⟨rfl, hb2⟩))
  go_wp2
  go_ret
  refine ⟨rfl, ?_⟩
  first | exact (HB.out.alloc HB.out.size _).drew | exact HB.out.alloc HB.out.size _ | exact below_drewN (HB.out.alloc HB.out.size _) _ | (go_split_ands; assumption)
theorem words_3b (t : Ex.T) (v : Value) (w : World) (hs : (t.text.size : Int) ≤ 1048576) (h : t.kind = 3) (hg : Cs.good t.text = false) : Calls Tryz.prog 92 #[exV t v] w fun e w' => e = .returned (.bool (false)) ∧ Below w.heap.size w w' := by
  have HC := Lib.hid (fun wr => spec_new t.text (by unfold maxLen; omega) wr)
  rw [hg] at HC
  clear hs hg
  have HT := Lib.hid (fun wr => spec_text (Cs.newL t.text) (Cs.newH t.text) wr)
  have HE := Lib.hid (CellsE.new w t v 47)
  rw [h] at HE
  generalize Cs.newL t.text = a at HC HT ⊢
  generalize Cs.newH t.text = b at HC HT ⊢
  generalize txt (Cs.text a b) = y at HT ⊢
  go_enter Tryz.func92, Tryz.ntmps92
  go_wp2_with (go_at_call 103; refine (HC.out _).mono ?_; rintro e w1 ⟨rfl, hb⟩; have HB := Lib.hid (below_then (bl1 _ _) hb); obtain ⟨e0, e1, e2, e3, e4⟩ := HE.out.later hb; clear hb e0 e2 e3 e4)
  go_wp2_with fail
  go_quiet (fail)
  go_wp2
  go_ret
  refine ⟨rfl, ?_⟩
  first | exact (HB.out.alloc HB.out.size _).drew | exact HB.out.alloc HB.out.size _ | exact below_drewN (HB.out.alloc HB.out.size _) _ | (go_split_ands; assumption)
/-- What the text of a node of this kind must be. -/
def Ex.words (k : Int) (s : ByteArray) : Bool :=
  if k = 2 then decide ((s.size : Int) ≤ 120) else if k = 3 then (Cs.good s && ((txt (Cs.text (Cs.newL s) (Cs.newH s))).toList == s.toList)) else if k = 4 then Tk.isName s.data.toList else if k = 13 then Tk.isName s.data.toList else if k = 28 then Tk.isName s.data.toList
  else if k = 5 then hasW Tk.keywords s.data.toList else if k = 7 then hasW Ex.unary s.data.toList else if k = 8 then decide (0 < Ex.lvl s.data.toList) else s.toList.isEmpty
theorem spec_words (t : Ex.T) (v : Value) (w : World) (hs : (t.text.size : Int) ≤ 1048576) : Calls Tryz.prog 92 #[exV t v] w fun e w' => e = .returned (.bool (Ex.words t.kind t.text)) ∧ Below w.heap.size w w' := by
  unfold Ex.words
  by_cases h2 : t.kind = 2
  · rw [if_pos h2]; exact words_2 t v w hs h2
  rw [if_neg h2]
  by_cases h3 : t.kind = 3
  · rw [if_pos h3]
    by_cases hg : Cs.good t.text = true
    · rw [hg, Bool.true_and]; exact words_3a t v w hs h3 hg
    · rw [Bool.not_eq_true] at hg
      rw [hg, Bool.false_and]; exact words_3b t v w hs h3 hg
  rw [if_neg h3]
  by_cases h4 : t.kind = 4
  · rw [if_pos h4]; exact words_4 t v w hs h4
  rw [if_neg h4]
  by_cases h13 : t.kind = 13
  · rw [if_pos h13]; exact words_13 t v w hs h13
  rw [if_neg h13]
  by_cases h28 : t.kind = 28
  · rw [if_pos h28]; exact words_28 t v w hs h28
  rw [if_neg h28]
  by_cases h5 : t.kind = 5
  · rw [if_pos h5]; exact words_5 t v w hs h5
  rw [if_neg h5]
  by_cases h7 : t.kind = 7
  · rw [if_pos h7]; exact words_7 t v w hs h7
  rw [if_neg h7]
  by_cases h8 : t.kind = 8
  · rw [if_pos h8]; exact words_8 t v w hs h8
  rw [if_neg h8]
  exact words_no t v w (beq_eq_false_iff_ne.2 h2) (beq_eq_false_iff_ne.2 h3) (beq_eq_false_iff_ne.2 h4) (beq_eq_false_iff_ne.2 h13) (beq_eq_false_iff_ne.2 h28) (beq_eq_false_iff_ne.2 h5) (beq_eq_false_iff_ne.2 h7) (beq_eq_false_iff_ne.2 h8)
end Go.Proofs.YtckjmmapekaapaaGreatDoor
/- Trees that are valid, in the reference model. No conditions. -/
namespace Go.Proofs.YtckjmmapekaapaaGreatDoor
open Go.RowKit
set_option linter.unusedVariables false

def CountsC (t : Ex.T) (v : Value) (lo hi : Int) : Prop := ∀ wr : World, Calls Tryz.prog 91 #[exV t v] wr fun e w' => e = .returned (.tuple #[.int .i64 lo, .int .i64 hi]) ∧ Below wr.heap.size wr w'
def WordsC (t : Ex.T) (v : Value) (b : Bool) : Prop := ∀ wr : World, Calls Tryz.prog 92 #[exV t v] wr fun e w' => e = .returned (.bool b) ∧ Below wr.heap.size wr w'
def RetV (w : World) (b : Bool) (e : Ending) (w' : World) : Prop := e = .returned (.bool b) ∧ Below w.heap.size w w'
theorem valid_h0 (t : Ex.T) (a : Option Addr) (c : Nat) (w : World) (d lo hi : Int) (hln : t.kids.length ≤ 1048576) (d0 : 0 ≤ d) (d1 : d ≤ 1000) (HC : Hid (CountsC t (.slice a t.kids.length c) lo hi)) (q0 : 40 < d) : Calls Tryz.prog 71 #[exV t (.slice a t.kids.length c), .int .i64 d] w (RetV w false) := by
  have HE := Lib.hid (CellsE.new w t (.slice a t.kids.length c) 47)
  go_enter Tryz.func71, Tryz.ntmps71
  go_wp2_with fail
  refine (HC.out _).mono ?_
  rintro e w1 ⟨rfl, b1⟩
  have B1 := Lib.hid (below_then (bl1 _ _) b1)
  have E1 := Lib.hid (HE.out.later b1)
  obtain ⟨e0, e1, e2, e3, e4⟩ := E1.out
  clear b1 HE
  go_wp2
  go_ret
  exact ⟨rfl, B1.out⟩
theorem valid_h1 (t : Ex.T) (a : Option Addr) (c : Nat) (w : World) (d lo hi : Int) (hln : t.kids.length ≤ 1048576) (d0 : 0 ≤ d) (d1 : d ≤ 1000) (HC : Hid (CountsC t (.slice a t.kids.length c) lo hi)) (q0 : d ≤ 40) (q1 : t.kind < 1) : Calls Tryz.prog 71 #[exV t (.slice a t.kids.length c), .int .i64 d] w (RetV w false) := by
  have HE := Lib.hid (CellsE.new w t (.slice a t.kids.length c) 47)
  go_enter Tryz.func71, Tryz.ntmps71
  go_wp2_with fail
  refine (HC.out _).mono ?_
  rintro e w1 ⟨rfl, b1⟩
  have B1 := Lib.hid (below_then (bl1 _ _) b1)
  have E1 := Lib.hid (HE.out.later b1)
  obtain ⟨e0, e1, e2, e3, e4⟩ := E1.out
  clear b1 HE
  go_wp2
  go_ret
  exact ⟨rfl, B1.out⟩
theorem valid_h2 (t : Ex.T) (a : Option Addr) (c : Nat) (w : World) (d lo hi : Int) (hln : t.kids.length ≤ 1048576) (d0 : 0 ≤ d) (d1 : d ≤ 1000) (HC : Hid (CountsC t (.slice a t.kids.length c) lo hi)) (q0 : d ≤ 40) (q1 : 1 ≤ t.kind) (q2 : 29 < t.kind) : Calls Tryz.prog 71 #[exV t (.slice a t.kids.length c), .int .i64 d] w (RetV w false) := by
  have HE := Lib.hid (CellsE.new w t (.slice a t.kids.length c) 47)
  go_enter Tryz.func71, Tryz.ntmps71
  go_wp2_with fail
  refine (HC.out _).mono ?_
  rintro e w1 ⟨rfl, b1⟩
  have B1 := Lib.hid (below_then (bl1 _ _) b1)
  have E1 := Lib.hid (HE.out.later b1)
  obtain ⟨e0, e1, e2, e3, e4⟩ := E1.out
  clear b1 HE
  go_wp2
  go_ret
  exact ⟨rfl, B1.out⟩
theorem valid_h3 (t : Ex.T) (a : Option Addr) (c : Nat) (w : World) (d lo hi : Int) (hln : t.kids.length ≤ 1048576) (d0 : 0 ≤ d) (d1 : d ≤ 1000) (HC : Hid (CountsC t (.slice a t.kids.length c) lo hi)) (q0 : d ≤ 40) (q1 : 1 ≤ t.kind) (q2 : t.kind ≤ 29) (q3 : t.line < 0) : Calls Tryz.prog 71 #[exV t (.slice a t.kids.length c), .int .i64 d] w (RetV w false) := by
  have HE := Lib.hid (CellsE.new w t (.slice a t.kids.length c) 47)
  go_enter Tryz.func71, Tryz.ntmps71
  go_wp2_with fail
  refine (HC.out _).mono ?_
  rintro e w1 ⟨rfl, b1⟩
  have B1 := Lib.hid (below_then (bl1 _ _) b1)
  have E1 := Lib.hid (HE.out.later b1)
  obtain ⟨e0, e1, e2, e3, e4⟩ := E1.out
  clear b1 HE
  go_wp2
  go_ret
  exact ⟨rfl, B1.out⟩
theorem valid_h4 (t : Ex.T) (a : Option Addr) (c : Nat) (w : World) (d lo hi : Int) (hln : t.kids.length ≤ 1048576) (d0 : 0 ≤ d) (d1 : d ≤ 1000) (HC : Hid (CountsC t (.slice a t.kids.length c) lo hi)) (q0 : d ≤ 40) (q1 : 1 ≤ t.kind) (q2 : t.kind ≤ 29) (q3 : 0 ≤ t.line) (q4 : (t.kids.length : Int) < lo) : Calls Tryz.prog 71 #[exV t (.slice a t.kids.length c), .int .i64 d] w (RetV w false) := by
  have HE := Lib.hid (CellsE.new w t (.slice a t.kids.length c) 47)
  go_enter Tryz.func71, Tryz.ntmps71
  go_wp2_with fail
  refine (HC.out _).mono ?_
  rintro e w1 ⟨rfl, b1⟩
  have B1 := Lib.hid (below_then (bl1 _ _) b1)
  have E1 := Lib.hid (HE.out.later b1)
  obtain ⟨e0, e1, e2, e3, e4⟩ := E1.out
  clear b1 HE
  go_wp2
  go_ret
  exact ⟨rfl, B1.out⟩
theorem valid_h5 (t : Ex.T) (a : Option Addr) (c : Nat) (w : World) (d lo hi : Int) (hln : t.kids.length ≤ 1048576) (d0 : 0 ≤ d) (d1 : d ≤ 1000) (HC : Hid (CountsC t (.slice a t.kids.length c) lo hi)) (q0 : d ≤ 40) (q1 : 1 ≤ t.kind) (q2 : t.kind ≤ 29) (q3 : 0 ≤ t.line) (q4 : lo ≤ t.kids.length) (q5 : hi < t.kids.length) : Calls Tryz.prog 71 #[exV t (.slice a t.kids.length c), .int .i64 d] w (RetV w false) := by
  have HE := Lib.hid (CellsE.new w t (.slice a t.kids.length c) 47)
  go_enter Tryz.func71, Tryz.ntmps71
  go_wp2_with fail
  refine (HC.out _).mono ?_
  rintro e w1 ⟨rfl, b1⟩
  have B1 := Lib.hid (below_then (bl1 _ _) b1)
  have E1 := Lib.hid (HE.out.later b1)
  obtain ⟨e0, e1, e2, e3, e4⟩ := E1.out
  clear b1 HE
  go_wp2
  go_ret
  exact ⟨rfl, B1.out⟩
theorem valid_h6 (t : Ex.T) (a : Option Addr) (c : Nat) (w : World) (d lo hi : Int) (hln : t.kids.length ≤ 1048576) (d0 : 0 ≤ d) (d1 : d ≤ 1000) (HC : Hid (CountsC t (.slice a t.kids.length c) lo hi)) (HW : Hid (WordsC t (.slice a t.kids.length c) false)) (q0 : d ≤ 40) (q1 : 1 ≤ t.kind) (q2 : t.kind ≤ 29) (q3 : 0 ≤ t.line) (q4 : lo ≤ t.kids.length) (q5 : (t.kids.length : Int) ≤ hi) : Calls Tryz.prog 71 #[exV t (.slice a t.kids.length c), .int .i64 d] w (RetV w false) := by
  have HE := Lib.hid (CellsE.new w t (.slice a t.kids.length c) 47)
  go_enter Tryz.func71, Tryz.ntmps71
  go_wp2_with fail
  refine (HC.out _).mono ?_
  rintro e w1 ⟨rfl, b1⟩
  have B1 := Lib.hid (below_then (bl1 _ _) b1)
  have E1 := Lib.hid (HE.out.later b1)
  obtain ⟨e0, e1, e2, e3, e4⟩ := E1.out
  clear b1 HE
  go_wp2_with fail
  refine (HW.out _).mono ?_
  rintro e w2 ⟨rfl, b2⟩
  have B2 := Lib.hid (below_then B1.out b2)
  have E2 := Lib.hid (E1.out.later b2)
  clear b2 e0 e1 e2 e3 e4 E1
  obtain ⟨e0, e1, e2, e3, e4⟩ := E2.out
  go_wp2
  go_ret
  exact ⟨rfl, B2.out⟩
set_option maxHeartbeats 600000 in
theorem valid_n1a (t : Ex.T) (a : Option Addr) (c : Nat) (w : World) (d lo hi : Int) (hln : t.kids.length ≤ 1048576) (d0 : 0 ≤ d) (d1 : d ≤ 1000) (HC : Hid (CountsC t (.slice a t.kids.length c) lo hi)) (HW : Hid (WordsC t (.slice a t.kids.length c) true)) (q0 : d ≤ 40) (q1 : 1 ≤ t.kind) (q2 : t.kind ≤ 29) (q3 : 0 ≤ t.line) (q4 : lo ≤ t.kids.length) (q5 : (t.kids.length : Int) ≤ hi) (k1 : (t.kind == 1) = true) (n0 : t.num < 0) : Calls Tryz.prog 71 #[exV t (.slice a t.kids.length c), .int .i64 d] w (RetV w false) := by
  have HE := Lib.hid (CellsE.new w t (.slice a t.kids.length c) 47)
  go_enter Tryz.func71, Tryz.ntmps71
  go_wp2_with fail
  refine (HC.out _).mono ?_
  rintro e w1 ⟨rfl, b1⟩
  have B1 := Lib.hid (below_then (bl1 _ _) b1)
  have E1 := Lib.hid (HE.out.later b1)
  obtain ⟨e0, e1, e2, e3, e4⟩ := E1.out
  clear b1 HE
  go_wp2_with fail
  refine (HW.out _).mono ?_
  rintro e w2 ⟨rfl, b2⟩
  have B2 := Lib.hid (below_then B1.out b2)
  have E2 := Lib.hid (E1.out.later b2)
  clear b2 e0 e1 e2 e3 e4 E1
  obtain ⟨e0, e1, e2, e3, e4⟩ := E2.out
  go_wp2
  go_ret
  exact ⟨rfl, B2.out⟩
set_option maxHeartbeats 600000 in
theorem valid_n1b (t : Ex.T) (a : Option Addr) (c : Nat) (w : World) (d lo hi : Int) (hln : t.kids.length ≤ 1048576) (d0 : 0 ≤ d) (d1 : d ≤ 1000) (HC : Hid (CountsC t (.slice a t.kids.length c) lo hi)) (HW : Hid (WordsC t (.slice a t.kids.length c) true)) (q0 : d ≤ 40) (q1 : 1 ≤ t.kind) (q2 : t.kind ≤ 29) (q3 : 0 ≤ t.line) (q4 : lo ≤ t.kids.length) (q5 : (t.kids.length : Int) ≤ hi) (k1 : (t.kind == 1) = true) (n0 : 0 ≤ t.num) (n1 : 999999999999 < t.num) : Calls Tryz.prog 71 #[exV t (.slice a t.kids.length c), .int .i64 d] w (RetV w false) := by
  have HE := Lib.hid (CellsE.new w t (.slice a t.kids.length c) 47)
  go_enter Tryz.func71, Tryz.ntmps71
  go_wp2_with fail
  refine (HC.out _).mono ?_
  rintro e w1 ⟨rfl, b1⟩
  have B1 := Lib.hid (below_then (bl1 _ _) b1)
  have E1 := Lib.hid (HE.out.later b1)
  obtain ⟨e0, e1, e2, e3, e4⟩ := E1.out
  clear b1 HE
  go_wp2_with fail
  refine (HW.out _).mono ?_
  rintro e w2 ⟨rfl, b2⟩
  have B2 := Lib.hid (below_then B1.out b2)
  have E2 := Lib.hid (E1.out.later b2)
  clear b2 e0 e1 e2 e3 e4 E1
  obtain ⟨e0, e1, e2, e3, e4⟩ := E2.out
  go_wp2
  go_ret
  exact ⟨rfl, B2.out⟩
set_option maxHeartbeats 600000 in
theorem valid_n20a (t : Ex.T) (a : Option Addr) (c : Nat) (w : World) (d lo hi : Int) (hln : t.kids.length ≤ 1048576) (d0 : 0 ≤ d) (d1 : d ≤ 1000) (HC : Hid (CountsC t (.slice a t.kids.length c) lo hi)) (HW : Hid (WordsC t (.slice a t.kids.length c) true)) (q0 : d ≤ 40) (q1 : 1 ≤ t.kind) (q2 : t.kind ≤ 29) (q3 : 0 ≤ t.line) (q4 : lo ≤ t.kids.length) (q5 : (t.kids.length : Int) ≤ hi) (k1 : (t.kind == 1) = false) (k20 : (t.kind == 20) = true) (n0 : t.num < 0) : Calls Tryz.prog 71 #[exV t (.slice a t.kids.length c), .int .i64 d] w (RetV w false) := by
  have HE := Lib.hid (CellsE.new w t (.slice a t.kids.length c) 47)
  go_enter Tryz.func71, Tryz.ntmps71
  go_wp2_with fail
  refine (HC.out _).mono ?_
  rintro e w1 ⟨rfl, b1⟩
  have B1 := Lib.hid (below_then (bl1 _ _) b1)
  have E1 := Lib.hid (HE.out.later b1)
  obtain ⟨e0, e1, e2, e3, e4⟩ := E1.out
  clear b1 HE
  go_wp2_with fail
  refine (HW.out _).mono ?_
  rintro e w2 ⟨rfl, b2⟩
  have B2 := Lib.hid (below_then B1.out b2)
  have E2 := Lib.hid (E1.out.later b2)
  clear b2 e0 e1 e2 e3 e4 E1
  obtain ⟨e0, e1, e2, e3, e4⟩ := E2.out
  go_wp2
  go_ret
  exact ⟨rfl, B2.out⟩
set_option maxHeartbeats 600000 in
theorem valid_n20b (t : Ex.T) (a : Option Addr) (c : Nat) (w : World) (d lo hi : Int) (hln : t.kids.length ≤ 1048576) (d0 : 0 ≤ d) (d1 : d ≤ 1000) (HC : Hid (CountsC t (.slice a t.kids.length c) lo hi)) (HW : Hid (WordsC t (.slice a t.kids.length c) true)) (q0 : d ≤ 40) (q1 : 1 ≤ t.kind) (q2 : t.kind ≤ 29) (q3 : 0 ≤ t.line) (q4 : lo ≤ t.kids.length) (q5 : (t.kids.length : Int) ≤ hi) (k1 : (t.kind == 1) = false) (k20 : (t.kind == 20) = true) (n0 : 0 ≤ t.num) (n1 : 1 < t.num) : Calls Tryz.prog 71 #[exV t (.slice a t.kids.length c), .int .i64 d] w (RetV w false) := by
  have HE := Lib.hid (CellsE.new w t (.slice a t.kids.length c) 47)
  go_enter Tryz.func71, Tryz.ntmps71
  go_wp2_with fail
  refine (HC.out _).mono ?_
  rintro e w1 ⟨rfl, b1⟩
  have B1 := Lib.hid (below_then (bl1 _ _) b1)
  have E1 := Lib.hid (HE.out.later b1)
  obtain ⟨e0, e1, e2, e3, e4⟩ := E1.out
  clear b1 HE
  go_wp2_with fail
  refine (HW.out _).mono ?_
  rintro e w2 ⟨rfl, b2⟩
  have B2 := Lib.hid (below_then B1.out b2)
  have E2 := Lib.hid (E1.out.later b2)
  clear b2 e0 e1 e2 e3 e4 E1
  obtain ⟨e0, e1, e2, e3, e4⟩ := E2.out
  go_wp2
  go_ret
  exact ⟨rfl, B2.out⟩
set_option maxHeartbeats 600000 in
theorem valid_nxa (t : Ex.T) (a : Option Addr) (c : Nat) (w : World) (d lo hi : Int) (hln : t.kids.length ≤ 1048576) (d0 : 0 ≤ d) (d1 : d ≤ 1000) (HC : Hid (CountsC t (.slice a t.kids.length c) lo hi)) (HW : Hid (WordsC t (.slice a t.kids.length c) true)) (q0 : d ≤ 40) (q1 : 1 ≤ t.kind) (q2 : t.kind ≤ 29) (q3 : 0 ≤ t.line) (q4 : lo ≤ t.kids.length) (q5 : (t.kids.length : Int) ≤ hi) (k1 : (t.kind == 1) = false) (k20 : (t.kind == 20) = false) (n0 : (t.num != 0) = true) : Calls Tryz.prog 71 #[exV t (.slice a t.kids.length c), .int .i64 d] w (RetV w false) := by
  have HE := Lib.hid (CellsE.new w t (.slice a t.kids.length c) 47)
  go_enter Tryz.func71, Tryz.ntmps71
  go_wp2_with fail
  refine (HC.out _).mono ?_
  rintro e w1 ⟨rfl, b1⟩
  have B1 := Lib.hid (below_then (bl1 _ _) b1)
  have E1 := Lib.hid (HE.out.later b1)
  obtain ⟨e0, e1, e2, e3, e4⟩ := E1.out
  clear b1 HE
  go_wp2_with fail
  refine (HW.out _).mono ?_
  rintro e w2 ⟨rfl, b2⟩
  have B2 := Lib.hid (below_then B1.out b2)
  have E2 := Lib.hid (E1.out.later b2)
  clear b2 e0 e1 e2 e3 e4 E1
  obtain ⟨e0, e1, e2, e3, e4⟩ := E2.out
  go_wp2
  go_ret
  exact ⟨rfl, B2.out⟩
end Go.Proofs.YtckjmmapekaapaaGreatDoor
