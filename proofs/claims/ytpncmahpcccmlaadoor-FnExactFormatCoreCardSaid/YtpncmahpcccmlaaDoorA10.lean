/- The program's labels of core nodes. The tables read as the program's text lays them. -/
import Derived.Test.YtpncmahpcccmlaaDoorA2
import Derived.Test.YtpncmahpcccmlaaDoorA4
import Derived.Test.YtpncmahpcccmlaaDoorA7
import Derived.Test.YtpncmahpcccmlaaDoorA9
import Derived.Test.YtpncmahpcccmlaaDoorH4
import Derived.Test.YtpncmahpcccmlaaDoorL3
import Derived.Test.YtpncmahpcccmlaaDoorW2
import Derived.Test.YtpncmahpcccmlaaDoorShelf
import Derived.Deep.RegionHeld3
import Derived.BigQuiet
namespace Go.Proofs.YtpncmahpcccmlaaDoor.Cr
open Go.RowKit
set_option linter.unusedVariables false

/-- The table of the kinds' names. -/
abbrev CoreAt (W : World) : Prop := TabAt 2 coL W
set_option maxRecDepth 100000 in
theorem impl_coreName (k : Int) (w : World) (hT : CoreAt w) : Calls Tryd.prog 137 #[.int .i64 k] w fun e w' => e = .returned (.string (coN k)) ∧ w = w' := by
  have HT := Lib.hid hT
  clear hT
  by_cases hn : k < 0
  · have HX := Lib.hid (coN_neg hn)
    have hc := HT.out.cell (k := 0) (x := ⟨#[63]⟩) rfl
    go_enter Tryd.func137, Tryd.ntmps137
    go_wp2
    go_ret
    exact ⟨ret_st2 HX.out.symm, rfl⟩
  · by_cases hf : 29 ≤ k
    · have HX := Lib.hid (coN_far hf)
      have hc := HT.out.cell (k := 0) (x := ⟨#[63]⟩) rfl
      go_enter Tryd.func137, Tryd.ntmps137
      go_wp2
      go_ret
      exact ⟨ret_st2 HX.out.symm, rfl⟩
    · obtain ⟨m, rfl⟩ : ∃ m : Nat, (m : Int) = k := ⟨k.toNat, by omega⟩
      have hk : m < coL.length := by rw [coL_len]; omega
      have hx := List.getElem?_eq_getElem hk
      have HX := Lib.hid (coN_at (k := m) (by omega) hx)
      have hc := HT.out.cell hx
      generalize coL[m] = x at hc HX
      have k1 : (m : Int) < 29 := by omega
      have k2 : ¬ (29 : Int) ≤ (m : Int) := hf
      clear hx hk
      go_enter Tryd.func137, Tryd.ntmps137
      go_wp2
      go_ret
      exact ⟨ret_st2 HX.out.symm, rfl⟩
theorem impl_sjoin (v : Value) (l : List ByteArray) (s : ByteArray) (w : World) (hr : StrsAt w v l) (hb : (Lib.join (l.map fun s => s.data.toList) s.data.toList).length ≤ 100000000) (hl : l.length ≤ 1048576) :
    Calls Tryd.prog 156 #[v, .string s] w (RetT w (str8 (Lib.join (l.map fun s => s.data.toList) s.data.toList))) := by
  unfold RetT
  by_cases h0 : l = []
  · subst h0
    obtain ⟨a, c, rfl⟩ := strsAt_empty hr
    refine (Tryd.strings_Join_none a c s w).mono ?_
    rintro e w1 ⟨rfl, rfl⟩
    exact ⟨rfl, Below.refl _ _⟩
  · obtain ⟨g, o, c, rfl, hc, hcell⟩ := strsAt_some hr h0
    have hg := World.block_lt_of_cell? w _ (hcell 0 (List.length_pos_iff.2 h0))
    exact Tryd.strings_Join g o c l s w (fun j x hx => by
      obtain ⟨hj, rfl⟩ := List.getElem?_eq_some_iff.1 hx
      exact hcell j hj) hg (by omega) hc (by omega)
theorem join_none : ∀ (xs : List (List UInt8)), Lib.join xs [] = xs.flatten := by
  intro xs
  cases xs with
  | nil => rfl
  | cons x r =>
    rw [Lib.join_cons, List.flatten_cons]
    congr 1
    unfold Lib.joinTail
    congr 1
    conv => rhs; rw [← List.map_id r]
    exact List.map_congr_left fun y _ => by simp
theorem impl_together (v : Value) (l : List ByteArray) (w : World) (hr : StrsAt w v l) (hb : ((l.map fun s => s.data.toList).flatten).length ≤ 100000000) (hl : l.length ≤ 100) :
    Calls Tryd.prog 136 #[v] w (RetT w (str8 ((l.map fun s => s.data.toList).flatten))) := by
  have HJ := Lib.hid (impl_sjoin v l ⟨#[]⟩ w hr (by show (Lib.join _ []).length ≤ _; rw [join_none]; exact hb) (by omega))
  have e : Lib.join (l.map fun s => s.data.toList) (⟨#[]⟩ : ByteArray).data.toList = (l.map fun s => s.data.toList).flatten := join_none _
  rw [e] at HJ
  unfold RetT at HJ ⊢
  clear hr hb e
  generalize str8 ((l.map fun s => s.data.toList).flatten) = y at HJ ⊢
  go_enter Tryd.func136, Tryd.ntmps136
  go_wp2_with fail
  refine HJ.out.mono ?_
  rintro e w1 ⟨rfl, b1⟩
  go_wp2
  go_ret
  exact ⟨rfl, b1⟩
theorem strs_new (w : World) (l : List ByteArray) (h : l.length ≤ maxLen) (t : TypeId) : StrsAt (w.alloc (.cells (l.map Value.string).toArray t)) (.slice (some ⟨w.heap.size, 0, none⟩) l.length l.length) l := by
  refine .inr ⟨w.heap.size, 0, l.length, rfl, Nat.le_refl _, fun j hj => ?_⟩
  rw [Nat.zero_add]
  exact cell_list w l t j l[j] (List.getElem?_eq_getElem hj)
theorem tog3 (a b c : ByteArray) (W : World) (h : ((a.size : Int) + (b.size : Int) + (c.size : Int) : Int) ≤ 100000000) : Calls Tryd.prog 136 #[.slice (some ⟨W.heap.size, 0, none⟩) 3 3] (W.alloc (.cells #[.string a, .string b, .string c] 9)) fun x w' => x = .returned (.string (a ++ b ++ c)) ∧ Below (W.alloc (.cells #[.string a, .string b, .string c] 9)).heap.size (W.alloc (.cells #[.string a, .string b, .string c] 9)) w' := by
  have h2 := impl_together _ [a, b, c] _ (strs_new W [a, b, c] (show 3 ≤ maxLen by decide) 9) (by simp only [List.map_cons, List.map_nil, List.flatten_cons, List.flatten_nil, List.length_append, List.length_nil, len8]; omega) (show 3 ≤ 100 by decide)
  have e : str8 (([a, b, c].map fun s : ByteArray => s.data.toList).flatten) = a ++ b ++ c := by apply ByteArray.ext; simp [str8]
  rw [e] at h2
  exact h2
theorem impl_qtext (s : ByteArray) (w : World) (hs : (s.size : Int) ≤ 1048576) : Calls Tryd.prog 138 #[.string s] w fun e w' => e = .returned (.string (str8 (Lt.quo 34 s.data.toList))) ∧ Below w.heap.size w w' := by
  have H : Hid (∀ W, Calls Tryd.prog 157 #[.string s, .int .u8 34] W fun e w' => e = .returned (.string (str8 (Lt.quo 34 s.data.toList))) ∧ Below W.heap.size W w') := Lib.hid (fun W => impl_quote 34 s W hs)
  go_enter Tryd.func138, Tryd.ntmps138
  go_wp2_with fail
  refine (H.out _).mono ?_
  rintro e w1 ⟨rfl, hb1⟩
  go_wp2
  go_ret
  exact ⟨rfl, hb1⟩
theorem held_b {p : Prop} {w W : World} (h : p ∧ Below w.heap.size w W) : Below w.heap.size w W := h.2
theorem held_n {p : Prop} {w W w1 : World} (h : p ∧ Below w.heap.size w W) (b : Below W.heap.size W w1) : Below w.heap.size w w1 := below_then h.2 b
/-- What a label's walk needs of a node. -/
structure LabH (t : Co.T) (w : World) : Prop where
  ops : OpsAt w
  cor : CoreAt w
  txt : (t.text.size : Int) ≤ 1048576
  p0 : -9223372036854775808 ≤ t.op
  p1 : t.op ≤ 9223372036854775807
  n0 : -9223372036854775808 ≤ t.num
  n1 : t.num ≤ 9223372036854775807

set_option maxRecDepth 100000 in
set_option maxHeartbeats 3200000 in
theorem lab_2 (t : Co.T) (h : t.kind = 2) (w : World) (g o : Nat) (ht : TreeAt w g o t) (H : LabH t w) : Calls Tryd.prog 106 #[.pointer (some ⟨g, o, none⟩)] w (RetT w (str8 t.lab)) := by
  unfold RetT
  obtain ⟨x, hx⟩ : ∃ x, coL[2]? = some x := ⟨_, List.getElem?_eq_getElem (by rw [coL_len]; omega)⟩
  have hxs : x.size ≤ 11 := of_decide_eq_true (List.all_eq_true.1 (show (coL.all fun x => decide (x.size ≤ 11)) = true by rfl) x (List.mem_of_getElem? hx))
  have hcN : coN 2 = x := coN_at (k := 2) (by omega) hx
  have hlb : x ++ (⟨#[58]⟩ : ByteArray) ++ str8 (Lt.quo 34 t.text.data.toList) = str8 t.lab := by
    unfold Co.T.lab
    rw [h]
    unfold Co.lab
    rw [if_pos (by omega), hcN]
    apply ByteArray.ext; simp [str8]
  have HLB := Lib.hid hlb
  have HN : Hid (∀ W, Below w.heap.size w W → Calls Tryd.prog 137 #[.int .i64 2] W fun e w' => e = .returned (.string x) ∧ W = w') := Lib.hid (fun W hW => by rw [← hcN]; exact impl_coreName 2 W (H.cor.later hW))
  have HQ : Hid (∀ W, Below w.heap.size w W → Calls Tryd.prog 138 #[.string t.text] W fun e w' => e = .returned (.string (str8 (Lt.quo 34 t.text.data.toList))) ∧ Below W.heap.size W w') := Lib.hid (fun W hW => impl_qtext t.text W H.txt)
  have hqs : (str8 (Lt.quo 34 t.text.data.toList)).size ≤ 4194306 := by rw [str8_size]; have := Co.quo_len t.text; have := H.txt; omega
  obtain ⟨⟨e0, e1, e2, e3, e4⟩, v, e5, hk⟩ := tree_cells ht
  rw [h] at e0
  have HS : Hid (∀ W, Below w.heap.size w W → (W.cell? ⟨g, o, none⟩ = some (.int .i64 2) ∧ W.cell? ⟨g, o + 4, none⟩ = some (.string t.text)) ∧ Below w.heap.size w W) := Lib.hid (fun W hW => ⟨⟨subw_below hW _ _ _ e0, subw_below hW _ _ _ e4⟩, hW⟩)
  generalize str8 (Lt.quo 34 t.text.data.toList) = y at HLB HQ hqs
  have c9 : ((x.size : Int) + ((⟨#[58]⟩ : ByteArray).size : Int) + (y.size : Int) : Int) ≤ 100000000 := by have l0 : (⟨#[58]⟩ : ByteArray).size = 1 := rfl; omega
  have HT3 := Lib.hid (fun W => tog3 x (⟨#[58]⟩ : ByteArray) y W c9)
  clear hlb hcN hx ht hk H h hxs hqs c9
  go_enter Tryd.func106, Tryd.ntmps106
  go_wp2_with fail
  go_region_held3 (fun W => (W.cell? ⟨g, o, none⟩ = some (.int .i64 2) ∧ W.cell? ⟨g, o + 4, none⟩ = some (.string t.text)) ∧ Below w.heap.size w W) (first | (with_reducible assumption) | (with_reducible exact HS.out _ (Below.refl _ _).drew) | (with_reducible exact HS.out _ (held_n (by assumption) b2)) | (with_reducible exact HS.out _ (held_n (by assumption) b3)) | (with_reducible exact HS.out _ (held_n (by assumption) (bl1 _ _)))) (first | (go_at_call 137; with_reducible refine (HN.out _ (held_b (by assumption))).mono ?_; rintro e w1 ⟨rfl, rfl⟩) | (go_at_call 138; with_reducible refine (HQ.out _ (held_b (by assumption))).mono ?_; rintro e w2 ⟨rfl, b2⟩) | (go_at_call 136; with_reducible refine (HT3.out _).mono ?_; rintro e w3 ⟨rfl, b3⟩))
  have B3 := Lib.hid (below_then (below_then (below_then (Below.refl _ _).drew b2) (bl1 _ _)) b3)
  clear b2 b3
  go_wp2
  go_ret
  exact ⟨ret_st2 HLB.out, B3.out⟩
set_option maxRecDepth 100000 in
set_option maxHeartbeats 3200000 in
theorem lab_3 (t : Co.T) (h : t.kind = 3) (w : World) (g o : Nat) (ht : TreeAt w g o t) (H : LabH t w) : Calls Tryd.prog 106 #[.pointer (some ⟨g, o, none⟩)] w (RetT w (str8 t.lab)) := by
  unfold RetT
  obtain ⟨x, hx⟩ : ∃ x, coL[3]? = some x := ⟨_, List.getElem?_eq_getElem (by rw [coL_len]; omega)⟩
  have hxs : x.size ≤ 11 := of_decide_eq_true (List.all_eq_true.1 (show (coL.all fun x => decide (x.size ≤ 11)) = true by rfl) x (List.mem_of_getElem? hx))
  have hcN : coN 3 = x := coN_at (k := 3) (by omega) hx
  have hlb : x ++ (⟨#[58]⟩ : ByteArray) ++ str8 (Lt.quo 34 t.text.data.toList) = str8 t.lab := by
    unfold Co.T.lab
    rw [h]
    unfold Co.lab
    rw [if_pos (by omega), hcN]
    apply ByteArray.ext; simp [str8]
  have HLB := Lib.hid hlb
  have HN : Hid (∀ W, Below w.heap.size w W → Calls Tryd.prog 137 #[.int .i64 3] W fun e w' => e = .returned (.string x) ∧ W = w') := Lib.hid (fun W hW => by rw [← hcN]; exact impl_coreName 3 W (H.cor.later hW))
  have HQ : Hid (∀ W, Below w.heap.size w W → Calls Tryd.prog 138 #[.string t.text] W fun e w' => e = .returned (.string (str8 (Lt.quo 34 t.text.data.toList))) ∧ Below W.heap.size W w') := Lib.hid (fun W hW => impl_qtext t.text W H.txt)
  have hqs : (str8 (Lt.quo 34 t.text.data.toList)).size ≤ 4194306 := by rw [str8_size]; have := Co.quo_len t.text; have := H.txt; omega
  obtain ⟨⟨e0, e1, e2, e3, e4⟩, v, e5, hk⟩ := tree_cells ht
  rw [h] at e0
  have HS : Hid (∀ W, Below w.heap.size w W → (W.cell? ⟨g, o, none⟩ = some (.int .i64 3) ∧ W.cell? ⟨g, o + 4, none⟩ = some (.string t.text)) ∧ Below w.heap.size w W) := Lib.hid (fun W hW => ⟨⟨subw_below hW _ _ _ e0, subw_below hW _ _ _ e4⟩, hW⟩)
  generalize str8 (Lt.quo 34 t.text.data.toList) = y at HLB HQ hqs
  have c9 : ((x.size : Int) + ((⟨#[58]⟩ : ByteArray).size : Int) + (y.size : Int) : Int) ≤ 100000000 := by have l0 : (⟨#[58]⟩ : ByteArray).size = 1 := rfl; omega
  have HT3 := Lib.hid (fun W => tog3 x (⟨#[58]⟩ : ByteArray) y W c9)
  clear hlb hcN hx ht hk H h hxs hqs c9
  go_enter Tryd.func106, Tryd.ntmps106
  go_wp2_with fail
  go_region_held3 (fun W => (W.cell? ⟨g, o, none⟩ = some (.int .i64 3) ∧ W.cell? ⟨g, o + 4, none⟩ = some (.string t.text)) ∧ Below w.heap.size w W) (first | (with_reducible assumption) | (with_reducible exact HS.out _ (Below.refl _ _).drew) | (with_reducible exact HS.out _ (held_n (by assumption) b2)) | (with_reducible exact HS.out _ (held_n (by assumption) b3)) | (with_reducible exact HS.out _ (held_n (by assumption) (bl1 _ _)))) (first | (go_at_call 137; with_reducible refine (HN.out _ (held_b (by assumption))).mono ?_; rintro e w1 ⟨rfl, rfl⟩) | (go_at_call 138; with_reducible refine (HQ.out _ (held_b (by assumption))).mono ?_; rintro e w2 ⟨rfl, b2⟩) | (go_at_call 136; with_reducible refine (HT3.out _).mono ?_; rintro e w3 ⟨rfl, b3⟩))
  have B3 := Lib.hid (below_then (below_then (below_then (Below.refl _ _).drew b2) (bl1 _ _)) b3)
  clear b2 b3
  go_wp2
  go_ret
  exact ⟨ret_st2 HLB.out, B3.out⟩
set_option maxRecDepth 100000 in
set_option maxHeartbeats 3200000 in
theorem lab_11 (t : Co.T) (h : t.kind = 11) (w : World) (g o : Nat) (ht : TreeAt w g o t) (H : LabH t w) : Calls Tryd.prog 106 #[.pointer (some ⟨g, o, none⟩)] w (RetT w (str8 t.lab)) := by
  unfold RetT
  obtain ⟨x, hx⟩ : ∃ x, coL[11]? = some x := ⟨_, List.getElem?_eq_getElem (by rw [coL_len]; omega)⟩
  have hxs : x.size ≤ 11 := of_decide_eq_true (List.all_eq_true.1 (show (coL.all fun x => decide (x.size ≤ 11)) = true by rfl) x (List.mem_of_getElem? hx))
  have hcN : coN 11 = x := coN_at (k := 11) (by omega) hx
  have hlb : x ++ (⟨#[58]⟩ : ByteArray) ++ opT t.op = str8 t.lab := by
    unfold Co.T.lab
    rw [h]
    unfold Co.lab
    rw [if_neg (by omega), if_pos (by omega), hcN]
    apply ByteArray.ext; simp [str8]
  have HLB := Lib.hid hlb
  have HN : Hid (∀ W, Below w.heap.size w W → Calls Tryd.prog 137 #[.int .i64 11] W fun e w' => e = .returned (.string x) ∧ W = w') := Lib.hid (fun W hW => by rw [← hcN]; exact impl_coreName 11 W (H.cor.later hW))
  have HQ : Hid (∀ W, Below w.heap.size w W → Calls Tryd.prog 15 #[.int .i64 t.op] W fun e w' => e = .returned (.string (opT t.op)) ∧ Below W.heap.size W w') := Lib.hid (fun W hW => impl_opText t.op H.p0 H.p1 W (H.ops.later hW))
  have hqs := Co.opT_len t.op
  obtain ⟨⟨e0, e1, e2, e3, e4⟩, v, e5, hk⟩ := tree_cells ht
  rw [h] at e0
  have HS : Hid (∀ W, Below w.heap.size w W → (W.cell? ⟨g, o, none⟩ = some (.int .i64 11) ∧ W.cell? ⟨g, o + 1, none⟩ = some (.int .i64 t.op)) ∧ Below w.heap.size w W) := Lib.hid (fun W hW => ⟨⟨subw_below hW _ _ _ e0, subw_below hW _ _ _ e1⟩, hW⟩)
  generalize opT t.op = y at HLB HQ hqs
  have c9 : ((x.size : Int) + ((⟨#[58]⟩ : ByteArray).size : Int) + (y.size : Int) : Int) ≤ 100000000 := by have l0 : (⟨#[58]⟩ : ByteArray).size = 1 := rfl; omega
  have HT3 := Lib.hid (fun W => tog3 x (⟨#[58]⟩ : ByteArray) y W c9)
  clear hlb hcN hx ht hk H h hxs hqs c9
  go_enter Tryd.func106, Tryd.ntmps106
  go_wp2_with fail
  go_region_held3 (fun W => (W.cell? ⟨g, o, none⟩ = some (.int .i64 11) ∧ W.cell? ⟨g, o + 1, none⟩ = some (.int .i64 t.op)) ∧ Below w.heap.size w W) (first | (with_reducible assumption) | (with_reducible exact HS.out _ (Below.refl _ _).drew) | (with_reducible exact HS.out _ (held_n (by assumption) b2)) | (with_reducible exact HS.out _ (held_n (by assumption) b3)) | (with_reducible exact HS.out _ (held_n (by assumption) (bl1 _ _)))) (first | (go_at_call 137; with_reducible refine (HN.out _ (held_b (by assumption))).mono ?_; rintro e w1 ⟨rfl, rfl⟩) | (go_at_call 15; with_reducible refine (HQ.out _ (held_b (by assumption))).mono ?_; rintro e w2 ⟨rfl, b2⟩) | (go_at_call 136; with_reducible refine (HT3.out _).mono ?_; rintro e w3 ⟨rfl, b3⟩))
  have B3 := Lib.hid (below_then (below_then (below_then (Below.refl _ _).drew b2) (bl1 _ _)) b3)
  clear b2 b3
  go_wp2
  go_ret
  exact ⟨ret_st2 HLB.out, B3.out⟩
set_option maxRecDepth 100000 in
set_option maxHeartbeats 3200000 in
theorem lab_1 (t : Co.T) (h : t.kind = 1) (w : World) (g o : Nat) (ht : TreeAt w g o t) (H : LabH t w) : Calls Tryd.prog 106 #[.pointer (some ⟨g, o, none⟩)] w (RetT w (str8 t.lab)) := by
  unfold RetT
  obtain ⟨x, hx⟩ : ∃ x, coL[1]? = some x := ⟨_, List.getElem?_eq_getElem (by rw [coL_len]; omega)⟩
  have hxs : x.size ≤ 11 := of_decide_eq_true (List.all_eq_true.1 (show (coL.all fun x => decide (x.size ≤ 11)) = true by rfl) x (List.mem_of_getElem? hx))
  have hcN : coN 1 = x := coN_at (k := 1) (by omega) hx
  have hlb : x ++ (⟨#[58]⟩ : ByteArray) ++ str8 (Dec.fmt t.num) = str8 t.lab := by
    unfold Co.T.lab
    rw [h]
    unfold Co.lab
    rw [if_neg (by omega), if_neg (by omega), if_pos (by omega), hcN]
    apply ByteArray.ext; simp [str8]
  have HLB := Lib.hid hlb
  have HN : Hid (∀ W, Below w.heap.size w W → Calls Tryd.prog 137 #[.int .i64 1] W fun e w' => e = .returned (.string x) ∧ W = w') := Lib.hid (fun W hW => by rw [← hcN]; exact impl_coreName 1 W (H.cor.later hW))
  have HQ : Hid (∀ W, Below w.heap.size w W → Calls Tryd.prog 139 #[.int .i64 t.num] W fun e w' => e = .returned (.string (str8 (Dec.fmt t.num))) ∧ Below W.heap.size W w') := Lib.hid (fun W hW => impl_fmt t.num W H.n0 H.n1)
  have hqs : (str8 (Dec.fmt t.num)).size ≤ 21 := by rw [str8_size]; exact Co.fmt_len H.n0 H.n1
  obtain ⟨⟨e0, e1, e2, e3, e4⟩, v, e5, hk⟩ := tree_cells ht
  rw [h] at e0
  have HS : Hid (∀ W, Below w.heap.size w W → (W.cell? ⟨g, o, none⟩ = some (.int .i64 1) ∧ W.cell? ⟨g, o + 2, none⟩ = some (.int .i64 t.num)) ∧ Below w.heap.size w W) := Lib.hid (fun W hW => ⟨⟨subw_below hW _ _ _ e0, subw_below hW _ _ _ e2⟩, hW⟩)
  generalize str8 (Dec.fmt t.num) = y at HLB HQ hqs
  have c9 : ((x.size : Int) + ((⟨#[58]⟩ : ByteArray).size : Int) + (y.size : Int) : Int) ≤ 100000000 := by have l0 : (⟨#[58]⟩ : ByteArray).size = 1 := rfl; omega
  have HT3 := Lib.hid (fun W => tog3 x (⟨#[58]⟩ : ByteArray) y W c9)
  clear hlb hcN hx ht hk H h hxs hqs c9
  go_enter Tryd.func106, Tryd.ntmps106
  go_wp2_with fail
  go_region_held3 (fun W => (W.cell? ⟨g, o, none⟩ = some (.int .i64 1) ∧ W.cell? ⟨g, o + 2, none⟩ = some (.int .i64 t.num)) ∧ Below w.heap.size w W) (first | (with_reducible assumption) | (with_reducible exact HS.out _ (Below.refl _ _).drew) | (with_reducible exact HS.out _ (held_n (by assumption) b2)) | (with_reducible exact HS.out _ (held_n (by assumption) b3)) | (with_reducible exact HS.out _ (held_n (by assumption) (bl1 _ _)))) (first | (go_at_call 137; with_reducible refine (HN.out _ (held_b (by assumption))).mono ?_; rintro e w1 ⟨rfl, rfl⟩) | (go_at_call 139; with_reducible refine (HQ.out _ (held_b (by assumption))).mono ?_; rintro e w2 ⟨rfl, b2⟩) | (go_at_call 136; with_reducible refine (HT3.out _).mono ?_; rintro e w3 ⟨rfl, b3⟩))
  have B3 := Lib.hid (below_then (below_then (below_then (Below.refl _ _).drew b2) (bl1 _ _)) b3)
  clear b2 b3
  go_wp2
  go_ret
  exact ⟨ret_st2 HLB.out, B3.out⟩
set_option maxRecDepth 100000 in
set_option maxHeartbeats 3200000 in
theorem lab_5 (t : Co.T) (h : t.kind = 5) (w : World) (g o : Nat) (ht : TreeAt w g o t) (H : LabH t w) : Calls Tryd.prog 106 #[.pointer (some ⟨g, o, none⟩)] w (RetT w (str8 t.lab)) := by
  unfold RetT
  obtain ⟨x, hx⟩ : ∃ x, coL[5]? = some x := ⟨_, List.getElem?_eq_getElem (by rw [coL_len]; omega)⟩
  have hxs : x.size ≤ 11 := of_decide_eq_true (List.all_eq_true.1 (show (coL.all fun x => decide (x.size ≤ 11)) = true by rfl) x (List.mem_of_getElem? hx))
  have hcN : coN 5 = x := coN_at (k := 5) (by omega) hx
  have hlb : x ++ (⟨#[58]⟩ : ByteArray) ++ str8 (Dec.fmt t.num) = str8 t.lab := by
    unfold Co.T.lab
    rw [h]
    unfold Co.lab
    rw [if_neg (by omega), if_neg (by omega), if_pos (by omega), hcN]
    apply ByteArray.ext; simp [str8]
  have HLB := Lib.hid hlb
  have HN : Hid (∀ W, Below w.heap.size w W → Calls Tryd.prog 137 #[.int .i64 5] W fun e w' => e = .returned (.string x) ∧ W = w') := Lib.hid (fun W hW => by rw [← hcN]; exact impl_coreName 5 W (H.cor.later hW))
  have HQ : Hid (∀ W, Below w.heap.size w W → Calls Tryd.prog 139 #[.int .i64 t.num] W fun e w' => e = .returned (.string (str8 (Dec.fmt t.num))) ∧ Below W.heap.size W w') := Lib.hid (fun W hW => impl_fmt t.num W H.n0 H.n1)
  have hqs : (str8 (Dec.fmt t.num)).size ≤ 21 := by rw [str8_size]; exact Co.fmt_len H.n0 H.n1
  obtain ⟨⟨e0, e1, e2, e3, e4⟩, v, e5, hk⟩ := tree_cells ht
  rw [h] at e0
  have HS : Hid (∀ W, Below w.heap.size w W → (W.cell? ⟨g, o, none⟩ = some (.int .i64 5) ∧ W.cell? ⟨g, o + 2, none⟩ = some (.int .i64 t.num)) ∧ Below w.heap.size w W) := Lib.hid (fun W hW => ⟨⟨subw_below hW _ _ _ e0, subw_below hW _ _ _ e2⟩, hW⟩)
  generalize str8 (Dec.fmt t.num) = y at HLB HQ hqs
  have c9 : ((x.size : Int) + ((⟨#[58]⟩ : ByteArray).size : Int) + (y.size : Int) : Int) ≤ 100000000 := by have l0 : (⟨#[58]⟩ : ByteArray).size = 1 := rfl; omega
  have HT3 := Lib.hid (fun W => tog3 x (⟨#[58]⟩ : ByteArray) y W c9)
  clear hlb hcN hx ht hk H h hxs hqs c9
  go_enter Tryd.func106, Tryd.ntmps106
  go_wp2_with fail
  go_region_held3 (fun W => (W.cell? ⟨g, o, none⟩ = some (.int .i64 5) ∧ W.cell? ⟨g, o + 2, none⟩ = some (.int .i64 t.num)) ∧ Below w.heap.size w W) (first | (with_reducible assumption) | (with_reducible exact HS.out _ (Below.refl _ _).drew) | (with_reducible exact HS.out _ (held_n (by assumption) b2)) | (with_reducible exact HS.out _ (held_n (by assumption) b3)) | (with_reducible exact HS.out _ (held_n (by assumption) (bl1 _ _)))) (first | (go_at_call 137; with_reducible refine (HN.out _ (held_b (by assumption))).mono ?_; rintro e w1 ⟨rfl, rfl⟩) | (go_at_call 139; with_reducible refine (HQ.out _ (held_b (by assumption))).mono ?_; rintro e w2 ⟨rfl, b2⟩) | (go_at_call 136; with_reducible refine (HT3.out _).mono ?_; rintro e w3 ⟨rfl, b3⟩))
  have B3 := Lib.hid (below_then (below_then (below_then (Below.refl _ _).drew b2) (bl1 _ _)) b3)
  clear b2 b3
  go_wp2
  go_ret
  exact ⟨ret_st2 HLB.out, B3.out⟩
set_option maxRecDepth 100000 in
set_option maxHeartbeats 3200000 in
theorem lab_6 (t : Co.T) (h : t.kind = 6) (w : World) (g o : Nat) (ht : TreeAt w g o t) (H : LabH t w) : Calls Tryd.prog 106 #[.pointer (some ⟨g, o, none⟩)] w (RetT w (str8 t.lab)) := by
  unfold RetT
  obtain ⟨x, hx⟩ : ∃ x, coL[6]? = some x := ⟨_, List.getElem?_eq_getElem (by rw [coL_len]; omega)⟩
  have hxs : x.size ≤ 11 := of_decide_eq_true (List.all_eq_true.1 (show (coL.all fun x => decide (x.size ≤ 11)) = true by rfl) x (List.mem_of_getElem? hx))
  have hcN : coN 6 = x := coN_at (k := 6) (by omega) hx
  have hlb : x ++ (⟨#[58]⟩ : ByteArray) ++ str8 (Dec.fmt t.num) = str8 t.lab := by
    unfold Co.T.lab
    rw [h]
    unfold Co.lab
    rw [if_neg (by omega), if_neg (by omega), if_pos (by omega), hcN]
    apply ByteArray.ext; simp [str8]
  have HLB := Lib.hid hlb
  have HN : Hid (∀ W, Below w.heap.size w W → Calls Tryd.prog 137 #[.int .i64 6] W fun e w' => e = .returned (.string x) ∧ W = w') := Lib.hid (fun W hW => by rw [← hcN]; exact impl_coreName 6 W (H.cor.later hW))
  have HQ : Hid (∀ W, Below w.heap.size w W → Calls Tryd.prog 139 #[.int .i64 t.num] W fun e w' => e = .returned (.string (str8 (Dec.fmt t.num))) ∧ Below W.heap.size W w') := Lib.hid (fun W hW => impl_fmt t.num W H.n0 H.n1)
  have hqs : (str8 (Dec.fmt t.num)).size ≤ 21 := by rw [str8_size]; exact Co.fmt_len H.n0 H.n1
  obtain ⟨⟨e0, e1, e2, e3, e4⟩, v, e5, hk⟩ := tree_cells ht
  rw [h] at e0
  have HS : Hid (∀ W, Below w.heap.size w W → (W.cell? ⟨g, o, none⟩ = some (.int .i64 6) ∧ W.cell? ⟨g, o + 2, none⟩ = some (.int .i64 t.num)) ∧ Below w.heap.size w W) := Lib.hid (fun W hW => ⟨⟨subw_below hW _ _ _ e0, subw_below hW _ _ _ e2⟩, hW⟩)
  generalize str8 (Dec.fmt t.num) = y at HLB HQ hqs
  have c9 : ((x.size : Int) + ((⟨#[58]⟩ : ByteArray).size : Int) + (y.size : Int) : Int) ≤ 100000000 := by have l0 : (⟨#[58]⟩ : ByteArray).size = 1 := rfl; omega
  have HT3 := Lib.hid (fun W => tog3 x (⟨#[58]⟩ : ByteArray) y W c9)
  clear hlb hcN hx ht hk H h hxs hqs c9
  go_enter Tryd.func106, Tryd.ntmps106
  go_wp2_with fail
  go_region_held3 (fun W => (W.cell? ⟨g, o, none⟩ = some (.int .i64 6) ∧ W.cell? ⟨g, o + 2, none⟩ = some (.int .i64 t.num)) ∧ Below w.heap.size w W) (first | (with_reducible assumption) | (with_reducible exact HS.out _ (Below.refl _ _).drew) | (with_reducible exact HS.out _ (held_n (by assumption) b2)) | (with_reducible exact HS.out _ (held_n (by assumption) b3)) | (with_reducible exact HS.out _ (held_n (by assumption) (bl1 _ _)))) (first | (go_at_call 137; with_reducible refine (HN.out _ (held_b (by assumption))).mono ?_; rintro e w1 ⟨rfl, rfl⟩) | (go_at_call 139; with_reducible refine (HQ.out _ (held_b (by assumption))).mono ?_; rintro e w2 ⟨rfl, b2⟩) | (go_at_call 136; with_reducible refine (HT3.out _).mono ?_; rintro e w3 ⟨rfl, b3⟩))
  have B3 := Lib.hid (below_then (below_then (below_then (Below.refl _ _).drew b2) (bl1 _ _)) b3)
  clear b2 b3
  go_wp2
  go_ret
  exact ⟨ret_st2 HLB.out, B3.out⟩
set_option maxRecDepth 100000 in
set_option maxHeartbeats 3200000 in
theorem lab_7 (t : Co.T) (h : t.kind = 7) (w : World) (g o : Nat) (ht : TreeAt w g o t) (H : LabH t w) : Calls Tryd.prog 106 #[.pointer (some ⟨g, o, none⟩)] w (RetT w (str8 t.lab)) := by
  unfold RetT
  obtain ⟨x, hx⟩ : ∃ x, coL[7]? = some x := ⟨_, List.getElem?_eq_getElem (by rw [coL_len]; omega)⟩
  have hxs : x.size ≤ 11 := of_decide_eq_true (List.all_eq_true.1 (show (coL.all fun x => decide (x.size ≤ 11)) = true by rfl) x (List.mem_of_getElem? hx))
  have hcN : coN 7 = x := coN_at (k := 7) (by omega) hx
  have hlb : x ++ (⟨#[58]⟩ : ByteArray) ++ str8 (Dec.fmt t.num) = str8 t.lab := by
    unfold Co.T.lab
    rw [h]
    unfold Co.lab
    rw [if_neg (by omega), if_neg (by omega), if_pos (by omega), hcN]
    apply ByteArray.ext; simp [str8]
  have HLB := Lib.hid hlb
  have HN : Hid (∀ W, Below w.heap.size w W → Calls Tryd.prog 137 #[.int .i64 7] W fun e w' => e = .returned (.string x) ∧ W = w') := Lib.hid (fun W hW => by rw [← hcN]; exact impl_coreName 7 W (H.cor.later hW))
  have HQ : Hid (∀ W, Below w.heap.size w W → Calls Tryd.prog 139 #[.int .i64 t.num] W fun e w' => e = .returned (.string (str8 (Dec.fmt t.num))) ∧ Below W.heap.size W w') := Lib.hid (fun W hW => impl_fmt t.num W H.n0 H.n1)
  have hqs : (str8 (Dec.fmt t.num)).size ≤ 21 := by rw [str8_size]; exact Co.fmt_len H.n0 H.n1
  obtain ⟨⟨e0, e1, e2, e3, e4⟩, v, e5, hk⟩ := tree_cells ht
  rw [h] at e0
  have HS : Hid (∀ W, Below w.heap.size w W → (W.cell? ⟨g, o, none⟩ = some (.int .i64 7) ∧ W.cell? ⟨g, o + 2, none⟩ = some (.int .i64 t.num)) ∧ Below w.heap.size w W) := Lib.hid (fun W hW => ⟨⟨subw_below hW _ _ _ e0, subw_below hW _ _ _ e2⟩, hW⟩)
  generalize str8 (Dec.fmt t.num) = y at HLB HQ hqs
  have c9 : ((x.size : Int) + ((⟨#[58]⟩ : ByteArray).size : Int) + (y.size : Int) : Int) ≤ 100000000 := by have l0 : (⟨#[58]⟩ : ByteArray).size = 1 := rfl; omega
  have HT3 := Lib.hid (fun W => tog3 x (⟨#[58]⟩ : ByteArray) y W c9)
  clear hlb hcN hx ht hk H h hxs hqs c9
  go_enter Tryd.func106, Tryd.ntmps106
  go_wp2_with fail
  go_region_held3 (fun W => (W.cell? ⟨g, o, none⟩ = some (.int .i64 7) ∧ W.cell? ⟨g, o + 2, none⟩ = some (.int .i64 t.num)) ∧ Below w.heap.size w W) (first | (with_reducible assumption) | (with_reducible exact HS.out _ (Below.refl _ _).drew) | (with_reducible exact HS.out _ (held_n (by assumption) b2)) | (with_reducible exact HS.out _ (held_n (by assumption) b3)) | (with_reducible exact HS.out _ (held_n (by assumption) (bl1 _ _)))) (first | (go_at_call 137; with_reducible refine (HN.out _ (held_b (by assumption))).mono ?_; rintro e w1 ⟨rfl, rfl⟩) | (go_at_call 139; with_reducible refine (HQ.out _ (held_b (by assumption))).mono ?_; rintro e w2 ⟨rfl, b2⟩) | (go_at_call 136; with_reducible refine (HT3.out _).mono ?_; rintro e w3 ⟨rfl, b3⟩))
  have B3 := Lib.hid (below_then (below_then (below_then (Below.refl _ _).drew b2) (bl1 _ _)) b3)
  clear b2 b3
  go_wp2
  go_ret
  exact ⟨ret_st2 HLB.out, B3.out⟩
set_option maxRecDepth 100000 in
set_option maxHeartbeats 3200000 in
theorem lab_8 (t : Co.T) (h : t.kind = 8) (w : World) (g o : Nat) (ht : TreeAt w g o t) (H : LabH t w) : Calls Tryd.prog 106 #[.pointer (some ⟨g, o, none⟩)] w (RetT w (str8 t.lab)) := by
  unfold RetT
  obtain ⟨x, hx⟩ : ∃ x, coL[8]? = some x := ⟨_, List.getElem?_eq_getElem (by rw [coL_len]; omega)⟩
  have hxs : x.size ≤ 11 := of_decide_eq_true (List.all_eq_true.1 (show (coL.all fun x => decide (x.size ≤ 11)) = true by rfl) x (List.mem_of_getElem? hx))
  have hcN : coN 8 = x := coN_at (k := 8) (by omega) hx
  have hlb : x ++ (⟨#[58]⟩ : ByteArray) ++ str8 (Dec.fmt t.num) = str8 t.lab := by
    unfold Co.T.lab
    rw [h]
    unfold Co.lab
    rw [if_neg (by omega), if_neg (by omega), if_pos (by omega), hcN]
    apply ByteArray.ext; simp [str8]
  have HLB := Lib.hid hlb
  have HN : Hid (∀ W, Below w.heap.size w W → Calls Tryd.prog 137 #[.int .i64 8] W fun e w' => e = .returned (.string x) ∧ W = w') := Lib.hid (fun W hW => by rw [← hcN]; exact impl_coreName 8 W (H.cor.later hW))
  have HQ : Hid (∀ W, Below w.heap.size w W → Calls Tryd.prog 139 #[.int .i64 t.num] W fun e w' => e = .returned (.string (str8 (Dec.fmt t.num))) ∧ Below W.heap.size W w') := Lib.hid (fun W hW => impl_fmt t.num W H.n0 H.n1)
  have hqs : (str8 (Dec.fmt t.num)).size ≤ 21 := by rw [str8_size]; exact Co.fmt_len H.n0 H.n1
  obtain ⟨⟨e0, e1, e2, e3, e4⟩, v, e5, hk⟩ := tree_cells ht
  rw [h] at e0
  have HS : Hid (∀ W, Below w.heap.size w W → (W.cell? ⟨g, o, none⟩ = some (.int .i64 8) ∧ W.cell? ⟨g, o + 2, none⟩ = some (.int .i64 t.num)) ∧ Below w.heap.size w W) := Lib.hid (fun W hW => ⟨⟨subw_below hW _ _ _ e0, subw_below hW _ _ _ e2⟩, hW⟩)
  generalize str8 (Dec.fmt t.num) = y at HLB HQ hqs
  have c9 : ((x.size : Int) + ((⟨#[58]⟩ : ByteArray).size : Int) + (y.size : Int) : Int) ≤ 100000000 := by have l0 : (⟨#[58]⟩ : ByteArray).size = 1 := rfl; omega
  have HT3 := Lib.hid (fun W => tog3 x (⟨#[58]⟩ : ByteArray) y W c9)
  clear hlb hcN hx ht hk H h hxs hqs c9
  go_enter Tryd.func106, Tryd.ntmps106
  go_wp2_with fail
  go_region_held3 (fun W => (W.cell? ⟨g, o, none⟩ = some (.int .i64 8) ∧ W.cell? ⟨g, o + 2, none⟩ = some (.int .i64 t.num)) ∧ Below w.heap.size w W) (first | (with_reducible assumption) | (with_reducible exact HS.out _ (Below.refl _ _).drew) | (with_reducible exact HS.out _ (held_n (by assumption) b2)) | (with_reducible exact HS.out _ (held_n (by assumption) b3)) | (with_reducible exact HS.out _ (held_n (by assumption) (bl1 _ _)))) (first | (go_at_call 137; with_reducible refine (HN.out _ (held_b (by assumption))).mono ?_; rintro e w1 ⟨rfl, rfl⟩) | (go_at_call 139; with_reducible refine (HQ.out _ (held_b (by assumption))).mono ?_; rintro e w2 ⟨rfl, b2⟩) | (go_at_call 136; with_reducible refine (HT3.out _).mono ?_; rintro e w3 ⟨rfl, b3⟩))
  have B3 := Lib.hid (below_then (below_then (below_then (Below.refl _ _).drew b2) (bl1 _ _)) b3)
  clear b2 b3
  go_wp2
  go_ret
  exact ⟨ret_st2 HLB.out, B3.out⟩
set_option maxRecDepth 100000 in
set_option maxHeartbeats 3200000 in
theorem lab_9 (t : Co.T) (h : t.kind = 9) (w : World) (g o : Nat) (ht : TreeAt w g o t) (H : LabH t w) : Calls Tryd.prog 106 #[.pointer (some ⟨g, o, none⟩)] w (RetT w (str8 t.lab)) := by
  unfold RetT
  obtain ⟨x, hx⟩ : ∃ x, coL[9]? = some x := ⟨_, List.getElem?_eq_getElem (by rw [coL_len]; omega)⟩
  have hxs : x.size ≤ 11 := of_decide_eq_true (List.all_eq_true.1 (show (coL.all fun x => decide (x.size ≤ 11)) = true by rfl) x (List.mem_of_getElem? hx))
  have hcN : coN 9 = x := coN_at (k := 9) (by omega) hx
  have hlb : x ++ (⟨#[58]⟩ : ByteArray) ++ str8 (Dec.fmt t.num) = str8 t.lab := by
    unfold Co.T.lab
    rw [h]
    unfold Co.lab
    rw [if_neg (by omega), if_neg (by omega), if_pos (by omega), hcN]
    apply ByteArray.ext; simp [str8]
  have HLB := Lib.hid hlb
  have HN : Hid (∀ W, Below w.heap.size w W → Calls Tryd.prog 137 #[.int .i64 9] W fun e w' => e = .returned (.string x) ∧ W = w') := Lib.hid (fun W hW => by rw [← hcN]; exact impl_coreName 9 W (H.cor.later hW))
  have HQ : Hid (∀ W, Below w.heap.size w W → Calls Tryd.prog 139 #[.int .i64 t.num] W fun e w' => e = .returned (.string (str8 (Dec.fmt t.num))) ∧ Below W.heap.size W w') := Lib.hid (fun W hW => impl_fmt t.num W H.n0 H.n1)
  have hqs : (str8 (Dec.fmt t.num)).size ≤ 21 := by rw [str8_size]; exact Co.fmt_len H.n0 H.n1
  obtain ⟨⟨e0, e1, e2, e3, e4⟩, v, e5, hk⟩ := tree_cells ht
  rw [h] at e0
  have HS : Hid (∀ W, Below w.heap.size w W → (W.cell? ⟨g, o, none⟩ = some (.int .i64 9) ∧ W.cell? ⟨g, o + 2, none⟩ = some (.int .i64 t.num)) ∧ Below w.heap.size w W) := Lib.hid (fun W hW => ⟨⟨subw_below hW _ _ _ e0, subw_below hW _ _ _ e2⟩, hW⟩)
  generalize str8 (Dec.fmt t.num) = y at HLB HQ hqs
  have c9 : ((x.size : Int) + ((⟨#[58]⟩ : ByteArray).size : Int) + (y.size : Int) : Int) ≤ 100000000 := by have l0 : (⟨#[58]⟩ : ByteArray).size = 1 := rfl; omega
  have HT3 := Lib.hid (fun W => tog3 x (⟨#[58]⟩ : ByteArray) y W c9)
  clear hlb hcN hx ht hk H h hxs hqs c9
  go_enter Tryd.func106, Tryd.ntmps106
  go_wp2_with fail
  go_region_held3 (fun W => (W.cell? ⟨g, o, none⟩ = some (.int .i64 9) ∧ W.cell? ⟨g, o + 2, none⟩ = some (.int .i64 t.num)) ∧ Below w.heap.size w W) (first | (with_reducible assumption) | (with_reducible exact HS.out _ (Below.refl _ _).drew) | (with_reducible exact HS.out _ (held_n (by assumption) b2)) | (with_reducible exact HS.out _ (held_n (by assumption) b3)) | (with_reducible exact HS.out _ (held_n (by assumption) (bl1 _ _)))) (first | (go_at_call 137; with_reducible refine (HN.out _ (held_b (by assumption))).mono ?_; rintro e w1 ⟨rfl, rfl⟩) | (go_at_call 139; with_reducible refine (HQ.out _ (held_b (by assumption))).mono ?_; rintro e w2 ⟨rfl, b2⟩) | (go_at_call 136; with_reducible refine (HT3.out _).mono ?_; rintro e w3 ⟨rfl, b3⟩))
  have B3 := Lib.hid (below_then (below_then (below_then (Below.refl _ _).drew b2) (bl1 _ _)) b3)
  clear b2 b3
  go_wp2
  go_ret
  exact ⟨ret_st2 HLB.out, B3.out⟩
set_option maxRecDepth 100000 in
set_option maxHeartbeats 3200000 in
theorem lab_10 (t : Co.T) (h : t.kind = 10) (w : World) (g o : Nat) (ht : TreeAt w g o t) (H : LabH t w) : Calls Tryd.prog 106 #[.pointer (some ⟨g, o, none⟩)] w (RetT w (str8 t.lab)) := by
  unfold RetT
  obtain ⟨x, hx⟩ : ∃ x, coL[10]? = some x := ⟨_, List.getElem?_eq_getElem (by rw [coL_len]; omega)⟩
  have hxs : x.size ≤ 11 := of_decide_eq_true (List.all_eq_true.1 (show (coL.all fun x => decide (x.size ≤ 11)) = true by rfl) x (List.mem_of_getElem? hx))
  have hcN : coN 10 = x := coN_at (k := 10) (by omega) hx
  have hlb : x ++ (⟨#[58]⟩ : ByteArray) ++ str8 (Dec.fmt t.num) = str8 t.lab := by
    unfold Co.T.lab
    rw [h]
    unfold Co.lab
    rw [if_neg (by omega), if_neg (by omega), if_pos (by omega), hcN]
    apply ByteArray.ext; simp [str8]
  have HLB := Lib.hid hlb
  have HN : Hid (∀ W, Below w.heap.size w W → Calls Tryd.prog 137 #[.int .i64 10] W fun e w' => e = .returned (.string x) ∧ W = w') := Lib.hid (fun W hW => by rw [← hcN]; exact impl_coreName 10 W (H.cor.later hW))
  have HQ : Hid (∀ W, Below w.heap.size w W → Calls Tryd.prog 139 #[.int .i64 t.num] W fun e w' => e = .returned (.string (str8 (Dec.fmt t.num))) ∧ Below W.heap.size W w') := Lib.hid (fun W hW => impl_fmt t.num W H.n0 H.n1)
  have hqs : (str8 (Dec.fmt t.num)).size ≤ 21 := by rw [str8_size]; exact Co.fmt_len H.n0 H.n1
  obtain ⟨⟨e0, e1, e2, e3, e4⟩, v, e5, hk⟩ := tree_cells ht
  rw [h] at e0
  have HS : Hid (∀ W, Below w.heap.size w W → (W.cell? ⟨g, o, none⟩ = some (.int .i64 10) ∧ W.cell? ⟨g, o + 2, none⟩ = some (.int .i64 t.num)) ∧ Below w.heap.size w W) := Lib.hid (fun W hW => ⟨⟨subw_below hW _ _ _ e0, subw_below hW _ _ _ e2⟩, hW⟩)
  generalize str8 (Dec.fmt t.num) = y at HLB HQ hqs
  have c9 : ((x.size : Int) + ((⟨#[58]⟩ : ByteArray).size : Int) + (y.size : Int) : Int) ≤ 100000000 := by have l0 : (⟨#[58]⟩ : ByteArray).size = 1 := rfl; omega
  have HT3 := Lib.hid (fun W => tog3 x (⟨#[58]⟩ : ByteArray) y W c9)
  clear hlb hcN hx ht hk H h hxs hqs c9
  go_enter Tryd.func106, Tryd.ntmps106
  go_wp2_with fail
  go_region_held3 (fun W => (W.cell? ⟨g, o, none⟩ = some (.int .i64 10) ∧ W.cell? ⟨g, o + 2, none⟩ = some (.int .i64 t.num)) ∧ Below w.heap.size w W) (first | (with_reducible assumption) | (with_reducible exact HS.out _ (Below.refl _ _).drew) | (with_reducible exact HS.out _ (held_n (by assumption) b2)) | (with_reducible exact HS.out _ (held_n (by assumption) b3)) | (with_reducible exact HS.out _ (held_n (by assumption) (bl1 _ _)))) (first | (go_at_call 137; with_reducible refine (HN.out _ (held_b (by assumption))).mono ?_; rintro e w1 ⟨rfl, rfl⟩) | (go_at_call 139; with_reducible refine (HQ.out _ (held_b (by assumption))).mono ?_; rintro e w2 ⟨rfl, b2⟩) | (go_at_call 136; with_reducible refine (HT3.out _).mono ?_; rintro e w3 ⟨rfl, b3⟩))
  have B3 := Lib.hid (below_then (below_then (below_then (Below.refl _ _).drew b2) (bl1 _ _)) b3)
  clear b2 b3
  go_wp2
  go_ret
  exact ⟨ret_st2 HLB.out, B3.out⟩
set_option maxRecDepth 100000 in
theorem lab_n (t : Co.T) (h2 : ¬ t.kind = 2) (h3 : ¬ t.kind = 3) (h11 : ¬ t.kind = 11) (h1 : ¬ t.kind = 1) (h5 : ¬ t.kind = 5) (h6 : ¬ t.kind = 6) (h7 : ¬ t.kind = 7) (h8 : ¬ t.kind = 8) (h9 : ¬ t.kind = 9) (h10 : ¬ t.kind = 10) (w : World) (g o : Nat) (ht : TreeAt w g o t) (H : LabH t w) : Calls Tryd.prog 106 #[.pointer (some ⟨g, o, none⟩)] w (RetT w (str8 t.lab)) := by
  unfold RetT
  have hlb : coN t.kind = str8 t.lab := by
    unfold Co.T.lab Co.lab
    rw [if_neg (by omega), if_neg (by omega), if_neg (by omega)]
    apply ByteArray.ext; simp [str8]
  have HLB := Lib.hid hlb
  have HN : Hid (∀ W, Below w.heap.size w W → Calls Tryd.prog 137 #[.int .i64 t.kind] W fun e w' => e = .returned (.string (coN t.kind)) ∧ W = w') := Lib.hid (fun W hW => impl_coreName t.kind W (H.cor.later hW))
  obtain ⟨⟨e0, e1, e2, e3, e4⟩, v, e5, hk⟩ := tree_cells ht
  have b2 : (t.kind == 2) = false := beq_eq_false_iff_ne.2 h2
  have b3 : (t.kind == 3) = false := beq_eq_false_iff_ne.2 h3
  have b11 : (t.kind == 11) = false := beq_eq_false_iff_ne.2 h11
  have b1 : (t.kind == 1) = false := beq_eq_false_iff_ne.2 h1
  have b5 : (t.kind == 5) = false := beq_eq_false_iff_ne.2 h5
  have b6 : (t.kind == 6) = false := beq_eq_false_iff_ne.2 h6
  have b7 : (t.kind == 7) = false := beq_eq_false_iff_ne.2 h7
  have b8 : (t.kind == 8) = false := beq_eq_false_iff_ne.2 h8
  have b9 : (t.kind == 9) = false := beq_eq_false_iff_ne.2 h9
  have b10 : (t.kind == 10) = false := beq_eq_false_iff_ne.2 h10
  generalize coN t.kind = y at HLB HN
  clear hlb ht hk H h2 h3 h11 h1 h5 h6 h7 h8 h9 h10
  go_enter Tryd.func106, Tryd.ntmps106
  go_wp2_with fail
  refine (HN.out _ (Below.refl _ _)).mono ?_
  rintro e w1 ⟨rfl, rfl⟩
  go_wp2
  go_ret
  exact ⟨ret_st2 HLB.out, Below.refl _ _⟩
theorem impl_label (t : Co.T) (w : World) (g o : Nat) (ht : TreeAt w g o t) (H : LabH t w) : Calls Tryd.prog 106 #[.pointer (some ⟨g, o, none⟩)] w (RetT w (str8 t.lab)) := by
  by_cases h2 : t.kind = 2
  · exact lab_2 t h2 w g o ht H
  by_cases h3 : t.kind = 3
  · exact lab_3 t h3 w g o ht H
  by_cases h11 : t.kind = 11
  · exact lab_11 t h11 w g o ht H
  by_cases h1 : t.kind = 1
  · exact lab_1 t h1 w g o ht H
  by_cases h5 : t.kind = 5
  · exact lab_5 t h5 w g o ht H
  by_cases h6 : t.kind = 6
  · exact lab_6 t h6 w g o ht H
  by_cases h7 : t.kind = 7
  · exact lab_7 t h7 w g o ht H
  by_cases h8 : t.kind = 8
  · exact lab_8 t h8 w g o ht H
  by_cases h9 : t.kind = 9
  · exact lab_9 t h9 w g o ht H
  by_cases h10 : t.kind = 10
  · exact lab_10 t h10 w g o ht H
  exact lab_n t h2 h3 h11 h1 h5 h6 h7 h8 h9 h10 w g o ht H
end Go.Proofs.YtpncmahpcccmlaaDoor.Cr
