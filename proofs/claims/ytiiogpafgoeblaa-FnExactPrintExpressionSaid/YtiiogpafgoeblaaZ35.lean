/- Joined texts: Y19. No conditions besides those that each states. -/
import Derived.Test.YtiiogpafgoeblaaZ17
import Derived.Test.YtiiogpafgoeblaaZ29
import Derived.Test.YtiiogpafgoeblaaZ34
/- The program prints every valid tree; its PrintExpression. No conditions. -/
namespace Go.Proofs.Ytiiogpafgoeblaa
open Go.RowKit
set_option linter.unusedVariables false

set_option maxRecDepth 100000 in
set_option maxHeartbeats 3200000 in
theorem form_c1 (t : Ex.T) (h : t.kind = 1) (n0 : 0 ≤ t.num) (n1 : t.num ≤ 999999999999) : FormC t := by
  intro w g o ht
  unfold RetT
  obtain ⟨⟨e0, e1, e2, e3⟩, v, e4, hkk⟩ := tree_cells ht
  rw [Ex.form_1 t h]
  have HC := Lib.hid (fun W => impl_fmt t.num W (by omega) (by omega))
  clear ht hkk
  go_enter Try.func73, Try.ntmps73
  go_wp2_with (go_at_call 87; refine (HC.out _).mono ?_; rintro e w1 ⟨rfl, b1⟩)
  go_ret
  exact ⟨rfl, b1⟩
set_option maxRecDepth 100000 in
set_option maxHeartbeats 3200000 in
theorem form_c2 (t : Ex.T) (h : t.kind = 2) (zt : (t.text.size : Int) ≤ 128) : FormC t := by
  intro w g o ht
  unfold RetT
  obtain ⟨⟨e0, e1, e2, e3⟩, v, e4, hkk⟩ := tree_cells ht
  rw [Ex.form_2 t h]
  have HC := Lib.hid (fun W => impl_qt t.text W (by omega))
  unfold RetT at HC
  clear ht hkk
  go_enter Try.func73, Try.ntmps73
  go_wp2_with (go_at_call 88; refine (HC.out _).mono ?_; rintro e w1 ⟨rfl, b1⟩)
  go_ret
  exact ⟨rfl, b1⟩
set_option maxRecDepth 100000 in
set_option maxHeartbeats 3200000 in
theorem form_c3 (t : Ex.T) (h : t.kind = 3) (zt : (t.text.size : Int) ≤ 128) : FormC t := by
  intro w g o ht
  unfold RetT
  obtain ⟨⟨e0, e1, e2, e3⟩, v, e4, hkk⟩ := tree_cells ht
  rw [Ex.form_3 t h]
  have HC := Lib.hid (fun W => impl_new t.text (by unfold maxLen; omega) W)
  unfold RetNew at HC
  have HQ := Lib.hid (fun W => impl_qc (Cs.newL t.text) (Cs.newH t.text) W)
  unfold RetT at HQ
  have HF : Hid (qcS (Cs.newL t.text) (Cs.newH t.text) = str8 (Ex.setF t.text)) := Lib.hid (by unfold Ex.setF; rw [str8_data])
  clear ht hkk
  generalize Cs.newL t.text = a at HC HQ HF
  generalize Cs.newH t.text = b at HC HQ HF
  generalize Cs.good t.text = d at HC
  go_enter Try.func73, Try.ntmps73
  go_wp2_with (first | (go_at_call 89; refine (HC.out _).mono ?_; rintro e w1 ⟨rfl, b1⟩; have B1 := Lib.hid b1; clear b1) | (go_at_call 90; refine (HQ.out _).mono ?_; rintro e w2 ⟨rfl, b2⟩; have B2 := Lib.hid (below_then (below_then B1.out (bl1 _ _)) b2); clear b2))
  go_ret
  exact ⟨ret_str HF.out, B2.out⟩
set_option maxRecDepth 100000 in
set_option maxHeartbeats 3200000 in
theorem form_c4 (t : Ex.T) (h : t.kind = 4) (zt : (t.text.size : Int) ≤ 128) : FormC t := by
  intro w g o ht
  unfold RetT
  obtain ⟨⟨e0, e1, e2, e3⟩, v, e4, hkk⟩ := tree_cells ht
  have HF : Hid (t.text = str8 t.form) := Lib.hid (by rw [Ex.form_4 t h]; exact (str8_data _).symm)
  have HC := Lib.hid (fun W => clone8 t.text W (by omega))
  clear ht hkk
  go_enter Try.func73, Try.ntmps73
  go_wp2_with fail
  refine (HC.out _).mono ?_
  rintro e w1 ⟨rfl, b1⟩
  go_wp2
  go_ret
  exact ⟨ret_str HF.out, b1⟩
set_option maxRecDepth 100000 in
set_option maxHeartbeats 3200000 in
theorem form_c5 (t : Ex.T) (h : t.kind = 5) (zt : (t.text.size : Int) ≤ 128) : FormC t := by
  intro w g o ht
  unfold RetT
  obtain ⟨⟨e0, e1, e2, e3⟩, v, e4, hkk⟩ := tree_cells ht
  have HF : Hid ((⟨#[38]⟩ : ByteArray) ++ t.text = str8 t.form) := Lib.hid (by rw [Ex.form_5 t h]; apply ByteArray.ext; simp [str8])
  clear ht hkk
  go_enter Try.func73, Try.ntmps73
  go_wp2_with fail
  refine (tog2 _ t.text w ?sz).mono ?_
  case sz => show (1 : Int) + t.text.size ≤ _; omega
  rintro e w1 ⟨rfl, b1⟩
  go_wp2
  go_ret
  exact ⟨ret_str HF.out, below_then (bl1 _ _) b1⟩
set_option maxRecDepth 100000 in
set_option maxHeartbeats 3200000 in
theorem form_c28 (t : Ex.T) (h : t.kind = 28) (zt : (t.text.size : Int) ≤ 128) : FormC t := by
  intro w g o ht
  unfold RetT
  obtain ⟨⟨e0, e1, e2, e3⟩, v, e4, hkk⟩ := tree_cells ht
  have HF : Hid ((⟨#[100, 101, 102, 101, 114, 32]⟩ : ByteArray) ++ t.text = str8 t.form) := Lib.hid (by rw [Ex.form_28 t h]; apply ByteArray.ext; simp [str8])
  clear ht hkk
  go_enter Try.func73, Try.ntmps73
  go_wp2_with fail
  refine (tog2 _ t.text w ?sz).mono ?_
  case sz => show (6 : Int) + t.text.size ≤ _; omega
  rintro e w1 ⟨rfl, b1⟩
  go_wp2
  go_ret
  exact ⟨ret_str HF.out, below_then (bl1 _ _) b1⟩
set_option maxRecDepth 100000 in
set_option maxHeartbeats 3200000 in
theorem form_c23 (t : Ex.T) (h : t.kind = 23) : FormC t := by
  intro w g o ht
  unfold RetT
  obtain ⟨⟨e0, e1, e2, e3⟩, v, e4, hkk⟩ := tree_cells ht
  have HF : Hid ((⟨#[102, 97, 105, 108]⟩ : ByteArray) = str8 t.form) := Lib.hid (by rw [Ex.form_23 t h]; rfl)
  clear ht hkk
  go_enter Try.func73, Try.ntmps73
  go_wp2
  go_ret
  exact ⟨ret_str HF.out, Below.refl _ _⟩
set_option maxRecDepth 100000 in
set_option maxHeartbeats 3200000 in
theorem form_c25 (t : Ex.T) (h : t.kind = 25) : FormC t := by
  intro w g o ht
  unfold RetT
  obtain ⟨⟨e0, e1, e2, e3⟩, v, e4, hkk⟩ := tree_cells ht
  have HF : Hid ((⟨#[110, 101, 120, 116]⟩ : ByteArray) = str8 t.form) := Lib.hid (by rw [Ex.form_25 t h]; rfl)
  clear ht hkk
  go_enter Try.func73, Try.ntmps73
  go_wp2
  go_ret
  exact ⟨ret_str HF.out, Below.refl _ _⟩
set_option maxRecDepth 100000 in
set_option maxHeartbeats 3200000 in
theorem form_c6 (t : Ex.T) (h : t.kind = 6) (hI : ∀ x ∈ t.kids, FitC x) (hl : t.kids.length ≤ 24) (hb : (Ex.seps (Ex.parts t.kids) [44, 32]).length ≤ 1048576) : FormC t := by
  intro w g o ht
  unfold RetT
  obtain ⟨⟨e0, e1, e2, e3⟩, v, e4, hkk⟩ := tree_cells ht
  have HL : Hid (Calls Try.prog 91 #[v, .string ⟨#[44, 32]⟩] w fun e w' => e = .returned (.string (str8 (Ex.seps (Ex.parts t.kids) [44, 32]))) ∧ Below w.heap.size w w') := Lib.hid (impl_list t.kids hI ⟨#[44, 32]⟩ hl (by show (Ex.seps _ [44, 32]).length ≤ _; omega) w v hkk)
  have hz : ((str8 (Ex.seps (Ex.parts t.kids) [44, 32])).size : Int) ≤ 1048576 := by rw [str8_size]; omega
  have HF : Hid ((⟨#[91]⟩ : ByteArray) ++ str8 (Ex.seps (Ex.parts t.kids) [44, 32]) ++ (⟨#[93]⟩ : ByteArray) = str8 t.form) := Lib.hid (by rw [Ex.form_6 t h]; apply ByteArray.ext; simp [str8])
  obtain ⟨a, c, rfl⟩ := kids_len hkk
  clear ht hkk hI hb
  generalize str8 (Ex.seps (Ex.parts t.kids) [44, 32]) = s1 at HL HF hz
  go_enter Try.func73, Try.ntmps73
  go_wp2_with fail
  refine HL.out.mono ?_
  rintro e w1 ⟨rfl, b1⟩
  have B1 := Lib.hid b1
  clear b1
  go_wp2_with fail
  refine (tog3 _ s1 _ w1 ?sz).mono ?_
  case sz => show (1 : Int) + s1.size + 1 ≤ _; omega
  rintro e w2 ⟨rfl, b2⟩
  go_wp2
  go_ret
  exact ⟨ret_str HF.out, below_then (below_then B1.out (bl1 _ _)) b2⟩
set_option maxRecDepth 100000 in
set_option maxHeartbeats 3200000 in
theorem form_c14 (t : Ex.T) (h : t.kind = 14) (hI : ∀ x ∈ t.kids, FitC x) (hl : t.kids.length ≤ 24) (hb : (Ex.seps (Ex.parts t.kids) [59, 32]).length ≤ 1048576) : FormC t := by
  intro w g o ht
  unfold RetT
  obtain ⟨⟨e0, e1, e2, e3⟩, v, e4, hkk⟩ := tree_cells ht
  have HL : Hid (Calls Try.prog 91 #[v, .string ⟨#[59, 32]⟩] w fun e w' => e = .returned (.string (str8 (Ex.seps (Ex.parts t.kids) [59, 32]))) ∧ Below w.heap.size w w') := Lib.hid (impl_list t.kids hI ⟨#[59, 32]⟩ hl (by show (Ex.seps _ [59, 32]).length ≤ _; omega) w v hkk)
  have hz : ((str8 (Ex.seps (Ex.parts t.kids) [59, 32])).size : Int) ≤ 1048576 := by rw [str8_size]; omega
  have HF : Hid ((⟨#[123]⟩ : ByteArray) ++ str8 (Ex.seps (Ex.parts t.kids) [59, 32]) ++ (⟨#[125]⟩ : ByteArray) = str8 t.form) := Lib.hid (by rw [Ex.form_14 t h]; apply ByteArray.ext; simp [str8])
  obtain ⟨a, c, rfl⟩ := kids_len hkk
  clear ht hkk hI hb
  generalize str8 (Ex.seps (Ex.parts t.kids) [59, 32]) = s1 at HL HF hz
  go_enter Try.func73, Try.ntmps73
  go_wp2_with fail
  refine HL.out.mono ?_
  rintro e w1 ⟨rfl, b1⟩
  have B1 := Lib.hid b1
  clear b1
  go_wp2_with fail
  refine (tog3 _ s1 _ w1 ?sz).mono ?_
  case sz => show (1 : Int) + s1.size + 1 ≤ _; omega
  rintro e w2 ⟨rfl, b2⟩
  go_wp2
  go_ret
  exact ⟨ret_str HF.out, below_then (below_then B1.out (bl1 _ _)) b2⟩
set_option maxRecDepth 100000 in
set_option maxHeartbeats 3200000 in
theorem form_c29 (t : Ex.T) (h : t.kind = 29) (hI : ∀ x ∈ t.kids, FitC x) (hl : t.kids.length ≤ 24) (hb : (Ex.seps (Ex.parts t.kids) [44, 32]).length ≤ 1048576) : FormC t := by
  intro w g o ht
  unfold RetT
  obtain ⟨⟨e0, e1, e2, e3⟩, v, e4, hkk⟩ := tree_cells ht
  have HL : Hid (Calls Try.prog 91 #[v, .string ⟨#[44, 32]⟩] w fun e w' => e = .returned (.string (str8 (Ex.seps (Ex.parts t.kids) [44, 32]))) ∧ Below w.heap.size w w') := Lib.hid (impl_list t.kids hI ⟨#[44, 32]⟩ hl (by show (Ex.seps _ [44, 32]).length ≤ _; omega) w v hkk)
  have hz : ((str8 (Ex.seps (Ex.parts t.kids) [44, 32])).size : Int) ≤ 1048576 := by rw [str8_size]; omega
  have HF : Hid ((⟨#[40]⟩ : ByteArray) ++ str8 (Ex.seps (Ex.parts t.kids) [44, 32]) ++ (⟨#[41]⟩ : ByteArray) = str8 t.form) := Lib.hid (by rw [Ex.form_29 t h]; apply ByteArray.ext; simp [str8])
  obtain ⟨a, c, rfl⟩ := kids_len hkk
  clear ht hkk hI hb
  generalize str8 (Ex.seps (Ex.parts t.kids) [44, 32]) = s1 at HL HF hz
  go_enter Try.func73, Try.ntmps73
  go_wp2_with fail
  refine HL.out.mono ?_
  rintro e w1 ⟨rfl, b1⟩
  have B1 := Lib.hid b1
  clear b1
  go_wp2_with fail
  refine (tog3 _ s1 _ w1 ?sz).mono ?_
  case sz => show (1 : Int) + s1.size + 1 ≤ _; omega
  rintro e w2 ⟨rfl, b2⟩
  go_wp2
  go_ret
  exact ⟨ret_str HF.out, below_then (below_then B1.out (bl1 _ _)) b2⟩
set_option maxRecDepth 100000 in
set_option maxHeartbeats 3200000 in
theorem con_c15 (t : Ex.T) (h : t.kind = 15) (hI : ∀ k (h : k < t.kids.length), FitC t.kids[k]) (h24 : t.kids.length ≤ 24) (hw : t.kids.length ≤ 3) (hb : (Ex.wordsF Ex.ws15 (Ex.parts t.kids)).length ≤ 4194304) (w : World) (g o : Nat) (ht : TreeAt w g o t) : Calls Try.prog 94 #[.pointer (some ⟨g, o, none⟩)] w (RetT w (str8 t.form)) := by
  unfold RetT
  have HC : Hid (∀ vw, StrsAt (w.alloc (.cells #[.string ⟨#[105, 102]⟩, .string ⟨#[116, 104, 101, 110]⟩, .string ⟨#[101, 108, 115, 101]⟩] 9)) vw [⟨#[105, 102]⟩, ⟨#[116, 104, 101, 110]⟩, ⟨#[101, 108, 115, 101]⟩] → Calls Try.prog 113 #[.pointer (some ⟨g, o, none⟩), vw] (w.alloc (.cells #[.string ⟨#[105, 102]⟩, .string ⟨#[116, 104, 101, 110]⟩, .string ⟨#[101, 108, 115, 101]⟩] 9)) (RetT (w.alloc (.cells #[.string ⟨#[105, 102]⟩, .string ⟨#[116, 104, 101, 110]⟩, .string ⟨#[101, 108, 115, 101]⟩] 9)) (str8 (Ex.wordsF Ex.ws15 (Ex.parts t.kids))))) := Lib.hid (fun vw hs => impl_words8 t hI h24 [⟨#[105, 102]⟩, ⟨#[116, 104, 101, 110]⟩, ⟨#[101, 108, 115, 101]⟩] (by decide) hw (by decide) hb _ g o vw (ht.later (bl1 _ _)) hs)
  unfold RetT at HC
  have HF : Hid (str8 (Ex.wordsF Ex.ws15 (Ex.parts t.kids)) = str8 t.form) := Lib.hid (by rw [Ex.form_15 t h])
  have HS : Hid (StrsAt (w.alloc (.cells #[.string ⟨#[105, 102]⟩, .string ⟨#[116, 104, 101, 110]⟩, .string ⟨#[101, 108, 115, 101]⟩] 9)) (.slice (some ⟨w.heap.size, 0, none⟩) 3 3) [⟨#[105, 102]⟩, ⟨#[116, 104, 101, 110]⟩, ⟨#[101, 108, 115, 101]⟩]) := Lib.hid (strs_new w [⟨#[105, 102]⟩, ⟨#[116, 104, 101, 110]⟩, ⟨#[101, 108, 115, 101]⟩] (by decide) 9)
  obtain ⟨⟨e0, e1, e2, e3⟩, v, e4, hkk⟩ := tree_cells ht
  clear ht hkk hI hb
  generalize str8 (Ex.wordsF Ex.ws15 (Ex.parts t.kids)) = s1 at HC HF
  go_enter Try.func94, Try.ntmps94
  go_wp2_with fail
  refine (HC.out _ HS.out).mono ?_
  rintro e w1 ⟨rfl, b1⟩
  go_wp2
  go_ret
  exact ⟨ret_str HF.out, below_then (bl1 _ _) b1⟩
set_option maxRecDepth 100000 in
set_option maxHeartbeats 3200000 in
theorem con_c16 (t : Ex.T) (h : t.kind = 16) (hI : ∀ k (h : k < t.kids.length), FitC t.kids[k]) (h24 : t.kids.length ≤ 24) (hw : t.kids.length ≤ 2) (hb : (Ex.wordsF Ex.ws16 (Ex.parts t.kids)).length ≤ 4194304) (w : World) (g o : Nat) (ht : TreeAt w g o t) : Calls Try.prog 94 #[.pointer (some ⟨g, o, none⟩)] w (RetT w (str8 t.form)) := by
  unfold RetT
  have HC : Hid (∀ vw, StrsAt (w.alloc (.cells #[.string ⟨#[119, 104, 105, 108, 101]⟩, .string ⟨#[100, 111]⟩] 9)) vw [⟨#[119, 104, 105, 108, 101]⟩, ⟨#[100, 111]⟩] → Calls Try.prog 113 #[.pointer (some ⟨g, o, none⟩), vw] (w.alloc (.cells #[.string ⟨#[119, 104, 105, 108, 101]⟩, .string ⟨#[100, 111]⟩] 9)) (RetT (w.alloc (.cells #[.string ⟨#[119, 104, 105, 108, 101]⟩, .string ⟨#[100, 111]⟩] 9)) (str8 (Ex.wordsF Ex.ws16 (Ex.parts t.kids))))) := Lib.hid (fun vw hs => impl_words8 t hI h24 [⟨#[119, 104, 105, 108, 101]⟩, ⟨#[100, 111]⟩] (by decide) hw (by decide) hb _ g o vw (ht.later (bl1 _ _)) hs)
  unfold RetT at HC
  have HF : Hid (str8 (Ex.wordsF Ex.ws16 (Ex.parts t.kids)) = str8 t.form) := Lib.hid (by rw [Ex.form_16 t h])
  have HS : Hid (StrsAt (w.alloc (.cells #[.string ⟨#[119, 104, 105, 108, 101]⟩, .string ⟨#[100, 111]⟩] 9)) (.slice (some ⟨w.heap.size, 0, none⟩) 2 2) [⟨#[119, 104, 105, 108, 101]⟩, ⟨#[100, 111]⟩]) := Lib.hid (strs_new w [⟨#[119, 104, 105, 108, 101]⟩, ⟨#[100, 111]⟩] (by decide) 9)
  obtain ⟨⟨e0, e1, e2, e3⟩, v, e4, hkk⟩ := tree_cells ht
  clear ht hkk hI hb
  generalize str8 (Ex.wordsF Ex.ws16 (Ex.parts t.kids)) = s1 at HC HF
  go_enter Try.func94, Try.ntmps94
  go_wp2_with fail
  refine (HC.out _ HS.out).mono ?_
  rintro e w1 ⟨rfl, b1⟩
  go_wp2
  go_ret
  exact ⟨ret_str HF.out, below_then (bl1 _ _) b1⟩
set_option maxRecDepth 100000 in
set_option maxHeartbeats 3200000 in
theorem con_c17 (t : Ex.T) (h : t.kind = 17) (hI : ∀ k (h : k < t.kids.length), FitC t.kids[k]) (h24 : t.kids.length ≤ 24) (hw : t.kids.length ≤ 2) (hb : (Ex.wordsF Ex.ws17 (Ex.parts t.kids)).length ≤ 4194304) (w : World) (g o : Nat) (ht : TreeAt w g o t) : Calls Try.prog 94 #[.pointer (some ⟨g, o, none⟩)] w (RetT w (str8 t.form)) := by
  unfold RetT
  have HC : Hid (∀ vw, StrsAt (w.alloc (.cells #[.string ⟨#[117, 110, 116, 105, 108]⟩, .string ⟨#[100, 111]⟩] 9)) vw [⟨#[117, 110, 116, 105, 108]⟩, ⟨#[100, 111]⟩] → Calls Try.prog 113 #[.pointer (some ⟨g, o, none⟩), vw] (w.alloc (.cells #[.string ⟨#[117, 110, 116, 105, 108]⟩, .string ⟨#[100, 111]⟩] 9)) (RetT (w.alloc (.cells #[.string ⟨#[117, 110, 116, 105, 108]⟩, .string ⟨#[100, 111]⟩] 9)) (str8 (Ex.wordsF Ex.ws17 (Ex.parts t.kids))))) := Lib.hid (fun vw hs => impl_words8 t hI h24 [⟨#[117, 110, 116, 105, 108]⟩, ⟨#[100, 111]⟩] (by decide) hw (by decide) hb _ g o vw (ht.later (bl1 _ _)) hs)
  unfold RetT at HC
  have HF : Hid (str8 (Ex.wordsF Ex.ws17 (Ex.parts t.kids)) = str8 t.form) := Lib.hid (by rw [Ex.form_17 t h])
  have HS : Hid (StrsAt (w.alloc (.cells #[.string ⟨#[117, 110, 116, 105, 108]⟩, .string ⟨#[100, 111]⟩] 9)) (.slice (some ⟨w.heap.size, 0, none⟩) 2 2) [⟨#[117, 110, 116, 105, 108]⟩, ⟨#[100, 111]⟩]) := Lib.hid (strs_new w [⟨#[117, 110, 116, 105, 108]⟩, ⟨#[100, 111]⟩] (by decide) 9)
  obtain ⟨⟨e0, e1, e2, e3⟩, v, e4, hkk⟩ := tree_cells ht
  clear ht hkk hI hb
  generalize str8 (Ex.wordsF Ex.ws17 (Ex.parts t.kids)) = s1 at HC HF
  go_enter Try.func94, Try.ntmps94
  go_wp2_with fail
  refine (HC.out _ HS.out).mono ?_
  rintro e w1 ⟨rfl, b1⟩
  go_wp2
  go_ret
  exact ⟨ret_str HF.out, below_then (bl1 _ _) b1⟩
set_option maxRecDepth 100000 in
set_option maxHeartbeats 3200000 in
theorem con_c18 (t : Ex.T) (h : t.kind = 18) (hI : ∀ k (h : k < t.kids.length), FitC t.kids[k]) (h24 : t.kids.length ≤ 24) (hw : t.kids.length ≤ 2) (hb : (Ex.wordsF Ex.ws18 (Ex.parts t.kids)).length ≤ 4194304) (w : World) (g o : Nat) (ht : TreeAt w g o t) : Calls Try.prog 94 #[.pointer (some ⟨g, o, none⟩)] w (RetT w (str8 t.form)) := by
  unfold RetT
  have HC : Hid (∀ vw, StrsAt (w.alloc (.cells #[.string ⟨#[101, 118, 101, 114, 121]⟩, .string ⟨#[100, 111]⟩] 9)) vw [⟨#[101, 118, 101, 114, 121]⟩, ⟨#[100, 111]⟩] → Calls Try.prog 113 #[.pointer (some ⟨g, o, none⟩), vw] (w.alloc (.cells #[.string ⟨#[101, 118, 101, 114, 121]⟩, .string ⟨#[100, 111]⟩] 9)) (RetT (w.alloc (.cells #[.string ⟨#[101, 118, 101, 114, 121]⟩, .string ⟨#[100, 111]⟩] 9)) (str8 (Ex.wordsF Ex.ws18 (Ex.parts t.kids))))) := Lib.hid (fun vw hs => impl_words8 t hI h24 [⟨#[101, 118, 101, 114, 121]⟩, ⟨#[100, 111]⟩] (by decide) hw (by decide) hb _ g o vw (ht.later (bl1 _ _)) hs)
  unfold RetT at HC
  have HF : Hid (str8 (Ex.wordsF Ex.ws18 (Ex.parts t.kids)) = str8 t.form) := Lib.hid (by rw [Ex.form_18 t h])
  have HS : Hid (StrsAt (w.alloc (.cells #[.string ⟨#[101, 118, 101, 114, 121]⟩, .string ⟨#[100, 111]⟩] 9)) (.slice (some ⟨w.heap.size, 0, none⟩) 2 2) [⟨#[101, 118, 101, 114, 121]⟩, ⟨#[100, 111]⟩]) := Lib.hid (strs_new w [⟨#[101, 118, 101, 114, 121]⟩, ⟨#[100, 111]⟩] (by decide) 9)
  obtain ⟨⟨e0, e1, e2, e3⟩, v, e4, hkk⟩ := tree_cells ht
  clear ht hkk hI hb
  generalize str8 (Ex.wordsF Ex.ws18 (Ex.parts t.kids)) = s1 at HC HF
  go_enter Try.func94, Try.ntmps94
  go_wp2_with fail
  refine (HC.out _ HS.out).mono ?_
  rintro e w1 ⟨rfl, b1⟩
  go_wp2
  go_ret
  exact ⟨ret_str HF.out, below_then (bl1 _ _) b1⟩
set_option maxRecDepth 100000 in
set_option maxHeartbeats 3200000 in
theorem con_c19 (t : Ex.T) (h : t.kind = 19) (hI : ∀ k (h : k < t.kids.length), FitC t.kids[k]) (h24 : t.kids.length ≤ 24) (hw : t.kids.length ≤ 1) (hb : (Ex.wordsF Ex.ws19 (Ex.parts t.kids)).length ≤ 4194304) (w : World) (g o : Nat) (ht : TreeAt w g o t) : Calls Try.prog 94 #[.pointer (some ⟨g, o, none⟩)] w (RetT w (str8 t.form)) := by
  unfold RetT
  have HC : Hid (∀ vw, StrsAt (w.alloc (.cells #[.string ⟨#[114, 101, 112, 101, 97, 116]⟩] 9)) vw [⟨#[114, 101, 112, 101, 97, 116]⟩] → Calls Try.prog 113 #[.pointer (some ⟨g, o, none⟩), vw] (w.alloc (.cells #[.string ⟨#[114, 101, 112, 101, 97, 116]⟩] 9)) (RetT (w.alloc (.cells #[.string ⟨#[114, 101, 112, 101, 97, 116]⟩] 9)) (str8 (Ex.wordsF Ex.ws19 (Ex.parts t.kids))))) := Lib.hid (fun vw hs => impl_words8 t hI h24 [⟨#[114, 101, 112, 101, 97, 116]⟩] (by decide) hw (by decide) hb _ g o vw (ht.later (bl1 _ _)) hs)
  unfold RetT at HC
  have HF : Hid (str8 (Ex.wordsF Ex.ws19 (Ex.parts t.kids)) = str8 t.form) := Lib.hid (by rw [Ex.form_19 t h])
  have HS : Hid (StrsAt (w.alloc (.cells #[.string ⟨#[114, 101, 112, 101, 97, 116]⟩] 9)) (.slice (some ⟨w.heap.size, 0, none⟩) 1 1) [⟨#[114, 101, 112, 101, 97, 116]⟩]) := Lib.hid (strs_new w [⟨#[114, 101, 112, 101, 97, 116]⟩] (by decide) 9)
  obtain ⟨⟨e0, e1, e2, e3⟩, v, e4, hkk⟩ := tree_cells ht
  clear ht hkk hI hb
  generalize str8 (Ex.wordsF Ex.ws19 (Ex.parts t.kids)) = s1 at HC HF
  go_enter Try.func94, Try.ntmps94
  go_wp2_with fail
  refine (HC.out _ HS.out).mono ?_
  rintro e w1 ⟨rfl, b1⟩
  go_wp2
  go_ret
  exact ⟨ret_str HF.out, below_then (bl1 _ _) b1⟩
set_option maxRecDepth 100000 in
set_option maxHeartbeats 3200000 in
theorem con_c21 (t : Ex.T) (h : t.kind = 21) (hI : ∀ k (h : k < t.kids.length), FitC t.kids[k]) (h24 : t.kids.length ≤ 24) (hw : t.kids.length ≤ 1) (hb : (Ex.wordsF Ex.ws21 (Ex.parts t.kids)).length ≤ 4194304) (w : World) (g o : Nat) (ht : TreeAt w g o t) : Calls Try.prog 94 #[.pointer (some ⟨g, o, none⟩)] w (RetT w (str8 t.form)) := by
  unfold RetT
  have HC : Hid (∀ vw, StrsAt (w.alloc (.cells #[.string ⟨#[114, 101, 116, 117, 114, 110]⟩] 9)) vw [⟨#[114, 101, 116, 117, 114, 110]⟩] → Calls Try.prog 113 #[.pointer (some ⟨g, o, none⟩), vw] (w.alloc (.cells #[.string ⟨#[114, 101, 116, 117, 114, 110]⟩] 9)) (RetT (w.alloc (.cells #[.string ⟨#[114, 101, 116, 117, 114, 110]⟩] 9)) (str8 (Ex.wordsF Ex.ws21 (Ex.parts t.kids))))) := Lib.hid (fun vw hs => impl_words8 t hI h24 [⟨#[114, 101, 116, 117, 114, 110]⟩] (by decide) hw (by decide) hb _ g o vw (ht.later (bl1 _ _)) hs)
  unfold RetT at HC
  have HF : Hid (str8 (Ex.wordsF Ex.ws21 (Ex.parts t.kids)) = str8 t.form) := Lib.hid (by rw [Ex.form_21 t h])
  have HS : Hid (StrsAt (w.alloc (.cells #[.string ⟨#[114, 101, 116, 117, 114, 110]⟩] 9)) (.slice (some ⟨w.heap.size, 0, none⟩) 1 1) [⟨#[114, 101, 116, 117, 114, 110]⟩]) := Lib.hid (strs_new w [⟨#[114, 101, 116, 117, 114, 110]⟩] (by decide) 9)
  obtain ⟨⟨e0, e1, e2, e3⟩, v, e4, hkk⟩ := tree_cells ht
  clear ht hkk hI hb
  generalize str8 (Ex.wordsF Ex.ws21 (Ex.parts t.kids)) = s1 at HC HF
  go_enter Try.func94, Try.ntmps94
  go_wp2_with fail
  refine (HC.out _ HS.out).mono ?_
  rintro e w1 ⟨rfl, b1⟩
  go_wp2
  go_ret
  exact ⟨ret_str HF.out, below_then (bl1 _ _) b1⟩
set_option maxRecDepth 100000 in
set_option maxHeartbeats 3200000 in
theorem con_c22 (t : Ex.T) (h : t.kind = 22) (hI : ∀ k (h : k < t.kids.length), FitC t.kids[k]) (h24 : t.kids.length ≤ 24) (hw : t.kids.length ≤ 2) (hb : (Ex.wordsF Ex.ws22 (Ex.parts t.kids)).length ≤ 4194304) (w : World) (g o : Nat) (ht : TreeAt w g o t) : Calls Try.prog 94 #[.pointer (some ⟨g, o, none⟩)] w (RetT w (str8 t.form)) := by
  unfold RetT
  have HC : Hid (∀ vw, StrsAt (w.alloc (.cells #[.string ⟨#[115, 117, 115, 112, 101, 110, 100]⟩, .string ⟨#[100, 111]⟩] 9)) vw [⟨#[115, 117, 115, 112, 101, 110, 100]⟩, ⟨#[100, 111]⟩] → Calls Try.prog 113 #[.pointer (some ⟨g, o, none⟩), vw] (w.alloc (.cells #[.string ⟨#[115, 117, 115, 112, 101, 110, 100]⟩, .string ⟨#[100, 111]⟩] 9)) (RetT (w.alloc (.cells #[.string ⟨#[115, 117, 115, 112, 101, 110, 100]⟩, .string ⟨#[100, 111]⟩] 9)) (str8 (Ex.wordsF Ex.ws22 (Ex.parts t.kids))))) := Lib.hid (fun vw hs => impl_words8 t hI h24 [⟨#[115, 117, 115, 112, 101, 110, 100]⟩, ⟨#[100, 111]⟩] (by decide) hw (by decide) hb _ g o vw (ht.later (bl1 _ _)) hs)
  unfold RetT at HC
  have HF : Hid (str8 (Ex.wordsF Ex.ws22 (Ex.parts t.kids)) = str8 t.form) := Lib.hid (by rw [Ex.form_22 t h])
  have HS : Hid (StrsAt (w.alloc (.cells #[.string ⟨#[115, 117, 115, 112, 101, 110, 100]⟩, .string ⟨#[100, 111]⟩] 9)) (.slice (some ⟨w.heap.size, 0, none⟩) 2 2) [⟨#[115, 117, 115, 112, 101, 110, 100]⟩, ⟨#[100, 111]⟩]) := Lib.hid (strs_new w [⟨#[115, 117, 115, 112, 101, 110, 100]⟩, ⟨#[100, 111]⟩] (by decide) 9)
  obtain ⟨⟨e0, e1, e2, e3⟩, v, e4, hkk⟩ := tree_cells ht
  clear ht hkk hI hb
  generalize str8 (Ex.wordsF Ex.ws22 (Ex.parts t.kids)) = s1 at HC HF
  go_enter Try.func94, Try.ntmps94
  go_wp2_with fail
  refine (HC.out _ HS.out).mono ?_
  rintro e w1 ⟨rfl, b1⟩
  go_wp2
  go_ret
  exact ⟨ret_str HF.out, below_then (bl1 _ _) b1⟩
set_option maxRecDepth 100000 in
set_option maxHeartbeats 3200000 in
theorem con_c24 (t : Ex.T) (h : t.kind = 24) (hI : ∀ k (h : k < t.kids.length), FitC t.kids[k]) (h24 : t.kids.length ≤ 24) (hw : t.kids.length ≤ 1) (hb : (Ex.wordsF Ex.ws24 (Ex.parts t.kids)).length ≤ 4194304) (w : World) (g o : Nat) (ht : TreeAt w g o t) : Calls Try.prog 94 #[.pointer (some ⟨g, o, none⟩)] w (RetT w (str8 t.form)) := by
  unfold RetT
  have HC : Hid (∀ vw, StrsAt (w.alloc (.cells #[.string ⟨#[98, 114, 101, 97, 107]⟩] 9)) vw [⟨#[98, 114, 101, 97, 107]⟩] → Calls Try.prog 113 #[.pointer (some ⟨g, o, none⟩), vw] (w.alloc (.cells #[.string ⟨#[98, 114, 101, 97, 107]⟩] 9)) (RetT (w.alloc (.cells #[.string ⟨#[98, 114, 101, 97, 107]⟩] 9)) (str8 (Ex.wordsF Ex.ws24 (Ex.parts t.kids))))) := Lib.hid (fun vw hs => impl_words8 t hI h24 [⟨#[98, 114, 101, 97, 107]⟩] (by decide) hw (by decide) hb _ g o vw (ht.later (bl1 _ _)) hs)
  unfold RetT at HC
  have HF : Hid (str8 (Ex.wordsF Ex.ws24 (Ex.parts t.kids)) = str8 t.form) := Lib.hid (by rw [Ex.form_24 t h])
  have HS : Hid (StrsAt (w.alloc (.cells #[.string ⟨#[98, 114, 101, 97, 107]⟩] 9)) (.slice (some ⟨w.heap.size, 0, none⟩) 1 1) [⟨#[98, 114, 101, 97, 107]⟩]) := Lib.hid (strs_new w [⟨#[98, 114, 101, 97, 107]⟩] (by decide) 9)
  obtain ⟨⟨e0, e1, e2, e3⟩, v, e4, hkk⟩ := tree_cells ht
  clear ht hkk hI hb
  generalize str8 (Ex.wordsF Ex.ws24 (Ex.parts t.kids)) = s1 at HC HF
  go_enter Try.func94, Try.ntmps94
  go_wp2_with fail
  refine (HC.out _ HS.out).mono ?_
  rintro e w1 ⟨rfl, b1⟩
  go_wp2
  go_ret
  exact ⟨ret_str HF.out, below_then (bl1 _ _) b1⟩
set_option maxRecDepth 100000 in
set_option maxHeartbeats 3200000 in
theorem con_c26 (t : Ex.T) (h : t.kind = 26) (hI : ∀ k (h : k < t.kids.length), FitC t.kids[k]) (h24 : t.kids.length ≤ 24) (hw : t.kids.length ≤ 1) (hb : (Ex.wordsF Ex.ws26 (Ex.parts t.kids)).length ≤ 4194304) (w : World) (g o : Nat) (ht : TreeAt w g o t) : Calls Try.prog 94 #[.pointer (some ⟨g, o, none⟩)] w (RetT w (str8 t.form)) := by
  unfold RetT
  have HC : Hid (∀ vw, StrsAt (w.alloc (.cells #[.string ⟨#[99, 114, 101, 97, 116, 101]⟩] 9)) vw [⟨#[99, 114, 101, 97, 116, 101]⟩] → Calls Try.prog 113 #[.pointer (some ⟨g, o, none⟩), vw] (w.alloc (.cells #[.string ⟨#[99, 114, 101, 97, 116, 101]⟩] 9)) (RetT (w.alloc (.cells #[.string ⟨#[99, 114, 101, 97, 116, 101]⟩] 9)) (str8 (Ex.wordsF Ex.ws26 (Ex.parts t.kids))))) := Lib.hid (fun vw hs => impl_words8 t hI h24 [⟨#[99, 114, 101, 97, 116, 101]⟩] (by decide) hw (by decide) hb _ g o vw (ht.later (bl1 _ _)) hs)
  unfold RetT at HC
  have HF : Hid (str8 (Ex.wordsF Ex.ws26 (Ex.parts t.kids)) = str8 t.form) := Lib.hid (by rw [Ex.form_26 t h])
  have HS : Hid (StrsAt (w.alloc (.cells #[.string ⟨#[99, 114, 101, 97, 116, 101]⟩] 9)) (.slice (some ⟨w.heap.size, 0, none⟩) 1 1) [⟨#[99, 114, 101, 97, 116, 101]⟩]) := Lib.hid (strs_new w [⟨#[99, 114, 101, 97, 116, 101]⟩] (by decide) 9)
  obtain ⟨⟨e0, e1, e2, e3⟩, v, e4, hkk⟩ := tree_cells ht
  clear ht hkk hI hb
  generalize str8 (Ex.wordsF Ex.ws26 (Ex.parts t.kids)) = s1 at HC HF
  go_enter Try.func94, Try.ntmps94
  go_wp2_with fail
  refine (HC.out _ HS.out).mono ?_
  rintro e w1 ⟨rfl, b1⟩
  go_wp2
  go_ret
  exact ⟨ret_str HF.out, below_then (bl1 _ _) b1⟩
set_option maxRecDepth 100000 in
theorem con_c20 (t : Ex.T) (h : t.kind = 20) (w : World) (g o : Nat) (ht : TreeAt w g o t) (hc : Calls Try.prog 114 #[.pointer (some ⟨g, o, none⟩)] w (RetT w (str8 t.form))) : Calls Try.prog 94 #[.pointer (some ⟨g, o, none⟩)] w (RetT w (str8 t.form)) := by
  unfold RetT at hc ⊢
  have HC := Lib.hid hc
  obtain ⟨⟨e0, e1, e2, e3⟩, v, e4, hkk⟩ := tree_cells ht
  clear ht hkk hc
  generalize str8 t.form = s1 at HC ⊢
  go_enter Try.func94, Try.ntmps94
  go_wp2_with fail
  refine HC.out.mono ?_
  rintro e w1 ⟨rfl, b1⟩
  go_wp2
  go_ret
  exact ⟨rfl, b1⟩
set_option maxRecDepth 100000 in
set_option maxHeartbeats 3200000 in
theorem form_c7 (t : Ex.T) (h : t.kind = 7) (hc : ∀ (w : World) (g o : Nat), TreeAt w g o t → Calls Try.prog 92 #[.pointer (some ⟨g, o, none⟩)] w (RetT w (str8 t.form))) : FormC t := by
  intro w g o ht
  unfold RetT
  have HC := Lib.hid (hc w g o ht)
  unfold RetT at HC
  obtain ⟨⟨e0, e1, e2, e3⟩, v, e4, hkk⟩ := tree_cells ht
  clear ht hkk hc
  generalize str8 t.form = s1 at HC ⊢
  go_enter Try.func73, Try.ntmps73
  go_wp2_with fail
  refine HC.out.mono ?_
  rintro e w1 ⟨rfl, b1⟩
  go_wp2
  go_ret
  exact ⟨rfl, b1⟩
set_option maxRecDepth 100000 in
set_option maxHeartbeats 3200000 in
theorem form_c27 (t : Ex.T) (h : t.kind = 27) (hc : ∀ (w : World) (g o : Nat), TreeAt w g o t → Calls Try.prog 92 #[.pointer (some ⟨g, o, none⟩)] w (RetT w (str8 t.form))) : FormC t := by
  intro w g o ht
  unfold RetT
  have HC := Lib.hid (hc w g o ht)
  unfold RetT at HC
  obtain ⟨⟨e0, e1, e2, e3⟩, v, e4, hkk⟩ := tree_cells ht
  clear ht hkk hc
  generalize str8 t.form = s1 at HC ⊢
  go_enter Try.func73, Try.ntmps73
  go_wp2_with fail
  refine HC.out.mono ?_
  rintro e w1 ⟨rfl, b1⟩
  go_wp2
  go_ret
  exact ⟨rfl, b1⟩
set_option maxRecDepth 100000 in
set_option maxHeartbeats 3200000 in
theorem form_c8 (t : Ex.T) (h : t.kind = 8) (hc : ∀ (w : World) (g o : Nat), TreeAt w g o t → Calls Try.prog 92 #[.pointer (some ⟨g, o, none⟩)] w (RetT w (str8 t.form))) : FormC t := by
  intro w g o ht
  unfold RetT
  have HC := Lib.hid (hc w g o ht)
  unfold RetT at HC
  obtain ⟨⟨e0, e1, e2, e3⟩, v, e4, hkk⟩ := tree_cells ht
  clear ht hkk hc
  generalize str8 t.form = s1 at HC ⊢
  go_enter Try.func73, Try.ntmps73
  go_wp2_with fail
  refine HC.out.mono ?_
  rintro e w1 ⟨rfl, b1⟩
  go_wp2
  go_ret
  exact ⟨rfl, b1⟩
set_option maxRecDepth 100000 in
set_option maxHeartbeats 3200000 in
theorem form_c9 (t : Ex.T) (h : t.kind = 9) (hc : ∀ (w : World) (g o : Nat), TreeAt w g o t → Calls Try.prog 92 #[.pointer (some ⟨g, o, none⟩)] w (RetT w (str8 t.form))) : FormC t := by
  intro w g o ht
  unfold RetT
  have HC := Lib.hid (hc w g o ht)
  unfold RetT at HC
  obtain ⟨⟨e0, e1, e2, e3⟩, v, e4, hkk⟩ := tree_cells ht
  clear ht hkk hc
  generalize str8 t.form = s1 at HC ⊢
  go_enter Try.func73, Try.ntmps73
  go_wp2_with fail
  refine HC.out.mono ?_
  rintro e w1 ⟨rfl, b1⟩
  go_wp2
  go_ret
  exact ⟨rfl, b1⟩
set_option maxRecDepth 100000 in
set_option maxHeartbeats 3200000 in
theorem form_c10 (t : Ex.T) (h : t.kind = 10) (hc : ∀ (w : World) (g o : Nat), TreeAt w g o t → Calls Try.prog 93 #[.pointer (some ⟨g, o, none⟩)] w (RetT w (str8 t.form))) : FormC t := by
  intro w g o ht
  unfold RetT
  have HC := Lib.hid (hc w g o ht)
  unfold RetT at HC
  obtain ⟨⟨e0, e1, e2, e3⟩, v, e4, hkk⟩ := tree_cells ht
  clear ht hkk hc
  generalize str8 t.form = s1 at HC ⊢
  go_enter Try.func73, Try.ntmps73
  go_wp2_with fail
  refine HC.out.mono ?_
  rintro e w1 ⟨rfl, b1⟩
  go_wp2
  go_ret
  exact ⟨rfl, b1⟩
set_option maxRecDepth 100000 in
set_option maxHeartbeats 3200000 in
theorem form_c11 (t : Ex.T) (h : t.kind = 11) (hc : ∀ (w : World) (g o : Nat), TreeAt w g o t → Calls Try.prog 93 #[.pointer (some ⟨g, o, none⟩)] w (RetT w (str8 t.form))) : FormC t := by
  intro w g o ht
  unfold RetT
  have HC := Lib.hid (hc w g o ht)
  unfold RetT at HC
  obtain ⟨⟨e0, e1, e2, e3⟩, v, e4, hkk⟩ := tree_cells ht
  clear ht hkk hc
  generalize str8 t.form = s1 at HC ⊢
  go_enter Try.func73, Try.ntmps73
  go_wp2_with fail
  refine HC.out.mono ?_
  rintro e w1 ⟨rfl, b1⟩
  go_wp2
  go_ret
  exact ⟨rfl, b1⟩
set_option maxRecDepth 100000 in
set_option maxHeartbeats 3200000 in
theorem form_c12 (t : Ex.T) (h : t.kind = 12) (hc : ∀ (w : World) (g o : Nat), TreeAt w g o t → Calls Try.prog 93 #[.pointer (some ⟨g, o, none⟩)] w (RetT w (str8 t.form))) : FormC t := by
  intro w g o ht
  unfold RetT
  have HC := Lib.hid (hc w g o ht)
  unfold RetT at HC
  obtain ⟨⟨e0, e1, e2, e3⟩, v, e4, hkk⟩ := tree_cells ht
  clear ht hkk hc
  generalize str8 t.form = s1 at HC ⊢
  go_enter Try.func73, Try.ntmps73
  go_wp2_with fail
  refine HC.out.mono ?_
  rintro e w1 ⟨rfl, b1⟩
  go_wp2
  go_ret
  exact ⟨rfl, b1⟩
set_option maxRecDepth 100000 in
set_option maxHeartbeats 3200000 in
theorem form_c13 (t : Ex.T) (h : t.kind = 13) (hc : ∀ (w : World) (g o : Nat), TreeAt w g o t → Calls Try.prog 93 #[.pointer (some ⟨g, o, none⟩)] w (RetT w (str8 t.form))) : FormC t := by
  intro w g o ht
  unfold RetT
  have HC := Lib.hid (hc w g o ht)
  unfold RetT at HC
  obtain ⟨⟨e0, e1, e2, e3⟩, v, e4, hkk⟩ := tree_cells ht
  clear ht hkk hc
  generalize str8 t.form = s1 at HC ⊢
  go_enter Try.func73, Try.ntmps73
  go_wp2_with fail
  refine HC.out.mono ?_
  rintro e w1 ⟨rfl, b1⟩
  go_wp2
  go_ret
  exact ⟨rfl, b1⟩
set_option maxRecDepth 100000 in
set_option maxHeartbeats 3200000 in
theorem form_c15 (t : Ex.T) (h : t.kind = 15) (hc : ∀ (w : World) (g o : Nat), TreeAt w g o t → Calls Try.prog 94 #[.pointer (some ⟨g, o, none⟩)] w (RetT w (str8 t.form))) : FormC t := by
  intro w g o ht
  unfold RetT
  have HC := Lib.hid (hc w g o ht)
  unfold RetT at HC
  obtain ⟨⟨e0, e1, e2, e3⟩, v, e4, hkk⟩ := tree_cells ht
  clear ht hkk hc
  generalize str8 t.form = s1 at HC ⊢
  go_enter Try.func73, Try.ntmps73
  go_wp2_with fail
  refine HC.out.mono ?_
  rintro e w1 ⟨rfl, b1⟩
  go_wp2
  go_ret
  exact ⟨rfl, b1⟩
set_option maxRecDepth 100000 in
set_option maxHeartbeats 3200000 in
theorem form_c16 (t : Ex.T) (h : t.kind = 16) (hc : ∀ (w : World) (g o : Nat), TreeAt w g o t → Calls Try.prog 94 #[.pointer (some ⟨g, o, none⟩)] w (RetT w (str8 t.form))) : FormC t := by
  intro w g o ht
  unfold RetT
  have HC := Lib.hid (hc w g o ht)
  unfold RetT at HC
  obtain ⟨⟨e0, e1, e2, e3⟩, v, e4, hkk⟩ := tree_cells ht
  clear ht hkk hc
  generalize str8 t.form = s1 at HC ⊢
  go_enter Try.func73, Try.ntmps73
  go_wp2_with fail
  refine HC.out.mono ?_
  rintro e w1 ⟨rfl, b1⟩
  go_wp2
  go_ret
  exact ⟨rfl, b1⟩
set_option maxRecDepth 100000 in
set_option maxHeartbeats 3200000 in
theorem form_c17 (t : Ex.T) (h : t.kind = 17) (hc : ∀ (w : World) (g o : Nat), TreeAt w g o t → Calls Try.prog 94 #[.pointer (some ⟨g, o, none⟩)] w (RetT w (str8 t.form))) : FormC t := by
  intro w g o ht
  unfold RetT
  have HC := Lib.hid (hc w g o ht)
  unfold RetT at HC
  obtain ⟨⟨e0, e1, e2, e3⟩, v, e4, hkk⟩ := tree_cells ht
  clear ht hkk hc
  generalize str8 t.form = s1 at HC ⊢
  go_enter Try.func73, Try.ntmps73
  go_wp2_with fail
  refine HC.out.mono ?_
  rintro e w1 ⟨rfl, b1⟩
  go_wp2
  go_ret
  exact ⟨rfl, b1⟩
set_option maxRecDepth 100000 in
set_option maxHeartbeats 3200000 in
theorem form_c18 (t : Ex.T) (h : t.kind = 18) (hc : ∀ (w : World) (g o : Nat), TreeAt w g o t → Calls Try.prog 94 #[.pointer (some ⟨g, o, none⟩)] w (RetT w (str8 t.form))) : FormC t := by
  intro w g o ht
  unfold RetT
  have HC := Lib.hid (hc w g o ht)
  unfold RetT at HC
  obtain ⟨⟨e0, e1, e2, e3⟩, v, e4, hkk⟩ := tree_cells ht
  clear ht hkk hc
  generalize str8 t.form = s1 at HC ⊢
  go_enter Try.func73, Try.ntmps73
  go_wp2_with fail
  refine HC.out.mono ?_
  rintro e w1 ⟨rfl, b1⟩
  go_wp2
  go_ret
  exact ⟨rfl, b1⟩
set_option maxRecDepth 100000 in
set_option maxHeartbeats 3200000 in
theorem form_c19 (t : Ex.T) (h : t.kind = 19) (hc : ∀ (w : World) (g o : Nat), TreeAt w g o t → Calls Try.prog 94 #[.pointer (some ⟨g, o, none⟩)] w (RetT w (str8 t.form))) : FormC t := by
  intro w g o ht
  unfold RetT
  have HC := Lib.hid (hc w g o ht)
  unfold RetT at HC
  obtain ⟨⟨e0, e1, e2, e3⟩, v, e4, hkk⟩ := tree_cells ht
  clear ht hkk hc
  generalize str8 t.form = s1 at HC ⊢
  go_enter Try.func73, Try.ntmps73
  go_wp2_with fail
  refine HC.out.mono ?_
  rintro e w1 ⟨rfl, b1⟩
  go_wp2
  go_ret
  exact ⟨rfl, b1⟩
set_option maxRecDepth 100000 in
set_option maxHeartbeats 3200000 in
theorem form_c20 (t : Ex.T) (h : t.kind = 20) (hc : ∀ (w : World) (g o : Nat), TreeAt w g o t → Calls Try.prog 94 #[.pointer (some ⟨g, o, none⟩)] w (RetT w (str8 t.form))) : FormC t := by
  intro w g o ht
  unfold RetT
  have HC := Lib.hid (hc w g o ht)
  unfold RetT at HC
  obtain ⟨⟨e0, e1, e2, e3⟩, v, e4, hkk⟩ := tree_cells ht
  clear ht hkk hc
  generalize str8 t.form = s1 at HC ⊢
  go_enter Try.func73, Try.ntmps73
  go_wp2_with fail
  refine HC.out.mono ?_
  rintro e w1 ⟨rfl, b1⟩
  go_wp2
  go_ret
  exact ⟨rfl, b1⟩
set_option maxRecDepth 100000 in
set_option maxHeartbeats 3200000 in
theorem form_c21 (t : Ex.T) (h : t.kind = 21) (hc : ∀ (w : World) (g o : Nat), TreeAt w g o t → Calls Try.prog 94 #[.pointer (some ⟨g, o, none⟩)] w (RetT w (str8 t.form))) : FormC t := by
  intro w g o ht
  unfold RetT
  have HC := Lib.hid (hc w g o ht)
  unfold RetT at HC
  obtain ⟨⟨e0, e1, e2, e3⟩, v, e4, hkk⟩ := tree_cells ht
  clear ht hkk hc
  generalize str8 t.form = s1 at HC ⊢
  go_enter Try.func73, Try.ntmps73
  go_wp2_with fail
  refine HC.out.mono ?_
  rintro e w1 ⟨rfl, b1⟩
  go_wp2
  go_ret
  exact ⟨rfl, b1⟩
set_option maxRecDepth 100000 in
set_option maxHeartbeats 3200000 in
theorem form_c22 (t : Ex.T) (h : t.kind = 22) (hc : ∀ (w : World) (g o : Nat), TreeAt w g o t → Calls Try.prog 94 #[.pointer (some ⟨g, o, none⟩)] w (RetT w (str8 t.form))) : FormC t := by
  intro w g o ht
  unfold RetT
  have HC := Lib.hid (hc w g o ht)
  unfold RetT at HC
  obtain ⟨⟨e0, e1, e2, e3⟩, v, e4, hkk⟩ := tree_cells ht
  clear ht hkk hc
  generalize str8 t.form = s1 at HC ⊢
  go_enter Try.func73, Try.ntmps73
  go_wp2_with fail
  refine HC.out.mono ?_
  rintro e w1 ⟨rfl, b1⟩
  go_wp2
  go_ret
  exact ⟨rfl, b1⟩
set_option maxRecDepth 100000 in
set_option maxHeartbeats 3200000 in
theorem form_c24 (t : Ex.T) (h : t.kind = 24) (hc : ∀ (w : World) (g o : Nat), TreeAt w g o t → Calls Try.prog 94 #[.pointer (some ⟨g, o, none⟩)] w (RetT w (str8 t.form))) : FormC t := by
  intro w g o ht
  unfold RetT
  have HC := Lib.hid (hc w g o ht)
  unfold RetT at HC
  obtain ⟨⟨e0, e1, e2, e3⟩, v, e4, hkk⟩ := tree_cells ht
  clear ht hkk hc
  generalize str8 t.form = s1 at HC ⊢
  go_enter Try.func73, Try.ntmps73
  go_wp2_with fail
  refine HC.out.mono ?_
  rintro e w1 ⟨rfl, b1⟩
  go_wp2
  go_ret
  exact ⟨rfl, b1⟩
set_option maxRecDepth 100000 in
set_option maxHeartbeats 3200000 in
theorem form_c26 (t : Ex.T) (h : t.kind = 26) (hc : ∀ (w : World) (g o : Nat), TreeAt w g o t → Calls Try.prog 94 #[.pointer (some ⟨g, o, none⟩)] w (RetT w (str8 t.form))) : FormC t := by
  intro w g o ht
  unfold RetT
  have HC := Lib.hid (hc w g o ht)
  unfold RetT at HC
  obtain ⟨⟨e0, e1, e2, e3⟩, v, e4, hkk⟩ := tree_cells ht
  clear ht hkk hc
  generalize str8 t.form = s1 at HC ⊢
  go_enter Try.func73, Try.ntmps73
  go_wp2_with fail
  refine HC.out.mono ?_
  rintro e w1 ⟨rfl, b1⟩
  go_wp2
  go_ret
  exact ⟨rfl, b1⟩
/-- What the program needs of a valid tree's node. -/
structure Nodi (t : Ex.T) : Prop where
  kids : ∀ x ∈ t.kids, FitC x ∧ FormC x ∧ x.form.length ≤ 600000
  form : t.form.length ≤ 600000
  text : (t.text.size : Int) ≤ 128
  few : t.kids.length ≤ 24
  sums : Ex.wsum8 (Ex.parts t.kids) ≤ 1000000
theorem formi_any (t : Ex.T) (d : Int) (hv : t.valid d = true) (hn : Nodi t) (hx7 : ∀ x ∈ t.kids, x.kind = 7 → x.lev = 12) : FormC t := by
  obtain ⟨⟨k1, k2⟩, ⟨z1, z2⟩, hw, hnum, hkv⟩ := valid_parts hv
  have hI : ∀ x ∈ t.kids, FitC x := fun x hx => (hn.kids x hx).1
  have hJ : ∀ k (h : k < t.kids.length), FitC t.kids[k] := fun k h => hI _ (List.getElem_mem h)
  have hcc : t.kind = 1 ∨ t.kind = 2 ∨ t.kind = 3 ∨ t.kind = 4 ∨ t.kind = 5 ∨ t.kind = 6 ∨ t.kind = 7 ∨ t.kind = 8 ∨ t.kind = 9 ∨ t.kind = 10 ∨ t.kind = 11 ∨ t.kind = 12 ∨ t.kind = 13 ∨ t.kind = 14 ∨ t.kind = 15 ∨ t.kind = 16 ∨ t.kind = 17 ∨ t.kind = 18 ∨ t.kind = 19 ∨ t.kind = 20 ∨ t.kind = 21 ∨ t.kind = 22 ∨ t.kind = 23 ∨ t.kind = 24 ∨ t.kind = 25 ∨ t.kind = 26 ∨ t.kind = 27 ∨ t.kind = 28 ∨ t.kind = 29 := by omega
  rcases hcc with h | h | h | h | h | h | h | h | h | h | h | h | h | h | h | h | h | h | h | h | h | h | h | h | h | h | h | h | h
  · rw [h] at z1 z2 hw hnum
    exact form_c1 t h hnum.1 hnum.2
  · rw [h] at z1 z2 hw hnum
    exact form_c2 t h hn.text
  · rw [h] at z1 z2 hw hnum
    exact form_c3 t h hn.text
  · rw [h] at z1 z2 hw hnum
    exact form_c4 t h hn.text
  · rw [h] at z1 z2 hw hnum
    exact form_c5 t h hn.text
  · rw [h] at z1 z2 hw hnum
    exact form_c6 t h hI hn.few (by have := Ex.seps_len (Ex.parts t.kids) [44, 32] (by decide); have := hn.sums; omega)
  · rw [h] at z1 z2 hw hnum
    have z3 : (1 : Int) ≤ t.kids.length := z1
    have z4 : (t.kids.length : Int) ≤ 1 := z2
    obtain ⟨x, hks⟩ := len1 (l := t.kids) (by omega)
    obtain ⟨Ax, Nx, Fx⟩ := hn.kids x (by rw [hks]; simp)
    by_cases h7 : x.kind = 7
    · exact form_c7 t h (fun w g o ht => ope_7a t h x hks Ax (fit_size Fx 13) (by rw [h7]; rfl) hn.text (Lib.hid (by rw [Ex.form_7 t h, hks]; show _ = str8 (t.text.data.toList ++ (if x.kind = 7 then Ex.brk true x.form else x.fit 12)); rw [if_pos h7, show x.fit 13 = Ex.brk true x.form by unfold Ex.T.fit; rw [hx7 x (by rw [hks]; simp) h7]; rfl]; apply ByteArray.ext; simp [str8])) w g o ht)
    · exact form_c7 t h (fun w g o ht => ope_7b t h x hks Ax (fit_size Fx 12) (beq_eq_false_iff_ne.2 h7) hn.text (Lib.hid (by rw [Ex.form_7 t h, hks]; show _ = str8 (t.text.data.toList ++ (if x.kind = 7 then Ex.brk true x.form else x.fit 12)); rw [if_neg h7]; apply ByteArray.ext; simp [str8])) w g o ht)
  · rw [h] at z1 z2 hw hnum
    have z3 : (2 : Int) ≤ t.kids.length := z1
    have z4 : (t.kids.length : Int) ≤ 2 := z2
    obtain ⟨x, y, hks⟩ := len2 (l := t.kids) (by omega)
    obtain ⟨Ax, Nx, Fx⟩ := hn.kids x (by rw [hks]; simp)
    obtain ⟨Ay, Ny, Fy⟩ := hn.kids y (by rw [hks]; simp)
    have hl0 : 0 < Ex.lvl t.text.data.toList := of_decide_eq_true hw
    have hl1 := lvl_le t.text.data.toList
    exact form_c8 t h (fun w g o ht => ope_8 t h _ _ _ rfl hl0 hl1 rfl rfl x y hks Ax (fit_size Fx _) Ay (fit_size Fy _) hn.text (Lib.hid (by rw [Ex.form_8 t h, hks]; show _ = str8 (x.fit (Ex.lowL (Ex.lvl t.text.data.toList)) ++ [32] ++ t.text.data.toList ++ [32] ++ y.fit (Ex.lowR (Ex.lvl t.text.data.toList))); apply ByteArray.ext; simp [str8])) w g o ht)
  · rw [h] at z1 z2 hw hnum
    have z3 : (2 : Int) ≤ t.kids.length := z1
    have z4 : (t.kids.length : Int) ≤ 3 := z2
    by_cases h2 : t.kids.length = 2
    · obtain ⟨x, y, hks⟩ := len2 (l := t.kids) (by omega)
      obtain ⟨Ax, Nx, Fx⟩ := hn.kids x (by rw [hks]; simp)
      obtain ⟨Ay, Ny, Fy⟩ := hn.kids y (by rw [hks]; simp)
      exact form_c9 t h (fun w g o ht => ope_9a t h x y hks Ax (fit_size Fx 4) Ay (fit_size Fy 5) hn.text (Lib.hid (by rw [Ex.form_9 t h, hks]; show _ = str8 (x.fit 4 ++ [32, 116, 111, 32] ++ y.fit 5 ++ []); apply ByteArray.ext; simp [str8])) w g o ht)
    · obtain ⟨x, y, z, hks⟩ := len3 (l := t.kids) (by omega)
      obtain ⟨Ax, Nx, Fx⟩ := hn.kids x (by rw [hks]; simp)
      obtain ⟨Ay, Ny, Fy⟩ := hn.kids y (by rw [hks]; simp)
      obtain ⟨Az, Nz, Fz⟩ := hn.kids z (by rw [hks]; simp)
      exact form_c9 t h (fun w g o ht => ope_9b t h x y z hks Ax (fit_size Fx 4) Ay (fit_size Fy 5) Az (fit_size Fz 5) hn.text (Lib.hid (by rw [Ex.form_9 t h, hks]; show _ = str8 (x.fit 4 ++ [32, 116, 111, 32] ++ y.fit 5 ++ ([32, 98, 121, 32] ++ z.fit 5)); apply ByteArray.ext; simp [str8])) w g o ht)
  · rw [h] at z1 z2 hw hnum
    have z3 : (1 : Int) ≤ t.kids.length := z1
    have z4 : (t.kids.length : Int) ≤ 9 := z2
    obtain ⟨x, r, hks⟩ := len_pos (l := t.kids) (by omega)
    obtain ⟨Ax, Nx, Fx⟩ := hn.kids x (by rw [hks]; simp)
    have hs := hn.sums
    have hf := z4
    rw [hks] at hs hf
    exact form_c10 t h (fun w g o ht => suf_10 t h x r hks Ax (fit_size Fx 13) (fun y hy => hI y (by rw [hks]; exact List.mem_cons_of_mem _ hy)) (by simp at hf; omega) (by have := Ex.seps_len (Ex.parts r) [44, 32] (by decide); rw [Ex.parts, Ex.wsum8] at hs; omega) w g o ht)
  · rw [h] at z1 z2 hw hnum
    have z3 : (2 : Int) ≤ t.kids.length := z1
    have z4 : (t.kids.length : Int) ≤ 2 := z2
    obtain ⟨x, y, hks⟩ := len2 (l := t.kids) (by omega)
    obtain ⟨Ax, Nx, Fx⟩ := hn.kids x (by rw [hks]; simp)
    obtain ⟨Ay, Ny, Fy⟩ := hn.kids y (by rw [hks]; simp)
    exact form_c11 t h (fun w g o ht => suf_11 t h x y hks Ax (fit_size Fx 13) Ay (fit_size Fy 0) hn.text (Lib.hid (by rw [Ex.form_11 t h, hks]; show _ = str8 (x.fit 13 ++ [91] ++ y.fit 0 ++ [93]); apply ByteArray.ext; simp [str8])) w g o ht)
  · rw [h] at z1 z2 hw hnum
    have z3 : (3 : Int) ≤ t.kids.length := z1
    have z4 : (t.kids.length : Int) ≤ 3 := z2
    obtain ⟨x, y, z, hks⟩ := len3 (l := t.kids) (by omega)
    obtain ⟨Ax, Nx, Fx⟩ := hn.kids x (by rw [hks]; simp)
    obtain ⟨Ay, Ny, Fy⟩ := hn.kids y (by rw [hks]; simp)
    obtain ⟨Az, Nz, Fz⟩ := hn.kids z (by rw [hks]; simp)
    exact form_c12 t h (fun w g o ht => suf_12 t h x y z hks Ax (fit_size Fx 13) Ay (fit_size Fy 1) Az (fit_size Fz 0) hn.text (Lib.hid (by rw [Ex.form_12 t h, hks]; show _ = str8 (x.fit 13 ++ [91] ++ y.fit 1 ++ [32, 58, 32] ++ z.fit 0 ++ [93]); apply ByteArray.ext; simp [str8])) w g o ht)
  · rw [h] at z1 z2 hw hnum
    have z3 : (1 : Int) ≤ t.kids.length := z1
    have z4 : (t.kids.length : Int) ≤ 1 := z2
    obtain ⟨x, hks⟩ := len1 (l := t.kids) (by omega)
    obtain ⟨Ax, Nx, Fx⟩ := hn.kids x (by rw [hks]; simp)
    exact form_c13 t h (fun w g o ht => suf_13 t h x hks Ax (fit_size Fx 13) hn.text (Lib.hid (by rw [Ex.form_13 t h, hks]; show _ = str8 (x.fit 13 ++ [46] ++ t.text.data.toList); apply ByteArray.ext; simp [str8])) w g o ht)
  · rw [h] at z1 z2 hw hnum
    exact form_c14 t h hI hn.few (by have := Ex.seps_len (Ex.parts t.kids) [59, 32] (by decide); have := hn.sums; omega)
  · rw [h] at z1 z2 hw hnum
    have z3 : (t.kids.length : Int) ≤ 3 := z2
    have hb : (Ex.wordsF Ex.ws15 (Ex.parts t.kids)).length ≤ 4194304 := by have := Ex.words_len Ex.ws15 (Ex.parts t.kids) (by decide); have := hn.sums; omega
    exact form_c15 t h (fun w g o ht => con_c15 t h hJ hn.few (by omega) hb w g o ht)
  · rw [h] at z1 z2 hw hnum
    have z3 : (t.kids.length : Int) ≤ 2 := z2
    have hb : (Ex.wordsF Ex.ws16 (Ex.parts t.kids)).length ≤ 4194304 := by have := Ex.words_len Ex.ws16 (Ex.parts t.kids) (by decide); have := hn.sums; omega
    exact form_c16 t h (fun w g o ht => con_c16 t h hJ hn.few (by omega) hb w g o ht)
  · rw [h] at z1 z2 hw hnum
    have z3 : (t.kids.length : Int) ≤ 2 := z2
    have hb : (Ex.wordsF Ex.ws17 (Ex.parts t.kids)).length ≤ 4194304 := by have := Ex.words_len Ex.ws17 (Ex.parts t.kids) (by decide); have := hn.sums; omega
    exact form_c17 t h (fun w g o ht => con_c17 t h hJ hn.few (by omega) hb w g o ht)
  · rw [h] at z1 z2 hw hnum
    have z3 : (t.kids.length : Int) ≤ 2 := z2
    have hb : (Ex.wordsF Ex.ws18 (Ex.parts t.kids)).length ≤ 4194304 := by have := Ex.words_len Ex.ws18 (Ex.parts t.kids) (by decide); have := hn.sums; omega
    exact form_c18 t h (fun w g o ht => con_c18 t h hJ hn.few (by omega) hb w g o ht)
  · rw [h] at z1 z2 hw hnum
    have z3 : (t.kids.length : Int) ≤ 1 := z2
    have hb : (Ex.wordsF Ex.ws19 (Ex.parts t.kids)).length ≤ 4194304 := by have := Ex.words_len Ex.ws19 (Ex.parts t.kids) (by decide); have := hn.sums; omega
    exact form_c19 t h (fun w g o ht => con_c19 t h hJ hn.few (by omega) hb w g o ht)
  · rw [h] at z1 z2 hw hnum
    have z3 : (1 : Int) ≤ t.kids.length := z1
    obtain ⟨x, r, hks⟩ := len_pos (l := t.kids) (by omega)
    have hs := hn.sums
    rw [hks] at hs
    exact form_c20 t h (fun w g o ht => con_c20 t h w g o ht (impl_case t h x r hks hnum.1 hnum.2.1 hnum.2.2.1 hJ hn.few (fun k hk => fit_size (hn.kids _ (List.getElem_mem hk)).2.2 1) (by have := Ex.brs_join_len (Ex.parts (x :: r)); rw [show (Ex.parts (x :: r)).drop 1 = Ex.parts r from rfl] at this; omega) w g o ht))
  · rw [h] at z1 z2 hw hnum
    have z3 : (t.kids.length : Int) ≤ 1 := z2
    have hb : (Ex.wordsF Ex.ws21 (Ex.parts t.kids)).length ≤ 4194304 := by have := Ex.words_len Ex.ws21 (Ex.parts t.kids) (by decide); have := hn.sums; omega
    exact form_c21 t h (fun w g o ht => con_c21 t h hJ hn.few (by omega) hb w g o ht)
  · rw [h] at z1 z2 hw hnum
    have z3 : (t.kids.length : Int) ≤ 2 := z2
    have hb : (Ex.wordsF Ex.ws22 (Ex.parts t.kids)).length ≤ 4194304 := by have := Ex.words_len Ex.ws22 (Ex.parts t.kids) (by decide); have := hn.sums; omega
    exact form_c22 t h (fun w g o ht => con_c22 t h hJ hn.few (by omega) hb w g o ht)
  · rw [h] at z1 z2 hw hnum
    exact form_c23 t h
  · rw [h] at z1 z2 hw hnum
    have z3 : (t.kids.length : Int) ≤ 1 := z2
    have hb : (Ex.wordsF Ex.ws24 (Ex.parts t.kids)).length ≤ 4194304 := by have := Ex.words_len Ex.ws24 (Ex.parts t.kids) (by decide); have := hn.sums; omega
    exact form_c24 t h (fun w g o ht => con_c24 t h hJ hn.few (by omega) hb w g o ht)
  · rw [h] at z1 z2 hw hnum
    exact form_c25 t h
  · rw [h] at z1 z2 hw hnum
    have z3 : (t.kids.length : Int) ≤ 1 := z2
    have hb : (Ex.wordsF Ex.ws26 (Ex.parts t.kids)).length ≤ 4194304 := by have := Ex.words_len Ex.ws26 (Ex.parts t.kids) (by decide); have := hn.sums; omega
    exact form_c26 t h (fun w g o ht => con_c26 t h hJ hn.few (by omega) hb w g o ht)
  · rw [h] at z1 z2 hw hnum
    have z3 : (1 : Int) ≤ t.kids.length := z1
    have z4 : (t.kids.length : Int) ≤ 1 := z2
    obtain ⟨x, hks⟩ := len1 (l := t.kids) (by omega)
    obtain ⟨Ax, Nx, Fx⟩ := hn.kids x (by rw [hks]; simp)
    exact form_c27 t h (fun w g o ht => ope_27 t h x hks Ax (fit_size Fx 12) hn.text (Lib.hid (by rw [Ex.form_27 t h, hks]; show _ = str8 ([110, 111, 116, 32] ++ x.fit 12); apply ByteArray.ext; simp [str8])) w g o ht)
  · rw [h] at z1 z2 hw hnum
    exact form_c28 t h hn.text
  · rw [h] at z1 z2 hw hnum
    exact form_c29 t h hI hn.few (by have := Ex.seps_len (Ex.parts t.kids) [44, 32] (by decide); have := hn.sums; omega)
theorem impl_form : ∀ (N : Nat) (t : Ex.T), t.count ≤ N → t.count ≤ 600 → ∀ d, t.valid d = true → FormC t ∧ FitC t := by
  intro N
  induction N with
  | zero => intro t h; have := Ex.count_pos t; omega
  | succ N ih =>
    intro t hN h6 d hv
    obtain ⟨⟨k1, k2⟩, ⟨_, hz⟩, hw, _, hkv⟩ := valid_parts hv
    have hc := count_eq t
    have hf := form_short _ t (Nat.le_refl _) d hv
    have h24 := kidsOf_le t.kind
    have hk : ∀ x ∈ t.kids, x.count < t.count ∧ x.form.length ≤ 1000 * x.count := fun x hx => ⟨kids_count hx, form_short _ x (Nat.le_refl _) (d + 1) (hkv x hx)⟩
    have hn : Nodi t := by
      refine ⟨fun x hx => ?_, by omega, by have := words_short hw; omega, by omega, ?_⟩
      · obtain ⟨c1, c2⟩ := hk x hx
        obtain ⟨a, b⟩ := ih x (by omega) (by omega) (d + 1) (hkv x hx)
        exact ⟨b, a, by omega⟩
      · have := sums_le t.kids (fun x hx => (hk x hx).2)
        omega
    have hN2 := formi_any t d hv hn (fun x hx e => by unfold Ex.T.lev Ex.levK; rw [e]; rfl)
    exact ⟨hN2, impl_fit t hN2 k1 k2 (by have := hn.form; omega)⟩
theorem impl_source (s : ByteArray) (w : World) (hs : (s.size : Int) ≤ 1048576) : Calls Try.prog 43 #[.string s] w fun e w' => e = .returned (.tuple #[.string (if s.size ≤ 6000 then s else ByteArray.empty), .bool (decide (s.size ≤ 6000))]) ∧ w = w' := by
  by_cases h : s.size ≤ 6000
  · rw [if_pos h, decide_eq_true h]
    have h2 : (s.size : Int) ≤ 6000 := by omega
    clear h
    go_enter Try.func43, Try.ntmps43
    go_wp2
    go_ret2
    exact ⟨rfl, rfl⟩
  · rw [if_neg h, decide_eq_false h]
    have h2 : (6000 : Int) < s.size := by omega
    clear h
    go_enter Try.func43, Try.ntmps43
    go_wp2
    go_ret2
    exact ⟨rfl, rfl⟩
set_option maxHeartbeats 1600000 in
theorem impl_print (t : Ex.T) (hb : t.bulk ≤ 1048576) (w : World) (v : Value) (hk : Kids w v t.kids) : Calls Try.prog 15 #[exV t v] w (RetP w (prS t) (prB t)) := by
  unfold RetP
  have HV := Lib.hid (fun W hW => impl_isvalid t hb W v (hk.later hW))
  have HE := Lib.hid (CellsE.new w t v 45)
  by_cases hv : (decide (t.count ≤ 600) && t.valid 1) = true
  · rw [hv] at HV
    have hv2 := hv
    rw [Bool.and_eq_true] at hv2
    have hc := of_decide_eq_true hv2.1
    have hbox := box_tree (w := w) (t := t) (v := v) hk
    have HN : Hid (∀ W, Below (w.alloc (.cells #[.int .i64 t.kind, .string t.text, .int .i64 t.num, .int .i64 t.line, v] 45)).heap.size (w.alloc (.cells #[.int .i64 t.kind, .string t.text, .int .i64 t.num, .int .i64 t.line, v] 45)) W → Calls Try.prog 44 #[.pointer (some ⟨w.heap.size, 0, none⟩), .int .i64 0] W fun e w' => e = .returned (.string (str8 (t.fit 0))) ∧ Below W.heap.size W w') := Lib.hid (fun W hW => (impl_form _ t (Nat.le_refl _) hc 1 hv2.2).2 0 W _ _ (hbox.later hW))
    have hl := form_short _ t (Nat.le_refl _) 1 hv2.2
    have hlv : ¬ t.lev < 0 := by
      unfold Ex.T.lev Ex.levK
      have hx : ∀ x, 0 ≤ Ex.lvl x := fun x => by
        unfold Ex.lvl
        cases hf : Ex.levels.find? (fun p => x == p.1) with
        | none => decide
        | some p =>
          have h10 : ∀ q ∈ Ex.levels, 0 ≤ q.2 := by decide
          exact h10 _ (List.mem_of_find?_eq_some hf)
      have := hx t.text.data.toList
      repeat' split
      all_goals omega
    have hft : t.fit 0 = t.form := brk_no (decide_eq_false hlv) _
    rw [hft] at HN
    have hs : ((str8 t.form).size : Int) ≤ 1048576 := by rw [str8_size]; omega
    have HA := Lib.hid (fun W => impl_source (str8 t.form) W hs)
    have e1 : prB t = decide ((str8 t.form).size ≤ 6000) := by unfold prB; rw [hv, Bool.true_and, str8_size]
    have e2 : prS t = if (str8 t.form).size ≤ 6000 then str8 t.form else ByteArray.empty := by
      unfold prS; rw [e1]
      by_cases h6 : (str8 t.form).size ≤ 6000
      · rw [if_pos h6, if_pos (decide_eq_true h6)]
      · rw [if_neg h6, if_neg (by rw [decide_eq_false h6]; decide)]
    rw [e1, e2]
    clear e1 e2 hv hv2 hk hb hl hc hbox hft hlv
    generalize (if (str8 t.form).size ≤ 6000 then str8 t.form else ByteArray.empty) = y at HA ⊢
    generalize decide ((str8 t.form).size ≤ 6000) = b at HA ⊢
    generalize str8 t.form = s at HN HA hs
    go_enter Try.func15, Try.ntmps15
    go_wp2_with fail
    refine (HV.out _ (bl1 _ _)).mono ?_
    rintro e w1 ⟨rfl, b1⟩
    have HN1 := Lib.hid (HN.out w1 b1)
    have B1 := Lib.hid (below_then (bl1 _ _) b1)
    clear b1 HN
    go_wp2_with fail
    refine HN1.out.mono ?_
    rintro e w2 ⟨rfl, b2⟩
    have B2 := Lib.hid (below_then B1.out b2)
    clear b2
    go_wp2_with fail
    refine (HA.out _).mono ?_
    rintro e w3 ⟨rfl, rfl⟩
    go_wp2
    go_ret2
    exact ⟨rfl, B2.out⟩
  · rw [Bool.not_eq_true] at hv
    have e1 : prB t = false := by unfold prB; rw [hv]; rfl
    have e2 : prS t = ByteArray.empty := by unfold prS; rw [if_neg (by rw [e1]; decide)]
    rw [e1, e2]
    rw [hv] at HV
    clear hk hb e1 e2 hv
    go_enter Try.func15, Try.ntmps15
    go_wp2_with fail
    refine (HV.out _ (bl1 _ _)).mono ?_
    rintro e w1 ⟨rfl, b1⟩
    have B1 := Lib.hid (below_then (bl1 _ _) b1)
    clear b1
    go_wp2
    go_ret2
    exact ⟨rfl, B1.out⟩
end Go.Proofs.Ytiiogpafgoeblaa
