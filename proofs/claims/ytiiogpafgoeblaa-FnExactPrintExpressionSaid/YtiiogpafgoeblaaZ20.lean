/- Joined texts: Y10. No conditions besides those that each states. -/
import Derived.Test.YtiiogpafgoeblaaZ19
/- The reference model's printer: leaves, lists, words. No conditions. -/
namespace Go.Proofs.Ytiiogpafgoeblaa
open Go.RowKit
set_option linter.unusedVariables false

theorem strs_new (W : World) (ws : List ByteArray) (hm : ws.length ≤ maxLen) (T : TypeId) : StrsAt (W.alloc (.cells (ws.map Value.string).toArray T)) (.slice (some ⟨W.heap.size, 0, none⟩) ws.length ws.length) ws := by
  refine .inr ⟨W.heap.size, 0, ws.length, rfl, Nat.le_refl _, fun j hj => ?_⟩
  rw [Nat.zero_add]
  have h := World.ownsRow_lit (base := 0) (e := T) (size := 1) W (ws.map Value.string).toArray ws.length (Nat.zero_le _) hm (by simp)
  rw [World.ownsRow.cellAt h j (by omega)]
  simp [hj]
theorem small7 {ws : List ByteArray} (h : ((ws.map ByteArray.size).all fun n => decide (n ≤ 7)) = true) : ∀ k (hk : k < ws.length), (ws[k].size : Int) ≤ 7 := fun k hk => by
  have h2 := List.all_eq_true.1 h ws[k].size (List.mem_map.2 ⟨ws[k], List.getElem_mem hk, rfl⟩)
  have := of_decide_eq_true h2
  omega
/-- The world behind the first variable. -/
abbrev boxed (w : World) (k : Int) (t : Ex.T) (v : Value) : World := w.alloc (.cells #[.int .i64 k, .string t.text, .int .i64 t.num, .int .i64 t.line, v] 45)
set_option maxRecDepth 100000 in
set_option maxHeartbeats 3200000 in
theorem node_1 (t : Ex.T) (h : t.kind = 1) (n0 : 0 ≤ t.num) (n1 : t.num ≤ 999999999999) : NodeC t := by
  intro w v hk
  unfold RetT
  rw [Ex.form_1 t h]
  have HC := Lib.hid (fun W => spec_fmt t.num W (by omega) (by omega))
  clear hk
  go_enter Try.func40, Try.ntmps40
  go_wp2_with (go_at_call 61; refine (HC.out _).mono ?_; rintro e w1 ⟨rfl, b1⟩)
  go_ret
  exact ⟨rfl, below_then (bl1 _ _) b1⟩
set_option maxRecDepth 100000 in
set_option maxHeartbeats 3200000 in
theorem node_2 (t : Ex.T) (h : t.kind = 2) (zt : (t.text.size : Int) ≤ 128) : NodeC t := by
  intro w v hk
  unfold RetT
  rw [Ex.form_2 t h]
  have HC := Lib.hid (fun W => spec_qt t.text W (by omega))
  unfold RetT at HC
  clear hk
  go_enter Try.func40, Try.ntmps40
  go_wp2_with (go_at_call 62; refine (HC.out _).mono ?_; rintro e w1 ⟨rfl, b1⟩)
  go_ret
  exact ⟨rfl, below_then (bl1 _ _) b1⟩
set_option maxRecDepth 100000 in
set_option maxHeartbeats 3200000 in
theorem node_3 (t : Ex.T) (h : t.kind = 3) (zt : (t.text.size : Int) ≤ 128) : NodeC t := by
  intro w v hk
  unfold RetT
  rw [Ex.form_3 t h]
  have HC := Lib.hid (fun W => spec_new t.text (by unfold maxLen; omega) W)
  unfold RetNew at HC
  have HQ := Lib.hid (fun W => spec_qc (Cs.newL t.text) (Cs.newH t.text) W)
  unfold RetT at HQ
  have HF : Hid (qcS (Cs.newL t.text) (Cs.newH t.text) = str8 (Ex.setF t.text)) := Lib.hid (by unfold Ex.setF; rw [str8_data])
  clear hk
  generalize Cs.newL t.text = a at HC HQ HF
  generalize Cs.newH t.text = b at HC HQ HF
  generalize Cs.good t.text = d at HC
  go_enter Try.func40, Try.ntmps40
  go_wp2_with (first | (go_at_call 63; refine (HC.out _).mono ?_; rintro e w1 ⟨rfl, b1⟩; have B1 := Lib.hid (below_then (bl1 _ _) b1); clear b1) | (go_at_call 64; refine (HQ.out _).mono ?_; rintro e w2 ⟨rfl, b2⟩; have B2 := Lib.hid (below_then (below_then B1.out (bl1 _ _)) b2); clear b2))
  go_ret
  exact ⟨ret_str HF.out, B2.out⟩

set_option maxRecDepth 100000 in
set_option maxHeartbeats 3200000 in
theorem node_4 (t : Ex.T) (h : t.kind = 4) (zt : (t.text.size : Int) ≤ 128) : NodeC t := by
  intro w v hk
  unfold RetT
  have HF : Hid (t.text = str8 t.form) := Lib.hid (by rw [Ex.form_4 t h]; apply ByteArray.ext; simp [str8])
  clear hk
  go_enter Try.func40, Try.ntmps40
  go_wp2
  go_ret
  exact ⟨ret_str HF.out, bl1 _ _⟩
set_option maxRecDepth 100000 in
set_option maxHeartbeats 3200000 in
theorem node_5 (t : Ex.T) (h : t.kind = 5) (zt : (t.text.size : Int) ≤ 128) : NodeC t := by
  intro w v hk
  unfold RetT
  have HF : Hid ((⟨#[38]⟩ : ByteArray) ++ t.text = str8 t.form) := Lib.hid (by rw [Ex.form_5 t h]; apply ByteArray.ext; simp [str8])
  clear hk
  go_enter Try.func40, Try.ntmps40
  go_wp2
  go_ret
  exact ⟨ret_str HF.out, bl1 _ _⟩
set_option maxRecDepth 100000 in
set_option maxHeartbeats 3200000 in
theorem node_23 (t : Ex.T) (h : t.kind = 23) (zt : (t.text.size : Int) ≤ 128) : NodeC t := by
  intro w v hk
  unfold RetT
  have HF : Hid ((⟨#[102, 97, 105, 108]⟩ : ByteArray) = str8 t.form) := Lib.hid (by rw [Ex.form_23 t h]; apply ByteArray.ext; simp [str8])
  clear hk
  go_enter Try.func40, Try.ntmps40
  go_wp2
  go_ret
  exact ⟨ret_str HF.out, bl1 _ _⟩
set_option maxRecDepth 100000 in
set_option maxHeartbeats 3200000 in
theorem node_25 (t : Ex.T) (h : t.kind = 25) (zt : (t.text.size : Int) ≤ 128) : NodeC t := by
  intro w v hk
  unfold RetT
  have HF : Hid ((⟨#[110, 101, 120, 116]⟩ : ByteArray) = str8 t.form) := Lib.hid (by rw [Ex.form_25 t h]; apply ByteArray.ext; simp [str8])
  clear hk
  go_enter Try.func40, Try.ntmps40
  go_wp2
  go_ret
  exact ⟨ret_str HF.out, bl1 _ _⟩
set_option maxRecDepth 100000 in
set_option maxHeartbeats 3200000 in
theorem node_28 (t : Ex.T) (h : t.kind = 28) (zt : (t.text.size : Int) ≤ 128) : NodeC t := by
  intro w v hk
  unfold RetT
  have HF : Hid ((⟨#[100, 101, 102, 101, 114, 32]⟩ : ByteArray) ++ t.text = str8 t.form) := Lib.hid (by rw [Ex.form_28 t h]; apply ByteArray.ext; simp [str8])
  clear hk
  go_enter Try.func40, Try.ntmps40
  go_wp2
  go_ret
  exact ⟨ret_str HF.out, bl1 _ _⟩
set_option maxRecDepth 100000 in
set_option maxHeartbeats 3200000 in
theorem node_6 (t : Ex.T) (h : t.kind = 6) (hI : ∀ x ∈ t.kids, AtC x) (hl : t.kids.length ≤ 24) (hb : (Ex.seps (Ex.parts t.kids) [44, 32]).length ≤ 1048576) : NodeC t := by
  intro w v hk
  unfold RetT
  have HL : Hid (∀ W, Below w.heap.size w W → Calls Try.prog 65 #[v, .string ⟨#[44, 32]⟩] W (RetT W (str8 (Ex.seps (Ex.parts t.kids) [44, 32])))) := Lib.hid (fun W hW => spec_list t.kids hI ⟨#[44, 32]⟩ (show 2 ≤ 16 by decide) hl hb W v (hk.later hW))
  unfold RetT at HL
  have hz : ((str8 (Ex.seps (Ex.parts t.kids) [44, 32])).size : Int) ≤ 1048576 := by rw [str8_size]; omega
  have HF : Hid ((⟨#[91]⟩ : ByteArray) ++ str8 (Ex.seps (Ex.parts t.kids) [44, 32]) ++ (⟨#[93]⟩ : ByteArray) = str8 t.form) := Lib.hid (by rw [Ex.form_6 t h]; apply ByteArray.ext; simp [str8])
  obtain ⟨a, c, rfl⟩ := kids_len hk
  clear hk hI hb
  generalize str8 (Ex.seps (Ex.parts t.kids) [44, 32]) = s1 at HL HF hz
  go_enter Try.func40, Try.ntmps40
  go_wp2_with (go_at_call 65; refine (HL.out _ (bl1 _ _)).mono ?_; rintro e w1 ⟨rfl, b1⟩)
  go_ret
  exact ⟨ret_str HF.out, below_then (bl1 _ _) b1⟩
set_option maxRecDepth 100000 in
set_option maxHeartbeats 3200000 in
theorem node_14 (t : Ex.T) (h : t.kind = 14) (hI : ∀ x ∈ t.kids, AtC x) (hl : t.kids.length ≤ 24) (hb : (Ex.seps (Ex.parts t.kids) [59, 32]).length ≤ 1048576) : NodeC t := by
  intro w v hk
  unfold RetT
  have HL : Hid (∀ W, Below w.heap.size w W → Calls Try.prog 65 #[v, .string ⟨#[59, 32]⟩] W (RetT W (str8 (Ex.seps (Ex.parts t.kids) [59, 32])))) := Lib.hid (fun W hW => spec_list t.kids hI ⟨#[59, 32]⟩ (show 2 ≤ 16 by decide) hl hb W v (hk.later hW))
  unfold RetT at HL
  have hz : ((str8 (Ex.seps (Ex.parts t.kids) [59, 32])).size : Int) ≤ 1048576 := by rw [str8_size]; omega
  have HF : Hid ((⟨#[123]⟩ : ByteArray) ++ str8 (Ex.seps (Ex.parts t.kids) [59, 32]) ++ (⟨#[125]⟩ : ByteArray) = str8 t.form) := Lib.hid (by rw [Ex.form_14 t h]; apply ByteArray.ext; simp [str8])
  obtain ⟨a, c, rfl⟩ := kids_len hk
  clear hk hI hb
  generalize str8 (Ex.seps (Ex.parts t.kids) [59, 32]) = s1 at HL HF hz
  go_enter Try.func40, Try.ntmps40
  go_wp2_with (go_at_call 65; refine (HL.out _ (bl1 _ _)).mono ?_; rintro e w1 ⟨rfl, b1⟩)
  go_ret
  exact ⟨ret_str HF.out, below_then (bl1 _ _) b1⟩
set_option maxRecDepth 100000 in
set_option maxHeartbeats 3200000 in
theorem node_29 (t : Ex.T) (h : t.kind = 29) (hI : ∀ x ∈ t.kids, AtC x) (hl : t.kids.length ≤ 24) (hb : (Ex.seps (Ex.parts t.kids) [44, 32]).length ≤ 1048576) : NodeC t := by
  intro w v hk
  unfold RetT
  have HL : Hid (∀ W, Below w.heap.size w W → Calls Try.prog 65 #[v, .string ⟨#[44, 32]⟩] W (RetT W (str8 (Ex.seps (Ex.parts t.kids) [44, 32])))) := Lib.hid (fun W hW => spec_list t.kids hI ⟨#[44, 32]⟩ (show 2 ≤ 16 by decide) hl hb W v (hk.later hW))
  unfold RetT at HL
  have hz : ((str8 (Ex.seps (Ex.parts t.kids) [44, 32])).size : Int) ≤ 1048576 := by rw [str8_size]; omega
  have HF : Hid ((⟨#[40]⟩ : ByteArray) ++ str8 (Ex.seps (Ex.parts t.kids) [44, 32]) ++ (⟨#[41]⟩ : ByteArray) = str8 t.form) := Lib.hid (by rw [Ex.form_29 t h]; apply ByteArray.ext; simp [str8])
  obtain ⟨a, c, rfl⟩ := kids_len hk
  clear hk hI hb
  generalize str8 (Ex.seps (Ex.parts t.kids) [44, 32]) = s1 at HL HF hz
  go_enter Try.func40, Try.ntmps40
  go_wp2_with (go_at_call 65; refine (HL.out _ (bl1 _ _)).mono ?_; rintro e w1 ⟨rfl, b1⟩)
  go_ret
  exact ⟨ret_str HF.out, below_then (bl1 _ _) b1⟩
set_option maxRecDepth 100000 in
set_option maxHeartbeats 3200000 in
theorem node_15 (t : Ex.T) (h : t.kind = 15) (hI : ∀ x ∈ t.kids, AtC x) (hw : t.kids.length ≤ 3)
    (hb : ∀ k, k ≤ t.kids.length → ((str8 (Ex.wordsTo Ex.ws15 (Ex.parts t.kids) k)).size : Int) ≤ 1048576) (hf : ∀ k (h : k < t.kids.length), ((str8 (t.kids[k].fit 1)).size : Int) ≤ 1048576) : NodeC t := by
  intro w v hk
  unfold RetT
  have hc : ∀ W vw, Below w.heap.size w W → StrsAt W vw [⟨#[105, 102]⟩, ⟨#[116, 104, 101, 110]⟩, ⟨#[101, 108, 115, 101]⟩] → Calls Try.prog 68 #[exV t v, vw] W (RetT W (str8 (Ex.wordsF Ex.ws15 (Ex.parts t.kids)))) := fun W vw hW hs => spec_words8 t hI [⟨#[105, 102]⟩, ⟨#[116, 104, 101, 110]⟩, ⟨#[101, 108, 115, 101]⟩] (by decide) hw (by decide) (small7 (by rfl)) hb hf W v vw (hk.later hW) hs
  unfold exV RetT at hc
  rw [h] at hc
  have HC := Lib.hid hc
  have HF : Hid (str8 (Ex.wordsF Ex.ws15 (Ex.parts t.kids)) = str8 t.form) := Lib.hid (by rw [Ex.form_15 t h])
  have HS : Hid (∀ W : World, StrsAt (W.alloc (.cells #[.string ⟨#[105, 102]⟩, .string ⟨#[116, 104, 101, 110]⟩, .string ⟨#[101, 108, 115, 101]⟩] 9)) (.slice (some ⟨W.heap.size, 0, none⟩) 3 3) [⟨#[105, 102]⟩, ⟨#[116, 104, 101, 110]⟩, ⟨#[101, 108, 115, 101]⟩]) := Lib.hid (fun W => strs_new W [⟨#[105, 102]⟩, ⟨#[116, 104, 101, 110]⟩, ⟨#[101, 108, 115, 101]⟩] (by decide) 9)
  have HE := Lib.hid (CellsE.new w t v 45)
  clear hk hI hb hf hc
  generalize str8 (Ex.wordsF Ex.ws15 (Ex.parts t.kids)) = s1 at HC HF
  go_enter Try.func40, Try.ntmps40
  go_wp2_with fail
  have HS1 := HS.out (boxed w 15 t v)
  rw [World.size_alloc] at HS1
  have HB1 := below_then (bl1 w (.cells #[.int .i64 15, .string t.text, .int .i64 t.num, .int .i64 t.line, v] 45)) (bl1 (boxed w 15 t v) (.cells #[.string ⟨#[105, 102]⟩, .string ⟨#[116, 104, 101, 110]⟩, .string ⟨#[101, 108, 115, 101]⟩] 9))
  refine (HC.out _ _ HB1 HS1).mono ?_
  rintro e w1 ⟨rfl, b1⟩
  have B1 := Lib.hid (below_then HB1 b1)
  clear HS1 HB1 b1
  go_wp2
  go_ret
  exact ⟨ret_str HF.out, B1.out⟩
set_option maxRecDepth 100000 in
set_option maxHeartbeats 3200000 in
theorem node_16 (t : Ex.T) (h : t.kind = 16) (hI : ∀ x ∈ t.kids, AtC x) (hw : t.kids.length ≤ 2)
    (hb : ∀ k, k ≤ t.kids.length → ((str8 (Ex.wordsTo Ex.ws16 (Ex.parts t.kids) k)).size : Int) ≤ 1048576) (hf : ∀ k (h : k < t.kids.length), ((str8 (t.kids[k].fit 1)).size : Int) ≤ 1048576) : NodeC t := by
  intro w v hk
  unfold RetT
  have hc : ∀ W vw, Below w.heap.size w W → StrsAt W vw [⟨#[119, 104, 105, 108, 101]⟩, ⟨#[100, 111]⟩] → Calls Try.prog 68 #[exV t v, vw] W (RetT W (str8 (Ex.wordsF Ex.ws16 (Ex.parts t.kids)))) := fun W vw hW hs => spec_words8 t hI [⟨#[119, 104, 105, 108, 101]⟩, ⟨#[100, 111]⟩] (by decide) hw (by decide) (small7 (by rfl)) hb hf W v vw (hk.later hW) hs
  unfold exV RetT at hc
  rw [h] at hc
  have HC := Lib.hid hc
  have HF : Hid (str8 (Ex.wordsF Ex.ws16 (Ex.parts t.kids)) = str8 t.form) := Lib.hid (by rw [Ex.form_16 t h])
  have HS : Hid (∀ W : World, StrsAt (W.alloc (.cells #[.string ⟨#[119, 104, 105, 108, 101]⟩, .string ⟨#[100, 111]⟩] 9)) (.slice (some ⟨W.heap.size, 0, none⟩) 2 2) [⟨#[119, 104, 105, 108, 101]⟩, ⟨#[100, 111]⟩]) := Lib.hid (fun W => strs_new W [⟨#[119, 104, 105, 108, 101]⟩, ⟨#[100, 111]⟩] (by decide) 9)
  have HE := Lib.hid (CellsE.new w t v 45)
  clear hk hI hb hf hc
  generalize str8 (Ex.wordsF Ex.ws16 (Ex.parts t.kids)) = s1 at HC HF
  go_enter Try.func40, Try.ntmps40
  go_wp2_with fail
  have HS1 := HS.out (boxed w 16 t v)
  rw [World.size_alloc] at HS1
  have HB1 := below_then (bl1 w (.cells #[.int .i64 16, .string t.text, .int .i64 t.num, .int .i64 t.line, v] 45)) (bl1 (boxed w 16 t v) (.cells #[.string ⟨#[119, 104, 105, 108, 101]⟩, .string ⟨#[100, 111]⟩] 9))
  refine (HC.out _ _ HB1 HS1).mono ?_
  rintro e w1 ⟨rfl, b1⟩
  have B1 := Lib.hid (below_then HB1 b1)
  clear HS1 HB1 b1
  go_wp2
  go_ret
  exact ⟨ret_str HF.out, B1.out⟩
set_option maxRecDepth 100000 in
set_option maxHeartbeats 3200000 in
theorem node_17 (t : Ex.T) (h : t.kind = 17) (hI : ∀ x ∈ t.kids, AtC x) (hw : t.kids.length ≤ 2)
    (hb : ∀ k, k ≤ t.kids.length → ((str8 (Ex.wordsTo Ex.ws17 (Ex.parts t.kids) k)).size : Int) ≤ 1048576) (hf : ∀ k (h : k < t.kids.length), ((str8 (t.kids[k].fit 1)).size : Int) ≤ 1048576) : NodeC t := by
  intro w v hk
  unfold RetT
  have hc : ∀ W vw, Below w.heap.size w W → StrsAt W vw [⟨#[117, 110, 116, 105, 108]⟩, ⟨#[100, 111]⟩] → Calls Try.prog 68 #[exV t v, vw] W (RetT W (str8 (Ex.wordsF Ex.ws17 (Ex.parts t.kids)))) := fun W vw hW hs => spec_words8 t hI [⟨#[117, 110, 116, 105, 108]⟩, ⟨#[100, 111]⟩] (by decide) hw (by decide) (small7 (by rfl)) hb hf W v vw (hk.later hW) hs
  unfold exV RetT at hc
  rw [h] at hc
  have HC := Lib.hid hc
  have HF : Hid (str8 (Ex.wordsF Ex.ws17 (Ex.parts t.kids)) = str8 t.form) := Lib.hid (by rw [Ex.form_17 t h])
  have HS : Hid (∀ W : World, StrsAt (W.alloc (.cells #[.string ⟨#[117, 110, 116, 105, 108]⟩, .string ⟨#[100, 111]⟩] 9)) (.slice (some ⟨W.heap.size, 0, none⟩) 2 2) [⟨#[117, 110, 116, 105, 108]⟩, ⟨#[100, 111]⟩]) := Lib.hid (fun W => strs_new W [⟨#[117, 110, 116, 105, 108]⟩, ⟨#[100, 111]⟩] (by decide) 9)
  have HE := Lib.hid (CellsE.new w t v 45)
  clear hk hI hb hf hc
  generalize str8 (Ex.wordsF Ex.ws17 (Ex.parts t.kids)) = s1 at HC HF
  go_enter Try.func40, Try.ntmps40
  go_wp2_with fail
  have HS1 := HS.out (boxed w 17 t v)
  rw [World.size_alloc] at HS1
  have HB1 := below_then (bl1 w (.cells #[.int .i64 17, .string t.text, .int .i64 t.num, .int .i64 t.line, v] 45)) (bl1 (boxed w 17 t v) (.cells #[.string ⟨#[117, 110, 116, 105, 108]⟩, .string ⟨#[100, 111]⟩] 9))
  refine (HC.out _ _ HB1 HS1).mono ?_
  rintro e w1 ⟨rfl, b1⟩
  have B1 := Lib.hid (below_then HB1 b1)
  clear HS1 HB1 b1
  go_wp2
  go_ret
  exact ⟨ret_str HF.out, B1.out⟩
set_option maxRecDepth 100000 in
set_option maxHeartbeats 3200000 in
theorem node_18 (t : Ex.T) (h : t.kind = 18) (hI : ∀ x ∈ t.kids, AtC x) (hw : t.kids.length ≤ 2)
    (hb : ∀ k, k ≤ t.kids.length → ((str8 (Ex.wordsTo Ex.ws18 (Ex.parts t.kids) k)).size : Int) ≤ 1048576) (hf : ∀ k (h : k < t.kids.length), ((str8 (t.kids[k].fit 1)).size : Int) ≤ 1048576) : NodeC t := by
  intro w v hk
  unfold RetT
  have hc : ∀ W vw, Below w.heap.size w W → StrsAt W vw [⟨#[101, 118, 101, 114, 121]⟩, ⟨#[100, 111]⟩] → Calls Try.prog 68 #[exV t v, vw] W (RetT W (str8 (Ex.wordsF Ex.ws18 (Ex.parts t.kids)))) := fun W vw hW hs => spec_words8 t hI [⟨#[101, 118, 101, 114, 121]⟩, ⟨#[100, 111]⟩] (by decide) hw (by decide) (small7 (by rfl)) hb hf W v vw (hk.later hW) hs
  unfold exV RetT at hc
  rw [h] at hc
  have HC := Lib.hid hc
  have HF : Hid (str8 (Ex.wordsF Ex.ws18 (Ex.parts t.kids)) = str8 t.form) := Lib.hid (by rw [Ex.form_18 t h])
  have HS : Hid (∀ W : World, StrsAt (W.alloc (.cells #[.string ⟨#[101, 118, 101, 114, 121]⟩, .string ⟨#[100, 111]⟩] 9)) (.slice (some ⟨W.heap.size, 0, none⟩) 2 2) [⟨#[101, 118, 101, 114, 121]⟩, ⟨#[100, 111]⟩]) := Lib.hid (fun W => strs_new W [⟨#[101, 118, 101, 114, 121]⟩, ⟨#[100, 111]⟩] (by decide) 9)
  have HE := Lib.hid (CellsE.new w t v 45)
  clear hk hI hb hf hc
  generalize str8 (Ex.wordsF Ex.ws18 (Ex.parts t.kids)) = s1 at HC HF
  go_enter Try.func40, Try.ntmps40
  go_wp2_with fail
  have HS1 := HS.out (boxed w 18 t v)
  rw [World.size_alloc] at HS1
  have HB1 := below_then (bl1 w (.cells #[.int .i64 18, .string t.text, .int .i64 t.num, .int .i64 t.line, v] 45)) (bl1 (boxed w 18 t v) (.cells #[.string ⟨#[101, 118, 101, 114, 121]⟩, .string ⟨#[100, 111]⟩] 9))
  refine (HC.out _ _ HB1 HS1).mono ?_
  rintro e w1 ⟨rfl, b1⟩
  have B1 := Lib.hid (below_then HB1 b1)
  clear HS1 HB1 b1
  go_wp2
  go_ret
  exact ⟨ret_str HF.out, B1.out⟩
set_option maxRecDepth 100000 in
set_option maxHeartbeats 3200000 in
theorem node_19 (t : Ex.T) (h : t.kind = 19) (hI : ∀ x ∈ t.kids, AtC x) (hw : t.kids.length ≤ 1)
    (hb : ∀ k, k ≤ t.kids.length → ((str8 (Ex.wordsTo Ex.ws19 (Ex.parts t.kids) k)).size : Int) ≤ 1048576) (hf : ∀ k (h : k < t.kids.length), ((str8 (t.kids[k].fit 1)).size : Int) ≤ 1048576) : NodeC t := by
  intro w v hk
  unfold RetT
  have hc : ∀ W vw, Below w.heap.size w W → StrsAt W vw [⟨#[114, 101, 112, 101, 97, 116]⟩] → Calls Try.prog 68 #[exV t v, vw] W (RetT W (str8 (Ex.wordsF Ex.ws19 (Ex.parts t.kids)))) := fun W vw hW hs => spec_words8 t hI [⟨#[114, 101, 112, 101, 97, 116]⟩] (by decide) hw (by decide) (small7 (by rfl)) hb hf W v vw (hk.later hW) hs
  unfold exV RetT at hc
  rw [h] at hc
  have HC := Lib.hid hc
  have HF : Hid (str8 (Ex.wordsF Ex.ws19 (Ex.parts t.kids)) = str8 t.form) := Lib.hid (by rw [Ex.form_19 t h])
  have HS : Hid (∀ W : World, StrsAt (W.alloc (.cells #[.string ⟨#[114, 101, 112, 101, 97, 116]⟩] 9)) (.slice (some ⟨W.heap.size, 0, none⟩) 1 1) [⟨#[114, 101, 112, 101, 97, 116]⟩]) := Lib.hid (fun W => strs_new W [⟨#[114, 101, 112, 101, 97, 116]⟩] (by decide) 9)
  have HE := Lib.hid (CellsE.new w t v 45)
  clear hk hI hb hf hc
  generalize str8 (Ex.wordsF Ex.ws19 (Ex.parts t.kids)) = s1 at HC HF
  go_enter Try.func40, Try.ntmps40
  go_wp2_with fail
  have HS1 := HS.out (boxed w 19 t v)
  rw [World.size_alloc] at HS1
  have HB1 := below_then (bl1 w (.cells #[.int .i64 19, .string t.text, .int .i64 t.num, .int .i64 t.line, v] 45)) (bl1 (boxed w 19 t v) (.cells #[.string ⟨#[114, 101, 112, 101, 97, 116]⟩] 9))
  refine (HC.out _ _ HB1 HS1).mono ?_
  rintro e w1 ⟨rfl, b1⟩
  have B1 := Lib.hid (below_then HB1 b1)
  clear HS1 HB1 b1
  go_wp2
  go_ret
  exact ⟨ret_str HF.out, B1.out⟩
set_option maxRecDepth 100000 in
set_option maxHeartbeats 3200000 in
theorem node_21 (t : Ex.T) (h : t.kind = 21) (hI : ∀ x ∈ t.kids, AtC x) (hw : t.kids.length ≤ 1)
    (hb : ∀ k, k ≤ t.kids.length → ((str8 (Ex.wordsTo Ex.ws21 (Ex.parts t.kids) k)).size : Int) ≤ 1048576) (hf : ∀ k (h : k < t.kids.length), ((str8 (t.kids[k].fit 1)).size : Int) ≤ 1048576) : NodeC t := by
  intro w v hk
  unfold RetT
  have hc : ∀ W vw, Below w.heap.size w W → StrsAt W vw [⟨#[114, 101, 116, 117, 114, 110]⟩] → Calls Try.prog 68 #[exV t v, vw] W (RetT W (str8 (Ex.wordsF Ex.ws21 (Ex.parts t.kids)))) := fun W vw hW hs => spec_words8 t hI [⟨#[114, 101, 116, 117, 114, 110]⟩] (by decide) hw (by decide) (small7 (by rfl)) hb hf W v vw (hk.later hW) hs
  unfold exV RetT at hc
  rw [h] at hc
  have HC := Lib.hid hc
  have HF : Hid (str8 (Ex.wordsF Ex.ws21 (Ex.parts t.kids)) = str8 t.form) := Lib.hid (by rw [Ex.form_21 t h])
  have HS : Hid (∀ W : World, StrsAt (W.alloc (.cells #[.string ⟨#[114, 101, 116, 117, 114, 110]⟩] 9)) (.slice (some ⟨W.heap.size, 0, none⟩) 1 1) [⟨#[114, 101, 116, 117, 114, 110]⟩]) := Lib.hid (fun W => strs_new W [⟨#[114, 101, 116, 117, 114, 110]⟩] (by decide) 9)
  have HE := Lib.hid (CellsE.new w t v 45)
  clear hk hI hb hf hc
  generalize str8 (Ex.wordsF Ex.ws21 (Ex.parts t.kids)) = s1 at HC HF
  go_enter Try.func40, Try.ntmps40
  go_wp2_with fail
  have HS1 := HS.out (boxed w 21 t v)
  rw [World.size_alloc] at HS1
  have HB1 := below_then (bl1 w (.cells #[.int .i64 21, .string t.text, .int .i64 t.num, .int .i64 t.line, v] 45)) (bl1 (boxed w 21 t v) (.cells #[.string ⟨#[114, 101, 116, 117, 114, 110]⟩] 9))
  refine (HC.out _ _ HB1 HS1).mono ?_
  rintro e w1 ⟨rfl, b1⟩
  have B1 := Lib.hid (below_then HB1 b1)
  clear HS1 HB1 b1
  go_wp2
  go_ret
  exact ⟨ret_str HF.out, B1.out⟩
set_option maxRecDepth 100000 in
set_option maxHeartbeats 3200000 in
theorem node_22 (t : Ex.T) (h : t.kind = 22) (hI : ∀ x ∈ t.kids, AtC x) (hw : t.kids.length ≤ 2)
    (hb : ∀ k, k ≤ t.kids.length → ((str8 (Ex.wordsTo Ex.ws22 (Ex.parts t.kids) k)).size : Int) ≤ 1048576) (hf : ∀ k (h : k < t.kids.length), ((str8 (t.kids[k].fit 1)).size : Int) ≤ 1048576) : NodeC t := by
  intro w v hk
  unfold RetT
  have hc : ∀ W vw, Below w.heap.size w W → StrsAt W vw [⟨#[115, 117, 115, 112, 101, 110, 100]⟩, ⟨#[100, 111]⟩] → Calls Try.prog 68 #[exV t v, vw] W (RetT W (str8 (Ex.wordsF Ex.ws22 (Ex.parts t.kids)))) := fun W vw hW hs => spec_words8 t hI [⟨#[115, 117, 115, 112, 101, 110, 100]⟩, ⟨#[100, 111]⟩] (by decide) hw (by decide) (small7 (by rfl)) hb hf W v vw (hk.later hW) hs
  unfold exV RetT at hc
  rw [h] at hc
  have HC := Lib.hid hc
  have HF : Hid (str8 (Ex.wordsF Ex.ws22 (Ex.parts t.kids)) = str8 t.form) := Lib.hid (by rw [Ex.form_22 t h])
  have HS : Hid (∀ W : World, StrsAt (W.alloc (.cells #[.string ⟨#[115, 117, 115, 112, 101, 110, 100]⟩, .string ⟨#[100, 111]⟩] 9)) (.slice (some ⟨W.heap.size, 0, none⟩) 2 2) [⟨#[115, 117, 115, 112, 101, 110, 100]⟩, ⟨#[100, 111]⟩]) := Lib.hid (fun W => strs_new W [⟨#[115, 117, 115, 112, 101, 110, 100]⟩, ⟨#[100, 111]⟩] (by decide) 9)
  have HE := Lib.hid (CellsE.new w t v 45)
  clear hk hI hb hf hc
  generalize str8 (Ex.wordsF Ex.ws22 (Ex.parts t.kids)) = s1 at HC HF
  go_enter Try.func40, Try.ntmps40
  go_wp2_with fail
  have HS1 := HS.out (boxed w 22 t v)
  rw [World.size_alloc] at HS1
  have HB1 := below_then (bl1 w (.cells #[.int .i64 22, .string t.text, .int .i64 t.num, .int .i64 t.line, v] 45)) (bl1 (boxed w 22 t v) (.cells #[.string ⟨#[115, 117, 115, 112, 101, 110, 100]⟩, .string ⟨#[100, 111]⟩] 9))
  refine (HC.out _ _ HB1 HS1).mono ?_
  rintro e w1 ⟨rfl, b1⟩
  have B1 := Lib.hid (below_then HB1 b1)
  clear HS1 HB1 b1
  go_wp2
  go_ret
  exact ⟨ret_str HF.out, B1.out⟩
set_option maxRecDepth 100000 in
set_option maxHeartbeats 3200000 in
theorem node_24 (t : Ex.T) (h : t.kind = 24) (hI : ∀ x ∈ t.kids, AtC x) (hw : t.kids.length ≤ 1)
    (hb : ∀ k, k ≤ t.kids.length → ((str8 (Ex.wordsTo Ex.ws24 (Ex.parts t.kids) k)).size : Int) ≤ 1048576) (hf : ∀ k (h : k < t.kids.length), ((str8 (t.kids[k].fit 1)).size : Int) ≤ 1048576) : NodeC t := by
  intro w v hk
  unfold RetT
  have hc : ∀ W vw, Below w.heap.size w W → StrsAt W vw [⟨#[98, 114, 101, 97, 107]⟩] → Calls Try.prog 68 #[exV t v, vw] W (RetT W (str8 (Ex.wordsF Ex.ws24 (Ex.parts t.kids)))) := fun W vw hW hs => spec_words8 t hI [⟨#[98, 114, 101, 97, 107]⟩] (by decide) hw (by decide) (small7 (by rfl)) hb hf W v vw (hk.later hW) hs
  unfold exV RetT at hc
  rw [h] at hc
  have HC := Lib.hid hc
  have HF : Hid (str8 (Ex.wordsF Ex.ws24 (Ex.parts t.kids)) = str8 t.form) := Lib.hid (by rw [Ex.form_24 t h])
  have HS : Hid (∀ W : World, StrsAt (W.alloc (.cells #[.string ⟨#[98, 114, 101, 97, 107]⟩] 9)) (.slice (some ⟨W.heap.size, 0, none⟩) 1 1) [⟨#[98, 114, 101, 97, 107]⟩]) := Lib.hid (fun W => strs_new W [⟨#[98, 114, 101, 97, 107]⟩] (by decide) 9)
  have HE := Lib.hid (CellsE.new w t v 45)
  clear hk hI hb hf hc
  generalize str8 (Ex.wordsF Ex.ws24 (Ex.parts t.kids)) = s1 at HC HF
  go_enter Try.func40, Try.ntmps40
  go_wp2_with fail
  have HS1 := HS.out (boxed w 24 t v)
  rw [World.size_alloc] at HS1
  have HB1 := below_then (bl1 w (.cells #[.int .i64 24, .string t.text, .int .i64 t.num, .int .i64 t.line, v] 45)) (bl1 (boxed w 24 t v) (.cells #[.string ⟨#[98, 114, 101, 97, 107]⟩] 9))
  refine (HC.out _ _ HB1 HS1).mono ?_
  rintro e w1 ⟨rfl, b1⟩
  have B1 := Lib.hid (below_then HB1 b1)
  clear HS1 HB1 b1
  go_wp2
  go_ret
  exact ⟨ret_str HF.out, B1.out⟩
set_option maxRecDepth 100000 in
set_option maxHeartbeats 3200000 in
theorem node_26 (t : Ex.T) (h : t.kind = 26) (hI : ∀ x ∈ t.kids, AtC x) (hw : t.kids.length ≤ 1)
    (hb : ∀ k, k ≤ t.kids.length → ((str8 (Ex.wordsTo Ex.ws26 (Ex.parts t.kids) k)).size : Int) ≤ 1048576) (hf : ∀ k (h : k < t.kids.length), ((str8 (t.kids[k].fit 1)).size : Int) ≤ 1048576) : NodeC t := by
  intro w v hk
  unfold RetT
  have hc : ∀ W vw, Below w.heap.size w W → StrsAt W vw [⟨#[99, 114, 101, 97, 116, 101]⟩] → Calls Try.prog 68 #[exV t v, vw] W (RetT W (str8 (Ex.wordsF Ex.ws26 (Ex.parts t.kids)))) := fun W vw hW hs => spec_words8 t hI [⟨#[99, 114, 101, 97, 116, 101]⟩] (by decide) hw (by decide) (small7 (by rfl)) hb hf W v vw (hk.later hW) hs
  unfold exV RetT at hc
  rw [h] at hc
  have HC := Lib.hid hc
  have HF : Hid (str8 (Ex.wordsF Ex.ws26 (Ex.parts t.kids)) = str8 t.form) := Lib.hid (by rw [Ex.form_26 t h])
  have HS : Hid (∀ W : World, StrsAt (W.alloc (.cells #[.string ⟨#[99, 114, 101, 97, 116, 101]⟩] 9)) (.slice (some ⟨W.heap.size, 0, none⟩) 1 1) [⟨#[99, 114, 101, 97, 116, 101]⟩]) := Lib.hid (fun W => strs_new W [⟨#[99, 114, 101, 97, 116, 101]⟩] (by decide) 9)
  have HE := Lib.hid (CellsE.new w t v 45)
  clear hk hI hb hf hc
  generalize str8 (Ex.wordsF Ex.ws26 (Ex.parts t.kids)) = s1 at HC HF
  go_enter Try.func40, Try.ntmps40
  go_wp2_with fail
  have HS1 := HS.out (boxed w 26 t v)
  rw [World.size_alloc] at HS1
  have HB1 := below_then (bl1 w (.cells #[.int .i64 26, .string t.text, .int .i64 t.num, .int .i64 t.line, v] 45)) (bl1 (boxed w 26 t v) (.cells #[.string ⟨#[99, 114, 101, 97, 116, 101]⟩] 9))
  refine (HC.out _ _ HB1 HS1).mono ?_
  rintro e w1 ⟨rfl, b1⟩
  have B1 := Lib.hid (below_then HB1 b1)
  clear HS1 HB1 b1
  go_wp2
  go_ret
  exact ⟨ret_str HF.out, B1.out⟩
end Go.Proofs.Ytiiogpafgoeblaa
