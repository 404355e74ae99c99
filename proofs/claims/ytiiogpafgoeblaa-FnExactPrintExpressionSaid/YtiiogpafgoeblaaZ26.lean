/- Joined texts: Y8. No conditions besides those that each states. -/
import Derived.Test.YtiiogpafgoeblaaZ19
/- The reference model's printer: operators. No conditions. -/
namespace Go.Proofs.Ytiiogpafgoeblaa
open Go.RowKit
set_option linter.unusedVariables false

set_option maxRecDepth 100000 in
set_option maxHeartbeats 3200000 in
theorem node_7a (t : Ex.T) (h : t.kind = 7) (x : Ex.T) (hks : t.kids = [x]) (h1 : NodeC x) (z1 : ((str8 x.form).size : Int) ≤ 1048576) (hkd : (x.kind == 7) = true) (zt : (t.text.size : Int) ≤ 128) (HF : Hid (t.text ++ (⟨#[40]⟩ : ByteArray) ++ str8 x.form ++ (⟨#[41]⟩ : ByteArray) = str8 t.form)) : NodeC t := by
  intro w v hk
  unfold RetT
  rw [hks] at hk
  obtain ⟨g, o, c, vx, rfl, cx, kx⟩ := kids_one hk
  have hb0 := bl1 w (.cells #[.int .i64 7, .string t.text, .int .i64 t.num, .int .i64 t.line, .slice (some ⟨g, o, none⟩) 1 c] 45)
  have he := CellsE.new w t (.slice (some ⟨g, o, none⟩) 1 c) 45
  rw [h] at he
  have HE := Lib.hid he
  have Cx := Lib.hid (cx.later hb0)
  have H1 := Lib.hid (node_c h1 (kx.later hb0))
  have HB0 := Lib.hid hb0
  obtain ⟨w0, hw0⟩ : ∃ W, w.alloc (.cells #[.int .i64 7, .string t.text, .int .i64 t.num, .int .i64 t.line, .slice (some ⟨g, o, none⟩) 1 c] 45) = W := ⟨_, rfl⟩
  rw [hw0] at HE HB0 H1 Cx
  have HW0 := Lib.hid hw0
  generalize str8 x.form = s1 at H1 HF z1
  clear hk hks he hw0 cx kx hb0 h1
  have x0 := (show w0.cell? ⟨g, o, none⟩ = some (.int .i64 x.kind) from Cx.out.1)
  have X0 := Lib.hid x0
  have hw0 := HW0.out
  rw [← hw0] at x0
  clear hw0
  go_enter Try.func40, Try.ntmps40
  go_wp2_with fail
  clear x0
  have c1 := cat_run (t.text) ((⟨#[40]⟩ : ByteArray)) (by have l0 : (⟨#[40]⟩ : ByteArray).size = 1 := rfl; omega)
  have c2 := cat_run (t.text ++ (⟨#[40]⟩ : ByteArray)) (s1) (by simp only [ByteArray.size_append]; have l0 : (⟨#[40]⟩ : ByteArray).size = 1 := rfl; omega)
  have c3 := cat_run (t.text ++ (⟨#[40]⟩ : ByteArray) ++ s1) ((⟨#[41]⟩ : ByteArray)) (by simp only [ByteArray.size_append]; have l0 : (⟨#[40]⟩ : ByteArray).size = 1 := rfl; have l1 : (⟨#[41]⟩ : ByteArray).size = 1 := rfl; omega)
  obtain ⟨e0, e1, e2, e3, e4⟩ := HE.out
  obtain ⟨E, hE⟩ : ∃ n, w.heap.size = n := ⟨_, rfl⟩
  have hw0 := HW0.out
  rw [hw0, hE]
  rw [hE] at e1 e4
  have HS : Hid (∀ W, Below w0.heap.size w0 W → (W.cell? ⟨E, 4, none⟩ = some (.slice (some ⟨g, o, none⟩) 1 c) ∧ W.cell? ⟨E, 1, none⟩ = some (.string t.text) ∧ W.cell? ⟨g, o, none⟩ = some (.int .i64 x.kind) ∧ W.cell? ⟨g, o + 1, none⟩ = some (.string x.text) ∧ W.cell? ⟨g, o + 2, none⟩ = some (.int .i64 x.num) ∧ W.cell? ⟨g, o + 3, none⟩ = some (.int .i64 x.line) ∧ W.cell? ⟨g, o + 4, none⟩ = some (vx)) ∧ Below w0.heap.size w0 W) := Lib.hid (fun W hW => ⟨⟨subw_below hW _ _ _ e4, subw_below hW _ _ _ e1, subw_below hW _ _ _ Cx.out.1, subw_below hW _ _ _ Cx.out.2.1, subw_below hW _ _ _ Cx.out.2.2.1, subw_below hW _ _ _ Cx.out.2.2.2.1, subw_below hW _ _ _ Cx.out.2.2.2.2⟩, hW⟩)
  clear hw0 hE e0 e1 e2 e3 e4 HE Cx
  go_region_held3 (fun W => (W.cell? ⟨E, 4, none⟩ = some (.slice (some ⟨g, o, none⟩) 1 c) ∧ W.cell? ⟨E, 1, none⟩ = some (.string t.text) ∧ W.cell? ⟨g, o, none⟩ = some (.int .i64 x.kind) ∧ W.cell? ⟨g, o + 1, none⟩ = some (.string x.text) ∧ W.cell? ⟨g, o + 2, none⟩ = some (.int .i64 x.num) ∧ W.cell? ⟨g, o + 3, none⟩ = some (.int .i64 x.line) ∧ W.cell? ⟨g, o + 4, none⟩ = some (vx)) ∧ Below w0.heap.size w0 W) (first | (with_reducible assumption) | (with_reducible exact HS.out _ (Below.refl _ _).drew) | (with_reducible exact HS.out _ (held_t (by assumption) b1))) (first | (go_at_call 40; with_reducible refine (H1.out _ (held_b (by assumption))).mono ?_; rintro e w1 ⟨rfl, b1⟩))
  all_goals go_wp2
  all_goals go_ret
  all_goals exact ⟨ret_str HF.out, below_then HB0.out.drew b1⟩
set_option maxRecDepth 100000 in
set_option maxHeartbeats 3200000 in
theorem node_7b (t : Ex.T) (h : t.kind = 7) (x : Ex.T) (hks : t.kids = [x]) (h1 : AtC x) (z1 : ((str8 (x.fit 12)).size : Int) ≤ 1048576) (hkd : (x.kind == 7) = false) (zt : (t.text.size : Int) ≤ 128) (HF : Hid (t.text ++ str8 (x.fit 12) = str8 t.form)) : NodeC t := by
  intro w v hk
  unfold RetT
  rw [hks] at hk
  obtain ⟨g, o, c, vx, rfl, cx, kx⟩ := kids_one hk
  have hb0 := bl1 w (.cells #[.int .i64 7, .string t.text, .int .i64 t.num, .int .i64 t.line, .slice (some ⟨g, o, none⟩) 1 c] 45)
  have he := CellsE.new w t (.slice (some ⟨g, o, none⟩) 1 c) 45
  rw [h] at he
  have HE := Lib.hid he
  have Cx := Lib.hid (cx.later hb0)
  have H1 := Lib.hid (at_c h1 (kx.later hb0) (12))
  have HB0 := Lib.hid hb0
  obtain ⟨w0, hw0⟩ : ∃ W, w.alloc (.cells #[.int .i64 7, .string t.text, .int .i64 t.num, .int .i64 t.line, .slice (some ⟨g, o, none⟩) 1 c] 45) = W := ⟨_, rfl⟩
  rw [hw0] at HE HB0 H1 Cx
  have HW0 := Lib.hid hw0
  generalize str8 (x.fit 12) = s1 at H1 HF z1
  clear hk hks he hw0 cx kx hb0 h1
  have x0 := (show w0.cell? ⟨g, o, none⟩ = some (.int .i64 x.kind) from Cx.out.1)
  have X0 := Lib.hid x0
  have hw0 := HW0.out
  rw [← hw0] at x0
  clear hw0
  go_enter Try.func40, Try.ntmps40
  go_wp2_with fail
  clear x0
  have c1 := cat_run (t.text) (s1) (by omega)
  obtain ⟨e0, e1, e2, e3, e4⟩ := HE.out
  obtain ⟨E, hE⟩ : ∃ n, w.heap.size = n := ⟨_, rfl⟩
  have hw0 := HW0.out
  rw [hw0, hE]
  rw [hE] at e1 e4
  have HS : Hid (∀ W, Below w0.heap.size w0 W → (W.cell? ⟨E, 4, none⟩ = some (.slice (some ⟨g, o, none⟩) 1 c) ∧ W.cell? ⟨E, 1, none⟩ = some (.string t.text) ∧ W.cell? ⟨g, o, none⟩ = some (.int .i64 x.kind) ∧ W.cell? ⟨g, o + 1, none⟩ = some (.string x.text) ∧ W.cell? ⟨g, o + 2, none⟩ = some (.int .i64 x.num) ∧ W.cell? ⟨g, o + 3, none⟩ = some (.int .i64 x.line) ∧ W.cell? ⟨g, o + 4, none⟩ = some (vx)) ∧ Below w0.heap.size w0 W) := Lib.hid (fun W hW => ⟨⟨subw_below hW _ _ _ e4, subw_below hW _ _ _ e1, subw_below hW _ _ _ Cx.out.1, subw_below hW _ _ _ Cx.out.2.1, subw_below hW _ _ _ Cx.out.2.2.1, subw_below hW _ _ _ Cx.out.2.2.2.1, subw_below hW _ _ _ Cx.out.2.2.2.2⟩, hW⟩)
  clear hw0 hE e0 e1 e2 e3 e4 HE Cx
  go_region_held3 (fun W => (W.cell? ⟨E, 4, none⟩ = some (.slice (some ⟨g, o, none⟩) 1 c) ∧ W.cell? ⟨E, 1, none⟩ = some (.string t.text) ∧ W.cell? ⟨g, o, none⟩ = some (.int .i64 x.kind) ∧ W.cell? ⟨g, o + 1, none⟩ = some (.string x.text) ∧ W.cell? ⟨g, o + 2, none⟩ = some (.int .i64 x.num) ∧ W.cell? ⟨g, o + 3, none⟩ = some (.int .i64 x.line) ∧ W.cell? ⟨g, o + 4, none⟩ = some (vx)) ∧ Below w0.heap.size w0 W) (first | (with_reducible assumption) | (with_reducible exact HS.out _ (Below.refl _ _).drew) | (with_reducible exact HS.out _ (held_t (by assumption) b1))) (first | (go_at_call 66; with_reducible refine (H1.out _ (held_b (by assumption))).mono ?_; rintro e w1 ⟨rfl, b1⟩))
  all_goals go_wp2
  all_goals go_ret
  all_goals exact ⟨ret_str HF.out, below_then HB0.out.drew b1⟩
set_option maxRecDepth 100000 in
set_option maxHeartbeats 3200000 in
theorem node_8a (t : Ex.T) (h : t.kind = 8) (hz : Ex.lvl t.text.data.toList = 3) (x y : Ex.T) (hks : t.kids = [x, y]) (h1 : AtC x) (z1 : ((str8 (x.fit 4)).size : Int) ≤ 1048576) (h2 : AtC y) (z2 : ((str8 (y.fit 3)).size : Int) ≤ 1048576) (zt : (t.text.size : Int) ≤ 128) (HF : Hid (str8 (x.fit 4) ++ (⟨#[32]⟩ : ByteArray) ++ t.text ++ (⟨#[32]⟩ : ByteArray) ++ str8 (y.fit 3) = str8 t.form)) : NodeC t := by
  intro w v hk
  unfold RetT
  rw [hks] at hk
  obtain ⟨g, o, c, vx, vy, rfl, ⟨cx, kx⟩, cy, ky⟩ := kids_two hk
  have hb0 := bl1 w (.cells #[.int .i64 8, .string t.text, .int .i64 t.num, .int .i64 t.line, .slice (some ⟨g, o, none⟩) 2 c] 45)
  have he := CellsE.new w t (.slice (some ⟨g, o, none⟩) 2 c) 45
  rw [h] at he
  have HE := Lib.hid he
  have Cx := Lib.hid (cx.later hb0)
  have Cy := Lib.hid (cy.later hb0)
  have H1 := Lib.hid (at_c h1 (kx.later hb0) (4))
  have H2 := Lib.hid (at_c h2 (ky.later hb0) (3))
  have HB0 := Lib.hid hb0
  obtain ⟨w0, hw0⟩ : ∃ W, w.alloc (.cells #[.int .i64 8, .string t.text, .int .i64 t.num, .int .i64 t.line, .slice (some ⟨g, o, none⟩) 2 c] 45) = W := ⟨_, rfl⟩
  rw [hw0] at HE HB0 H1 H2 Cx Cy
  have HW0 := Lib.hid hw0
  generalize str8 (x.fit 4) = s1 at H1 HF z1
  generalize str8 (y.fit 3) = s2 at H2 HF z2
  clear hk hks he hw0 cx kx cy ky hb0 h1 h2
  have HL := Lib.hid (fun W => spec_level t.text W)
  rw [hz] at HL
  clear hz
  go_enter Try.func40, Try.ntmps40
  go_wp2_with (go_at_call 67; refine (HL.out _).mono ?_; rintro e w1 ⟨rfl, rfl⟩)
  have c1 := cat_run (s1) ((⟨#[32]⟩ : ByteArray)) (by have l0 : (⟨#[32]⟩ : ByteArray).size = 1 := rfl; omega)
  have c2 := cat_run (s1 ++ (⟨#[32]⟩ : ByteArray)) (t.text) (by simp only [ByteArray.size_append]; have l0 : (⟨#[32]⟩ : ByteArray).size = 1 := rfl; omega)
  have c3 := cat_run (s1 ++ (⟨#[32]⟩ : ByteArray) ++ t.text) ((⟨#[32]⟩ : ByteArray)) (by simp only [ByteArray.size_append]; have l0 : (⟨#[32]⟩ : ByteArray).size = 1 := rfl; have l1 : (⟨#[32]⟩ : ByteArray).size = 1 := rfl; omega)
  have c4 := cat_run (s1 ++ (⟨#[32]⟩ : ByteArray) ++ t.text ++ (⟨#[32]⟩ : ByteArray)) (s2) (by simp only [ByteArray.size_append]; have l0 : (⟨#[32]⟩ : ByteArray).size = 1 := rfl; have l1 : (⟨#[32]⟩ : ByteArray).size = 1 := rfl; omega)
  obtain ⟨e0, e1, e2, e3, e4⟩ := HE.out
  obtain ⟨E, hE⟩ : ∃ n, w.heap.size = n := ⟨_, rfl⟩
  have hw0 := HW0.out
  rw [hw0, hE]
  rw [hE] at e1 e4
  have HS : Hid (∀ W, Below w0.heap.size w0 W → (W.cell? ⟨E, 4, none⟩ = some (.slice (some ⟨g, o, none⟩) 2 c) ∧ W.cell? ⟨E, 1, none⟩ = some (.string t.text) ∧ W.cell? ⟨g, o, none⟩ = some (.int .i64 x.kind) ∧ W.cell? ⟨g, o + 1, none⟩ = some (.string x.text) ∧ W.cell? ⟨g, o + 2, none⟩ = some (.int .i64 x.num) ∧ W.cell? ⟨g, o + 3, none⟩ = some (.int .i64 x.line) ∧ W.cell? ⟨g, o + 4, none⟩ = some (vx) ∧ W.cell? ⟨g, o + 5, none⟩ = some (.int .i64 y.kind) ∧ W.cell? ⟨g, o + 6, none⟩ = some (.string y.text) ∧ W.cell? ⟨g, o + 7, none⟩ = some (.int .i64 y.num) ∧ W.cell? ⟨g, o + 8, none⟩ = some (.int .i64 y.line) ∧ W.cell? ⟨g, o + 9, none⟩ = some (vy)) ∧ Below w0.heap.size w0 W) := Lib.hid (fun W hW => ⟨⟨subw_below hW _ _ _ e4, subw_below hW _ _ _ e1, subw_below hW _ _ _ Cx.out.1, subw_below hW _ _ _ Cx.out.2.1, subw_below hW _ _ _ Cx.out.2.2.1, subw_below hW _ _ _ Cx.out.2.2.2.1, subw_below hW _ _ _ Cx.out.2.2.2.2, subw_below hW _ _ _ Cy.out.1, subw_below hW _ _ _ Cy.out.2.1, subw_below hW _ _ _ Cy.out.2.2.1, subw_below hW _ _ _ Cy.out.2.2.2.1, subw_below hW _ _ _ Cy.out.2.2.2.2⟩, hW⟩)
  clear hw0 hE e0 e1 e2 e3 e4 HE Cx Cy
  go_region_held3 (fun W => (W.cell? ⟨E, 4, none⟩ = some (.slice (some ⟨g, o, none⟩) 2 c) ∧ W.cell? ⟨E, 1, none⟩ = some (.string t.text) ∧ W.cell? ⟨g, o, none⟩ = some (.int .i64 x.kind) ∧ W.cell? ⟨g, o + 1, none⟩ = some (.string x.text) ∧ W.cell? ⟨g, o + 2, none⟩ = some (.int .i64 x.num) ∧ W.cell? ⟨g, o + 3, none⟩ = some (.int .i64 x.line) ∧ W.cell? ⟨g, o + 4, none⟩ = some (vx) ∧ W.cell? ⟨g, o + 5, none⟩ = some (.int .i64 y.kind) ∧ W.cell? ⟨g, o + 6, none⟩ = some (.string y.text) ∧ W.cell? ⟨g, o + 7, none⟩ = some (.int .i64 y.num) ∧ W.cell? ⟨g, o + 8, none⟩ = some (.int .i64 y.line) ∧ W.cell? ⟨g, o + 9, none⟩ = some (vy)) ∧ Below w0.heap.size w0 W) (first | (with_reducible assumption) | (with_reducible exact HS.out _ (Below.refl _ _).drew) | (with_reducible exact HS.out _ (held_t (by assumption) b1)) | (with_reducible exact HS.out _ (held_t (by assumption) b2))) (first | (go_at_call 66; with_reducible refine (H1.out _ (held_b (by assumption))).mono ?_; rintro e w1 ⟨rfl, b1⟩) | (go_at_call 66; with_reducible refine (H2.out _ (held_b (by assumption))).mono ?_; rintro e w2 ⟨rfl, b2⟩))
  all_goals go_wp2
  all_goals go_ret
  all_goals exact ⟨ret_str HF.out, below_then (below_then HB0.out.drew b1) b2⟩
set_option maxRecDepth 100000 in
set_option maxHeartbeats 3200000 in
theorem node_8b (t : Ex.T) (h : t.kind = 8) (hz : Ex.lvl t.text.data.toList = 10) (x y : Ex.T) (hks : t.kids = [x, y]) (h1 : AtC x) (z1 : ((str8 (x.fit 11)).size : Int) ≤ 1048576) (h2 : AtC y) (z2 : ((str8 (y.fit 10)).size : Int) ≤ 1048576) (zt : (t.text.size : Int) ≤ 128) (HF : Hid (str8 (x.fit 11) ++ (⟨#[32]⟩ : ByteArray) ++ t.text ++ (⟨#[32]⟩ : ByteArray) ++ str8 (y.fit 10) = str8 t.form)) : NodeC t := by
  intro w v hk
  unfold RetT
  rw [hks] at hk
  obtain ⟨g, o, c, vx, vy, rfl, ⟨cx, kx⟩, cy, ky⟩ := kids_two hk
  have hb0 := bl1 w (.cells #[.int .i64 8, .string t.text, .int .i64 t.num, .int .i64 t.line, .slice (some ⟨g, o, none⟩) 2 c] 45)
  have he := CellsE.new w t (.slice (some ⟨g, o, none⟩) 2 c) 45
  rw [h] at he
  have HE := Lib.hid he
  have Cx := Lib.hid (cx.later hb0)
  have Cy := Lib.hid (cy.later hb0)
  have H1 := Lib.hid (at_c h1 (kx.later hb0) (11))
  have H2 := Lib.hid (at_c h2 (ky.later hb0) (10))
  have HB0 := Lib.hid hb0
  obtain ⟨w0, hw0⟩ : ∃ W, w.alloc (.cells #[.int .i64 8, .string t.text, .int .i64 t.num, .int .i64 t.line, .slice (some ⟨g, o, none⟩) 2 c] 45) = W := ⟨_, rfl⟩
  rw [hw0] at HE HB0 H1 H2 Cx Cy
  have HW0 := Lib.hid hw0
  generalize str8 (x.fit 11) = s1 at H1 HF z1
  generalize str8 (y.fit 10) = s2 at H2 HF z2
  clear hk hks he hw0 cx kx cy ky hb0 h1 h2
  have HL := Lib.hid (fun W => spec_level t.text W)
  rw [hz] at HL
  clear hz
  go_enter Try.func40, Try.ntmps40
  go_wp2_with (go_at_call 67; refine (HL.out _).mono ?_; rintro e w1 ⟨rfl, rfl⟩)
  have c1 := cat_run (s1) ((⟨#[32]⟩ : ByteArray)) (by have l0 : (⟨#[32]⟩ : ByteArray).size = 1 := rfl; omega)
  have c2 := cat_run (s1 ++ (⟨#[32]⟩ : ByteArray)) (t.text) (by simp only [ByteArray.size_append]; have l0 : (⟨#[32]⟩ : ByteArray).size = 1 := rfl; omega)
  have c3 := cat_run (s1 ++ (⟨#[32]⟩ : ByteArray) ++ t.text) ((⟨#[32]⟩ : ByteArray)) (by simp only [ByteArray.size_append]; have l0 : (⟨#[32]⟩ : ByteArray).size = 1 := rfl; have l1 : (⟨#[32]⟩ : ByteArray).size = 1 := rfl; omega)
  have c4 := cat_run (s1 ++ (⟨#[32]⟩ : ByteArray) ++ t.text ++ (⟨#[32]⟩ : ByteArray)) (s2) (by simp only [ByteArray.size_append]; have l0 : (⟨#[32]⟩ : ByteArray).size = 1 := rfl; have l1 : (⟨#[32]⟩ : ByteArray).size = 1 := rfl; omega)
  obtain ⟨e0, e1, e2, e3, e4⟩ := HE.out
  obtain ⟨E, hE⟩ : ∃ n, w.heap.size = n := ⟨_, rfl⟩
  have hw0 := HW0.out
  rw [hw0, hE]
  rw [hE] at e1 e4
  have HS : Hid (∀ W, Below w0.heap.size w0 W → (W.cell? ⟨E, 4, none⟩ = some (.slice (some ⟨g, o, none⟩) 2 c) ∧ W.cell? ⟨E, 1, none⟩ = some (.string t.text) ∧ W.cell? ⟨g, o, none⟩ = some (.int .i64 x.kind) ∧ W.cell? ⟨g, o + 1, none⟩ = some (.string x.text) ∧ W.cell? ⟨g, o + 2, none⟩ = some (.int .i64 x.num) ∧ W.cell? ⟨g, o + 3, none⟩ = some (.int .i64 x.line) ∧ W.cell? ⟨g, o + 4, none⟩ = some (vx) ∧ W.cell? ⟨g, o + 5, none⟩ = some (.int .i64 y.kind) ∧ W.cell? ⟨g, o + 6, none⟩ = some (.string y.text) ∧ W.cell? ⟨g, o + 7, none⟩ = some (.int .i64 y.num) ∧ W.cell? ⟨g, o + 8, none⟩ = some (.int .i64 y.line) ∧ W.cell? ⟨g, o + 9, none⟩ = some (vy)) ∧ Below w0.heap.size w0 W) := Lib.hid (fun W hW => ⟨⟨subw_below hW _ _ _ e4, subw_below hW _ _ _ e1, subw_below hW _ _ _ Cx.out.1, subw_below hW _ _ _ Cx.out.2.1, subw_below hW _ _ _ Cx.out.2.2.1, subw_below hW _ _ _ Cx.out.2.2.2.1, subw_below hW _ _ _ Cx.out.2.2.2.2, subw_below hW _ _ _ Cy.out.1, subw_below hW _ _ _ Cy.out.2.1, subw_below hW _ _ _ Cy.out.2.2.1, subw_below hW _ _ _ Cy.out.2.2.2.1, subw_below hW _ _ _ Cy.out.2.2.2.2⟩, hW⟩)
  clear hw0 hE e0 e1 e2 e3 e4 HE Cx Cy
  go_region_held3 (fun W => (W.cell? ⟨E, 4, none⟩ = some (.slice (some ⟨g, o, none⟩) 2 c) ∧ W.cell? ⟨E, 1, none⟩ = some (.string t.text) ∧ W.cell? ⟨g, o, none⟩ = some (.int .i64 x.kind) ∧ W.cell? ⟨g, o + 1, none⟩ = some (.string x.text) ∧ W.cell? ⟨g, o + 2, none⟩ = some (.int .i64 x.num) ∧ W.cell? ⟨g, o + 3, none⟩ = some (.int .i64 x.line) ∧ W.cell? ⟨g, o + 4, none⟩ = some (vx) ∧ W.cell? ⟨g, o + 5, none⟩ = some (.int .i64 y.kind) ∧ W.cell? ⟨g, o + 6, none⟩ = some (.string y.text) ∧ W.cell? ⟨g, o + 7, none⟩ = some (.int .i64 y.num) ∧ W.cell? ⟨g, o + 8, none⟩ = some (.int .i64 y.line) ∧ W.cell? ⟨g, o + 9, none⟩ = some (vy)) ∧ Below w0.heap.size w0 W) (first | (with_reducible assumption) | (with_reducible exact HS.out _ (Below.refl _ _).drew) | (with_reducible exact HS.out _ (held_t (by assumption) b1)) | (with_reducible exact HS.out _ (held_t (by assumption) b2))) (first | (go_at_call 66; with_reducible refine (H1.out _ (held_b (by assumption))).mono ?_; rintro e w1 ⟨rfl, b1⟩) | (go_at_call 66; with_reducible refine (H2.out _ (held_b (by assumption))).mono ?_; rintro e w2 ⟨rfl, b2⟩))
  all_goals go_wp2
  all_goals go_ret
  all_goals exact ⟨ret_str HF.out, below_then (below_then HB0.out.drew b1) b2⟩
set_option maxRecDepth 100000 in
set_option maxHeartbeats 3200000 in
theorem node_8c (t : Ex.T) (h : t.kind = 8) (z : Int) (hz : Ex.lvl t.text.data.toList = z) (n3 : (z == 3) = false) (n10 : (z == 10) = false) (q0 : 0 < z) (q1 : z ≤ 11) (x y : Ex.T) (hks : t.kids = [x, y]) (h1 : AtC x) (z1 : ((str8 (x.fit z)).size : Int) ≤ 1048576) (h2 : AtC y) (z2 : ((str8 (y.fit (z + 1))).size : Int) ≤ 1048576) (zt : (t.text.size : Int) ≤ 128) (HF : Hid (str8 (x.fit z) ++ (⟨#[32]⟩ : ByteArray) ++ t.text ++ (⟨#[32]⟩ : ByteArray) ++ str8 (y.fit (z + 1)) = str8 t.form)) : NodeC t := by
  intro w v hk
  unfold RetT
  rw [hks] at hk
  obtain ⟨g, o, c, vx, vy, rfl, ⟨cx, kx⟩, cy, ky⟩ := kids_two hk
  have hb0 := bl1 w (.cells #[.int .i64 8, .string t.text, .int .i64 t.num, .int .i64 t.line, .slice (some ⟨g, o, none⟩) 2 c] 45)
  have he := CellsE.new w t (.slice (some ⟨g, o, none⟩) 2 c) 45
  rw [h] at he
  have HE := Lib.hid he
  have Cx := Lib.hid (cx.later hb0)
  have Cy := Lib.hid (cy.later hb0)
  have H1 := Lib.hid (at_c h1 (kx.later hb0) (z))
  have H2 := Lib.hid (at_c h2 (ky.later hb0) ((z + 1)))
  have HB0 := Lib.hid hb0
  obtain ⟨w0, hw0⟩ : ∃ W, w.alloc (.cells #[.int .i64 8, .string t.text, .int .i64 t.num, .int .i64 t.line, .slice (some ⟨g, o, none⟩) 2 c] 45) = W := ⟨_, rfl⟩
  rw [hw0] at HE HB0 H1 H2 Cx Cy
  have HW0 := Lib.hid hw0
  generalize str8 (x.fit z) = s1 at H1 HF z1
  generalize str8 (y.fit (z + 1)) = s2 at H2 HF z2
  clear hk hks he hw0 cx kx cy ky hb0 h1 h2
  have HL := Lib.hid (fun W => spec_level t.text W)
  rw [hz] at HL
  have hw1 : IntKind.i64.wrap (z + 1) = z + 1 := by rw [IntKind.wrap_i64]; omega
  clear hz
  go_enter Try.func40, Try.ntmps40
  go_wp2_with (go_at_call 67; refine (HL.out _).mono ?_; rintro e w1 ⟨rfl, rfl⟩)
  have c1 := cat_run (s1) ((⟨#[32]⟩ : ByteArray)) (by have l0 : (⟨#[32]⟩ : ByteArray).size = 1 := rfl; omega)
  have c2 := cat_run (s1 ++ (⟨#[32]⟩ : ByteArray)) (t.text) (by simp only [ByteArray.size_append]; have l0 : (⟨#[32]⟩ : ByteArray).size = 1 := rfl; omega)
  have c3 := cat_run (s1 ++ (⟨#[32]⟩ : ByteArray) ++ t.text) ((⟨#[32]⟩ : ByteArray)) (by simp only [ByteArray.size_append]; have l0 : (⟨#[32]⟩ : ByteArray).size = 1 := rfl; have l1 : (⟨#[32]⟩ : ByteArray).size = 1 := rfl; omega)
  have c4 := cat_run (s1 ++ (⟨#[32]⟩ : ByteArray) ++ t.text ++ (⟨#[32]⟩ : ByteArray)) (s2) (by simp only [ByteArray.size_append]; have l0 : (⟨#[32]⟩ : ByteArray).size = 1 := rfl; have l1 : (⟨#[32]⟩ : ByteArray).size = 1 := rfl; omega)
  obtain ⟨e0, e1, e2, e3, e4⟩ := HE.out
  obtain ⟨E, hE⟩ : ∃ n, w.heap.size = n := ⟨_, rfl⟩
  have hw0 := HW0.out
  rw [hw0, hE]
  rw [hE] at e1 e4
  have HS : Hid (∀ W, Below w0.heap.size w0 W → (W.cell? ⟨E, 4, none⟩ = some (.slice (some ⟨g, o, none⟩) 2 c) ∧ W.cell? ⟨E, 1, none⟩ = some (.string t.text) ∧ W.cell? ⟨g, o, none⟩ = some (.int .i64 x.kind) ∧ W.cell? ⟨g, o + 1, none⟩ = some (.string x.text) ∧ W.cell? ⟨g, o + 2, none⟩ = some (.int .i64 x.num) ∧ W.cell? ⟨g, o + 3, none⟩ = some (.int .i64 x.line) ∧ W.cell? ⟨g, o + 4, none⟩ = some (vx) ∧ W.cell? ⟨g, o + 5, none⟩ = some (.int .i64 y.kind) ∧ W.cell? ⟨g, o + 6, none⟩ = some (.string y.text) ∧ W.cell? ⟨g, o + 7, none⟩ = some (.int .i64 y.num) ∧ W.cell? ⟨g, o + 8, none⟩ = some (.int .i64 y.line) ∧ W.cell? ⟨g, o + 9, none⟩ = some (vy)) ∧ Below w0.heap.size w0 W) := Lib.hid (fun W hW => ⟨⟨subw_below hW _ _ _ e4, subw_below hW _ _ _ e1, subw_below hW _ _ _ Cx.out.1, subw_below hW _ _ _ Cx.out.2.1, subw_below hW _ _ _ Cx.out.2.2.1, subw_below hW _ _ _ Cx.out.2.2.2.1, subw_below hW _ _ _ Cx.out.2.2.2.2, subw_below hW _ _ _ Cy.out.1, subw_below hW _ _ _ Cy.out.2.1, subw_below hW _ _ _ Cy.out.2.2.1, subw_below hW _ _ _ Cy.out.2.2.2.1, subw_below hW _ _ _ Cy.out.2.2.2.2⟩, hW⟩)
  clear hw0 hE e0 e1 e2 e3 e4 HE Cx Cy
  go_region_held3 (fun W => (W.cell? ⟨E, 4, none⟩ = some (.slice (some ⟨g, o, none⟩) 2 c) ∧ W.cell? ⟨E, 1, none⟩ = some (.string t.text) ∧ W.cell? ⟨g, o, none⟩ = some (.int .i64 x.kind) ∧ W.cell? ⟨g, o + 1, none⟩ = some (.string x.text) ∧ W.cell? ⟨g, o + 2, none⟩ = some (.int .i64 x.num) ∧ W.cell? ⟨g, o + 3, none⟩ = some (.int .i64 x.line) ∧ W.cell? ⟨g, o + 4, none⟩ = some (vx) ∧ W.cell? ⟨g, o + 5, none⟩ = some (.int .i64 y.kind) ∧ W.cell? ⟨g, o + 6, none⟩ = some (.string y.text) ∧ W.cell? ⟨g, o + 7, none⟩ = some (.int .i64 y.num) ∧ W.cell? ⟨g, o + 8, none⟩ = some (.int .i64 y.line) ∧ W.cell? ⟨g, o + 9, none⟩ = some (vy)) ∧ Below w0.heap.size w0 W) (first | (with_reducible assumption) | (with_reducible exact HS.out _ (Below.refl _ _).drew) | (with_reducible exact HS.out _ (held_t (by assumption) b1)) | (with_reducible exact HS.out _ (held_t (by assumption) b2))) (first | (go_at_call 66; with_reducible refine (H1.out _ (held_b (by assumption))).mono ?_; rintro e w1 ⟨rfl, b1⟩) | (go_at_call 66; with_reducible refine (H2.out _ (held_b (by assumption))).mono ?_; rintro e w2 ⟨rfl, b2⟩))
  all_goals go_wp2
  all_goals go_ret
  all_goals exact ⟨ret_str HF.out, below_then (below_then HB0.out.drew b1) b2⟩
end Go.Proofs.Ytiiogpafgoeblaa
