/- Joined texts: Y7. No conditions besides those that each states. -/
import Derived.Test.YtiiogpafgoeblaaZ18
/- The reference model's printer: nodes with kids that are written out. No conditions. -/
namespace Go.Proofs.Ytiiogpafgoeblaa
open Go.RowKit
set_option linter.unusedVariables false

/-- A tree's cells at a place. -/
def Cells5 (w : World) (g o : Nat) (x : Ex.T) (v : Value) : Prop := w.cell? ⟨g, o, none⟩ = some (.int .i64 x.kind) ∧ w.cell? ⟨g, o + 1, none⟩ = some (.string x.text) ∧ w.cell? ⟨g, o + 2, none⟩ = some (.int .i64 x.num) ∧ w.cell? ⟨g, o + 3, none⟩ = some (.int .i64 x.line) ∧ w.cell? ⟨g, o + 4, none⟩ = some v
theorem cells5_of {w : World} {g o : Nat} {x : Ex.T} (h : TreeAt w g o x) : ∃ v, Cells5 w g o x v ∧ Kids w v x.kids := by
  obtain ⟨⟨a, b, c, d⟩, v, e, hk⟩ := tree_cells h
  exact ⟨v, ⟨a, b, c, d, e⟩, hk⟩
theorem kids1 {w : World} {v : Value} {x : Ex.T} {r : List Ex.T} (h : Kids w v (x :: r)) : ∃ g o c vx, v = .slice (some ⟨g, o, none⟩) (r.length + 1) c ∧ r.length + 1 ≤ c ∧ (Cells5 w g o x vx ∧ Kids w vx x.kids) ∧ RowAt w g (o + 5) r := by
  rw [Kids] at h
  obtain ⟨g, o, c, e, hc, hx, hr⟩ := h
  obtain ⟨vx, h1, h2⟩ := cells5_of hx
  exact ⟨g, o, c, vx, e, hc, ⟨h1, h2⟩, hr⟩
theorem kids_one {w : World} {v : Value} {x : Ex.T} (h : Kids w v [x]) : ∃ g o c vx, v = .slice (some ⟨g, o, none⟩) 1 c ∧ Cells5 w g o x vx ∧ Kids w vx x.kids := by
  obtain ⟨g, o, c, vx, e, _, ⟨h1, h2⟩, _⟩ := kids1 h
  exact ⟨g, o, c, vx, e, h1, h2⟩
theorem kids_two {w : World} {v : Value} {x y : Ex.T} (h : Kids w v [x, y]) : ∃ g o c vx vy, v = .slice (some ⟨g, o, none⟩) 2 c ∧ (Cells5 w g o x vx ∧ Kids w vx x.kids) ∧ Cells5 w g (o + 5) y vy ∧ Kids w vy y.kids := by
  obtain ⟨g, o, c, vx, e, _, h1, hr⟩ := kids1 h
  rw [RowAt] at hr
  obtain ⟨vy, h2, h3⟩ := cells5_of hr.1
  exact ⟨g, o, c, vx, vy, e, h1, h2, h3⟩
theorem kids_three {w : World} {v : Value} {x y z : Ex.T} (h : Kids w v [x, y, z]) : ∃ g o c vx vy vz, v = .slice (some ⟨g, o, none⟩) 3 c ∧ (Cells5 w g o x vx ∧ Kids w vx x.kids) ∧ (Cells5 w g (o + 5) y vy ∧ Kids w vy y.kids) ∧ Cells5 w g (o + 10) z vz ∧ Kids w vz z.kids := by
  obtain ⟨g, o, c, vx, e, _, h1, hr⟩ := kids1 h
  rw [RowAt, RowAt] at hr
  obtain ⟨vy, h2, h3⟩ := cells5_of hr.1
  obtain ⟨vz, h4, h5⟩ := cells5_of hr.2.1
  exact ⟨g, o, c, vx, vy, vz, e, h1, ⟨h2, h3⟩, h4, h5⟩
theorem Cells5.later {w w' : World} {g o : Nat} {x : Ex.T} {v : Value} (h : Cells5 w g o x v) (hb : Below w.heap.size w w') : Cells5 w' g o x v :=
  ⟨subw_below hb _ _ _ h.1, subw_below hb _ _ _ h.2.1, subw_below hb _ _ _ h.2.2.1, subw_below hb _ _ _ h.2.2.2.1, subw_below hb _ _ _ h.2.2.2.2⟩
theorem held_b {p : Prop} {n : Nat} {w W : World} (h : p ∧ Below n w W) : Below n w W := h.2
theorem held_t {p : Prop} {w W W2 : World} (h : p ∧ Below w.heap.size w W) (hb : Below W.heap.size W W2) : Below w.heap.size w W2 := below_then h.2 hb
/-- What a contract of a kid says behind a world. -/
theorem at_c {x : Ex.T} (h : AtC x) {W0 : World} {v : Value} (hk : Kids W0 v x.kids) (n : Int) : ∀ W, Below W0.heap.size W0 W → Calls Try.prog 66 #[exV x v, .int .i64 n] W fun e w' => e = .returned (.string (str8 (x.fit n))) ∧ Below W.heap.size W w' := fun W hW => h n W v (hk.later hW)
theorem node_c {x : Ex.T} (h : NodeC x) {W0 : World} {v : Value} (hk : Kids W0 v x.kids) : ∀ W, Below W0.heap.size W0 W → Calls Try.prog 40 #[exV x v] W fun e w' => e = .returned (.string (str8 x.form)) ∧ Below W.heap.size W w' := fun W hW => h W v (hk.later hW)
theorem cat_run (a b : ByteArray) (h : a.size + b.size ≤ 9223372036854775807) : ∀ w : World, (Op.stringOp .add a b).run Try.prog w = .ok (.string (a ++ b)) w := fun w => run_string_add_sum w a b h
theorem nth_lit {x : Ex.T} {r : List Ex.T} : Ex.nth (Ex.parts (x :: r)) 0 = x.pk := rfl
theorem nth_lit1 {x y : Ex.T} {r : List Ex.T} : Ex.nth (Ex.parts (x :: y :: r)) 1 = y.pk := rfl
theorem nth_lit2 {x y z : Ex.T} {r : List Ex.T} : Ex.nth (Ex.parts (x :: y :: z :: r)) 2 = z.pk := rfl

set_option maxRecDepth 100000 in
set_option maxHeartbeats 3200000 in
theorem node_13 (t : Ex.T) (h : t.kind = 13) (x : Ex.T) (hks : t.kids = [x]) (h1 : AtC x) (z1 : ((str8 (x.fit 13)).size : Int) ≤ 1048576) (zt : (t.text.size : Int) ≤ 128) (HF : Hid (str8 (x.fit 13) ++ (⟨#[46]⟩ : ByteArray) ++ t.text = str8 t.form)) : NodeC t := by
  intro w v hk
  unfold RetT
  rw [hks] at hk
  obtain ⟨g, o, c, vx, rfl, cx, kx⟩ := kids_one hk
  have hb0 := bl1 w (.cells #[.int .i64 13, .string t.text, .int .i64 t.num, .int .i64 t.line, .slice (some ⟨g, o, none⟩) 1 c] 45)
  have he := CellsE.new w t (.slice (some ⟨g, o, none⟩) 1 c) 45
  rw [h] at he
  have HE := Lib.hid he
  have Cx := Lib.hid (cx.later hb0)
  have H1 := Lib.hid (at_c h1 (kx.later hb0) (13))
  have HB0 := Lib.hid hb0
  obtain ⟨w0, hw0⟩ : ∃ W, w.alloc (.cells #[.int .i64 13, .string t.text, .int .i64 t.num, .int .i64 t.line, .slice (some ⟨g, o, none⟩) 1 c] 45) = W := ⟨_, rfl⟩
  rw [hw0] at HE HB0 H1 Cx
  have HW0 := Lib.hid hw0
  generalize str8 (x.fit 13) = s1 at H1 HF z1
  clear hk hks he hw0 cx kx hb0 h1
  go_enter Try.func40, Try.ntmps40
  go_wp2_with fail
  have c1 := cat_run (s1) ((⟨#[46]⟩ : ByteArray)) (by have l0 : (⟨#[46]⟩ : ByteArray).size = 1 := rfl; omega)
  have c2 := cat_run (s1 ++ (⟨#[46]⟩ : ByteArray)) (t.text) (by simp only [ByteArray.size_append]; have l0 : (⟨#[46]⟩ : ByteArray).size = 1 := rfl; omega)
  obtain ⟨e0, e1, e2, e3, e4⟩ := HE.out
  obtain ⟨E, hE⟩ : ∃ n, w.heap.size = n := ⟨_, rfl⟩
  have hw0 := HW0.out
  rw [hw0, hE]
  rw [hE] at e1 e4
  have HS : Hid (∀ W, Below w0.heap.size w0 W → (W.cell? ⟨E, 4, none⟩ = some (.slice (some ⟨g, o, none⟩) 1 c) ∧ W.cell? ⟨E, 1, none⟩ = some (.string t.text) ∧ W.cell? ⟨g, o, none⟩ = some (.int .i64 x.kind) ∧ W.cell? ⟨g, o + 1, none⟩ = some (.string x.text) ∧ W.cell? ⟨g, o + 2, none⟩ = some (.int .i64 x.num) ∧ W.cell? ⟨g, o + 3, none⟩ = some (.int .i64 x.line) ∧ W.cell? ⟨g, o + 4, none⟩ = some (vx)) ∧ Below w0.heap.size w0 W) := Lib.hid (fun W hW => ⟨⟨subw_below hW _ _ _ e4, subw_below hW _ _ _ e1, subw_below hW _ _ _ Cx.out.1, subw_below hW _ _ _ Cx.out.2.1, subw_below hW _ _ _ Cx.out.2.2.1, subw_below hW _ _ _ Cx.out.2.2.2.1, subw_below hW _ _ _ Cx.out.2.2.2.2⟩, hW⟩)
  clear hw0 hE e0 e1 e2 e3 e4 HE Cx
  go_region_held3 (fun W => (W.cell? ⟨E, 4, none⟩ = some (.slice (some ⟨g, o, none⟩) 1 c) ∧ W.cell? ⟨E, 1, none⟩ = some (.string t.text) ∧ W.cell? ⟨g, o, none⟩ = some (.int .i64 x.kind) ∧ W.cell? ⟨g, o + 1, none⟩ = some (.string x.text) ∧ W.cell? ⟨g, o + 2, none⟩ = some (.int .i64 x.num) ∧ W.cell? ⟨g, o + 3, none⟩ = some (.int .i64 x.line) ∧ W.cell? ⟨g, o + 4, none⟩ = some (vx)) ∧ Below w0.heap.size w0 W) (first | (with_reducible assumption) | (with_reducible exact HS.out _ (Below.refl _ _).drew) | (with_reducible exact HS.out _ (held_t (by assumption) b1))) (first | (go_at_call 66; with_reducible refine (H1.out _ (held_b (by assumption))).mono ?_; rintro e w1 ⟨rfl, b1⟩))
  all_goals go_wp2
  all_goals go_ret
  all_goals exact ⟨ret_str HF.out, (below_then HB0.out.drew b1)⟩
set_option maxRecDepth 100000 in
set_option maxHeartbeats 3200000 in
theorem node_11 (t : Ex.T) (h : t.kind = 11) (x y : Ex.T) (hks : t.kids = [x, y]) (h1 : AtC x) (z1 : ((str8 (x.fit 13)).size : Int) ≤ 1048576) (h2 : AtC y) (z2 : ((str8 (y.fit 0)).size : Int) ≤ 1048576) (zt : (t.text.size : Int) ≤ 128) (HF : Hid (str8 (x.fit 13) ++ (⟨#[91]⟩ : ByteArray) ++ str8 (y.fit 0) ++ (⟨#[93]⟩ : ByteArray) = str8 t.form)) : NodeC t := by
  intro w v hk
  unfold RetT
  rw [hks] at hk
  obtain ⟨g, o, c, vx, vy, rfl, ⟨cx, kx⟩, cy, ky⟩ := kids_two hk
  have hb0 := bl1 w (.cells #[.int .i64 11, .string t.text, .int .i64 t.num, .int .i64 t.line, .slice (some ⟨g, o, none⟩) 2 c] 45)
  have he := CellsE.new w t (.slice (some ⟨g, o, none⟩) 2 c) 45
  rw [h] at he
  have HE := Lib.hid he
  have Cx := Lib.hid (cx.later hb0)
  have Cy := Lib.hid (cy.later hb0)
  have H1 := Lib.hid (at_c h1 (kx.later hb0) (13))
  have H2 := Lib.hid (at_c h2 (ky.later hb0) (0))
  have HB0 := Lib.hid hb0
  obtain ⟨w0, hw0⟩ : ∃ W, w.alloc (.cells #[.int .i64 11, .string t.text, .int .i64 t.num, .int .i64 t.line, .slice (some ⟨g, o, none⟩) 2 c] 45) = W := ⟨_, rfl⟩
  rw [hw0] at HE HB0 H1 H2 Cx Cy
  have HW0 := Lib.hid hw0
  generalize str8 (x.fit 13) = s1 at H1 HF z1
  generalize str8 (y.fit 0) = s2 at H2 HF z2
  clear hk hks he hw0 cx kx cy ky hb0 h1 h2
  go_enter Try.func40, Try.ntmps40
  go_wp2_with fail
  have c1 := cat_run (s1) ((⟨#[91]⟩ : ByteArray)) (by have l0 : (⟨#[91]⟩ : ByteArray).size = 1 := rfl; omega)
  have c2 := cat_run (s1 ++ (⟨#[91]⟩ : ByteArray)) (s2) (by simp only [ByteArray.size_append]; have l0 : (⟨#[91]⟩ : ByteArray).size = 1 := rfl; omega)
  have c3 := cat_run (s1 ++ (⟨#[91]⟩ : ByteArray) ++ s2) ((⟨#[93]⟩ : ByteArray)) (by simp only [ByteArray.size_append]; have l0 : (⟨#[91]⟩ : ByteArray).size = 1 := rfl; have l1 : (⟨#[93]⟩ : ByteArray).size = 1 := rfl; omega)
  obtain ⟨e0, e1, e2, e3, e4⟩ := HE.out
  obtain ⟨E, hE⟩ : ∃ n, w.heap.size = n := ⟨_, rfl⟩
  have hw0 := HW0.out
  rw [hw0, hE]
  rw [hE] at e1 e4
  have HS : Hid (∀ W, Below w0.heap.size w0 W → (W.cell? ⟨E, 4, none⟩ = some (.slice (some ⟨g, o, none⟩) 2 c) ∧ W.cell? ⟨E, 1, none⟩ = some (.string t.text) ∧ W.cell? ⟨g, o, none⟩ = some (.int .i64 x.kind) ∧ W.cell? ⟨g, o + 1, none⟩ = some (.string x.text) ∧ W.cell? ⟨g, o + 2, none⟩ = some (.int .i64 x.num) ∧ W.cell? ⟨g, o + 3, none⟩ = some (.int .i64 x.line) ∧ W.cell? ⟨g, o + 4, none⟩ = some (vx) ∧ W.cell? ⟨g, o + 5, none⟩ = some (.int .i64 y.kind) ∧ W.cell? ⟨g, o + 6, none⟩ = some (.string y.text) ∧ W.cell? ⟨g, o + 7, none⟩ = some (.int .i64 y.num) ∧ W.cell? ⟨g, o + 8, none⟩ = some (.int .i64 y.line) ∧ W.cell? ⟨g, o + 9, none⟩ = some (vy)) ∧ Below w0.heap.size w0 W) := Lib.hid (fun W hW => ⟨⟨subw_below hW _ _ _ e4, subw_below hW _ _ _ e1, subw_below hW _ _ _ Cx.out.1, subw_below hW _ _ _ Cx.out.2.1, subw_below hW _ _ _ Cx.out.2.2.1, subw_below hW _ _ _ Cx.out.2.2.2.1, subw_below hW _ _ _ Cx.out.2.2.2.2, subw_below hW _ _ _ Cy.out.1, subw_below hW _ _ _ Cy.out.2.1, subw_below hW _ _ _ Cy.out.2.2.1, subw_below hW _ _ _ Cy.out.2.2.2.1, subw_below hW _ _ _ Cy.out.2.2.2.2⟩, hW⟩)
  clear hw0 hE e0 e1 e2 e3 e4 HE Cx Cy
  go_region_held3 (fun W => (W.cell? ⟨E, 4, none⟩ = some (.slice (some ⟨g, o, none⟩) 2 c) ∧ W.cell? ⟨E, 1, none⟩ = some (.string t.text) ∧ W.cell? ⟨g, o, none⟩ = some (.int .i64 x.kind) ∧ W.cell? ⟨g, o + 1, none⟩ = some (.string x.text) ∧ W.cell? ⟨g, o + 2, none⟩ = some (.int .i64 x.num) ∧ W.cell? ⟨g, o + 3, none⟩ = some (.int .i64 x.line) ∧ W.cell? ⟨g, o + 4, none⟩ = some (vx) ∧ W.cell? ⟨g, o + 5, none⟩ = some (.int .i64 y.kind) ∧ W.cell? ⟨g, o + 6, none⟩ = some (.string y.text) ∧ W.cell? ⟨g, o + 7, none⟩ = some (.int .i64 y.num) ∧ W.cell? ⟨g, o + 8, none⟩ = some (.int .i64 y.line) ∧ W.cell? ⟨g, o + 9, none⟩ = some (vy)) ∧ Below w0.heap.size w0 W) (first | (with_reducible assumption) | (with_reducible exact HS.out _ (Below.refl _ _).drew) | (with_reducible exact HS.out _ (held_t (by assumption) b1)) | (with_reducible exact HS.out _ (held_t (by assumption) b2))) (first | (go_at_call 66; with_reducible refine (H1.out _ (held_b (by assumption))).mono ?_; rintro e w1 ⟨rfl, b1⟩) | (go_at_call 66; with_reducible refine (H2.out _ (held_b (by assumption))).mono ?_; rintro e w2 ⟨rfl, b2⟩))
  all_goals go_wp2
  all_goals go_ret
  all_goals exact ⟨ret_str HF.out, (below_then (below_then HB0.out.drew b1) b2)⟩
set_option maxRecDepth 100000 in
set_option maxHeartbeats 3200000 in
theorem node_12 (t : Ex.T) (h : t.kind = 12) (x y z : Ex.T) (hks : t.kids = [x, y, z]) (h1 : AtC x) (z1 : ((str8 (x.fit 13)).size : Int) ≤ 1048576) (h2 : AtC y) (z2 : ((str8 (y.fit 1)).size : Int) ≤ 1048576) (h3 : AtC z) (z3 : ((str8 (z.fit 0)).size : Int) ≤ 1048576) (zt : (t.text.size : Int) ≤ 128) (HF : Hid (str8 (x.fit 13) ++ (⟨#[91]⟩ : ByteArray) ++ str8 (y.fit 1) ++ (⟨#[32, 58, 32]⟩ : ByteArray) ++ str8 (z.fit 0) ++ (⟨#[93]⟩ : ByteArray) = str8 t.form)) : NodeC t := by
  intro w v hk
  unfold RetT
  rw [hks] at hk
  obtain ⟨g, o, c, vx, vy, vz, rfl, ⟨cx, kx⟩, ⟨cy, ky⟩, cz, kz⟩ := kids_three hk
  have hb0 := bl1 w (.cells #[.int .i64 12, .string t.text, .int .i64 t.num, .int .i64 t.line, .slice (some ⟨g, o, none⟩) 3 c] 45)
  have he := CellsE.new w t (.slice (some ⟨g, o, none⟩) 3 c) 45
  rw [h] at he
  have HE := Lib.hid he
  have Cx := Lib.hid (cx.later hb0)
  have Cy := Lib.hid (cy.later hb0)
  have Cz := Lib.hid (cz.later hb0)
  have H1 := Lib.hid (at_c h1 (kx.later hb0) (13))
  have H2 := Lib.hid (at_c h2 (ky.later hb0) (1))
  have H3 := Lib.hid (at_c h3 (kz.later hb0) (0))
  have HB0 := Lib.hid hb0
  obtain ⟨w0, hw0⟩ : ∃ W, w.alloc (.cells #[.int .i64 12, .string t.text, .int .i64 t.num, .int .i64 t.line, .slice (some ⟨g, o, none⟩) 3 c] 45) = W := ⟨_, rfl⟩
  rw [hw0] at HE HB0 H1 H2 H3 Cx Cy Cz
  have HW0 := Lib.hid hw0
  generalize str8 (x.fit 13) = s1 at H1 HF z1
  generalize str8 (y.fit 1) = s2 at H2 HF z2
  generalize str8 (z.fit 0) = s3 at H3 HF z3
  clear hk hks he hw0 cx kx cy ky cz kz hb0 h1 h2 h3
  go_enter Try.func40, Try.ntmps40
  go_wp2_with fail
  have c1 := cat_run (s1) ((⟨#[91]⟩ : ByteArray)) (by have l0 : (⟨#[91]⟩ : ByteArray).size = 1 := rfl; omega)
  have c2 := cat_run (s1 ++ (⟨#[91]⟩ : ByteArray)) (s2) (by simp only [ByteArray.size_append]; have l0 : (⟨#[91]⟩ : ByteArray).size = 1 := rfl; omega)
  have c3 := cat_run (s1 ++ (⟨#[91]⟩ : ByteArray) ++ s2) ((⟨#[32, 58, 32]⟩ : ByteArray)) (by simp only [ByteArray.size_append]; have l0 : (⟨#[91]⟩ : ByteArray).size = 1 := rfl; have l1 : (⟨#[32, 58, 32]⟩ : ByteArray).size = 3 := rfl; omega)
  have c4 := cat_run (s1 ++ (⟨#[91]⟩ : ByteArray) ++ s2 ++ (⟨#[32, 58, 32]⟩ : ByteArray)) (s3) (by simp only [ByteArray.size_append]; have l0 : (⟨#[91]⟩ : ByteArray).size = 1 := rfl; have l1 : (⟨#[32, 58, 32]⟩ : ByteArray).size = 3 := rfl; omega)
  have c5 := cat_run (s1 ++ (⟨#[91]⟩ : ByteArray) ++ s2 ++ (⟨#[32, 58, 32]⟩ : ByteArray) ++ s3) ((⟨#[93]⟩ : ByteArray)) (by simp only [ByteArray.size_append]; have l0 : (⟨#[91]⟩ : ByteArray).size = 1 := rfl; have l1 : (⟨#[32, 58, 32]⟩ : ByteArray).size = 3 := rfl; have l2 : (⟨#[93]⟩ : ByteArray).size = 1 := rfl; omega)
  obtain ⟨e0, e1, e2, e3, e4⟩ := HE.out
  obtain ⟨E, hE⟩ : ∃ n, w.heap.size = n := ⟨_, rfl⟩
  have hw0 := HW0.out
  rw [hw0, hE]
  rw [hE] at e1 e4
  have HS : Hid (∀ W, Below w0.heap.size w0 W → (W.cell? ⟨E, 4, none⟩ = some (.slice (some ⟨g, o, none⟩) 3 c) ∧ W.cell? ⟨E, 1, none⟩ = some (.string t.text) ∧ W.cell? ⟨g, o, none⟩ = some (.int .i64 x.kind) ∧ W.cell? ⟨g, o + 1, none⟩ = some (.string x.text) ∧ W.cell? ⟨g, o + 2, none⟩ = some (.int .i64 x.num) ∧ W.cell? ⟨g, o + 3, none⟩ = some (.int .i64 x.line) ∧ W.cell? ⟨g, o + 4, none⟩ = some (vx) ∧ W.cell? ⟨g, o + 5, none⟩ = some (.int .i64 y.kind) ∧ W.cell? ⟨g, o + 6, none⟩ = some (.string y.text) ∧ W.cell? ⟨g, o + 7, none⟩ = some (.int .i64 y.num) ∧ W.cell? ⟨g, o + 8, none⟩ = some (.int .i64 y.line) ∧ W.cell? ⟨g, o + 9, none⟩ = some (vy) ∧ W.cell? ⟨g, o + 10, none⟩ = some (.int .i64 z.kind) ∧ W.cell? ⟨g, o + 11, none⟩ = some (.string z.text) ∧ W.cell? ⟨g, o + 12, none⟩ = some (.int .i64 z.num) ∧ W.cell? ⟨g, o + 13, none⟩ = some (.int .i64 z.line) ∧ W.cell? ⟨g, o + 14, none⟩ = some (vz)) ∧ Below w0.heap.size w0 W) := Lib.hid (fun W hW => ⟨⟨subw_below hW _ _ _ e4, subw_below hW _ _ _ e1, subw_below hW _ _ _ Cx.out.1, subw_below hW _ _ _ Cx.out.2.1, subw_below hW _ _ _ Cx.out.2.2.1, subw_below hW _ _ _ Cx.out.2.2.2.1, subw_below hW _ _ _ Cx.out.2.2.2.2, subw_below hW _ _ _ Cy.out.1, subw_below hW _ _ _ Cy.out.2.1, subw_below hW _ _ _ Cy.out.2.2.1, subw_below hW _ _ _ Cy.out.2.2.2.1, subw_below hW _ _ _ Cy.out.2.2.2.2, subw_below hW _ _ _ Cz.out.1, subw_below hW _ _ _ Cz.out.2.1, subw_below hW _ _ _ Cz.out.2.2.1, subw_below hW _ _ _ Cz.out.2.2.2.1, subw_below hW _ _ _ Cz.out.2.2.2.2⟩, hW⟩)
  clear hw0 hE e0 e1 e2 e3 e4 HE Cx Cy Cz
  go_region_held3 (fun W => (W.cell? ⟨E, 4, none⟩ = some (.slice (some ⟨g, o, none⟩) 3 c) ∧ W.cell? ⟨E, 1, none⟩ = some (.string t.text) ∧ W.cell? ⟨g, o, none⟩ = some (.int .i64 x.kind) ∧ W.cell? ⟨g, o + 1, none⟩ = some (.string x.text) ∧ W.cell? ⟨g, o + 2, none⟩ = some (.int .i64 x.num) ∧ W.cell? ⟨g, o + 3, none⟩ = some (.int .i64 x.line) ∧ W.cell? ⟨g, o + 4, none⟩ = some (vx) ∧ W.cell? ⟨g, o + 5, none⟩ = some (.int .i64 y.kind) ∧ W.cell? ⟨g, o + 6, none⟩ = some (.string y.text) ∧ W.cell? ⟨g, o + 7, none⟩ = some (.int .i64 y.num) ∧ W.cell? ⟨g, o + 8, none⟩ = some (.int .i64 y.line) ∧ W.cell? ⟨g, o + 9, none⟩ = some (vy) ∧ W.cell? ⟨g, o + 10, none⟩ = some (.int .i64 z.kind) ∧ W.cell? ⟨g, o + 11, none⟩ = some (.string z.text) ∧ W.cell? ⟨g, o + 12, none⟩ = some (.int .i64 z.num) ∧ W.cell? ⟨g, o + 13, none⟩ = some (.int .i64 z.line) ∧ W.cell? ⟨g, o + 14, none⟩ = some (vz)) ∧ Below w0.heap.size w0 W) (first | (with_reducible assumption) | (with_reducible exact HS.out _ (Below.refl _ _).drew) | (with_reducible exact HS.out _ (held_t (by assumption) b1)) | (with_reducible exact HS.out _ (held_t (by assumption) b2)) | (with_reducible exact HS.out _ (held_t (by assumption) b3))) (first | (go_at_call 66; with_reducible refine (H1.out _ (held_b (by assumption))).mono ?_; rintro e w1 ⟨rfl, b1⟩) | (go_at_call 66; with_reducible refine (H2.out _ (held_b (by assumption))).mono ?_; rintro e w2 ⟨rfl, b2⟩) | (go_at_call 66; with_reducible refine (H3.out _ (held_b (by assumption))).mono ?_; rintro e w3 ⟨rfl, b3⟩))
  all_goals go_wp2
  all_goals go_ret
  all_goals exact ⟨ret_str HF.out, (below_then (below_then (below_then HB0.out.drew b1) b2) b3)⟩
end Go.Proofs.Ytiiogpafgoeblaa
