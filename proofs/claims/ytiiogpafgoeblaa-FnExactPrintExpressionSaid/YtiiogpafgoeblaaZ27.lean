/- Joined texts: Y9, G17. No conditions besides those that each states. -/
import Derived.Test.YtiiogpafgoeblaaZ14
import Derived.Test.YtiiogpafgoeblaaZ19
/- The reference model's printer: to, not. No conditions. -/
namespace Go.Proofs.Ytiiogpafgoeblaa
open Go.RowKit
set_option linter.unusedVariables false

set_option maxRecDepth 100000 in
set_option maxHeartbeats 3200000 in
theorem node_9a (t : Ex.T) (h : t.kind = 9) (x y : Ex.T) (hks : t.kids = [x, y]) (h1 : AtC x) (z1 : ((str8 (x.fit 4)).size : Int) ≤ 1048576) (h2 : AtC y) (z2 : ((str8 (y.fit 5)).size : Int) ≤ 1048576) (zt : (t.text.size : Int) ≤ 128) (HF : Hid (str8 (x.fit 4) ++ (⟨#[32, 116, 111, 32]⟩ : ByteArray) ++ str8 (y.fit 5) = str8 t.form)) : NodeC t := by
  intro w v hk
  unfold RetT
  rw [hks] at hk
  obtain ⟨g, o, c, vx, vy, rfl, ⟨cx, kx⟩, cy, ky⟩ := kids_two hk
  have hb0 := bl1 w (.cells #[.int .i64 9, .string t.text, .int .i64 t.num, .int .i64 t.line, .slice (some ⟨g, o, none⟩) 2 c] 45)
  have he := CellsE.new w t (.slice (some ⟨g, o, none⟩) 2 c) 45
  rw [h] at he
  have HE := Lib.hid he
  have Cx := Lib.hid (cx.later hb0)
  have Cy := Lib.hid (cy.later hb0)
  have H1 := Lib.hid (at_c h1 (kx.later hb0) (4))
  have H2 := Lib.hid (at_c h2 (ky.later hb0) (5))
  have HB0 := Lib.hid hb0
  obtain ⟨w0, hw0⟩ : ∃ W, w.alloc (.cells #[.int .i64 9, .string t.text, .int .i64 t.num, .int .i64 t.line, .slice (some ⟨g, o, none⟩) 2 c] 45) = W := ⟨_, rfl⟩
  rw [hw0] at HE HB0 H1 H2 Cx Cy
  have HW0 := Lib.hid hw0
  generalize str8 (x.fit 4) = s1 at H1 HF z1
  generalize str8 (y.fit 5) = s2 at H2 HF z2
  clear hk hks he hw0 cx kx cy ky hb0 h1 h2
  go_enter Try.func40, Try.ntmps40
  go_wp2_with fail
  have c1 := cat_run (s1) ((⟨#[32, 116, 111, 32]⟩ : ByteArray)) (by have l0 : (⟨#[32, 116, 111, 32]⟩ : ByteArray).size = 4 := rfl; omega)
  have c2 := cat_run (s1 ++ (⟨#[32, 116, 111, 32]⟩ : ByteArray)) (s2) (by simp only [ByteArray.size_append]; have l0 : (⟨#[32, 116, 111, 32]⟩ : ByteArray).size = 4 := rfl; omega)
  obtain ⟨e0, e1, e2, e3, e4⟩ := HE.out
  obtain ⟨E, hE⟩ : ∃ n, w.heap.size = n := ⟨_, rfl⟩
  have hw0 := HW0.out
  rw [hw0, hE]
  rw [hE] at e1 e4
  have HS : Hid (∀ W, Below w0.heap.size w0 W → (W.cell? ⟨E, 4, none⟩ = some (.slice (some ⟨g, o, none⟩) 2 c) ∧ W.cell? ⟨E, 1, none⟩ = some (.string t.text) ∧ W.cell? ⟨g, o, none⟩ = some (.int .i64 x.kind) ∧ W.cell? ⟨g, o + 1, none⟩ = some (.string x.text) ∧ W.cell? ⟨g, o + 2, none⟩ = some (.int .i64 x.num) ∧ W.cell? ⟨g, o + 3, none⟩ = some (.int .i64 x.line) ∧ W.cell? ⟨g, o + 4, none⟩ = some (vx) ∧ W.cell? ⟨g, o + 5, none⟩ = some (.int .i64 y.kind) ∧ W.cell? ⟨g, o + 6, none⟩ = some (.string y.text) ∧ W.cell? ⟨g, o + 7, none⟩ = some (.int .i64 y.num) ∧ W.cell? ⟨g, o + 8, none⟩ = some (.int .i64 y.line) ∧ W.cell? ⟨g, o + 9, none⟩ = some (vy)) ∧ Below w0.heap.size w0 W) := Lib.hid (fun W hW => ⟨⟨subw_below hW _ _ _ e4, subw_below hW _ _ _ e1, subw_below hW _ _ _ Cx.out.1, subw_below hW _ _ _ Cx.out.2.1, subw_below hW _ _ _ Cx.out.2.2.1, subw_below hW _ _ _ Cx.out.2.2.2.1, subw_below hW _ _ _ Cx.out.2.2.2.2, subw_below hW _ _ _ Cy.out.1, subw_below hW _ _ _ Cy.out.2.1, subw_below hW _ _ _ Cy.out.2.2.1, subw_below hW _ _ _ Cy.out.2.2.2.1, subw_below hW _ _ _ Cy.out.2.2.2.2⟩, hW⟩)
  clear hw0 hE e0 e1 e2 e3 e4 HE Cx Cy
  go_region_held3 (fun W => (W.cell? ⟨E, 4, none⟩ = some (.slice (some ⟨g, o, none⟩) 2 c) ∧ W.cell? ⟨E, 1, none⟩ = some (.string t.text) ∧ W.cell? ⟨g, o, none⟩ = some (.int .i64 x.kind) ∧ W.cell? ⟨g, o + 1, none⟩ = some (.string x.text) ∧ W.cell? ⟨g, o + 2, none⟩ = some (.int .i64 x.num) ∧ W.cell? ⟨g, o + 3, none⟩ = some (.int .i64 x.line) ∧ W.cell? ⟨g, o + 4, none⟩ = some (vx) ∧ W.cell? ⟨g, o + 5, none⟩ = some (.int .i64 y.kind) ∧ W.cell? ⟨g, o + 6, none⟩ = some (.string y.text) ∧ W.cell? ⟨g, o + 7, none⟩ = some (.int .i64 y.num) ∧ W.cell? ⟨g, o + 8, none⟩ = some (.int .i64 y.line) ∧ W.cell? ⟨g, o + 9, none⟩ = some (vy)) ∧ Below w0.heap.size w0 W) (first | (with_reducible assumption) | (with_reducible exact HS.out _ (Below.refl _ _).drew) | (with_reducible exact HS.out _ (held_t (by assumption) b1)) | (with_reducible exact HS.out _ (held_t (by assumption) b2))) (first | (go_at_call 66; with_reducible refine (H1.out _ (held_b (by assumption))).mono ?_; rintro e w1 ⟨rfl, b1⟩) | (go_at_call 66; with_reducible refine (H2.out _ (held_b (by assumption))).mono ?_; rintro e w2 ⟨rfl, b2⟩))
  obtain ⟨⟨f4, f1, _⟩, _⟩ := HS.out _ (below_then (below_then (Below.refl _ w0).drew b1) b2)
  go_wp2
  go_ret
  exact ⟨ret_str HF.out, below_then (below_then HB0.out.drew b1) b2⟩
set_option maxRecDepth 100000 in
set_option maxHeartbeats 3200000 in
theorem node_9b (t : Ex.T) (h : t.kind = 9) (x y z : Ex.T) (hks : t.kids = [x, y, z]) (h1 : AtC x) (z1 : ((str8 (x.fit 4)).size : Int) ≤ 1048576) (h2 : AtC y) (z2 : ((str8 (y.fit 5)).size : Int) ≤ 1048576) (h3 : AtC z) (z3 : ((str8 (z.fit 5)).size : Int) ≤ 1048576) (zt : (t.text.size : Int) ≤ 128) (HF : Hid (str8 (x.fit 4) ++ (⟨#[32, 116, 111, 32]⟩ : ByteArray) ++ str8 (y.fit 5) ++ (⟨#[32, 98, 121, 32]⟩ : ByteArray) ++ str8 (z.fit 5) = str8 t.form)) : NodeC t := by
  intro w v hk
  unfold RetT
  rw [hks] at hk
  obtain ⟨g, o, c, vx, vy, vz, rfl, ⟨cx, kx⟩, ⟨cy, ky⟩, cz, kz⟩ := kids_three hk
  have hb0 := bl1 w (.cells #[.int .i64 9, .string t.text, .int .i64 t.num, .int .i64 t.line, .slice (some ⟨g, o, none⟩) 3 c] 45)
  have he := CellsE.new w t (.slice (some ⟨g, o, none⟩) 3 c) 45
  rw [h] at he
  have HE := Lib.hid he
  have Cx := Lib.hid (cx.later hb0)
  have Cy := Lib.hid (cy.later hb0)
  have Cz := Lib.hid (cz.later hb0)
  have H1 := Lib.hid (at_c h1 (kx.later hb0) (4))
  have H2 := Lib.hid (at_c h2 (ky.later hb0) (5))
  have H3 := Lib.hid (at_c h3 (kz.later hb0) (5))
  have HB0 := Lib.hid hb0
  obtain ⟨w0, hw0⟩ : ∃ W, w.alloc (.cells #[.int .i64 9, .string t.text, .int .i64 t.num, .int .i64 t.line, .slice (some ⟨g, o, none⟩) 3 c] 45) = W := ⟨_, rfl⟩
  rw [hw0] at HE HB0 H1 H2 H3 Cx Cy Cz
  have HW0 := Lib.hid hw0
  generalize str8 (x.fit 4) = s1 at H1 HF z1
  generalize str8 (y.fit 5) = s2 at H2 HF z2
  generalize str8 (z.fit 5) = s3 at H3 HF z3
  clear hk hks he hw0 cx kx cy ky cz kz hb0 h1 h2 h3
  go_enter Try.func40, Try.ntmps40
  go_wp2_with fail
  have c1 := cat_run (s1) ((⟨#[32, 116, 111, 32]⟩ : ByteArray)) (by have l0 : (⟨#[32, 116, 111, 32]⟩ : ByteArray).size = 4 := rfl; omega)
  have c2 := cat_run (s1 ++ (⟨#[32, 116, 111, 32]⟩ : ByteArray)) (s2) (by simp only [ByteArray.size_append]; have l0 : (⟨#[32, 116, 111, 32]⟩ : ByteArray).size = 4 := rfl; omega)
  have c3 := cat_run (s1 ++ (⟨#[32, 116, 111, 32]⟩ : ByteArray) ++ s2) ((⟨#[32, 98, 121, 32]⟩ : ByteArray)) (by simp only [ByteArray.size_append]; have l0 : (⟨#[32, 116, 111, 32]⟩ : ByteArray).size = 4 := rfl; have l1 : (⟨#[32, 98, 121, 32]⟩ : ByteArray).size = 4 := rfl; omega)
  have c4 := cat_run (s1 ++ (⟨#[32, 116, 111, 32]⟩ : ByteArray) ++ s2 ++ (⟨#[32, 98, 121, 32]⟩ : ByteArray)) (s3) (by simp only [ByteArray.size_append]; have l0 : (⟨#[32, 116, 111, 32]⟩ : ByteArray).size = 4 := rfl; have l1 : (⟨#[32, 98, 121, 32]⟩ : ByteArray).size = 4 := rfl; omega)
  obtain ⟨e0, e1, e2, e3, e4⟩ := HE.out
  obtain ⟨E, hE⟩ : ∃ n, w.heap.size = n := ⟨_, rfl⟩
  have hw0 := HW0.out
  rw [hw0, hE]
  rw [hE] at e1 e4
  have HS : Hid (∀ W, Below w0.heap.size w0 W → (W.cell? ⟨E, 4, none⟩ = some (.slice (some ⟨g, o, none⟩) 3 c) ∧ W.cell? ⟨E, 1, none⟩ = some (.string t.text) ∧ W.cell? ⟨g, o, none⟩ = some (.int .i64 x.kind) ∧ W.cell? ⟨g, o + 1, none⟩ = some (.string x.text) ∧ W.cell? ⟨g, o + 2, none⟩ = some (.int .i64 x.num) ∧ W.cell? ⟨g, o + 3, none⟩ = some (.int .i64 x.line) ∧ W.cell? ⟨g, o + 4, none⟩ = some (vx) ∧ W.cell? ⟨g, o + 5, none⟩ = some (.int .i64 y.kind) ∧ W.cell? ⟨g, o + 6, none⟩ = some (.string y.text) ∧ W.cell? ⟨g, o + 7, none⟩ = some (.int .i64 y.num) ∧ W.cell? ⟨g, o + 8, none⟩ = some (.int .i64 y.line) ∧ W.cell? ⟨g, o + 9, none⟩ = some (vy) ∧ W.cell? ⟨g, o + 10, none⟩ = some (.int .i64 z.kind) ∧ W.cell? ⟨g, o + 11, none⟩ = some (.string z.text) ∧ W.cell? ⟨g, o + 12, none⟩ = some (.int .i64 z.num) ∧ W.cell? ⟨g, o + 13, none⟩ = some (.int .i64 z.line) ∧ W.cell? ⟨g, o + 14, none⟩ = some (vz)) ∧ Below w0.heap.size w0 W) := Lib.hid (fun W hW => ⟨⟨subw_below hW _ _ _ e4, subw_below hW _ _ _ e1, subw_below hW _ _ _ Cx.out.1, subw_below hW _ _ _ Cx.out.2.1, subw_below hW _ _ _ Cx.out.2.2.1, subw_below hW _ _ _ Cx.out.2.2.2.1, subw_below hW _ _ _ Cx.out.2.2.2.2, subw_below hW _ _ _ Cy.out.1, subw_below hW _ _ _ Cy.out.2.1, subw_below hW _ _ _ Cy.out.2.2.1, subw_below hW _ _ _ Cy.out.2.2.2.1, subw_below hW _ _ _ Cy.out.2.2.2.2, subw_below hW _ _ _ Cz.out.1, subw_below hW _ _ _ Cz.out.2.1, subw_below hW _ _ _ Cz.out.2.2.1, subw_below hW _ _ _ Cz.out.2.2.2.1, subw_below hW _ _ _ Cz.out.2.2.2.2⟩, hW⟩)
  clear hw0 hE e0 e1 e2 e3 e4 HE Cx Cy Cz
  go_region_held3 (fun W => (W.cell? ⟨E, 4, none⟩ = some (.slice (some ⟨g, o, none⟩) 3 c) ∧ W.cell? ⟨E, 1, none⟩ = some (.string t.text) ∧ W.cell? ⟨g, o, none⟩ = some (.int .i64 x.kind) ∧ W.cell? ⟨g, o + 1, none⟩ = some (.string x.text) ∧ W.cell? ⟨g, o + 2, none⟩ = some (.int .i64 x.num) ∧ W.cell? ⟨g, o + 3, none⟩ = some (.int .i64 x.line) ∧ W.cell? ⟨g, o + 4, none⟩ = some (vx) ∧ W.cell? ⟨g, o + 5, none⟩ = some (.int .i64 y.kind) ∧ W.cell? ⟨g, o + 6, none⟩ = some (.string y.text) ∧ W.cell? ⟨g, o + 7, none⟩ = some (.int .i64 y.num) ∧ W.cell? ⟨g, o + 8, none⟩ = some (.int .i64 y.line) ∧ W.cell? ⟨g, o + 9, none⟩ = some (vy) ∧ W.cell? ⟨g, o + 10, none⟩ = some (.int .i64 z.kind) ∧ W.cell? ⟨g, o + 11, none⟩ = some (.string z.text) ∧ W.cell? ⟨g, o + 12, none⟩ = some (.int .i64 z.num) ∧ W.cell? ⟨g, o + 13, none⟩ = some (.int .i64 z.line) ∧ W.cell? ⟨g, o + 14, none⟩ = some (vz)) ∧ Below w0.heap.size w0 W) (first | (with_reducible assumption) | (with_reducible exact HS.out _ (Below.refl _ _).drew) | (with_reducible exact HS.out _ (held_t (by assumption) b1)) | (with_reducible exact HS.out _ (held_t (by assumption) b2))) (first | (go_at_call 66; with_reducible refine (H1.out _ (held_b (by assumption))).mono ?_; rintro e w1 ⟨rfl, b1⟩) | (go_at_call 66; with_reducible refine (H2.out _ (held_b (by assumption))).mono ?_; rintro e w2 ⟨rfl, b2⟩))
  obtain ⟨⟨f4, f1, _, _, _, _, _, _, _, _, _, _, z0, z1, z2, z3, z4⟩, hb2⟩ := HS.out _ (below_then (below_then (Below.refl _ w0).drew b1) b2)
  have HB2 := Lib.hid hb2
  clear hb2
  go_wp2_with (go_at_call 66; refine (H3.out _ HB2.out).mono ?_; rintro e w3 ⟨rfl, b3⟩)
  go_ret
  exact ⟨ret_str HF.out, below_then (below_then (below_then HB0.out.drew b1) b2) b3⟩
set_option maxRecDepth 100000 in
set_option maxHeartbeats 3200000 in
theorem node_27 (t : Ex.T) (h : t.kind = 27) (x : Ex.T) (hks : t.kids = [x]) (h1 : AtC x) (z1 : ((str8 (x.fit 12)).size : Int) ≤ 1048576) (zt : (t.text.size : Int) ≤ 128) (HF : Hid ((⟨#[110, 111, 116, 32]⟩ : ByteArray) ++ str8 (x.fit 12) = str8 t.form)) : NodeC t := by
  intro w v hk
  unfold RetT
  rw [hks] at hk
  obtain ⟨g, o, c, vx, rfl, cx, kx⟩ := kids_one hk
  have hb0 := bl1 w (.cells #[.int .i64 27, .string t.text, .int .i64 t.num, .int .i64 t.line, .slice (some ⟨g, o, none⟩) 1 c] 45)
  have he := CellsE.new w t (.slice (some ⟨g, o, none⟩) 1 c) 45
  rw [h] at he
  have HE := Lib.hid he
  have Cx := Lib.hid (cx.later hb0)
  have H1 := Lib.hid (at_c h1 (kx.later hb0) (12))
  have HB0 := Lib.hid hb0
  generalize str8 (x.fit 12) = s1 at H1 HF z1
  clear hk hks he cx kx hb0 h1
  obtain ⟨x0, x1, x2, x3, x4⟩ := Cx.out
  clear HE Cx
  go_enter Try.func40, Try.ntmps40
  go_wp2_with (go_at_call 66; refine (H1.out _ (Below.refl _ _)).mono ?_; rintro e w1 ⟨rfl, b1⟩)
  go_ret
  exact ⟨ret_str HF.out, below_then HB0.out b1⟩
end Go.Proofs.Ytiiogpafgoeblaa
/- Trees that are valid, in the reference model: every tree; IsValidExpr. No conditions. -/
namespace Go.Proofs.Ytiiogpafgoeblaa
open Go.RowKit
set_option linter.unusedVariables false

theorem spec_valid : ∀ (N : Nat) (t : Ex.T), t.count ≤ N → t.bulk ≤ 1048576 → ∀ (d : Int), 0 ≤ d → d ≤ 1000 → ∀ (w : World) (v : Value), Kids w v t.kids → Calls Try.prog 60 #[exV t v, .int .i64 d] w (RetV w (t.valid d)) := by
  intro N
  induction N with
  | zero => intro t h; have := Ex.count_pos t; omega
  | succ N ih =>
    intro t hN hb d d0 d1 w v hk
    have hbe := bulk_eq t
    obtain ⟨a, c, rfl⟩ := kids_len hk
    have hln : t.kids.length ≤ 1048576 := by omega
    have hts : (t.text.size : Int) ≤ 1048576 := by omega
    have HC : Hid (CountsC t (.slice a t.kids.length c) (Ex.kidsOf t.kind).1 (Ex.kidsOf t.kind).2) := Lib.hid fun wr => spec_counts t _ wr
    have HW0 : WordsC t (.slice a t.kids.length c) (Ex.words t.kind t.text) := fun wr => spec_words t _ wr hts
    have HV := Ex.valid_eq t d
    unfold Ex.headB at HV
    by_cases q0 : d ≤ 40
    case neg => rw [show t.valid d = false by rw [HV, decide_eq_false q0]; simp only [Bool.false_and]]; exact valid_h0 t a c w d _ _ hln d0 d1 HC  (by omega)
    by_cases q1 : 1 ≤ t.kind
    case neg => rw [show t.valid d = false by rw [HV, decide_eq_false q1]; simp only [Bool.false_and, Bool.and_false]]; exact valid_h1 t a c w d _ _ hln d0 d1 HC q0 (by omega)
    by_cases q2 : t.kind ≤ 29
    case neg => rw [show t.valid d = false by rw [HV, decide_eq_false q2]; simp only [Bool.false_and, Bool.and_false]]; exact valid_h2 t a c w d _ _ hln d0 d1 HC q0 q1 (by omega)
    by_cases q3 : 0 ≤ t.line
    case neg => rw [show t.valid d = false by rw [HV, decide_eq_false q3]; simp only [Bool.false_and, Bool.and_false]]; exact valid_h3 t a c w d _ _ hln d0 d1 HC q0 q1 q2 (by omega)
    by_cases q4 : (Ex.kidsOf t.kind).1 ≤ t.kids.length
    case neg => rw [show t.valid d = false by rw [HV, decide_eq_false q4]; simp only [Bool.false_and, Bool.and_false]]; exact valid_h4 t a c w d _ _ hln d0 d1 HC q0 q1 q2 q3 (by omega)
    by_cases q5 : (t.kids.length : Int) ≤ (Ex.kidsOf t.kind).2
    case neg => rw [show t.valid d = false by rw [HV, decide_eq_false q5]; simp only [Bool.false_and, Bool.and_false]]; exact valid_h5 t a c w d _ _ hln d0 d1 HC q0 q1 q2 q3 q4 (by omega)
    rw [decide_eq_true q0, decide_eq_true q1, decide_eq_true q2, decide_eq_true q3, decide_eq_true q4, decide_eq_true q5] at HV
    cases hw : Ex.words t.kind t.text
    · rw [hw] at HV HW0
      rw [show t.valid d = false by rw [HV]; simp only [Bool.false_and, Bool.and_false]]
      exact valid_h6 t a c w d _ _ hln d0 d1 HC (Lib.hid HW0) q0 q1 q2 q3 q4 q5
    rw [hw] at HV HW0
    have HK := Lib.hid hk
    have HI : Hid (KidsC t (d + 1)) := Lib.hid fun x hx wx vx hkx => ih x (by have := kids_count hx; omega) (by have := Ex.bulks_mem hx; omega) (d + 1) (by omega) (by omega) wx vx hkx
    simp only [Bool.and_self, Bool.true_and] at HV
    by_cases k1 : t.kind = 1
    · rw [if_pos k1] at HV
      by_cases n0 : 0 ≤ t.num
      case neg => rw [show t.valid d = false by rw [HV, decide_eq_false n0]; simp only [Bool.false_and]]; exact valid_n1a t a c w d _ _ hln d0 d1 HC (Lib.hid HW0) q0 q1 q2 q3 q4 q5 (beq_iff_eq.2 k1) (by omega)
      by_cases n1 : t.num ≤ 999999999999
      case neg => rw [show t.valid d = false by rw [HV, decide_eq_false n1]; simp only [Bool.false_and, Bool.and_false]]; exact valid_n1b t a c w d _ _ hln d0 d1 HC (Lib.hid HW0) q0 q1 q2 q3 q4 q5 (beq_iff_eq.2 k1) n0 (by omega)
      rw [show t.valid d = Ex.valids t.kids (d + 1) by rw [HV, decide_eq_true n0, decide_eq_true n1]; simp only [Bool.true_and]]
      exact valid_p1 t a c w d _ _ hln d0 d1 HC (Lib.hid HW0) q0 q1 q2 q3 q4 q5 (beq_iff_eq.2 k1) n0 n1 HK HI
    · rw [if_neg k1] at HV
      have b1 : (t.kind == 1) = false := beq_eq_false_iff_ne.2 k1
      by_cases k20 : t.kind = 20
      · rw [if_pos k20] at HV
        have b20 : (t.kind == 20) = true := beq_iff_eq.2 k20
        by_cases n0 : 0 ≤ t.num
        case neg => rw [show t.valid d = false by rw [HV, decide_eq_false n0]; simp only [Bool.false_and]]; exact valid_n20a t a c w d _ _ hln d0 d1 HC (Lib.hid HW0) q0 q1 q2 q3 q4 q5 b1 b20 (by omega)
        by_cases n1 : t.num ≤ 1
        case neg => rw [show t.valid d = false by rw [HV, decide_eq_false n1]; simp only [Bool.false_and, Bool.and_false]]; exact valid_n20b t a c w d _ _ hln d0 d1 HC (Lib.hid HW0) q0 q1 q2 q3 q4 q5 b1 b20 n0 (by omega)
        by_cases p : ((t.kids.length : Int) - 1 - t.num).tmod 2 = 0
        case neg => rw [show t.valid d = false by rw [HV, decide_eq_false p]; simp only [Bool.false_and, Bool.and_false]]; exact valid_n20c t a c w d _ _ hln d0 d1 HC (Lib.hid HW0) q0 q1 q2 q3 q4 q5 b1 b20 n0 n1 p
        by_cases m : 1 + t.num ≤ (t.kids.length : Int)
        case neg => rw [show t.valid d = false by rw [HV, decide_eq_false m]; simp only [Bool.false_and, Bool.and_false]]; exact valid_n20d t a c w d _ _ hln d0 d1 HC (Lib.hid HW0) q0 q1 q2 q3 q4 q5 b1 b20 n0 n1 p (by omega)
        rw [show t.valid d = Ex.valids t.kids (d + 1) by rw [HV, decide_eq_true n0, decide_eq_true n1, decide_eq_true p, decide_eq_true m]; simp only [Bool.true_and]]
        exact valid_p20 t a c w d _ _ hln d0 d1 HC (Lib.hid HW0) q0 q1 q2 q3 q4 q5 b1 b20 n0 n1 p m HK HI
      · rw [if_neg k20] at HV
        have b20 : (t.kind == 20) = false := beq_eq_false_iff_ne.2 k20
        by_cases n0 : t.num = 0
        · rw [show t.valid d = Ex.valids t.kids (d + 1) by rw [HV, n0]; simp only [beq_self_eq_true, Bool.true_and]]
          exact valid_px t a c w d _ _ hln d0 d1 HC (Lib.hid HW0) q0 q1 q2 q3 q4 q5 b1 b20 (by rw [n0]; simp) HK HI
        · rw [show t.valid d = false by rw [HV, beq_eq_false_iff_ne.2 n0]; simp only [Bool.false_and]]
          exact valid_nxa t a c w d _ _ hln d0 d1 HC (Lib.hid HW0) q0 q1 q2 q3 q4 q5 b1 b20 (bne_iff_ne.2 n0)
theorem spec_isvalid (t : Ex.T) (hb : t.bulk ≤ 1048576) (w : World) (v : Value) (hk : Kids w v t.kids) : Calls Try.prog 39 #[exV t v] w fun e w' => e = .returned (.bool (decide (t.count ≤ 600) && t.valid 1)) ∧ Below w.heap.size w w' := by
  have HL := Lib.hid (fun W hW => spec_leftT _ t (Nat.le_refl _) hb W v 600 (by decide) (hk.later hW))
  have HV : Hid (∀ W, Below w.heap.size w W → Calls Try.prog 60 #[exV t v, .int .i64 1] W fun e w' => e = .returned (.bool (t.valid 1)) ∧ Below W.heap.size W w') := Lib.hid (fun W hW => spec_valid _ t (Nat.le_refl _) hb 1 (by decide) (by decide) W v (hk.later hW))
  obtain ⟨a, c, rfl⟩ := kids_len hk
  have HE := Lib.hid (CellsE.new w t (.slice a t.kids.length c) 45)
  by_cases hc : t.count ≤ 600
  · rw [decide_eq_true hc, Bool.true_and]
    rw [szR_yes hc] at HL
    have l1 : decide (0 ≤ ((600 - t.count : Nat) : Int)) = true := decide_eq_true (by omega)
    generalize ((600 - t.count : Nat) : Int) = left at HL l1
    generalize t.valid 1 = r at HV ⊢
    clear hb hk hc
    go_enter Try.func39, Try.ntmps39
    go_wp2_with fail
    refine (HL.out _ (bl1 _ _)).mono ?_
    rintro e w1 ⟨rfl, b1⟩
    have B1 := Lib.hid (below_then (bl1 _ _) b1)
    obtain ⟨e0, e1, e2, e3, e4⟩ := HE.out.later b1
    clear b1
    go_wp2_with fail
    refine (HV.out _ B1.out).mono ?_
    rintro e w2 ⟨rfl, b2⟩
    have B2 := Lib.hid (below_then B1.out b2)
    clear b2 e0 e1 e2 e3 e4
    go_wp2
    go_ret
    exact ⟨rfl, B2.out⟩
  · rw [decide_eq_false hc, Bool.false_and]
    rw [szR_no hc] at HL
    clear hb hk hc HV
    go_enter Try.func39, Try.ntmps39
    go_wp2_with fail
    refine (HL.out _ (bl1 _ _)).mono ?_
    rintro e w1 ⟨rfl, b1⟩
    have B1 := Lib.hid (below_then (bl1 _ _) b1)
    clear b1
    go_wp2
    go_ret
    exact ⟨rfl, B1.out⟩
end Go.Proofs.Ytiiogpafgoeblaa
