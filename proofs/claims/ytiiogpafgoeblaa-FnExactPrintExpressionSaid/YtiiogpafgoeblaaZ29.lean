/- Joined texts: Y18. No conditions besides those that each states. -/
import Derived.Test.YtiiogpafgoeblaaZ25
import Derived.Test.YtiiogpafgoeblaaZ28
/- The program's printer: operators and suffixes. No conditions. -/
namespace Go.Proofs.Ytiiogpafgoeblaa
open Go.RowKit
set_option linter.unusedVariables false

theorem kid_c (t : Ex.T) (k : Nat) (x : Ex.T) (hk : k < t.kids.length) (hx : t.kids[k] = x) (hl : t.kids.length ≤ 24) (hF : FitC x) (ki : Int) (hki : (k : Int) = ki) (n : Int) (w : World) (g o : Nat) (ht : TreeAt w g o t) :
    ∀ W, Below w.heap.size w W → Calls Try.prog 111 #[.pointer (some ⟨g, o, none⟩), .int .i64 ki, .int .i64 n] W fun e w' => e = .returned (.string (str8 (x.fit n))) ∧ Below W.heap.size W w' := fun W hW => by
  have h := impl_kid t k hk hl (by rw [hx]; exact hF) n W g o (ht.later hW)
  rw [hx, hki] at h
  exact h
theorem impl_levels (s : ByteArray) (z lo hi : Int) (hz : Ex.lvl s.data.toList = z) (q0 : 0 < z) (q1 : z ≤ 11) (hlo : Ex.lowL z = lo) (hhi : Ex.lowR z = hi) (w : World) : Calls Try.prog 112 #[.string s] w fun e w' => e = .returned (.tuple #[.int .i64 lo, .int .i64 hi]) ∧ Below w.heap.size w w' := by
  have HC := Lib.hid (fun wr => impl_level s wr)
  rw [hz] at HC
  subst hlo hhi
  unfold Ex.lowL Ex.lowR
  by_cases h3 : z = 3
  · subst h3
    rw [if_pos (.inl rfl), if_pos (.inl rfl)]
    clear hz
    go_enter Try.func112, Try.ntmps112
    go_wp2_with (go_at_call 85; refine (HC.out _).mono ?_; rintro e w1 ⟨rfl, rfl⟩)
    go_ret2
    exact ⟨rfl, Below.refl _ _⟩
  · by_cases h10 : z = 10
    · subst h10
      rw [if_pos (.inr rfl), if_pos (.inr rfl)]
      clear hz
      go_enter Try.func112, Try.ntmps112
      go_wp2_with (go_at_call 85; refine (HC.out _).mono ?_; rintro e w1 ⟨rfl, rfl⟩)
      go_ret2
      exact ⟨rfl, Below.refl _ _⟩
    · rw [if_neg (by omega), if_neg (by omega)]
      have b3 : (z == 3) = false := beq_eq_false_iff_ne.2 h3
      have b10 : (z == 10) = false := beq_eq_false_iff_ne.2 h10
      have hw1 : IntKind.i64.wrap (z + 1) = z + 1 := by rw [IntKind.wrap_i64]; omega
      clear hz h3 h10
      go_enter Try.func112, Try.ntmps112
      go_wp2_with (go_at_call 85; refine (HC.out _).mono ?_; rintro e w1 ⟨rfl, rfl⟩)
      go_ret2
      exact ⟨rfl, Below.refl _ _⟩

set_option maxRecDepth 100000 in
set_option maxHeartbeats 3200000 in
theorem suf_11 (t : Ex.T) (h : t.kind = 11) (x y : Ex.T) (hks : t.kids = [x, y]) (h1 : FitC x) (z1 : ((str8 (x.fit 13)).size : Int) ≤ 1048576) (h2 : FitC y) (z2 : ((str8 (y.fit 0)).size : Int) ≤ 1048576) (zt : (t.text.size : Int) ≤ 128) (HF : Hid (str8 (x.fit 13) ++ (⟨#[91]⟩ : ByteArray) ++ str8 (y.fit 0) ++ (⟨#[93]⟩ : ByteArray) = str8 t.form)) (w : World) (g o : Nat) (ht : TreeAt w g o t) : Calls Try.prog 93 #[.pointer (some ⟨g, o, none⟩)] w (RetT w (str8 t.form)) := by
  unfold RetT
  have hkl : t.kids.length = 2 := by rw [hks]; rfl
  obtain ⟨⟨e0, e1, e2, e3⟩, v, e4, hkk⟩ := tree_cells ht
  obtain ⟨a, c, rfl⟩ := kids_len hkk
  rw [hkl] at e4
  have H1 := Lib.hid (kid_c t 0 x (by omega) (by simp only [hks]; rfl) (by omega) h1 0 rfl (13) w g o ht)
  have H2 := Lib.hid (kid_c t 1 y (by omega) (by simp only [hks]; rfl) (by omega) h2 1 rfl (0) w g o ht)
  generalize str8 (x.fit 13) = s1 at H1 HF z1
  generalize str8 (y.fit 0) = s2 at H2 HF z2
  have HT := Lib.hid ht
  clear ht hks hkl hkk h1 h2
  go_enter Try.func93, Try.ntmps93
  go_wp2_with fail
  refine (H1.out _ (Below.refl _ _)).mono ?_
  rintro e w1 ⟨rfl, b1⟩
  have B1 := Lib.hid (b1)
  clear b1
  have e0_1 := subw_below B1.out _ _ _ e0
  have e1_1 := subw_below B1.out _ _ _ e1
  have e4_1 := subw_below B1.out _ _ _ e4
  go_wp2_with fail
  refine (H2.out _ B1.out).mono ?_
  rintro e w2 ⟨rfl, b2⟩
  have B2 := Lib.hid (below_then B1.out b2)
  clear b2
  have e0_2 := subw_below B2.out _ _ _ e0
  have e1_2 := subw_below B2.out _ _ _ e1
  have e4_2 := subw_below B2.out _ _ _ e4
  go_wp2_with fail
  refine (tog4 s1 _ s2 _ w2 ?sz2).mono ?_
  case sz2 => show (s1.size : Int) + 1 + (s2.size : Int) + 1 ≤ _; omega
  rintro e w3 ⟨rfl, b3⟩
  have B3 := Lib.hid (below_then (below_then B2.out (bl1 _ _)) b3)
  clear b3
  go_wp2
  go_ret
  exact ⟨ret_str HF.out, B3.out⟩
set_option maxRecDepth 100000 in
set_option maxHeartbeats 3200000 in
theorem suf_12 (t : Ex.T) (h : t.kind = 12) (x y z : Ex.T) (hks : t.kids = [x, y, z]) (h1 : FitC x) (z1 : ((str8 (x.fit 13)).size : Int) ≤ 1048576) (h2 : FitC y) (z2 : ((str8 (y.fit 1)).size : Int) ≤ 1048576) (h3 : FitC z) (z3 : ((str8 (z.fit 0)).size : Int) ≤ 1048576) (zt : (t.text.size : Int) ≤ 128) (HF : Hid (str8 (x.fit 13) ++ (⟨#[91]⟩ : ByteArray) ++ str8 (y.fit 1) ++ (⟨#[32, 58, 32]⟩ : ByteArray) ++ str8 (z.fit 0) ++ (⟨#[93]⟩ : ByteArray) = str8 t.form)) (w : World) (g o : Nat) (ht : TreeAt w g o t) : Calls Try.prog 93 #[.pointer (some ⟨g, o, none⟩)] w (RetT w (str8 t.form)) := by
  unfold RetT
  have hkl : t.kids.length = 3 := by rw [hks]; rfl
  obtain ⟨⟨e0, e1, e2, e3⟩, v, e4, hkk⟩ := tree_cells ht
  obtain ⟨a, c, rfl⟩ := kids_len hkk
  rw [hkl] at e4
  have H1 := Lib.hid (kid_c t 0 x (by omega) (by simp only [hks]; rfl) (by omega) h1 0 rfl (13) w g o ht)
  have H2 := Lib.hid (kid_c t 1 y (by omega) (by simp only [hks]; rfl) (by omega) h2 1 rfl (1) w g o ht)
  have H3 := Lib.hid (kid_c t 2 z (by omega) (by simp only [hks]; rfl) (by omega) h3 2 rfl (0) w g o ht)
  generalize str8 (x.fit 13) = s1 at H1 HF z1
  generalize str8 (y.fit 1) = s2 at H2 HF z2
  generalize str8 (z.fit 0) = s3 at H3 HF z3
  have HT := Lib.hid ht
  clear ht hks hkl hkk h1 h2 h3
  go_enter Try.func93, Try.ntmps93
  go_wp2_with fail
  refine (H1.out _ (Below.refl _ _)).mono ?_
  rintro e w1 ⟨rfl, b1⟩
  have B1 := Lib.hid (b1)
  clear b1
  have e0_1 := subw_below B1.out _ _ _ e0
  have e1_1 := subw_below B1.out _ _ _ e1
  have e4_1 := subw_below B1.out _ _ _ e4
  go_wp2_with fail
  refine (H2.out _ B1.out).mono ?_
  rintro e w2 ⟨rfl, b2⟩
  have B2 := Lib.hid (below_then B1.out b2)
  clear b2
  have e0_2 := subw_below B2.out _ _ _ e0
  have e1_2 := subw_below B2.out _ _ _ e1
  have e4_2 := subw_below B2.out _ _ _ e4
  go_wp2_with fail
  refine (H3.out _ B2.out).mono ?_
  rintro e w3 ⟨rfl, b3⟩
  have B3 := Lib.hid (below_then B2.out b3)
  clear b3
  have e0_3 := subw_below B3.out _ _ _ e0
  have e1_3 := subw_below B3.out _ _ _ e1
  have e4_3 := subw_below B3.out _ _ _ e4
  go_wp2_with fail
  refine (tog6 s1 _ s2 _ s3 _ w3 ?sz3).mono ?_
  case sz3 => show (s1.size : Int) + 1 + (s2.size : Int) + 3 + (s3.size : Int) + 1 ≤ _; omega
  rintro e w4 ⟨rfl, b4⟩
  have B4 := Lib.hid (below_then (below_then B3.out (bl1 _ _)) b4)
  clear b4
  go_wp2
  go_ret
  exact ⟨ret_str HF.out, B4.out⟩
set_option maxRecDepth 100000 in
set_option maxHeartbeats 3200000 in
theorem suf_13 (t : Ex.T) (h : t.kind = 13) (x : Ex.T) (hks : t.kids = [x]) (h1 : FitC x) (z1 : ((str8 (x.fit 13)).size : Int) ≤ 1048576) (zt : (t.text.size : Int) ≤ 128) (HF : Hid (str8 (x.fit 13) ++ (⟨#[46]⟩ : ByteArray) ++ t.text = str8 t.form)) (w : World) (g o : Nat) (ht : TreeAt w g o t) : Calls Try.prog 93 #[.pointer (some ⟨g, o, none⟩)] w (RetT w (str8 t.form)) := by
  unfold RetT
  have hkl : t.kids.length = 1 := by rw [hks]; rfl
  obtain ⟨⟨e0, e1, e2, e3⟩, v, e4, hkk⟩ := tree_cells ht
  obtain ⟨a, c, rfl⟩ := kids_len hkk
  rw [hkl] at e4
  have H1 := Lib.hid (kid_c t 0 x (by omega) (by simp only [hks]; rfl) (by omega) h1 0 rfl (13) w g o ht)
  generalize str8 (x.fit 13) = s1 at H1 HF z1
  have HT := Lib.hid ht
  clear ht hks hkl hkk h1
  go_enter Try.func93, Try.ntmps93
  go_wp2_with fail
  refine (H1.out _ (Below.refl _ _)).mono ?_
  rintro e w1 ⟨rfl, b1⟩
  have B1 := Lib.hid (b1)
  clear b1
  have e0_1 := subw_below B1.out _ _ _ e0
  have e1_1 := subw_below B1.out _ _ _ e1
  have e4_1 := subw_below B1.out _ _ _ e4
  go_wp2_with fail
  refine (tog3 s1 _ t.text w1 ?sz1).mono ?_
  case sz1 => show (s1.size : Int) + 1 + (t.text.size : Int) ≤ _; omega
  rintro e w2 ⟨rfl, b2⟩
  have B2 := Lib.hid (below_then (below_then B1.out (bl1 _ _)) b2)
  clear b2
  go_wp2
  go_ret
  exact ⟨ret_str HF.out, B2.out⟩
set_option maxRecDepth 100000 in
set_option maxHeartbeats 3200000 in
theorem ope_27 (t : Ex.T) (h : t.kind = 27) (x : Ex.T) (hks : t.kids = [x]) (h1 : FitC x) (z1 : ((str8 (x.fit 12)).size : Int) ≤ 1048576) (zt : (t.text.size : Int) ≤ 128) (HF : Hid ((⟨#[110, 111, 116, 32]⟩ : ByteArray) ++ str8 (x.fit 12) = str8 t.form)) (w : World) (g o : Nat) (ht : TreeAt w g o t) : Calls Try.prog 92 #[.pointer (some ⟨g, o, none⟩)] w (RetT w (str8 t.form)) := by
  unfold RetT
  have hkl : t.kids.length = 1 := by rw [hks]; rfl
  obtain ⟨⟨e0, e1, e2, e3⟩, v, e4, hkk⟩ := tree_cells ht
  obtain ⟨a, c, rfl⟩ := kids_len hkk
  rw [hkl] at e4
  have H1 := Lib.hid (kid_c t 0 x (by omega) (by simp only [hks]; rfl) (by omega) h1 0 rfl (12) w g o ht)
  generalize str8 (x.fit 12) = s1 at H1 HF z1
  have HT := Lib.hid ht
  clear ht hks hkl hkk h1
  go_enter Try.func92, Try.ntmps92
  go_wp2_with fail
  refine (H1.out _ (Below.refl _ _)).mono ?_
  rintro e w1 ⟨rfl, b1⟩
  have B1 := Lib.hid (b1)
  clear b1
  have e0_1 := subw_below B1.out _ _ _ e0
  have e1_1 := subw_below B1.out _ _ _ e1
  have e4_1 := subw_below B1.out _ _ _ e4
  go_wp2_with fail
  refine (tog2 _ s1 w1 ?sz1).mono ?_
  case sz1 => show (4 : Int) + (s1.size : Int) ≤ _; omega
  rintro e w2 ⟨rfl, b2⟩
  have B2 := Lib.hid (below_then (below_then B1.out (bl1 _ _)) b2)
  clear b2
  go_wp2
  go_ret
  exact ⟨ret_str HF.out, B2.out⟩
set_option maxRecDepth 100000 in
set_option maxHeartbeats 3200000 in
theorem ope_9a (t : Ex.T) (h : t.kind = 9) (x y : Ex.T) (hks : t.kids = [x, y]) (h1 : FitC x) (z1 : ((str8 (x.fit 4)).size : Int) ≤ 1048576) (h2 : FitC y) (z2 : ((str8 (y.fit 5)).size : Int) ≤ 1048576) (zt : (t.text.size : Int) ≤ 128) (HF : Hid (str8 (x.fit 4) ++ (⟨#[32, 116, 111, 32]⟩ : ByteArray) ++ str8 (y.fit 5) = str8 t.form)) (w : World) (g o : Nat) (ht : TreeAt w g o t) : Calls Try.prog 92 #[.pointer (some ⟨g, o, none⟩)] w (RetT w (str8 t.form)) := by
  unfold RetT
  have hkl : t.kids.length = 2 := by rw [hks]; rfl
  obtain ⟨⟨e0, e1, e2, e3⟩, v, e4, hkk⟩ := tree_cells ht
  obtain ⟨a, c, rfl⟩ := kids_len hkk
  rw [hkl] at e4
  have H1 := Lib.hid (kid_c t 0 x (by omega) (by simp only [hks]; rfl) (by omega) h1 0 rfl (4) w g o ht)
  have H2 := Lib.hid (kid_c t 1 y (by omega) (by simp only [hks]; rfl) (by omega) h2 1 rfl (5) w g o ht)
  generalize str8 (x.fit 4) = s1 at H1 HF z1
  generalize str8 (y.fit 5) = s2 at H2 HF z2
  have HT := Lib.hid ht
  clear ht hks hkl hkk h1 h2
  go_enter Try.func92, Try.ntmps92
  go_wp2_with fail
  refine (H1.out _ (Below.refl _ _)).mono ?_
  rintro e w1 ⟨rfl, b1⟩
  have B1 := Lib.hid (b1)
  clear b1
  have e0_1 := subw_below B1.out _ _ _ e0
  have e1_1 := subw_below B1.out _ _ _ e1
  have e4_1 := subw_below B1.out _ _ _ e4
  go_wp2_with fail
  refine (H2.out _ B1.out).mono ?_
  rintro e w2 ⟨rfl, b2⟩
  have B2 := Lib.hid (below_then B1.out b2)
  clear b2
  have e0_2 := subw_below B2.out _ _ _ e0
  have e1_2 := subw_below B2.out _ _ _ e1
  have e4_2 := subw_below B2.out _ _ _ e4
  go_wp2_with fail
  refine (tog3 s1 _ s2 w2 ?sz2).mono ?_
  case sz2 => show (s1.size : Int) + 4 + (s2.size : Int) ≤ _; omega
  rintro e w3 ⟨rfl, b3⟩
  have B3 := Lib.hid (below_then (below_then B2.out (bl1 _ _)) b3)
  clear b3
  have e0_3 := subw_below B3.out _ _ _ e0
  have e1_3 := subw_below B3.out _ _ _ e1
  have e4_3 := subw_below B3.out _ _ _ e4
  go_wp2
  go_ret
  exact ⟨ret_str HF.out, B3.out⟩
set_option maxRecDepth 100000 in
set_option maxHeartbeats 3200000 in
theorem ope_9b (t : Ex.T) (h : t.kind = 9) (x y z : Ex.T) (hks : t.kids = [x, y, z]) (h1 : FitC x) (z1 : ((str8 (x.fit 4)).size : Int) ≤ 1048576) (h2 : FitC y) (z2 : ((str8 (y.fit 5)).size : Int) ≤ 1048576) (h3 : FitC z) (z3 : ((str8 (z.fit 5)).size : Int) ≤ 1048576) (zt : (t.text.size : Int) ≤ 128) (HF : Hid (str8 (x.fit 4) ++ (⟨#[32, 116, 111, 32]⟩ : ByteArray) ++ str8 (y.fit 5) ++ (⟨#[32, 98, 121, 32]⟩ : ByteArray) ++ str8 (z.fit 5) = str8 t.form)) (w : World) (g o : Nat) (ht : TreeAt w g o t) : Calls Try.prog 92 #[.pointer (some ⟨g, o, none⟩)] w (RetT w (str8 t.form)) := by
  unfold RetT
  have hkl : t.kids.length = 3 := by rw [hks]; rfl
  obtain ⟨⟨e0, e1, e2, e3⟩, v, e4, hkk⟩ := tree_cells ht
  obtain ⟨a, c, rfl⟩ := kids_len hkk
  rw [hkl] at e4
  have H1 := Lib.hid (kid_c t 0 x (by omega) (by simp only [hks]; rfl) (by omega) h1 0 rfl (4) w g o ht)
  have H2 := Lib.hid (kid_c t 1 y (by omega) (by simp only [hks]; rfl) (by omega) h2 1 rfl (5) w g o ht)
  have H3 := Lib.hid (kid_c t 2 z (by omega) (by simp only [hks]; rfl) (by omega) h3 2 rfl (5) w g o ht)
  generalize str8 (x.fit 4) = s1 at H1 HF z1
  generalize str8 (y.fit 5) = s2 at H2 HF z2
  generalize str8 (z.fit 5) = s3 at H3 HF z3
  have HT := Lib.hid ht
  clear ht hks hkl hkk h1 h2 h3
  go_enter Try.func92, Try.ntmps92
  go_wp2_with fail
  refine (H1.out _ (Below.refl _ _)).mono ?_
  rintro e w1 ⟨rfl, b1⟩
  have B1 := Lib.hid (b1)
  clear b1
  have e0_1 := subw_below B1.out _ _ _ e0
  have e1_1 := subw_below B1.out _ _ _ e1
  have e4_1 := subw_below B1.out _ _ _ e4
  go_wp2_with fail
  refine (H2.out _ B1.out).mono ?_
  rintro e w2 ⟨rfl, b2⟩
  have B2 := Lib.hid (below_then B1.out b2)
  clear b2
  have e0_2 := subw_below B2.out _ _ _ e0
  have e1_2 := subw_below B2.out _ _ _ e1
  have e4_2 := subw_below B2.out _ _ _ e4
  go_wp2_with fail
  refine (tog3 s1 _ s2 w2 ?sz2).mono ?_
  case sz2 => show (s1.size : Int) + 4 + (s2.size : Int) ≤ _; omega
  rintro e w3 ⟨rfl, b3⟩
  have B3 := Lib.hid (below_then (below_then B2.out (bl1 _ _)) b3)
  clear b3
  have e0_3 := subw_below B3.out _ _ _ e0
  have e1_3 := subw_below B3.out _ _ _ e1
  have e4_3 := subw_below B3.out _ _ _ e4
  go_wp2_with fail
  refine (H3.out _ B3.out).mono ?_
  rintro e w4 ⟨rfl, b4⟩
  have B4 := Lib.hid (below_then B3.out b4)
  clear b4
  have e0_4 := subw_below B4.out _ _ _ e0
  have e1_4 := subw_below B4.out _ _ _ e1
  have e4_4 := subw_below B4.out _ _ _ e4
  obtain ⟨q, hq⟩ : ∃ q, s1 ++ (⟨#[32, 116, 111, 32]⟩ : ByteArray) ++ s2 = q := ⟨_, rfl⟩
  have zq : (q.size : Int) ≤ 2200000 := by rw [← hq]; simp only [ByteArray.size_append]; have l0 : (⟨#[32, 116, 111, 32]⟩ : ByteArray).size = 4 := rfl; omega
  rw [hq]
  go_wp2_with fail
  refine (tog3 q _ s3 w4 ?sz4).mono ?_
  case sz4 => show (q.size : Int) + 4 + (s3.size : Int) ≤ _; omega
  rintro e w5 ⟨rfl, b5⟩
  have B5 := Lib.hid (below_then (below_then B4.out (bl1 _ _)) b5)
  clear b5
  go_wp2
  go_ret
  exact ⟨ret_str (by rw [← hq]; exact HF.out), B5.out⟩
set_option maxRecDepth 100000 in
set_option maxHeartbeats 3200000 in
theorem ope_7a (t : Ex.T) (h : t.kind = 7) (x : Ex.T) (hks : t.kids = [x]) (h1 : FitC x) (z1 : ((str8 (x.fit 13)).size : Int) ≤ 1048576) (hkd : (x.kind == 7) = true) (zt : (t.text.size : Int) ≤ 128) (HF : Hid (t.text ++ str8 (x.fit 13) = str8 t.form)) (w : World) (g o : Nat) (ht : TreeAt w g o t) : Calls Try.prog 92 #[.pointer (some ⟨g, o, none⟩)] w (RetT w (str8 t.form)) := by
  unfold RetT
  have hkl : t.kids.length = 1 := by rw [hks]; rfl
  obtain ⟨⟨e0, e1, e2, e3⟩, v, e4, hkk⟩ := tree_cells ht
  obtain ⟨a, c, rfl⟩ := kids_len hkk
  rw [hkl] at e4
  have H1 := Lib.hid (kid_c t 0 x (by omega) (by simp only [hks]; rfl) (by omega) h1 0 rfl (13) w g o ht)
  generalize str8 (x.fit 13) = s1 at H1 HF z1
  have HT := Lib.hid ht
  rw [hks] at hkk
  obtain ⟨g2, o2, c2, vx, e5, cx, _⟩ := kids_one hkk
  obtain rfl : a = some ⟨g2, o2, none⟩ := by injection e5
  have x0 := cx.1
  clear cx e5
  have HE : Hid (∀ W, Below w.heap.size w W → W.cell? ⟨g, o + 1, none⟩ = some (.string t.text) ∧ Below w.heap.size w W) := Lib.hid (fun W hW => ⟨subw_below hW _ _ _ e1, hW⟩)
  clear ht hks hkl hkk h1
  go_enter Try.func92, Try.ntmps92
  go_wp2_with fail
  clear e0 e2 e3 e4 x0
  go_region_held3 (fun W => W.cell? ⟨g, o + 1, none⟩ = some (.string t.text) ∧ Below w.heap.size w W) (first | (with_reducible assumption) | (with_reducible exact HE.out _ (Below.refl _ _).drew) | (with_reducible exact HE.out _ (held_t (by assumption) b1)) | (with_reducible exact HE.out _ (held_t (by assumption) b2)) | (with_reducible exact HE.out _ (held_t (by assumption) (bl1 _ _)))) (first | (go_at_call 111; with_reducible refine (H1.out _ (held_b (by assumption))).mono ?_; rintro e w1 ⟨rfl, b1⟩) | (go_at_call 72; refine (tog2 t.text s1 w1 (by omega)).mono ?_; rintro e w2 ⟨rfl, b2⟩))
  all_goals go_wp2
  all_goals go_ret
  all_goals exact ⟨ret_str HF.out, below_then (below_then (below_then (Below.refl _ w).drew b1) (bl1 _ _)) b2⟩
set_option maxRecDepth 100000 in
set_option maxHeartbeats 3200000 in
theorem ope_7b (t : Ex.T) (h : t.kind = 7) (x : Ex.T) (hks : t.kids = [x]) (h1 : FitC x) (z1 : ((str8 (x.fit 12)).size : Int) ≤ 1048576) (hkd : (x.kind == 7) = false) (zt : (t.text.size : Int) ≤ 128) (HF : Hid (t.text ++ str8 (x.fit 12) = str8 t.form)) (w : World) (g o : Nat) (ht : TreeAt w g o t) : Calls Try.prog 92 #[.pointer (some ⟨g, o, none⟩)] w (RetT w (str8 t.form)) := by
  unfold RetT
  have hkl : t.kids.length = 1 := by rw [hks]; rfl
  obtain ⟨⟨e0, e1, e2, e3⟩, v, e4, hkk⟩ := tree_cells ht
  obtain ⟨a, c, rfl⟩ := kids_len hkk
  rw [hkl] at e4
  have H1 := Lib.hid (kid_c t 0 x (by omega) (by simp only [hks]; rfl) (by omega) h1 0 rfl (12) w g o ht)
  generalize str8 (x.fit 12) = s1 at H1 HF z1
  have HT := Lib.hid ht
  rw [hks] at hkk
  obtain ⟨g2, o2, c2, vx, e5, cx, _⟩ := kids_one hkk
  obtain rfl : a = some ⟨g2, o2, none⟩ := by injection e5
  have x0 := cx.1
  clear cx e5
  have HE : Hid (∀ W, Below w.heap.size w W → W.cell? ⟨g, o + 1, none⟩ = some (.string t.text) ∧ Below w.heap.size w W) := Lib.hid (fun W hW => ⟨subw_below hW _ _ _ e1, hW⟩)
  clear ht hks hkl hkk h1
  go_enter Try.func92, Try.ntmps92
  go_wp2_with fail
  clear e0 e2 e3 e4 x0
  go_region_held3 (fun W => W.cell? ⟨g, o + 1, none⟩ = some (.string t.text) ∧ Below w.heap.size w W) (first | (with_reducible assumption) | (with_reducible exact HE.out _ (Below.refl _ _).drew) | (with_reducible exact HE.out _ (held_t (by assumption) b1)) | (with_reducible exact HE.out _ (held_t (by assumption) b2)) | (with_reducible exact HE.out _ (held_t (by assumption) (bl1 _ _)))) (first | (go_at_call 111; with_reducible refine (H1.out _ (held_b (by assumption))).mono ?_; rintro e w1 ⟨rfl, b1⟩) | (go_at_call 72; refine (tog2 t.text s1 w1 (by omega)).mono ?_; rintro e w2 ⟨rfl, b2⟩))
  all_goals go_wp2
  all_goals go_ret
  all_goals exact ⟨ret_str HF.out, below_then (below_then (below_then (Below.refl _ w).drew b1) (bl1 _ _)) b2⟩
set_option maxRecDepth 100000 in
set_option maxHeartbeats 3200000 in
theorem ope_8 (t : Ex.T) (h : t.kind = 8) (zl lo hi : Int) (hz : Ex.lvl t.text.data.toList = zl) (q0 : 0 < zl) (q1 : zl ≤ 11) (hlo : Ex.lowL zl = lo) (hhi : Ex.lowR zl = hi) (x y : Ex.T) (hks : t.kids = [x, y]) (h1 : FitC x) (z1 : ((str8 (x.fit lo)).size : Int) ≤ 1048576) (h2 : FitC y) (z2 : ((str8 (y.fit hi)).size : Int) ≤ 1048576) (zt : (t.text.size : Int) ≤ 128) (HF : Hid (str8 (x.fit lo) ++ (⟨#[32]⟩ : ByteArray) ++ t.text ++ (⟨#[32]⟩ : ByteArray) ++ str8 (y.fit hi) = str8 t.form)) (w : World) (g o : Nat) (ht : TreeAt w g o t) : Calls Try.prog 92 #[.pointer (some ⟨g, o, none⟩)] w (RetT w (str8 t.form)) := by
  unfold RetT
  have hkl : t.kids.length = 2 := by rw [hks]; rfl
  obtain ⟨⟨e0, e1, e2, e3⟩, v, e4, hkk⟩ := tree_cells ht
  obtain ⟨a, c, rfl⟩ := kids_len hkk
  rw [hkl] at e4
  have H1 := Lib.hid (kid_c t 0 x (by omega) (by simp only [hks]; rfl) (by omega) h1 0 rfl (lo) w g o ht)
  have H2 := Lib.hid (kid_c t 1 y (by omega) (by simp only [hks]; rfl) (by omega) h2 1 rfl (hi) w g o ht)
  generalize str8 (x.fit lo) = s1 at H1 HF z1
  generalize str8 (y.fit hi) = s2 at H2 HF z2
  have HT := Lib.hid ht
  have HL := Lib.hid (fun W => impl_levels t.text zl lo hi hz q0 q1 hlo hhi W)
  have HE : Hid (∀ W, Below w.heap.size w W → W.cell? ⟨g, o + 1, none⟩ = some (.string t.text) ∧ Below w.heap.size w W) := Lib.hid (fun W hW => ⟨subw_below hW _ _ _ e1, hW⟩)
  clear hz q0 q1 hlo hhi
  clear ht hks hkl hkk h1 h2
  go_enter Try.func92, Try.ntmps92
  go_wp2_with fail
  refine (HL.out _).mono ?_
  rintro e w0 ⟨rfl, b0⟩
  have HD := Lib.hid b0
  clear b0
  go_wp2_with fail
  clear e0 e2 e3 e4
  go_region_held3 (fun W => W.cell? ⟨g, o + 1, none⟩ = some (.string t.text) ∧ Below w.heap.size w W) (first | (with_reducible assumption) | (with_reducible exact HE.out _ HD.out.drew) | (with_reducible exact HE.out _ (held_t (by assumption) b1)) | (with_reducible exact HE.out _ (held_t (by assumption) b2)) | (with_reducible exact HE.out _ (held_t (by assumption) b3)) | (with_reducible exact HE.out _ (held_t (by assumption) (bl1 _ _)))) (first | (go_at_call 111; with_reducible refine (H1.out _ (held_b (by assumption))).mono ?_; rintro e w1 ⟨rfl, b1⟩) | (go_at_call 111; with_reducible refine (H2.out _ (held_b (by assumption))).mono ?_; rintro e w2 ⟨rfl, b2⟩) | (go_at_call 72; refine (tog5 s1 (⟨#[32]⟩ : ByteArray) t.text (⟨#[32]⟩ : ByteArray) s2 w2 (by show (s1.size : Int) + 1 + t.text.size + 1 + s2.size ≤ _; omega)).mono ?_; rintro e w3 ⟨rfl, b3⟩))
  all_goals go_wp2
  all_goals go_ret
  all_goals exact ⟨ret_str HF.out, below_then (below_then (below_then (below_then HD.out.drew b1) b2) (bl1 _ _)) b3⟩
set_option maxRecDepth 100000 in
set_option maxHeartbeats 3200000 in
theorem suf_10a (t : Ex.T) (h : t.kind = 10) (x : Ex.T) (r : List Ex.T) (hks : t.kids = x :: r) (h1 : FitC x) (z1 : ((str8 (x.fit 13)).size : Int) ≤ 1048576) (hI : ∀ y ∈ r, FitC y) (hl : r.length ≤ 23) (hb : (Ex.seps (Ex.parts r) [44, 32]).length ≤ 1048576)
    (HF : Hid (str8 (x.fit 13) ++ (⟨#[40]⟩ : ByteArray) ++ str8 (Ex.seps (Ex.parts r) [44, 32]) ++ (⟨#[41]⟩ : ByteArray) = str8 t.form)) (w : World) (g o : Nat) (ht : TreeAt w g o t) (g2 o2 c : Nat) (e4 : w.cell? ⟨g, o + 4, none⟩ = some (.slice (some ⟨g2, o2, none⟩) (1) 1)) (hkr : Kids w (.slice (some ⟨g2, o2, none⟩) 0 (0)) r) :
    Calls Try.prog 93 #[.pointer (some ⟨g, o, none⟩)] w (RetT w (str8 t.form)) := by
  unfold RetT
  have hkl : t.kids.length = r.length + 1 := by rw [hks]; rfl
  obtain ⟨⟨e0, e1, e2, e3⟩, _, _, _⟩ := tree_cells ht
  have H1 := Lib.hid (kid_c t 0 x (by omega) (by simp only [hks]; rfl) (by omega) h1 0 rfl 13 w g o ht)
  have H2 : Hid (∀ W, Below w.heap.size w W → Calls Try.prog 91 #[.slice (some ⟨g2, o2, none⟩) 0 (0), .string ⟨#[44, 32]⟩] W fun e w' => e = .returned (.string (str8 (Ex.seps (Ex.parts r) [44, 32]))) ∧ Below W.heap.size W w') := Lib.hid (fun W hW => impl_list r hI ⟨#[44, 32]⟩ (by omega) (by show (Ex.seps _ [44, 32]).length ≤ _; omega) W _ (hkr.later hW))
  have z2 : ((str8 (Ex.seps (Ex.parts r) [44, 32])).size : Int) ≤ 1048576 := by rw [str8_size]; omega
  generalize str8 (x.fit 13) = s1 at H1 HF z1
  generalize str8 (Ex.seps (Ex.parts r) [44, 32]) = s2 at H2 HF z2
  clear ht hks hkl h1 hI hb hkr
  go_enter Try.func93, Try.ntmps93
  go_wp2_with fail
  refine (H1.out _ (Below.refl _ _)).mono ?_
  rintro e w1 ⟨rfl, b1⟩
  have B1 := Lib.hid (b1)
  clear b1
  have e0_1 := subw_below B1.out _ _ _ e0
  have e1_1 := subw_below B1.out _ _ _ e1
  have e4_1 := subw_below B1.out _ _ _ e4
  go_wp2_with fail
  refine (H2.out _ B1.out).mono ?_
  rintro e w2 ⟨rfl, b2⟩
  have B2 := Lib.hid (below_then B1.out b2)
  clear b2
  have e0_2 := subw_below B2.out _ _ _ e0
  have e1_2 := subw_below B2.out _ _ _ e1
  have e4_2 := subw_below B2.out _ _ _ e4
  go_wp2_with fail
  refine (tog4 s1 _ s2 _ w2 ?sz2).mono ?_
  case sz2 => show (s1.size : Int) + 1 + (s2.size : Int) + 1 ≤ _; omega
  rintro e w3 ⟨rfl, b3⟩
  have B3 := Lib.hid (below_then (below_then B2.out (bl1 _ _)) b3)
  clear b3
  go_wp2
  go_ret
  exact ⟨ret_str HF.out, B3.out⟩
set_option maxRecDepth 100000 in
set_option maxHeartbeats 3200000 in
theorem suf_10b (t : Ex.T) (h : t.kind = 10) (x : Ex.T) (r : List Ex.T) (hks : t.kids = x :: r) (h1 : FitC x) (z1 : ((str8 (x.fit 13)).size : Int) ≤ 1048576) (hI : ∀ y ∈ r, FitC y) (hl : r.length ≤ 23) (hb : (Ex.seps (Ex.parts r) [44, 32]).length ≤ 1048576)
    (HF : Hid (str8 (x.fit 13) ++ (⟨#[40]⟩ : ByteArray) ++ str8 (Ex.seps (Ex.parts r) [44, 32]) ++ (⟨#[41]⟩ : ByteArray) = str8 t.form)) (w : World) (g o : Nat) (ht : TreeAt w g o t) (g2 o2 c : Nat) (e4 : w.cell? ⟨g, o + 4, none⟩ = some (.slice (some ⟨g2, o2, none⟩) (r.length + 1) c)) (hc1 : ¬ c = 1) (hcp : r.length + 1 ≤ c) (hkr : Kids w (.slice (some ⟨g2, o2 + 5, none⟩) r.length (c - 1)) r) :
    Calls Try.prog 93 #[.pointer (some ⟨g, o, none⟩)] w (RetT w (str8 t.form)) := by
  unfold RetT
  have hkl : t.kids.length = r.length + 1 := by rw [hks]; rfl
  obtain ⟨⟨e0, e1, e2, e3⟩, _, _, _⟩ := tree_cells ht
  have H1 := Lib.hid (kid_c t 0 x (by omega) (by simp only [hks]; rfl) (by omega) h1 0 rfl 13 w g o ht)
  have H2 : Hid (∀ W, Below w.heap.size w W → Calls Try.prog 91 #[.slice (some ⟨g2, o2 + 5, none⟩) r.length (c - 1), .string ⟨#[44, 32]⟩] W fun e w' => e = .returned (.string (str8 (Ex.seps (Ex.parts r) [44, 32]))) ∧ Below W.heap.size W w') := Lib.hid (fun W hW => impl_list r hI ⟨#[44, 32]⟩ (by omega) (by show (Ex.seps _ [44, 32]).length ≤ _; omega) W _ (hkr.later hW))
  have z2 : ((str8 (Ex.seps (Ex.parts r) [44, 32])).size : Int) ≤ 1048576 := by rw [str8_size]; omega
  generalize str8 (x.fit 13) = s1 at H1 HF z1
  generalize str8 (Ex.seps (Ex.parts r) [44, 32]) = s2 at H2 HF z2
  have l0 : (1 : Int) ≤ (r.length : Int) + 1 := by omega
  have l1 : ((r.length + 1 : Nat) : Int) ≤ c := by omega
  have l2 : (0 : Int) ≤ r.length := by omega
  clear ht hks hkl h1 hI hb hkr
  go_enter Try.func93, Try.ntmps93
  go_wp2_with fail
  refine (H1.out _ (Below.refl _ _)).mono ?_
  rintro e w1 ⟨rfl, b1⟩
  have B1 := Lib.hid (b1)
  clear b1
  have e0_1 := subw_below B1.out _ _ _ e0
  have e1_1 := subw_below B1.out _ _ _ e1
  have e4_1 := subw_below B1.out _ _ _ e4
  go_wp2_with fail
  refine (H2.out _ B1.out).mono ?_
  rintro e w2 ⟨rfl, b2⟩
  have B2 := Lib.hid (below_then B1.out b2)
  clear b2
  have e0_2 := subw_below B2.out _ _ _ e0
  have e1_2 := subw_below B2.out _ _ _ e1
  have e4_2 := subw_below B2.out _ _ _ e4
  go_wp2_with fail
  refine (tog4 s1 _ s2 _ w2 ?sz2).mono ?_
  case sz2 => show (s1.size : Int) + 1 + (s2.size : Int) + 1 ≤ _; omega
  rintro e w3 ⟨rfl, b3⟩
  have B3 := Lib.hid (below_then (below_then B2.out (bl1 _ _)) b3)
  clear b3
  go_wp2
  go_ret
  exact ⟨ret_str HF.out, B3.out⟩
theorem suf_10 (t : Ex.T) (h : t.kind = 10) (x : Ex.T) (r : List Ex.T) (hks : t.kids = x :: r) (h1 : FitC x) (z1 : ((str8 (x.fit 13)).size : Int) ≤ 1048576) (hI : ∀ y ∈ r, FitC y) (hl : r.length ≤ 23) (hb : (Ex.seps (Ex.parts r) [44, 32]).length ≤ 1048576) (w : World) (g o : Nat) (ht : TreeAt w g o t) :
    Calls Try.prog 93 #[.pointer (some ⟨g, o, none⟩)] w (RetT w (str8 t.form)) := by
  have HF : Hid (str8 (x.fit 13) ++ (⟨#[40]⟩ : ByteArray) ++ str8 (Ex.seps (Ex.parts r) [44, 32]) ++ (⟨#[41]⟩ : ByteArray) = str8 t.form) := Lib.hid (by
    rw [Ex.form_10 t h, hks]
    show _ = str8 (x.fit 13 ++ [40] ++ Ex.seps (Ex.parts r) [44, 32] ++ [41])
    apply ByteArray.ext
    simp [str8])
  obtain ⟨_, v, e4, hkk⟩ := tree_cells ht
  rw [hks] at hkk
  obtain ⟨g2, o2, c, vx, rfl, hcp, _, hr⟩ := kids1 hkk
  by_cases hc1 : c = 1
  · subst hc1
    obtain rfl : r = [] := List.length_eq_zero_iff.1 (by omega)
    exact suf_10a t h x [] hks h1 z1 hI hl hb HF w g o ht g2 o2 1 e4 (by rw [Kids]; exact ⟨_, _, rfl⟩)
  · exact suf_10b t h x r hks h1 z1 hI hl hb HF w g o ht g2 o2 c e4 hc1 hcp (kids_rest (by omega) hr)
end Go.Proofs.Ytiiogpafgoeblaa
