/- Joined texts: V70, V71, V20, V24, V25. No conditions besides those that each states. -/
import Derived.Laws.Rows
import Derived.IntWalk
import Derived.Maps.OwnSet
import Derived.Maps.Views
import Derived.Test.YtbadepiakkhabaaDoorZ7
import Derived.Test.YtbadepiakkhabaaDoorZ12
import Derived.Test.YtbadepiakkhabaaDoorZ15
/- The reference model's drawing of a unit whose locals are asked for: the walk. No conditions. -/
namespace Go.Proofs.YtbadepiakkhabaaDoor
open Go.RowKit
set_option linter.unusedVariables false

/-- What each operation of the procedures' region gives. -/
def F9 (P : Nat → Prop) (VB : Value) (cb E : Nat) (L : Nat → Bool) (i : Nat) (v : Value) (W : World) : Prop := match i with
  | 0 => SSl P W [⟨#[112]⟩] v
  | 1 => v = VB
  | 2 => SEx P W 1 56158 v
  | 3 => ∃ u, v = .agg #[.int .i64 14, .string ⟨#[]⟩, .int .i64 0, .int .i64 0, u] ∧ SEx P W 1 56158 u
  | 4 => SPc P W 56162 v
  | 5 => SSl P W [⟨#[120]⟩] v
  | 6 => v = .pointer (some ⟨cb, 0, none⟩)
  | 7 => STr P W 4678 v
  | 8 => v = .pointer (some ⟨cb, 0, none⟩)
  | 9 => STr P W 28078 v
  | 10 => SEx P W 1 28078 v
  | 11 => STr P W 28079 v
  | 12 => SEx P W 2 (4678 + 28079) v
  | 13 => ∃ u, v = .agg #[.int .i64 14, .string ⟨#[]⟩, .int .i64 0, .int .i64 0, u] ∧ SEx P W 2 (4678 + 28079) u
  | 14 => SPc P W 32765 v
  | 15 => SPs P W (2 + (56162 + 32765)) v
  | 16 => v = .pointer (some ⟨E, 2, none⟩)
  | _ => True
theorem F9_keep {P : Nat → Prop} {VB : Value} {cb E : Nat} (hc : ¬ P cb) (L : Nat → Bool) (i q : Nat) (v : Value) (W W' : World) (hT : Turn cb none W W') (h : F9 P VB cb E L i v W) : F9 P VB cb E (upL L q) i v W' := by
  match i with
  | 0 => exact h.turn hT hc
  | 1 => exact h
  | 2 => exact h.turn hT hc
  | 3 => obtain ⟨u, e, s⟩ := h; exact ⟨u, e, s.turn hT hc⟩
  | 4 => exact h.turn hT hc
  | 5 => exact h.turn hT hc
  | 6 => exact h
  | 7 => exact h.turn hT hc
  | 8 => exact h
  | 9 => exact h.turn hT hc
  | 10 => exact h.turn hT hc
  | 11 => exact h.turn hT hc
  | 12 => exact h.turn hT hc
  | 13 => obtain ⟨u, e, s⟩ := h; exact ⟨u, e, s.turn hT hc⟩
  | 14 => exact h.turn hT hc
  | 15 => exact h.turn hT hc
  | 16 => exact h
  | i + 17 => trivial
theorem tree_33 (B cb : Nat) (w : World) (hp : IsCur B w cb) (hB : B ≤ w.heap.size) : Calls Tryd.prog 76 #[.pointer (some ⟨cb, 0, none⟩), .int .i64 3] w (DrawnT 4678 B cb w) := tree_any 2 (by omega) B cb w hp hB
theorem tree_4 (B cb : Nat) (w : World) (hp : IsCur B w cb) (hB : B ≤ w.heap.size) : Calls Tryd.prog 76 #[.pointer (some ⟨cb, 0, none⟩), .int .i64 4] w (DrawnT 28078 B cb w) := tree_any 3 (by omega) B cb w hp hB
set_option maxRecDepth 100000 in
set_option maxHeartbeats 25600000 in
theorem draw_unit9 (B cb : Nat) (w : World) (hp : IsCur B w cb) (hB : B ≤ w.heap.size) : Calls Tryd.prog 41 #[.pointer (some ⟨cb, 0, none⟩)] w (SureU w.heap.size 300000 B cb w) := by
  have hcl := cur_lt hp
  have HC := Lib.hid (draw_unit7 B cb (w.alloc (.cells #[.slice none 0 0, .slice none 0 0, .slice none 0 0] 51)) (cur_alloc hp hB _) (by simp; omega))
  clear hp
  go_enter Tryd.func41, Tryd.ntmps41
  go_wp2_with fail
  (with_reducible refine HC.out.mono ?_)
  rintro e w3 h3
  obtain ⟨u, a1, a2, a3, c1, c2, c3, rfl, hlt, h9⟩ := U9.start hcl hB h3
  obtain ⟨w4, hw4⟩ : ∃ W, w3.alloc (.cells #[.slice a1 u.recs.length c1, .slice a2 u.globs.length c2, .slice a3 u.procs.length c3] 51) = W := ⟨_, rfl⟩
  rw [hw4] at h9
  have HW4 := Lib.hid hw4
  have HU := Lib.hid h9
  have HX := Lib.hid (once_at B cb 2 w4 h9.2.2.1 (by omega) (by omega))
  clear hw4 h9 h3 HC
  go_wp2_with fail
  rw [HW4.out]
  (with_reducible refine HX.out.mono ?_)
  rintro e w5 ⟨b, rfl, hc5, ho5⟩
  have HU5 := Lib.hid (HU.out.turn hcl hc5 (Turn.of_only ho5))
  generalize hE : w3.heap.size = E at HU5 hlt
  clear HU HX HW4 hc5 ho5 hE
  cases b
  · have HR := Lib.hid (HU5.out.ret hcl hB)
    obtain ⟨x0, _⟩ := HU5.out.2.1 0 _ rfl
    obtain ⟨x1, _⟩ := HU5.out.2.1 1 _ rfl
    obtain ⟨x2, _⟩ := HU5.out.2.1 2 _ rfl
    obtain ⟨y0, f0⟩ := HU5.out.1 0 _ rfl
    obtain ⟨y1, f1⟩ := HU5.out.1 1 _ rfl
    obtain ⟨y2, f2⟩ := HU5.out.1 2 _ rfl
    go_wp2
    exact bodyPost_ret (v := unV (.slice a1 u.recs.length c1) (.slice a2 u.globs.length c2) (.slice a3 u.procs.length c3)) (by simp [results, Tryd.results41, go_sem, y0, y1, y2]) rfl HR.out
  · have HM := Lib.hid (V9.make HU5.out hcl hB)
    have hE5 : E < w5.heap.size := HU5.out.2.2.2.2.1.2
    have hEw : w.heap.size < E := HU5.out.2.2.2.2.1.1
    obtain ⟨x0, xf0⟩ := HU5.out.2.1 0 _ rfl
    have VE4 := Lib.hid ((((HU5.out.2.1.set 0 (.slice (some ⟨w5.heap.size + 1, 0, none⟩) 1 1)).later (bl1 _ (.cells #[.string ⟨#[110, 97, 109, 101]⟩, .string ⟨#[98]⟩] 9))).later (bl1 _ (.cells #[.string ⟨#[112, 111, 105, 110, 116]⟩, .slice (some ⟨w5.heap.size, 0, none⟩) 2 2, .int .i64 0] 72))).later (bl1 _ (.cells #[.string ⟨#[103]⟩] 9)))
    obtain ⟨x1, xf1⟩ := VE4.out 1 _ rfl
    obtain ⟨W, hW⟩ : ∃ W, ((((w5.setCell ⟨E, 0, none⟩ (.slice (some ⟨w5.heap.size + 1, 0, none⟩) 1 1)).alloc (.cells #[.string ⟨#[110, 97, 109, 101]⟩, .string ⟨#[98]⟩] 9)).alloc (.cells #[.string ⟨#[112, 111, 105, 110, 116]⟩, .slice (some ⟨w5.heap.size, 0, none⟩) 2 2, .int .i64 0] 72)).alloc (.cells #[.string ⟨#[103]⟩] 9)).setCell ⟨E, 1, none⟩ (.slice (some ⟨w5.heap.size + 1 + 1, 0, none⟩) 1 1) = W := ⟨_, rfl⟩
    rw [hW] at HM
    have HW := Lib.hid hW
    have HT1 := Lib.hid (tree_4 B cb W HM.out.2.2.1 (by have := HM.out.2.2.2.2.1; omega))
    clear hW HU5 VE4
    go_wp2_with fail
    rw [HW.out]
    have hPP : ∀ b, E + 1 ≤ b → P9 w E b := fun b hb => ⟨by omega, by omega⟩
    have HPP := Lib.hid hPP
    have hn : ¬ P9 w E cb := fun e => by have := e.1; omega
    have HNP := Lib.hid hn
    have hr : ∀ r, (none : Option Nat) = some r → ¬ P9 w E r := fun r e => by cases e
    (with_reducible refine HT1.out.mono ?_)
    rintro e w6 hd6
    obtain ⟨v6, rfl, ht6, hc6, ho6⟩ := STr.drawn hd6 (Z := E + 1) (by have := HM.out.2.2.2.2.1; omega) hPP
    obtain ⟨t1, b1, d1, rfl, su1, bk1⟩ := ht6
    have HM6 := Lib.hid (HM.out.turn hcl hc6 (Turn.of_only ho6))
    have HT2 := Lib.hid (tree_4 B cb w6 hc6 (by have := HM6.out.2.2.2.2.1; omega))
    have HS1 := Lib.hid su1
    clear hd6 hc6 ho6 su1 HT1 HM HW x0 xf0 x1 xf1 hPP hn
    go_wp2_with fail
    (with_reducible refine HT2.out.mono ?_)
    rintro e w7 hd7
    obtain ⟨v7, rfl, ht7, hc7, ho7⟩ := STr.drawn hd7 (Z := E + 1) (by have := HM6.out.2.2.2.2.1; omega) HPP.out
    obtain ⟨t2, b2, d2, rfl, su2, bk2⟩ := ht7
    have HM7 := Lib.hid (HM6.out.turn hcl hc7 (Turn.of_only ho7))
    have hs1 := HS1.out.turn (Turn.of_only ho7) HNP.out hr
    have z7 := HM7.out.2.2.2.2.1
    obtain ⟨W8, hW8⟩ : ∃ X, (w7.alloc (.cells #[.int .i64 t1.kind, .string t1.text, .int .i64 t1.num, .int .i64 t1.line, .slice b1 t1.kids.length d1, .int .i64 t2.kind, .string t2.text, .int .i64 t2.num, .int .i64 t2.line, .slice b2 t2.kids.length d2] 105)).alloc (.cells #[.int .i64 16, .string ⟨#[]⟩, .int .i64 0, .int .i64 0, .slice (some ⟨w7.heap.size, 0, none⟩) 2 2] 105) = X := ⟨_, rfl⟩
    have n1 := bl1 w7 (.cells #[.int .i64 t1.kind, .string t1.text, .int .i64 t1.num, .int .i64 t1.line, .slice b1 t1.kids.length d1, .int .i64 t2.kind, .string t2.text, .int .i64 t2.num, .int .i64 t2.line, .slice b2 t2.kids.length d2] 105)
    have n2 := bl1 (w7.alloc (.cells #[.int .i64 t1.kind, .string t1.text, .int .i64 t1.num, .int .i64 t1.line, .slice b1 t1.kids.length d1, .int .i64 t2.kind, .string t2.text, .int .i64 t2.num, .int .i64 t2.line, .slice b2 t2.kids.length d2] 105)) (.cells #[.int .i64 16, .string ⟨#[]⟩, .int .i64 0, .int .i64 0, .slice (some ⟨w7.heap.size, 0, none⟩) 2 2] 105)
    have hk2 : SEx (P9 w E) W8 2 (28078 + 28078) (.slice (some ⟨w7.heap.size, 0, none⟩) 2 2) := by
      rw [← hW8]
      exact (SEx.two (NewB.made w7 _ _ (Nat.le_refl _)) (HPP.out _ (by omega)) (hs1.turn (cb := cb) (Turn.of_below n1) HNP.out hr) (su2.turn (cb := cb) (Turn.of_below n1) HNP.out hr) bk1 bk2).turn (cb := cb) (Turn.of_below n2) HNP.out
    have HK2 := Lib.hid hk2
    have HVS : Hid (Var W8 (w7.heap.size + 1) [.int .i64 16, .string ⟨#[]⟩, .int .i64 0, .int .i64 0, .slice (some ⟨w7.heap.size, 0, none⟩) 2 2]) := Lib.hid (by
      rw [← hW8]
      have h := Var.new (w7.alloc (.cells #[.int .i64 t1.kind, .string t1.text, .int .i64 t1.num, .int .i64 t1.line, .slice b1 t1.kids.length d1, .int .i64 t2.kind, .string t2.text, .int .i64 t2.num, .int .i64 t2.line, .slice b2 t2.kids.length d2] 105)) #[.int .i64 16, .string ⟨#[]⟩, .int .i64 0, .int .i64 0, .slice (some ⟨w7.heap.size, 0, none⟩) 2 2] 105
      rw [World.size_alloc] at h
      exact h)
    have HM8 := Lib.hid (HM7.out.turn hcl (cur_below HM7.out.2.2.1 (by omega) (below_then n1 n2)) (Turn.of_below (below_then n1 n2)))
    rw [hW8] at HM8
    have HW8 := Lib.hid hW8
    have HZ : Hid (E < W8.heap.size ∧ w7.heap.size + 1 < W8.heap.size) := Lib.hid ⟨HM8.out.2.2.2.2.1.2, HVS.out.lt⟩
    have VS7 : Hid (cb < w7.heap.size) := Lib.hid (by omega)
    clear hd7 hc7 ho7 su2 hs1 HT2 HM6 HM7 HS1 hW8 n1 n2 hk2 z7 bk1 bk2
    go_wp2_with fail
    rw [HW8.out]
    refine wp_region_by 17 39 rfl (by kernel_rfl) (by kernel_rfl) rfl (by kernel_rfl) (I13 B cb W8) ⟨HM8.out.2.2.1, Turn.refl _ _ _⟩ (fun _ => Turn cb none) (F9 (P9 w E) (.agg #[.int .i64 16, .string ⟨#[]⟩, .int .i64 0, .int .i64 0, .slice (some ⟨w7.heap.size, 0, none⟩) 2 2]) cb E) (fun L j i v w1 w2 _ _ _ hR h => F9_keep HNP.out L j i v w1 w2 hR h) ?hop ?hend
    case hop =>
      refine ⟨?_, ?_, ?_, ?_, ?_, ?_, ?_, ?_, ?_, ?_, ?_, ?_, ?_, ?_, ?_, ?_, ?_, trivial⟩
      · intro L vs A w1 hev hL hI hd
        go_wp2
        exact ⟨_, rfl, Turn.of_below (bl1 _ _), hI.step (cur_below hI.1 (by have h1 := HZ.out.1; have h2 := hI.2.1.2.2.2; omega) (bl1 _ _)) (Turn.of_below (bl1 _ _)), SSl.one (NewB.made (Z := W8.heap.size) w1 _ _ hI.2.1.2.2.2) (HPP.out _ (by have h1 := HZ.out.1; have h2 := hI.2.1.2.2.2; omega))⟩
      · intro L vs A w1 hev hL hI hd
        have q4 : A.tmps[4]?.getD undef = .pointer (some ⟨w7.heap.size + 1, 0, none⟩) := hev.2 4 (by kernel_rfl)
        have VS1 := HVS.out.keep (hI.2.2 _ HZ.out.2 (by have h1 := HZ.out; have h2 := HM8.out.2.2.2.2.1; have h3 := VS7.out; omega) (by simp))
        have k0 := (VS1 0 _ rfl).1
        have k1 := (VS1 1 _ rfl).1
        have k2 := (VS1 2 _ rfl).1
        have k3 := (VS1 3 _ rfl).1
        have k4 := (VS1 4 _ rfl).1
        go_wp2
        exact ⟨_, rfl, Turn.refl _ _ _, hI, rfl⟩
      · intro L vs A w1 hev hL hI hd
        have h1 : vs 1 = .agg #[.int .i64 16, .string ⟨#[]⟩, .int .i64 0, .int .i64 0, .slice (some ⟨w7.heap.size, 0, none⟩) 2 2] := hd 1 (by kernel_rfl)
        have e22 := (hev.1 1 _ 22 rfl rfl).trans h1
        obtain ⟨l2, a2', c2', h2', s2', n2', b2'⟩ := HK2.out
        clear h2'
        have s3' := s2'.turn (hI.2.trans (Turn.of_below (bl1 w1 (.cells #[.int .i64 16, .string ⟨#[]⟩, .int .i64 0, .int .i64 0, .slice (some ⟨w7.heap.size, 0, none⟩) 2 2] 105)))) HNP.out hr
        go_wp2
        exact ⟨_, rfl, Turn.of_below (bl1 _ _), hI.step (cur_below hI.1 (by have h1 := HZ.out.1; have h2 := hI.2.1.2.2.2; omega) (bl1 _ _)) (Turn.of_below (bl1 _ _)), SEx.one (t := .node 16 ⟨#[]⟩ 0 0 l2) (NewB.made (Z := W8.heap.size) w1 _ _ hI.2.1.2.2.2) (HPP.out _ (by have h1 := HZ.out.1; have h2 := hI.2.1.2.2.2; omega)) s3' (by rw [Ex.T.bulk]; have e : (⟨#[]⟩ : ByteArray).size = 0 := rfl; omega)⟩
      · intro L vs A w1 hev hL hI hd
        obtain ⟨l2, a2, c2, h2, s2, n2, b2⟩ : SEx (P9 w E) w1 1 56158 (vs 2) := hd 2 (by kernel_rfl)
        rw [h2] at s2
        have e23 := (hev.1 2 _ 23 rfl rfl).trans h2
        go_wp2
        exact ⟨_, rfl, Turn.refl _ _ _, hI, ⟨_, rfl, (⟨_, _, _, rfl, s2, n2, b2⟩ : SEx (P9 w E) w1 _ _ _)⟩⟩
      · intro L vs A w1 hev hL hI hd
        obtain ⟨a0, c0, h0, s0⟩ : SSl (P9 w E) w1 [⟨#[112]⟩] (vs 0) := hd 0 (by kernel_rfl)
        rw [h0] at s0
        have e21 := (hev.1 0 _ 21 rfl rfl).trans h0
        obtain ⟨u3, h3, l3, a3, c3, r3, s3, n3, b3⟩ : ∃ u, vs 3 = .agg #[.int .i64 14, .string ⟨#[]⟩, .int .i64 0, .int .i64 0, u] ∧ SEx (P9 w E) w1 1 56158 u := hd 3 (by kernel_rfl)
        subst r3
        have e24 := (hev.1 3 _ 24 rfl rfl).trans h3
        go_wp2
        exact ⟨_, rfl, Turn.refl _ _ _, hI, SPc.build (n := 1) (M := 56158) 14 (⟨_, _, rfl, s0⟩ : SSl (P9 w E) w1 _ _) SSl.nil (⟨_, _, _, rfl, s3, n3, b3⟩ : SEx (P9 w E) w1 _ _ _) (by decide)⟩
      · intro L vs A w1 hev hL hI hd
        go_wp2
        exact ⟨_, rfl, Turn.of_below (bl1 _ _), hI.step (cur_below hI.1 (by have h1 := HZ.out.1; have h2 := hI.2.1.2.2.2; omega) (bl1 _ _)) (Turn.of_below (bl1 _ _)), SSl.one (NewB.made (Z := W8.heap.size) w1 _ _ hI.2.1.2.2.2) (HPP.out _ (by have h1 := HZ.out.1; have h2 := hI.2.1.2.2.2; omega))⟩
      · intro L vs A w1 hev hL hI hd
        have q0 : A.tmps[0]?.getD undef = .pointer (some ⟨cb, 0, none⟩) := hev.2 0 (by kernel_rfl)
        go_wp2
        exact ⟨_, rfl, Turn.refl _ _ _, hI, rfl⟩
      · intro L vs A w1 hev hL hI hd
        have h6 : vs 6 = .pointer (some ⟨cb, 0, none⟩) := hd 6 (by kernel_rfl)
        have e27 := (hev.1 6 _ 27 rfl rfl).trans h6
        have HP := Lib.hid (tree_33 B cb w1 hI.1 (by have h1 := HZ.out.1; have h2 := hI.2.1.2.2.2; omega))
        go_wp2_with fail
        (with_reducible refine HP.out.mono ?_)
        rintro e w4 hd4
        obtain ⟨v4, rfl, ht4, hc4, ho4⟩ := STr.drawn hd4 (Z := E + 1) (by have h1 := HZ.out.1; have h2 := hI.2.1.2.2.2; omega) HPP.out
        clear hd4
        go_wp2
        exact ⟨_, rfl, Turn.of_only ho4, hI.step hc4 (Turn.of_only ho4), ht4⟩
      · intro L vs A w1 hev hL hI hd
        have q0 : A.tmps[0]?.getD undef = .pointer (some ⟨cb, 0, none⟩) := hev.2 0 (by kernel_rfl)
        go_wp2
        exact ⟨_, rfl, Turn.refl _ _ _, hI, rfl⟩
      · intro L vs A w1 hev hL hI hd
        have h8 : vs 8 = .pointer (some ⟨cb, 0, none⟩) := hd 8 (by kernel_rfl)
        have e29 := (hev.1 8 _ 29 rfl rfl).trans h8
        have HP := Lib.hid (tree_4 B cb w1 hI.1 (by have h1 := HZ.out.1; have h2 := hI.2.1.2.2.2; omega))
        go_wp2_with fail
        (with_reducible refine HP.out.mono ?_)
        rintro e w4 hd4
        obtain ⟨v4, rfl, ht4, hc4, ho4⟩ := STr.drawn hd4 (Z := E + 1) (by have h1 := HZ.out.1; have h2 := hI.2.1.2.2.2; omega) HPP.out
        clear hd4
        go_wp2
        exact ⟨_, rfl, Turn.of_only ho4, hI.step hc4 (Turn.of_only ho4), ht4⟩
      · intro L vs A w1 hev hL hI hd
        obtain ⟨t9, a9, c9, h9, s9, b9⟩ : STr (P9 w E) w1 28078 (vs 9) := hd 9 (by kernel_rfl)
        have e30 := (hev.1 9 _ 30 rfl rfl).trans h9
        go_wp2
        exact ⟨_, rfl, Turn.of_below (bl1 _ _), hI.step (cur_below hI.1 (by have h1 := HZ.out.1; have h2 := hI.2.1.2.2.2; omega) (bl1 _ _)) (Turn.of_below (bl1 _ _)), SEx.one (t := t9) (NewB.made (Z := W8.heap.size) w1 _ _ hI.2.1.2.2.2) (HPP.out _ (by have h1 := HZ.out.1; have h2 := hI.2.1.2.2.2; omega)) (s9.turn (Turn.of_below (bl1 _ _)) HNP.out hr) b9⟩
      · intro L vs A w1 hev hL hI hd
        obtain ⟨l10, a10, c10, h10, s10, n10, b10⟩ : SEx (P9 w E) w1 1 28078 (vs 10) := hd 10 (by kernel_rfl)
        rw [h10] at s10
        have e31 := (hev.1 10 _ 31 rfl rfl).trans h10
        go_wp2
        exact ⟨_, rfl, Turn.refl _ _ _, hI, STr.node (n := 1) (M := 28078) 19 (⟨_, _, _, rfl, s10, n10, b10⟩ : SEx (P9 w E) w1 _ _ _) (by decide)⟩
      · intro L vs A w1 hev hL hI hd
        obtain ⟨t7, a7, c7, h7, s7, b7⟩ : STr (P9 w E) w1 4678 (vs 7) := hd 7 (by kernel_rfl)
        have e28 := (hev.1 7 _ 28 rfl rfl).trans h7
        obtain ⟨t11, a11, c11, h11, s11, b11⟩ : STr (P9 w E) w1 28079 (vs 11) := hd 11 (by kernel_rfl)
        have e32 := (hev.1 11 _ 32 rfl rfl).trans h11
        go_wp2
        exact ⟨_, rfl, Turn.of_below (bl1 _ _), hI.step (cur_below hI.1 (by have h1 := HZ.out.1; have h2 := hI.2.1.2.2.2; omega) (bl1 _ _)) (Turn.of_below (bl1 _ _)), SEx.two (t := t7) (y := t11) (NewB.made (Z := W8.heap.size) w1 _ _ hI.2.1.2.2.2) (HPP.out _ (by have h1 := HZ.out.1; have h2 := hI.2.1.2.2.2; omega)) (s7.turn (Turn.of_below (bl1 _ _)) HNP.out hr) (s11.turn (Turn.of_below (bl1 _ _)) HNP.out hr) b7 b11⟩
      · intro L vs A w1 hev hL hI hd
        obtain ⟨l12, a12, c12, h12, s12, n12, b12⟩ : SEx (P9 w E) w1 2 (4678 + 28079) (vs 12) := hd 12 (by kernel_rfl)
        rw [h12] at s12
        have e33 := (hev.1 12 _ 33 rfl rfl).trans h12
        go_wp2
        exact ⟨_, rfl, Turn.refl _ _ _, hI, ⟨_, rfl, (⟨_, _, _, rfl, s12, n12, b12⟩ : SEx (P9 w E) w1 _ _ _)⟩⟩
      · intro L vs A w1 hev hL hI hd
        obtain ⟨a5, c5, h5, s5⟩ : SSl (P9 w E) w1 [⟨#[120]⟩] (vs 5) := hd 5 (by kernel_rfl)
        rw [h5] at s5
        have e26 := (hev.1 5 _ 26 rfl rfl).trans h5
        obtain ⟨u13, h13, l13, a13, c13, r13, s13, n13, b13⟩ : ∃ u, vs 13 = .agg #[.int .i64 14, .string ⟨#[]⟩, .int .i64 0, .int .i64 0, u] ∧ SEx (P9 w E) w1 2 (4678 + 28079) u := hd 13 (by kernel_rfl)
        subst r13
        have e34 := (hev.1 13 _ 34 rfl rfl).trans h13
        go_wp2
        exact ⟨_, rfl, Turn.refl _ _ _, hI, SPc.build (n := 2) (M := 4678 + 28079) 14 SSl.nil (⟨_, _, rfl, s5⟩ : SSl (P9 w E) w1 _ _) (⟨_, _, _, rfl, s13, n13, b13⟩ : SEx (P9 w E) w1 _ _ _) (by decide)⟩
      · intro L vs A w1 hev hL hI hd
        obtain ⟨p4, a4, x4, y4, c4, d4, z4, h4, s4⟩ : SPc (P9 w E) w1 56162 (vs 4) := hd 4 (by kernel_rfl)
        have g4 : SPc (P9 w E) w1 56162 (vs 4) := hd 4 (by kernel_rfl)
        rw [h4] at g4
        have e25 := (hev.1 4 _ 25 rfl rfl).trans h4
        obtain ⟨p14, a14, x14, y14, c14, d14, z14, h14, s14⟩ : SPc (P9 w E) w1 32765 (vs 14) := hd 14 (by kernel_rfl)
        have g14 : SPc (P9 w E) w1 32765 (vs 14) := hd 14 (by kernel_rfl)
        rw [h14] at g14
        have e35 := (hev.1 14 _ 35 rfl rfl).trans h14
        go_wp2
        exact ⟨_, rfl, Turn.of_below (bl1 _ _), hI.step (cur_below hI.1 (by have h1 := HZ.out.1; have h2 := hI.2.1.2.2.2; omega) (bl1 _ _)) (Turn.of_below (bl1 _ _)), SPs.two rfl rfl (g4.turn (Turn.of_below (bl1 _ _)) HNP.out) (g14.turn (Turn.of_below (bl1 _ _)) HNP.out) (NewB.made (Z := W8.heap.size) w1 _ _ hI.2.1.2.2.2) (HPP.out _ (by have h1 := HZ.out.1; have h2 := hI.2.1.2.2.2; omega))⟩
      · intro L vs A w1 hev hL hI hd
        have q3 : A.tmps[3]?.getD undef = .pointer (some ⟨E, 0, none⟩) := hev.2 3 (by kernel_rfl)
        go_wp2
        exact ⟨_, rfl, Turn.refl _ _ _, hI, rfl⟩
    case hend =>
      intro L vs w9 hL hI hd
      obtain ⟨ps, a9, c9, h15, s15, b15⟩ : SPs (P9 w E) w9 (2 + (56162 + 32765)) (vs 15) := hd 15 (by omega)
      have h16 : vs 16 = .pointer (some ⟨E, 2, none⟩) := hd 16 (by omega)
      rw [h15] at s15
      have HM9 := Lib.hid (HM8.out.turn hcl hI.1 hI.2)
      have HR := Lib.hid ((((HM9.out.set2 hcl hB (.slice a9 ps.length c9)).full (s15.set (fun e => e.2 rfl) 2 _) (by have e1 : recsB [⟨⟨#[112, 111, 105, 110, 116]⟩, [⟨#[110, 97, 109, 101]⟩, ⟨#[98]⟩], 0⟩] = 13 := rfl; have e2 : strsB [⟨#[103]⟩] = 2 := rfl; omega)).ret hcl hB))
      obtain ⟨x0, xf0⟩ := HM9.out.2.1 0 _ rfl
      obtain ⟨x1, xf1⟩ := HM9.out.2.1 1 _ rfl
      obtain ⟨x2, xf2⟩ := HM9.out.2.1 2 _ rfl
      obtain ⟨y0, f0⟩ := HM9.out.1 0 _ rfl
      obtain ⟨y1, f1⟩ := HM9.out.1 1 _ rfl
      obtain ⟨y2, f2⟩ := HM9.out.1 2 _ rfl
      have hne : ¬ w.heap.size = E := by omega
      have hne2 : ¬ E = w.heap.size := by omega
      clear hd hI hL s15 b15
      simp only [List.take_succ_cons, List.take_zero, putsA, List.drop_succ_cons, List.drop_zero]
      go_wp2
      exact bodyPost_ret (v := unV (.slice (some ⟨w5.heap.size + 1, 0, none⟩) 1 1) (.slice (some ⟨w5.heap.size + 1 + 1, 0, none⟩) 1 1) (.slice a9 ps.length c9)) (by simp [results, Tryd.results41, go_sem, y0, y1, y2]) rfl HR.out
end Go.Proofs.YtbadepiakkhabaaDoor
/- The reference model's draw of a unit and a number. No conditions. -/
namespace Go.Proofs.YtbadepiakkhabaaDoor
open Go.RowKit
set_option linter.unusedVariables false

/-- A unit and a number are drawn. -/
def DrawnL (w : World) (e : Ending) (w' : World) : Prop := ∃ (u : Un) (v1 v2 v3 : Value) (k : Int), e = .returned (.tuple #[unV v1 v2 v3, .int .i64 k]) ∧ UnIs w' u v1 v2 v3 ∧ u.bulk ≤ 300000 ∧ (-1 ≤ k ∧ k ≤ 2) ∧ Below w.heap.size w w'
set_option maxRecDepth 100000 in
set_option maxHeartbeats 3200000 in
theorem draw_local (v : Value) (n : Nat) (w : World) (hc : Code w.heap.size w v n) (hn : (n : Int) ≤ 1048576) : Calls Tryd.prog 16 #[v] w (DrawnL w) := by
  have b0 := bl1 w (.cells #[.slice none 0 0, .slice none 0 0, .slice none 0 0] 51)
  have z0 : (w.alloc (.cells #[.slice none 0 0, .slice none 0 0, .slice none 0 0] 51)).heap.size = w.heap.size + 1 := World.size_alloc _ _
  have HC := Lib.hid (draw_new v n (w.alloc (.cells #[.slice none 0 0, .slice none 0 0, .slice none 0 0] 51)) (code_up (code_below hc b0) (by omega)) hn)
  rw [z0] at HC
  have HV0 := Lib.hid (Var.new w #[.slice none 0 0, .slice none 0 0, .slice none 0 0] 51)
  have HB0 := Lib.hid b0
  have HZ0 := Lib.hid z0
  clear hc hn b0 z0
  go_enter Tryd.func16, Tryd.ntmps16
  go_wp2_with fail
  (with_reducible refine HC.out.mono ?_)
  rintro e w1 ⟨cb, rfl, hcb, hlt, hcur, hb1⟩
  have hs1 : w.heap.size + 1 ≤ w1.heap.size := by have h1 := hb1.size; have h2 := HZ0.out; omega
  have HD := Lib.hid (draw_unit9 (w.heap.size + 1) cb w1 hcur hs1)
  have HV1 := Lib.hid (HV0.out.later (by rw [HZ0.out]; exact hb1))
  have HB1 : Hid (Below w.heap.size w w1) := Lib.hid (below_then HB0.out (by rw [HZ0.out]; exact hb1))
  clear hcur hb1 HC HV0
  go_wp2_with fail
  (with_reducible refine HD.out.mono ?_)
  rintro e w2 ⟨u, a1, a3, v2, c1, c3, rfl, ⟨s1, s2, s3⟩, hbk, hc2, ho2⟩
  have HS1 := Lib.hid s1
  have HS2 := Lib.hid s2
  have HS3 := Lib.hid s3
  have HV2 := Lib.hid (HV1.out.keep (ho2.block _ HV1.out.lt (fun e => by have := Option.some.inj e; omega)))
  have HL := Lib.hid (draw_below (w.heap.size + 1) cb 4 w2 hc2 (by omega) (by omega))
  have HO2 := Lib.hid ho2
  clear hc2 ho2 s1 s2 s3 HD
  go_wp2_with fail
  (with_reducible refine HL.out.mono ?_)
  rintro e w3 ⟨x, rfl, x0, x1, hc3, ho3⟩
  have hcP : ¬ (w1.heap.size ≤ cb) := by omega
  have hr : ∀ r, (none : Option Nat) = some r → ¬ (w1.heap.size ≤ r) := fun r e => by cases e
  have t1 := HS1.out.turn (Turn.of_only ho3) hcP hr
  have t2 := HS2.out.turn (Turn.of_only ho3) hcP hr
  have t3 := HS3.out.turn (Turn.of_only ho3) hcP hr
  have HV3 := HV2.out.keep (ho3.block _ HV2.out.lt (fun e => by have := Option.some.inj e; omega))
  obtain ⟨y0, f0⟩ := HV3 0 _ rfl
  obtain ⟨y1, f1⟩ := HV3 1 _ rfl
  obtain ⟨y2, f2⟩ := HV3 2 _ rfl
  have hnP : ¬ (w1.heap.size ≤ w.heap.size) := by omega
  obtain ⟨a2, c2, rfl⟩ := is_slice t2.is
  have hR : DrawnL w (.returned (.tuple #[unV (.slice a1 u.recs.length c1) (.slice a2 u.globs.length c2) (.slice a3 u.procs.length c3), .int .i64 (x - 1)])) (((w3.setCell ⟨w.heap.size, 0, none⟩ (.slice a1 u.recs.length c1)).setCell ⟨w.heap.size, 1, none⟩ (.slice a2 u.globs.length c2)).setCell ⟨w.heap.size, 2, none⟩ (.slice a3 u.procs.length c3)) := by
    refine ⟨u, _, _, _, _, rfl, ⟨?_, ?_, ?_⟩, hbk, ⟨by omega, by omega⟩, ?_⟩
    · exact (((t1.set hnP 0 _).set hnP 1 _).set hnP 2 _).is
    · exact (((t2.set hnP 0 _).set hnP 1 _).set hnP 2 _).is
    · exact (((t3.set hnP 0 _).set hnP 1 _).set hnP 2 _).is
    · have hb2 : Below w.heap.size w w2 := HB1.out.trans (HO2.out.below (by omega) HB1.out.size)
      have hb3 : Below w.heap.size w w3 := hb2.trans (ho3.below (by omega) hb2.size)
      exact ((hb3.setCell (p := ⟨w.heap.size, 0, none⟩) (Nat.le_refl _) _).setCell (p := ⟨w.heap.size, 1, none⟩) (Nat.le_refl _) _).setCell (p := ⟨w.heap.size, 2, none⟩) (Nat.le_refl _) _
  have HR := Lib.hid hR
  have hw : IntKind.i64.wrap (x - 1) = x - 1 := by rw [IntKind.wrap_i64]; omega
  clear hc3 ho3 t1 t2 t3 HV3 hR HL HS1 HS2 HS3 x0 x1
  go_wp2
  exact bodyPost_ret (v := .tuple #[unV (.slice a1 u.recs.length c1) (.slice a2 u.globs.length c2) (.slice a3 u.procs.length c3), .int .i64 (x - 1)]) (by simp [results, Tryd.results16, go_sem, y0, y1, y2]) rfl HR.out
end Go.Proofs.YtbadepiakkhabaaDoor
/- The program's table of the functions' names; a function's number. The table reads as the program's text lays it. -/
namespace Go.Proofs.YtbadepiakkhabaaDoor
open Go.RowKit
set_option linter.unusedVariables false

/-- The table holds the names. -/
def NamesAt (W : World) : Prop := ∃ t fr, W.heap[1]? = some (.cells (funL.map Value.string).toArray t fr)
theorem NamesAt.lt {W : World} (h : NamesAt W) : 1 < W.heap.size := by
  obtain ⟨t, fr, h⟩ := h
  exact (Array.getElem?_eq_some_iff.1 h).1
theorem NamesAt.keep {W W' : World} (h : NamesAt W) (hb : W'.heap[1]? = W.heap[1]?) : NamesAt W' := by
  obtain ⟨t, fr, h⟩ := h
  exact ⟨t, fr, hb.trans h⟩
theorem NamesAt.later {W W' : World} (h : NamesAt W) (hb : Below W.heap.size W W') : NamesAt W' := h.keep (hb.block _ h.lt)
theorem run_index_names (k : Nat) (x : ByteArray) (hk : funL[k]? = some x) (w : World) : (Instr.index 186 (.agg (funL.map Value.string).toArray) (.int .i64 (k : Int))).run Tryd.prog w = .ok (.string x) w := by
  have hl : k < 55 := (List.getElem?_eq_some_iff.1 hk).1
  have hc : ((funL.map Value.string).toArray)[k]? = some (.string x) := by simp [hk]
  generalize (funL.map Value.string).toArray = cs at hc ⊢
  obtain ⟨i0, hi, hz0, hz1, hz2⟩ := info_parts info_string
  have h1 : (0 : Int) ≤ (k : Int) ∧ (k : Int) < ((55 : Nat) : Int) := by omega
  simp [Instr.index, run_underlying Tryd.underlying186, run_underlying Tryd.underlying9, asIntOf, sizeOf, typeInfo, hi, hz1, part, isAgg, hc]
  intro h; omega
set_option maxRecDepth 100000 in
set_option maxHeartbeats 1600000 in
theorem impl_fnumber (s : ByteArray) (w : World) (hN : NamesAt w) : Calls Tryd.prog 87 #[.string s] w fun e w' => e = .returned (.int .i64 (fxI funL s)) ∧ w = w' := by
  obtain ⟨tt, fr, hg⟩ := hN
  have HG := Lib.hid hg
  have HI := Lib.hid run_index_names
  clear hg
  obtain ⟨cs, hcs⟩ : ∃ cs, (funL.map Value.string).toArray = cs := ⟨_, rfl⟩
  have hsz : (Tryd.prog.info? 186).map (·.size) = some cs.size := by rw [← hcs]; kernel_rfl
  have HSZ := Lib.hid hsz
  rw [hcs] at HG HI
  clear hcs hsz
  go_enter Tryd.func87, Tryd.ntmps87
  go_wp2_with (refine wpList_load_row rfl 186 _ rfl 1 rfl tt cs fr _ HG.out Tryd.underlying186 rfl HSZ.out ?_)
  go_loop [3, 4, 6] (fun _ _ i => ∃ k : Nat, i = .int .i64 k ∧ k ≤ funL.length ∧ NotYet funL s k) (fun _ _ i => funL.length - (intOf i).toNat)
  case atStart => exact ⟨0, rfl, Nat.zero_le _, notYet_zero funL s⟩
  case round =>
    obtain ⟨k, rfl, hk, hn⟩ := hrel
    have HN := Lib.hid hn
    have HL : Hid (funL.length = 55) := Lib.hid rfl
    clear hn
    by_cases hlt : k < funL.length
    · have hix := HI.out k funL[k] (List.getElem?_eq_getElem hlt)
      have hk55 : (k : Int) < 55 := by have := HL.out; omega
      have HLT := Lib.hid hlt
      cases he : eqN funL[k] s
      case true =>
        have HX := Lib.hid (fxI_some (fx_at hlt he HN.out))
        have t1 : (funL[k].toList == s.toList) = true := he
        clear he
        generalize funL[k] = x at hix t1
        clear hlt
        go_wp2
        go_ret
        exact ⟨ret_in HX.out.symm, rfl⟩
      case false =>
        have HX := Lib.hid (notYet_succ HN.out hlt he)
        have t1 : (funL[k].toList == s.toList) = false := he
        clear he
        generalize funL[k] = x at hix t1
        clear hlt
        go_wp2
        go_round
        case rel => exact ⟨k + 1, by go_num, HLT.out, HX.out⟩
        case measure => have := HLT.out; first | (simp [intOf]; done) | (simp [intOf]; omega)
    · obtain rfl : k = funL.length := by omega
      have HX := Lib.hid (fxI_none (notYet_all HN.out))
      have h55 : ¬ ((funL.length : Nat) : Int) < 55 := by have := HL.out; omega
      go_wp2
      go_ret
      exact ⟨ret_in HX.out.symm, rfl⟩
end Go.Proofs.YtbadepiakkhabaaDoor
/- Maps from names to what they mean: what is in them, behind a store, at a look-up. No conditions. -/
namespace Go.Proofs.YtbadepiakkhabaaDoor
open Go.RowKit
set_option linter.unusedVariables false

abbrev meanV (p : Int × Int) : Value := .agg #[.int .i64 p.1, .int .i64 p.2]
def meanD (p : Int × Int) : DataW Unit := .agg [.lit (.int .i64 p.1), .lit (.int .i64 p.2)]
/-- How a meaning reads. -/
def meanE : Value → Option (DataW Unit × List MemPlace)
  | .agg cs => match cs.toList with
    | [.int .i64 a, .int .i64 b] => some (meanD (a, b), [])
    | _ => none
  | _ => none
theorem meanE_mk (p : Int × Int) : meanE (meanV p) = some (meanD p, []) := rfl
theorem meanE_inv {v : Value} {p : Int × Int} {ps : List MemPlace} (h : meanE v = some (meanD p, ps)) : v = meanV p := by
  unfold meanE at h
  split at h
  · rename_i cs
    split at h
    · rename_i a b hl
      simp only [Option.some.injEq, Prod.mk.injEq, meanD, DataW.agg.injEq, List.cons.injEq, DataW.lit.injEq, Lit.int.injEq, true_and, and_true] at h
      obtain ⟨⟨h1, h2⟩, _⟩ := h
      obtain rfl : cs = #[.int .i64 a, .int .i64 b] := Array.toList_inj.1 hl
      rw [h1, h2]
    · cases h
  · cases h
abbrev keyL (s : ByteArray) : Lit := .string s.data.toList
theorem keyL_inj {s x : ByteArray} (h : keyL s = keyL x) : s = x := by
  injection h with h
  cases s; cases x
  exact congrArg ByteArray.mk (Array.toList_inj.1 h)
theorem keyL_is (s : ByteArray) : WideAt.IsKeyLit (keyL s) := trivial
theorem key_law : Maps.Keyed Tryd.prog 9 := Maps.string_keyed Tryd.underlying9
/-- Block b is a map of at most n names that says f. -/
def MapM (w : World) (b n : Nat) (f : ByteArray → Option (Int × Int)) : Prop := ∃ D : DataW Unit, w.ownsMap Tryd.prog 9 meanE b n D ∧ ∀ s : ByteArray, Maps.has D (keyL s) = (f s).isSome ∧ ∀ p, f s = some p → D.atKey (keyL s) (meanD (0, 0)) = meanD p
theorem MapM.lt {w : World} {b n : Nat} {f : ByteArray → Option (Int × Int)} (h : MapM w b n f) : b < w.heap.size := by obtain ⟨D, h, _⟩ := h; exact h.lt
theorem MapM.obj {w : World} {b n : Nat} {f : ByteArray → Option (Int × Int)} (h : MapM w b n f) : ∃ o : Obj, w.heap[b]? = some o ∧ o.isCells = false := by
  obtain ⟨D, ⟨es, clock, hb, _⟩, _⟩ := h
  exact ⟨_, hb, rfl⟩
theorem MapM.keep {w w' : World} {b n : Nat} {f : ByteArray → Option (Int × Int)} (h : MapM w b n f) (hb : w'.heap[b]? = w.heap[b]?) : MapM w' b n f := by
  obtain ⟨D, ⟨es, clock, h1, h2⟩, h3⟩ := h
  exact ⟨D, ⟨es, clock, hb.trans h1, h2⟩, h3⟩
theorem MapM.later {w w' : World} {b n : Nat} {f : ByteArray → Option (Int × Int)} (h : MapM w b n f) (hb : Below w.heap.size w w') : MapM w' b n f := h.keep (hb.block _ h.lt)
theorem MapM.made (w : World) : MapM (w.alloc (.map #[] 0)) w.heap.size 0 fun _ => none :=
  ⟨_, World.ownsMap_made w Tryd.prog 9 meanE, fun s => ⟨rfl, fun p h => by cases h⟩⟩
theorem MapM.congr {w : World} {b n : Nat} {f g : ByteArray → Option (Int × Int)} (h : MapM w b n f) (hg : ∀ s, g s = f s) : MapM w b n g := by
  obtain rfl : g = f := funext hg
  exact h
theorem MapM.mono {w : World} {b n m : Nat} {f : ByteArray → Option (Int × Int)} (h : MapM w b n f) (hn : n ≤ m) : MapM w b m f := by
  obtain ⟨D, h1, h2⟩ := h
  exact ⟨D, h1.mono hn, h2⟩
theorem zero_mean (w : World) : (zeroValue 114).run Tryd.prog w = .ok (.agg #[.int .i64 0, .int .i64 0]) w := by kernel_rfl
/-- What a look-up answers. -/
def lookV (f : ByteArray → Option (Int × Int)) (s : ByteArray) : Int × Int := match f s with | some p => p | none => (0, 0)
theorem MapM.look {w : World} {b n : Nat} {f : ByteArray → Option (Int × Int)} (h : MapM w b n f) {s : ByteArray} (hs : s.size ≤ maxLen) : (Instr.lookup 97 (.map (some b)) (.string s) true).run Tryd.prog w = .ok (.tuple #[meanV (lookV f s), .bool (f s).isSome]) w := by
  obtain ⟨D, h1, h2⟩ := h
  obtain ⟨v, ps, hr, hv⟩ := h1.look_ok key_law Tryd.underlying97 (zero_mean w) (meanE_mk (0, 0)) (WideMaps.keyOf_string_mk Tryd.underlying9 hs)
  rw [hr, (h2 s).1]
  have e : v = meanV (lookV f s) := by
    refine meanE_inv (ps := ps) (hv.trans ?_)
    unfold lookV
    cases hf : f s with
    | some p => rw [(h2 s).2 p hf]
    | none =>
      have hh := (h2 s).1
      rw [hf] at hh
      rw [Maps.atKey_of_not_has (by simpa using hh)]
  rw [e]
/-- What a name means once it has been given a meaning unless it had one. -/
def decl (f : ByteArray → Option (Int × Int)) (s : ByteArray) (p : Int × Int) : ByteArray → Option (Int × Int) := fun x => match f x with | some q => some q | none => if eqN s x then some p else none
theorem decl_old {f : ByteArray → Option (Int × Int)} {s : ByteArray} {p : Int × Int} (h : (f s).isSome = true) (x : ByteArray) : decl f s p x = f x := by
  unfold decl
  cases hx : f x with
  | some q => rfl
  | none =>
    simp only
    rw [if_neg]
    intro he
    rw [eqN_iff.1 he, hx] at h
    cases h
theorem MapM.put {w : World} {b n : Nat} {f : ByteArray → Option (Int × Int)} (h : MapM w b n f) {s : ByteArray} (hs : s.size ≤ maxLen) (hn : n < maxLen) (hf : f s = none) (p : Int × Int) : ∃ w', (Instr.mapUpdate 97 (.map (some b)) (.string s) (meanV p)).run Tryd.prog w = .ok () w' ∧ MapM w' b (n + 1) (decl f s p) ∧ w.grownBy w' (some b) := by
  obtain ⟨D, h1, h2⟩ := h
  obtain ⟨w', hr, h3, h4⟩ := h1.update key_law Tryd.underlying97 hn (WideMaps.keyOf_string_mk Tryd.underlying9 hs) (meanE_mk p)
  have hM := h1.isMap
  refine ⟨w', hr, ⟨_, h3, fun x => ?_⟩, h4⟩
  by_cases hx : x = s
  · subst hx
    rw [Maps.has_put_same hM (keyL_is x)]
    unfold decl
    rw [hf, eqN_self]
    refine ⟨rfl, fun q hq => ?_⟩
    obtain rfl : p = q := by simpa using hq
    exact Maps.atKey_put_same hM (keyL_is x) _ _
  · have hne : keyL x ≠ keyL s := fun e => hx (keyL_inj e)
    rw [Maps.has_put_other hne, (h2 x).1]
    have e : decl f s p x = f x := by
      unfold decl
      rw [eqN_ne (fun e => hx e.symm)]
      cases f x <;> rfl
    rw [e]
    refine ⟨rfl, fun q hq => ?_⟩
    rw [Maps.atKey_put_other hne]
    exact (h2 x).2 q hq
theorem wpList_put {w : World} {b n : Nat} {f : ByteArray → Option (Int × Int)} {s : ByteArray} {p : Int × Int} {ops : Array Oper} {rest : List Oper} {o : Oper} {a : Act} {Q : Exit → Act → World → Prop} (hgd : o.guard = none) (m x y : Operand) (hop : o.op = Op.mapUpdate 97 m x y)
    (hm : a.eval m = .map (some b)) (hx : a.eval x = .string s) (hy : a.eval y = meanV p) (h : MapM w b n f) (hs : s.size ≤ maxLen) (hn : n < maxLen) (hf : f s = none) (hK : ∀ w', MapM w' b (n + 1) (decl f s p) → w.grownBy w' (some b) → wpList Tryd.prog ops Q rest (a.put o.dst undef) w') : wpList Tryd.prog ops Q (o :: rest) a w := by
  refine wpList_plain hgd fun K' hK' => ?_
  obtain ⟨w', hr, h1, h2⟩ := h.put hs hn hf p
  unfold Oper.wp
  simp [execOp, hop, hm, hx, hy, hr, Result.andThen]
  exact hK' _ _ (hK w' h1 h2)
end Go.Proofs.YtbadepiakkhabaaDoor
/- The program's meanings: declaring a name, asking for one. The table reads as the program's text lays it. -/
namespace Go.Proofs.YtbadepiakkhabaaDoor
open Go.RowKit
set_option linter.unusedVariables false

def DeclR (b n : Nat) (f : ByteArray → Option (Int × Int)) (w : World) (e : Ending) (w' : World) : Prop := e = .returned (.tuple #[]) ∧ MapM w' b n f ∧ w.grownBy w' (some b)
theorem grown_alloc (w : World) (o : Obj) (r : Option Nat) : w.grownBy (w.alloc o) r := World.grownBy_alloc w o r
theorem grownr_trans {w w1 w2 : World} {r : Option Nat} (h1 : w.grownBy w1 r) (h2 : w1.grownBy w2 r) : w.grownBy w2 r :=
  ⟨h2.os.trans h1.os, h2.tape.trans h1.tape, h2.output.trans h1.output, Nat.le_trans h1.size h2.size, fun b hb hne => (h2.block b (Nat.lt_of_lt_of_le hb h1.size) hne).trans (h1.block b hb hne)⟩
set_option maxHeartbeats 800000 in
theorem impl_declare (b n : Nat) (f : ByteArray → Option (Int × Int)) (s : ByteArray) (k1 k2 : Int) (w : World) (h : MapM w b n f) (hs : s.size ≤ maxLen) (hn : n < maxLen) : Calls Tryd.prog 114 #[.map (some b), .string s, .int .i64 k1, .int .i64 k2] w (DeclR b (n + 1) (decl f s (k1, k2)) w) := by
  unfold DeclR
  have HM := Lib.hid h
  have HS := Lib.hid hs
  have HN := Lib.hid hn
  obtain ⟨p, hp⟩ : ∃ p, lookV f s = p := ⟨_, rfl⟩
  have hl := h.look hs
  rw [hp] at hl
  rcases hf : f s with _ | q
  · have h1 : (f s).isSome = false := by rw [hf]; rfl
    rw [h1] at hl
    have HF := Lib.hid hf
    have hm2 := h.later (bl1 w (.cells #[.int .i64 p.1, .int .i64 p.2] 114))
    have HM2 := Lib.hid hm2
    have HL := Lib.hid hl
    clear h hs hn hf h1 hm2 hp hl
    go_enter Tryd.func114, Tryd.ntmps114
    have hl := HL.out
    go_wp2_with (at_mapUpdate; refine wpList_put (p := (k1, k2)) rfl _ _ _ rfl rfl rfl rfl HM2.out HS.out HN.out HF.out ?_; intro w2 hm2 hg2)
    go_end0
    exact ⟨rfl, hm2, grownr_trans (grown_alloc _ _ _) hg2⟩
  · have h1 : (f s).isSome = true := by rw [hf]; rfl
    have HX := Lib.hid (decl_old (p := (k1, k2)) h1)
    rw [h1] at hl
    have hm2 := h.later (bl1 w (.cells #[.int .i64 p.1, .int .i64 p.2] 114))
    have HM2 := Lib.hid hm2
    have HL := Lib.hid hl
    clear h hs hn hf h1 hm2 hp hl
    go_enter Tryd.func114, Tryd.ntmps114
    have hl := HL.out
    go_wp2
    go_end0
    exact ⟨rfl, (HM2.out.congr HX.out).mono (Nat.le_succ _), grown_alloc _ _ _⟩
/-- What a name means, functions included. -/
def meanOf (f : ByteArray → Option (Int × Int)) (s : ByteArray) : Int × Int := match f s with | some p => p | none => (match fx funL s with | some k => (4, k) | none => (0, 0))
def RetM (w : World) (p : Int × Int) (e : Ending) (w' : World) : Prop := e = .returned (meanV p) ∧ Below w.heap.size w w'
set_option maxHeartbeats 1600000 in
theorem impl_of (b n : Nat) (f : ByteArray → Option (Int × Int)) (s : ByteArray) (w : World) (h : MapM w b n f) (hN : NamesAt w) (hs : s.size ≤ maxLen) : Calls Tryd.prog 52 #[.map (some b), .string s] w (RetM w (meanOf f s)) := by
  unfold RetM
  have HM := Lib.hid h
  have HS := Lib.hid hs
  have HN := Lib.hid (fun W (hW : Below w.heap.size w W) => impl_fnumber s W (hN.later hW))
  rcases hf : f s with _ | q
  · have hl : (Instr.lookup 97 (.map (some b)) (.string s) true).run Tryd.prog (w.alloc (.cells #[.int .i64 0, .int .i64 0] 114)) = .ok (.tuple #[.agg #[.int .i64 0, .int .i64 0], .bool false]) (w.alloc (.cells #[.int .i64 0, .int .i64 0] 114)) := by
      rw [(h.later (bl1 w _)).look hs]
      unfold lookV
      rw [hf]; rfl
    have HB := Lib.hid (bl2 w (.cells #[.int .i64 0, .int .i64 0] 114) (.cells #[.int .i64 0, .int .i64 0] 114))
    have HC := Lib.hid (HN.out _ HB.out)
    rcases hg : fx funL s with _ | k
    · have HX : Hid (meanOf f s = (0, 0)) := Lib.hid (by unfold meanOf; rw [hf]; simp only; rw [hg])
      rw [fxI_none hg] at HC
      rw [HX.out]
      clear h hs hN hf hg HX HN
      go_enter Tryd.func52, Tryd.ntmps52
      go_wp2_with (go_at_call 87; (with_reducible refine HC.out.mono ?_); rintro e w3 ⟨rfl, rfl⟩)
      exact bodyPost_ret (v := meanV (0, 0)) (by simp [results, Tryd.results52, go_sem]) rfl ⟨rfl, bl2 _ _ _⟩
    · have HX : Hid (meanOf f s = (4, (k : Int))) := Lib.hid (by unfold meanOf; rw [hf]; simp only; rw [hg])
      rw [fxI_some hg] at HC
      rw [HX.out]
      clear h hs hN hf hg HX HN
      go_enter Tryd.func52, Tryd.ntmps52
      go_wp2_with (go_at_call 87; (with_reducible refine HC.out.mono ?_); rintro e w3 ⟨rfl, rfl⟩)
      exact bodyPost_ret (v := meanV (4, (k : Int))) (by simp [results, Tryd.results52, go_sem]) rfl ⟨rfl, bl2 _ _ _⟩
  · have hl : (Instr.lookup 97 (.map (some b)) (.string s) true).run Tryd.prog (w.alloc (.cells #[.int .i64 0, .int .i64 0] 114)) = .ok (.tuple #[.agg #[.int .i64 q.1, .int .i64 q.2], .bool true]) (w.alloc (.cells #[.int .i64 0, .int .i64 0] 114)) := by
      rw [(h.later (bl1 w _)).look hs]
      unfold lookV
      rw [hf]; rfl
    have HB := Lib.hid (bl2 w (.cells #[.int .i64 0, .int .i64 0] 114) (.cells #[.int .i64 q.1, .int .i64 q.2] 114))
    have HX : Hid (meanOf f s = q) := Lib.hid (by unfold meanOf; rw [hf])
    rw [HX.out]
    clear h hs hN hf HX HN
    go_enter Tryd.func52, Tryd.ntmps52
    go_wp2
    exact bodyPost_ret (v := meanV q) (by simp [results, Tryd.results52, go_sem]) rfl ⟨rfl, bl2 _ _ _⟩
end Go.Proofs.YtbadepiakkhabaaDoor
