/- Joined texts: V64. No conditions besides those that each states. -/
import Derived.Test.YtbadepiakkhabaaDoorZ13
/- The reference model's drawing of a unit: its records. No conditions. -/
namespace Go.Proofs.YtbadepiakkhabaaDoor
open Go.RowKit
set_option linter.unusedVariables false

theorem cur_keepT {B cb : Nat} {rb : Option Nat} {w0 w1 w2 : World} (h : IsCur B w1 cb) (ht : Turn cb rb w1 w2) (hcl : cb < w0.heap.size) (hB : B ≤ w0.heap.size) (hr : ∀ r, rb = some r → w0.heap.size + 2 ≤ r) (hne : w2.heap[cb]? = w1.heap[cb]?) (hs : B ≤ w1.heap.size) : IsCur B w2 cb := by
  obtain ⟨v, m, i, x, c1, c2, c3⟩ := h
  exact ⟨v, m, i, x, c1, code_below c2 (ht.below c1 (fun b e => by have := hr b e; omega) hs), hne.trans c3⟩
theorem procs_small {M : Nat} {ps : List Pc} (h : ∀ r ∈ ps, r.bulk ≤ M) : procsB ps ≤ ps.length * (M + 1) := by
  unfold procsB
  induction ps with
  | nil => simp [wsum]
  | cons r l ih =>
    have h1 := h r List.mem_cons_self
    have h2 := ih fun q hq => h q (List.mem_cons_of_mem _ hq)
    simp only [wsum, List.length_cons, Nat.succ_mul] at *
    omega
theorem G7.ret {B cb B3 : Nat} {w wr : World} {rs : List Rc} {gs : List ByteArray} {ps : List Pc} {vr vg vp : Value} (h : G7 B cb w rs gs vr vg vp B3 wr) (hp : ProcsO B3 vp ps wr) (hcl : cb < w.heap.size) (hB : B ≤ w.heap.size) (h1 : rs.length ≤ 3) (h2 : recsB rs ≤ rs.length * 41) (h3 : strsB gs ≤ 4) (h4 : ps.length ≤ 3) (h5 : ∀ q ∈ ps, q.bulk ≤ 90003) :
    DrawnU 300000 B cb w (.returned (unV vr vg vp)) (((wr.setCell ⟨w.heap.size, 0, none⟩ vr).setCell ⟨w.heap.size, 1, none⟩ vg).setCell ⟨w.heap.size, 2, none⟩ vp) := by
  obtain ⟨⟨q1, q2, q3, q4⟩, ⟨Fr, Fg, g2, g3, g4⟩, g5, g6⟩ := h
  obtain ⟨F, p1, p2⟩ := hp
  have hk : ∀ x, w.heap.size + 2 ≤ x → (((wr.setCell ⟨w.heap.size, 0, none⟩ vr).setCell ⟨w.heap.size, 1, none⟩ vg).setCell ⟨w.heap.size, 2, none⟩ vp).heap[x]? = wr.heap[x]? := fun x hx => by
    rw [set_keep (by omega), set_keep (by omega), set_keep (by omega)]
  refine ⟨⟨rs, gs, ps⟩, vr, vg, vp, rfl, ⟨Fr, Fg, F, ?_, ?_, ?_, fun x hx => ?_⟩, ?_, ?_, ?_⟩
  · exact Own.keep _ _ _ (fun x hx => hk x (g4 x (List.mem_append_left _ hx)).1) g2
  · exact Own.keep _ _ _ (fun x hx => hk x (g4 x (List.mem_append_right _ hx)).1) g3
  · exact Own.keep _ _ _ (fun x hx => hk x (Nat.le_trans g5 (p2 x hx).1)) p1
  · simp only [set_size]
    rcases List.mem_append.1 hx with hx | hx
    · have := g4 x (List.mem_append_left _ hx); omega
    · rcases List.mem_append.1 hx with hx | hx
      · have := g4 x (List.mem_append_right _ hx); omega
      · have := p2 x hx; omega
  · have h6 := procs_small h5
    have h7 : ps.length * (90003 + 1) ≤ 3 * (90003 + 1) := Nat.mul_le_mul_right _ h4
    show recsB rs + (strsB gs + procsB ps) ≤ 300000
    omega
  · exact cur_far (cur_far (cur_far q3 hB (by omega) 0 vr) hB (by omega) 1 vg) hB (by omega) 2 vp
  · exact ((q4.far (Nat.le_refl _) 0 vr).far (Nat.le_refl _) 1 vg).far (Nat.le_refl _) 2 vp
theorem tree_3 (B cb : Nat) (w : World) (hp : IsCur B w cb) (hB : B ≤ w.heap.size) : Calls Tryd.prog 76 #[.pointer (some ⟨cb, 0, none⟩), .int .i64 3] w (DrawnT (bnd 2) B cb w) := tree_any 2 (by omega) B cb w hp hB
theorem recs_small {rs : List Rc} (h : ∀ r ∈ rs, r.bulk ≤ 40) : recsB rs ≤ rs.length * 41 := by
  unfold recsB
  induction rs with
  | nil => simp [wsum]
  | cons r l ih =>
    have h1 := h r List.mem_cons_self
    have h2 := ih fun q hq => h q (List.mem_cons_of_mem _ hq)
    simp only [wsum, List.length_cons] at *
    omega
set_option maxRecDepth 100000 in
set_option maxHeartbeats 25600000 in
theorem draw_unit7 (B cb : Nat) (w : World) (hp : IsCur B w cb) (hB : B ≤ w.heap.size) : Calls Tryd.prog 74 #[.pointer (some ⟨cb, 0, none⟩)] w (DrawnU 300000 B cb w) := by
  have hcl := cur_lt hp
  have hw2 := bl2 w (.cells #[.slice none 0 0, .slice none 0 0, .slice none 0 0] 51) (.cells #[.slice none 0 0, .slice none 0 0, .slice none 0 0] 51)
  have hst : U7 B cb w (.slice none 0 0) (.slice none 0 0) (.slice none 0 0) ((w.alloc (.cells #[.slice none 0 0, .slice none 0 0, .slice none 0 0] 51)).alloc (.cells #[.slice none 0 0, .slice none 0 0, .slice none 0 0] 51)) := by
    refine ⟨(Var.new w _ _).later (bl1 _ _), ?_, cur_below hp hB hw2, Only.of_below hw2⟩
    have := Var.new (w.alloc (.cells #[.slice none 0 0, .slice none 0 0, .slice none 0 0] 51)) #[.slice none 0 0, .slice none 0 0, .slice none 0 0] 51
    rw [World.size_alloc] at this
    exact this
  have hz2 : ((w.alloc (.cells #[.slice none 0 0, .slice none 0 0, .slice none 0 0] 51)).alloc (.cells #[.slice none 0 0, .slice none 0 0, .slice none 0 0] 51)).heap.size = w.heap.size + 2 := by simp
  obtain ⟨w2, hw⟩ : ∃ W, (w.alloc (.cells #[.slice none 0 0, .slice none 0 0, .slice none 0 0] 51)).alloc (.cells #[.slice none 0 0, .slice none 0 0, .slice none 0 0] 51) = W := ⟨_, rfl⟩
  rw [hw] at hst hz2
  have HW := Lib.hid hw
  have HST := Lib.hid hst
  have HZ := Lib.hid hz2
  have HX := Lib.hid (draw_below B cb 3 w2 hst.2.2.1 (by omega) (by omega))
  clear hw hst hz2 hw2 hp
  go_enter Tryd.func74, Tryd.ntmps74
  go_wp2_with fail
  rw [HW.out]
  (with_reducible refine HX.out.mono ?_)
  rintro e w3 ⟨n3, rfl, hn0, hn3, hc3, ho3⟩
  have HS3 := Lib.hid (HST.out.only hcl hc3 ho3)
  have HZ3 : Hid (w.heap.size + 2 ≤ w3.heap.size) := Lib.hid (by have := ho3.size; have := HZ.out; omega)
  clear hc3 ho3 HX HST
  go_wp2_with fail
  go_loopw [5] (fun i wr => ∃ (k : Nat) (rs : List Rc) (vr : Value) (Fs : List (List Nat)), i = .int .i64 k ∧ k ≤ 3 ∧ rs.length = k ∧ (∀ r ∈ rs, r.bulk ≤ 40) ∧ U7 B cb w vr (.slice none 0 0) (.slice none 0 0) wr ∧ AppD (w.heap.size + 2) wr 72 3 vr k (rs.flatMap Rc.ds) Fs ∧ w.heap.size + 2 ≤ wr.heap.size) (fun i _ => 3 - (intOf i).toNat)
  case atStart => exact ⟨0, [], .slice none 0 0, [], rfl, by omega, rfl, by simp, HS3.out, AppD.nil _ _ _ _, HZ3.out⟩
  case round =>
    clear HS3 HZ3
    obtain ⟨k, rs, vr, Fs, rfl, hk, hrs, hrb, hs, hap, hz⟩ := hrel
    have HS := Lib.hid hs
    have HAP := Lib.hid hap
    have HRB := Lib.hid hrb
    have HRS := Lib.hid hrs
    have HZW2 := Lib.hid hz
    have HZW : Hid (w.heap.size ≤ wr.heap.size) := Lib.hid (by omega)
    obtain ⟨av, nv, cv, rfl⟩ := hap.slice
    clear hs hap hrb hrs
    by_cases hlt : (k : Int) < n3
    · obtain ⟨rb, hrbk⟩ : ∃ rb, (Value.slice av nv cv).ownBlock = rb := ⟨_, rfl⟩
      have HRK : Hid (∀ r, rb = some r → w.heap.size + 2 ≤ r ∧ r < wr.heap.size) := Lib.hid (fun r e => row_lt HAP.out.1.choose_spec.1 (hrbk.trans e))
      have HRBX := Lib.hid hrbk
      go_wp2_with fail
      refine wp_region_by 15 107 rfl (by kernel_rfl) (by kernel_rfl) rfl (by kernel_rfl) (IRow B cb 13 rb wr) ⟨HS.out.2.2.1, Turn.refl _ _ _, fun _ => Turn.refl _ _ _⟩ (RRow cb 13 rb) (F6 wr.heap.size (w.heap.size + 1) cb (w.heap.size + 2) (.slice av nv cv) k (rs.flatMap Rc.ds)) (fun L j i v w1 w2 hji _ _ hR h => F6_keep (by omega) (by omega) (fun r e => (HRK.out r e).2) L j i v w1 w2 hji hR h) ?hop ?hend
      case hop =>
        refine ⟨?_, ?_, ?_, ?_, ?_, ?_, ?_, ?_, ?_, ?_, ?_, ?_, ?_, ?_, ?_, trivial⟩
        · intro L vs A w1 hev hL hI hd
          have e3 : A.tmps[3]?.getD undef = .pointer (some ⟨w.heap.size + 1, 0, none⟩) := hev.2 3 (by kernel_rfl)
          go_wp2
          exact ⟨_, rfl, RRow.of (Turn.refl _ _ _), hI.same (by decide), rfl⟩
        · intro L vs A w1 hev hL hI hd
          have h0 : vs 0 = .pointer (some ⟨w.heap.size + 1, 0, none⟩) := hd 0 (by kernel_rfl)
          have e18 := (hev.1 0 _ 18 rfl rfl).trans h0
          have x0 := ((HS.out.turn hcl hI.1 hI.2.1 (fun r e => (HRK.out r e).1)).2.1 0 _ rfl).1
          go_wp2
          exact ⟨_, rfl, RRow.of (Turn.refl _ _ _), hI.same (by decide), rfl⟩
        · intro L vs A w1 hev hL hI hd
          have e0 : A.tmps[0]?.getD undef = .pointer (some ⟨cb, 0, none⟩) := hev.2 0 (by kernel_rfl)
          go_wp2
          exact ⟨_, rfl, RRow.of (Turn.refl _ _ _), hI.same (by decide), rfl⟩
        · intro L vs A w1 hev hL hI hd
          go_wp2
          exact ⟨_, rfl, RRow.of (Turn.of_below (bl1 _ _)), hI.step (by decide) (cur_below hI.1 (Nat.le_trans hB (Nat.le_trans HZW.out hI.2.1.1.2.2.2)) (bl1 _ _)) (Turn.of_below (bl1 _ _)), _, rfl, NewB.made _ _ _ hI.2.1.1.2.2.2⟩
        · intro L vs A w1 hev hL hI hd
          have h2 : vs 2 = .pointer (some ⟨cb, 0, none⟩) := hd 2 (by kernel_rfl)
          obtain ⟨b, h3, hb⟩ : ∃ b, vs 3 = .slice (some ⟨b, 0, none⟩) 2 2 ∧ NewB wr.heap.size w1 b #[.string ⟨#[112, 111, 105, 110, 116]⟩, .string ⟨#[99, 101, 108, 108]⟩] 9 := hd 3 (by kernel_rfl)
          have e20 := (hev.1 2 _ 20 rfl rfl).trans h2
          have e21 := (hev.1 3 _ 21 rfl rfl).trans h3
          have HP : Hid (Calls Tryd.prog 105 #[.pointer (some ⟨cb, 0, none⟩), .slice (some ⟨b, 0, none⟩) 2 2] w1 (Picked Value.string [⟨#[112, 111, 105, 110, 116]⟩, ⟨#[99, 101, 108, 108]⟩] B cb w1)) := Lib.hid (pick_text B cb b 2 [⟨#[112, 111, 105, 110, 116]⟩, ⟨#[99, 101, 108, 108]⟩] w1 hI.1 (by decide) (by decide) (by have := hb.1; omega) (fun i hi => by
            rw [hb.cell i]
            rcases (show i = 0 ∨ i = 1 by simp at hi; omega) with rfl | rfl <;> rfl))
          go_wp2_with fail
          (with_reducible refine HP.out.mono ?_)
          rintro e w4 ⟨s, hs, rfl, hc, ho⟩
          have hss : s.size ≤ 5 := by
            simp only [List.mem_cons, List.not_mem_nil, or_false] at hs
            rcases hs with rfl | rfl <;> decide
          clear hs
          go_wp2
          exact ⟨_, rfl, RRow.of (Turn.of_only ho), hI.step (by decide) hc (Turn.of_only ho), s, rfl, hss⟩
        · intro L vs A w1 hev hL hI hd
          go_wp2
          exact ⟨_, rfl, RRow.of (Turn.of_below (bl1 _ _)), hI.step (by decide) (cur_below hI.1 (Nat.le_trans hB (Nat.le_trans HZW.out hI.2.1.1.2.2.2)) (bl1 _ _)) (Turn.of_below (bl1 _ _)), _, rfl, NewB.made _ _ _ hI.2.1.1.2.2.2⟩
        · intro L vs A w1 hev hL hI hd
          have e0 : A.tmps[0]?.getD undef = .pointer (some ⟨cb, 0, none⟩) := hev.2 0 (by kernel_rfl)
          go_wp2
          exact ⟨_, rfl, RRow.of (Turn.refl _ _ _), hI.same (by decide), rfl⟩
        · intro L vs A w1 hev hL hI hd
          have h6 : vs 6 = .pointer (some ⟨cb, 0, none⟩) := hd 6 (by kernel_rfl)
          have e24 := (hev.1 6 _ 24 rfl rfl).trans h6
          have HP := Lib.hid (draw_below B cb 3 w1 hI.1 (by omega) (by omega))
          go_wp2_with fail
          (with_reducible refine HP.out.mono ?_)
          rintro e w4 ⟨x, rfl, x0, x1, hc, ho⟩
          go_wp2
          exact ⟨_, rfl, RRow.of (Turn.of_only ho), hI.step (by decide) hc (Turn.of_only ho), x, rfl, x0, x1⟩
        · intro L vs A w1 hev hL hI hd
          obtain ⟨b, h5, hb⟩ : ∃ b, vs 5 = .slice (some ⟨b, 0, none⟩) 2 2 ∧ NewB wr.heap.size w1 b #[.string ⟨#[97]⟩, .string ⟨#[98]⟩] 9 := hd 5 (by kernel_rfl)
          obtain ⟨x, h7, x0, x1⟩ : ∃ x : Int, vs 7 = .int .i64 x ∧ 0 ≤ x ∧ x < 3 := hd 7 (by kernel_rfl)
          obtain ⟨m, rfl⟩ : ∃ m : Nat, x = m := ⟨x.toNat, by omega⟩
          have hm2 : (m : Int) ≤ 2 := by omega
          have e23 := (hev.1 5 _ 23 rfl rfl).trans h5
          have e25 := (hev.1 7 _ 25 rfl rfl).trans h7
          go_wp2
          exact ⟨_, rfl, RRow.of (Turn.refl _ _ _), hI.same (by decide), b, m, by omega, rfl, hb⟩
        · intro L vs A w1 hev hL hI hd
          have e0 : A.tmps[0]?.getD undef = .pointer (some ⟨cb, 0, none⟩) := hev.2 0 (by kernel_rfl)
          go_wp2
          exact ⟨_, rfl, RRow.of (Turn.refl _ _ _), hI.same (by decide), rfl⟩
        · intro L vs A w1 hev hL hI hd
          have h9 : vs 9 = .pointer (some ⟨cb, 0, none⟩) := hd 9 (by kernel_rfl)
          have e27 := (hev.1 9 _ 27 rfl rfl).trans h9
          have HP := Lib.hid (draw_below B cb 3 w1 hI.1 (by omega) (by omega))
          go_wp2_with fail
          (with_reducible refine HP.out.mono ?_)
          rintro e w4 ⟨x, rfl, x0, x1, hc, ho⟩
          go_wp2
          exact ⟨_, rfl, RRow.of (Turn.of_only ho), hI.step (by decide) hc (Turn.of_only ho), x, rfl, x0, x1⟩
        · intro L vs A w1 hev hL hI hd
          obtain ⟨s, h4, hs⟩ : ∃ s : ByteArray, vs 4 = .string s ∧ s.size ≤ 5 := hd 4 (by kernel_rfl)
          obtain ⟨b, m, hm, h8, hb⟩ : ∃ b n, n ≤ 2 ∧ vs 8 = .slice (some ⟨b, 0, none⟩) n 2 ∧ NewB wr.heap.size w1 b #[.string ⟨#[97]⟩, .string ⟨#[98]⟩] 9 := hd 8 (by kernel_rfl)
          obtain ⟨x, h10, x0, x1⟩ : ∃ x : Int, vs 10 = .int .i64 x ∧ 0 ≤ x ∧ x < 3 := hd 10 (by kernel_rfl)
          have e22 := (hev.1 4 _ 22 rfl rfl).trans h4
          have e26 := (hev.1 8 _ 26 rfl rfl).trans h8
          have e28 := (hev.1 10 _ 28 rfl rfl).trans h10
          go_wp2
          exact ⟨_, rfl, RRow.of (Turn.refl _ _ _), hI.same (by decide), s, b, m, x, hs, hm, rfl, hb⟩
        · intro L vs A w1 hev hL hI hd
          obtain ⟨s, b, m, x, hs, hm, h11, hb⟩ : ∃ (s : ByteArray) (b n : Nat) (x : Int), s.size ≤ 5 ∧ n ≤ 2 ∧ vs 11 = .agg #[.string s, .slice (some ⟨b, 0, none⟩) n 2, .int .i64 x] ∧ NewB wr.heap.size w1 b #[.string ⟨#[97]⟩, .string ⟨#[98]⟩] 9 := hd 11 (by kernel_rfl)
          have e29 := (hev.1 11 _ 29 rfl rfl).trans h11
          go_wp2
          exact ⟨_, rfl, RRow.of (Turn.of_below (bl1 _ _)), hI.step (by decide) (cur_below hI.1 (Nat.le_trans hB (Nat.le_trans HZW.out hI.2.1.1.2.2.2)) (bl1 _ _)) (Turn.of_below (bl1 _ _)), _, s, b, m, x, hs, hm, rfl, NewB.made _ _ _ hI.2.1.1.2.2.2, hb.keep (cb := cb) (rb := none) (Turn.of_below (bl1 _ _)) (by omega) (fun r e => by cases e)⟩
        · intro L vs A w1 hev hL hI hd
          have h1 : vs 1 = .slice av nv cv := hd 1 (by kernel_rfl)
          obtain ⟨c, s, b, m, x, hs, hm, h12, hcc, hb⟩ : ∃ (c : Nat) (s : ByteArray) (b n : Nat) (x : Int), s.size ≤ 5 ∧ n ≤ 2 ∧ vs 12 = .slice (some ⟨c, 0, none⟩) 1 1 ∧ NewB wr.heap.size w1 c #[.string s, .slice (some ⟨b, 0, none⟩) n 2, .int .i64 x] 72 ∧ NewB wr.heap.size w1 b #[.string ⟨#[97]⟩, .string ⟨#[98]⟩] 9 := hd 12 (by kernel_rfl)
          have e19 := (hev.1 1 _ 19 rfl rfl).trans h1
          have e30 := (hev.1 12 _ 30 rfl rfl).trans h12
          have hap1 := HAP.out.turn (hI.2.2 hL) (by omega)
          obtain ⟨r, F, hrb1, hrd, hels, hpw, hnw⟩ := drawn_rec (B := w.heap.size + 2) (Fs := Fs) (v := .slice av nv cv) hs hm (by decide) (by decide) hb hcc HZW2.out (fun b hb => HAP.out.bounds.1 b hb) (fun b hb => HAP.out.bounds.2 b hb)
          obtain ⟨i0, hi, hz0, hz1, hz2⟩ := info_parts info_rec
          have HAP1 := Lib.hid hap1
          have HE := Lib.hid hels
          have HPW := Lib.hid hpw
          have HNW := Lib.hid hnw
          have HI := Lib.hid hI
          have HI0 := Lib.hid hi
          have HZ0 := Lib.hid (And.intro hz0 (And.intro hz1 hz2))
          have HRD := Lib.hid hrd
          have HRBK := Lib.hid hrbk
          clear hap1 hels hpw hnw hi hz0 hz1 hz2 hrd hb hcc hs
          refine wpList_push (B := w.heap.size + 2) Tryd.underlying41 HI0.out HZ0.out.1 HZ0.out.2.1 HZ0.out.2.2 rfl (by decide) (by decide) rfl (.tmp 19) (.tmp 30) rfl (by simpa [Act.eval] using e19) HAP1.out ⟨c, 0, none⟩ 1 (by simpa [Act.eval] using e30) [(.str s, .string s, []), (strsD r.fields, .slice (some ⟨b, 0, none⟩) m 2, F), (.int x, .int .i64 x, [])] rfl HNW.out (by simp [D.real]) HE.out HPW.out (by omega) (Nat.le_trans HZW2.out HI.out.2.1.1.2.2.2) ?_
          intro w5 g5 c5 hap5 hg5
          have ht5 : Turn cb rb w1 w5 := Turn.of_grown hg5 (fun b e => .inr (HRBK.out.symm.trans e))
          have hc5 : IsCur B w5 cb := cur_keepT HI.out.1 ht5 hcl hB (fun r e => (HRK.out r e).1) (hg5.block cb (cur_lt HI.out.1) (fun e => by have h1 := HRK.out cb (HRBK.out.symm.trans e.symm); omega)) (Nat.le_trans hB (Nat.le_trans HZW.out HI.out.2.1.1.2.2.2))
          have e9 := hap5
          simp only [List.map_cons, List.map_nil] at e9
          rw [← HRD.out] at e9
          go_wp2
          exact ⟨_, rfl, (by unfold RRow; rw [if_pos rfl]; exact ht5), HI.out.last hc5 ht5, r, g5, c5, _, hrb1, rfl, e9⟩
        · intro L vs A w1 hev hL hI hd
          have e3 : A.tmps[3]?.getD undef = .pointer (some ⟨w.heap.size + 1, 0, none⟩) := hev.2 3 (by kernel_rfl)
          go_wp2
          exact ⟨_, rfl, RRow.of (Turn.refl _ _ _), hI.same (by decide), rfl⟩
      case hend =>
        intro L vs w1 hL hI hd
        obtain ⟨r, g, c, Fs2, hr, h13, hap2⟩ : ∃ (r : Rc) (g c : Nat) (Fs : List (List Nat)), r.bulk ≤ 40 ∧ vs 13 = .slice (some ⟨g, 0, none⟩) (k + 1) c ∧ AppD (w.heap.size + 2) w1 72 3 (vs 13) (k + 1) (rs.flatMap Rc.ds ++ r.ds) Fs := hd 13 (by omega)
        have h14 : vs 14 = .pointer (some ⟨w.heap.size + 1, 0, none⟩) := hd 14 (by omega)
        have HS1 := Lib.hid (HS.out.turn hcl hI.1 hI.2.1 (fun r e => (HRK.out r e).1))
        rw [h13] at hap2
        have HA2 := Lib.hid (hap2.set (show w.heap.size + 1 < w.heap.size + 2 by omega) 0 (.slice (some ⟨g, 0, none⟩) (k + 1) c))
        have HSZ : Hid (w.heap.size + 2 ≤ w1.heap.size) := Lib.hid (Nat.le_trans hz hI.2.1.1.2.2.2)
        have HRR := Lib.hid hr
        have HS2 := Lib.hid (HS1.out.set hcl hB 0 (.slice (some ⟨g, 0, none⟩) (k + 1) c) (.slice (some ⟨g, 0, none⟩) (k + 1) c) (.slice none 0 0) (.slice none 0 0) rfl)
        obtain ⟨e0, f0⟩ := HS1.out.2.1 0 _ rfl
        clear hd hI hL hap2 hr
        simp only [List.take_succ_cons, List.take_zero, putsA, List.drop_succ_cons, List.drop_zero]
        go_wp2
        go_roundw
        case rel => exact ⟨k + 1, rs ++ [r], _, Fs2, by go_num, by omega, by rw [List.length_append, HRS.out]; rfl, fun x hx => by
          rcases List.mem_append.1 hx with hx | hx
          · exact HRB.out x hx
          · rw [List.mem_singleton.1 hx]; exact HRR.out, HS2.out, by rw [List.flatMap_append]; simpa using HA2.out, by rw [set_size]; exact HSZ.out⟩
        case measure => first | (simp [intOf]; done) | (simp [intOf]; omega)
    · have HG0 : Hid (G7 B cb w rs [] (.slice av nv cv) (.slice none 0 0) (.slice none 0 0) wr.heap.size wr) := Lib.hid (by
        obtain ⟨F, hF1, hF2⟩ := HAP.out.done (by decide)
        rw [← HRS.out] at hF1
        exact ⟨HS.out, ⟨F, [], hF1, own_nil, fun b hb => by rw [List.append_nil] at hb; exact hF2 b hb⟩, HZW2.out, Nat.le_refl _⟩)
      have hrl : rs.length ≤ 3 := by have := HRS.out; omega
      have HRSM := Lib.hid (recs_small HRB.out)
      have HX2 := Lib.hid (once_at B cb 2 wr HS.out.2.2.1 (by omega) (by omega))
      clear HS HAP HRB HRS HZW2 HZW
      go_wp2_with fail
      clear hlt hk hn0 hn3
      (with_reducible refine HX2.out.mono ?_)
      rintro e w4 ⟨b4, rfl, hc4, ho4⟩
      have HG4 := Lib.hid (HG0.out.only hcl hc4 ho4)
      clear hc4 ho4 HX2 HG0
      go_upto_if 34 with fail
      go_cut [] (fun wx => ∃ (gs : List ByteArray) (vg : Value) (B3 : Nat), strsB gs ≤ 4 ∧ G7 B cb w rs gs (.slice av nv cv) vg (.slice none 0 0) B3 wx)
      case first =>
        cases b4
        · go_wp2_with fail
          go_meet
          exact ⟨[], _, _, by unfold strsB; simp [wsum], HG4.out⟩
        · have hz4 : w.heap.size + 2 ≤ w4.heap.size := Nat.le_trans HG4.out.2.2.1 HG4.out.2.2.2
          have HN : Hid (NewB w4.heap.size (w4.alloc (.cells #[.string ⟨#[103]⟩, .string ⟨#[104]⟩] 9)) w4.heap.size #[.string ⟨#[103]⟩, .string ⟨#[104]⟩] 9) := Lib.hid (NewB.made _ _ _ (Nat.le_refl _))
          have HG5 := Lib.hid (HG4.out.later hcl hB (bl1 w4 (.cells #[.string ⟨#[103]⟩, .string ⟨#[104]⟩] 9)))
          obtain ⟨w5, hw5⟩ : ∃ W, w4.alloc (.cells #[.string ⟨#[103]⟩, .string ⟨#[104]⟩] 9) = W := ⟨_, rfl⟩
          rw [hw5] at HN HG5
          have HW5 := Lib.hid hw5
          have HX := Lib.hid (draw_below B cb 2 w5 HG5.out.1.2.2.1 (by omega) (by omega))
          clear hw5 HG4
          go_wp2_with fail
          rw [HW5.out]
          (with_reducible refine HX.out.mono ?_)
          rintro e w6 ⟨x, rfl, x0, x1, hc6, ho6⟩
          obtain ⟨m, rfl⟩ : ∃ m : Nat, x = m := ⟨x.toNat, by omega⟩
          have HG6 := Lib.hid (HG5.out.only hcl hc6 ho6)
          have HN6 := Lib.hid (HN.out.keep (cb := cb) (rb := none) (Turn.of_only ho6) (by omega) (fun r e => by cases e))
          have hwr : IntKind.i64.wrap (1 + (m : Int)) = ((m + 1 : Nat) : Int) := by
            rcases (show m = 0 ∨ m = 1 by omega) with rfl | rfl <;> rfl
          have hm1 : ((m + 1 : Nat) : Int) ≤ 2 := by omega
          clear HX HW5 HN HG5 hc6 ho6
          obtain ⟨e0, f0⟩ := HG6.out.1.2.1 1 _ rfl
          go_wp2
          go_meet
          obtain ⟨l, F, hl1, hl2, hl3, hl4⟩ := HN6.out.strs (n := m + 1) (by omega)
          exact ⟨l, _, _, hl2, HG6.out.glob hcl hB hl3 (fun b hb => by rw [hl4 b hb]; exact ⟨hz4, HN6.out.lt⟩)⟩
      case rest =>
        obtain ⟨gs, vg, B3, hgs, hG⟩ := hcut
        have HG := Lib.hid hG
        have HGS := Lib.hid hgs
        have HX3 := Lib.hid (draw_below B cb 3 wc hG.1.2.2.1 (by omega) (by omega))
        clear HG4 hG hgs
        go_wp2_with fail
        (with_reducible refine HX3.out.mono ?_)
        rintro e w8 ⟨n8, rfl, hn0, hn8, hc8, ho8⟩
        have HG8 := Lib.hid (HG.out.only hcl hc8 ho8)
        clear hc8 ho8 HX3 HG
        go_wp2_with fail
        go_loopw [6] (fun i wr => ∃ (k : Nat) (ps : List Pc) (vp : Value) (Fs : List (List Nat)), i = .int .i64 k ∧ k ≤ 3 ∧ ps.length = k ∧ (∀ q ∈ ps, q.bulk ≤ 90000) ∧ G7 B cb w rs gs (.slice av nv cv) vg vp B3 wr ∧ AppD B3 wr 107 9 vp k (ps.flatMap Pc.ds) Fs) (fun i _ => 3 - (intOf i).toNat)
        case atStart => exact ⟨0, [], .slice none 0 0, [], rfl, by omega, rfl, by simp, HG8.out, AppD.nil _ _ _ _⟩
        case round =>
          clear HG8
          obtain ⟨k, ps, vp, Fs, rfl, hk, hps, hpb, hg, hap⟩ := hrel
          have HG := Lib.hid hg
          have HAP := Lib.hid hap
          have HPB := Lib.hid hpb
          have HPL := Lib.hid hps
          have HZ2 : Hid (w.heap.size + 2 ≤ wr.heap.size) := Lib.hid (Nat.le_trans hg.2.2.1 hg.2.2.2)
          have HZW : Hid (w.heap.size ≤ wr.heap.size) := Lib.hid (by have := HZ2.out; omega)
          have hcr : cb < wr.heap.size := Nat.lt_of_lt_of_le hcl HZW.out
          obtain ⟨ap, np, cp, rfl⟩ := hap.slice
          clear hg hap hpb hps
          by_cases hlt : (k : Int) < n8
          · go_wp2_with fail
            refine wp_region_by 14 107 rfl (by kernel_rfl) (by kernel_rfl) rfl (by kernel_rfl) (I13 B cb wr) ⟨HG.out.1.2.2.1, Turn.refl _ _ _⟩ (fun _ => Turn cb none) (F13 wr.heap.size cb) (fun L j i v w1 w2 hji _ _ hR h => F13_keep hcr L j i v w1 w2 hR h) ?hop ?hend
            case hop =>
              refine ⟨?_, ?_, ?_, ?_, ?_, ?_, ?_, ?_, ?_, ?_, ?_, ?_, ?_, ?_, trivial⟩
              · intro L vs A w1 hev hL hI hd
                have e0 : A.tmps[0]?.getD undef = .pointer (some ⟨cb, 0, none⟩) := hev.2 0 (by kernel_rfl)
                go_wp2
                exact ⟨_, rfl, Turn.refl _ _ _, hI, rfl⟩
              · intro L vs A w1 hev hL hI hd
                go_wp2
                exact ⟨_, rfl, Turn.of_below (bl1 _ _), hI.step (cur_below hI.1 (Nat.le_trans hB (Nat.le_trans HZW.out hI.2.1.2.2.2)) (bl1 _ _)) (Turn.of_below (bl1 _ _)), _, rfl, NewB.made _ _ _ hI.2.1.2.2.2⟩
              · intro L vs A w1 hev hL hI hd
                have h0 : vs 0 = .pointer (some ⟨cb, 0, none⟩) := hd 0 (by kernel_rfl)
                obtain ⟨b, h1, hb⟩ : ∃ b, vs 1 = .slice (some ⟨b, 0, none⟩) 2 2 ∧ NewB wr.heap.size w1 b #[.string ⟨#[109, 97, 105, 110]⟩, .string ⟨#[102]⟩] 9 := hd 1 (by kernel_rfl)
                have e48 := (hev.1 0 _ 48 rfl rfl).trans h0
                have e49 := (hev.1 1 _ 49 rfl rfl).trans h1
                have HP : Hid (Calls Tryd.prog 105 #[.pointer (some ⟨cb, 0, none⟩), .slice (some ⟨b, 0, none⟩) 2 2] w1 (Picked Value.string [⟨#[109, 97, 105, 110]⟩, ⟨#[102]⟩] B cb w1)) := Lib.hid (pick_text B cb b 2 [⟨#[109, 97, 105, 110]⟩, ⟨#[102]⟩] w1 hI.1 (by decide) (by decide) (by have := hb.1; omega) (fun i hi => by
                  rw [hb.cell i]
                  rcases (show i = 0 ∨ i = 1 by simp at hi; omega) with rfl | rfl <;> rfl))
                go_wp2_with fail
                (with_reducible refine HP.out.mono ?_)
                rintro e w4 ⟨s, hs, rfl, hc, ho⟩
                have hss : s.size ≤ 4 := by
                  simp only [List.mem_cons, List.not_mem_nil, or_false] at hs
                  rcases hs with rfl | rfl <;> decide
                clear hs
                go_wp2
                exact ⟨_, rfl, Turn.of_only ho, hI.step hc (Turn.of_only ho), s, rfl, hss⟩
              · intro L vs A w1 hev hL hI hd
                go_wp2
                exact ⟨_, rfl, Turn.of_below (bl1 _ _), hI.step (cur_below hI.1 (Nat.le_trans hB (Nat.le_trans HZW.out hI.2.1.2.2.2)) (bl1 _ _)) (Turn.of_below (bl1 _ _)), _, rfl, NewB.made _ _ _ hI.2.1.2.2.2⟩
              · intro L vs A w1 hev hL hI hd
                have e0 : A.tmps[0]?.getD undef = .pointer (some ⟨cb, 0, none⟩) := hev.2 0 (by kernel_rfl)
                go_wp2
                exact ⟨_, rfl, Turn.refl _ _ _, hI, rfl⟩
              · intro L vs A w1 hev hL hI hd
                have h4 : vs 4 = .pointer (some ⟨cb, 0, none⟩) := hd 4 (by kernel_rfl)
                have e52 := (hev.1 4 _ 52 rfl rfl).trans h4
                have HP := Lib.hid (draw_below B cb 3 w1 hI.1 (by omega) (by omega))
                go_wp2_with fail
                (with_reducible refine HP.out.mono ?_)
                rintro e w4 ⟨x, rfl, x0, x1, hc, ho⟩
                go_wp2
                exact ⟨_, rfl, Turn.of_only ho, hI.step hc (Turn.of_only ho), x, rfl, x0, x1⟩
              · intro L vs A w1 hev hL hI hd
                obtain ⟨b, hk3, hb⟩ : ∃ b, vs 3 = .slice (some ⟨b, 0, none⟩) 2 2 ∧ NewB wr.heap.size w1 b #[.string ⟨#[112]⟩, .string ⟨#[113]⟩] 9 := hd 3 (by kernel_rfl)
                obtain ⟨x, hk5, x0, x1⟩ : ∃ x : Int, vs 5 = .int .i64 x ∧ 0 ≤ x ∧ x < 3 := hd 5 (by kernel_rfl)
                obtain ⟨m, rfl⟩ : ∃ m : Nat, x = m := ⟨x.toNat, by omega⟩
                have hm2 : (m : Int) ≤ 2 := by omega
                have e51 := (hev.1 3 _ 51 rfl rfl).trans hk3
                have e53 := (hev.1 5 _ 53 rfl rfl).trans hk5
                go_wp2
                exact ⟨_, rfl, Turn.refl _ _ _, hI, b, m, by omega, rfl, hb⟩
              · intro L vs A w1 hev hL hI hd
                go_wp2
                exact ⟨_, rfl, Turn.of_below (bl1 _ _), hI.step (cur_below hI.1 (Nat.le_trans hB (Nat.le_trans HZW.out hI.2.1.2.2.2)) (bl1 _ _)) (Turn.of_below (bl1 _ _)), _, rfl, NewB.made _ _ _ hI.2.1.2.2.2⟩
              · intro L vs A w1 hev hL hI hd
                have e0 : A.tmps[0]?.getD undef = .pointer (some ⟨cb, 0, none⟩) := hev.2 0 (by kernel_rfl)
                go_wp2
                exact ⟨_, rfl, Turn.refl _ _ _, hI, rfl⟩
              · intro L vs A w1 hev hL hI hd
                have h8 : vs 8 = .pointer (some ⟨cb, 0, none⟩) := hd 8 (by kernel_rfl)
                have e56 := (hev.1 8 _ 56 rfl rfl).trans h8
                have HP := Lib.hid (draw_below B cb 3 w1 hI.1 (by omega) (by omega))
                go_wp2_with fail
                (with_reducible refine HP.out.mono ?_)
                rintro e w4 ⟨x, rfl, x0, x1, hc, ho⟩
                go_wp2
                exact ⟨_, rfl, Turn.of_only ho, hI.step hc (Turn.of_only ho), x, rfl, x0, x1⟩
              · intro L vs A w1 hev hL hI hd
                obtain ⟨b, hk7, hb⟩ : ∃ b, vs 7 = .slice (some ⟨b, 0, none⟩) 2 2 ∧ NewB wr.heap.size w1 b #[.string ⟨#[120]⟩, .string ⟨#[121]⟩] 9 := hd 7 (by kernel_rfl)
                obtain ⟨x, hk9, x0, x1⟩ : ∃ x : Int, vs 9 = .int .i64 x ∧ 0 ≤ x ∧ x < 3 := hd 9 (by kernel_rfl)
                obtain ⟨m, rfl⟩ : ∃ m : Nat, x = m := ⟨x.toNat, by omega⟩
                have hm2 : (m : Int) ≤ 2 := by omega
                have e55 := (hev.1 7 _ 55 rfl rfl).trans hk7
                have e57 := (hev.1 9 _ 57 rfl rfl).trans hk9
                go_wp2
                exact ⟨_, rfl, Turn.refl _ _ _, hI, b, m, by omega, rfl, hb⟩
              · intro L vs A w1 hev hL hI hd
                go_wp2
                exact ⟨_, rfl, Turn.refl _ _ _, hI, rfl⟩
              · intro L vs A w1 hev hL hI hd
                obtain ⟨s, h2, hs⟩ : ∃ s : ByteArray, vs 2 = .string s ∧ s.size ≤ 4 := hd 2 (by kernel_rfl)
                obtain ⟨b, m, hm, h6, hb⟩ : ∃ b n, n ≤ 2 ∧ vs 6 = .slice (some ⟨b, 0, none⟩) n 2 ∧ NewB wr.heap.size w1 b #[.string ⟨#[112]⟩, .string ⟨#[113]⟩] 9 := hd 6 (by kernel_rfl)
                obtain ⟨c, n, hn, h10, hc⟩ : ∃ b n, n ≤ 2 ∧ vs 10 = .slice (some ⟨b, 0, none⟩) n 2 ∧ NewB wr.heap.size w1 b #[.string ⟨#[120]⟩, .string ⟨#[121]⟩] 9 := hd 10 (by kernel_rfl)
                have h11 : vs 11 = .agg #[.int .i64 14, .string ⟨#[]⟩, .int .i64 0, .int .i64 0, .slice none 0 0] := hd 11 (by kernel_rfl)
                have e50 := (hev.1 2 _ 50 rfl rfl).trans h2
                have e54 := (hev.1 6 _ 54 rfl rfl).trans h6
                have e58 := (hev.1 10 _ 58 rfl rfl).trans h10
                have e59 := (hev.1 11 _ 59 rfl rfl).trans h11
                go_wp2
                exact ⟨_, rfl, Turn.refl _ _ _, hI, s, b, m, c, n, hs, hm, hn, rfl, hb, hc⟩
              · intro L vs A w1 hev hL hI hd
                go_wp2
                exact ⟨_, rfl, Turn.of_below (bl1 _ _), hI.step (cur_below hI.1 (Nat.le_trans hB (Nat.le_trans HZW.out hI.2.1.2.2.2)) (bl1 _ _)) (Turn.of_below (bl1 _ _)), _, rfl, NewB.made _ _ _ hI.2.1.2.2.2⟩
            case hend =>
              intro L vs w1 hL hI hd
              obtain ⟨s, b, n, c, m, hs, hn, hm, h12, hb, hc⟩ : ∃ (s : ByteArray) (b n c m : Nat), s.size ≤ 4 ∧ n ≤ 2 ∧ m ≤ 2 ∧ vs 12 = .agg #[.string s, .slice (some ⟨b, 0, none⟩) n 2, .slice (some ⟨c, 0, none⟩) m 2, .int .i64 14, .string ⟨#[]⟩, .int .i64 0, .int .i64 0, .slice none 0 0, .int .i64 0] ∧ NewB wr.heap.size w1 b #[.string ⟨#[112]⟩, .string ⟨#[113]⟩] 9 ∧ NewB wr.heap.size w1 c #[.string ⟨#[120]⟩, .string ⟨#[121]⟩] 9 := hd 12 (by omega)
              obtain ⟨p, h13, hp⟩ : ∃ p, vs 13 = .pointer (some ⟨p, 0, none⟩) ∧ NewB wr.heap.size w1 p #[.string ⟨#[]⟩, .slice none 0 0, .slice none 0 0, .int .i64 0, .string ⟨#[]⟩, .int .i64 0, .int .i64 0, .slice none 0 0, .int .i64 0] 107 := hd 13 (by omega)
              have HPS0 := Lib.hid (PS.start HG.out HAP.out hcl hB hI hb hc hp hs hn hm)
              have HB5 : Hid (wr.heap.size ≤ w1.heap.size) := Lib.hid hI.2.1.2.2.2
              obtain ⟨p0, f0⟩ := hp.var 0 _ rfl
              obtain ⟨p1, f1⟩ := hp.var 1 _ rfl
              obtain ⟨p2, f2⟩ := hp.var 2 _ rfl
              obtain ⟨p3, f3⟩ := hp.var 3 _ rfl
              obtain ⟨p4, f4⟩ := hp.var 4 _ rfl
              obtain ⟨p5, f5⟩ := hp.var 5 _ rfl
              obtain ⟨p6, f6⟩ := hp.var 6 _ rfl
              obtain ⟨p7, f7⟩ := hp.var 7 _ rfl
              obtain ⟨p8, f8⟩ := hp.var 8 _ rfl
              obtain ⟨w2, hw2⟩ : ∃ W, ((((((((w1.setCell ⟨p, 0, none⟩ (.string s)).setCell ⟨p, 1, none⟩ (.slice (some ⟨b, 0, none⟩) n 2)).setCell ⟨p, 2, none⟩ (.slice (some ⟨c, 0, none⟩) m 2)).setCell ⟨p, 3, none⟩ (.int .i64 14)).setCell ⟨p, 4, none⟩ (.string ⟨#[]⟩)).setCell ⟨p, 5, none⟩ (.int .i64 0)).setCell ⟨p, 6, none⟩ (.int .i64 0)).setCell ⟨p, 7, none⟩ (.slice none 0 0)).setCell ⟨p, 8, none⟩ (.int .i64 0) = W := ⟨_, rfl⟩
              rw [hw2] at HPS0
              have HW2 := Lib.hid hw2
              generalize hb5 : w1.heap.size = B5 at HPS0 HB5
              have HX4 := Lib.hid (draw_below B cb 4 w2 HPS0.out.1.1.2.2.1 (by omega) (by omega))
              clear hd hI hL hs hn hm hb hc hp HG HAP hw2
              simp only [List.take_succ_cons, List.take_zero, putsA, List.drop_succ_cons, List.drop_zero]
              go_wp2_with fail
              rw [HW2.out]
              (with_reducible refine HX4.out.mono ?_)
              rintro e w3 ⟨n9, rfl, hn90, hn94, hc9, ho9⟩
              have HPS1 := Lib.hid (HPS0.out.turn (rb := none) hcl hc9 (Turn.of_only ho9) (fun r e => by cases e))
              generalize hz4 : wr.heap.size = B4 at HPS1 HB5 HZ2 HZW hcr
              clear hz4 hb5 hc9 ho9 HX4 HPS0 HW2 p0 p1 p2 p3 p4 p5 p6 p7 p8 f0 f1 f2 f3 f4 f5 f6 f7 f8
              go_wp2_with fail
              go_loopw [9] (fun i wx => ∃ (j : Nat) (vk : Value) (ld : List El), i = .int .i64 j ∧ (j : Int) ≤ 3 ∧ PS B cb w rs gs (.slice av nv cv) vg (.slice ap np cp) B3 k (ps.flatMap Pc.ds) Fs p b n c m s vk B4 B5 wx ∧ AppK B5 wx vk ld ∧ ld.length = j ∧ Small (bnd 2) ld) (fun i _ => 3 - (intOf i).toNat)
              case atStart => exact ⟨0, .slice none 0 0, [], rfl, by omega, HPS1.out, AppK.nil _ _, rfl, fun p hp => by cases hp⟩
              case round =>
                clear HPS1
                obtain ⟨j, vk, ld, rfl, hj, hps1, hak, hld, hsm⟩ := hrel
                subst hld
                obtain ⟨ak, nk, ck, rfl⟩ := hak.slice
                have HPS := Lib.hid hps1
                have HAK := Lib.hid hak
                have HSM := Lib.hid hsm
                obtain ⟨⟨_, _, hg25, _⟩, _, _, _, _, ⟨hb34, hb4p, hp5, _, _, hz5⟩, _⟩ := hps1
                have HZ5 := Lib.hid hz5
                have HB25 : Hid (w.heap.size + 2 ≤ B5) := Lib.hid (by omega)
                have HP5 := Lib.hid hp5
                have HZW : Hid (w.heap.size ≤ wr.heap.size) := Lib.hid (by omega)
                have hcr2 : cb < wr.heap.size := by omega
                have hc5 : cb < B5 := by omega
                clear hg25 hb34 hb4p hp5 hz5 hak hsm
                by_cases hlt2 : (ld.length : Int) < n9
                · obtain ⟨rb, hrbk⟩ : ∃ rb, (Value.slice ak nk ck).ownBlock = rb := ⟨_, rfl⟩
                  have HRK : Hid (∀ r, rb = some r → B5 ≤ r ∧ r < wr.heap.size) := Lib.hid (fun r e => ownBlock_lt HAK.out.1 (hrbk.trans e))
                  have HRBX := Lib.hid hrbk
                  go_wp2_with fail
                  refine wp_region_by 9 107 rfl (by kernel_rfl) (by kernel_rfl) rfl (by kernel_rfl) (IRow B cb 6 rb wr) ⟨HPS.out.1.1.2.2.1, Turn.refl _ _ _, fun _ => Turn.refl _ _ _⟩ (RRow cb 6 rb) (F18 wr.heap.size cb p B5 ld.length (.slice ak nk ck)) (fun L i q v w1 w2 hji _ _ hR h => F18_keep hcr2 hc5 (fun r e => (HRK.out r e).2) L i q v w1 w2 hji hR h) ?hop ?hend
                  case hop =>
                    refine ⟨?_, ?_, ?_, ?_, ?_, ?_, ?_, ?_, ?_, trivial⟩
                    · intro L vs A w1 hev hL hI hd
                      have e7 : A.tmps[7]?.getD undef = .pointer (some ⟨p, 0, none⟩) := hev.2 7 (by kernel_rfl)
                      go_wp2
                      exact ⟨_, rfl, RRow.of (Turn.refl _ _ _), hI.same (by decide), rfl⟩
                    · intro L vs A w1 hev hL hI hd
                      have h0 : vs 0 = .pointer (some ⟨p, 3, none⟩) := hd 0 (by kernel_rfl)
                      have e68 := (hev.1 0 _ 68 rfl rfl).trans h0
                      go_wp2
                      exact ⟨_, rfl, RRow.of (Turn.refl _ _ _), hI.same (by decide), rfl⟩
                    · intro L vs A w1 hev hL hI hd
                      have h1 : vs 1 = .pointer (some ⟨p, 7, none⟩) := hd 1 (by kernel_rfl)
                      have e69 := (hev.1 1 _ 69 rfl rfl).trans h1
                      have x0 := ((HPS.out.turn hcl hI.1 hI.2.1 (fun r e => (HRK.out r e).1)).2.2.1 7 _ rfl).1
                      go_wp2
                      exact ⟨_, rfl, RRow.of (Turn.refl _ _ _), hI.same (by decide), rfl⟩
                    · intro L vs A w1 hev hL hI hd
                      have e0 : A.tmps[0]?.getD undef = .pointer (some ⟨cb, 0, none⟩) := hev.2 0 (by kernel_rfl)
                      go_wp2
                      exact ⟨_, rfl, RRow.of (Turn.refl _ _ _), hI.same (by decide), rfl⟩
                    · intro L vs A w1 hev hL hI hd
                      have h3 : vs 3 = .pointer (some ⟨cb, 0, none⟩) := hd 3 (by kernel_rfl)
                      have e71 := (hev.1 3 _ 71 rfl rfl).trans h3
                      have HP : Hid (Calls Tryd.prog 76 #[.pointer (some ⟨cb, 0, none⟩), .int .i64 3] w1 (DrawnT (bnd 2) B cb w1)) := Lib.hid (tree_3 B cb w1 hI.1 (Nat.le_trans hB (Nat.le_trans HZW.out hI.2.1.1.2.2.2)))
                      have hzw := hI.2.1.1.2.2.2
                      go_wp2_with fail
                      (with_reducible refine HP.out.mono ?_)
                      rintro e w4 ⟨t, u, F, rfl, hk, hf, hb, hc, ho⟩
                      have HTN : Hid (TreeN wr.heap.size w4 t u F) := Lib.hid ⟨hk, fun b hb => ⟨Nat.le_trans hzw (hf b hb).1, (hf b hb).2⟩, hb⟩
                      have HCC := Lib.hid hc
                      have HOO := Lib.hid ho
                      clear hk hf hb hc ho HP
                      go_wp2
                      exact ⟨_, rfl, RRow.of (Turn.of_only HOO.out), hI.step (by decide) HCC.out (Turn.of_only HOO.out), t, u, F, rfl, HTN.out⟩
                    · intro L vs A w1 hev hL hI hd
                      obtain ⟨t, u, F, h4, htn⟩ : ∃ (t : Ex.T) (u : Value) (F : List Nat), vs 4 = exV t u ∧ TreeN wr.heap.size w1 t u F := hd 4 (by kernel_rfl)
                      obtain ⟨z, d, rfl⟩ := kids_len (OwnK.kids _ htn.1)
                      have e72 := (hev.1 4 _ 72 rfl rfl).trans h4
                      go_wp2
                      exact ⟨_, rfl, RRow.of (Turn.of_below (bl1 _ _)), hI.step (by decide) (cur_below hI.1 (Nat.le_trans hB (Nat.le_trans HZW.out hI.2.1.1.2.2.2)) (bl1 _ _)) (Turn.of_below (bl1 _ _)), _, t, _, F, rfl, NewB.made _ _ _ hI.2.1.1.2.2.2, htn.keep (cb := cb) (rb := none) (Turn.of_below (bl1 _ _)) hcr2 (fun r e => by cases e)⟩
                    · intro L vs A w1 hev hL hI hd
                      have h2 : vs 2 = .slice ak nk ck := hd 2 (by kernel_rfl)
                      obtain ⟨q, t, u, F, h5, hq, htn⟩ : ∃ (q : Nat) (t : Ex.T) (u : Value) (F : List Nat), vs 5 = .slice (some ⟨q, 0, none⟩) 1 1 ∧ NewB wr.heap.size w1 q #[.int .i64 t.kind, .string t.text, .int .i64 t.num, .int .i64 t.line, u] 105 ∧ TreeN wr.heap.size w1 t u F := hd 5 (by kernel_rfl)
                      obtain ⟨z, d, rfl⟩ := kids_len (OwnK.kids _ htn.1)
                      have e70 := (hev.1 2 _ 70 rfl rfl).trans h2
                      have e73 := (hev.1 5 _ 73 rfl rfl).trans h5
                      have hak1 := HAK.out.turn (hI.2.2 hL) hc5
                      have hz5 := HZ5.out
                      have hzw := hI.2.1.1.2.2.2
                      refine wpList_kid (B := B5) rfl (.tmp 70) (.tmp 73) rfl (by simpa [Act.eval] using e70) hak1.1 ⟨q, 0, none⟩ 1 (rowV [(t, .slice z t.kids.length d, F)]) (by simpa [Act.eval] using e73) rfl (fun i x hi => by rw [add_lit, Nat.zero_add]; exact (hq.var i x (by simpa [rowV] using hi)).1) row_one (by omega) (by omega) ?_
                      intro w5 g5 c5 hown5 hgr5 hg5 hor5
                      have ht5 : Turn cb rb w1 w5 := Turn.of_grown hgr5 (fun b e => .inr (HRBX.out.symm.trans e))
                      have hcu5 : IsCur B w5 cb := cur_keepT hI.1 ht5 hcl hB (fun r e => by have h1 := HRK.out r e; have h2 := HB25.out; omega) (hgr5.block cb (by omega) (fun e => by have h1 := HRK.out cb (HRBX.out.symm.trans e.symm); omega)) (Nat.le_trans hB (Nat.le_trans HZW.out hzw))
                      have hpu := AppK.push (p := (t, .slice z t.kids.length d, F)) hak1 htn.1 (fun b hb => by
                        have h1 := htn.2.1 b hb
                        refine ⟨by omega, h1.2, fun h2 => ?_, fun e => ?_⟩
                        · have h3 := HAK.out.2.2.1 b h2; omega
                        · have h3 := HRK.out b (HRBX.out.symm.trans e); omega) hown5 hgr5 rfl hor5
                      have hsm2 : Small (bnd 2) (ld ++ [(t, .slice z t.kids.length d, F)]) := fun x hx => by
                        rcases List.mem_append.1 hx with hx | hx
                        · exact HSM.out x hx
                        · rw [List.mem_singleton.1 hx]; exact htn.2.2
                      have hl2 : (ld ++ [(t, Value.slice z t.kids.length d, F)]).length = ld.length + 1 := by rw [List.length_append]; rfl
                      go_wp2
                      exact ⟨_, rfl, (by unfold RRow; rw [if_pos rfl]; exact ht5), hI.last hcu5 ht5, g5, c5, _, rfl, hpu, hl2, hsm2⟩
                    · intro L vs A w1 hev hL hI hd
                      have e7 : A.tmps[7]?.getD undef = .pointer (some ⟨p, 0, none⟩) := hev.2 7 (by kernel_rfl)
                      go_wp2
                      exact ⟨_, rfl, RRow.of (Turn.refl _ _ _), hI.same (by decide), rfl⟩
                    · intro L vs A w1 hev hL hI hd
                      have h7 : vs 7 = .pointer (some ⟨p, 3, none⟩) := hd 7 (by kernel_rfl)
                      have e75 := (hev.1 7 _ 75 rfl rfl).trans h7
                      go_wp2
                      exact ⟨_, rfl, RRow.of (Turn.refl _ _ _), hI.same (by decide), rfl⟩
                  case hend =>
                    intro L vs w1 hL hI hd
                    obtain ⟨g, c6, ld2, h6, hak2, hl2, hs2⟩ : ∃ g c ld2, vs 6 = .slice (some ⟨g, 0, none⟩) (ld.length + 1) c ∧ AppK B5 w1 (vs 6) ld2 ∧ ld2.length = ld.length + 1 ∧ Small (bnd 2) ld2 := hd 6 (by omega)
                    have h8 : vs 8 = .pointer (some ⟨p, 7, none⟩) := hd 8 (by omega)
                    have HP1 := Lib.hid (HPS.out.turn hcl hI.1 hI.2.1 (fun r e => (HRK.out r e).1))
                    rw [h6] at hak2
                    have HA2 := Lib.hid (hak2.set HP5.out 7 (.slice (some ⟨g, 0, none⟩) (ld.length + 1) c6))
                    have HP2 := Lib.hid (HP1.out.set hcl hB (.slice (some ⟨g, 0, none⟩) (ld.length + 1) c6))
                    have HL2 := Lib.hid hl2
                    have HS2 := Lib.hid hs2
                    obtain ⟨e0, f0⟩ := HP1.out.2.2.1 7 _ rfl
                    clear hd hI hL hak2 hl2 hs2
                    simp only [List.take_succ_cons, List.take_zero, putsA, List.drop_succ_cons, List.drop_zero]
                    go_wp2
                    go_roundw
                    case rel => exact ⟨ld.length + 1, _, ld2, by go_num, by omega, HP2.out, HA2.out, HL2.out, HS2.out⟩
                    case measure => first | (simp [intOf]; done) | (simp [intOf]; omega)
                · obtain ⟨wa, hwa⟩ : ∃ W, wr.alloc (.cells #[.string s, .slice (some ⟨b, 0, none⟩) n 2, .slice (some ⟨c, 0, none⟩) m 2, .int .i64 14, .string ⟨#[]⟩, .int .i64 0, .int .i64 0, .slice ak nk ck, .int .i64 0] 107) = W := ⟨_, rfl⟩
                  have hbw : Below wr.heap.size wr wa := by rw [← hwa]; exact bl1 _ _
                  have HPA := Lib.hid (HPS.out.turn (rb := none) hcl (cur_below HPS.out.1.1.2.2.1 (Nat.le_trans hB HZW.out) hbw) (Turn.of_below hbw) (fun r e => by cases e))
                  have HNA : Hid (NewB wr.heap.size wa wr.heap.size #[.string s, .slice (some ⟨b, 0, none⟩) n 2, .slice (some ⟨c, 0, none⟩) m 2, .int .i64 14, .string ⟨#[]⟩, .int .i64 0, .int .i64 0, .slice ak nk ck, .int .i64 0] 107) := Lib.hid (by rw [← hwa]; exact NewB.made _ _ _ (Nat.le_refl _))
                  obtain ⟨q, Fp, Fq, Fk, hqb, hqd, hels, hpw⟩ := drawn_proc HPA.out (HAK.out.later hbw) HSM.out (by omega)
                  obtain ⟨rb, hrbk⟩ : ∃ rb, (Value.slice ap np cp).ownBlock = rb := ⟨_, rfl⟩
                  have HRK : Hid (∀ r, rb = some r → B3 ≤ r ∧ r < wa.heap.size) := Lib.hid (fun r e => row_lt HPA.out.2.1.1.choose_spec.1 (hrbk.trans e))
                  obtain ⟨i0, hi, hz0, hz1, hz2⟩ := info_parts info_proc
                  have HRBX := Lib.hid hrbk
                  have HE := Lib.hid hels
                  have HPW := Lib.hid hpw
                  have HQD := Lib.hid hqd
                  have HQB := Lib.hid hqb
                  have HI0 := Lib.hid hi
                  have HZ0 := Lib.hid (And.intro hz0 (And.intro hz1 hz2))
                  have HWA := Lib.hid hwa
                  have hcw : cb < wa.heap.size := cur_lt HPA.out.1.1.2.2.1
                  have hwz : w.heap.size + 2 ≤ wa.heap.size := Nat.le_trans HPA.out.1.2.2.1 HPA.out.1.2.2.2
                  obtain ⟨y0, _⟩ := HPS.out.2.2.1 0 _ rfl
                  obtain ⟨y1, _⟩ := HPS.out.2.2.1 1 _ rfl
                  obtain ⟨y2, _⟩ := HPS.out.2.2.1 2 _ rfl
                  obtain ⟨y3, _⟩ := HPS.out.2.2.1 3 _ rfl
                  obtain ⟨y4, _⟩ := HPS.out.2.2.1 4 _ rfl
                  obtain ⟨y5, _⟩ := HPS.out.2.2.1 5 _ rfl
                  obtain ⟨y6, _⟩ := HPS.out.2.2.1 6 _ rfl
                  obtain ⟨y7, _⟩ := HPS.out.2.2.1 7 _ rfl
                  obtain ⟨y8, _⟩ := HPS.out.2.2.1 8 _ rfl
                  obtain ⟨e0, f0⟩ := HPS.out.1.1.2.1 2 _ rfl
                  clear hels hpw hqd hqb hi hz0 hz1 hz2 hwa hbw hrbk
                  go_wp2_with (at_builtin; rw [HWA.out]; refine wpList_push (B := B3) Tryd.underlying49 HI0.out HZ0.out.1 HZ0.out.2.1 HZ0.out.2.2 rfl (by decide) (by decide) rfl (.tmp 78) (.tmp 80) rfl (by simp [Act.eval]) HPA.out.2.1 ⟨wr.heap.size, 0, none⟩ 1 (by simp [Act.eval]) [(.str s, .string s, []), (strsD q.params, .slice (some ⟨b, 0, none⟩) n 2, Fp), (strsD q.locals, .slice (some ⟨c, 0, none⟩) m 2, Fq), (.int 14, .int .i64 14, []), (.str ⟨#[]⟩, .string ⟨#[]⟩, []), (.int 0, .int .i64 0, []), (.int 0, .int .i64 0, []), (.ex q.body.kids, .slice ak nk ck, Fk), (.int 0, .int .i64 0, [])] rfl (fun i x hi => by rw [add_lit, Nat.zero_add]; exact (HNA.out.var i x (by simpa using hi)).1) (by simp [D.real]) HE.out HPW.out (by omega) (Nat.le_trans HPA.out.1.2.2.2 (Nat.le_refl _)) ?_; intro w5 g5 c5 hap5 hg5; have ht5 : Turn cb rb wa w5 := Turn.of_grown hg5 (fun b e => .inr (HRBX.out.symm.trans e)); have hc5' : IsCur B w5 cb := cur_keepT HPA.out.1.1.2.2.1 ht5 hcl hB (fun r e => Nat.le_trans HPA.out.1.2.2.1 (HRK.out r e).1) (hg5.block cb hcw (fun e => by have h1 := HRK.out cb (HRBX.out.symm.trans e.symm); have h2 := HPA.out.1.2.2.1; omega)) (by omega); have HG5 := Lib.hid (HPA.out.1.turn hcl hc5' ht5 (fun r e => (HRK.out r e).1)); simp only [List.map_cons, List.map_nil] at hap5; rw [← HQD.out] at hap5; have HAP5 := Lib.hid (hap5.set (show w.heap.size + 1 < B3 from HG5.out.2.2.1) 2 (.slice (some ⟨g5, 0, none⟩) (k + 1) c5)); have HG6 := Lib.hid (HG5.out.set hcl hB (.slice (some ⟨g5, 0, none⟩) (k + 1) c5)); clear hap5 hg5 ht5 hc5'; obtain ⟨e5, f5⟩ := HG5.out.1.2.1 2 _ rfl)
                  go_wp2
                  go_roundw
                  case rel => exact ⟨k + 1, ps ++ [q], _, _, by go_num, by omega, by rw [List.length_append, HPL.out]; rfl, fun x hx => by
                    rcases List.mem_append.1 hx with hx | hx
                    · exact HPB.out x hx
                    · rw [List.mem_singleton.1 hx]; exact HQB.out, HG6.out, by rw [List.flatMap_append]; simpa using HAP5.out⟩
                  case measure => first | (simp [intOf]; done) | (simp [intOf]; omega)
          · have hpl : ps.length ≤ 3 := by have := HPL.out; omega
            have HPL2 := Lib.hid hpl
            have hcb3 : cb < B3 := by have := HG.out.2.2.1; omega
            obtain rfl : np = k := by
              obtain ⟨F, h1, _⟩ := HAP.out.done (by decide)
              obtain ⟨a, c, e⟩ := own_slice h1
              injection e
            have HX2 := Lib.hid (once_at B cb 10 wr HG.out.1.2.2.1 (by omega) (by omega))
            clear hpl
            go_upto_region 20 with fail
            go_cut [90] (fun v90 wx => (∃ b : Bool, v90 = .bool b ∧ (b = true → 0 < np)) ∧ G7 B cb w rs gs (.slice av nv cv) vg (.slice ap np cp) B3 wx ∧ AppD B3 wx 107 9 (.slice ap np cp) np (ps.flatMap Pc.ds) Fs)
            case first =>
              go_wp2_with fail
              (with_reducible refine HX2.out.mono ?_)
              rintro e w4 ⟨b4, rfl, hc4, ho4⟩
              have HG4 := Lib.hid (HG.out.only hcl hc4 ho4)
              have HA4 := Lib.hid (HAP.out.turn (Turn.of_only ho4) hcb3)
              obtain ⟨e0, f0⟩ := HG4.out.1.2.1 2 _ rfl
              clear hc4 ho4 HX2
              cases b4
              · go_wp2_with fail
                go_meet
                exact ⟨⟨false, rfl, fun h => by cases h⟩, HG4.out, HA4.out⟩
              · by_cases h0 : 0 < np
                · have h0i : (0 : Int) < np := by omega
                  go_wp2_with fail
                  go_meet
                  exact ⟨⟨true, rfl, fun _ => h0⟩, HG4.out, HA4.out⟩
                · obtain rfl : np = 0 := by omega
                  go_wp2_with fail
                  go_meet
                  exact ⟨⟨false, rfl, fun h => by cases h⟩, HG4.out, HA4.out⟩
            case rest =>
              obtain ⟨⟨b, rfl, hb⟩, hg, hap⟩ := hcut
              have HG4 := Lib.hid hg
              have HA4 := Lib.hid hap
              clear HG HAP HX2 hg hap
              go_upto_if 90 with fail
              go_cut [] (fun wx => ∃ ps2, ps2.length ≤ 3 ∧ (∀ q ∈ ps2, q.bulk ≤ 90003) ∧ G7 B cb w rs gs (.slice av nv cv) vg (.slice ap np cp) B3 wx ∧ ProcsO B3 (.slice ap np cp) ps2 wx)
              case first =>
                cases b
                · clear hb
                  go_wp2_with fail
                  go_meet
                  obtain ⟨F, h1, h2⟩ := HA4.out.done (by decide)
                  rw [← HPL.out] at h1
                  exact ⟨ps, HPL2.out, fun q hq => Nat.le_trans (HPB.out q hq) (by decide), HG4.out, F, HPL.out ▸ h1, fun x hx => h2 x hx⟩
                · have hn0 := hb rfl
                  have hpne : ps.flatMap Pc.ds ≠ [] := fun e => by
                    have h8 := congrArg List.length e
                    rw [flat_len Pc.ds Pc.ds_len, HPL.out] at h8
                    simp at h8
                    omega
                  obtain ⟨g, c, Fs2, e, hrw, hnc, hfs⟩ := HA4.out.rowD (by decide) hpne
                  injection e with e1 _ e2
                  subst e1; subst e2
                  have hq : Q7 B cb w rs gs (.slice av nv cv) vg g np cp B3 ps Fs2 wc := ⟨HG4.out, hrw, hfs, HPL.out, hn0, hnc⟩
                  obtain ⟨wr, hwr⟩ : ∃ W, wc = W := ⟨_, rfl⟩
                  obtain ⟨n, hnp⟩ : ∃ n, np = n := ⟨_, rfl⟩
                  obtain ⟨c, hcp⟩ : ∃ c, cp = c := ⟨_, rfl⟩
                  subst hwr; subst hnp; subst hcp
                  have HQ := Lib.hid hq
                  have hn0i : (0 : Int) < np := by omega
                  have HZW : Hid (w.heap.size ≤ wc.heap.size) := Lib.hid (by have h1 := hq.1.2.2.1; have h2 := hq.1.2.2.2; omega)
                  have hcr : cb < wc.heap.size := Nat.lt_of_lt_of_le hcl HZW.out
                  clear hb hpne hrw hfs hq hn0 HG4 HA4
                  go_wp2_with fail
                  refine wp_region_by 8 107 rfl (by kernel_rfl) (by kernel_rfl) rfl (by kernel_rfl) (I13 B cb wc) ⟨HQ.out.1.1.2.2.1, Turn.refl _ _ _⟩ (fun _ => Turn cb none) (F21 wc.heap.size cb (w.heap.size + 1) g np cp) (fun L i q v w1 w2 hji _ _ hR h => F21_keep hcr L i q v w1 w2 hR h) ?hop ?hend
                  case hop =>
                    refine ⟨?_, ?_, ?_, ?_, ?_, ?_, ?_, ?_, trivial⟩
                    · intro L vs A w1 hev hL hI hd
                      have e3 : A.tmps[3]?.getD undef = .pointer (some ⟨w.heap.size + 1, 0, none⟩) := hev.2 3 (by kernel_rfl)
                      go_wp2
                      exact ⟨_, rfl, Turn.refl _ _ _, hI, rfl⟩
                    · intro L vs A w1 hev hL hI hd
                      have h0 : vs 0 = .pointer (some ⟨w.heap.size + 1, 2, none⟩) := hd 0 (by kernel_rfl)
                      have e91 := (hev.1 0 _ 91 rfl rfl).trans h0
                      have x0 := ((HQ.out.turn hcl hI.1 hI.2).1.1.2.1 2 _ rfl).1
                      go_wp2
                      exact ⟨_, rfl, Turn.refl _ _ _, hI, rfl⟩
                    · intro L vs A w1 hev hL hI hd
                      have e0 : A.tmps[0]?.getD undef = .pointer (some ⟨cb, 0, none⟩) := hev.2 0 (by kernel_rfl)
                      go_wp2
                      exact ⟨_, rfl, Turn.refl _ _ _, hI, rfl⟩
                    · intro L vs A w1 hev hL hI hd
                      go_wp2
                      exact ⟨_, rfl, Turn.of_below (bl1 _ _), hI.step (cur_below hI.1 (Nat.le_trans hB (Nat.le_trans HZW.out hI.2.1.2.2.2)) (bl1 _ _)) (Turn.of_below (bl1 _ _)), _, rfl, NewB.made _ _ _ hI.2.1.2.2.2⟩
                    · intro L vs A w1 hev hL hI hd
                      have h2 : vs 2 = .pointer (some ⟨cb, 0, none⟩) := hd 2 (by kernel_rfl)
                      obtain ⟨b, h3, hb⟩ : ∃ b, vs 3 = .slice (some ⟨b, 0, none⟩) 2 2 ∧ NewB wc.heap.size w1 b #[.int .i64 4, .int .i64 14] 3 := hd 3 (by kernel_rfl)
                      have e93 := (hev.1 2 _ 93 rfl rfl).trans h2
                      have e94 := (hev.1 3 _ 94 rfl rfl).trans h3
                      have HP : Hid (Calls Tryd.prog 106 #[.pointer (some ⟨cb, 0, none⟩), .slice (some ⟨b, 0, none⟩) 2 2] w1 (Picked (Value.int .i64) [4, 14] B cb w1)) := Lib.hid (pick_int B cb b 2 [4, 14] w1 hI.1 (by decide) (by decide) (by have := hb.1; omega) (fun i hi => by
                        rw [hb.cell i]
                        rcases (show i = 0 ∨ i = 1 by simp at hi; omega) with rfl | rfl <;> rfl))
                      go_wp2_with fail
                      (with_reducible refine HP.out.mono ?_)
                      rintro e w4 ⟨x, _, rfl, hc, ho⟩
                      go_wp2
                      exact ⟨_, rfl, Turn.of_only ho, hI.step hc (Turn.of_only ho), x, rfl⟩
                    · intro L vs A w1 hev hL hI hd
                      have h1 : vs 1 = .slice (some ⟨g, 0, none⟩)  np cp := hd 1 (by kernel_rfl)
                      have e92 := (hev.1 1 _ 92 rfl rfl).trans h1
                      go_wp2
                      exact ⟨_, rfl, Turn.refl _ _ _, hI, rfl⟩
                    · intro L vs A w1 hev hL hI hd
                      have h5 : vs 5 = .pointer (some ⟨g, 0, none⟩) := hd 5 (by kernel_rfl)
                      have e96 := (hev.1 5 _ 96 rfl rfl).trans h5
                      go_wp2
                      exact ⟨_, rfl, Turn.refl _ _ _, hI, rfl⟩
                    · intro L vs A w1 hev hL hI hd
                      have h6 : vs 6 = .pointer (some ⟨g, 3, none⟩) := hd 6 (by kernel_rfl)
                      have e97 := (hev.1 6 _ 97 rfl rfl).trans h6
                      go_wp2
                      exact ⟨_, rfl, Turn.refl _ _ _, hI, rfl⟩
                  case hend =>
                    intro L vs w1 hL hI hd
                    obtain ⟨x, h4⟩ : ∃ x : Int, vs 4 = .int .i64 x := hd 4 (by omega)
                    have h7 : vs 7 = .pointer (some ⟨g, 3, none⟩) := hd 7 (by omega)
                    have HQ1 := Lib.hid (HQ.out.turn hcl hI.1 hI.2)
                    have HQ2 := Lib.hid (HQ1.out.kind hcl hB x)
                    obtain ⟨u3, c3, f3⟩ := HQ1.out.free 3 (by decide)
                    clear hd hI hL HQ
                    obtain ⟨w2, hw2⟩ : ∃ W, w1.setCell ⟨g, 3, none⟩ (.int .i64 x) = W := ⟨_, rfl⟩
                    rw [hw2] at HQ2
                    have HW2 := Lib.hid hw2
                    clear hw2 HZW hcr
                    have HZW : Hid (w.heap.size ≤ w2.heap.size) := Lib.hid (by have h1 := HQ2.out.1.2.2.1; have h2 := HQ2.out.1.2.2.2; omega)
                    have hcr : cb < w2.heap.size := Nat.lt_of_lt_of_le hcl HZW.out
                    simp only [List.take_succ_cons, List.take_zero, putsA, List.drop_succ_cons, List.drop_zero]
                    go_wp2_with fail
                    rw [HW2.out]
                    refine wp_region_by 7 107 rfl (by kernel_rfl) (by kernel_rfl) rfl (by kernel_rfl) (I13 B cb w2) ⟨HQ2.out.1.1.2.2.1, Turn.refl _ _ _⟩ (fun _ => Turn cb none) (F22 w2.heap.size cb (w.heap.size + 1) g np cp) (fun L i q v w1 w2 hji _ _ hR h => F22_keep hcr L i q v w1 w2 hR h) ?hop ?hend
                    case hop =>
                      refine ⟨?_, ?_, ?_, ?_, ?_, ?_, ?_, trivial⟩
                      · intro L vs A w1 hev hL hI hd
                        have e3 : A.tmps[3]?.getD undef = .pointer (some ⟨w.heap.size + 1, 0, none⟩) := hev.2 3 (by kernel_rfl)
                        go_wp2
                        exact ⟨_, rfl, Turn.refl _ _ _, hI, rfl⟩
                      · intro L vs A w1 hev hL hI hd
                        have h0 : vs 0 = .pointer (some ⟨w.heap.size + 1, 2, none⟩) := hd 0 (by kernel_rfl)
                        have e99 := (hev.1 0 _ 99 rfl rfl).trans h0
                        have x0 := ((HQ2.out.turn hcl hI.1 hI.2).1.1.2.1 2 _ rfl).1
                        go_wp2
                        exact ⟨_, rfl, Turn.refl _ _ _, hI, rfl⟩
                      · intro L vs A w1 hev hL hI hd
                        have e0 : A.tmps[0]?.getD undef = .pointer (some ⟨cb, 0, none⟩) := hev.2 0 (by kernel_rfl)
                        go_wp2
                        exact ⟨_, rfl, Turn.refl _ _ _, hI, rfl⟩
                      · intro L vs A w1 hev hL hI hd
                        go_wp2
                        exact ⟨_, rfl, Turn.of_below (bl1 _ _), hI.step (cur_below hI.1 (Nat.le_trans hB (Nat.le_trans HZW.out hI.2.1.2.2.2)) (bl1 _ _)) (Turn.of_below (bl1 _ _)), _, rfl, NewB.made _ _ _ hI.2.1.2.2.2⟩
                      · intro L vs A w1 hev hL hI hd
                        have h2 : vs 2 = .pointer (some ⟨cb, 0, none⟩) := hd 2 (by kernel_rfl)
                        obtain ⟨b, h3, hb⟩ : ∃ b, vs 3 = .slice (some ⟨b, 0, none⟩) 2 2 ∧ NewB w2.heap.size w1 b #[.string ⟨#[]⟩, .string ⟨#[101, 110, 100]⟩] 9 := hd 3 (by kernel_rfl)
                        have e101 := (hev.1 2 _ 101 rfl rfl).trans h2
                        have e102 := (hev.1 3 _ 102 rfl rfl).trans h3
                        have HP : Hid (Calls Tryd.prog 105 #[.pointer (some ⟨cb, 0, none⟩), .slice (some ⟨b, 0, none⟩) 2 2] w1 (Picked Value.string [⟨#[]⟩, ⟨#[101, 110, 100]⟩] B cb w1)) := Lib.hid (pick_text B cb b 2 [⟨#[]⟩, ⟨#[101, 110, 100]⟩] w1 hI.1 (by decide) (by decide) (by have := hb.1; omega) (fun i hi => by
                          rw [hb.cell i]
                          rcases (show i = 0 ∨ i = 1 by simp at hi; omega) with rfl | rfl <;> rfl))
                        go_wp2_with fail
                        (with_reducible refine HP.out.mono ?_)
                        rintro e w4 ⟨s, hs, rfl, hc, ho⟩
                        have hss : s.size ≤ 3 := by
                          simp only [List.mem_cons, List.not_mem_nil, or_false] at hs
                          rcases hs with rfl | rfl <;> decide
                        clear hs
                        go_wp2
                        exact ⟨_, rfl, Turn.of_only ho, hI.step hc (Turn.of_only ho), s, rfl, hss⟩
                      · intro L vs A w1 hev hL hI hd
                        have h1 : vs 1 = .slice (some ⟨g, 0, none⟩) np cp := hd 1 (by kernel_rfl)
                        have e100 := (hev.1 1 _ 100 rfl rfl).trans h1
                        go_wp2
                        exact ⟨_, rfl, Turn.refl _ _ _, hI, rfl⟩
                      · intro L vs A w1 hev hL hI hd
                        have h5 : vs 5 = .pointer (some ⟨g, 0, none⟩) := hd 5 (by kernel_rfl)
                        have e104 := (hev.1 5 _ 104 rfl rfl).trans h5
                        go_wp2
                        exact ⟨_, rfl, Turn.refl _ _ _, hI, rfl⟩
                    case hend =>
                      intro L vs w3 hL hI hd
                      obtain ⟨s, h4, hs⟩ : ∃ s : ByteArray, vs 4 = .string s ∧ s.size ≤ 3 := hd 4 (by omega)
                      have h6 : vs 6 = .pointer (some ⟨g, 0, none⟩) := hd 6 (by omega)
                      have HQ3 := Lib.hid (HQ2.out.turn hcl hI.1 hI.2)
                      have HQ4 := Lib.hid (HQ3.out.name hcl hB s)
                      obtain ⟨u0, c0, f0⟩ := HQ3.out.free 0 (by decide)
                      clear hd hI hL HQ2
                      simp only [List.take_succ_cons, List.take_zero, putsA, List.drop_succ_cons, List.drop_zero]
                      go_wp2
                      go_meet
                      exact ⟨_, by rw [setName_len, setKind_len]; exact HPL2.out, setName_small hs (setKind_small HPB.out), HQ4.out.1, HQ4.out.procs⟩
              case rest =>
                obtain ⟨ps2, hl2, hb2, hg2, hp2⟩ := hcut
                obtain ⟨va, vc, rfl⟩ : ∃ va vc, vg = .slice va gs.length vc := by
                  obtain ⟨Fr, Fg, _, h3, _⟩ := hg2.2.1
                  exact own_slice h3
                have HR := Lib.hid (hg2.ret hp2 hcl hB hrl HRSM.out HGS.out hl2 hb2)
                obtain ⟨x0, _⟩ := hg2.1.2.1 0 _ rfl
                obtain ⟨x1, _⟩ := hg2.1.2.1 1 _ rfl
                obtain ⟨x2, _⟩ := hg2.1.2.1 2 _ rfl
                obtain ⟨y0, f0⟩ := hg2.1.1 0 _ rfl
                obtain ⟨y1, f1⟩ := hg2.1.1 1 _ rfl
                obtain ⟨y2, f2⟩ := hg2.1.1 2 _ rfl
                clear hl2 hb2 hg2 hp2 HG4 HA4
                go_wp2
                exact bodyPost_ret (v := unV (.slice av nv cv) (.slice va gs.length vc) (.slice ap np cp)) (by simp [results, Tryd.results74, go_sem, y0, y1, y2]) rfl HR.out
end Go.Proofs.YtbadepiakkhabaaDoor
