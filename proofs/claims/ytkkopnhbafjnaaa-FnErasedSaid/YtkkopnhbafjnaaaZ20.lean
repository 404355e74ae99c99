/- Joined texts: N40, N41, N42. No conditions besides those that each states. -/
import Derived.Deep.DeepCutAuto
import Derived.Test.YtkkopnhbafjnaaaZ19
/- Drawn trees: where the drawing of a whole tree stands. No conditions. -/
namespace Go.Proofs.Ytkkopnhbafjnaaa
open Go.RowKit
set_option linter.unusedVariables false

theorem tree_any : ∀ e : Nat, e ≤ 5 → TreeC e := by
  intro e
  induction e with
  | zero => intro _; exact tree_zero
  | succ e ih => intro h; exact tree_succ e (by omega) (ih (by omega))
theorem code_up {B B' : Nat} {w : World} {v : Value} {n : Nat} (h : Code B w v n) (hB : B ≤ B') : Code B' w v n := by
  rcases h with h | ⟨g, off, c, hv, hg, r⟩
  · exact .inl h
  · exact .inr ⟨g, off, c, hv, by omega, r⟩
theorem size_at (v : Value) (B n : Nat) (w : World) (hc : Code B w v n) (hn : (n : Int) ≤ 1048576) :
    Calls Try.prog 50 #[v, .int .i64 5] w fun e w' => ∃ x : Int, e = .returned (.int .i64 x) ∧ (0 < x ∧ x ≤ 5) ∧ w = w' := by
  obtain ⟨a, c, rfl⟩ : ∃ a c, v = .slice a n c := by
    rcases hc with ⟨⟨a, c, rfl⟩, rfl⟩ | ⟨g, off, c, rfl, _⟩
    · exact ⟨_, _, rfl⟩
    · exact ⟨_, _, rfl⟩
  clear hc
  by_cases hb : 5 < 2 + (n : Int) / 20
  · go_enter Try.func50, Try.ntmps50
    go_wp2
    go_ret
    exact ⟨5, rfl, by omega, rfl⟩
  · go_enter Try.func50, Try.ntmps50
    go_wp2
    go_ret
    exact ⟨2 + (n : Int) / 20, rfl, by omega, rfl⟩
/-- What a tree's drawing holds beside the variable. -/
def DwB (w : World) (cb h0 g : Nat) (v : Value) (ks : List Ex.T) (F : List Nat) (wr : World) : Prop :=
  FreeE wr w.heap.size 0 ⟨#[]⟩ 0 0 (.slice none 0 0) ∧ IsCur (w.heap.size + 1) wr cb ∧ Below w.heap.size w wr ∧ OwnK wr v ks F ∧ (∀ b ∈ F, h0 ≤ b ∧ b < wr.heap.size ∧ b ≠ g) ∧ w.heap.size < cb ∧ cb < h0 ∧ h0 ≤ g ∧ g < wr.heap.size
/-- A whole tree that is being drawn, in the variable at block g. -/
def DwSt (w : World) (cb h0 g : Nat) (t : Ex.T) (v : Value) (F : List Nat) (wr : World) : Prop :=
  DwB w cb h0 g v t.kids F wr ∧ FreeE wr g t.kind t.text t.num t.line v
theorem DwSt.only {w wr wx : World} {cb h0 g : Nat} {t : Ex.T} {v : Value} {F : List Nat} (h : DwSt w cb h0 g t v F wr) (hc : IsCur (w.heap.size + 1) wx cb) (ho : Only cb wr wx) : DwSt w cb h0 g t v F wx := by
  obtain ⟨⟨h1, h2, h3, h4, h5, h6, h7, h8, h9⟩, h10⟩ := h
  have hs := ho.size
  refine ⟨⟨h1.only ho (by omega), hc, h3.trans (ho.below (by omega) h3.size), OwnK.keep _ (fun b hb => ho.block b (h5 b hb).2.1 fun e => ?_) h4, fun b hb => ?_, h6, h7, h8, by omega⟩, h10.only ho (by omega)⟩
  · have h11 := Option.some.inj e
    have h12 := h5 b hb
    omega
  · have h12 := h5 b hb
    exact ⟨h12.1, by omega, h12.2.2⟩
theorem DwB.later {w wr wx : World} {cb h0 g : Nat} {ks : List Ex.T} {v : Value} {F : List Nat} (h : DwB w cb h0 g v ks F wr) (hb : Below wr.heap.size wr wx) : DwB w cb h0 g v ks F wx := by
  obtain ⟨h1, h2, h3, h4, h5, h6, h7, h8, h9⟩ := h
  have hs := hb.size
  have hr := h1.lt
  refine ⟨h1.later hb, cur_below h2 (by omega) hb, h3.trans (hb.mono h3.size), OwnK.keep _ (fun b hb2 => hb.block b (h5 b hb2).2.1) h4, fun b hb2 => ?_, h6, h7, h8, by omega⟩
  have h12 := h5 b hb2
  exact ⟨h12.1, by omega, h12.2.2⟩
theorem DwSt.later {w wr wx : World} {cb h0 g : Nat} {t : Ex.T} {v : Value} {F : List Nat} (h : DwSt w cb h0 g t v F wr) (hb : Below wr.heap.size wr wx) : DwSt w cb h0 g t v F wx := ⟨h.1.later hb, h.2.later hb⟩
theorem DwB.set {w wr : World} {cb h0 g : Nat} {ks : List Ex.T} {v : Value} {F : List Nat} (h : DwB w cb h0 g v ks F wr) (o : Nat) (u : Value) : DwB w cb h0 g v ks F (wr.setCell ⟨g, o, none⟩ u) := by
  obtain ⟨h1, h2, h3, h4, h5, h6, h7, h8, h9⟩ := h
  have hz : (wr.setCell ⟨g, o, none⟩ u).heap.size = wr.heap.size := by simp [World.setCell]
  refine ⟨h1.keep (Below.heap_setCell wr ⟨g, o, none⟩ u _ (show w.heap.size ≠ g by omega)), ?_, h3.trans ((Below.refl w.heap.size wr).setCell (p := ⟨g, o, none⟩) (by show w.heap.size ≤ g; omega) u), OwnK.keep _ (fun b hb => Below.heap_setCell wr ⟨g, o, none⟩ u b (h5 b hb).2.2) h4, by rw [hz]; exact h5, h6, h7, h8, by rw [hz]; exact h9⟩
  obtain ⟨v, m, i, x, c1, c2, c3⟩ := h2
  refine ⟨v, m, i, x, c1, code_below c2 ((Below.refl _ wr).setCell (p := ⟨g, o, none⟩) (by show w.heap.size + 1 ≤ g; omega) u), ?_⟩
  rw [Below.heap_setCell wr ⟨g, o, none⟩ u cb (show cb ≠ g by omega)]; exact c3
theorem DwSt.text {w wr : World} {cb h0 g : Nat} {t : Ex.T} {v : Value} {F : List Nat} (h : DwSt w cb h0 g t v F wr) (s : ByteArray) : DwSt w cb h0 g (.node t.kind s t.num t.line t.kids) v F (wr.setCell ⟨g, 1, none⟩ (.string s)) := by
  refine ⟨h.1.set _ _, ?_⟩
  obtain ⟨⟨a0, a1, a2, a3, a4⟩, f0, f1, f2, f3, f4⟩ := h.2
  refine ⟨⟨?_, ?_, ?_, ?_, ?_⟩, ?_, ?_, ?_, ?_, ?_⟩
  all_goals go_simp
  all_goals rfl
theorem DwSt.num {w wr : World} {cb h0 g : Nat} {t : Ex.T} {v : Value} {F : List Nat} (h : DwSt w cb h0 g t v F wr) (n : Int) : DwSt w cb h0 g (.node t.kind t.text n t.line t.kids) v F (wr.setCell ⟨g, 2, none⟩ (.int .i64 n)) := by
  refine ⟨h.1.set _ _, ?_⟩
  obtain ⟨⟨a0, a1, a2, a3, a4⟩, f0, f1, f2, f3, f4⟩ := h.2
  refine ⟨⟨?_, ?_, ?_, ?_, ?_⟩, ?_, ?_, ?_, ?_, ?_⟩
  all_goals go_simp
  all_goals rfl
theorem own_one (w : World) (t : Ex.T) (v : Value) (F : List Nat) (h : OwnK w v t.kids F) (hF : ∀ b ∈ F, b < w.heap.size) : OwnK (w.alloc (iexN t v)) (.slice (some ⟨w.heap.size, 0, none⟩) 1 1) [t] (w.heap.size :: F) := by
  have hr : RowE (w.alloc (iexN t v)) w.heap.size 1 1 (rowV [(t, v, F)]) :=
    ⟨rfl, .inr ⟨w.heap.size, 1, _, rfl, Nat.zero_le _, World.alloc_heap_new w (iexN t v), Nat.le_refl _, by unfold maxLen; omega, rfl, rfl⟩⟩
  have hk : OwnK (w.alloc (iexN t v)) v t.kids F := OwnK.keep _ (fun b hb => (bl1 w (iexN t v)).block b (hF b hb)) h
  have he : Els (w.alloc (iexN t v)) [(t, v, F)] := ⟨fun p hp => by rw [List.mem_singleton] at hp; subst hp; exact hk, List.pairwise_singleton _ _⟩
  have hg : w.heap.size ∉ elsF [(t, v, F)] := fun hb => by
    have hb2 : w.heap.size ∈ F := by simpa [elsF] using hb
    exact Nat.lt_irrefl _ (hF _ hb2)
  have hh := ownK_els (l := [(t, v, F)]) hr he hg
  simpa [elsF] using hh
theorem DwSt.wrap {w wr : World} {cb h0 g : Nat} {t : Ex.T} {v : Value} {F : List Nat} (h : DwSt w cb h0 g t v F wr) (i : Int) :
    DwSt w cb h0 g (.node 27 ⟨#[]⟩ 0 i [t]) (.slice (some ⟨wr.heap.size, 0, none⟩) 1 1) (wr.heap.size :: F) ((((((wr.alloc (iexN t v)).setCell ⟨g, 0, none⟩ (.int .i64 27)).setCell ⟨g, 1, none⟩ (.string ⟨#[]⟩)).setCell ⟨g, 2, none⟩ (.int .i64 0)).setCell ⟨g, 3, none⟩ (.int .i64 i)).setCell ⟨g, 4, none⟩ (.slice (some ⟨wr.heap.size, 0, none⟩) 1 1)) := by
  have h2 := h.later (bl1 wr (iexN t v))
  obtain ⟨⟨h1, c2, c3, c4, c5, c6, c7, c8, c9⟩, h10⟩ := h2
  have o := own_one wr t v F h.1.2.2.2.1 fun b hb => (h.1.2.2.2.2.1 b hb).2.1
  have hz : (wr.alloc (iexN t v)).heap.size = wr.heap.size + 1 := by simp
  have hgl := h.1.2.2.2.2.2.2.2.2
  have hB : DwB w cb h0 g (.slice (some ⟨wr.heap.size, 0, none⟩) 1 1) [t] (wr.heap.size :: F) (wr.alloc (iexN t v)) := by
    refine ⟨h1, c2, c3, o, fun b hb => ?_, c6, c7, c8, c9⟩
    rcases List.mem_cons.1 hb with rfl | hb
    · exact ⟨by omega, by omega, by omega⟩
    · exact c5 b hb
  refine ⟨((((hB.set _ _).set _ _).set _ _).set _ _).set _ _, ?_⟩
  obtain ⟨⟨a0, a1, a2, a3, a4⟩, f0, f1, f2, f3, f4⟩ := h10
  generalize wr.alloc (iexN t v) = W at a0 a1 a2 a3 a4 f0 f1 f2 f3 f4
  refine ⟨⟨?_, ?_, ?_, ?_, ?_⟩, ?_, ?_, ?_, ?_, ?_⟩
  all_goals go_simp
  all_goals rfl
/-- A whole tree is drawn. -/
def DrewT (M : Nat) (w : World) (e : Ending) (w' : World) : Prop := ∃ (t : Ex.T) (v : Value) (F : List Nat), e = .returned (exV t v) ∧ OwnK w' v t.kids F ∧ Foot w.heap.size w' F ∧ t.bulk ≤ M ∧ Below w.heap.size w w'
/-- A value is stored in the result's variable. -/
theorem drew_store {w wr : World} {M : Nat} {t : Ex.T} {v : Value} {F : List Nat} (hk : OwnK wr v t.kids F) (hF : ∀ b ∈ F, w.heap.size < b ∧ b < wr.heap.size) (hb : t.bulk ≤ M) (hw : Below w.heap.size w wr) :
    DrewT M w (.returned (exV t v)) (((((wr.setCell ⟨w.heap.size, 0, none⟩ (.int .i64 t.kind)).setCell ⟨w.heap.size, 1, none⟩ (.string t.text)).setCell ⟨w.heap.size, 2, none⟩ (.int .i64 t.num)).setCell ⟨w.heap.size, 3, none⟩ (.int .i64 t.line)).setCell ⟨w.heap.size, 4, none⟩ v) := by
  have hset : ∀ (A : World) (o : Nat) (u : Value), Below w.heap.size w A → Below w.heap.size w (A.setCell ⟨w.heap.size, o, none⟩ u) := fun A o u h => h.trans ((Below.refl w.heap.size A).setCell (p := ⟨w.heap.size, o, none⟩) (Nat.le_refl _) u)
  refine ⟨t, v, F, rfl, OwnK.keep _ (fun b hbF => ?_) hk, fun b hbF => ?_, hb, hset _ _ _ (hset _ _ _ (hset _ _ _ (hset _ _ _ (hset _ _ _ hw))))⟩
  · have := hF b hbF
    rw [Below.heap_setCell _ _ _ _ (show b ≠ w.heap.size by omega), Below.heap_setCell _ _ _ _ (show b ≠ w.heap.size by omega), Below.heap_setCell _ _ _ _ (show b ≠ w.heap.size by omega), Below.heap_setCell _ _ _ _ (show b ≠ w.heap.size by omega), Below.heap_setCell _ _ _ _ (show b ≠ w.heap.size by omega)]
  · have := hF b hbF
    refine ⟨by omega, ?_⟩
    simpa [World.setCell] using this.2
end Go.Proofs.Ytkkopnhbafjnaaa
/- A whole tree is drawn. No conditions. -/
namespace Go.Proofs.Ytkkopnhbafjnaaa
open Go.RowKit
set_option linter.unusedVariables false

def rootTexts : List ByteArray := [⟨#[]⟩, ⟨#[120]⟩, ⟨#[43]⟩, ⟨#[122, 122]⟩, ⟨#[105, 102]⟩]
theorem rootTexts_small : ∀ s ∈ rootTexts, s.size ≤ 2 := by decide
theorem bnd_mono {e : Nat} (h : e ≤ 5) : bnd e ≤ 1010878 := by
  rcases e with _ | _ | _ | _ | _ | _ | e
  · decide
  · decide
  · decide
  · decide
  · decide
  · decide
  · omega
theorem dwst_new {w w3 : World} {cb h0 : Nat} {t : Ex.T} {v : Value} {F : List Nat} (h1 : FreeE w3 w.heap.size 0 ⟨#[]⟩ 0 0 (.slice none 0 0)) (h2 : IsCur (w.heap.size + 1) w3 cb) (h3 : Below w.heap.size w w3) (h4 : OwnK w3 v t.kids F) (hf : Foot h0 w3 F) (h6 : w.heap.size < cb) (h7 : cb < h0) (h8 : h0 ≤ w3.heap.size) :
    DwSt w cb h0 w3.heap.size t v F (w3.alloc (iexN t v)) := by
  have hb := bl1 w3 (iexN t v)
  have hz : (w3.alloc (iexN t v)).heap.size = w3.heap.size + 1 := by simp
  have hr := h1.lt
  refine ⟨⟨h1.later hb, cur_below h2 (by omega) hb, h3.trans (hb.mono h3.size), OwnK.keep _ (fun b hb2 => hb.block b (hf b hb2).2) h4, fun b hb2 => ?_, h6, h7, h8, by omega⟩, FreeE.new _ _ _ _ _ _ _⟩
  have := hf b hb2
  exact ⟨by omega, by omega, by omega⟩
set_option maxRecDepth 100000 in
set_option maxHeartbeats 3200000 in
theorem draw_whole_tree (v : Value) (n : Nat) (w : World) (hc : Code w.heap.size w v n) (hn : (n : Int) ≤ 1048576) :
    Calls Try.prog 32 #[v] w (DrewT 1048000 w) := by
  obtain ⟨w0, hw0⟩ : ∃ w0, w.alloc (.cells #[.int .i64 0, .string ⟨#[]⟩, .int .i64 0, .int .i64 0, .slice none 0 0] 26) = w0 := ⟨_, rfl⟩
  have hz0 : w0.heap.size = w.heap.size + 1 := by rw [← hw0]; simp
  have hb0 : Below w.heap.size w w0 := by rw [← hw0]; exact bl1 _ _
  have hf0 : FreeE w0 w.heap.size 0 ⟨#[]⟩ 0 0 (.slice none 0 0) := by rw [← hw0]; exact FreeE.new _ _ _ _ _ _ _
  have hc0 : Code w0.heap.size w0 v n := code_up (code_below hc hb0) (by omega)
  have HC0 := Lib.hid hc0
  have HN := Lib.hid (draw_new v n w0 hc0 hn)
  have HF0 := Lib.hid hf0
  have HW0 := Lib.hid hw0
  have HB0 := Lib.hid hb0
  clear hc hf0 hc0 hw0 hb0
  go_enter Try.func32, Try.ntmps32
  go_wp2_with fail
  rw [HW0.out]
  refine HN.out.mono ?_
  rintro ee w1 ⟨cb, rfl, hcb, hlt, hcur, hb1⟩
  rw [hz0] at hcb hcur
  have hb1' : Below w0.heap.size w0 w1 := hb1
  rw [hz0] at hb1
  have HCD := Lib.hid (code_below HC0.out hb1')
  have HF1 := Lib.hid (HF0.out.later hb1')
  have HB1 := Lib.hid (HB0.out.trans (hb1.mono (Nat.le_succ _)))
  have HCU := Lib.hid hcur
  have HSZ := Lib.hid (size_at v w0.heap.size n w1 HCD.out hn)
  clear hcur hb1 hb1' HN HF0 HB0 HC0
  go_wp2_with fail
  refine HSZ.out.mono ?_
  rintro ee wz ⟨x, rfl, ⟨hx0, hx1⟩, rfl⟩
  have HX := Lib.hid (draw_below (w.heap.size + 1) cb x w1 HCU.out hx0 (by omega))
  clear HSZ
  go_wp2_with fail
  refine HX.out.mono ?_
  rintro ee w2 ⟨y, rfl, hy0, hy1, hc2, ho2⟩
  obtain ⟨e, he⟩ : ∃ e : Nat, 2 + y = (e : Int) + 1 := ⟨(1 + y).toNat, by omega⟩
  have he5 : e ≤ 5 := by omega
  have HT := Lib.hid (tree_any e he5 (w.heap.size + 1) cb w2 hc2 (by have := ho2.size; omega))
  have hew : IntKind.i64.wrap (2 + y) = (e : Int) + 1 := by rw [he]; exact IntWalk.i64_in _ (by omega)
  have ho12 := ho2
  clear hc2 ho2 HX he
  unfold DrawnT at HT
  go_wp2_with fail
  refine HT.out.mono ?_
  rintro ee w3 ⟨t, tv, F, rfl, ho, hf, hb, hc3, ho3⟩
  obtain ⟨z, d, rfl⟩ := kids_len (OwnK.kids _ ho)
  have hs12 := ho12.size
  have hs23 := ho3.size
  have HD : Hid (DwSt w cb w2.heap.size w3.heap.size t (.slice z t.kids.length d) F (w3.alloc (iexN t (.slice z t.kids.length d)))) := Lib.hid
    (dwst_new ((HF1.out.only ho12 (by omega)).only ho3 (by omega)) hc3 ((HB1.out.trans (ho12.below (by omega) HB1.out.size)).trans (ho3.below (by omega) (by have := HB1.out.size; omega))) ho hf (by omega) (by omega) (by omega))
  have HK : Hid (t.bulk ≤ 1010878) := Lib.hid (Nat.le_trans hb (bnd_mono he5))
  clear ho hf hb hc3 ho3 ho12 HT HF1 HB1 HCU HCD
  have HO8 := Lib.hid (once_at (w.heap.size + 1) cb 8 _ HD.out.1.2.1 (by omega) (by omega))
  obtain ⟨g, hg⟩ : ∃ g, w3.heap.size = g := ⟨_, rfl⟩
  obtain ⟨w4, hw4⟩ : ∃ w4, w3.alloc (iexN t (.slice z t.kids.length d)) = w4 := ⟨_, rfl⟩
  have HW4 := Lib.hid hw4
  have HG := Lib.hid hg
  rw [hw4, hg] at HD
  rw [hw4] at HO8
  clear hw4 hg
  go_wp2_with fail
  rw [HW4.out, HG.out]
  refine HO8.out.mono ?_
  rintro ee w5 ⟨b, rfl, hc5, ho5⟩
  have HD5 := Lib.hid (HD.out.only hc5 ho5)
  have hln : w.heap.size < cb ∧ cb < w2.heap.size ∧ w2.heap.size ≤ g := ⟨by omega, by omega, HD.out.1.2.2.2.2.2.2.2.1⟩
  clear hc5 ho5 HO8 HD HW4 HG hlt hs12 hs23
  go_upto_if 16 with fail
  go_cut [] (fun wx => ∃ t v F, DwSt w cb w2.heap.size g t v F wx ∧ t.bulk ≤ 1010880)
  case first =>
    cases b
    · go_wp2_with fail
      go_meet
      exact ⟨t, _, F, HD5.out, by have := HK.out; omega⟩
    · have HP := Lib.hid (pick_text (w.heap.size + 1) cb w5.heap.size 5 rootTexts _ (cur_alloc HD5.out.1.2.1 (by have := HD5.out.1.1.lt; omega) _) (by decide) (by decide) (by have := cur_lt HD5.out.1.2.1; omega) (new_cells Value.string rootTexts ByteArray.empty w5 9 _ rfl))
      go_wp2_with fail
      refine HP.out.mono ?_
      rintro ee w6 ⟨s, hs, rfl, hc6, ho6⟩
      have HD6 := Lib.hid ((HD5.out.later (bl1 w5 _)).only hc6 ho6)
      have hs2 := rootTexts_small s hs
      clear hs hc6 ho6 HD5 HP
      obtain ⟨⟨_, q1, q2, _⟩, _, f1, f2, _⟩ := HD6.out.2
      have HD7 := Lib.hid (HD6.out.text s)
      have HX3 := Lib.hid (draw_below (w.heap.size + 1) cb 3 _ HD7.out.1.2.1 (by omega) (by omega))
      go_wp2_with fail
      refine HX3.out.mono ?_
      rintro ee w7 ⟨u, rfl, hu0, hu1, hc7, ho7⟩
      have HD8 := Lib.hid (HD7.out.only hc7 ho7)
      clear hc7 ho7 HD7 HX3 q1 q2 f1 f2
      obtain ⟨⟨_, _, q2, _⟩, _, _, f2, _⟩ := HD8.out.2
      go_wp2_with fail
      go_meet
      refine ⟨_, _, F, HD8.out.num _, ?_⟩
      have h1 := HK.out
      rw [bulk_eq] at h1
      rw [bulk_eq]
      show s.size + (t.kids.length + Ex.bulks t.kids) ≤ 1010880
      omega
  case rest =>
    obtain ⟨t2, v2, F2, hT, hK⟩ := hcut
    clear HD5 HK
    have HT2 := Lib.hid hT
    have HK2 := Lib.hid hK
    have HO := Lib.hid (once_at (w.heap.size + 1) cb 20 _ HT2.out.1.2.1 (by omega) (by omega))
    clear hT hK
    go_wp2_with fail
    refine HO.out.mono ?_
    rintro ee w8 ⟨b2, rfl, hc8, ho8⟩
    have HT3 := Lib.hid (HT2.out.only hc8 ho8)
    clear hc8 ho8 HO HT2
    go_upto_if 26 with fail
    go_cut [] (fun wx => ∃ t v F, DwSt w cb w2.heap.size g t v F wx ∧ t.bulk ≤ 1011000)
    case first =>
      cases b2
      · go_wp2_with fail
        go_meet
        exact ⟨_, _, _, HT3.out, by have := HK2.out; omega⟩
      · go_wp2_with fail
        go_loopw [5] (fun i wr => ∃ (j : Nat) (t : Ex.T) (v : Value) (F : List Nat), i = .int .i64 j ∧ j ≤ 41 ∧ DwSt w cb w2.heap.size g t v F wr ∧ t.bulk ≤ 1010880 + j) (fun i _ => 41 - (intOf i).toNat)
        case atStart => exact ⟨0, _, _, _, rfl, by omega, HT3.out, HK2.out⟩
        case round =>
          clear HT3 HK2
          obtain ⟨j, t3, v3, F3, rfl, hj, hT, hK⟩ := hrel
          have HT4 := Lib.hid hT
          have HK4 := Lib.hid hK
          have HX4 := Lib.hid (draw_below (w.heap.size + 1) cb 4 _ hT.1.2.1 (by omega) (by omega))
          clear hT hK
          go_wp2_with fail
          refine HX4.out.mono ?_
          rintro ee w9 ⟨u, rfl, hu0, hu1, hc9, ho9⟩
          have HT5 := Lib.hid (HT4.out.only hc9 ho9)
          clear hc9 ho9 HT4 HX4
          obtain ⟨z5, d5, rfl⟩ := kids_len (OwnK.kids _ HT5.out.1.2.2.2.1)
          by_cases hlt : (j : Int) < 38 + u
          · obtain ⟨⟨q0, q1, q2, q3, q4⟩, f0, f1, f2, f3, f4⟩ := HT5.out.2
            obtain ⟨⟨p0, p1, p2, p3, p4⟩, e0, e1, e2, e3, e4⟩ := (HT5.out.later (bl1 w9 (iexN t3 (.slice z5 t3.kids.length d5)))).2
            have HT6 := Lib.hid (HT5.out.wrap j)
            go_wp2_with fail
            go_roundw
            case rel =>
              refine ⟨j + 1, _, _, _, by go_num, by omega, HT6.out, ?_⟩
              have h1 := HK4.out
              rw [bulk_eq]
              show 0 + (1 + (t3.bulk + 0)) ≤ _
              omega
            case measure => first | (simp [intOf]; done) | (simp [intOf]; omega)
          · go_wp2_with fail
            go_meet
            exact ⟨_, _, _, HT5.out, by have := HK4.out; omega⟩
    case rest =>
      obtain ⟨t4, v4, F4, hT, hK⟩ := hcut
      obtain ⟨z4, d4, rfl⟩ := kids_len (OwnK.kids _ hT.1.2.2.2.1)
      have hbd := hT.1.2.2.2.2.1
      have HR := Lib.hid (drew_store (M := 1048000) hT.1.2.2.2.1 (fun b hb => ⟨by have := hbd b hb; omega, (hbd b hb).2.1⟩) (by omega) hT.1.2.2.1)
      obtain ⟨⟨r0, r1, r2, r3, r4⟩, g0, g1, g2, g3, g4⟩ := hT.1.1
      obtain ⟨⟨q0, q1, q2, q3, q4⟩, f0, f1, f2, f3, f4⟩ := hT.2
      clear hT hK hbd HT3
      go_wp2
      exact bodyPost_ret (v := exV t4 (.slice z4 t4.kids.length d4)) (by simp [results, Try.results32, go_sem, r0, r1, r2, r3, r4]) rfl HR.out
end Go.Proofs.Ytkkopnhbafjnaaa
/- The draw of FnErased. No conditions. -/
namespace Go.Proofs.Ytkkopnhbafjnaaa
open Go.RowKit
set_option linter.unusedVariables false

set_option maxRecDepth 100000 in
set_option maxHeartbeats 1600000 in
theorem draw_erase (v : Value) (n : Nat) (w : World) (hc : Code w.heap.size w v n) (hn : (n : Int) ≤ 1048576) :
    Calls Try.prog 12 #[v] w (DrewT 1048000 w) := by
  obtain ⟨w0, hw0⟩ : ∃ w0, w.alloc (.cells #[.int .i64 0, .string ⟨#[]⟩, .int .i64 0, .int .i64 0, .slice none 0 0] 26) = w0 := ⟨_, rfl⟩
  have hz0 : w0.heap.size = w.heap.size + 1 := by rw [← hw0]; simp
  have hb0 : Below w.heap.size w w0 := by rw [← hw0]; exact bl1 _ _
  have hf0 : FreeE w0 w.heap.size 0 ⟨#[]⟩ 0 0 (.slice none 0 0) := by rw [← hw0]; exact FreeE.new _ _ _ _ _ _ _
  have HN := Lib.hid (draw_whole_tree v n w0 (code_up (code_below hc hb0) (by omega)) hn)
  unfold DrewT at HN
  have HF0 := Lib.hid hf0
  have HW0 := Lib.hid hw0
  have HB0 := Lib.hid hb0
  clear hc hf0 hw0 hb0
  go_enter Try.func12, Try.ntmps12
  go_wp2_with fail
  rw [HW0.out]
  refine HN.out.mono ?_
  rintro ee w1 ⟨t, tv, F, rfl, ho, hf, hb, hb1⟩
  obtain ⟨z, d, rfl⟩ := kids_len (OwnK.kids _ ho)
  have hf1 := HF0.out.later hb1
  have HR := Lib.hid (drew_store (w := w) (M := 1048000) ho (fun b hb => ⟨by have := hf b hb; omega, (hf b hb).2⟩) hb (HB0.out.trans (hb1.mono (by omega))))
  obtain ⟨⟨r0, r1, r2, r3, r4⟩, g0, g1, g2, g3, g4⟩ := hf1
  clear ho hf hb hb1 HN HW0 HF0
  go_wp2
  exact bodyPost_ret (v := exV t (.slice z t.kids.length d)) (by simp [results, Try.results12, go_sem, r0, r1, r2, r3, r4]) rfl HR.out
end Go.Proofs.Ytkkopnhbafjnaaa
