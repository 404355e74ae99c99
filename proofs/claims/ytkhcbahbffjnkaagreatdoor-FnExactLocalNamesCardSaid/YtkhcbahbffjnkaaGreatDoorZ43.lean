/- Joined texts: N31. No conditions besides those that each states. -/
import Derived.Test.YtkhcbahbffjnkaaGreatDoorZ14
/- What the laws write into a tree, and read again: the walks. No conditions. -/
namespace Go.Proofs.YtkhcbahbffjnkaaGreatDoor
open Go.RowKit
set_option linter.unusedVariables false

theorem set_oth (W : World) (g o j : Nat) (u : Value) (h : o ≠ j) : (W.setCell ⟨g, o, none⟩ u).cell? ⟨g, j, none⟩ = W.cell? ⟨g, j, none⟩ := by
  have : ¬ j = o := fun e => h e.symm
  go_simp
theorem row_any {w : World} {g n cap i : Nat} {xs : List Value} (h : RowE w g n cap xs) (hi : i < n) (j : Nat) (hj : j < 5) : (∃ u, w.cell? ⟨g, i * 5 + j, none⟩ = some u) ∧ w.frozen? ⟨g, i * 5 + j, none⟩ = false := h.cell _ (by omega)
set_option maxRecDepth 100000 in
set_option maxHeartbeats 3200000 in
theorem mark_cons (ks : List Ex.T) (h0 : ks ≠ []) (hI : ∀ x ∈ ks, MarkK x.kids) (hlen : ∀ x ∈ ks, x.kids.length ≤ 1048576) : MarkK ks := by
  intro w v F k ho hF hk hl
  obtain ⟨g, c, l, rfl, hl1, hr0, he0, hg0, rfl⟩ : ∃ g c l, v = .slice (some ⟨g, 0, none⟩) ks.length c ∧ l.map Prod.fst = ks ∧ RowE w g ks.length c (rowV l) ∧ Els w l ∧ g ∉ elsF l ∧ F = g :: elsF l := by
    cases ks with
    | nil => exact absurd rfl h0
    | cons x r =>
      rw [OwnK] at ho
      obtain ⟨g, c, xs, G1, G2, e, hrow, rfl, ⟨d1, d2, d3⟩, hx, hr⟩ := ho
      obtain ⟨l, hl2, hl3, hl4, hl5⟩ := ownR_elsOf (x :: r) 0 (G1 ++ G2) (by rw [OwnR]; exact ⟨G1, G2, rfl, d3, hx, by rw [Nat.zero_add]; exact hr⟩)
      have hll : (r.length + 1) = l.length := by have h3 := congrArg List.length hl2; rw [List.length_map, List.length_cons] at h3; exact h3.symm
      exact ⟨g, c, l, e, hl2, rowE_vals hrow hll hl5, hl4, by rw [hl3]; exact fun h => (List.mem_append.1 h).elim d1 d2, by rw [hl3]⟩
  have HST := Lib.hid (MkAt.start (k0 := k) hl1 hr0 he0)
  have HG := Lib.hid hg0
  have HFL := Lib.hid (fun b (hb : b ∈ elsF l) => hF b (List.mem_cons_of_mem _ hb))
  have HI := Lib.hid hI
  have HH0 := Lib.hid h0
  have HLE := Lib.hid hlen
  have HK := Lib.hid hk
  clear ho hI h0 hl1 hr0 he0 hg0 hF hlen hk
  go_enter Tryz.func81, Tryz.ntmps81
  go_wp2
  go_loopw [1, 5] (fun m i wr => ∃ j n : Nat, m = .int .i64 n ∧ i = .int .i64 j ∧ j ≤ ks.length ∧ n = k + 4 * Ex.counts (ks.take j) ∧ MkAt w g c l ks k j wr) (fun _ i _ => ks.length - (intOf i).toNat)
  case atStart => exact ⟨0, k, rfl, rfl, Nat.zero_le _, by simp [Ex.counts], HST.out⟩
  case round =>
    clear HST
    obtain ⟨j, n, rfl, rfl, hj, hn, hat⟩ := hrel
    by_cases hlt : j < ks.length
    · obtain ⟨le, h1, h2, h3, h4, h5⟩ := hat
      obtain ⟨v, F, hp, hp2⟩ := mk_at h1 h2 hlt
      have hct := Ex.counts_take ks j hlt
      have hcl := Ex.counts_take_le ks (j + 1)
      have hce := count_eq ks[j]
      have hkk := HK.out
      have hnb : (n : Int) + 4 + 4 * Ex.counts ks[j].kids ≤ 8000000 := by omega
      have HNX := Lib.hid (fun B1 W2 hb1 hk ho => mk_next (g := g) (c := c) (k0 := k) (v := v) (F := F) (B1 := B1) (W2 := W2) h1 h2 h3 h4 h5 HG.out HFL.out hlt hp hb1 hk ho)
      rw [← hn] at HNX
      have hFl : elsF le = elsF l := elsF_snd h1
      have hFm : ∀ b ∈ F, b ∈ elsF l := fun b hb => hFl ▸ elsF_mem (List.mem_of_getElem? hp) hb
      have hgF : g ∉ F := fun e => HG.out (hFm g e)
      have hFw : ∀ b ∈ F, b < wr.heap.size := fun b hb => by have h7 := HFL.out b (hFm b hb); have h8 := h5.1.size; omega
      have hOK : OwnK wr v ks[j].kids F := h4.1 (ks[j], v, F) (List.mem_of_getElem? hp)
      have hlg := h3.lt
      have hrow : RowE wr g le.length c (rowV le) := by
        have h6 := congrArg List.length h2
        rw [List.length_map, List.length_append, Ex.mrks_len, List.length_take, List.length_drop] at h6
        rw [show le.length = ks.length by omega]; exact h3
      have c4 := row_node hrow hp
      obtain ⟨⟨u0, c0⟩, f0⟩ := row_any h3 hlt 0 (by omega)
      rw [Nat.add_zero] at c0 f0
      have HR0 := Lib.hid (h3.set (j * 5) (.int .i64 (n : Int)))
      have HM := Lib.hid (mark_n n (wr.setCell ⟨g, j * 5, none⟩ (.int .i64 (n : Int))) (by omega))
      have HC := Lib.hid (HI.out ks[j] (List.getElem_mem hlt))
      have HOK := Lib.hid hOK
      have HGF := Lib.hid hgF
      have HFW := Lib.hid hFw
      have C4 := Lib.hid c4
      have HN := Lib.hid hn
      have HCT := Lib.hid hct
      have HCE := Lib.hid hce
      have hkl := HLE.out ks[j] (List.getElem_mem hlt)
      have k0 : (0 : Int) ≤ j := by omega
      have k1 : (j : Int) < ks.length := by omega
      obtain ⟨a5, c5, rfl⟩ := kids_len (OwnK.kids _ hOK)
      have hz : (wr.setCell ⟨g, j * 5, none⟩ (.int .i64 (n : Int))).heap.size = wr.heap.size := by simp [World.setCell]
      have HZ := Lib.hid hz
      clear h1 h2 h3 h4 h5 hp hp2 hct hcl hce hkk hFl hFm hgF hFw hOK hrow c4 hn hz
      generalize ks[j] = x at HNX HC HOK HCT HCE hnb hkl C4
      go_wp2_with (go_at_call 105; refine HM.out.mono ?_; rintro e B1 ⟨rfl, b1⟩; have hr1 := HR0.out.keep (b1.block g (by rw [HZ.out]; exact hlg)); obtain ⟨⟨u1, c1⟩, f1⟩ := row_any hr1 hlt 1 (by omega); obtain ⟨⟨u2, c2⟩, f2⟩ := row_any hr1 hlt 2 (by omega); obtain ⟨⟨u3, c3⟩, f3⟩ := row_any hr1 hlt 3 (by omega); have d4 : B1.cell? ⟨g, j * 5 + 4, none⟩ = some (.slice a5 x.kids.length c5) := (cell_keep (b1.block g (by rw [HZ.out]; exact hlg)) _).trans ((set_oth wr g _ _ _ (by omega)).trans C4.out); have HB1 := Lib.hid b1; clear hr1 b1)
      have hoA : OwnK (((B1.setCell ⟨g, j * 5 + 1, none⟩ (.string (mark (n + 1)))).setCell ⟨g, j * 5 + 2, none⟩ (.int .i64 ((n : Int) + 1 + 1))).setCell ⟨g, j * 5 + 3, none⟩ (.int .i64 ((n : Int) + 1 + 1 + 1))) (.slice a5 x.kids.length c5) x.kids F := OwnK.keep _ (fun b hb => by
        have hbg : b ≠ g := fun e => HGF.out (e ▸ hb)
        rw [Below.heap_setCell _ _ _ _ hbg, Below.heap_setCell _ _ _ _ hbg, Below.heap_setCell _ _ _ _ hbg, HB1.out.block b (by rw [HZ.out]; exact HFW.out b hb), Below.heap_setCell _ _ _ _ hbg]) HOK.out
      have hC2 := HC.out _ _ F (n + 4) hoA (fun b hb => by
        have h7 := HFW.out b hb
        have h8 := HB1.out.size
        rw [HZ.out] at h8
        simp [World.setCell]; omega) (by omega) hkl
      rw [show ((n + 4 : Nat) : Int) = (n : Int) + 1 + 1 + 1 + 1 by omega] at hC2
      refine hC2.mono ?_
      rintro e W2 ⟨rfl, hk2, ho2⟩
      have HNN := Lib.hid (HNX.out B1 W2 HB1.out hk2 ho2)
      clear hC2 hoA hk2 ho2 c0 f0 c1 f1 c2 f2 c3 f3 d4
      go_wp2
      go_roundw
      case rel => exact ⟨j + 1, n + 4 + 4 * Ex.counts x.kids, rfl, by go_num, by omega, by rw [HCT.out, HCE.out, HN.out]; omega, HNN.out⟩
      case measure => first | (simp [intOf]; done) | (simp [intOf]; omega)
    · obtain rfl : j = ks.length := by omega
      obtain ⟨hD1, hD2⟩ := hat.done HG.out HH0.out
      have HD1 := Lib.hid hD1
      have HD2 := Lib.hid hD2
      have HN : Hid (n = k + 4 * Ex.counts ks) := Lib.hid (by rw [hn, List.take_length])
      clear hD1 hD2 hn hat
      go_wp2
      go_ret
      exact ⟨by rw [HN.out]; rfl, HD1.out, HD2.out⟩
theorem mark_all : ∀ (N : Nat) (ks : List Ex.T), Ex.counts ks ≤ N → (∀ x ∈ ks, x.bulk ≤ 1048576) → MarkK ks := by
  intro N
  induction N with
  | zero =>
    intro ks h hb
    cases ks with
    | nil => exact mark_nil
    | cons x r => rw [Ex.counts] at h; have := Ex.count_pos x; omega
  | succ N ih =>
    intro ks h hb
    by_cases h0 : ks = []
    · subst h0; exact mark_nil
    · refine mark_cons ks h0 (fun x hx => ih x.kids ?_ fun y hy => ?_) fun x hx => ?_
      · have h1 := Ex.counts_mem hx
        have h2 := count_eq x
        omega
      · have h1 := hb x hx
        have h2 := bulk_eq x
        have h3 := Ex.bulks_mem hy
        omega
      · have h1 := hb x hx
        have h2 := bulk_eq x
        omega
theorem mark_tree (t : Ex.T) (hb : t.bulk ≤ 1048576) (v : Value) (F : List Nat) (w : World) (ho : OwnK w v t.kids F) (hF : ∀ b ∈ F, b < w.heap.size) : Calls Tryz.prog 26 #[exV t v, .int .i64 1] w fun e w' => e = .returned (.int .i64 ((1 + 4 * Ex.counts t.kids : Nat) : Int)) ∧ OwnK w' v (Ex.mrks t.kids 1) F ∧ OnlyF F w w' := by
  have hbe := bulk_eq t
  have hce := count_eq t
  have hcs := small_count hb
  have HM := Lib.hid (mark_all _ t.kids (Nat.le_refl _) (fun x hx => by have := Ex.bulks_mem hx; omega))
  obtain ⟨a, c, rfl⟩ := kids_len (OwnK.kids _ ho)
  have hbn := bl1 w (.cells #[.int .i64 t.kind, .string t.text, .int .i64 t.num, .int .i64 t.line, .slice a t.kids.length c] 26)
  have HC := Lib.hid (HM.out _ _ F 1 (OwnK.keep _ (fun b hb2 => hbn.block b (hF b hb2)) ho) (fun b hb2 => Nat.lt_of_lt_of_le (hF b hb2) hbn.size) (by omega) (by omega))
  have HBN : Hid (OnlyF F w (w.alloc (.cells #[.int .i64 t.kind, .string t.text, .int .i64 t.num, .int .i64 t.line, .slice a t.kids.length c] 26))) := Lib.hid ((OnlyF.refl F w).later hbn)
  clear HM hbe hce hcs hb ho hF hbn
  go_enter Tryz.func26, Tryz.ntmps26
  go_wp2_with fail
  refine HC.out.mono ?_
  rintro e w1 ⟨rfl, h1, h2⟩
  have H1 := Lib.hid h1
  have H2 := Lib.hid (HBN.out.trans h2 fun b hb => hb)
  clear h1 h2
  go_wp2
  go_ret
  exact ⟨rfl, H1.out, H2.out⟩
end Go.Proofs.YtkhcbahbffjnkaaGreatDoor
