/- Joined texts: G17, G10, G11. No conditions besides those that each states. -/
import Derived.StillTailTactics
import Derived.IntWalk
import Derived.Test.YtkkopnhbafjnaaaZ16
import Derived.Test.YtkkopnhbafjnaaaZ32
/- Trees that are valid, in the reference model: every tree; IsValidExpr. No conditions. -/
namespace Go.Proofs.Ytkkopnhbafjnaaa
open Go.RowKit
set_option linter.unusedVariables false

theorem spec_valid : ∀ (N : Nat) (t : Ex.T), t.count ≤ N → t.bulk ≤ 1048576 → ∀ (d : Int), 0 ≤ d → d ≤ 1000 → ∀ (w : World) (v : Value), Kids w v t.kids → Calls Try.prog 38 #[exV t v, .int .i64 d] w (RetV w (t.valid d)) := by
  intro N
  induction N with
  | zero => intro t h; have := Ex.count_pos t; omega
  | succ N ih =>
    intro t hN hb d d0 d1 w v hk
    have hbe := bulk_eq t
    obtain ⟨a, c, rfl⟩ := kids_len hk
    have hln : t.kids.length ≤ 1048576 := by omega
    have hts : (t.text.size : Int) ≤ 1048576 := by omega
    have HC : Hid (CountsC t (.slice a t.kids.length c) (Ex.kidsOf t.kind).1 (Ex.kidsOf t.kind).2) := Lib.hid fun wr => spec_counts t _ wr
    have HW0 : WordsC t (.slice a t.kids.length c) (Ex.words t.kind t.text) := fun wr => spec_words t _ wr hts
    have HV := Ex.valid_eq t d
    unfold Ex.headB at HV
    by_cases q0 : d ≤ 40
    case neg => rw [show t.valid d = false by rw [HV, decide_eq_false q0]; simp only [Bool.false_and]]; exact valid_h0 t a c w d _ _ hln d0 d1 HC  (by omega)
    by_cases q1 : 1 ≤ t.kind
    case neg => rw [show t.valid d = false by rw [HV, decide_eq_false q1]; simp only [Bool.false_and, Bool.and_false]]; exact valid_h1 t a c w d _ _ hln d0 d1 HC q0 (by omega)
    by_cases q2 : t.kind ≤ 29
    case neg => rw [show t.valid d = false by rw [HV, decide_eq_false q2]; simp only [Bool.false_and, Bool.and_false]]; exact valid_h2 t a c w d _ _ hln d0 d1 HC q0 q1 (by omega)
    by_cases q3 : 0 ≤ t.line
    case neg => rw [show t.valid d = false by rw [HV, decide_eq_false q3]; simp only [Bool.false_and, Bool.and_false]]; exact valid_h3 t a c w d _ _ hln d0 d1 HC q0 q1 q2 (by omega)
    by_cases q4 : (Ex.kidsOf t.kind).1 ≤ t.kids.length
    case neg => rw [show t.valid d = false by rw [HV, decide_eq_false q4]; simp only [Bool.false_and, Bool.and_false]]; exact valid_h4 t a c w d _ _ hln d0 d1 HC q0 q1 q2 q3 (by omega)
    by_cases q5 : (t.kids.length : Int) ≤ (Ex.kidsOf t.kind).2
    case neg => rw [show t.valid d = false by rw [HV, decide_eq_false q5]; simp only [Bool.false_and, Bool.and_false]]; exact valid_h5 t a c w d _ _ hln d0 d1 HC q0 q1 q2 q3 q4 (by omega)
    rw [decide_eq_true q0, decide_eq_true q1, decide_eq_true q2, decide_eq_true q3, decide_eq_true q4, decide_eq_true q5] at HV
    cases hw : Ex.words t.kind t.text
    · rw [hw] at HV HW0
      rw [show t.valid d = false by rw [HV]; simp only [Bool.false_and, Bool.and_false]]
      exact valid_h6 t a c w d _ _ hln d0 d1 HC (Lib.hid HW0) q0 q1 q2 q3 q4 q5
    rw [hw] at HV HW0
    have HK := Lib.hid hk
    have HI : Hid (KidsC t (d + 1)) := Lib.hid fun x hx wx vx hkx => ih x (by have := kids_count hx; omega) (by have := Ex.bulks_mem hx; omega) (d + 1) (by omega) (by omega) wx vx hkx
    simp only [Bool.and_self, Bool.true_and] at HV
    by_cases k1 : t.kind = 1
    · rw [if_pos k1] at HV
      by_cases n0 : 0 ≤ t.num
      case neg => rw [show t.valid d = false by rw [HV, decide_eq_false n0]; simp only [Bool.false_and]]; exact valid_n1a t a c w d _ _ hln d0 d1 HC (Lib.hid HW0) q0 q1 q2 q3 q4 q5 (beq_iff_eq.2 k1) (by omega)
      by_cases n1 : t.num ≤ 999999999999
      case neg => rw [show t.valid d = false by rw [HV, decide_eq_false n1]; simp only [Bool.false_and, Bool.and_false]]; exact valid_n1b t a c w d _ _ hln d0 d1 HC (Lib.hid HW0) q0 q1 q2 q3 q4 q5 (beq_iff_eq.2 k1) n0 (by omega)
      rw [show t.valid d = Ex.valids t.kids (d + 1) by rw [HV, decide_eq_true n0, decide_eq_true n1]; simp only [Bool.true_and]]
      exact valid_p1 t a c w d _ _ hln d0 d1 HC (Lib.hid HW0) q0 q1 q2 q3 q4 q5 (beq_iff_eq.2 k1) n0 n1 HK HI
    · rw [if_neg k1] at HV
      have b1 : (t.kind == 1) = false := beq_eq_false_iff_ne.2 k1
      by_cases k20 : t.kind = 20
      · rw [if_pos k20] at HV
        have b20 : (t.kind == 20) = true := beq_iff_eq.2 k20
        by_cases n0 : 0 ≤ t.num
        case neg => rw [show t.valid d = false by rw [HV, decide_eq_false n0]; simp only [Bool.false_and]]; exact valid_n20a t a c w d _ _ hln d0 d1 HC (Lib.hid HW0) q0 q1 q2 q3 q4 q5 b1 b20 (by omega)
        by_cases n1 : t.num ≤ 1
        case neg => rw [show t.valid d = false by rw [HV, decide_eq_false n1]; simp only [Bool.false_and, Bool.and_false]]; exact valid_n20b t a c w d _ _ hln d0 d1 HC (Lib.hid HW0) q0 q1 q2 q3 q4 q5 b1 b20 n0 (by omega)
        by_cases p : ((t.kids.length : Int) - 1 - t.num).tmod 2 = 0
        case neg => rw [show t.valid d = false by rw [HV, decide_eq_false p]; simp only [Bool.false_and, Bool.and_false]]; exact valid_n20c t a c w d _ _ hln d0 d1 HC (Lib.hid HW0) q0 q1 q2 q3 q4 q5 b1 b20 n0 n1 p
        by_cases m : 1 + t.num ≤ (t.kids.length : Int)
        case neg => rw [show t.valid d = false by rw [HV, decide_eq_false m]; simp only [Bool.false_and, Bool.and_false]]; exact valid_n20d t a c w d _ _ hln d0 d1 HC (Lib.hid HW0) q0 q1 q2 q3 q4 q5 b1 b20 n0 n1 p (by omega)
        rw [show t.valid d = Ex.valids t.kids (d + 1) by rw [HV, decide_eq_true n0, decide_eq_true n1, decide_eq_true p, decide_eq_true m]; simp only [Bool.true_and]]
        exact valid_p20 t a c w d _ _ hln d0 d1 HC (Lib.hid HW0) q0 q1 q2 q3 q4 q5 b1 b20 n0 n1 p m HK HI
      · rw [if_neg k20] at HV
        have b20 : (t.kind == 20) = false := beq_eq_false_iff_ne.2 k20
        by_cases n0 : t.num = 0
        · rw [show t.valid d = Ex.valids t.kids (d + 1) by rw [HV, n0]; simp only [beq_self_eq_true, Bool.true_and]]
          exact valid_px t a c w d _ _ hln d0 d1 HC (Lib.hid HW0) q0 q1 q2 q3 q4 q5 b1 b20 (by rw [n0]; simp) HK HI
        · rw [show t.valid d = false by rw [HV, beq_eq_false_iff_ne.2 n0]; simp only [Bool.false_and]]
          exact valid_nxa t a c w d _ _ hln d0 d1 HC (Lib.hid HW0) q0 q1 q2 q3 q4 q5 b1 b20 (bne_iff_ne.2 n0)
theorem spec_isvalid (t : Ex.T) (hb : t.bulk ≤ 1048576) (w : World) (v : Value) (hk : Kids w v t.kids) : Calls Try.prog 17 #[exV t v] w fun e w' => e = .returned (.bool (decide (t.count ≤ 600) && t.valid 1)) ∧ Below w.heap.size w w' := by
  have HL := Lib.hid (fun W hW => spec_leftT _ t (Nat.le_refl _) hb W v 600 (by decide) (hk.later hW))
  have HV : Hid (∀ W, Below w.heap.size w W → Calls Try.prog 38 #[exV t v, .int .i64 1] W fun e w' => e = .returned (.bool (t.valid 1)) ∧ Below W.heap.size W w') := Lib.hid (fun W hW => spec_valid _ t (Nat.le_refl _) hb 1 (by decide) (by decide) W v (hk.later hW))
  obtain ⟨a, c, rfl⟩ := kids_len hk
  have HE := Lib.hid (CellsE.new w t (.slice a t.kids.length c) 26)
  by_cases hc : t.count ≤ 600
  · rw [decide_eq_true hc, Bool.true_and]
    rw [szR_yes hc] at HL
    have l1 : decide (0 ≤ ((600 - t.count : Nat) : Int)) = true := decide_eq_true (by omega)
    generalize ((600 - t.count : Nat) : Int) = left at HL l1
    generalize t.valid 1 = r at HV ⊢
    clear hb hk hc
    go_enter Try.func17, Try.ntmps17
    go_wp2_with fail
    refine (HL.out _ (bl1 _ _)).mono ?_
    rintro e w1 ⟨rfl, b1⟩
    have B1 := Lib.hid (below_then (bl1 _ _) b1)
    obtain ⟨e0, e1, e2, e3, e4⟩ := HE.out.later b1
    clear b1
    go_wp2_with fail
    refine (HV.out _ B1.out).mono ?_
    rintro e w2 ⟨rfl, b2⟩
    have B2 := Lib.hid (below_then B1.out b2)
    clear b2 e0 e1 e2 e3 e4
    go_wp2
    go_ret
    exact ⟨rfl, B2.out⟩
  · rw [decide_eq_false hc, Bool.false_and]
    rw [szR_no hc] at HL
    clear hb hk hc HV
    go_enter Try.func17, Try.ntmps17
    go_wp2_with fail
    refine (HL.out _ (bl1 _ _)).mono ?_
    rintro e w1 ⟨rfl, b1⟩
    have B1 := Lib.hid (below_then (bl1 _ _) b1)
    clear b1
    go_wp2
    go_ret
    exact ⟨rfl, B1.out⟩
end Go.Proofs.Ytkkopnhbafjnaaa
/- Whether trees are equal, in the reference model. No conditions. -/
namespace Go.Proofs.Ytkkopnhbafjnaaa.Ex
set_option linter.unusedVariables false
mutual
/-- Are two trees equal in all fields? -/
def T.eqb : T → T → Bool
  | .node k t n l ks, b => (k == b.kind && t.data.toList == b.text.data.toList && n == b.num && l == b.line) && eqbs ks b.kids
def eqbs : List T → List T → Bool
  | [], [] => true
  | x :: r, y :: q => x.eqb y && eqbs r q
  | [], _ :: _ => false
  | _ :: _, [] => false
end
theorem eqb_eq (a b : T) : a.eqb b = ((a.kind == b.kind && a.text.data.toList == b.text.data.toList && a.num == b.num && a.line == b.line) && eqbs a.kids b.kids) := by cases a; rw [T.eqb]; rfl
theorem eqbs_len : ∀ {l q : List T}, l.length ≠ q.length → eqbs l q = false := by
  intro l
  induction l with
  | nil => intro q h; cases q with
    | nil => exact absurd rfl h
    | cons y q => rw [eqbs]
  | cons x l ih =>
    intro q h
    cases q with
    | nil => rw [eqbs]
    | cons y q =>
      rw [eqbs, ih (by simpa using h)]
      simp
/-- Where the comparison of two lists of one length stands. -/
def EqTo (l q : List T) (k : Nat) : Prop := eqbs l q = eqbs (l.drop k) (q.drop k)
theorem EqTo.start (l q : List T) : EqTo l q 0 := rfl
theorem EqTo.next {l q : List T} {k : Nat} (h : EqTo l q k) (h1 : k < l.length) (h2 : k < q.length) (he : l[k].eqb q[k] = true) : EqTo l q (k + 1) := by
  unfold EqTo at h ⊢
  rw [h, List.drop_eq_getElem_cons h1, List.drop_eq_getElem_cons h2, eqbs, he, Bool.true_and]
theorem EqTo.no {l q : List T} {k : Nat} (h : EqTo l q k) (h1 : k < l.length) (h2 : k < q.length) (he : l[k].eqb q[k] = false) : eqbs l q = false := by
  unfold EqTo at h
  rw [h, List.drop_eq_getElem_cons h1, List.drop_eq_getElem_cons h2, eqbs, he, Bool.false_and]
theorem EqTo.over {l q : List T} (h : EqTo l q l.length) (hl : l.length = q.length) : eqbs l q = true := by
  unfold EqTo at h
  rw [h, List.drop_length, hl, List.drop_length, eqbs]
end Go.Proofs.Ytkkopnhbafjnaaa.Ex
/- EqualExpr of the reference model: its walk. No conditions. -/
namespace Go.Proofs.Ytkkopnhbafjnaaa
open Go.RowKit
set_option linter.unusedVariables false

def EqxT (a : Ex.T) : Prop := a.bulk ≤ 1048576 → ∀ (b : Ex.T), b.bulk ≤ 1048576 → ∀ (w : World) (v1 v2 : Value), Kids w v1 a.kids → Kids w v2 b.kids → Calls Try.prog 28 #[exV a v1, exV b v2] w fun e w' => e = .returned (.bool (a.eqb b)) ∧ Below w.heap.size w w'
theorem ret_bool {a b : Bool} (h : b = a) : Ending.returned (.bool a) = .returned (.bool b) := by rw [h]
theorem neqb {α : Type} [BEq α] [LawfulBEq α] {a b : α} (h : a ≠ b) : (a != b) = true := by simpa using h
set_option maxRecDepth 100000 in
set_option maxHeartbeats 3200000 in
theorem spec_equal : ∀ (N : Nat) (a : Ex.T), a.count ≤ N → EqxT a := by
  intro N
  induction N with
  | zero => intro t h; have := Ex.count_pos t; omega
  | succ N ih =>
    intro a hN hb b hb2 w v1 v2 h1 h2
    have hbe := bulk_eq a
    have hbe2 := bulk_eq b
    have hbl : b.kids.length ≤ 1048576 := by omega
    have HE := Lib.hid (Ex.eqb_eq a b)
    obtain ⟨a1, c1, rfl⟩ := kids_len h1
    obtain ⟨a2, c2, rfl⟩ := kids_len h2
    have hln : a.kids.length ≤ 1048576 := by omega
    by_cases hk : a.kind = b.kind
    · by_cases ht : a.text.data.toList = b.text.data.toList
      · by_cases hn : a.num = b.num
        · by_cases hl : a.line = b.line
          · by_cases hz : a.kids.length = b.kids.length
            · have HV : Hid (a.eqb b = Ex.eqbs a.kids b.kids) := Lib.hid (by rw [HE.out, hk, ht, hn, hl]; simp)
              have u2 : a.text.toList = b.text.toList := by rw [ByteArray.toList_eq, ByteArray.toList_eq, ht]
              have HI := Lib.hid (fun (x : Ex.T) (hx : x ∈ a.kids) => ih x (by have := kids_count hx; omega) (by have := Ex.bulks_mem hx; omega))
              have H1 : Hid (Kids w (.slice a1 b.kids.length c1) a.kids) := Lib.hid (hz ▸ h1)
              have H2 := Lib.hid h2
              have HZ := Lib.hid hz
              have HBB := Lib.hid (fun (x : Ex.T) (hx : x ∈ b.kids) => (show x.bulk ≤ 1048576 by have := Ex.bulks_mem hx; omega))
              clear ih hN hb hb2 h1 h2 HE hbe hbe2 ht hln
              rw [hz]
              clear hz
              have hk2 : (a.kind != b.kind) = false := by rw [hk]; simp
              have hn2 : (a.num != b.num) = false := by rw [hn]; simp
              have hl2 : (a.line != b.line) = false := by rw [hl]; simp
              clear hk hn hl
              go_enter Try.func28, Try.ntmps28
              go_wp2
              go_loopw [4, 5] (fun _ i wr => ∃ k : Nat, i = .int .i64 k ∧ k ≤ b.kids.length ∧ Ex.EqTo a.kids b.kids k ∧ (wr.cell? ⟨w.heap.size, 4, none⟩ = some (.slice a1 b.kids.length c1) ∧ wr.cell? ⟨w.heap.size + 1, 4, none⟩ = some (.slice a2 b.kids.length c2)) ∧ w.heap.size + 2 ≤ wr.heap.size ∧ Below w.heap.size w wr) (fun _ i _ => b.kids.length - (intOf i).toNat)
              case atStart => exact ⟨0, rfl, Nat.zero_le _, Ex.EqTo.start _ _, ⟨by go_simp, by go_simp⟩, by simp, bl2 _ _ _⟩
              case round =>
                obtain ⟨k, rfl, hkk, hat, ⟨d1, d2⟩, hsz, hbw⟩ := hrel
                have HAT := Lib.hid hat
                have HB := Lib.hid hbw
                have HK1 := Lib.hid (H1.out.later hbw)
                have HK2 := Lib.hid (H2.out.later hbw)
                clear hat hbw
                by_cases hlt : k < b.kids.length
                · have hla : k < a.kids.length := by rw [HZ.out]; exact hlt
                  obtain ⟨g1, o1, rfl, ht1⟩ := kids_at HK1.out k hla
                  obtain ⟨g2, o2, rfl, ht2⟩ := kids_at HK2.out k hlt
                  obtain ⟨⟨q0, q1, q2, q3⟩, v1, q4, hk1⟩ := tree_cells ht1
                  obtain ⟨⟨p0, p1, p2, p3⟩, v2, p4, hk2⟩ := tree_cells ht2
                  have HC := Lib.hid (fun W hW => HI.out a.kids[k] (List.getElem_mem hla) b.kids[k] (HBB.out _ (List.getElem_mem hlt)) W v1 v2 (hk1.later hW) (hk2.later hW))
                  have HNX := Lib.hid (fun he => HAT.out.next hla hlt he)
                  have HNO := Lib.hid (fun he => HAT.out.no hla hlt he)
                  have k0 : (0 : Int) ≤ k := by omega
                  have k1 : (k : Int) < b.kids.length := by omega
                  clear ht1 ht2 hk1 hk2 HAT
                  generalize a.kids[k] = x at q0 q1 q2 q3 HC HNX HNO
                  generalize b.kids[k] = y at p0 p1 p2 p3 HC HNX HNO
                  go_wp2_with fail
                  go_still_tail 10, (by kernel_rfl)
                  change wpList _ _ _ _ _ wr.drew
                  have HC2 := Lib.hid (HC.out wr.drew ((Below.refl _ _).drew))
                  have HB2 := Lib.hid HB.out.drew
                  have D1 : Hid (wr.drew.cell? ⟨w.heap.size, 4, none⟩ = some (.slice (some ⟨g1, o1, none⟩) b.kids.length c1)) := Lib.hid d1
                  have D2 : Hid (wr.drew.cell? ⟨w.heap.size + 1, 4, none⟩ = some (.slice (some ⟨g2, o2, none⟩) b.kids.length c2)) := Lib.hid d2
                  have hsz2 : w.heap.size + 2 ≤ wr.drew.heap.size := hsz
                  clear q0 q1 q2 q3 q4 p0 p1 p2 p3 p4 HK1 HK2 HB HC d1 d2 hsz
                  generalize wr.drew = w5 at HC2 HB2 D1 D2 hsz2 ⊢
                  cases he : x.eqb y
                  · have HN := Lib.hid (HNO.out he)
                    rw [he] at HC2
                    clear he HNO HNX
                    go_wp2_with (go_at_call 28; refine HC2.out.mono ?_; rintro e w6 ⟨rfl, hb6⟩; have HB6 := Lib.hid (below_then HB2.out hb6); clear hb6)
                    go_ret
                    exact ⟨ret_bool (by rw [HV.out, HN.out]), HB6.out⟩
                  · have HN := Lib.hid (HNX.out he)
                    rw [he] at HC2
                    clear he HNO HNX
                    go_wp2_with (go_at_call 28; refine HC2.out.mono ?_; rintro e w6 ⟨rfl, hb6⟩; have HB6 := Lib.hid (below_then HB2.out hb6); have E1 := Lib.hid (subw_below hb6 _ _ _ D1.out); have E2 := Lib.hid (subw_below hb6 _ _ _ D2.out); have hs6 := Nat.le_trans hsz2 hb6.size; clear hb6)
                    go_roundw
                    case rel => exact ⟨k + 1, by go_num, by omega, HN.out, ⟨E1.out, E2.out⟩, hs6, HB6.out⟩
                    case measure => first | (simp [intOf]; done) | (simp [intOf]; omega)
                · obtain rfl : k = b.kids.length := by omega
                  have HN := Lib.hid (Ex.EqTo.over (HZ.out.symm ▸ HAT.out) HZ.out)
                  go_wp2
                  go_ret
                  exact ⟨ret_bool (by rw [HV.out, HN.out]), HB.out⟩
            · have HV : Hid (a.eqb b = false) := Lib.hid (by rw [HE.out, Ex.eqbs_len hz]; simp)
              have u5 : ((a.kids.length : Int) != b.kids.length) = true := neqb (by omega)
              have u2 : a.text.toList = b.text.toList := by rw [ByteArray.toList_eq, ByteArray.toList_eq, ht]
              clear ih hN hb hb2 h1 h2 HE hbe hbe2 ht hz
              go_enter Try.func28, Try.ntmps28
              go_wp2
              go_ret
              exact ⟨ret_bool HV.out, bl2 _ _ _⟩
          · have HV : Hid (a.eqb b = false) := Lib.hid (by rw [HE.out, beq_eq_false_iff_ne.2 hl]; simp)
            have u4 := neqb hl
            have u2 : a.text.toList = b.text.toList := by rw [ByteArray.toList_eq, ByteArray.toList_eq, ht]
            clear ih hN hb hb2 h1 h2 HE hbe hbe2 ht hl
            go_enter Try.func28, Try.ntmps28
            go_wp2
            go_ret
            exact ⟨ret_bool HV.out, bl2 _ _ _⟩
        · have HV : Hid (a.eqb b = false) := Lib.hid (by rw [HE.out, beq_eq_false_iff_ne.2 hn]; simp)
          have u4 := neqb hn
          have u2 : a.text.toList = b.text.toList := by rw [ByteArray.toList_eq, ByteArray.toList_eq, ht]
          clear ih hN hb hb2 h1 h2 HE hbe hbe2 ht hn
          go_enter Try.func28, Try.ntmps28
          go_wp2
          go_ret
          exact ⟨ret_bool HV.out, bl2 _ _ _⟩
      · have HV : Hid (a.eqb b = false) := Lib.hid (by rw [HE.out, beq_eq_false_iff_ne.2 ht]; simp)
        have u2 : (a.text.toList == b.text.toList) = false := beq_eq_false_iff_ne.2 (by rw [ByteArray.toList_eq, ByteArray.toList_eq]; exact ht)
        have u3 : ¬ a.text.toList = b.text.toList := by rw [ByteArray.toList_eq, ByteArray.toList_eq]; exact ht
        clear ih hN hb hb2 h1 h2 HE hbe hbe2 ht
        go_enter Try.func28, Try.ntmps28
        go_wp2
        go_ret
        exact ⟨ret_bool HV.out, bl2 _ _ _⟩
    · have HV : Hid (a.eqb b = false) := Lib.hid (by rw [HE.out, beq_eq_false_iff_ne.2 hk]; simp)
      have u1 := neqb hk
      clear ih hN hb hb2 h1 h2 HE hbe hbe2 hk
      go_enter Try.func28, Try.ntmps28
      go_wp2
      go_ret
      exact ⟨ret_bool HV.out, bl2 _ _ _⟩
end Go.Proofs.Ytkkopnhbafjnaaa
