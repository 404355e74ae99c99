/- EqualExpr of the reference model: its walk. No conditions. -/
import Derived.Test.YtkkopnhbafjnaaaG10
namespace Go.Proofs.Ytkkopnhbafjnaaa
open Go.RowKit
set_option linter.unusedVariables false

def EqxT (a : Ex.T) : Prop := a.bulk ≤ 1048576 → ∀ (b : Ex.T), b.bulk ≤ 1048576 → ∀ (w : World) (v1 v2 : Value), Kids w v1 a.kids → Kids w v2 b.kids → Calls Try.prog 28 #[exV a v1, exV b v2] w fun e w' => e = .returned (.bool (a.eqb b)) ∧ Below w.heap.size w w'
theorem ret_bool {a b : Bool} (h : b = a) : Ending.returned (.bool a) = .returned (.bool b) := by rw [h]
theorem neqb {α : Type} [BEq α] [LawfulBEq α] {a b : α} (h : a ≠ b) : (a != b) = true := by simpa using h
set_option maxRecDepth 100000 in
set_option maxHeartbeats 3200000 in
theorem spec_equal : ∀ (N : Nat) (a : Ex.T), a.count ≤ N → EqxT a := by
  intro N
  induction N with
  | zero => intro t h; have := Ex.count_pos t; omega
  | succ N ih =>
    intro a hN hb b hb2 w v1 v2 h1 h2
    have hbe := bulk_eq a
    have hbe2 := bulk_eq b
    have hbl : b.kids.length ≤ 1048576 := by omega
    have HE := Lib.hid (Ex.eqb_eq a b)
    obtain ⟨a1, c1, rfl⟩ := kids_len h1
    obtain ⟨a2, c2, rfl⟩ := kids_len h2
    have hln : a.kids.length ≤ 1048576 := by omega
    by_cases hk : a.kind = b.kind
    · by_cases ht : a.text.data.toList = b.text.data.toList
      · by_cases hn : a.num = b.num
        · by_cases hl : a.line = b.line
          · by_cases hz : a.kids.length = b.kids.length
            · have HV : Hid (a.eqb b = Ex.eqbs a.kids b.kids) := Lib.hid (by rw [HE.out, hk, ht, hn, hl]; simp)
              have u2 : a.text.toList = b.text.toList := by rw [ByteArray.toList_eq, ByteArray.toList_eq, ht]
              have HI := Lib.hid (fun (x : Ex.T) (hx : x ∈ a.kids) => ih x (by have := kids_count hx; omega) (by have := Ex.bulks_mem hx; omega))
              have H1 : Hid (Kids w (.slice a1 b.kids.length c1) a.kids) := Lib.hid (hz ▸ h1)
              have H2 := Lib.hid h2
              have HZ := Lib.hid hz
              have HBB := Lib.hid (fun (x : Ex.T) (hx : x ∈ b.kids) => (show x.bulk ≤ 1048576 by have := Ex.bulks_mem hx; omega))
              clear ih hN hb hb2 h1 h2 HE hbe hbe2 ht hln
              rw [hz]
              clear hz
              have hk2 : (a.kind != b.kind) = false := by rw [hk]; simp
              have hn2 : (a.num != b.num) = false := by rw [hn]; simp
              have hl2 : (a.line != b.line) = false := by rw [hl]; simp
              clear hk hn hl
              go_enter Try.func28, Try.ntmps28
              go_wp2
              go_loopw [4, 5] (fun _ i wr => ∃ k : Nat, i = .int .i64 k ∧ k ≤ b.kids.length ∧ Ex.EqTo a.kids b.kids k ∧ (wr.cell? ⟨w.heap.size, 4, none⟩ = some (.slice a1 b.kids.length c1) ∧ wr.cell? ⟨w.heap.size + 1, 4, none⟩ = some (.slice a2 b.kids.length c2)) ∧ w.heap.size + 2 ≤ wr.heap.size ∧ Below w.heap.size w wr) (fun _ i _ => b.kids.length - (intOf i).toNat)
              case atStart => exact ⟨0, rfl, Nat.zero_le _, Ex.EqTo.start _ _, ⟨by go_simp, by go_simp⟩, by simp, bl2 _ _ _⟩
              case round =>
                obtain ⟨k, rfl, hkk, hat, ⟨d1, d2⟩, hsz, hbw⟩ := hrel
                have HAT := Lib.hid hat
                have HB := Lib.hid hbw
                have HK1 := Lib.hid (H1.out.later hbw)
                have HK2 := Lib.hid (H2.out.later hbw)
                clear hat hbw
                by_cases hlt : k < b.kids.length
                · have hla : k < a.kids.length := by rw [HZ.out]; exact hlt
                  obtain ⟨g1, o1, rfl, ht1⟩ := kids_at HK1.out k hla
                  obtain ⟨g2, o2, rfl, ht2⟩ := kids_at HK2.out k hlt
                  obtain ⟨⟨q0, q1, q2, q3⟩, v1, q4, hk1⟩ := tree_cells ht1
                  obtain ⟨⟨p0, p1, p2, p3⟩, v2, p4, hk2⟩ := tree_cells ht2
                  have HC := Lib.hid (fun W hW => HI.out a.kids[k] (List.getElem_mem hla) b.kids[k] (HBB.out _ (List.getElem_mem hlt)) W v1 v2 (hk1.later hW) (hk2.later hW))
                  have HNX := Lib.hid (fun he => HAT.out.next hla hlt he)
                  have HNO := Lib.hid (fun he => HAT.out.no hla hlt he)
                  have k0 : (0 : Int) ≤ k := by omega
                  have k1 : (k : Int) < b.kids.length := by omega
                  clear ht1 ht2 hk1 hk2 HAT
                  generalize a.kids[k] = x at q0 q1 q2 q3 HC HNX HNO
                  generalize b.kids[k] = y at p0 p1 p2 p3 HC HNX HNO
                  go_wp2_with fail
                  go_still_tail 10, (by kernel_rfl)
                  change wpList _ _ _ _ _ wr.drew
                  have HC2 := Lib.hid (HC.out wr.drew ((Below.refl _ _).drew))
                  have HB2 := Lib.hid HB.out.drew
                  have D1 : Hid (wr.drew.cell? ⟨w.heap.size, 4, none⟩ = some (.slice (some ⟨g1, o1, none⟩) b.kids.length c1)) := Lib.hid d1
                  have D2 : Hid (wr.drew.cell? ⟨w.heap.size + 1, 4, none⟩ = some (.slice (some ⟨g2, o2, none⟩) b.kids.length c2)) := Lib.hid d2
                  have hsz2 : w.heap.size + 2 ≤ wr.drew.heap.size := hsz
                  clear q0 q1 q2 q3 q4 p0 p1 p2 p3 p4 HK1 HK2 HB HC d1 d2 hsz
                  generalize wr.drew = w5 at HC2 HB2 D1 D2 hsz2 ⊢
                  cases he : x.eqb y
                  · have HN := Lib.hid (HNO.out he)
                    rw [he] at HC2
                    clear he HNO HNX
                    go_wp2_with (go_at_call 28; refine HC2.out.mono ?_; rintro e w6 ⟨rfl, hb6⟩; have HB6 := Lib.hid (below_then HB2.out hb6); clear hb6)
                    go_ret
                    exact ⟨ret_bool (by rw [HV.out, HN.out]), HB6.out⟩
                  · have HN := Lib.hid (HNX.out he)
                    rw [he] at HC2
                    clear he HNO HNX
                    go_wp2_with (go_at_call 28; refine HC2.out.mono ?_; rintro e w6 ⟨rfl, hb6⟩; have HB6 := Lib.hid (below_then HB2.out hb6); have E1 := Lib.hid (subw_below hb6 _ _ _ D1.out); have E2 := Lib.hid (subw_below hb6 _ _ _ D2.out); have hs6 := Nat.le_trans hsz2 hb6.size; clear hb6)
                    go_roundw
                    case rel => exact ⟨k + 1, by go_num, by omega, HN.out, ⟨E1.out, E2.out⟩, hs6, HB6.out⟩
                    case measure => first | (simp [intOf]; done) | (simp [intOf]; omega)
                · obtain rfl : k = b.kids.length := by omega
                  have HN := Lib.hid (Ex.EqTo.over (HZ.out.symm ▸ HAT.out) HZ.out)
                  go_wp2
                  go_ret
                  exact ⟨ret_bool (by rw [HV.out, HN.out]), HB.out⟩
            · have HV : Hid (a.eqb b = false) := Lib.hid (by rw [HE.out, Ex.eqbs_len hz]; simp)
              have u5 : ((a.kids.length : Int) != b.kids.length) = true := neqb (by omega)
              have u2 : a.text.toList = b.text.toList := by rw [ByteArray.toList_eq, ByteArray.toList_eq, ht]
              clear ih hN hb hb2 h1 h2 HE hbe hbe2 ht hz
              go_enter Try.func28, Try.ntmps28
              go_wp2
              go_ret
              exact ⟨ret_bool HV.out, bl2 _ _ _⟩
          · have HV : Hid (a.eqb b = false) := Lib.hid (by rw [HE.out, beq_eq_false_iff_ne.2 hl]; simp)
            have u4 := neqb hl
            have u2 : a.text.toList = b.text.toList := by rw [ByteArray.toList_eq, ByteArray.toList_eq, ht]
            clear ih hN hb hb2 h1 h2 HE hbe hbe2 ht hl
            go_enter Try.func28, Try.ntmps28
            go_wp2
            go_ret
            exact ⟨ret_bool HV.out, bl2 _ _ _⟩
        · have HV : Hid (a.eqb b = false) := Lib.hid (by rw [HE.out, beq_eq_false_iff_ne.2 hn]; simp)
          have u4 := neqb hn
          have u2 : a.text.toList = b.text.toList := by rw [ByteArray.toList_eq, ByteArray.toList_eq, ht]
          clear ih hN hb hb2 h1 h2 HE hbe hbe2 ht hn
          go_enter Try.func28, Try.ntmps28
          go_wp2
          go_ret
          exact ⟨ret_bool HV.out, bl2 _ _ _⟩
      · have HV : Hid (a.eqb b = false) := Lib.hid (by rw [HE.out, beq_eq_false_iff_ne.2 ht]; simp)
        have u2 : (a.text.toList == b.text.toList) = false := beq_eq_false_iff_ne.2 (by rw [ByteArray.toList_eq, ByteArray.toList_eq]; exact ht)
        have u3 : ¬ a.text.toList = b.text.toList := by rw [ByteArray.toList_eq, ByteArray.toList_eq]; exact ht
        clear ih hN hb hb2 h1 h2 HE hbe hbe2 ht
        go_enter Try.func28, Try.ntmps28
        go_wp2
        go_ret
        exact ⟨ret_bool HV.out, bl2 _ _ _⟩
    · have HV : Hid (a.eqb b = false) := Lib.hid (by rw [HE.out, beq_eq_false_iff_ne.2 hk]; simp)
      have u1 := neqb hk
      clear ih hN hb hb2 h1 h2 HE hbe hbe2 hk
      go_enter Try.func28, Try.ntmps28
      go_wp2
      go_ret
      exact ⟨ret_bool HV.out, bl2 _ _ _⟩
end Go.Proofs.Ytkkopnhbafjnaaa
