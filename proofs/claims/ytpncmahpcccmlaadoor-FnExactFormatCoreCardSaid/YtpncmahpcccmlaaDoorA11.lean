/- The program's FormatCore. The tables read as the program's text lays them. -/
import Derived.Test.YtpncmahpcccmlaaDoorA10
import Derived.Test.YtpncmahpcccmlaaDoorH9
namespace Go.Proofs.YtpncmahpcccmlaaDoor.Cr
open Go.RowKit
set_option linter.unusedVariables false

theorem body_step (ks : List Co.T) (k : Nat) (h : k < ks.length) : (Co.body ks k).length ≤ (Co.body ks (k + 1)).length := by
  by_cases h0 : k = 0
  · subst h0; rw [Co.body_zero]; simp
  · rw [← Co.body_next ks k h (by omega)]; simp only [List.length_append]; omega
theorem body_mono (ks : List Co.T) (k : Nat) : ∀ m, k ≤ m → m ≤ ks.length → (Co.body ks k).length ≤ (Co.body ks m).length := by
  intro m
  induction m with
  | zero => intro h _; obtain rfl : k = 0 := by omega
            exact Nat.le_refl _
  | succ m ih =>
    intro h h2
    rcases Nat.lt_or_ge m k with hm | hm
    · obtain rfl : k = m + 1 := by omega
      exact Nat.le_refl _
    · exact Nat.le_trans (ih hm (by omega)) (body_step ks m (by omega))
theorem body_le (ks : List Co.T) (k : Nat) (h : k ≤ ks.length) : (Co.body ks k).length ≤ (Co.inB (Co.forms ks)).length := by
  by_cases h0 : ks.length = 0
  · obtain rfl : k = 0 := by omega
    rw [Co.body_zero]; simp
  · have h1 := body_mono ks k ks.length h (Nat.le_refl _)
    have h2 := congrArg List.length (Co.body_all ks (by omega))
    rw [List.length_append] at h2
    omega
theorem BuilderAt.later {B b : Nat} {p : Value} {bs : List Value} {w w1 : World} (h : Lib.BuilderAt 120 5 B b p bs w) (hb : Below w.heap.size w w1) : Lib.BuilderAt 120 5 B b p bs w1 := by
  have hlt := h.lt
  obtain ⟨hB, v, hbk, hown, hne⟩ := h
  refine ⟨hB, v, (hb.block b hlt).trans hbk, ⟨hown.1, ?_⟩, hne⟩
  rcases hown.2 with hn | ⟨g, cap, cur, hv, hg, hgg, r⟩
  · exact .inl hn
  · exact .inr ⟨g, cap, cur, hv, hg, by rw [hb.block g (Array.getElem?_eq_some_iff.1 hgg).1]; exact hgg, r⟩
theorem BIs.later {B b : Nat} {l : List UInt8} {w w1 : World} (h : BIs B b l w) (hb : Below w.heap.size w w1) : BIs B b l w1 := by
  rcases h with h | h
  · exact .inl (BuilderAt.later h hb)
  · exact .inr (BuilderAt.later h hb)
theorem below_cut {w0 w w1 : World} (h : Below w0.heap.size w0 w) (hb : Below w.heap.size w w1) : Below w0.heap.size w0 w1 := below_then h hb
/-- Trees all of whose labels can be walked. -/
theorem labH_later {t : Co.T} {w w1 : World} (h : LabH t w) (hb : Below w.heap.size w w1) : LabH t w1 := ⟨h.ops.later hb, h.cor.later hb, h.txt, h.p0, h.p1, h.n0, h.n1⟩
def WrT (t : Co.T) (w0 : World) : Prop := ∀ (g o b : Nat) (pre : List UInt8) (w : World), TreeAt w0 g o t → BIs w0.heap.size b pre w → Below w0.heap.size w0 w → pre.length + t.form.length ≤ 200000000 →
  Calls Tryd.prog 66 #[.pointer (some ⟨b, 0, none⟩), .pointer (some ⟨g, o, none⟩)] w fun e w' => e = .returned (.tuple #[]) ∧ BIs w0.heap.size b (pre ++ t.form) w' ∧ Below w0.heap.size w0 w'
theorem write_at {B b : Nat} {l : List UInt8} (s : ByteArray) (m : List UInt8) (hm : l ++ s.data.toList = m) {w : World} (h : BIs B b l w) (hl : m.length ≤ 200000000) (hB : B ≤ w.heap.size) : Calls Tryd.prog 105 #[.pointer (some ⟨b, 0, none⟩), .string s] w fun e w' => e = .returned (.tuple #[.int .i64 s.size, .nilIface]) ∧ BIs B b m w' ∧ Below B w w' := by
  have hz : l.length + s.size ≤ 400000000 := by
    rw [← hm, List.length_append] at hl
    have : s.data.toList.length = s.size := rfl
    omega
  refine (write_any B b l s w h hz hB).mono ?_
  rintro e w1 ⟨he, h1, h2⟩
  rw [hm] at h1
  exact ⟨he, .inr h1, h2⟩
set_option maxRecDepth 100000 in
set_option maxHeartbeats 3200000 in
theorem write_step (t : Co.T) (w0 : World) (hI : ∀ x ∈ t.kids, WrT x w0) (hl : t.kids.length ≤ 1048576) (H : LabH t w0) : WrT t w0 := by
  intro g o b pre w ht hb hw hsz
  have hfe := Co.form_eq t
  have HL := Lib.hid (impl_label t w g o (ht.later hw) (labH_later H hw))
  unfold RetT at HL
  have hlab : pre.length + t.lab.length ≤ 200000000 := by rw [hfe, List.length_append] at hsz; omega
  have HW1 := Lib.hid (fun W (hW : BIs w0.heap.size b pre W) (hB : w0.heap.size ≤ W.heap.size) => write_at (str8 t.lab) (pre ++ t.lab) rfl hW (by rw [List.length_append]; exact hlab) hB)
  have HBL : Hid (∀ k, k ≤ t.kids.length → (pre ++ t.lab ++ Co.body t.kids k).length ≤ 200000000) := Lib.hid (fun k hk => by
    have := body_le t.kids k hk
    rw [hfe, List.length_append] at hsz
    rw [List.length_append, List.length_append]; omega)
  have HBA : Hid (0 < t.kids.length → pre ++ t.lab ++ Co.body t.kids t.kids.length ++ ([41] : List UInt8) = pre ++ t.form) := Lib.hid (fun h => by rw [hfe, List.append_assoc, Co.body_all t.kids h, List.append_assoc])
  have HB0 : Hid (t.kids.length = 0 → pre ++ t.lab ++ Co.body t.kids t.kids.length = pre ++ t.form) := Lib.hid (fun h => by rw [hfe, h, List.length_eq_zero_iff.1 h]; show pre ++ t.lab ++ [] = pre ++ (t.lab ++ []); simp)
  have HFL := Lib.hid hsz
  obtain ⟨⟨e0, e1, e2, e3, e4⟩, v, e5, hk⟩ := tree_cells ht
  obtain ⟨a, c, rfl⟩ := kids_len hk
  have HE5 : Hid (∀ W, Below w0.heap.size w0 W → W.cell? ⟨g, o + 5, none⟩ = some (.slice a t.kids.length c)) := Lib.hid (fun W hW => subw_below hW _ _ _ e5)
  have HK := Lib.hid hk
  have HI := Lib.hid hI
  have HLN := Lib.hid hl
  have HBI := Lib.hid hb
  have HW := Lib.hid hw
  clear hI hl H ht hb hw hsz hfe hlab e0 e1 e2 e3 e4 e5 hk
  go_enter Tryd.func66, Tryd.ntmps66
  go_wp2_with fail
  refine HL.out.mono ?_
  rintro e w1 ⟨rfl, b1⟩
  have B1 := Lib.hid (below_cut HW.out b1)
  have I1 := Lib.hid (HBI.out.later b1)
  clear b1 HL HBI HW
  go_wp2_with fail
  refine (HW1.out w1 I1.out B1.out.size).mono ?_
  rintro e w2 ⟨rfl, i2, b2⟩
  have B2 := Lib.hid (B1.out.trans b2)
  have I2 : Hid (BIs w0.heap.size b (pre ++ t.lab ++ Co.body t.kids 0) w2) := Lib.hid (by rw [Co.body_zero, List.append_nil]; exact i2)
  have q5 := HE5.out _ B2.out
  clear i2 b2 B1 I1 HW1
  go_wp2
  go_loopw [4, 14] (fun s4 i wr => ∃ k : Nat, i = .int .i64 k ∧ k ≤ t.kids.length ∧ BIs w0.heap.size b (pre ++ t.lab ++ Co.body t.kids k) wr ∧ Below w0.heap.size w0 wr) (fun _ i _ => t.kids.length - (intOf i).toNat)
  case atStart => exact ⟨0, rfl, Nat.zero_le _, I2.out, B2.out⟩
  case round =>
    clear q5 B2 I2
    obtain ⟨k, rfl, hk, hi, hb⟩ := hrel
    have I3 := Lib.hid hi
    have B3 := Lib.hid hb
    have q5 := HE5.out _ hb
    clear hi hb
    by_cases hlt : k < t.kids.length
    · have hlt' := hlt
      obtain ⟨g2, o2, rfl, htk⟩ := kids_at HK.out k hlt
      have hsz3 := B3.out.size
      have k0 : (0 : Int) ≤ k := by omega
      have k1 : (k : Int) < t.kids.length := by omega
      by_cases hk0 : k = 0
      · subst hk0
        have HWR : Hid (∀ W, BIs w0.heap.size b (pre ++ t.lab ++ ([40] : List UInt8)) W → Below w0.heap.size w0 W → Calls Tryd.prog 66 #[.pointer (some ⟨b, 0, none⟩), .pointer (some ⟨g2, o2, none⟩)] W fun e w' => e = .returned (.tuple #[]) ∧ BIs w0.heap.size b (pre ++ t.lab ++ Co.body t.kids 1) w' ∧ Below w0.heap.size w0 w') := Lib.hid (fun W hi hb => by
          have e9 : pre ++ t.lab ++ ([40] : List UInt8) ++ t.kids[0].form = pre ++ t.lab ++ Co.body t.kids 1 := by rw [← Co.body_first t.kids hlt, List.append_assoc]
          have h := HI.out t.kids[0] (List.getElem_mem hlt) g2 o2 b _ W (by simpa using htk) hi hb (by have := HBL.out 1 hlt; rw [← e9, List.length_append] at this; omega)
          rw [e9] at h
          exact h)
        have HWP := Lib.hid (write_at (⟨#[40]⟩ : ByteArray) (pre ++ t.lab ++ ([40] : List UInt8)) (by rw [Co.body_zero, List.append_nil]) I3.out (by have := HBL.out 1 hlt; rw [← Co.body_first t.kids hlt] at this; simp only [List.length_append, List.length_cons, List.length_nil] at this ⊢; omega) hsz3)
        have HLT := Lib.hid hlt
        clear htk hlt hlt'
        go_wp2_with fail
        refine HWP.out.mono ?_
        rintro e w3 ⟨rfl, i4, b4⟩
        have I4 := Lib.hid i4
        have B4 := Lib.hid (B3.out.trans b4)
        have q5' := HE5.out _ B4.out
        clear i4 b4 q5 I3 HWP
        go_wp2_with fail
        refine (HWR.out w3 I4.out B4.out).mono ?_
        rintro e w4 ⟨rfl, i5, b5⟩
        have I5 := Lib.hid i5
        have B5 := Lib.hid b5
        clear i5 b5 q5'
        go_wp2
        go_roundw
        case rel => exact ⟨0 + 1, by go_num, HLT.out, I5.out, B5.out⟩
        case measure => have := HLT.out; first | (simp [intOf]; done) | (simp [intOf]; omega)
      · have hk1 : 0 < k := by omega
        have hkn : (k : Int) ≤ 1048576 := by have := HLN.out; omega
        have bk : ((k : Int) == 0) = false := beq_eq_false_iff_ne.2 (by omega)
        have HWR : Hid (∀ W, BIs w0.heap.size b (pre ++ t.lab ++ Co.body t.kids k ++ ([44, 32] : List UInt8)) W → Below w0.heap.size w0 W → Calls Tryd.prog 66 #[.pointer (some ⟨b, 0, none⟩), .pointer (some ⟨g2, o2 + k * 6, none⟩)] W fun e w' => e = .returned (.tuple #[]) ∧ BIs w0.heap.size b (pre ++ t.lab ++ Co.body t.kids (k + 1)) w' ∧ Below w0.heap.size w0 w') := Lib.hid (fun W hi hb => by
          have e9 : pre ++ t.lab ++ Co.body t.kids k ++ ([44, 32] : List UInt8) ++ t.kids[k].form = pre ++ t.lab ++ Co.body t.kids (k + 1) := by rw [← Co.body_next t.kids k hlt hk1]; simp
          have h := HI.out t.kids[k] (List.getElem_mem hlt) g2 (o2 + k * 6) b _ W htk hi hb (by have := HBL.out (k + 1) hlt; rw [← e9, List.length_append] at this; omega)
          rw [e9] at h
          exact h)
        have HWP := Lib.hid (write_at (⟨#[44, 32]⟩ : ByteArray) (pre ++ t.lab ++ Co.body t.kids k ++ ([44, 32] : List UInt8)) rfl I3.out (by have := HBL.out (k + 1) hlt; rw [← Co.body_next t.kids k hlt hk1] at this; simp only [List.length_append] at this ⊢; omega) hsz3)
        have HLT := Lib.hid hlt
        clear htk hlt hlt' hk0 hk1
        go_wp2_with fail
        refine HWP.out.mono ?_
        rintro e w3 ⟨rfl, i4, b4⟩
        have I4 := Lib.hid i4
        have B4 := Lib.hid (B3.out.trans b4)
        have q5' := HE5.out _ B4.out
        clear i4 b4 q5 I3 HWP
        go_wp2_with fail
        refine (HWR.out w3 I4.out B4.out).mono ?_
        rintro e w4 ⟨rfl, i5, b5⟩
        have I5 := Lib.hid i5
        have B5 := Lib.hid b5
        clear i5 b5 q5'
        go_wp2
        go_roundw
        case rel => exact ⟨k + 1, by go_num, HLT.out, I5.out, B5.out⟩
        case measure => have := HLT.out; first | (simp [intOf]; done) | (simp [intOf]; omega)
    · obtain rfl : k = t.kids.length := by omega
      by_cases h0 : t.kids.length = 0
      · have HN := Lib.hid (HB0.out h0)
        have hnn : decide (0 < t.kids.length) = false := decide_eq_false (by omega)
        rw [HN.out] at I3
        clear h0
        go_wp2
        go_end0
        exact ⟨rfl, I3.out, B3.out⟩
      · have hp : 0 < t.kids.length := by omega
        have HN := Lib.hid (HBA.out hp)
        have hnn : decide (0 < t.kids.length) = true := decide_eq_true hp
        have HWP := Lib.hid (write_at (⟨#[41]⟩ : ByteArray) (pre ++ t.form) HN.out I3.out (by have := HFL.out; rw [List.length_append]; exact this) B3.out.size)
        clear h0 hp
        go_wp2_with fail
        refine HWP.out.mono ?_
        rintro e w3 ⟨rfl, i4, b4⟩
        have I4 := Lib.hid i4
        have B4 := Lib.hid (B3.out.trans b4)
        clear i4 b4
        go_wp2
        go_end0
        exact ⟨rfl, I4.out, B4.out⟩
end Go.Proofs.YtpncmahpcccmlaaDoor.Cr
