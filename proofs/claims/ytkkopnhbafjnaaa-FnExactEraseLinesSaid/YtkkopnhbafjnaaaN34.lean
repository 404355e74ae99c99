/- The walk of the law on EraseLines: its steps. No conditions. -/
import Derived.Test.YtkkopnhbafjnaaaN33
namespace Go.Proofs.Ytkkopnhbafjnaaa
open Go.RowKit
set_option linter.unusedVariables false

abbrev MadeE (W : World) (t : Ex.T) (e : Ending) (w' : World) : Prop := ∃ v F, e = .returned (exV t v) ∧ OwnK w' v t.kids F ∧ Foot W.heap.size w' F ∧ Below W.heap.size W w'
set_option maxRecDepth 100000 in
set_option maxHeartbeats 6400000 in
theorem erase_law1 (t : Ex.T) (v : Value) (hok : t.Ok) (w : World) (hk : Kids w v t.kids) (hb : t.bulk ≤ 1048576) : Calls Try.prog 10 #[exV t v] w fun e w' => e = .returned (.bool true) ∧ Below w.heap.size w w' := by
  have HSZ := Lib.hid (fun W hW => sz_tree _ t (Nat.le_refl _) hok W v 1048576 (hk.later hW) (by decide))
  rw [szR_yes hb] at HSZ
  have hl1 : decide (((1048576 - t.bulk : Nat) : Int) < 0) = false := decide_eq_false (by omega)
  generalize ((1048576 - t.bulk : Nat) : Int) = left at HSZ hl1
  have hbt : t.erase.bulk ≤ 1048576 := by rw [erase_bulk]; exact hb
  have HTO : Hid (∀ W, Below w.heap.size w W → Calls Try.prog 25 #[exV t v] W (MadeE W t)) := Lib.hid (fun W hW => to_tree _ t (Nat.le_refl _) hb W v (hk.later hW))
  have HSE : Hid (∀ W v1, Kids W v1 t.kids → Calls Try.prog 29 #[exV t v1] W (MadeE W t.erase)) := Lib.hid (fun W v1 h1 => spec_erase _ t (Nat.le_refl _) hb W v1 h1)
  have HIE : Hid (∀ W v1, Kids W v1 t.kids → Calls Try.prog 13 #[exV t v1] W (MadeE W t.erase)) := Lib.hid (fun W v1 h1 => impl_erase t hb W v1 h1)
  have HEX := Lib.hid (fun W v1 v2 h1 h2 => eq_tree _ t (Nat.le_refl _) hb W v1 v2 h1 h2)
  have HEW := Lib.hid (fun W v1 v2 h1 h2 => eq_tree _ t.erase (Nat.le_refl _) hbt W v1 v2 h1 h2)
  have HMX := Lib.hid (fun W v F h1 h2 => mark_tree t hb v F W h1 h2)
  have HMG := Lib.hid (fun W v F h1 h2 => mark_tree t.erase hbt v F W h1 h2)
  have HHG := Lib.hid (fun W v h1 => held_tree t.erase hbt v W h1)
  have hcs := small_count hb
  have hce := count_eq t
  have hkc : 1 + 4 * Ex.counts t.erase.kids ≤ 8000000 := by rw [Ex.erase_kids, erases_count]; omega
  have hkx : 1 + 4 * Ex.counts t.kids ≤ 8000000 := by omega
  obtain ⟨mX, hmX⟩ : ∃ m, 1 + 4 * Ex.counts t.kids = m := ⟨_, rfl⟩
  obtain ⟨mG, hmG⟩ : ∃ m, 1 + 4 * Ex.counts t.erase.kids = m := ⟨_, rfl⟩
  rw [hmX] at HMX hkx
  rw [hmG] at HMG HHG hkc
  obtain ⟨a, c, rfl⟩ := kids_len hk
  have HV0 := Lib.hid (CellsE.new w t (.slice a t.kids.length c) 36)
  have hlx : t.erase.kids.length = t.kids.length := by rw [Ex.erase_kids, erases_len]
  clear hok hk hb hbt hcs hce hmX hmG hlx
  generalize t.erase = te at HSE HIE HEW HMG HHG
  unfold MadeE at HTO HSE HIE
  go_enter Try.func10, Try.ntmps10
  go_wp2_with fail
  refine (HSZ.out _ (bl1 _ _)).mono ?_
  rintro e w1 ⟨rfl, b1⟩
  have B1 := Lib.hid (below_then (bl1 _ _) b1)
  have V1 := Lib.hid (HV0.out.later b1)
  obtain ⟨e0, e1, e2, e3, e4⟩ := V1.out
  clear b1 HSZ HV0
  go_wp2_with fail
  refine (HTO.out _ B1.out).mono ?_
  rintro e w2 ⟨v2, F2, rfl, o2, f2, b2⟩
  obtain ⟨z2, d2, rfl⟩ := kids_len (OwnK.kids _ o2)
  have K2 := Lib.hid (OwnK.kids _ o2)
  have B2 := Lib.hid (below_then B1.out b2)
  have V2 := Lib.hid (V1.out.later b2)
  clear e0 e1 e2 e3 e4 o2 f2 b2 V1 B1
  go_wp2_with fail
  refine (HSE.out _ _ K2.out).mono ?_
  rintro e w3 ⟨vW, FW, rfl, oW, fW, b3⟩
  obtain ⟨zW, dW, rfl⟩ := kids_len (OwnK.kids _ oW)
  have n3 := bl1 w3 (.cells #[.int .i64 te.kind, .string te.text, .int .i64 te.num, .int .i64 te.line, .slice zW te.kids.length dW] 26)
  have KW3 := Lib.hid (OwnK.later oW (fun b hb => (fW b hb).2) n3)
  have FWB := Lib.hid (fun b hb => (show w.heap.size < b ∧ b < w3.heap.size from ⟨by have h1 := (fW b hb).1; have h2 := cells_lt V2.out; omega, (fW b hb).2⟩))
  have B3 := Lib.hid (below_then (below_then B2.out b3) n3)
  have V3 := Lib.hid ((V2.out.later b3).later n3)
  have P4 := Lib.hid (CellsE.new w3 te (.slice zW te.kids.length dW) 26)
  have L4 := Lib.hid (show w.heap.size < w3.heap.size by have h2 := cells_lt V2.out; have := b3.size; omega)
  clear oW fW b3 n3 K2 B2 V2
  obtain ⟨e0, e1, e2, e3, e4⟩ := V3.out
  go_wp2_with fail
  refine (HTO.out _ B3.out).mono ?_
  rintro e w4 ⟨vX, FX, rfl, oX, fX, b4⟩
  obtain ⟨zX, dX, rfl⟩ := kids_len (OwnK.kids _ oX)
  have n4 := bl1 w4 (.cells #[.int .i64 t.kind, .string t.text, .int .i64 t.num, .int .i64 t.line, .slice zX t.kids.length dX] 26)
  have hsz3 : (w3.alloc (.cells #[.int .i64 te.kind, .string te.text, .int .i64 te.num, .int .i64 te.line, .slice zW te.kids.length dW] 26)).heap.size = w3.heap.size + 1 := by simp
  have KX4 := Lib.hid (OwnK.later oX (fun b hb => (fX b hb).2) n4)
  have FXB := Lib.hid (fun b hb => (show w3.heap.size < b ∧ b < w4.heap.size from ⟨by have h1 := (fX b hb).1; rw [hsz3] at h1; omega, (fX b hb).2⟩))
  have KW4 := Lib.hid (OwnK.later (OwnK.later KW3.out (fun b hb => by rw [hsz3]; have := (FWB.out b hb).2; omega) b4) (fun b hb => by have h1 := (FWB.out b hb).2; have h2 := b4.size; rw [hsz3] at h2; omega) n4)
  have B4 := Lib.hid (below_then (below_then B3.out b4) n4)
  have V4 := Lib.hid ((V3.out.later b4).later n4)
  have P44 := Lib.hid ((P4.out.later b4).later n4)
  have P5 := Lib.hid (CellsE.new w4 t (.slice zX t.kids.length dX) 26)
  have L5 := Lib.hid (show w3.heap.size < w4.heap.size by have h2 := b4.size; rw [hsz3] at h2; omega)
  clear oX fX b4 n4 hsz3 KW3 B3 V3 P4 e0 e1 e2 e3 e4
  obtain ⟨e0, e1, e2, e3, e4⟩ := P5.out
  go_wp2_with fail
  refine (HIE.out _ _ (OwnK.kids _ KX4.out)).mono ?_
  rintro e w5 ⟨vG, FG, rfl, oG, fG, b5⟩
  obtain ⟨zG, dG, rfl⟩ := kids_len (OwnK.kids _ oG)
  have n5 := bl1 w5 (.cells #[.int .i64 te.kind, .string te.text, .int .i64 te.num, .int .i64 te.line, .slice zG te.kids.length dG] 26)
  have hsz4 : (w4.alloc (.cells #[.int .i64 t.kind, .string t.text, .int .i64 t.num, .int .i64 t.line, .slice zX t.kids.length dX] 26)).heap.size = w4.heap.size + 1 := by simp
  have hsz5 : (w5.alloc (.cells #[.int .i64 te.kind, .string te.text, .int .i64 te.num, .int .i64 te.line, .slice zG te.kids.length dG] 26)).heap.size = w5.heap.size + 1 := by simp
  have h45 := b5.size
  rw [hsz4] at h45
  have EB5 : Hid (EB w t te (.slice a t.kids.length c) (.slice zW te.kids.length dW) (.slice zG te.kids.length dG) FW FG w3.heap.size w4.heap.size w5.heap.size te.kids (w5.alloc (.cells #[.int .i64 te.kind, .string te.text, .int .i64 te.num, .int .i64 te.line, .slice zG te.kids.length dG] 26))) := Lib.hid
    ⟨⟨(V4.out.later b5).later n5, (P44.out.later b5).later n5, CellsE.new w5 te _ _⟩,
      ⟨OwnK.later (OwnK.later KW4.out (fun b hb => by have h1 := (FWB.out b hb).2; have h2 := L5.out; rw [hsz4]; omega) b5) (fun b hb => by have h1 := (FWB.out b hb).2; have h2 := L5.out; omega) n5, OwnK.later oG (fun b hb => (fG b hb).2) n5⟩,
      below_then (below_then B4.out b5) n5, ⟨L4.out, L5.out, by omega, by rw [hsz5]; omega⟩, FWB.out, fun b hb => ⟨by have h1 := (fG b hb).1; rw [hsz4] at h1; omega, (fG b hb).2⟩⟩
  have KX5 := Lib.hid (OwnK.later (OwnK.later KX4.out (fun b hb => by have h1 := (FXB.out b hb).2; rw [hsz4]; omega) b5) (fun b hb => by have h1 := (FXB.out b hb).2; omega) n5)
  have P55 := Lib.hid ((P5.out.later b5).later n5)
  have FXS := Lib.hid (fun b hb => (show b < (w5.alloc (.cells #[.int .i64 te.kind, .string te.text, .int .i64 te.num, .int .i64 te.line, .slice zG te.kids.length dG] 26)).heap.size by have h1 := (FXB.out b hb).2; rw [hsz5]; omega))
  clear oG fG b5 n5 hsz4 hsz5 h45 KX4 KW4 B4 V4 P44 P5 e0 e1 e2 e3 e4
  obtain ⟨e0, e1, e2, e3, e4⟩ := EB5.out.1.2.2
  obtain ⟨f0, f1, f2, f3, f4⟩ := EB5.out.1.2.1
  go_wp2_with fail
  refine (HEW.out _ _ _ (OwnK.kids _ EB5.out.2.1.2) (OwnK.kids _ EB5.out.2.1.1)).mono ?_
  rintro e w6 ⟨rfl, b6⟩
  have EB6 := Lib.hid (EB5.out.later b6)
  have KX6 := Lib.hid (OwnK.later KX5.out FXS.out b6)
  have P56 := Lib.hid (P55.out.later b6)
  have FXS6 := Lib.hid (fun b hb => Nat.lt_of_lt_of_le (FXS.out b hb) b6.size)
  clear b6 EB5 KX5 P55 FXS e0 e1 e2 e3 e4 f0 f1 f2 f3 f4
  obtain ⟨e0, e1, e2, e3, e4⟩ := P56.out
  obtain ⟨f0, f1, f2, f3, f4⟩ := EB6.out.1.1
  go_wp2_with fail
  go_cut [31] (fun s6 wx => s6 = .bool false ∧ EB w t te (.slice a t.kids.length c) (.slice zW te.kids.length dW) (.slice zG te.kids.length dG) FW FG w3.heap.size w4.heap.size w5.heap.size te.kids wx ∧ (OwnK wx (.slice zX t.kids.length dX) t.kids FX ∧ CellsE wx w4.heap.size t (.slice zX t.kids.length dX)) ∧ ∀ b ∈ FX, b < wx.heap.size)
  case first =>
    go_region_with (first
      | (go_at_call 25; refine (HTO.out _ EB6.out.2.2.1.drew).mono ?_; rintro e w7 ⟨v7, F7, rfl, o7, g7, b7⟩; obtain ⟨z7, d7, rfl⟩ := kids_len (OwnK.kids _ o7); have K7 := Lib.hid (OwnK.kids _ o7); have bb7 : Below w6.heap.size w6 w7 := ⟨b7.os, b7.tape, b7.output, b7.size, b7.block⟩; have EB7 := Lib.hid (EB6.out.later bb7); have KX7 := Lib.hid (OwnK.later KX6.out FXS6.out bb7); have P57 := Lib.hid (P56.out.later bb7); have FXS7 := Lib.hid (fun b hb => Nat.lt_of_lt_of_le (FXS6.out b hb) bb7.size); obtain ⟨y0, y1, y2, y3, y4⟩ := P57.out; clear o7 g7 b7 bb7)
      | (go_at_call 26; refine (HEX.out _ _ _ (OwnK.kids _ KX7.out) K7.out).mono ?_; rintro e w8 ⟨rfl, b8⟩; have EB8 := Lib.hid (EB7.out.later b8); have KX8 := Lib.hid (OwnK.later KX7.out FXS7.out b8); have P58 := Lib.hid (P57.out.later b8); have FXS8 := Lib.hid (fun b hb => Nat.lt_of_lt_of_le (FXS7.out b hb) b8.size); clear b8))
    all_goals (go_wp2_with fail; go_meet; exact ⟨rfl, EB8.out, ⟨KX8.out, P58.out⟩, FXS8.out⟩)
  case rest =>
    obtain ⟨rfl, hEB, ⟨hKX, hP5⟩, hFX⟩ := hcut
    have EB9 := Lib.hid hEB
    have KX9 := Lib.hid hKX
    have P59 := Lib.hid hP5
    have FX9 := Lib.hid hFX
    clear hEB hKX hP5 hFX EB6 KX6 P56 FXS6 e0 e1 e2 e3 e4 f0 f1 f2 f3 f4
    obtain ⟨e0, e1, e2, e3, e4⟩ := P59.out
    go_wp2_with fail
    refine (HMX.out _ _ _ KX9.out FX9.out).mono ?_
    rintro e w10 ⟨rfl, _, on10⟩
    have EB10 := Lib.hid (EB9.out.only FXB.out on10)
    clear on10 EB9 KX9 P59 FX9 e0 e1 e2 e3 e4
    obtain ⟨e0, e1, e2, e3, e4⟩ := EB10.out.1.2.2
    obtain ⟨f0, f1, f2, f3, f4⟩ := EB10.out.1.2.1
    go_wp2_with fail
    refine (HEW.out _ _ _ (OwnK.kids _ EB10.out.2.1.2) (OwnK.kids _ EB10.out.2.1.1)).mono ?_
    rintro e w11 ⟨rfl, b11⟩
    have EB11 := Lib.hid (EB10.out.later b11)
    clear b11 EB10 e0 e1 e2 e3 e4 f0 f1 f2 f3 f4
    obtain ⟨e0, e1, e2, e3, e4⟩ := EB11.out.1.2.2
    go_wp2_with fail
    refine (HMG.out _ _ _ EB11.out.2.1.2 EB11.out.gbound).mono ?_
    rintro e w12 ⟨rfl, hk12, on12⟩
    have EB12 := Lib.hid (EB11.out.onlyG hk12 on12)
    clear hk12 on12 EB11 e0 e1 e2 e3 e4
    obtain ⟨e0, e1, e2, e3, e4⟩ := EB12.out.1.2.2
    go_wp2_with fail
    refine (HHG.out _ _ (OwnK.kids _ EB12.out.2.1.2)).mono ?_
    rintro e w13 ⟨rfl, b13⟩
    have EB13 := Lib.hid (EB12.out.later b13)
    clear b13 EB12 e0 e1 e2 e3 e4
    obtain ⟨e0, e1, e2, e3, e4⟩ := EB13.out.1.1
    go_wp2_with fail
    refine (HTO.out _ EB13.out.2.2.1).mono ?_
    rintro e w14 ⟨vH, FH, rfl, oH, fH, b14⟩
    obtain ⟨zH, dH, rfl⟩ := kids_len (OwnK.kids _ oH)
    have KH14 := Lib.hid (OwnK.kids _ oH)
    have EB14 := Lib.hid (EB13.out.later b14)
    clear oH fH b14 EB13 e0 e1 e2 e3 e4
    go_wp2_with fail
    refine (HIE.out _ _ KH14.out).mono ?_
    rintro e w15 ⟨vH, FH2, rfl, oH, fH, b15⟩
    obtain ⟨zH2, dH2, rfl⟩ := kids_len (OwnK.kids _ oH)
    have n15 := bl1 w15 (.cells #[.int .i64 te.kind, .string te.text, .int .i64 te.num, .int .i64 te.line, .slice zH2 te.kids.length dH2] 26)
    have KH15 := Lib.hid (Kids.later (OwnK.kids _ oH) n15)
    have EB15 := Lib.hid ((EB14.out.later b15).later n15)
    have P10 := Lib.hid (CellsE.new w15 te (.slice zH2 te.kids.length dH2) 26)
    clear oH fH b15 n15 EB14 KH14
    obtain ⟨f0, f1, f2, f3, f4⟩ := EB15.out.1.2.1
    go_wp2_with fail
    refine (HEW.out _ _ _ KH15.out (OwnK.kids _ EB15.out.2.1.1)).mono ?_
    rintro e w16 ⟨rfl, b16⟩
    have EB16 := Lib.hid (EB15.out.later b16)
    clear b16 EB15 KH15 P10 f0 f1 f2 f3 f4
    obtain ⟨e0, e1, e2, e3, e4⟩ := EB16.out.1.2.2
    go_wp2_with fail
    refine (HHG.out _ _ (OwnK.kids _ EB16.out.2.1.2)).mono ?_
    rintro e w17 ⟨rfl, b17⟩
    have EB17 := Lib.hid (EB16.out.later b17)
    clear b17 EB16 e0 e1 e2 e3 e4
    go_wp2
    go_ret
    exact ⟨rfl, EB17.out.2.2.1⟩
end Go.Proofs.Ytkkopnhbafjnaaa
