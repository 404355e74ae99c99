/- The walk of the law on EqualExpr. No conditions. -/
import Derived.Test.YtkkopnhbafjnaaaN6
import Derived.Test.YtkkopnhbafjnaaaG8
import Derived.Deep.DeepCutAuto
namespace Go.Proofs.Ytkkopnhbafjnaaa
open Go.RowKit
set_option linter.unusedVariables false

abbrev lexO (t : Ex.T) (v : Value) : Obj := .cells #[.int .i64 t.kind, .string t.text, .int .i64 t.num, .int .i64 t.line, v] 36
abbrev iexO (t : Ex.T) (v : Value) : Obj := .cells #[.int .i64 t.kind, .string t.text, .int .i64 t.num, .int .i64 t.line, v] 26
set_option maxRecDepth 100000 in
set_option maxHeartbeats 3200000 in
theorem equal_law1 (a b : Ex.T) (va vb : Value) (oka : a.Ok) (okb : b.Ok) (w : World) (hka : Kids w va a.kids) (hkb : Kids w vb b.kids) (ha : a.bulk ≤ 1048576) (hb : b.bulk ≤ 1048576 - a.bulk) : Calls Try.prog 9 #[exV a va, exV b vb] w fun e w' => e = .returned (.bool true) ∧ Below w.heap.size w w' := by
  have hb2 : b.bulk ≤ 1048576 := by omega
  have HSA := Lib.hid (fun W hW => sz_tree _ a (Nat.le_refl _) oka W va 1048576 (hka.later hW) (by decide))
  have HSB := Lib.hid (fun W hW => sz_tree _ b (Nat.le_refl _) okb W vb (1048576 - a.bulk) (hkb.later hW) (by omega))
  rw [szR_yes ha] at HSA
  rw [szR_yes hb] at HSB
  have l1 : decide (((1048576 - a.bulk : Nat) : Int) < 0) = false := decide_eq_false (by omega)
  have l2 : decide (((1048576 - a.bulk - b.bulk : Nat) : Int) < 0) = false := decide_eq_false (by omega)
  generalize ((1048576 - a.bulk - b.bulk : Nat) : Int) = left2 at HSB l2
  generalize ((1048576 - a.bulk : Nat) : Int) = left1 at HSA HSB l1
  have HTA := Lib.hid (fun W hW => to_tree _ a (Nat.le_refl _) ha W va (hka.later hW))
  have HTB := Lib.hid (fun W hW => to_tree _ b (Nat.le_refl _) hb2 W vb (hkb.later hW))
  unfold RetE at HTA HTB
  have HEA := Lib.hid (fun W v1 v2 h1 h2 => eq_tree _ a (Nat.le_refl _) ha W v1 v2 h1 h2)
  have HEB := Lib.hid (fun W v1 v2 h1 h2 => eq_tree _ b (Nat.le_refl _) hb2 W v1 v2 h1 h2)
  have HSP := Lib.hid (fun W v1 v2 h1 h2 => spec_equal _ a (Nat.le_refl _) ha b hb2 W v1 v2 h1 h2)
  have HIM := Lib.hid (fun W v1 v2 h1 h2 => impl_equal a b ha hb2 W v1 v2 h1 h2)
  generalize a.eqb b = r at HSP HIM
  obtain ⟨a1, c1, rfl⟩ := kids_len hka
  obtain ⟨a2, c2, rfl⟩ := kids_len hkb
  have HB0 := Lib.hid (bl2 w (lexO a (.slice a1 a.kids.length c1)) (lexO b (.slice a2 b.kids.length c2)))
  have VA := Lib.hid ((CellsE.new w a (.slice a1 a.kids.length c1) 36).later (bl1 (w.alloc (lexO a (.slice a1 a.kids.length c1))) (lexO b (.slice a2 b.kids.length c2))))
  have VB := CellsE.new (w.alloc (lexO a (.slice a1 a.kids.length c1))) b (.slice a2 b.kids.length c2) 36
  rw [World.size_alloc] at VB
  have VB := Lib.hid VB
  clear oka okb hka hkb ha hb hb2
  go_enter Try.func9, Try.ntmps9
  go_wp2_with fail
  refine (HSA.out _ HB0.out).mono ?_
  rintro e w1 ⟨rfl, b1⟩
  have B1 := Lib.hid (below_then HB0.out b1)
  have VA1 := Lib.hid (VA.out.later b1)
  have VB1 := Lib.hid (VB.out.later b1)
  obtain ⟨e0, e1, e2, e3, e4⟩ := VB1.out
  clear b1 HSA VA VB HB0
  go_wp2_with fail
  refine (HSB.out _ B1.out).mono ?_
  rintro e w2 ⟨rfl, b2⟩
  have B2 := Lib.hid (below_then B1.out b2)
  have VA2 := Lib.hid (VA1.out.later b2)
  have VB2 := Lib.hid (VB1.out.later b2)
  clear b2 HSB VA1 VB1 B1 e0 e1 e2 e3 e4
  obtain ⟨e0, e1, e2, e3, e4⟩ := VB2.out
  obtain ⟨f0, f1, f2, f3, f4⟩ := VA2.out
  go_wp2_with fail
  go_cut [6] (fun s6 wx => s6 = .bool r ∧ (CellsE wx w.heap.size a (.slice a1 a.kids.length c1) ∧ CellsE wx (w.heap.size + 1) b (.slice a2 b.kids.length c2)) ∧ Below w.heap.size w wx)
  case first =>
    go_region_with (first
      | (go_at_call 25; (with_reducible refine (HTA.out _ B2.out.drew).mono ?_); rintro e w6 ⟨v6, F6, rfl, o6, g6, b6⟩; obtain ⟨z6, d6, rfl⟩ := kids_len (OwnK.kids _ o6); have KA6 := Lib.hid (OwnK.kids _ o6); have BA6 := Lib.hid (below_then B2.out.drew b6); have VA6 := Lib.hid (VA2.out.later (w' := w6) ⟨b6.os, b6.tape, b6.output, b6.size, b6.block⟩); have VB6 := Lib.hid (VB2.out.later (w' := w6) ⟨b6.os, b6.tape, b6.output, b6.size, b6.block⟩); obtain ⟨y0, y1, y2, y3, y4⟩ := VB6.out; clear o6 g6 b6)
      | (go_at_call 25; (with_reducible refine (HTB.out _ BA6.out).mono ?_); rintro e w7 ⟨v7, F7, rfl, o7, g7, b7⟩; obtain ⟨z7, d7, rfl⟩ := kids_len (OwnK.kids _ o7); have KB7 := Lib.hid (OwnK.kids _ o7); have KA7 := Lib.hid (KA6.out.later b7); have B7 := Lib.hid (below_then BA6.out b7); have VA7 := Lib.hid (VA6.out.later b7); have VB7 := Lib.hid (VB6.out.later b7); clear o7 g7 b7)
      | (go_at_call 28; refine (HSP.out _ _ _ KA7.out KB7.out).mono ?_; rintro e w8 ⟨rfl, b8⟩; have B8 := Lib.hid (below_then B7.out b8); have VA8 := Lib.hid (VA7.out.later b8); have VB8 := Lib.hid (VB7.out.later b8); clear b8))
    all_goals (go_wp2_with fail; go_meet; exact ⟨rfl, ⟨VA8.out, VB8.out⟩, B8.out⟩)
  case rest =>
    obtain ⟨rfl, ⟨va2, vb2⟩, hb3⟩ := hcut
    have VA3 := Lib.hid va2
    have VB3 := Lib.hid vb2
    have B3 := Lib.hid hb3
    clear va2 vb2 hb3 VA2 VB2 B2 e0 e1 e2 e3 e4 f0 f1 f2 f3 f4
    obtain ⟨f0, f1, f2, f3, f4⟩ := VA3.out
    go_wp2_with fail
    refine (HTA.out _ B3.out).mono ?_
    rintro e w4 ⟨v4, F4, rfl, o4, g4, b4⟩
    obtain ⟨z4, d4, rfl⟩ := kids_len (OwnK.kids _ o4)
    have n4 := bl1 w4 (iexO a (.slice z4 a.kids.length d4))
    have KA4 := Lib.hid (Kids.later (OwnK.kids _ o4) n4)
    have B4 := Lib.hid (below_then (below_then B3.out b4) n4)
    have VA4 := Lib.hid ((VA3.out.later b4).later n4)
    have VB4 := Lib.hid ((VB3.out.later b4).later n4)
    have XA4 := Lib.hid (CellsE.new w4 a (.slice z4 a.kids.length d4) 26)
    clear f0 f1 f2 f3 f4 o4 g4 b4 n4 VA3 VB3 B3
    obtain ⟨e0, e1, e2, e3, e4⟩ := VB4.out
    go_wp2_with fail
    refine (HTB.out _ B4.out).mono ?_
    rintro e w5 ⟨v5, F5, rfl, o5, g5, b5⟩
    obtain ⟨z5, d5, rfl⟩ := kids_len (OwnK.kids _ o5)
    have n5 := bl1 w5 (iexO b (.slice z5 b.kids.length d5))
    have KA5 := Lib.hid ((KA4.out.later b5).later n5)
    have KB5 := Lib.hid (Kids.later (OwnK.kids _ o5) n5)
    have B5 := Lib.hid (below_then (below_then B4.out b5) n5)
    have VA5 := Lib.hid ((VA4.out.later b5).later n5)
    have VB5 := Lib.hid ((VB4.out.later b5).later n5)
    have XA5 := Lib.hid ((XA4.out.later b5).later n5)
    have XB5 := Lib.hid (CellsE.new w5 b (.slice z5 b.kids.length d5) 26)
    clear e0 e1 e2 e3 e4 o5 g5 b5 n5 VA4 VB4 B4 XA4 KA4
    obtain ⟨e0, e1, e2, e3, e4⟩ := XA5.out
    go_wp2_with fail
    refine (HIM.out _ _ _ KA5.out KB5.out).mono ?_
    rintro e w6 ⟨rfl, b6⟩
    have B6 := Lib.hid (below_then B5.out b6)
    have VA6 := Lib.hid (VA5.out.later b6)
    have VB6 := Lib.hid (VB5.out.later b6)
    have XA6 := Lib.hid (XA5.out.later b6)
    have XB6 := Lib.hid (XB5.out.later b6)
    have KA6 := Lib.hid (KA5.out.later b6)
    have KB6 := Lib.hid (KB5.out.later b6)
    clear e0 e1 e2 e3 e4 b6 B5 VA5 VB5 XA5 XB5 KA5 KB5
    obtain ⟨e0, e1, e2, e3, e4⟩ := XA6.out
    obtain ⟨f0, f1, f2, f3, f4⟩ := VA6.out
    go_wp2_with fail
    go_cut [39] (fun s6 wx => s6 = .bool false ∧ (CellsE wx (w.heap.size + 1) b (.slice a2 b.kids.length c2) ∧ CellsE wx w5.heap.size b (.slice z5 b.kids.length d5) ∧ Kids wx (.slice z5 b.kids.length d5) b.kids) ∧ Below w.heap.size w wx)
    case first =>
      go_region_with (first
        | (go_at_call 25; refine (HTA.out _ B6.out.drew).mono ?_; rintro e w7 ⟨v7, F7, rfl, o7, g7, b7⟩; obtain ⟨z7, d7, rfl⟩ := kids_len (OwnK.kids _ o7); have K7 := Lib.hid (OwnK.kids _ o7); have B7 := Lib.hid (below_then B6.out.drew b7); have bb7 : Below w6.heap.size w6 w7 := ⟨b7.os, b7.tape, b7.output, b7.size, b7.block⟩; have KA7 := Lib.hid (KA6.out.later bb7); have KB7 := Lib.hid (KB6.out.later bb7); have VB7 := Lib.hid (VB6.out.later bb7); have XB7 := Lib.hid (XB6.out.later bb7); obtain ⟨y0, y1, y2, y3, y4⟩ := XA6.out.later bb7; clear o7 g7 b7 bb7)
        | (go_at_call 26; refine (HEA.out _ _ _ KA7.out K7.out).mono ?_; rintro e w8 ⟨rfl, b8⟩; have B8 := Lib.hid (below_then B7.out b8); have KB8 := Lib.hid (KB7.out.later b8); have VB8 := Lib.hid (VB7.out.later b8); have XB8 := Lib.hid (XB7.out.later b8); clear b8))
      all_goals (go_wp2_with fail; go_meet; exact ⟨rfl, ⟨VB8.out, XB8.out, KB8.out⟩, B8.out⟩)
    case rest =>
      obtain ⟨rfl, ⟨vb, xb, kb⟩, hb3⟩ := hcut
      have VB9 := Lib.hid vb
      have XB9 := Lib.hid xb
      have KB9 := Lib.hid kb
      have B9 := Lib.hid hb3
      clear vb xb kb hb3 e0 e1 e2 e3 e4 f0 f1 f2 f3 f4 B6 VA6 VB6 XA6 XB6 KA6 KB6
      obtain ⟨e0, e1, e2, e3, e4⟩ := XB9.out
      obtain ⟨f0, f1, f2, f3, f4⟩ := VB9.out
      go_wp2_with fail
      go_region_with (first
        | (go_at_call 25; refine (HTB.out _ B9.out.drew).mono ?_; rintro e w7 ⟨v7, F7, rfl, o7, g7, b7⟩; obtain ⟨z7, d7, rfl⟩ := kids_len (OwnK.kids _ o7); have K7 := Lib.hid (OwnK.kids _ o7); have B7 := Lib.hid (below_then B9.out.drew b7); have bb7 : Below wc.heap.size wc w7 := ⟨b7.os, b7.tape, b7.output, b7.size, b7.block⟩; have KB7 := Lib.hid (KB9.out.later bb7); obtain ⟨y0, y1, y2, y3, y4⟩ := XB9.out.later bb7; clear o7 g7 b7 bb7)
        | (go_at_call 26; refine (HEB.out _ _ _ KB7.out K7.out).mono ?_; rintro e w8 ⟨rfl, b8⟩; have B8 := Lib.hid (below_then B7.out b8); clear b8))
      all_goals go_wp2
      all_goals go_ret
      all_goals exact ⟨rfl, B8.out⟩
end Go.Proofs.Ytkkopnhbafjnaaa
