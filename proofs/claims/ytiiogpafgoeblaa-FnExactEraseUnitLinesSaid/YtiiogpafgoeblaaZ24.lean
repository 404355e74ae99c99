/- Joined texts: U21, U22. No conditions besides those that each states. -/
import Derived.Deep.DeepCutAuto
import Derived.Test.YtiiogpafgoeblaaZ15
import Derived.Test.YtiiogpafgoeblaaZ16
import Derived.Test.YtiiogpafgoeblaaZ19
import Derived.Test.YtiiogpafgoeblaaZ23
/- The law on EraseUnitLines, from contracts of both functions. No conditions. -/
namespace Go.Proofs.Ytiiogpafgoeblaa
open Go.RowKit
set_option linter.unusedVariables false

/-- A unit of the call's own, its blocks in one list. -/
def UOwn (W : World) (u : Un) (v1 v2 v3 : Value) (F : List Nat) : Prop := ∃ F1 F2 F3, F = F1 ++ (F2 ++ F3) ∧ UnOwn W u v1 v2 v3 F1 F2 F3
theorem UOwn.is {W : World} {u : Un} {v1 v2 v3 : Value} {F : List Nat} (h : UOwn W u v1 v2 v3 F) : UnIs W u v1 v2 v3 := by
  obtain ⟨F1, F2, F3, rfl, h⟩ := h
  exact h.is
theorem UOwn.keep {W W' : World} {u : Un} {v1 v2 v3 : Value} {F : List Nat} (h : UOwn W u v1 v2 v3 F) (hF : ∀ b ∈ F, W'.heap[b]? = W.heap[b]?) : UOwn W' u v1 v2 v3 F := by
  obtain ⟨F1, F2, F3, rfl, h⟩ := h
  exact ⟨F1, F2, F3, rfl, h.keep hF⟩
theorem UOwn.later {W W' : World} {u : Un} {v1 v2 v3 : Value} {F : List Nat} (h : UOwn W u v1 v2 v3 F) (hF : ∀ b ∈ F, b < W.heap.size) (hb : Below W.heap.size W W') : UOwn W' u v1 v2 v3 F := h.keep fun b hb2 => hb.block b (hF b hb2)
def MadeU1 (w : World) (u : Un) (e : Ending) (w' : World) : Prop := ∃ v1 v2 v3 F, e = .returned (unV v1 v2 v3) ∧ UOwn w' u v1 v2 v3 F ∧ Foot w.heap.size w' F ∧ Below w.heap.size w w'
theorem madeU1 {w : World} {u : Un} {e : Ending} {w' : World} (h : MadeU w u e w') : MadeU1 w u e w' := by
  obtain ⟨v1, v2, v3, F1, F2, F3, h1, h2, ⟨h3, h4, h5⟩, h6⟩ := h
  refine ⟨v1, v2, v3, F1 ++ (F2 ++ F3), h1, ⟨F1, F2, F3, rfl, h2⟩, fun b hb => ?_, h6⟩
  rcases List.mem_append.1 hb with hb | hb
  · exact h3 b hb
  · rcases List.mem_append.1 hb with hb | hb
    · exact h4 b hb
    · exact h5 b hb
theorem mark_unit1 (u : Un) (hb : u.bulk ≤ 1048576) (w : World) (v1 v2 v3 : Value) (F : List Nat) (ho : UOwn w u v1 v2 v3 F) (hF : ∀ b ∈ F, b < w.heap.size) :
    Calls Try.prog 10 #[unV v1 v2 v3, .int .i64 1] w fun e w' => e = .returned (.int .i64 (u.m3 : Int)) ∧ UOwn w' u.mrk v1 v2 v3 F ∧ OnlyF F w w' := by
  obtain ⟨F1, F2, F3, rfl, ho⟩ := ho
  refine (mark_unit u hb w v1 v2 v3 F1 F2 F3 ho hF).mono ?_
  rintro e w' ⟨rfl, h1, h2⟩
  exact ⟨rfl, ⟨F1, F2, F3, rfl, h1⟩, h2⟩
theorem wsum_map {α : Type} (wd : α → Nat) (f : α → α) (h : ∀ x, wd (f x) = wd x) : ∀ l : List α, wsum wd (l.map f) = wsum wd l := by
  intro l
  induction l with
  | nil => rfl
  | cons x r ih => rw [List.map_cons, wsum, wsum, ih, h]
mutual
theorem eraseU_bulk : ∀ (t : Ex.T), t.erase.bulk = t.bulk
  | .node k s n l ks => by rw [Ex.T.erase, Ex.T.bulk, Ex.T.bulk, erasesU_bulk ks, Ex.erases_map, List.length_map]
theorem erasesU_bulk : ∀ (l : List Ex.T), Ex.bulks (Ex.erases l) = Ex.bulks l
  | [] => by rw [Ex.erases]
  | x :: r => by rw [Ex.erases, Ex.bulks, Ex.bulks, eraseU_bulk x, erasesU_bulk r]
end
theorem un_erase_bulk (u : Un) : u.erase.bulk = u.bulk := by
  unfold Un.bulk recsB procsB Un.erase
  rw [wsum_map Rc.bulk Rc.erase (fun _ => rfl), wsum_map Pc.bulk Pc.erase (fun p => by unfold Pc.bulk Pc.erase; rw [eraseU_bulk]), List.length_map, List.length_map]
/-- What lies in memory while the law runs: the unit that came in, what the model made, what the program made. -/
def EU (w : World) (A WL GL : List Value) (ue : Un) (w1 w2 w3 g1 g2 g3 : Value) (FW FG : List Nat) (b4 b5 b6 : Nat) (ug : Un) (W : World) : Prop :=
  (Var W w.heap.size A ∧ Var W b4 WL ∧ Var W b6 GL) ∧ (UOwn W ue w1 w2 w3 FW ∧ UOwn W ug g1 g2 g3 FG) ∧ Below w.heap.size w W ∧
  (w.heap.size < b4 ∧ b4 < b5 ∧ b5 < b6 ∧ b6 < W.heap.size) ∧ (∀ b ∈ FW, w.heap.size < b ∧ b < b4) ∧ ∀ b ∈ FG, b5 < b ∧ b < b6
theorem EU.later {w W W' : World} {A WL GL : List Value} {ue ug : Un} {w1 w2 w3 g1 g2 g3 : Value} {FW FG : List Nat} {b4 b5 b6 : Nat} (h : EU w A WL GL ue w1 w2 w3 g1 g2 g3 FW FG b4 b5 b6 ug W) (hb : Below W.heap.size W W') : EU w A WL GL ue w1 w2 w3 g1 g2 g3 FW FG b4 b5 b6 ug W' := by
  obtain ⟨⟨h1, h2, h3⟩, ⟨h4, h5⟩, h6, ⟨h7, h8, h9, h10⟩, h11, h12⟩ := h
  have hs := hb.size
  exact ⟨⟨h1.later hb, h2.later hb, h3.later hb⟩, ⟨h4.later (fun b hbF => by have := h11 b hbF; omega) hb, h5.later (fun b hbF => by have := h12 b hbF; omega) hb⟩, below_then h6 hb, ⟨h7, h8, h9, by omega⟩, h11, h12⟩
theorem EU.only {w W W' : World} {A WL GL : List Value} {ue ug : Un} {w1 w2 w3 g1 g2 g3 : Value} {FW FG FX : List Nat} {b4 b5 b6 : Nat} (h : EU w A WL GL ue w1 w2 w3 g1 g2 g3 FW FG b4 b5 b6 ug W) (hX : ∀ b ∈ FX, b4 < b ∧ b < b5) (hb : OnlyF FX W W') : EU w A WL GL ue w1 w2 w3 g1 g2 g3 FW FG b4 b5 b6 ug W' := by
  obtain ⟨⟨h1, h2, h3⟩, ⟨h4, h5⟩, h6, ⟨h7, h8, h9, h10⟩, h11, h12⟩ := h
  have hs := hb.1.size
  have hs6 := h6.size
  have old : ∀ b, b < W.heap.size → ¬ (b4 < b ∧ b < b5) → W'.heap[b]? = W.heap[b]? := fun b hb1 hb2 => hb.2 b (fun e => hb2 (hX b e)) hb1
  exact ⟨⟨h1.keep (old _ (by omega) (by omega)), h2.keep (old _ (by omega) (by omega)), h3.keep (old _ (by omega) (by omega))⟩, ⟨h4.keep (fun b hbF => old b (by have := h11 b hbF; omega) (by have := h11 b hbF; omega)), h5.keep (fun b hbF => old b (by have := h12 b hbF; omega) (by have := h12 b hbF; omega))⟩, h6.trans (hb.below (fun b hbF => by have := hX b hbF; omega) (by omega)), ⟨h7, h8, h9, by omega⟩, h11, h12⟩
theorem EU.onlyG {w W W' : World} {A WL GL : List Value} {ue ug uh : Un} {w1 w2 w3 g1 g2 g3 : Value} {FW FG : List Nat} {b4 b5 b6 : Nat} (h : EU w A WL GL ue w1 w2 w3 g1 g2 g3 FW FG b4 b5 b6 ug W) (hk : UOwn W' uh g1 g2 g3 FG) (hb : OnlyF FG W W') : EU w A WL GL ue w1 w2 w3 g1 g2 g3 FW FG b4 b5 b6 uh W' := by
  obtain ⟨⟨h1, h2, h3⟩, ⟨h4, h5⟩, h6, ⟨h7, h8, h9, h10⟩, h11, h12⟩ := h
  have hs := hb.1.size
  have hs6 := h6.size
  have old : ∀ b, b < W.heap.size → ¬ (b5 < b ∧ b < b6) → W'.heap[b]? = W.heap[b]? := fun b hb1 hb2 => hb.2 b (fun e => hb2 (h12 b e)) hb1
  exact ⟨⟨h1.keep (old _ (by omega) (by omega)), h2.keep (old _ (by omega) (by omega)), h3.keep (old _ (by omega) (by omega))⟩, ⟨h4.keep (fun b hbF => old b (by have := h11 b hbF; omega) (by have := h11 b hbF; omega)), hk⟩, h6.trans (hb.below (fun b hbF => by have := h12 b hbF; omega) (by omega)), ⟨h7, h8, h9, by omega⟩, h11, h12⟩
theorem EU.gbound {w W : World} {A WL GL : List Value} {ue ug : Un} {w1 w2 w3 g1 g2 g3 : Value} {FW FG : List Nat} {b4 b5 b6 : Nat} (h : EU w A WL GL ue w1 w2 w3 g1 g2 g3 FW FG b4 b5 b6 ug W) : ∀ b ∈ FG, b < W.heap.size := fun b hb => by have h1 := h.2.2.2.2.2 b hb; have h2 := h.2.2.2.1; omega

set_option maxRecDepth 100000 in
set_option maxHeartbeats 12800000 in
theorem eraseunit_law1 (u : Un) (v1 v2 v3 : Value) (hok : u.Ok) (w : World) (hk : UnIs w u v1 v2 v3) (hb : u.bulk ≤ 1048576)
    (HSE0 : ∀ W v1 v2 v3, UnIs W u v1 v2 v3 → Calls Try.prog 6 #[unV v1 v2 v3] W (MadeU W u.erase)) (HIE0 : ∀ W v1 v2 v3, UnIs W u v1 v2 v3 → Calls Try.prog 8 #[unV v1 v2 v3] W (MadeU W u.erase)) : Calls Try.prog 3 #[unV v1 v2 v3] w fun e w' => e = .returned (.bool true) ∧ Below w.heap.size w w' := by
  have HSZ := Lib.hid (fun W (hW : Below w.heap.size w W) => sz_unit u hok W v1 v2 v3 (hk.later hW))
  rw [szR_yes hb] at HSZ
  have hl1 : decide (((1048576 - u.bulk : Nat) : Int) < 0) = false := decide_eq_false (by omega)
  generalize ((1048576 - u.bulk : Nat) : Int) = left at HSZ hl1
  have hbe : u.erase.bulk ≤ 1048576 := by rw [un_erase_bulk]; exact hb
  have HTO : Hid (∀ W, Below w.heap.size w W → Calls Try.prog 7 #[unV v1 v2 v3] W (MadeU1 W u)) := Lib.hid (fun W hW => (to_unit u hb W v1 v2 v3 (hk.later hW).1 (hk.later hW).2.1 (hk.later hW).2.2).mono fun _ _ h => madeU1 h)
  have HSE : Hid (∀ W v1 v2 v3, UnIs W u v1 v2 v3 → Calls Try.prog 6 #[unV v1 v2 v3] W (MadeU1 W u.erase)) := Lib.hid (fun W v1 v2 v3 h => (HSE0 W v1 v2 v3 h).mono fun _ _ h => madeU1 h)
  have HIE : Hid (∀ W v1 v2 v3, UnIs W u v1 v2 v3 → Calls Try.prog 8 #[unV v1 v2 v3] W (MadeU1 W u.erase)) := Lib.hid (fun W v1 v2 v3 h => (HIE0 W v1 v2 v3 h).mono fun _ _ h => madeU1 h)
  have HEX := Lib.hid (fun W v1 v2 v3 u1 u2 u3 (h1 : UnIs W u v1 v2 v3) (h2 : UnIs W u u1 u2 u3) => eq_unit u hb W v1 v2 v3 u1 u2 u3 h1.1 h1.2.1 h1.2.2 h2.1 h2.2.1 h2.2.2)
  have HEW := Lib.hid (fun W v1 v2 v3 u1 u2 u3 (h1 : UnIs W u.erase v1 v2 v3) (h2 : UnIs W u.erase u1 u2 u3) => eq_unit u.erase hbe W v1 v2 v3 u1 u2 u3 h1.1 h1.2.1 h1.2.2 h2.1 h2.2.1 h2.2.2)
  have HMX := Lib.hid (fun W v1 v2 v3 F h1 h2 => mark_unit1 u hb W v1 v2 v3 F h1 h2)
  have HMG := Lib.hid (fun W v1 v2 v3 F h1 h2 => mark_unit1 u.erase hbe W v1 v2 v3 F h1 h2)
  have HHG := Lib.hid (fun W v1 v2 v3 h1 => held_unit u.erase hbe W v1 v2 v3 h1)
  generalize (u.m3 : Nat) = mX at HMX
  generalize hmG : u.erase.m3 = mG at HMG HHG
  clear hmG
  obtain ⟨aa, ab, rfl⟩ := is_slice hk.1
  obtain ⟨ac, ad, rfl⟩ := is_slice hk.2.1
  obtain ⟨ae, af, rfl⟩ := is_slice hk.2.2
  have HV0 := Lib.hid (Var.new w #[.slice aa u.recs.length ab, .slice ac u.globs.length ad, .slice ae u.procs.length af] 26)
  clear hok hk hb hbe HSE0 HIE0
  generalize hue : u.erase = ue at HSE HIE HEW HMG HHG
  generalize hum : ue.mrk = um at HMG HHG
  clear hue hum
  unfold MadeU1 at HTO HSE HIE
  go_enter Try.func3, Try.ntmps3
  go_wp2_with fail
  refine (HSZ.out _ (bl1 _ _)).mono ?_
  rintro e w1 ⟨rfl, b1⟩
  have B1 := Lib.hid (below_then (bl1 _ _) b1)
  have V1 := Lib.hid (HV0.out.later b1)
  have e0 := (V1.out 0 _ rfl).1
  have e1 := (V1.out 1 _ rfl).1
  have e2 := (V1.out 2 _ rfl).1
  clear b1 HSZ HV0
  go_wp2_with fail
  refine (HTO.out _ B1.out).mono ?_
  rintro e w2 ⟨x1, x2, x3, F2, rfl, o2, f2, b2⟩
  have K2' := o2.is
  obtain ⟨ka, kb, rfl⟩ := is_slice K2'.1
  obtain ⟨kc, kd, rfl⟩ := is_slice K2'.2.1
  obtain ⟨ke, kf, rfl⟩ := is_slice K2'.2.2
  have K2 := Lib.hid K2'
  have B2 := Lib.hid (below_then B1.out b2)
  have V2 := Lib.hid (V1.out.later b2)
  clear e0 e1 e2 o2 f2 b2 V1 B1 K2'
  go_wp2_with fail
  refine (HSE.out _ _ _ _ K2.out).mono ?_
  rintro e w3 ⟨x1, x2, x3, FW, rfl, oW, fW, b3⟩
  obtain ⟨xa, xb, rfl⟩ := is_slice oW.is.1
  obtain ⟨xc, xd, rfl⟩ := is_slice oW.is.2.1
  obtain ⟨xe, xf, rfl⟩ := is_slice oW.is.2.2
  have n3 := bl1 w3 (.cells #[.slice xa ue.recs.length xb, .slice xc ue.globs.length xd, .slice xe ue.procs.length xf] 31)
  have KW3 := Lib.hid (UOwn.later oW (fun b hb => (fW b hb).2) n3)
  have FWB := Lib.hid (fun b hb => (show w.heap.size < b ∧ b < w3.heap.size from ⟨by have h1 := (fW b hb).1; have h2 := V2.out.lt; omega, (fW b hb).2⟩))
  have B3 := Lib.hid (below_then (below_then B2.out b3) n3)
  have V3 := Lib.hid ((V2.out.later b3).later n3)
  have P4 := Lib.hid (Var.new w3 #[.slice xa ue.recs.length xb, .slice xc ue.globs.length xd, .slice xe ue.procs.length xf] 31)
  have L4 := Lib.hid (show w.heap.size < w3.heap.size by have h2 := V2.out.lt; have := b3.size; omega)
  clear oW fW b3 n3 K2 B2 V2
  have e0 := (V3.out 0 _ rfl).1
  have e1 := (V3.out 1 _ rfl).1
  have e2 := (V3.out 2 _ rfl).1
  go_wp2_with fail
  refine (HTO.out _ B3.out).mono ?_
  rintro e w4 ⟨x1, x2, x3, FX, rfl, oX, fX, b4⟩
  obtain ⟨ya, yb, rfl⟩ := is_slice oX.is.1
  obtain ⟨yc, yd, rfl⟩ := is_slice oX.is.2.1
  obtain ⟨ye, yf, rfl⟩ := is_slice oX.is.2.2
  have n4 := bl1 w4 (.cells #[.slice ya u.recs.length yb, .slice yc u.globs.length yd, .slice ye u.procs.length yf] 31)
  have hsz3 : (w3.alloc (.cells #[.slice xa ue.recs.length xb, .slice xc ue.globs.length xd, .slice xe ue.procs.length xf] 31)).heap.size = w3.heap.size + 1 := by simp
  have KX4 := Lib.hid (UOwn.later oX (fun b hb => (fX b hb).2) n4)
  have FXB := Lib.hid (fun b hb => (show w3.heap.size < b ∧ b < w4.heap.size from ⟨by have h1 := (fX b hb).1; rw [hsz3] at h1; omega, (fX b hb).2⟩))
  have KW4 := Lib.hid (UOwn.later (UOwn.later KW3.out (fun b hb => by rw [hsz3]; have := (FWB.out b hb).2; omega) b4) (fun b hb => by have h1 := (FWB.out b hb).2; have h2 := b4.size; rw [hsz3] at h2; omega) n4)
  have B4 := Lib.hid (below_then (below_then B3.out b4) n4)
  have V4 := Lib.hid ((V3.out.later b4).later n4)
  have P44 := Lib.hid ((P4.out.later b4).later n4)
  have P5 := Lib.hid (Var.new w4 #[.slice ya u.recs.length yb, .slice yc u.globs.length yd, .slice ye u.procs.length yf] 31)
  have L5 := Lib.hid (show w3.heap.size < w4.heap.size by have h2 := b4.size; rw [hsz3] at h2; omega)
  clear oX fX b4 n4 hsz3 KW3 B3 V3 P4 e0 e1 e2
  have e0 := (P5.out 0 _ rfl).1
  have e1 := (P5.out 1 _ rfl).1
  have e2 := (P5.out 2 _ rfl).1
  go_wp2_with fail
  refine (HIE.out _ _ _ _ KX4.out.is).mono ?_
  rintro e w5 ⟨x1, x2, x3, FG, rfl, oG, fG, b5⟩
  obtain ⟨ga, gb, rfl⟩ := is_slice oG.is.1
  obtain ⟨gc, gd, rfl⟩ := is_slice oG.is.2.1
  obtain ⟨ge, gf, rfl⟩ := is_slice oG.is.2.2
  have n5 := bl1 w5 (.cells #[.slice ga ue.recs.length gb, .slice gc ue.globs.length gd, .slice ge ue.procs.length gf] 31)
  have hsz4 : (w4.alloc (.cells #[.slice ya u.recs.length yb, .slice yc u.globs.length yd, .slice ye u.procs.length yf] 31)).heap.size = w4.heap.size + 1 := by simp
  have hsz5 : (w5.alloc (.cells #[.slice ga ue.recs.length gb, .slice gc ue.globs.length gd, .slice ge ue.procs.length gf] 31)).heap.size = w5.heap.size + 1 := by simp
  have h45 := b5.size
  rw [hsz4] at h45
  have EB5 : Hid (EU w [.slice aa u.recs.length ab, .slice ac u.globs.length ad, .slice ae u.procs.length af] [.slice xa ue.recs.length xb, .slice xc ue.globs.length xd, .slice xe ue.procs.length xf] [.slice ga ue.recs.length gb, .slice gc ue.globs.length gd, .slice ge ue.procs.length gf] ue (.slice xa ue.recs.length xb) (.slice xc ue.globs.length xd) (.slice xe ue.procs.length xf) (.slice ga ue.recs.length gb) (.slice gc ue.globs.length gd) (.slice ge ue.procs.length gf) FW FG w3.heap.size w4.heap.size w5.heap.size ue (w5.alloc (.cells #[.slice ga ue.recs.length gb, .slice gc ue.globs.length gd, .slice ge ue.procs.length gf] 31))) := Lib.hid
    ⟨⟨(V4.out.later b5).later n5, (P44.out.later b5).later n5, Var.new w5 _ _⟩,
      ⟨UOwn.later (UOwn.later KW4.out (fun b hb => by have h1 := (FWB.out b hb).2; have h2 := L5.out; rw [hsz4]; omega) b5) (fun b hb => by have h1 := (FWB.out b hb).2; have h2 := L5.out; omega) n5, UOwn.later oG (fun b hb => (fG b hb).2) n5⟩,
      below_then (below_then B4.out b5) n5, ⟨L4.out, L5.out, by omega, by rw [hsz5]; omega⟩, FWB.out, fun b hb => ⟨by have h1 := (fG b hb).1; rw [hsz4] at h1; omega, (fG b hb).2⟩⟩
  have KX5 := Lib.hid (UOwn.later (UOwn.later KX4.out (fun b hb => by have h1 := (FXB.out b hb).2; rw [hsz4]; omega) b5) (fun b hb => by have h1 := (FXB.out b hb).2; omega) n5)
  have P55 := Lib.hid ((P5.out.later b5).later n5)
  have FXS := Lib.hid (fun b hb => (show b < (w5.alloc (.cells #[.slice ga ue.recs.length gb, .slice gc ue.globs.length gd, .slice ge ue.procs.length gf] 31)).heap.size by have h1 := (FXB.out b hb).2; rw [hsz5]; omega))
  clear oG fG b5 n5 hsz4 hsz5 h45 KX4 KW4 B4 V4 P44 P5 e0 e1 e2
  have e0 := (EB5.out.1.2.2 0 _ rfl).1
  have e1 := (EB5.out.1.2.2 1 _ rfl).1
  have e2 := (EB5.out.1.2.2 2 _ rfl).1
  have f0 := (EB5.out.1.2.1 0 _ rfl).1
  have f1 := (EB5.out.1.2.1 1 _ rfl).1
  have f2 := (EB5.out.1.2.1 2 _ rfl).1
  go_wp2_with fail
  refine (HEW.out _ _ _ _ _ _ _ EB5.out.2.1.2.is EB5.out.2.1.1.is).mono ?_
  rintro e w6 ⟨rfl, b6⟩
  have EB6 := Lib.hid (EB5.out.later b6)
  have KX6 := Lib.hid (UOwn.later KX5.out FXS.out b6)
  have P56 := Lib.hid (P55.out.later b6)
  have FXS6 := Lib.hid (fun b hb => Nat.lt_of_lt_of_le (FXS.out b hb) b6.size)
  clear b6 EB5 KX5 P55 FXS e0 e1 e2 f0 f1 f2
  have e0 := (P56.out 0 _ rfl).1
  have e1 := (P56.out 1 _ rfl).1
  have e2 := (P56.out 2 _ rfl).1
  have f0 := (EB6.out.1.1 0 _ rfl).1
  have f1 := (EB6.out.1.1 1 _ rfl).1
  have f2 := (EB6.out.1.1 2 _ rfl).1
  go_wp2_with fail
  go_cut [31] (fun s6 wx => s6 = .bool false ∧ EU w [.slice aa u.recs.length ab, .slice ac u.globs.length ad, .slice ae u.procs.length af] [.slice xa ue.recs.length xb, .slice xc ue.globs.length xd, .slice xe ue.procs.length xf] [.slice ga ue.recs.length gb, .slice gc ue.globs.length gd, .slice ge ue.procs.length gf] ue (.slice xa ue.recs.length xb) (.slice xc ue.globs.length xd) (.slice xe ue.procs.length xf) (.slice ga ue.recs.length gb) (.slice gc ue.globs.length gd) (.slice ge ue.procs.length gf) FW FG w3.heap.size w4.heap.size w5.heap.size ue wx ∧ (UOwn wx u (.slice ya u.recs.length yb) (.slice yc u.globs.length yd) (.slice ye u.procs.length yf) FX ∧ Var wx w4.heap.size [.slice ya u.recs.length yb, .slice yc u.globs.length yd, .slice ye u.procs.length yf]) ∧ ∀ b ∈ FX, b < wx.heap.size)
  case first =>
    go_region_with (first
      | (go_at_call 7; refine (HTO.out _ EB6.out.2.2.1.drew).mono ?_; rintro e w7 ⟨x1, x2, x3, F7, rfl, o7, g7, b7⟩; obtain ⟨ma, mb, rfl⟩ := is_slice o7.is.1; obtain ⟨mc, md, rfl⟩ := is_slice o7.is.2.1; obtain ⟨me, mf, rfl⟩ := is_slice o7.is.2.2; have K7 := Lib.hid o7.is; have bb7 : Below w6.heap.size w6 w7 := ⟨b7.os, b7.tape, b7.output, b7.size, b7.block⟩; have EB7 := Lib.hid (EB6.out.later bb7); have KX7 := Lib.hid (UOwn.later KX6.out FXS6.out bb7); have P57 := Lib.hid (P56.out.later bb7); have FXS7 := Lib.hid (fun b hb => Nat.lt_of_lt_of_le (FXS6.out b hb) bb7.size); have y0 := (P57.out 0 _ rfl).1; have y1 := (P57.out 1 _ rfl).1; have y2 := (P57.out 2 _ rfl).1; clear o7 g7 b7 bb7)
      | (go_at_call 9; refine (HEX.out _ _ _ _ _ _ _ KX7.out.is K7.out).mono ?_; rintro e w8 ⟨rfl, b8⟩; have EB8 := Lib.hid (EB7.out.later b8); have KX8 := Lib.hid (UOwn.later KX7.out FXS7.out b8); have P58 := Lib.hid (P57.out.later b8); have FXS8 := Lib.hid (fun b hb => Nat.lt_of_lt_of_le (FXS7.out b hb) b8.size); clear b8))
    all_goals (go_wp2_with fail; go_meet; exact ⟨rfl, EB8.out, ⟨KX8.out, P58.out⟩, FXS8.out⟩)
  case rest =>
    obtain ⟨rfl, hEB, ⟨hKX, hP5⟩, hFX⟩ := hcut
    have EB9 := Lib.hid hEB
    have KX9 := Lib.hid hKX
    have P59 := Lib.hid hP5
    have FX9 := Lib.hid hFX
    clear hEB hKX hP5 hFX EB6 KX6 P56 FXS6 e0 e1 e2 f0 f1 f2
    have e0 := (P59.out 0 _ rfl).1
    have e1 := (P59.out 1 _ rfl).1
    have e2 := (P59.out 2 _ rfl).1
    go_wp2_with fail
    refine (HMX.out _ _ _ _ _ KX9.out FX9.out).mono ?_
    rintro e w10 ⟨rfl, _, on10⟩
    have EB10 := Lib.hid (EB9.out.only FXB.out on10)
    clear on10 EB9 KX9 P59 FX9 e0 e1 e2
    have e0 := (EB10.out.1.2.2 0 _ rfl).1
    have e1 := (EB10.out.1.2.2 1 _ rfl).1
    have e2 := (EB10.out.1.2.2 2 _ rfl).1
    have f0 := (EB10.out.1.2.1 0 _ rfl).1
    have f1 := (EB10.out.1.2.1 1 _ rfl).1
    have f2 := (EB10.out.1.2.1 2 _ rfl).1
    go_wp2_with fail
    refine (HEW.out _ _ _ _ _ _ _ EB10.out.2.1.2.is EB10.out.2.1.1.is).mono ?_
    rintro e w11 ⟨rfl, b11⟩
    have EB11 := Lib.hid (EB10.out.later b11)
    clear b11 EB10 e0 e1 e2 f0 f1 f2
    have e0 := (EB11.out.1.2.2 0 _ rfl).1
    have e1 := (EB11.out.1.2.2 1 _ rfl).1
    have e2 := (EB11.out.1.2.2 2 _ rfl).1
    go_wp2_with fail
    refine (HMG.out _ _ _ _ _ EB11.out.2.1.2 EB11.out.gbound).mono ?_
    rintro e w12 ⟨rfl, hk12, on12⟩
    have EB12 := Lib.hid (EB11.out.onlyG hk12 on12)
    clear hk12 on12 EB11 e0 e1 e2
    have e0 := (EB12.out.1.2.2 0 _ rfl).1
    have e1 := (EB12.out.1.2.2 1 _ rfl).1
    have e2 := (EB12.out.1.2.2 2 _ rfl).1
    go_wp2_with fail
    refine (HHG.out _ _ _ _ EB12.out.2.1.2.is).mono ?_
    rintro e w13 ⟨rfl, b13⟩
    have EB13 := Lib.hid (EB12.out.later b13)
    clear b13 EB12 e0 e1 e2
    have e0 := (EB13.out.1.1 0 _ rfl).1
    have e1 := (EB13.out.1.1 1 _ rfl).1
    have e2 := (EB13.out.1.1 2 _ rfl).1
    go_wp2_with fail
    refine (HTO.out _ EB13.out.2.2.1).mono ?_
    rintro e w14 ⟨x1, x2, x3, FH, rfl, oH, fH, b14⟩
    obtain ⟨ha, hb, rfl⟩ := is_slice oH.is.1
    obtain ⟨hc, hd, rfl⟩ := is_slice oH.is.2.1
    obtain ⟨he, hf, rfl⟩ := is_slice oH.is.2.2
    have KH14 := Lib.hid oH.is
    have EB14 := Lib.hid (EB13.out.later b14)
    clear oH fH b14 EB13 e0 e1 e2
    go_wp2_with fail
    refine (HIE.out _ _ _ _ KH14.out).mono ?_
    rintro e w15 ⟨x1, x2, x3, FH2, rfl, oH, fH, b15⟩
    obtain ⟨ja, jb, rfl⟩ := is_slice oH.is.1
    obtain ⟨jc, jd, rfl⟩ := is_slice oH.is.2.1
    obtain ⟨je, jf, rfl⟩ := is_slice oH.is.2.2
    have n15 := bl1 w15 (.cells #[.slice ja ue.recs.length jb, .slice jc ue.globs.length jd, .slice je ue.procs.length jf] 31)
    have KH15 := Lib.hid (oH.is.later n15)
    have EB15 := Lib.hid ((EB14.out.later b15).later n15)
    clear oH fH b15 n15 EB14 KH14
    have f0 := (EB15.out.1.2.1 0 _ rfl).1
    have f1 := (EB15.out.1.2.1 1 _ rfl).1
    have f2 := (EB15.out.1.2.1 2 _ rfl).1
    go_wp2_with fail
    refine (HEW.out _ _ _ _ _ _ _ KH15.out EB15.out.2.1.1.is).mono ?_
    rintro e w16 ⟨rfl, b16⟩
    have EB16 := Lib.hid (EB15.out.later b16)
    clear b16 EB15 KH15 f0 f1 f2
    have e0 := (EB16.out.1.2.2 0 _ rfl).1
    have e1 := (EB16.out.1.2.2 1 _ rfl).1
    have e2 := (EB16.out.1.2.2 2 _ rfl).1
    go_wp2_with fail
    refine (HHG.out _ _ _ _ EB16.out.2.1.2.is).mono ?_
    rintro e w17 ⟨rfl, b17⟩
    have EB17 := Lib.hid (EB16.out.later b17)
    clear b17 EB16 e0 e1 e2
    go_wp2
    go_ret
    exact ⟨rfl, EB17.out.2.2.1⟩
theorem eraseunit_law2 (u : Un) (v1 v2 v3 : Value) (hok : u.Ok) (w : World) (hk : UnIs w u v1 v2 v3) (hb : ¬ u.bulk ≤ 1048576) : Calls Try.prog 3 #[unV v1 v2 v3] w fun e w' => e = .returned (.bool true) ∧ Below w.heap.size w w' := by
  have HSZ := Lib.hid (fun W (hW : Below w.heap.size w W) => sz_unit u hok W v1 v2 v3 (hk.later hW))
  rw [szR_no hb] at HSZ
  clear hok hb
  obtain ⟨aa, ab, rfl⟩ := is_slice hk.1
  obtain ⟨ac, ad, rfl⟩ := is_slice hk.2.1
  obtain ⟨ae, af, rfl⟩ := is_slice hk.2.2
  clear hk
  go_enter Try.func3, Try.ntmps3
  go_wp2_with fail
  refine (HSZ.out _ (bl1 _ _)).mono ?_
  rintro e w1 ⟨rfl, b1⟩
  have B1 := Lib.hid (below_then (bl1 _ _) b1)
  clear b1
  go_wp2
  go_ret
  exact ⟨rfl, B1.out⟩
end Go.Proofs.Ytiiogpafgoeblaa
/- The law on EraseUnitLines: its walk. No conditions. -/
namespace Go.Proofs.Ytiiogpafgoeblaa
open Go.RowKit
set_option linter.unusedVariables false

theorem FnExactEraseUnitLines_walk (u : Un) (v1 v2 v3 : Value) (hok : u.Ok) (w : World) (hk : UnIs w u v1 v2 v3) : Calls Try.prog 3 #[unV v1 v2 v3] w fun e w' => e = .returned (.bool true) ∧ Below w.heap.size w w' := by
  by_cases hb : u.bulk ≤ 1048576
  · exact eraseunit_law1 u v1 v2 v3 hok w hk hb (fun W v1 v2 v3 h => spec_eraseunit u hb W v1 v2 v3 h) (fun W v1 v2 v3 h => impl_eraseunit u hb W v1 v2 v3 h)
  · exact eraseunit_law2 u v1 v2 v3 hok w hk hb
end Go.Proofs.Ytiiogpafgoeblaa
