/- Joined texts: U20. No conditions besides those that each states. -/
import Derived.Deep.RegionHeld3
import Derived.Deep.DeepCutAuto
import Derived.Test.YtiiogpafgoeblaaZ18
/- The program's EraseUnitLines. No conditions. -/
namespace Go.Proofs.Ytiiogpafgoeblaa
open Go.RowKit
set_option linter.unusedVariables false

theorem RowM.size {α : Type} {f : α → List D} {z k : Nat} {WL wr : World} {xs : List α} {v : Value} (h : RowM f z WL xs k v wr) : WL.heap.size ≤ wr.heap.size := by
  rcases h with ⟨_, _, h⟩ | ⟨_, g, c, _, _, _, _, _, h⟩
  · exact h.1.size
  · exact h.1.size
theorem RowM.keep {α : Type} {f : α → List D} {z k : Nat} {WL wr : World} {xs : List α} {v : Value} (h : RowM f z WL xs k v wr) {b : Nat} (hb : b < WL.heap.size) (hne : xs ≠ [] → v.ownBlock ≠ some b) : wr.heap[b]? = WL.heap[b]? := by
  rcases h with ⟨_, _, h⟩ | ⟨h0, g, c, rfl, _, _, _, _, h⟩
  · exact h.2 b List.not_mem_nil hb
  · exact h.2 b (fun hm => hne h0 (by rw [List.mem_singleton.1 hm]; rfl)) hb
theorem RowM.below {α : Type} {f : α → List D} {z k m : Nat} {WL wr : World} {xs : List α} {v : Value} (h : RowM f z WL xs k v wr) (hm : m ≤ WL.heap.size) (hv : xs ≠ [] → ∀ b, v.ownBlock = some b → m ≤ b) : Below m WL wr := by
  rcases h with ⟨_, _, h⟩ | ⟨h0, g, c, rfl, _, _, _, _, h⟩
  · exact h.below (fun b hb => by cases hb) hm
  · exact h.below (fun b hb => by rw [List.mem_singleton.1 hb]; exact hv h0 g rfl) hm
theorem RowM.done {α : Type} {f : α → List D} {z : Nat} {WL wr : World} {xs : List α} {v : Value} (h : RowM f z WL xs xs.length v wr) (hf : ∀ x, (f x).length = z) (hz : 0 < z) : ∃ F, Own wr (.row xs.length (xs.flatMap f)) v F ∧ ∀ b ∈ F, (xs ≠ [] ∧ v.ownBlock = some b) ∨ (WL.heap.size ≤ b ∧ b < wr.heap.size) := by
  rcases h with ⟨rfl, ⟨a, c, rfl⟩, _⟩ | ⟨h0, g, c, rfl, h⟩
  · exact ⟨[], own_nil, fun b hb => by cases hb⟩
  · obtain ⟨F, h1, h2⟩ := h.done hf hz h0 (cp := c)
    refine ⟨_, h1, fun b hb => ?_⟩
    rcases List.mem_cons.1 hb with rfl | hb
    · exact .inl ⟨h0, rfl⟩
    · exact .inr (h2 b hb)
theorem heldO_last {W0 W : World} {A : Prop} {F : List Nat} (h : A ∧ OnlyF F W0 W) : OnlyF F W0 W := h.2
theorem heldO_then {W0 W W' : World} {A : Prop} {F : List Nat} (h : A ∧ OnlyF F W0 W) (hb : Below W.heap.size W W') : OnlyF F W0 W' := h.2.later hb
theorem recE_els2 {w w2 : World} {x : Rc} {z1 : Option Addr} {d1 : Nat} {F1 : List Nat} (o1 : Own w2 (strsD x.fields) (.slice z1 x.fields.length d1) F1) (f1 : Foot w.heap.size w2 F1) : (∀ e ∈ ([(.str x.name, .string x.name, []), (strsD x.fields, .slice z1 x.fields.length d1, F1), (.int 0, .int .i64 0, [])] : List (D × Value × List Nat)), Own w2 e.1 e.2.1 e.2.2 ∧ ∀ b ∈ e.2.2, w.heap.size ≤ b ∧ b < w2.heap.size) ∧ ([(.str x.name, .string x.name, []), (strsD x.fields, .slice z1 x.fields.length d1, F1), (.int 0, .int .i64 0, [])] : List (D × Value × List Nat)).Pairwise (fun x y => Apart x.2.2 y.2.2) := by
  constructor
  · intro e he
    simp only [List.mem_cons, List.not_mem_nil, or_false] at he
    rcases he with rfl | rfl | rfl
    · exact ⟨own_str', fun b hb => by cases hb⟩
    · exact ⟨o1, f1⟩
    · exact ⟨own_int', fun b hb => by cases hb⟩
  · simp [apart_nil, nil_apart]
theorem AnyRow.keep2 {z n B : Nat} {w w' : World} {v : Value} (h : AnyRow z n B w v) (hs : w.heap.size ≤ w'.heap.size) (hb : n ≠ 0 → ∀ b, v.ownBlock = some b → w'.heap[b]? = w.heap[b]?) : AnyRow z n B w' v := by
  rcases h with h | ⟨h0, g, c, rfl, h1, h2, h3⟩
  · exact .inl h
  · exact .inr ⟨h0, g, c, rfl, h1, h2.keep (hb h0 g rfl) (fun b hb2 => by simp at hb2), Nat.lt_of_lt_of_le h3 hs⟩
theorem procE_els2 {w w2 : World} {x : Pc} {z1 z2 z3 : Option Addr} {d1 d2 d3 : Nat} {F1 F2 F3 : List Nat} (o1 : OwnP w2 x.erase (.slice z1 x.params.length d1) (.slice z2 x.locals.length d2) (.slice z3 x.body.erase.kids.length d3) F1 F2 F3) (f1 : Foot w.heap.size w2 F1 ∧ Foot w.heap.size w2 F2 ∧ Foot w.heap.size w2 F3) :
    (∀ e ∈ ([(.str x.name, .string x.name, []), (strsD x.params, .slice z1 x.params.length d1, F1), (strsD x.locals, .slice z2 x.locals.length d2, F2), (.int x.body.erase.kind, .int .i64 x.body.erase.kind, []), (.str x.body.erase.text, .string x.body.erase.text, []), (.int x.body.erase.num, .int .i64 x.body.erase.num, []), (.int x.body.erase.line, .int .i64 x.body.erase.line, []), (.ex x.body.erase.kids, .slice z3 x.body.erase.kids.length d3, F3), (.int 0, .int .i64 0, [])] : List (D × Value × List Nat)), Own w2 e.1 e.2.1 e.2.2 ∧ ∀ b ∈ e.2.2, w.heap.size ≤ b ∧ b < w2.heap.size) ∧ ([(.str x.name, .string x.name, []), (strsD x.params, .slice z1 x.params.length d1, F1), (strsD x.locals, .slice z2 x.locals.length d2, F2), (.int x.body.erase.kind, .int .i64 x.body.erase.kind, []), (.str x.body.erase.text, .string x.body.erase.text, []), (.int x.body.erase.num, .int .i64 x.body.erase.num, []), (.int x.body.erase.line, .int .i64 x.body.erase.line, []), (.ex x.body.erase.kids, .slice z3 x.body.erase.kids.length d3, F3), (.int 0, .int .i64 0, [])] : List (D × Value × List Nat)).Pairwise (fun x y => Apart x.2.2 y.2.2) := by
  constructor
  · intro e he
    simp only [List.mem_cons, List.not_mem_nil, or_false] at he
    rcases he with rfl | rfl | rfl | rfl | rfl | rfl | rfl | rfl | rfl
    · exact ⟨own_str', fun b hb => by cases hb⟩
    · exact ⟨o1.1.1, f1.1⟩
    · exact ⟨o1.1.2.1, f1.2.1⟩
    · exact ⟨own_int', fun b hb => by cases hb⟩
    · exact ⟨own_str', fun b hb => by cases hb⟩
    · exact ⟨own_int', fun b hb => by cases hb⟩
    · exact ⟨own_int', fun b hb => by cases hb⟩
    · exact ⟨o1.1.2.2, f1.2.2⟩
    · exact ⟨own_int', fun b hb => by cases hb⟩
  · simp [apart_nil, nil_apart, o1.2.1, o1.2.2.1, o1.2.2.2]
theorem size_drew (W : World) : W.drew.heap.size = W.heap.size := rfl
theorem var_new_drew (W : World) (A : Array Value) (T : TypeId) {w5 : World} (hb : Below (W.alloc (.cells A T)).drew.heap.size (W.alloc (.cells A T)).drew w5) : Var w5 W.heap.size A.toList :=
  ((Var.new W A T).keep (w' := (W.alloc (.cells A T)).drew) rfl).later hb
set_option maxRecDepth 100000 in
set_option maxHeartbeats 12800000 in
theorem impl_eraseunit (u : Un) (hb : u.bulk ≤ 1048576) (w : World) (v1 v2 v3 : Value) (h : UnIs w u v1 v2 v3) : Calls Try.prog 8 #[unV v1 v2 v3] w (MadeU w u.erase) := by
  have h1 := h.1
  have h2 := h.2.1
  have h3 := h.2.2
  have hbb := hb
  unfold Un.bulk recsB procsB at hbb
  have l1 : u.recs.length ≤ 1048576 := by omega
  have l3 : u.procs.length ≤ 1048576 := by omega
  have HBU : Hid (wsum Rc.bulk u.recs ≤ 1048576 ∧ wsum Pc.bulk u.procs ≤ 1048576) := Lib.hid (by omega)
  have H1 := Lib.hid h1
  have H3 := Lib.hid h3
  have HCR := Lib.hid (fun W (hW : Below w.heap.size w W) => clone_rec v1 u.recs W (h1.later hW) l1)
  have HCG := Lib.hid (fun W (hW : Below w.heap.size w W) => impl_texts v2 u.globs W (h2.later hW) (by omega))
  have HCP := Lib.hid (fun W (hW : Below w.heap.size w W) => clone_proc v3 u.procs W (h3.later hW) l3)
  unfold RetAny at HCR HCP
  unfold RetD at HCG
  obtain ⟨a1, c1, rfl⟩ := is_slice h1
  obtain ⟨a2, c2, rfl⟩ := is_slice h2
  obtain ⟨a3, c3, rfl⟩ := is_slice h3
  have VA := (Var.new w #[.slice a1 u.recs.length c1, .slice a2 u.globs.length c2, .slice a3 u.procs.length c3] 31).later (bl1 _ (.cells #[.slice none 0 0, .slice none 0 0, .slice none 0 0] 31))
  have VB := Var.new (w.alloc (.cells #[.slice a1 u.recs.length c1, .slice a2 u.globs.length c2, .slice a3 u.procs.length c3] 31)) #[.slice none 0 0, .slice none 0 0, .slice none 0 0] 31
  have B2 := bl2 w (.cells #[.slice a1 u.recs.length c1, .slice a2 u.globs.length c2, .slice a3 u.procs.length c3] 31) (.cells #[.slice none 0 0, .slice none 0 0, .slice none 0 0] 31)
  have Z2 : ((w.alloc (.cells #[.slice a1 u.recs.length c1, .slice a2 u.globs.length c2, .slice a3 u.procs.length c3] 31)).alloc (.cells #[.slice none 0 0, .slice none 0 0, .slice none 0 0] 31)).heap.size = w.heap.size + 2 := by simp
  rw [World.size_alloc] at VB
  go_enter Try.func8, Try.ntmps8
  go_wp2_with fail
  obtain ⟨W2, hW2⟩ : ∃ W, (w.alloc (.cells #[.slice a1 u.recs.length c1, .slice a2 u.globs.length c2, .slice a3 u.procs.length c3] 31)).alloc (.cells #[.slice none 0 0, .slice none 0 0, .slice none 0 0] 31) = W := ⟨_, rfl⟩
  rw [hW2] at VA VB B2 Z2 ⊢
  have HVA : Hid (Var W2 w.heap.size [.slice a1 u.recs.length c1, .slice a2 u.globs.length c2, .slice a3 u.procs.length c3]) := Lib.hid VA
  have HVB := Lib.hid VB
  have HB2 := Lib.hid B2
  have HZ2 := Lib.hid Z2
  clear hW2 VA VB B2 Z2 h h1 h2 h3 hbb hb
  go_cut [3] (fun s3 wx => ∃ (b3 : Nat) (cr cg cp : Value) (Fg : List Nat), s3 = .pointer (some ⟨b3, 0, none⟩) ∧ EiS w [.slice a1 u.recs.length c1, .slice a2 u.globs.length c2, .slice a3 u.procs.length c3] b3 cr cg cp u.globs Fg u.recs.length u.procs.length wx)
  case first =>
    have HS : Hid (∀ W, Below W2.heap.size W2 W → (W.cell? ⟨w.heap.size, 0, none⟩ = some (.slice a1 u.recs.length c1) ∧ W.cell? ⟨w.heap.size, 1, none⟩ = some (.slice a2 u.globs.length c2) ∧ W.cell? ⟨w.heap.size, 2, none⟩ = some (.slice a3 u.procs.length c3)) ∧ Below W2.heap.size W2 W) := Lib.hid (fun W hW => by
      have V := HVA.out.later hW
      exact ⟨⟨(V 0 _ rfl).1, (V 1 _ rfl).1, (V 2 _ rfl).1⟩, hW⟩)
    go_region_held3 (fun w' => (w'.cell? ⟨w.heap.size, 0, none⟩ = some (.slice a1 u.recs.length c1) ∧ w'.cell? ⟨w.heap.size, 1, none⟩ = some (.slice a2 u.globs.length c2) ∧ w'.cell? ⟨w.heap.size, 2, none⟩ = some (.slice a3 u.procs.length c3)) ∧ Below W2.heap.size W2 w')
      (first | (with_reducible assumption) | (with_reducible exact HS.out _ (heldA_last (by assumption))) | (with_reducible exact HS.out _ (Below.refl _ _).drew) | (with_reducible exact HS.out _ (heldA_then (by assumption) (Nat.le_refl _) (bl1 _ _))) | (with_reducible exact HS.out _ (heldA_then (by assumption) (Nat.le_refl _) hb5)) | (with_reducible exact HS.out _ (heldA_then (by assumption) (Nat.le_refl _) hb6)) | (with_reducible exact HS.out _ (heldA_then (by assumption) (Nat.le_refl _) hb7)) | (with_reducible exact HS.out _ (below_then HB7.out (bl1 _ _))) | (with_reducible exact HS.out _ (((HB7.out.setCell (p := ⟨_, 0, none⟩) (by first | exact Nat.le_refl _ | exact HB5.out.size | exact HB6.out.size) _).setCell (p := ⟨_, 1, none⟩) (by first | exact Nat.le_refl _ | exact HB5.out.size | exact HB6.out.size) _).setCell (p := ⟨_, 2, none⟩) (by first | exact Nat.le_refl _ | exact HB5.out.size | exact HB6.out.size) _)))
      (first
        | (go_at_call 24; refine (HCR.out _ (below_then HB2.out (heldA_last (by assumption)))).mono ?_; rintro e w5 ⟨v5, rfl, r5, hb5⟩; obtain ⟨z5, d5, rfl⟩ := r5.slice; have R5 := Lib.hid r5; have HB5 := Lib.hid (heldA_then (by assumption) (Nat.le_refl _) hb5); (try (have VX := Lib.hid (var_new_drew W2 #[.slice none 0 0, .slice none 0 0, .slice none 0 0] 31 hb5))); clear r5)
        | (go_at_call 25; refine (HCG.out _ (below_then HB2.out (heldA_last (by assumption)))).mono ?_; rintro e w6 ⟨v6, F6, rfl, o6, f6, hb6⟩; obtain ⟨z6, d6, rfl⟩ := own_slice o6; have O6 := Lib.hid o6; have G6 := Lib.hid f6; have HB6 := Lib.hid (heldA_then (by assumption) (Nat.le_refl _) hb6); (try (first | replace VX := Lib.hid (VX.out.later hb6) | have VX := Lib.hid ((Var.new w5 #[.slice none 0 0, .slice none 0 0, .slice none 0 0] 31).later hb6))); clear o6 f6)
        | (go_at_call 26; refine (HCP.out _ (below_then HB2.out (heldA_last (by assumption)))).mono ?_; rintro e w7 ⟨v7, rfl, r7, hb7⟩; obtain ⟨z7, d7, rfl⟩ := r7.slice; have R7 := Lib.hid r7; have HB7 := Lib.hid (heldA_then (by assumption) (Nat.le_refl _) hb7); (try ((first | replace VX := Lib.hid (VX.out.later hb7) | have VX := Lib.hid ((Var.new w6 #[.slice none 0 0, .slice none 0 0, .slice none 0 0] 31).later hb7)); have y0 := (VX.out 0 _ rfl).1; have y1 := (VX.out 1 _ rfl).1; have y2 := (VX.out 2 _ rfl).1; have x0 := (VX.out 0 _ rfl).2; have x1 := (VX.out 1 _ rfl).2; have x2 := (VX.out 2 _ rfl).2)); clear r7))
    all_goals (go_wp2_with fail; go_meet; first
      | exact ⟨_, _, _, _, F6, rfl, eis_of HZ2.out HVA.out HVB.out HB2.out ((bl1 W2 (.cells #[.slice none 0 0, .slice none 0 0, .slice none 0 0] 31)).drew) R5.out hb5 (Below.refl _ _) O6.out G6.out hb6 (Below.refl _ _) R7.out hb7 (fun b _ hne => by rw [set_keep hne, set_keep hne, set_keep hne]) (((VX.out.set 0 _).set 1 _).set 2 _) (by have s5 := hb5.size; have s6 := hb6.size; have s7 := hb7.size; rw [size_drew, World.size_alloc] at s5 ⊢; omega) (heldA_last (by assumption)) (by simp only [set_size]; exact Nat.le_refl _)⟩
      | exact ⟨_, _, _, _, F6, rfl, eis_of HZ2.out HVA.out HVB.out HB2.out ((Below.refl _ W2).drew) R5.out hb5 (bl1 w5 (.cells #[.slice none 0 0, .slice none 0 0, .slice none 0 0] 31)) O6.out G6.out hb6 (Below.refl _ _) R7.out hb7 (fun b _ hne => by rw [set_keep hne, set_keep hne, set_keep hne]) (((VX.out.set 0 _).set 1 _).set 2 _) (by have s5 := hb5.size; have s6 := hb6.size; have s7 := hb7.size; rw [size_drew] at s5 ⊢; rw [World.size_alloc] at s6 ⊢; omega) (heldA_last (by assumption)) (by simp only [set_size]; exact Nat.le_refl _)⟩
      | exact ⟨_, _, _, _, F6, rfl, eis_of HZ2.out HVA.out HVB.out HB2.out ((Below.refl _ W2).drew) R5.out hb5 (Below.refl _ _) O6.out G6.out hb6 (bl1 w6 (.cells #[.slice none 0 0, .slice none 0 0, .slice none 0 0] 31)) R7.out hb7 (fun b _ hne => by rw [set_keep hne, set_keep hne, set_keep hne]) (((VX.out.set 0 _).set 1 _).set 2 _) (by have s5 := hb5.size; have s6 := hb6.size; have s7 := hb7.size; rw [size_drew] at s5 ⊢; rw [World.size_alloc] at s7 ⊢; omega) (heldA_last (by assumption)) (by simp only [set_size]; exact Nat.le_refl _)⟩
      | exact ⟨_, _, _, _, F6, rfl, eis_of HZ2.out HVA.out HVB.out HB2.out ((Below.refl _ W2).drew) R5.out hb5 (Below.refl _ _) O6.out G6.out hb6 (Below.refl _ _) R7.out hb7 (fun b h _ => (bl1 w7 _).block b h) (Var.new w7 _ _) (by have s5 := hb5.size; have s6 := hb6.size; have s7 := hb7.size; rw [size_drew] at s5 ⊢; omega) (heldA_last (by assumption)) (bl1 w7 _).size⟩)
  case rest =>
    obtain ⟨b3, cr, cg, cp, Fg, rfl, hei⟩ := hcut
    obtain ⟨ar, dr, rfl⟩ := hei.2.1.1.slice
    obtain ⟨ag, dg, rfl⟩ := own_slice hei.2.1.2.1
    obtain ⟨ap, dp, rfl⟩ := hei.2.1.2.2.slice
    have EI := Lib.hid hei
    have HR0 : Hid (RowM (fun r => (Rc.erase r).ds) 3 wc u.recs 0 (.slice ar u.recs.length dr) wc) := Lib.hid hei.2.1.1.rowM
    have s0 := (hei.1.2.2 0 _ rfl).1
    have q0 := (hei.1.1 0 _ rfl).1
    clear hei HCR HCG HCP HVA HVB HB2 HZ2
    go_wp2
    clear s0 q0
    go_loopw [4, 5, 21] (fun _ _ i wr => ∃ k : Nat, i = .int .i64 k ∧ k ≤ u.recs.length ∧ RowM (fun r => (Rc.erase r).ds) 3 wc u.recs k (.slice ar u.recs.length dr) wr) (fun _ _ i _ => u.recs.length - (intOf i).toNat)
    case atStart => exact ⟨0, rfl, Nat.zero_le _, HR0.out⟩
    case round =>
      clear HR0
      obtain ⟨k, rfl, hk, hrm⟩ := hrel
      have HRM := Lib.hid hrm
      have hrs := hrm.size
      have hbw : Below w.heap.size w wr := EI.out.2.2.1.trans (hrm.below (Nat.le_trans (Nat.le_of_lt (by have := EI.out.2.2.2.1; omega)) (Nat.le_refl _)) (fun h0 b hb => by have := EI.out.2.1.1.own1 (fun h => h0 (List.length_eq_zero_iff.1 h)) b hb; omega))
      have V3 := EI.out.1.2.2.keep (hrm.keep EI.out.2.2.2.1.2 (fun h0 h => (EI.out.2.2.2.2.2.1 (fun h => h0 (List.length_eq_zero_iff.1 h)) b3 h).1 rfl))
      have HV3 := Lib.hid V3
      have HBW := Lib.hid hbw
      clear V3
      by_cases hlt : k < u.recs.length
      · rcases hrm with ⟨h0, _⟩ | ⟨hne, g1, cc, e, hfm⟩
        · rw [h0] at hlt; simp at hlt
        injection e with e1 e2 e3
        subst e1 e3
        have hg1 := EI.out.2.1.1.own1 (fun h => hne (List.length_eq_zero_iff.1 h)) g1 rfl
        have hg3 := (EI.out.2.2.2.2.2.1 (fun h => hne (List.length_eq_zero_iff.1 h)) g1 rfl).1
        have HFM := Lib.hid hfm
        obtain ⟨g, o, rfl, q0, ⟨v5, q1, k5⟩, q2⟩ := rec_at H1.out k hlt
        have hxb : u.recs[k].bulk ≤ 1048576 := by have := wsum_mem Rc.bulk (List.getElem_mem hlt); have := HBU.out.1; omega
        obtain ⟨a5, c5, rfl⟩ := is_slice k5
        have r0 := subw_below hbw _ _ _ q0
        have r1 := subw_below hbw _ _ _ q1
        have r2 := subw_below hbw _ _ _ q2
        have K5 := Lib.hid k5
        have HN := Lib.hid (fun w2 (hb2 : Below wr.heap.size wr w2) es he ho hp => HFM.out.next (w1 := w2) (z := 3) (fun _ => rfl) (any_len 3) hlt hb2 es he ho hp)
        have HF := Lib.hid (fun w2 j hj hb => HFM.out.cell (w1 := w2) (z := 3) (fun _ => rfl) (any_len 3) (Nat.le_of_lt hlt) j hj hb)
        clear q0 q1 q2 k5 hfm
        generalize u.recs[k] = x at r0 r1 r2 K5 hxb HN
        unfold Rc.bulk at hxb
        have hx0 : (x.name.size : Int) ≤ 1048576 := by omega
        have hx1 : strsB x.fields ≤ 1048576 := by omega
        have k0 : (0 : Int) ≤ k := by omega
        have k1 : (k : Int) < u.recs.length := by omega
        have hltz : k * 3 + 2 < u.recs.length * 3 := by omega
        have V9 := Lib.hid (Var.new wr #[.string x.name, .slice a5 x.fields.length c5, .int .i64 x.line] 53)
        have hb9 := bl1 wr (.cells #[.string x.name, .slice a5 x.fields.length c5, .int .i64 x.line] 53)
        have hz9 : (wr.alloc (.cells #[.string x.name, .slice a5 x.fields.length c5, .int .i64 x.line] 53)).heap.size = wr.heap.size + 1 := by simp
        have V39 := Lib.hid (HV3.out.later hb9)
        have HB9 := Lib.hid hb9
        have HZ9 := Lib.hid hz9
        clear hxb hb9 hz9 hbw
        go_wp2_with fail
        obtain ⟨W9, hW9⟩ : ∃ W, wr.alloc (.cells #[.string x.name, .slice a5 x.fields.length c5, .int .i64 x.line] 53) = W := ⟨_, rfl⟩
        rw [hW9] at V9 V39 HB9 HZ9 ⊢
        obtain ⟨bt, hbt⟩ : ∃ n, wr.heap.size = n := ⟨_, rfl⟩
        have HBT := Lib.hid hbt
        rw [hbt] at V9 HZ9 hrs ⊢
        clear hW9 hbt r0 r1 r2
        have hz9 := HZ9.out
        have hb3 := EI.out.2.2.2.1
        have HS : Hid (∀ W, OnlyF [g1] W9 W → (W.cell? ⟨b3, 0, none⟩ = some (.slice (some ⟨g1, 0, none⟩) u.recs.length dr) ∧ W.cell? ⟨bt, 0, none⟩ = some (.string x.name) ∧ W.cell? ⟨bt, 1, none⟩ = some (.slice a5 x.fields.length c5)) ∧ OnlyF [g1] W9 W) := Lib.hid (fun W hW => by
          have U := V9.out.keep (hW.2 bt (by rw [List.mem_singleton]; omega) (by omega))
          have U3 := V39.out.keep (hW.2 b3 (by rw [List.mem_singleton]; exact fun h => hg3 h.symm) (by omega))
          exact ⟨⟨(U3 0 _ rfl).1, (U 0 _ rfl).1, (U 1 _ rfl).1⟩, hW⟩)
        have HT := Lib.hid (fun W (hW : OnlyF [g1] W9 W) => impl_texts _ x.fields W (K5.out.later (below_then (below_then HBW.out HB9.out) (Below.refl _ _) |>.trans (hW.below (m := w.heap.size) (fun b hb => by rw [List.mem_singleton.1 hb]; omega) (by have := (below_then HBW.out HB9.out).size; omega)))) hx1)
        unfold RetD at HT
        clear hz9 hb3
        go_region_held3 (fun w' => (w'.cell? ⟨b3, 0, none⟩ = some (.slice (some ⟨g1, 0, none⟩) u.recs.length dr) ∧ w'.cell? ⟨bt, 0, none⟩ = some (.string x.name) ∧ w'.cell? ⟨bt, 1, none⟩ = some (.slice a5 x.fields.length c5)) ∧ OnlyF [g1] W9 w')
          (first | (with_reducible assumption) | (with_reducible exact HS.out _ (heldO_last (by assumption))) | (with_reducible exact HS.out _ ((OnlyF.refl _ _).later (Below.refl _ _).drew)) | (with_reducible exact HS.out _ (heldO_then (by assumption) hb5)) | (with_reducible exact HS.out _ (heldO_then (by assumption) hb6)) | (with_reducible exact HS.out _ ((((heldO_last (by assumption)).set (List.mem_singleton.2 rfl) _ _).set (List.mem_singleton.2 rfl) _ _).set (List.mem_singleton.2 rfl) _ _)))
          (first
            | (go_at_call 27; refine (clone8 x.name _ hx0).mono ?_; rintro e w5 ⟨rfl, hb5⟩)
            | (go_at_call 25; refine (HT.out _ (heldO_last (by assumption))).mono ?_; rintro e w6 ⟨v6, F6, rfl, o6, f6, hb6⟩; obtain ⟨z6, d6, rfl⟩ := own_slice o6; have HA5 := Lib.hid (below_then (below_then HB9.out ((Below.refl _ W9).drew)) hb5); have HA6 := Lib.hid (below_then HA5.out hb6); have HNX := Lib.hid (HN.out w6 HA6.out [(.str x.name, .string x.name, []), (strsD x.fields, .slice z6 x.fields.length d6, F6), (.int 0, .int .i64 0, [])] rfl (recE_els2 o6 (foot_le f6 HA5.out.size (Nat.le_refl _))).1 (recE_els2 (w := wr) o6 (foot_le f6 HA5.out.size (Nat.le_refl _))).2); obtain ⟨⟨e0, y0⟩, x0⟩ := HF.out w6 (k * 3) (by omega) HA6.out; obtain ⟨⟨e1, y1⟩, x1⟩ := HF.out w6 (k * 3 + 1) (by omega) HA6.out; obtain ⟨⟨e2, y2⟩, x2⟩ := HF.out w6 (k * 3 + 2) (by omega) HA6.out; clear o6 f6))
        all_goals
          clear HS HT HN HF y0 y1 y2 x0 x1 x2 hb5 hb6 V9 V39
          go_wp2_with fail
          go_roundw
          case rel => exact ⟨k + 1, by go_num, by omega, .inr ⟨hne, g1, dr, rfl, HNX.out⟩⟩
          case measure => first | (simp [intOf]; done) | (simp [intOf]; omega)
      · obtain rfl : k = u.recs.length := by omega
        obtain ⟨F1, hO1, hF1⟩ := HRM.out.done (fun _ => rfl) (by decide)
        have hn0 : ∀ {b : Nat}, u.recs ≠ [] ∧ (Value.slice ar u.recs.length dr).ownBlock = some b → (w.heap.size + 2 ≤ b ∧ b < wc.heap.size) ∧ b ≠ b3 ∧ b ∉ Fg ∧ (u.procs.length ≠ 0 → (Value.slice ap u.procs.length dp).ownBlock ≠ some b) := fun {b} h => ⟨EI.out.2.1.1.own1 (fun e => h.1 (List.length_eq_zero_iff.1 e)) b h.2, EI.out.2.2.2.2.2.1 (fun e => h.1 (List.length_eq_zero_iff.1 e)) b h.2⟩
        have hb3 := EI.out.2.2.2.1
        have hFg := EI.out.2.2.2.2.1
        have kp : ∀ b, b < wc.heap.size → (b < w.heap.size + 2 ∨ b = b3 ∨ b ∈ Fg) → wr.heap[b]? = wc.heap[b]? := fun b hb h => hrm.keep hb fun h0 h1 => by
          obtain ⟨h2, h3, h4, _⟩ := hn0 ⟨h0, h1⟩
          rcases h with h | h | h
          · omega
          · exact h3 h
          · exact h4 h
        have VA := Lib.hid (EI.out.1.1.keep (kp _ (by omega) (.inl (by omega))))
        have VZ := Lib.hid (EI.out.1.2.1.keep (kp _ (by omega) (.inl (by omega))))
        have OG := Lib.hid (Own.keep _ _ _ (fun b hb => kp b (hFg b hb).2.1 (.inr (.inr hb))) EI.out.2.1.2.1)
        have hp : AnyRow 9 u.procs.length (w.heap.size + 2) wr (.slice ap u.procs.length dp) := EI.out.2.1.2.2.keep2 hrs (fun hn b hb => hrm.keep (EI.out.2.1.2.2.own1 hn b hb).2 fun h0 h1 => (hn0 ⟨h0, h1⟩).2.2.2 hn hb)
        have HP0 : Hid (RowM (fun p => (Pc.erase p).ds) 9 wr u.procs 0 (.slice ap u.procs.length dp) wr) := Lib.hid hp.rowM
        have HO1 := Lib.hid hO1
        have HF1 : Hid (∀ b ∈ F1, w.heap.size + 2 ≤ b ∧ b < wr.heap.size ∧ b ≠ b3 ∧ b ∉ Fg) := Lib.hid (fun b hb => by
          rcases hF1 b hb with h | h
          · obtain ⟨h2, h3, h4, _⟩ := hn0 h
            exact ⟨h2.1, by omega, h3, h4⟩
          · exact ⟨by omega, h.2, by omega, fun h5 => by have := hFg b h5; omega⟩)
        have HFG : Hid (∀ b ∈ Fg, w.heap.size + 2 ≤ b ∧ b < wr.heap.size ∧ b ≠ b3) := Lib.hid (fun b hb => ⟨(hFg b hb).1, by have := (hFg b hb).2.1; omega, (hFg b hb).2.2⟩)
        have HG3 : Hid (u.procs ≠ [] → ∀ b, (Value.slice ap u.procs.length dp).ownBlock = some b → w.heap.size + 2 ≤ b ∧ b < wr.heap.size ∧ b ≠ b3 ∧ b ∉ Fg ∧ b ∉ F1) := Lib.hid (fun h0 b hb => by
          have hn : u.procs.length ≠ 0 := fun e => h0 (List.length_eq_zero_iff.1 e)
          have h1 := EI.out.2.1.2.2.own1 hn b hb
          have h2 := EI.out.2.2.2.2.2.2 hn b hb
          refine ⟨h1.1, by omega, h2.1, h2.2, fun h5 => ?_⟩
          rcases hF1 b h5 with h | h
          · exact (hn0 h).2.2.2 hn hb
          · omega)
        have HB3 : Hid (w.heap.size + 2 ≤ b3 ∧ b3 < wr.heap.size) := Lib.hid ⟨hb3.1, by omega⟩
        have s2 := (VA.out 2 _ rfl).1
        clear hO1 hF1 hn0 hb3 hFg kp hp hrm hbw
        go_wp2
        clear s2
        obtain ⟨WL, hWL⟩ : ∃ W, W = wr := ⟨_, rfl⟩
        subst hWL
        go_loopw [6, 7, 41] (fun _ _ i wr => ∃ k : Nat, i = .int .i64 k ∧ k ≤ u.procs.length ∧ RowM (fun p => (Pc.erase p).ds) 9 WL u.procs k (.slice ap u.procs.length dp) wr) (fun _ _ i _ => u.procs.length - (intOf i).toNat)
        case atStart => exact ⟨0, rfl, Nat.zero_le _, HP0.out⟩
        case round =>
          clear HP0
          obtain ⟨k, rfl, hk, hrq⟩ := hrel
          have HRQ := Lib.hid hrq
          have hrs2 := hrq.size
          have hbw : Below w.heap.size w wr := HBW.out.trans (hrq.below (by have := HB3.out; omega) (fun h0 b hb => by have := HG3.out h0 b hb; omega))
          have HV3q := Lib.hid (HV3.out.keep (hrq.keep HB3.out.2 (fun h0 h => (HG3.out h0 b3 h).2.2.1 rfl)))
          have HBWq := Lib.hid hbw
          by_cases hlt : k < u.procs.length
          · rcases hrq with ⟨h0, _⟩ | ⟨hne, g1, cc, e, hfm⟩
            · rw [h0] at hlt; simp at hlt
            injection e with e1 e2 e3
            subst e1 e3
            have hg1 := HG3.out hne g1 rfl
            have HG1 := Lib.hid hg1
            have HFM := Lib.hid hfm
            obtain ⟨g, o, rfl, q0, ⟨v5, q1, k5⟩, ⟨v6, q2, k6⟩, ⟨q3, q4, q5, q6⟩, ⟨v7, q7, k7⟩, q8⟩ := proc_at H3.out k hlt
            have hxb : u.procs[k].bulk ≤ 1048576 := by have := wsum_mem Pc.bulk (List.getElem_mem hlt); have := HBU.out.2; omega
            obtain ⟨a5, c5, rfl⟩ := is_slice k5
            obtain ⟨a6, c6, rfl⟩ := is_slice k6
            obtain ⟨a7, c7, rfl⟩ := kids_len k7
            have r0 := subw_below hbw _ _ _ q0
            have r1 := subw_below hbw _ _ _ q1
            have r2 := subw_below hbw _ _ _ q2
            have r3 := subw_below hbw _ _ _ q3
            have r4 := subw_below hbw _ _ _ q4
            have r5 := subw_below hbw _ _ _ q5
            have r6 := subw_below hbw _ _ _ q6
            have r7 := subw_below hbw _ _ _ q7
            have r8 := subw_below hbw _ _ _ q8
            have K5 := Lib.hid k5
            have K6 := Lib.hid k6
            have K7 := Lib.hid k7
            have HN := Lib.hid (fun w2 (hb2 : Below wr.heap.size wr w2) es he ho hp => HFM.out.next (w1 := w2) (z := 9) (fun _ => rfl) (any_len 9) hlt hb2 es he ho hp)
            have HF := Lib.hid (fun w2 j hj hb => HFM.out.cell (w1 := w2) (z := 9) (fun _ => rfl) (any_len 9) (Nat.le_of_lt hlt) j hj hb)
            clear q0 q1 q2 q3 q4 q5 q6 q7 q8 k5 k6 k7 hfm
            generalize u.procs[k] = x at r0 r1 r2 r3 r4 r5 r6 r7 r8 K5 K6 K7 hxb HN
            unfold Pc.bulk at hxb
            have hx0 : (x.name.size : Int) ≤ 1048576 := by omega
            have hx5 : strsB x.params ≤ 1048576 := by omega
            have hx6 : strsB x.locals ≤ 1048576 := by omega
            have hx7 : x.body.bulk ≤ 1048576 := by omega
            have k0 : (0 : Int) ≤ k := by omega
            have k1 : (k : Int) < u.procs.length := by omega
            have hltz : k * 9 + 8 < u.procs.length * 9 := by omega
            have V9 := Lib.hid (Var.new wr #[.string x.name, .slice a5 x.params.length c5, .slice a6 x.locals.length c6, .int .i64 x.body.kind, .string x.body.text, .int .i64 x.body.num, .int .i64 x.body.line, .slice a7 x.body.kids.length c7, .int .i64 x.line] 55)
            have hb9 := bl1 wr (.cells #[.string x.name, .slice a5 x.params.length c5, .slice a6 x.locals.length c6, .int .i64 x.body.kind, .string x.body.text, .int .i64 x.body.num, .int .i64 x.body.line, .slice a7 x.body.kids.length c7, .int .i64 x.line] 55)
            have hz9 : (wr.alloc (.cells #[.string x.name, .slice a5 x.params.length c5, .slice a6 x.locals.length c6, .int .i64 x.body.kind, .string x.body.text, .int .i64 x.body.num, .int .i64 x.body.line, .slice a7 x.body.kids.length c7, .int .i64 x.line] 55)).heap.size = wr.heap.size + 1 := by simp
            have V39 := Lib.hid (HV3q.out.later hb9)
            have HB9 := Lib.hid hb9
            have HZ9 := Lib.hid hz9
            clear hxb hb9 hz9 hbw
            go_wp2_with fail
            obtain ⟨W9, hW9⟩ : ∃ W, wr.alloc (.cells #[.string x.name, .slice a5 x.params.length c5, .slice a6 x.locals.length c6, .int .i64 x.body.kind, .string x.body.text, .int .i64 x.body.num, .int .i64 x.body.line, .slice a7 x.body.kids.length c7, .int .i64 x.line] 55) = W := ⟨_, rfl⟩
            rw [hW9] at V9 V39 HB9 HZ9 ⊢
            obtain ⟨bt, hbt⟩ : ∃ n, wr.heap.size = n := ⟨_, rfl⟩
            have HBT := Lib.hid hbt
            rw [hbt] at V9 HZ9 hrs2 ⊢
            clear hW9 hbt r0 r1 r2 r3 r4 r5 r6 r7 r8
            have hz9 := HZ9.out
            have hb3 := HB3.out
            have HS : Hid (∀ W, OnlyF [g1] W9 W → (W.cell? ⟨b3, 2, none⟩ = some (.slice (some ⟨g1, 0, none⟩) u.procs.length dp) ∧ W.cell? ⟨bt, 0, none⟩ = some (.string x.name) ∧ W.cell? ⟨bt, 1, none⟩ = some (.slice a5 x.params.length c5) ∧ W.cell? ⟨bt, 2, none⟩ = some (.slice a6 x.locals.length c6) ∧ W.cell? ⟨bt, 3, none⟩ = some (.int .i64 x.body.kind) ∧ W.cell? ⟨bt, 4, none⟩ = some (.string x.body.text) ∧ W.cell? ⟨bt, 5, none⟩ = some (.int .i64 x.body.num) ∧ W.cell? ⟨bt, 6, none⟩ = some (.int .i64 x.body.line) ∧ W.cell? ⟨bt, 7, none⟩ = some (.slice a7 x.body.kids.length c7)) ∧ OnlyF [g1] W9 W) := Lib.hid (fun W hW => by
              have U := V9.out.keep (hW.2 bt (by rw [List.mem_singleton]; omega) (by omega))
              have U3 := V39.out.keep (hW.2 b3 (by rw [List.mem_singleton]; exact fun h => hg1.2.2.1 h.symm) (by omega))
              exact ⟨⟨(U3 2 _ rfl).1, (U 0 _ rfl).1, (U 1 _ rfl).1, (U 2 _ rfl).1, (U 3 _ rfl).1, (U 4 _ rfl).1, (U 5 _ rfl).1, (U 6 _ rfl).1, (U 7 _ rfl).1⟩, hW⟩)
            have HWB : Hid (∀ W, OnlyF [g1] W9 W → Below w.heap.size w W) := Lib.hid (fun W hW => (below_then HBWq.out HB9.out).trans (hW.below (m := w.heap.size) (fun b hb => by rw [List.mem_singleton.1 hb]; omega) (by have := (below_then HBWq.out HB9.out).size; omega)))
            have HT5 := Lib.hid (fun W (hW : OnlyF [g1] W9 W) => impl_texts _ x.params W (K5.out.later (HWB.out W hW)) hx5)
            have HT6 := Lib.hid (fun W (hW : OnlyF [g1] W9 W) => impl_texts _ x.locals W (K6.out.later (HWB.out W hW)) hx6)
            have HT7 := Lib.hid (fun W (hW : OnlyF [g1] W9 W) => impl_erase x.body hx7 W _ (K7.out.later (HWB.out W hW)))
            unfold RetD at HT5 HT6
            unfold RetE at HT7
            clear hz9 hb3 hg1 hx7 hx5 hx6
            go_region_held3 (fun w' => (w'.cell? ⟨b3, 2, none⟩ = some (.slice (some ⟨g1, 0, none⟩) u.procs.length dp) ∧ w'.cell? ⟨bt, 0, none⟩ = some (.string x.name) ∧ w'.cell? ⟨bt, 1, none⟩ = some (.slice a5 x.params.length c5) ∧ w'.cell? ⟨bt, 2, none⟩ = some (.slice a6 x.locals.length c6) ∧ w'.cell? ⟨bt, 3, none⟩ = some (.int .i64 x.body.kind) ∧ w'.cell? ⟨bt, 4, none⟩ = some (.string x.body.text) ∧ w'.cell? ⟨bt, 5, none⟩ = some (.int .i64 x.body.num) ∧ w'.cell? ⟨bt, 6, none⟩ = some (.int .i64 x.body.line) ∧ w'.cell? ⟨bt, 7, none⟩ = some (.slice a7 x.body.kids.length c7)) ∧ OnlyF [g1] W9 w')
              (first | (with_reducible exact HS.out _ (OnlyF.set (OnlyF.set (OnlyF.set (OnlyF.set (OnlyF.set (OnlyF.set (OnlyF.set (OnlyF.set (OnlyF.set HO7.out hm1 _ _) hm1 _ _) hm1 _ _) hm1 _ _) hm1 _ _) hm1 _ _) hm1 _ _) hm1 _ _) hm1 _ _)) | (with_reducible assumption) | (with_reducible exact HS.out _ (heldO_last (by assumption))) | (with_reducible exact HS.out _ ((OnlyF.refl _ _).later (Below.refl _ _).drew)) | (with_reducible exact HS.out _ (heldO_then (by assumption) hb4)) | (with_reducible exact HS.out _ (heldO_then (by assumption) hb5)) | (with_reducible exact HS.out _ (heldO_then (by assumption) hb6)) | (with_reducible exact HS.out _ (heldO_then (by assumption) hb7)))
              (first
                | (go_at_call 27; refine (clone8 x.name _ hx0).mono ?_; rintro e w4 ⟨rfl, hb4⟩; have HA4 := Lib.hid (below_then (below_then HB9.out ((Below.refl _ W9).drew)) hb4))
                | (go_at_call 25; (with_reducible refine (HT5.out _ (heldO_last (by assumption))).mono ?_); rintro e w5 ⟨v5, F5, rfl, o5, f5, hb5⟩; obtain ⟨z5, d5, rfl⟩ := own_slice o5; have HA5 := Lib.hid (below_then HA4.out hb5); have O5 := Lib.hid o5; have G5 := Lib.hid (foot_le f5 HA4.out.size (Nat.le_refl _)); clear o5 f5)
                | (go_at_call 25; (with_reducible refine (HT6.out _ (heldO_last (by assumption))).mono ?_); rintro e w6 ⟨v6, F6, rfl, o6, f6, hb6⟩; obtain ⟨z6, d6, rfl⟩ := own_slice o6; have A56 := Lib.hid (apart_foot G5.out f6 (Nat.le_refl _)); have HA6 := Lib.hid (below_then HA5.out hb6); have O6 := Lib.hid o6; have G6 := Lib.hid (foot_le f6 HA5.out.size (Nat.le_refl _)); clear o6 f6)
                | (go_at_call 28; refine (HT7.out _ (heldO_last (by assumption))).mono ?_; rintro e w7 ⟨v7, F7, rfl, o7, f7, hb7⟩; obtain ⟨z7, d7, rfl⟩ := kids_len (OwnK.kids _ o7); have HA7 := Lib.hid (below_then HA6.out hb7); have HO7 := Lib.hid (heldO_then (by assumption) hb7); have hm1 : g1 ∈ [g1] := List.mem_singleton.2 rfl; have O7' := Lib.hid o7; have G7' := Lib.hid f7; obtain ⟨⟨e0, y0⟩, x0⟩ := HF.out w7 (k * 9) (by omega) HA7.out; obtain ⟨⟨e1, y1⟩, x1⟩ := HF.out w7 (k * 9 + 1) (by omega) HA7.out; obtain ⟨⟨e2, y2⟩, x2⟩ := HF.out w7 (k * 9 + 2) (by omega) HA7.out; obtain ⟨⟨e3, y3⟩, x3⟩ := HF.out w7 (k * 9 + 3) (by omega) HA7.out; obtain ⟨⟨e4, y4⟩, x4⟩ := HF.out w7 (k * 9 + 4) (by omega) HA7.out; obtain ⟨⟨e5, y5⟩, x5⟩ := HF.out w7 (k * 9 + 5) (by omega) HA7.out; obtain ⟨⟨e6, y6⟩, x6⟩ := HF.out w7 (k * 9 + 6) (by omega) HA7.out; obtain ⟨⟨e7, y7⟩, x7⟩ := HF.out w7 (k * 9 + 7) (by omega) HA7.out; obtain ⟨⟨e8, y8⟩, x8⟩ := HF.out w7 (k * 9 + 8) (by omega) HA7.out; clear o7 f7))
            all_goals
              have A57 := Lib.hid (apart_foot (foot_le G5.out (Nat.le_refl _) hb6.size) G7'.out (Nat.le_refl _))
              have A67 := Lib.hid (apart_foot G6.out G7'.out (Nat.le_refl _))
              have O7 := Lib.hid (OwnP.mk7 (x := x) ((O5.out.later (fun b hb => (G5.out b hb).2) hb6).later (fun b hb => Nat.lt_of_lt_of_le (G5.out b hb).2 hb6.size) hb7) (O6.out.later (fun b hb => (G6.out b hb).2) hb7) (own_ex O7'.out) A56.out A57.out A67.out)
              have G7 := Lib.hid (And.intro (foot_le G5.out (Nat.le_refl wr.heap.size) (Nat.le_trans hb6.size hb7.size)) (And.intro (foot_le G6.out (Nat.le_refl wr.heap.size) hb7.size) (foot_le G7'.out HA6.out.size (Nat.le_refl _))))
              have HNX := Lib.hid (HN.out w7 HA7.out [(.str x.name, .string x.name, []), (strsD x.params, .slice z5 x.params.length d5, F5), (strsD x.locals, .slice z6 x.locals.length d6, F6), (.int x.body.erase.kind, .int .i64 x.body.erase.kind, []), (.str x.body.erase.text, .string x.body.erase.text, []), (.int x.body.erase.num, .int .i64 x.body.erase.num, []), (.int x.body.erase.line, .int .i64 x.body.erase.line, []), (.ex x.body.erase.kids, .slice z7 x.body.erase.kids.length d7, F7), (.int 0, .int .i64 0, [])] rfl (procE_els2 O7.out G7.out).1 (procE_els2 (w := wr) O7.out G7.out).2)
              clear O7' G7' O5 G5 O6 G6 HS HT5 HT6 HT7 HN HF hb4 hb5 hb6 hb7 V9 V39 y0 x0 y1 x1 y2 x2 y3 x3 y4 x4 y5 x5 y6 x6 y7 x7 y8 x8
              go_wp2_with fail
              go_roundw
              case rel => exact ⟨k + 1, by go_num, by omega, .inr ⟨hne, g1, dp, rfl, HNX.out⟩⟩
              case measure => first | (simp [intOf]; done) | (simp [intOf]; omega)
          · obtain rfl : k = u.procs.length := by omega
            obtain ⟨F3, hO3, hF3⟩ := HRQ.out.done (fun _ => rfl) (by decide)
            have kq : ∀ b, b < WL.heap.size → (b < w.heap.size + 2 ∨ b = b3 ∨ b ∈ Fg ∨ b ∈ F1) → wr.heap[b]? = WL.heap[b]? := fun b hb h => hrq.keep hb fun h0 h1 => by
              obtain ⟨h2, h3, h4, h5, h6⟩ := HG3.out h0 b h1
              rcases h with h | h | h | h
              · omega
              · exact h4 h
              · exact h5 h
              · exact h6 h
            have hb3 := HB3.out
            have HOG := Lib.hid (Own.keep _ _ _ (fun b hb => kq b (HFG.out b hb).2.1 (.inr (.inr (.inl hb)))) OG.out)
            have HOR := Lib.hid (Own.keep _ _ _ (fun b hb => kq b (HF1.out b hb).2.1 (.inr (.inr (.inr hb)))) HO1.out)
            have VZq := VZ.out.keep (kq (w.heap.size + 1) (by omega) (.inl (by omega)))
            have g0 := (HV3q.out 0 _ rfl).1
            have g1 := (HV3q.out 1 _ rfl).1
            have g2 := (HV3q.out 2 _ rfl).1
            obtain ⟨e0, f0⟩ := VZq 0 _ rfl
            obtain ⟨e1, f1⟩ := VZq 1 _ rfl
            obtain ⟨e2, f2⟩ := VZq 2 _ rfl
            have HO3 := Lib.hid hO3
            have HF3 : Hid (∀ b ∈ F3, (w.heap.size + 2 ≤ b ∧ b < wr.heap.size) ∧ b ∉ Fg ∧ b ∉ F1) := Lib.hid (fun b hb => by
              rcases hF3 b hb with h | h
              · obtain ⟨h2, h3, h4, h5, h6⟩ := HG3.out h.1 b h.2
                exact ⟨⟨h2, by omega⟩, h5, h6⟩
              · exact ⟨⟨by omega, h.2⟩, fun h5 => by have := HFG.out b h5; omega, fun h5 => by have := HF1.out b h5; omega⟩)
            clear hO3 hF3 kq hrq VZq
            go_wp2
            refine bodyPost_ret (v := unV (.slice ar u.recs.length dr) (.slice ag u.globs.length dg) (.slice ap u.procs.length dp)) (by simp [results, Try.results8, go_sem, e0, e1, e2]) rfl ⟨_, _, _, F1, Fg, F3, rfl, ⟨⟨?_, ?_, ?_⟩, ?_, ?_, ?_⟩, ⟨fun b hb => ?_, fun b hb => ?_, fun b hb => ?_⟩, ?_⟩
            · have h9 := HOR.out
              have e9 : recsD u.erase.recs = .row u.recs.length (u.recs.flatMap fun r => (Rc.erase r).ds) := by show D.row (u.recs.map Rc.erase).length ((u.recs.map Rc.erase).flatMap Rc.ds) = _; rw [List.length_map, List.flatMap_map]
              rw [e9]
              exact Own.keep _ _ _ (fun b hb => by have := (HF1.out b hb).1; repeat rw [set_keep (show b ≠ w.heap.size + 1 by omega)]) h9
            · exact Own.keep _ _ _ (fun b hb => by have := (HFG.out b hb).1; repeat rw [set_keep (show b ≠ w.heap.size + 1 by omega)]) HOG.out
            · have h9 := HO3.out
              have e9 : procsD u.erase.procs = .row u.procs.length (u.procs.flatMap fun p => (Pc.erase p).ds) := by show D.row (u.procs.map Pc.erase).length ((u.procs.map Pc.erase).flatMap Pc.ds) = _; rw [List.length_map, List.flatMap_map]
              rw [e9]
              exact Own.keep _ _ _ (fun b hb => by have := (HF3.out b hb).1.1; repeat rw [set_keep (show b ≠ w.heap.size + 1 by omega)]) h9
            · exact fun b h1 h2 => (HF1.out b h1).2.2.2 h2
            · exact fun b h1 h2 => (HF3.out b h2).2.2 h1
            · exact fun b h1 h2 => (HF3.out b h2).2.1 h1
            · have := HF1.out b hb
              simp only [set_size]
              omega
            · have := HFG.out b hb
              simp only [set_size]
              omega
            · have := (HF3.out b hb).1
              simp only [set_size]
              omega
            · repeat (refine Below.setCell ?_ (Nat.le_succ _) _)
              exact HBWq.out
end Go.Proofs.Ytiiogpafgoeblaa
