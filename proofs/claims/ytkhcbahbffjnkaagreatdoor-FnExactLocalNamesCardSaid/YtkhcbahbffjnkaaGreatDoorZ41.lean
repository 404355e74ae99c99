/- Joined texts: R0, N26, G9. No conditions besides those that each states. -/
import Derived.Test.YtkhcbahbffjnkaaGreatDoorShelf
import Derived.Deep.Fields
import Derived.Lib.SmallJoins
import Derived.Test.YtkhcbahbffjnkaaGreatDoorZ7
import Derived.Test.YtkhcbahbffjnkaaGreatDoorZ11
/- strings.Clone: the string itself. -/
namespace Go.Proofs.YtkhcbahbffjnkaaGreatDoor
open Go.RowKit
set_option linter.unusedVariables false

theorem clone8 (s : ByteArray) (w : World) (h : (s.size : Int) ≤ 1048576) :
    Calls Tryz.prog 50 #[.string s] w fun e w' => e = .returned (.string s) ∧ Below w.heap.size w w' := by
  have HC := Lib.hid (fun W => Tryz.stringslite_Clone s W (by omega))
  go_enter Tryz.func50, Tryz.ntmps50
  go_wp2_with (go_at_call 132; refine (HC.out _).mono ?_; rintro e w1 ⟨rfl, b1⟩)
  go_ret
  exact ⟨rfl, b1⟩
end Go.Proofs.YtkhcbahbffjnkaaGreatDoor
/- EraseLines of the program. No conditions. -/
namespace Go.Proofs.YtkhcbahbffjnkaaGreatDoor
open Go.RowKit Go.Shelf
set_option linter.unusedVariables false
attribute [local go_sem] Oper.semAt_some

theorem set_cell_other (W : World) (g o j : Nat) (u : Value) (h : o ≠ j) : (W.setCell ⟨g, o, none⟩ u).cell? ⟨g, j, none⟩ = W.cell? ⟨g, j, none⟩ := by
  have : ¬ j = o := fun e => h e.symm
  go_simp
theorem set_size_n (W : World) (g o : Nat) (u : Value) : (W.setCell ⟨g, o, none⟩ u).heap.size = W.heap.size := by simp [World.setCell]
set_option maxRecDepth 100000 in
set_option maxHeartbeats 4000000 in
theorem erase_in (t : Ex.T) (hb : t.bulk ≤ 1048576) (v : Value) (w : World) (hk : Kids w v t.kids) : CallsIn Fence.wide 6 Tryz.prog 16 #[exV t v] w (RetE w t.erase) := by
  have hro : Fence.wide.round = none := rfl
  obtain ⟨a, c, rfl⟩ := kids_len hk
  refine callsIn_of_wp_marks Tryz.func16 rfl trivial ?_ hro
  simp only [Tryz.ntmps16, List.size_toArray, List.length_cons, List.length_nil, Nat.reduceAdd, Nat.reduceSub, Array.replicate_succ, Array.replicate_zero, List.push_toArray, List.append_toArray, List.nil_append, List.cons_append]
  gi_wp2_with (refine ⟨trivial, ?_⟩; gi_at_call 49; refine (nodes_of Fence.wide _ trivial hro _ _).mono ?_; rintro e w' ⟨rfl, rfl⟩)
  have hF1 := (FreeE.new (w.alloc (.cells #[.int .i64 t.kind, .string t.text, .int .i64 t.num, .int .i64 t.line, .slice a t.kids.length c] 26)) 0 ⟨#[]⟩ 0 0 (.slice none 0 0) 26)
  have hR1 := root_row ((w.alloc (.cells #[.int .i64 t.kind, .string t.text, .int .i64 t.num, .int .i64 t.line, .slice a t.kids.length c] 26)).alloc (.cells #[.int .i64 0, .string ⟨#[]⟩, .int .i64 0, .int .i64 0, .slice none 0 0] 26)) t (.slice a t.kids.length c)
  obtain ⟨w2, hw2⟩ : ∃ w2, (w.alloc (.cells #[.int .i64 t.kind, .string t.text, .int .i64 t.num, .int .i64 t.line, .slice a t.kids.length c] 26)).alloc (.cells #[.int .i64 0, .string ⟨#[]⟩, .int .i64 0, .int .i64 0, .slice none 0 0] 26) = w2 := ⟨_, rfl⟩
  have hz2 : w2.heap.size = w.heap.size + 2 := by rw [← hw2]; simp
  have hbw2 : Below w.heap.size w w2 := by rw [← hw2]; exact bl2 _ _ _
  rw [World.size_alloc] at hF1
  rw [hw2] at hF1 hR1 ⊢
  clear hw2
  have hC1 := cell_one (w2.alloc (.cells #[.int .i64 t.kind, .string t.text, .int .i64 t.num, .int .i64 t.line, .slice a t.kids.length c] 26)) (.pointer (some ⟨w.heap.size + 1 + 1, 0, none⟩)) 65
  rw [World.size_alloc, hz2] at hC1
  obtain ⟨w4, hw4⟩ : ∃ w4, (w2.alloc (.cells #[.int .i64 t.kind, .string t.text, .int .i64 t.num, .int .i64 t.line, .slice a t.kids.length c] 26)).alloc (.cells #[.pointer (some ⟨w.heap.size + 1 + 1, 0, none⟩)] 65) = w4 := ⟨_, rfl⟩
  have hz4 : w4.heap.size = w.heap.size + 4 := by rw [← hw4]; simp; omega
  have hb24 : Below w2.heap.size w2 w4 := by rw [← hw4]; exact bl2 _ _ _
  have hR4 : RowE w4 (w.heap.size + 1 + 1) 1 1 (rowV [(t, .slice a t.kids.length c, [])]) := by
    rw [← hz2, ← hw4]
    exact hR1.keep (Below.heap_alloc _ _ _ (by simp))
  have hF4 := hF1.later hb24
  rw [hw4] at hC1 ⊢
  have hbw4 : Below w.heap.size w w4 := hbw2.trans (hb24.mono hbw2.size)
  clear hw4 hF1 hR1 hb24 hbw2 hz2
  refine range_all (X := XN) (encs := fun x => xnV x) hro (by omega) (gf := 130) (lb := #[.pointer (some ⟨w.heap.size + 1 + 1 + 1, 0, none⟩)]) rfl trivial (enters_of Tryz.func130 (by kernel_rfl) rfl) (fun _ => rfl)
    (XPre w (w4.heap.size + 1)) XRel (fun W1 W2 => EraseAt (w.heap.size + 1 + 1) 0 1 [(t, .slice a t.kids.length c, [])] t W1 W2)
    (fun x W o h => xpre_put (by omega) o h) (fun x W W3 o o' hl hp h => xrel_put hl hp h) (fun x W W3 o hp h hl _ => xrel_keep hp h hl)
    (fun x => { tmps := #[exV t (.slice a t.kids.length c), .pointer (some ⟨w.heap.size, 0, none⟩), .pointer (some ⟨w.heap.size + 1, 0, none⟩), .pointer (some ⟨w.heap.size + 1 + 1, 0, none⟩), .pointer (some ⟨x.g, x.i * 5, none⟩), .agg #[.int .i64 t.kind, .string t.text, .int .i64 t.num, .int .i64 t.line, .slice a t.kids.length c], .func (.func 130) #[] #[.pointer (some ⟨w.heap.size + 1 + 1 + 1, 0, none⟩)], .pointer (some ⟨x.g, x.i * 5, none⟩), .int .i64 (x.d : Int), undef, undef, undef, undef, undef, undef, undef, undef, undef, undef, undef, undef, undef, undef, undef, undef, undef, undef, undef, undef], defers := [] }) ?assign ?body ?call ?done
  case assign =>
    intro x W K hK
    dsimp only [xnV]
    gi_wp2
    first | exact hK | simpa using hK
  case body =>
    intro x W hp
    have hL4 : x.g ≠ w4.heap.size + 1 := hp.2.1.2
    obtain ⟨⟨c1, c4, u, c3⟩, f1, f3, f4⟩ := row_free hp.1.2 hp.1.1
    have hlt := hp.1.2.lt
    have HP := Lib.hid hp
    have hcl := clone8 x.p.1.text (W.setCell ⟨x.g, x.i * 5 + 3, none⟩ (.int .i64 0)) (by have := hp.2.2.2.2.2; omega)
    have HCL := Lib.hid hcl
    clear hcl hp hR4 hF4 hC1 hbw4
    gi_wp2
    refine ⟨trivial, ?_⟩
    refine (CallsIn.inRound _ (callsIn_wide.2 HCL.out)).mono ?_
    rintro e W2 ⟨rfl, b2⟩
    have hlt1 : x.g < (W.setCell ⟨x.g, x.i * 5 + 3, none⟩ (.int .i64 0)).heap.size := by rw [set_size_n]; exact hlt
    have d1 : W2.cell? ⟨x.g, x.i * 5 + 1, none⟩ = some (.string x.p.1.text) := (cell_keep (b2.block x.g hlt1) _).trans ((set_cell_other W x.g _ _ _ (by omega)).trans c1)
    have d4 : W2.cell? ⟨x.g, x.i * 5 + 4, none⟩ = some x.p.2.1 := (cell_keep (b2.block x.g hlt1) _).trans ((set_cell_other W x.g _ _ _ (by omega)).trans c4)
    have g1 : W2.frozen? ⟨x.g, x.i * 5 + 1, none⟩ = false := (b2.frozen (p := ⟨x.g, x.i * 5 + 1, none⟩) hlt1).trans (by rw [World.frozen?_setCell]; exact f1)
    have g4 : W2.frozen? ⟨x.g, x.i * 5 + 4, none⟩ = false := (b2.frozen (p := ⟨x.g, x.i * 5 + 4, none⟩) hlt1).trans (by rw [World.frozen?_setCell]; exact f4)
    have hlt2 : x.g < (W2.setCell ⟨x.g, x.i * 5 + 1, none⟩ (.string x.p.1.text)).heap.size := by have := b2.size; rw [set_size_n]; omega
    have hbw2 : Below w.heap.size w (W2.setCell ⟨x.g, x.i * 5 + 1, none⟩ (.string x.p.1.text)) := (((HP.out.2.2.1.setCell (p := ⟨x.g, x.i * 5 + 3, none⟩) HP.out.2.1.1 _).trans (b2.mono (by have := HP.out.2.2.1.size; rw [set_size_n]; exact this)))).setCell (p := ⟨x.g, x.i * 5 + 1, none⟩) HP.out.2.1.1 _
    have HKC := Lib.hid (kid_clone HP.out.2.2.2.1 hbw2 HP.out.2.2.2.2.1)
    have d4b : (W2.setCell ⟨x.g, x.i * 5 + 1, none⟩ (.string x.p.1.text)).cell? ⟨x.g, x.i * 5 + 4, none⟩ = some x.p.2.1 := (set_cell_other W2 x.g _ _ _ (by omega)).trans d4
    have g4b : (W2.setCell ⟨x.g, x.i * 5 + 1, none⟩ (.string x.p.1.text)).frozen? ⟨x.g, x.i * 5 + 4, none⟩ = false := by rw [World.frozen?_setCell]; exact g4
    have D4 := Lib.hid d4b
    have G4 := Lib.hid g4b
    have HB2 := Lib.hid b2
    clear c1 c4 c3 f1 f3 f4 hlt hlt1 hbw2 d4b g4b HCL b2
    gi_wp2
    refine ⟨trivial, ?_⟩
    refine (CallsIn.inRound _ (callsIn_wide.2 HKC.out)).mono ?_
    rintro e W4 ⟨v4, rfl, hs, b4⟩
    have e4 := subw_below b4 _ _ _ D4.out
    have k4 : W4.frozen? ⟨x.g, x.i * 5 + 4, none⟩ = false := (b4.frozen (p := ⟨x.g, x.i * 5 + 4, none⟩) hlt2).trans G4.out
    have HR := Lib.hid (xrel_of HP.out HB2.out b4 hs)
    obtain ⟨a5, n5, c5, rfl⟩ : ∃ a5 n5 c5, v4 = .slice a5 n5 c5 := by
      rcases hs with ⟨_, a, c, e⟩ | ⟨_, g, c, e, _⟩
      · exact ⟨_, _, _, e⟩
      · exact ⟨_, _, _, e⟩
    clear d1 d4 g1 g4 hlt2 HKC D4 G4 hs b4
    gi_wp2
    exact HR.out
  case call =>
    intro o ho hY
    have hz : ((w4.alloc (.deferred (some []))).alloc o).heap.size = w4.heap.size + 2 := by simp
    have hbn : Below w4.heap.size w4 ((w4.alloc (.deferred (some []))).alloc o) := bl2 _ _ _
    have hL1 : ((w4.alloc (.deferred (some []))).alloc o).heap[w4.heap.size + 1]? = some o := by
      have := World.alloc_heap_new (w4.alloc (.deferred (some []))) o
      rwa [World.size_alloc] at this
    refine (nodes_erase Fence.wide rfl trivial trivial hro w (w4.heap.size + 1) o ho (fun m x W h hl => YieldAt.any rfl m (hY x W h hl)) (6 - 1) (w.heap.size + 1 + 1) (w.heap.size + 1 + 1 + 1) t (.slice a t.kids.length c) _ hb
      (hR4.keep (hbn.block _ (by omega))) (by omega) (by omega) (hbw4.trans (hbn.mono hbw4.size)) hL1 hk (subw_below hbn _ _ _ hC1.1)).mono ?_
    rintro e W2 ⟨hv, he⟩
    obtain ⟨v2, F2, h1, h2, h3, h4⟩ := he
    exact ⟨hv, ⟨v2, F2, h1, h2, h3, h4⟩, (h2.2 _ (by omega) (by rw [hz]; omega)).trans hL1⟩
  case done =>
    intro o o' W2 he hl
    obtain ⟨v2, F2, h1, h2, h3, h4⟩ := he
    have hz : ((w4.alloc (.deferred (some []))).alloc o).heap.size = w4.heap.size + 2 := by simp
    have hbn : Below w4.heap.size w4 ((w4.alloc (.deferred (some []))).alloc o) := bl2 _ _ _
    have hD1 : ((w4.alloc (.deferred (some []))).alloc o).heap[w4.heap.size]? = some (.deferred (some [])) := (Below.heap_alloc _ _ _ (by simp)).trans (World.alloc_heap_new w4 _)
    have hD2 : W2.heap[w4.heap.size]? = some (.deferred (some [])) := (h2.2 _ (by omega) (by rw [hz]; omega)).trans hD1
    have hs2 := h2.size
    rw [hz] at hs2
    have hb2 : Below w.heap.size w W2 := (hbw4.trans (hbn.mono hbw4.size)).trans (h2.below (by omega) (by rw [hz]; omega))
    obtain ⟨W3, hW3⟩ : ∃ W3, W2.putObj (w4.heap.size + 1) o' = W3 := ⟨_, rfl⟩
    have hz3 : W3.heap.size = W2.heap.size := by rw [← hW3, World.putObj_size]
    have hb3 : Below w.heap.size w W3 := by rw [← hW3]; exact hb2.grown (grownBy_putObj' W2 _ o') hb2.size (fun k e => by cases e; omega)
    have hk3 : ∀ b, b ≠ w4.heap.size + 1 → W3.heap[b]? = W2.heap[b]? := fun b hb => by rw [← hW3]; exact World.putObj_heap_other hb
    have hD3 : W3.heap[w4.heap.size]? = some (.deferred (some [])) := (hk3 _ (by omega)).trans hD2
    have hr3 : RowE W3 (w.heap.size + 1 + 1) 1 1 (rowV [(t.erase, v2, F2)]) := RowE.keep h1 (hk3 _ (by omega))
    have h3K : OwnK W3 v2 (Ex.erases t.kids) F2 := OwnK.keep _ (fun b hb => hk3 b (by have := (h4 b hb).1; omega)) h3
    have hF : FreeE W3 (w.heap.size + 1) 0 ⟨#[]⟩ 0 0 (.slice none 0 0) := by
      have hh : W3.heap[w.heap.size + 1]? = w4.heap[w.heap.size + 1]? := ((hk3 _ (by omega)).trans (h2.2 _ (by omega) (by rw [hz]; omega))).trans (hbn.block _ (by omega))
      obtain ⟨⟨a0, a1, a2, a3, a4⟩, b0, b1, b2, b3, b4⟩ := hF4
      exact ⟨⟨(cell_keep hh 0).trans a0, (cell_keep hh 1).trans a1, (cell_keep hh 2).trans a2, (cell_keep hh 3).trans a3, (cell_keep hh 4).trans a4⟩, (World.frozen?_of_block (a := ⟨_, 0, none⟩) hh).trans b0, (World.frozen?_of_block (a := ⟨_, 1, none⟩) hh).trans b1, (World.frozen?_of_block (a := ⟨_, 2, none⟩) hh).trans b2, (World.frozen?_of_block (a := ⟨_, 3, none⟩) hh).trans b3, (World.frozen?_of_block (a := ⟨_, 4, none⟩) hh).trans b4⟩
    obtain ⟨⟨q0, q1, q2, q3⟩, q4⟩ := RowCells.node (rowE_cells (l := [(t.erase, v2, F2)]) rfl hr3) 0 (by simp)
    simp only [Nat.zero_mul, Nat.add_zero, Nat.zero_add, List.getElem_cons_zero, Ex.erase_kind, Ex.erase_text, Ex.erase_num, Ex.erase_line] at q0 q1 q2 q3 q4
    obtain ⟨⟨a0, a1, a2, a3, a4⟩, b0, b1, b2, b3, b4⟩ := hF
    obtain ⟨z2, d2, rfl⟩ := kids_len (OwnK.kids _ h3K)
    rw [hW3]
    have hl3 : w.heap.size + 3 < W3.heap.size := by omega
    have HB3 := Lib.hid hb3
    have HD3 := Lib.hid hD3
    have H3K := Lib.hid h3K
    have H4 := Lib.hid h4
    have HZ4 := Lib.hid hz4
    have HZ3 := Lib.hid hz3
    have HS2 := Lib.hid hs2
    have HZ := Lib.hid hz
    clear hR4 hF4 hC1 hbw4 h1 h2 h3 h4 hz hbn hD1 hD2 hs2 hb2 hW3 hz3 hb3 hk3 hD3 hr3 h3K hl hz4
    gi_wp2
    have r0 : (((((W3.setCell ⟨w.heap.size + 1, 0, none⟩ (.int .i64 t.kind)).setCell ⟨w.heap.size + 1, 1, none⟩ (.string t.text)).setCell ⟨w.heap.size + 1, 2, none⟩ (.int .i64 t.num)).setCell ⟨w.heap.size + 1, 3, none⟩ (.int .i64 0)).setCell ⟨w.heap.size + 1, 4, none⟩ (.slice z2 (Ex.erases t.kids).length d2)).cell? ⟨w.heap.size + 1, 0, none⟩ = some (.int .i64 t.kind) := by go_simp
    have r1 : (((((W3.setCell ⟨w.heap.size + 1, 0, none⟩ (.int .i64 t.kind)).setCell ⟨w.heap.size + 1, 1, none⟩ (.string t.text)).setCell ⟨w.heap.size + 1, 2, none⟩ (.int .i64 t.num)).setCell ⟨w.heap.size + 1, 3, none⟩ (.int .i64 0)).setCell ⟨w.heap.size + 1, 4, none⟩ (.slice z2 (Ex.erases t.kids).length d2)).cell? ⟨w.heap.size + 1, 1, none⟩ = some (.string t.text) := by go_simp
    have r2 : (((((W3.setCell ⟨w.heap.size + 1, 0, none⟩ (.int .i64 t.kind)).setCell ⟨w.heap.size + 1, 1, none⟩ (.string t.text)).setCell ⟨w.heap.size + 1, 2, none⟩ (.int .i64 t.num)).setCell ⟨w.heap.size + 1, 3, none⟩ (.int .i64 0)).setCell ⟨w.heap.size + 1, 4, none⟩ (.slice z2 (Ex.erases t.kids).length d2)).cell? ⟨w.heap.size + 1, 2, none⟩ = some (.int .i64 t.num) := by go_simp
    have r3 : (((((W3.setCell ⟨w.heap.size + 1, 0, none⟩ (.int .i64 t.kind)).setCell ⟨w.heap.size + 1, 1, none⟩ (.string t.text)).setCell ⟨w.heap.size + 1, 2, none⟩ (.int .i64 t.num)).setCell ⟨w.heap.size + 1, 3, none⟩ (.int .i64 0)).setCell ⟨w.heap.size + 1, 4, none⟩ (.slice z2 (Ex.erases t.kids).length d2)).cell? ⟨w.heap.size + 1, 3, none⟩ = some (.int .i64 0) := by go_simp
    have r4 : (((((W3.setCell ⟨w.heap.size + 1, 0, none⟩ (.int .i64 t.kind)).setCell ⟨w.heap.size + 1, 1, none⟩ (.string t.text)).setCell ⟨w.heap.size + 1, 2, none⟩ (.int .i64 t.num)).setCell ⟨w.heap.size + 1, 3, none⟩ (.int .i64 0)).setCell ⟨w.heap.size + 1, 4, none⟩ (.slice z2 (Ex.erases t.kids).length d2)).cell? ⟨w.heap.size + 1, 4, none⟩ = some (.slice z2 (Ex.erases t.kids).length d2) := by go_simp
    have hot : Oth (w.heap.size + 1) W3 (((((W3.setCell ⟨w.heap.size + 1, 0, none⟩ (.int .i64 t.kind)).setCell ⟨w.heap.size + 1, 1, none⟩ (.string t.text)).setCell ⟨w.heap.size + 1, 2, none⟩ (.int .i64 t.num)).setCell ⟨w.heap.size + 1, 3, none⟩ (.int .i64 0)).setCell ⟨w.heap.size + 1, 4, none⟩ (.slice z2 (Ex.erases t.kids).length d2)) := (((((Oth.refl _ W3).set _ _).set _ _).set _ _).set _ _).set _ _
    clear q0 q1 q2 q3 q4 a0 a1 a2 a3 a4 b0 b1 b2 b3 b4
    obtain ⟨W5, hW5⟩ : ∃ W5, (((((W3.setCell ⟨w.heap.size + 1, 0, none⟩ (.int .i64 t.kind)).setCell ⟨w.heap.size + 1, 1, none⟩ (.string t.text)).setCell ⟨w.heap.size + 1, 2, none⟩ (.int .i64 t.num)).setCell ⟨w.heap.size + 1, 3, none⟩ (.int .i64 0)).setCell ⟨w.heap.size + 1, 4, none⟩ (.slice z2 (Ex.erases t.kids).length d2)) = W5 := ⟨_, rfl⟩
    rw [hW5] at r0 r1 r2 r3 r4 hot ⊢
    clear hW5
    have hz4 := HZ4.out
    have hz3 := HZ3.out
    have hs2 := HS2.out
    have hD5 : W5.heap[w4.heap.size]? = some (.deferred (some [])) := (hot.2 _ (by omega) (by omega)).trans HD3.out
    have hb5 : Below w.heap.size w W5 := HB3.out.trans (hot.below (by omega) (by omega))
    have hk6 : ∀ b, b ≠ w4.heap.size → (W5.putObj w4.heap.size (.deferred none)).heap[b]? = W5.heap[b]? := fun b hb => World.putObj_heap_other hb
    have s0 := (cell_keep (hk6 (w.heap.size + 1) (by omega)) 0).trans r0
    have s1 := (cell_keep (hk6 (w.heap.size + 1) (by omega)) 1).trans r1
    have s2 := (cell_keep (hk6 (w.heap.size + 1) (by omega)) 2).trans r2
    have s3 := (cell_keep (hk6 (w.heap.size + 1) (by omega)) 3).trans r3
    have s4 := (cell_keep (hk6 (w.heap.size + 1) (by omega)) 4).trans r4
    refine ⟨by simp, .inl ⟨_, _, rfl, run_takeDeferred hD5, ?_⟩⟩
    refine ⟨exV t.erase (.slice z2 (Ex.erases t.kids).length d2), ?_, _, F2, rfl, ?_, fun b hb => ?_, ?_⟩
    · dsimp only [exV]
      rw [Ex.erase_kind, Ex.erase_text, Ex.erase_num, Ex.erase_line]
      simp [results, Tryz.results16, go_sem, s0, s1, s2, s3, s4]
    · rw [Ex.erase_kids]
      refine OwnK.keep _ (fun b hb => ?_) H3K.out
      have h1 := H4.out b hb
      rw [HZ.out] at h1
      rw [hk6 b (by omega), hot.2 b (by omega) (by omega)]
    · have h1 := H4.out b hb
      rw [HZ.out] at h1
      have h2 := hot.size
      rw [World.putObj_size]
      exact ⟨by omega, by omega⟩
    · exact hb5.trans (belowK_b (w := w) (Nat.le_refl _) W5 w4.heap.size _ _ (by omega) hD5 rfl rfl)
theorem impl_erase (t : Ex.T) (hb : t.bulk ≤ 1048576) (w : World) (v : Value) (hk : Kids w v t.kids) : Calls Tryz.prog 16 #[exV t v] w (RetE w t.erase) :=
  (callsIn_wide (n := 6)).1 (erase_in t hb v w hk)
end Go.Proofs.YtkhcbahbffjnkaaGreatDoor
/- A tree that came in. No conditions. -/
namespace Go.Proofs.YtkhcbahbffjnkaaGreatDoor
open Go.RowKit Go.Joins
open Go.Deep (hone_of choose_lt oneCellFields)
set_option linter.unusedVariables false

theorem one_cell {H : Type} {enc : TypeId × Value → H} {W : World} {base n : Nat} {spare : Nat → Bool} {held : Bool} {fs : Array Field} (hone : oneCellFields Tryz.prog fs = true) {cs : List Value} (hl : cs.length = 5) {xs : List (DataW H × List MemPlace)} (hlen : xs.length = fs.size)
    (hf : ∀ (i : Nat) (f : Field), fs[i]? = some f → DataW.trod enc Tryz.prog W base spare held n f.type ((cs.drop f.offset).take (Tryz.prog.cellsOf f.type)) = xs[i]?) (i : Nat) (hi : i < 5) (f : Field) (hfi : fs[i]? = some f) : ∃ y, DataW.trod enc Tryz.prog W base spare held n f.type [cs[i]] = some y := by
  obtain ⟨o, k⟩ := hone_of hone i f hfi
  have h := hf i f hfi
  rw [o, k] at h
  have hx : i < xs.length := by rw [hlen]; exact (Array.getElem?_eq_some_iff.1 hfi).1
  rw [List.getElem?_eq_getElem hx, List.drop_eq_getElem_cons (by omega)] at h
  exact ⟨_, h⟩
theorem addr_add (g o i : Nat) : (⟨g, o, none⟩ : Addr).add i = ⟨g, o + i, none⟩ := by
  unfold Addr.add; split <;> simp_all
theorem list5 {α : Type} {l : List α} (h : l.length = 5) : ∃ a b c d e, l = [a, b, c, d, e] := by
  match l, h with
  | [a, b, c, d, e], _ => exact ⟨a, b, c, d, e, rfl⟩
theorem wf_int {n : Int} (h : (Lit.int .i64 n).wf = true) : -9223372036854775808 ≤ n ∧ n ≤ 9223372036854775807 := by
  simpa [Lit.wf, IntKind.min, IntKind.max, IntKind.signed, IntKind.bits] using h
instance : Inhabited Ex.T := ⟨.node 0 ByteArray.empty 0 0 []⟩
theorem oks_of : ∀ {l : List Ex.T}, (∀ x ∈ l, x.Ok) → Ex.Oks l := by
  intro l
  induction l with
  | nil => intro _; rw [Ex.Oks]; trivial
  | cons x r ih => intro h; rw [Ex.Oks]; exact ⟨h x List.mem_cons_self, ih fun y hy => h y (List.mem_cons_of_mem _ hy)⟩
theorem open_tree {H : Type} {enc : TypeId × Value → H} {W : World} {spare : Nat → Bool} {held : Bool} : ∀ (fuel : Nat) (cs : List Value) (x : DataW H × List MemPlace), DataW.trod enc Tryz.prog W 0 spare held fuel 201 cs = some x →
    ∃ (t : Ex.T) (v : Value), cs = [.int .i64 t.kind, .string t.text, .int .i64 t.num, .int .i64 t.line, v] ∧ Kids W v t.kids ∧ t.Ok := by
  intro fuel
  induction fuel using Nat.strongRecOn with
  | _ fuel ih =>
    intro cs x h
    obtain ⟨xs, n, rfl, _, hl, hlen, hf⟩ := DataW.trod_struct Tryz.underlying201 h
    rw [show Tryz.prog.cellsOf 201 = 5 by kernel_rfl] at hl
    have hone := one_cell (H := H) (by kernel_rfl) hl hlen hf
    obtain ⟨y0, h0⟩ := hone 0 (by omega) _ rfl
    obtain ⟨y1, h1⟩ := hone 1 (by omega) _ rfl
    obtain ⟨y2, h2⟩ := hone 2 (by omega) _ rfl
    obtain ⟨y3, h3⟩ := hone 3 (by omega) _ rfl
    obtain ⟨y4, h4⟩ := hone 4 (by omega) _ rfl
    clear hone hf hlen
    obtain ⟨c0, c1, c2, c3, c4, rfl⟩ := list5 hl
    simp only [List.getElem_cons_zero, List.getElem_cons_succ] at h0 h1 h2 h3 h4
    obtain ⟨k, e0, _, w0⟩ := DataW.trod_int Tryz.underlying3 h0
    obtain ⟨s, e1, _, w1⟩ := DataW.trod_string Tryz.underlying9 h1
    obtain ⟨m, e2, _, w2⟩ := DataW.trod_int Tryz.underlying3 h2
    obtain ⟨l, e3, _, w3⟩ := DataW.trod_int Tryz.underlying3 h3
    simp only [List.cons.injEq, and_true] at e0 e1 e2 e3
    subst e0 e1 e2 e3
    have w1b : s.size ≤ 9223372036854775807 := by unfold maxLen at w1; omega
    suffices hk : ∃ ks : List Ex.T, Kids W c4 ks ∧ ks.length ≤ 9223372036854775807 ∧ Ex.Oks ks by
      obtain ⟨ks, hk, hkl, hok⟩ := hk
      refine ⟨.node k s m l ks, c4, rfl, hk, ?_⟩
      rw [Ex.T.Ok]
      exact ⟨wf_int w0, wf_int w2, wf_int w3, ⟨w1b, hkl⟩, hok⟩
    rcases DataW.trod_slice Tryz.underlying199 h4 with ⟨e4, _⟩ | ⟨a, len, cap, elems, rest, n2, hn, e4, _, _, hlc, hcm, hel, hget, _, _⟩
    · simp only [List.cons.injEq, and_true] at e4
      subst e4
      exact ⟨[], by rw [Kids]; exact ⟨_, _, rfl⟩, by simp, by rw [Ex.Oks]; trivial⟩
    · simp only [List.cons.injEq, and_true] at e4
      subst e4
      rw [show Tryz.prog.cellsOf 201 = 5 by kernel_rfl] at hget
      have hex : ∀ i, i < len → ∃ t : Ex.T, t.Ok ∧ ∃ v, (W.cell? ((a.add (i * 5)).add 0) = some (.int .i64 t.kind) ∧ W.cell? ((a.add (i * 5)).add 1) = some (.string t.text) ∧ W.cell? ((a.add (i * 5)).add 2) = some (.int .i64 t.num) ∧ W.cell? ((a.add (i * 5)).add 3) = some (.int .i64 t.line)) ∧ W.cell? ((a.add (i * 5)).add 4) = some v ∧ Kids W v t.kids := by
        intro i hi
        have hg := hget i hi
        rw [List.getElem?_eq_getElem (by omega)] at hg
        obtain ⟨cs', hc, ht⟩ := Option.bind_eq_some_iff.1 hg
        obtain ⟨_, hcl, hcc⟩ := World.cells?_some hc
        obtain ⟨t, v, rfl, hk, hok⟩ := ih n2 (by omega) _ _ ht
        exact ⟨t, hok, v, ⟨hcc 0 (by omega), hcc 1 (by omega), hcc 2 (by omega), hcc 3 (by omega)⟩, hcc 4 (by omega), hk⟩
      obtain ⟨T, hT⟩ := choose_lt hex
      refine ⟨(List.range len).map T, ?_, by simp; unfold maxLen at hcm; omega, oks_of fun x hx => ?_⟩
      · by_cases h0 : len = 0
        · subst h0; rw [List.range_zero, List.map_nil, Kids]; exact ⟨_, _, rfl⟩
        · obtain ⟨b, o, sp⟩ := a
          have hsp : sp = none := by
            have := World.cell?_spot (hT 0 (by omega)).2.choose_spec.1.1
            simpa [Addr.add] using this
          subst hsp
          have hkd : Kids W (.slice (some ⟨b, o, none⟩) ((List.range len).map T).length cap) ((List.range len).map T) := by
            refine kids_of (by rw [List.length_map, List.length_range]; exact hlc) fun i hi => ?_
            rw [List.length_map, List.length_range] at hi
            obtain ⟨_, v, ⟨c0, c1, c2, c3⟩, c4, hk⟩ := hT i hi
            have e : ∀ j, ((⟨b, o, none⟩ : Addr).add (i * 5)).add j = ⟨b, o + i * 5 + j, none⟩ := fun j => by rw [addr_add, addr_add]
            rw [e] at c0 c1 c2 c3 c4
            rw [List.getElem_map, List.getElem_range]
            exact tree_of ⟨c0, c1, c2, c3⟩ c4 hk
          rw [List.length_map, List.length_range] at hkd
          exact hkd
      · obtain ⟨i, hi, rfl⟩ := List.mem_map.1 hx
        exact (hT i (List.mem_range.1 hi)).1
end Go.Proofs.YtkhcbahbffjnkaaGreatDoor
