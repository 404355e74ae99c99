/- The program's Join at every list of strings of bounded size. -/
import Derived.Test.YtjgnigalodebkaaW10
namespace Go.Proofs.Ytjgnigalodebkaa
open Go.RowKit
set_option linter.unusedVariables false

theorem builder_info : (Try.prog.info? 55).map (·.size) = some 2 := by kernel_rfl

/-- The builder's check where it has been used. -/
theorem check_used (b : Nat) (w : World) (h0 : w.cell? ⟨b, 0, none⟩ = some (.pointer (some ⟨b, 0, none⟩))) :
    Calls Try.prog 44 #[.pointer (some ⟨b, 0, none⟩)] w fun e w' => e = .returned (.tuple #[]) ∧ w = w' := by
  obtain ⟨j, hj, _⟩ := Option.map_eq_some_iff.1 builder_info
  go_enter Try.func44, Try.ntmps44
  go_wp2
  rw [Lib.run_neq_ptr_same w _ Try.underlying53 hj]
  go_wp2
  go_end0
  exact ⟨rfl, rfl⟩

set_option maxHeartbeats 400000 in
theorem write_used (B b : Nat) (l : List UInt8) (s : ByteArray) (w : World) (h : Lib.BuilderAt 55 5 B b (.pointer (some ⟨b, 0, none⟩)) (Lib.byteCells l) w) (hlen : l.length + s.size ≤ 4194304) (hBw : B ≤ w.heap.size) :
    Calls Try.prog 31 #[.pointer (some ⟨b, 0, none⟩), .string s] w fun e w' => e = .returned (.tuple #[.int .i64 s.size, .nilIface]) ∧ (Lib.BuilderAt 55 5 B b (.pointer (some ⟨b, 0, none⟩)) (Lib.byteCells (l ++ s.data.toList)) w' ∧ Below B w w') := by
  obtain ⟨i0, hi, hz0, hz1, hz2⟩ := info_parts info_byte
  obtain ⟨hB, v, hbk, hown, hne⟩ := h
  have hl : (Lib.byteCells l).length = l.length := Lib.byteCells_length l
  have c0 : w.cell? ⟨b, 0, none⟩ = some (.pointer (some ⟨b, 0, none⟩)) := by rw [Lib.cell_of_heap hbk]; rfl
  have c1 : w.cell? ⟨b, 1, none⟩ = some v := by rw [Lib.cell_of_heap hbk]; rfl
  rw [hl] at hown
  clear hl
  go_enter Try.func31, Try.ntmps31
  go_wp2_with fail
  refine (check_used b _ c0).mono ?_
  rintro e w1 ⟨rfl, rfl⟩
  go_wp2_with (at_builtin; refine Lib.wpList_append_own_string _ rfl _ _ 22 9 rfl B 5 i0 Try.underlying22 Try.underlying9 hi hz0 hz1 hz2 _ _ _ rfl hown s rfl ?c3 ?c4 ?c5 ?_)
  case c3 => unfold maxLen; omega
  case c4 => omega
  case c5 => exact hBw
  intro v' w2 hown' hgrow _
  have hlt : b < w.heap.size := by
    rcases Nat.lt_or_ge b w.heap.size with h' | h'
    · exact h'
    · simp [Array.getElem?_eq_none h'] at hbk
  have hb2 : w2.heap[b]? = some (.cells #[.pointer (some ⟨b, 0, none⟩), v] 55 (0, 0)) := by
    rw [hgrow.block b hlt (fun e => hne e.symm)]
    exact hbk
  have d0 : w2.cell? ⟨b, 0, none⟩ = some (.pointer (some ⟨b, 0, none⟩)) := by rw [Lib.cell_of_heap hb2]; rfl
  have d1 : w2.cell? ⟨b, 1, none⟩ = some v := by rw [Lib.cell_of_heap hb2]; rfl
  have f1 : w2.frozen? ⟨b, 1, none⟩ = false := Lib.frozen_of_heap hb2 1
  have HB2 := Lib.hid hb2
  have HOW := Lib.hid (ownb_app hown')
  have hbel : Below B w w2 := (Below.refl _ _).grown hgrow hBw (fun k hk => (hown.lt k hk).1)
  have HBE := Lib.hid hbel
  clear hb2 hown' hgrow hbel c0 c1 hbk hown
  obtain ⟨a2, c2, rfl⟩ := ownb_slice HOW.out
  go_wp2
  go_ret2
  refine ⟨rfl, ?_, HBE.out.setCell hB _⟩
  have ho := HOW.out
  unfold OwnB at ho
  have hlen3 : (l ++ s.data.toList).length = l.length + s.size := by rw [List.length_append, ← size_eq]
  refine Lib.BuilderAt.put hB HB2.out ?_ (by decide)
  rw [Lib.byteCells_length, ← hlen3]
  exact ho

theorem builder_cells (b : Nat) (w : World) (h : Lib.BuilderAt 55 5 b b (.pointer (some ⟨b, 0, none⟩)) (Lib.byteCells []) w) : b < w.heap.size := h.lt

theorem upto_zero (l : List ByteArray) (t : List UInt8) : Glue.upto l t 0 = [] := rfl

set_option maxHeartbeats 800000 in
theorem impl_join (v : Value) (l : List ByteArray) (s : ByteArray) (w : World) (hr : Reads w v l) (hsm : Small l) (hs : (s.size : Int) ≤ 1048576) :
    Calls Try.prog 13 #[v, .string s] w fun e w' => e = .returned (.string ⟨(Glue.joined l s.data.toList).toArray⟩) ∧ Below w.heap.size w w' := by
  have HSZ := Lib.hid (impl_size v l s w hr hsm hs)
  by_cases hle : (Glue.upto l s.data.toList l.length).length ≤ 1048576
  case neg =>
    have hj := Lib.hid (Glue.joined_no (Nat.le_refl _) (by omega : 1048576 < (Glue.upto l s.data.toList l.length).length))
    have hb : sizeB (Glue.upto l s.data.toList l.length).length = false := (sizeB_no hle).symm
    clear hle hr hsm
    go_enter Try.func13, Try.ntmps13
    go_wp2_with fail
    refine HSZ.out.mono ?_
    rintro e w1 ⟨rfl, rfl⟩
    rw [hb]
    go_wp2
    go_ret
    exact ⟨by rw [hj.out]; rfl, Below.refl _ _⟩
  case pos =>
    have HJ := Lib.hid (Glue.joined_yes hle)
    have hb : sizeB (Glue.upto l s.data.toList l.length).length = true := (sizeB_yes hle).symm
    have hv : sizeV (Glue.upto l s.data.toList l.length).length = (Glue.upto l s.data.toList l.length).length := (sizeV_yes hle).symm
    have HLE := Lib.hid hle
    have HG := Lib.hid fun W (h : W.heap[w.heap.size]? = some (.cells #[.pointer none, .slice none 0 0] 55 (0, 0))) (h2 : w.heap.size ≤ W.heap.size) => Try.Builder_Grow_fresh w.heap.size w.heap.size (Glue.upto l s.data.toList l.length).length W (Nat.le_refl _) h h2 (by omega)
    by_cases hl : l = []
    · subst hl
      obtain ⟨a, c, rfl⟩ := reads_empty hr
      clear hr hsm hle
      have hz : (Glue.upto [] s.data.toList ([] : List ByteArray).length).length = 0 := rfl
      rw [hz] at hb hv HSZ HG
      go_enter Try.func13, Try.ntmps13
      go_wp2_with fail
      refine HSZ.out.mono ?_
      rintro e w1 ⟨rfl, rfl⟩
      rw [hb, hv]
      clear hb hv hz
      go_wp2_with fail
      refine (HG.out _ (heap_alloc_new _ _) (by simp)).mono ?_
      rintro e w2 ⟨rfl, hbu, hbe⟩
      have HBU := Lib.hid hbu
      have HBE := Lib.hid ((((Below.refl _ _).alloc (Nat.le_refl _) _)).trans hbe)
      clear hbu hbe
      go_wp2
      go_loopw [8, 9, 22] (fun _ _ i wr => i = .int .i64 0 ∧ wr = w2) (fun _ _ _ _ => 0)
      case atStart => exact ⟨rfl, rfl⟩
      case round =>
        obtain ⟨rfl, rfl⟩ := hrel
        have HSt := Lib.hid (Try.Builder_String_any w.heap.size w.heap.size [] wr (.inr HBU.out) HBE.out.size)
        go_wp2_with fail
        refine HSt.out.mono ?_
        rintro e w3 ⟨rfl, b3⟩
        go_wp2
        go_ret
        exact ⟨rfl, HBE.out.trans b3⟩
    · obtain ⟨g, off, cap, rfl, hm, hc⟩ := reads_some hr hl
      have HC := Lib.hid hc
      have HS := Lib.hid hsm
      have hn1 : l.length ≤ 1048576 := hsm.1
      clear hr hl hc hsm hle
      generalize hn : l.length = n at *
      have HN := Lib.hid hn
      clear hn hm
      go_enter Try.func13, Try.ntmps13
      go_wp2_with fail
      refine HSZ.out.mono ?_
      rintro e w1 ⟨rfl, rfl⟩
      rw [hb, hv]
      clear hb hv
      generalize hz : (Glue.upto l s.data.toList n).length = z at *
      have HZ := Lib.hid hz
      clear hz
      go_wp2_with fail
      refine (HG.out _ (heap_alloc_new _ _) (by simp)).mono ?_
      rintro e w2 ⟨rfl, hbu, hbe⟩
      have HBU := Lib.hid hbu
      have HBE := Lib.hid ((((Below.refl _ _).alloc (Nat.le_refl _) _)).trans hbe)
      clear hbu hbe
      go_wp2
      go_loopw [8, 9, 22] (fun _ _ i wr => ∃ k : Nat, i = .int .i64 k ∧ k ≤ n ∧ Lib.BuilderAt 55 5 w.heap.size w.heap.size (.pointer (some ⟨w.heap.size, 0, none⟩)) (Lib.byteCells (Glue.upto l s.data.toList k)) wr ∧ Below w.heap.size w wr) (fun _ _ i _ => n - (intOf i).toNat)
      case atStart => exact ⟨0, rfl, Nat.zero_le _, HBU.out, HBE.out⟩
      case round =>
        obtain ⟨k, rfl, hk, hbu, hbe⟩ := hrel
        have HU := Lib.hid hbu
        have HB := Lib.hid hbe
        have hsz := hbe.size
        clear hbu hbe
        by_cases hlt : k < n
        · have hcell := HC.out k hlt
          have hlg := World.block_lt_of_cell? w _ hcell
          have d1 : wr.cell? ⟨g, off + k, none⟩ = some (.string (l.getD k ByteArray.empty)) := (HB.out.cell hlg).trans hcell
          have hpz : (l.getD k ByteArray.empty).size ≤ 1048576 := HS.out.2 k (by have := HN.out; omega)
          have hkz : (Glue.upto l s.data.toList k).length ≤ 1048576 := by
            have h1 := Glue.upto_le l s.data.toList (k := k) (n := n) (by omega)
            have h2 := HZ.out
            have h3 := HLE.out
            omega
          clear hcell
          generalize hx : l.getD k ByteArray.empty = x at d1 hpz
          have HX := Lib.hid hx
          clear hx
          by_cases hk0 : k = 0
          · subst hk0
            have d0 : wr.cell? ⟨g, off, none⟩ = some (.string x) := d1
            clear d1
            have HW := Lib.hid (write_used w.heap.size w.heap.size _ x wr HU.out (by omega) hsz)
            go_wp2_with fail
            refine HW.out.mono ?_
            rintro e w3 ⟨rfl, hu3, hb3⟩
            rw [upto_zero, List.nil_append, ← HX.out, ← Glue.upto_first l s.data.toList] at hu3
            have HU3 := Lib.hid hu3
            have HB3 := Lib.hid (HB.out.trans hb3)
            clear hu3 hb3
            go_wp2
            go_roundw
            case rel => exact ⟨0 + 1, by go_num, by omega, HU3.out, HB3.out⟩
            case measure => first | (simp [intOf]; done) | (simp [intOf]; omega)
          · have hk1 : 0 < k := by omega
            have HW := Lib.hid (write_used w.heap.size w.heap.size _ s wr HU.out (by omega) hsz)
            go_wp2_with fail
            refine HW.out.mono ?_
            rintro e w3 ⟨rfl, hu3, hb3⟩
            have HB3 := Lib.hid (HB.out.trans hb3)
            have hsz3 := HB3.out.size
            have HW3 := Lib.hid (write_used w.heap.size w.heap.size _ x w3 hu3 (by rw [List.length_append, ← size_eq]; omega) hsz3)
            clear hu3 hb3
            go_wp2_with fail
            refine HW3.out.mono ?_
            rintro e w4 ⟨rfl, hu4, hb4⟩
            rw [← HX.out, ← Glue.upto_next l s.data.toList hk1] at hu4
            have HU4 := Lib.hid hu4
            have HB4 := Lib.hid (HB3.out.trans hb4)
            clear hu4 hb4
            go_wp2
            go_roundw
            case rel => exact ⟨k + 1, by go_num, by omega, HU4.out, HB4.out⟩
            case measure => first | (simp [intOf]; done) | (simp [intOf]; omega)
        · obtain rfl : k = n := by omega
          have HSt := Lib.hid (Try.Builder_String_any w.heap.size w.heap.size _ wr (.inr HU.out) hsz)
          go_wp2_with fail
          refine HSt.out.mono ?_
          rintro e w3 ⟨rfl, b3⟩
          have HB3 := Lib.hid (HB.out.trans b3)
          clear b3
          go_wp2
          go_ret
          exact ⟨by rw [HJ.out]; rfl, HB3.out⟩
end Go.Proofs.Ytjgnigalodebkaa
