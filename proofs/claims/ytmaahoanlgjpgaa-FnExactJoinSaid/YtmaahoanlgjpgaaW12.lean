/- The law FnExactJoin answers true at every list of strings. No conditions. -/
import Derived.Test.YtmaahoanlgjpgaaW11
import Derived.Test.YtmaahoanlgjpgaaB0
namespace Go.Proofs.Ytmaahoanlgjpgaa
open Go.RowKit
set_option linter.unusedVariables false

/-- The first k strings, and empty ones for the rest. -/
def filled (l : List ByteArray) (k : Nat) : List ByteArray := l.take k ++ List.replicate (l.length - k) ByteArray.empty
theorem filled_length (l : List ByteArray) (k : Nat) (h : k ≤ l.length) : (filled l k).length = l.length := by
  simp [filled]; omega
theorem filled_zero (l : List ByteArray) : filled l 0 = List.replicate l.length ByteArray.empty := by simp [filled]
theorem filled_all (l : List ByteArray) : filled l l.length = l := by simp [filled]
theorem filled_set (l : List ByteArray) (k : Nat) (h : k < l.length) : (filled l k).set k (l.getD k ByteArray.empty) = filled l (k + 1) := by
  unfold filled
  have e1 : (l.take k).length = k := by rw [List.length_take]; omega
  rw [List.set_append_right _ _ (by omega), e1, Nat.sub_self, show l.length - k = (l.length - (k + 1)) + 1 by omega, List.replicate_succ, List.set_cons_zero, List.take_succ_eq_append_getElem h, List.append_assoc]
  simp [List.getD, List.getElem?_eq_getElem h]

theorem owns_made {w1 : World} {base : Nat} {v : Value} {n : Nat} (h : w1.ownsRow base 9 1 v n (List.replicate n (.string ByteArray.empty))) : Owns w1 base v (List.replicate n ByteArray.empty) := by
  unfold Owns; rw [List.length_replicate, List.map_replicate]; exact h

set_option maxHeartbeats 400000 in
theorem to_strs (v : Value) (l : List ByteArray) (w : World) (hr : Reads w v l) (hl : l.length ≤ 1048576) :
    Calls Try.prog 26 #[v] w fun e w' => ∃ v', e = .returned v' ∧ Owns w' w.heap.size v' l ∧ Below w.heap.size w w' := by
  obtain ⟨i0, hi, hz0, hz1, hz2⟩ := info_parts info_string
  obtain ⟨w0, hmk0, hown0, hgr0⟩ := run_make_full (P := Try.prog) w w.heap.size 31 9 i0 (.string ByteArray.empty) 1 Try.underlying31 hi hz0 hz1 .i64 .i64 l.length (by rw [hz2]; omega) (max_small (by omega)) (Nat.le_refl _)
  have HO0 := Lib.hid (owns_made (by rw [show (madeCells (Value.string ByteArray.empty).cells (l.length * 1)).toList = List.replicate (l.length * 1) (.string ByteArray.empty) from toList_madeCells_one _ _, Nat.mul_one] at hown0; exact hown0))
  have HB0 := Lib.hid (show Below w.heap.size w w0 from (Below.refl _ _).grown hgr0 (Nat.le_refl _) (fun k hk => by cases hk))
  clear hown0 hgr0
  by_cases hl0 : l = []
  · subst hl0
    obtain ⟨a, c, rfl⟩ := reads_empty hr
    clear hr
    have hmk1 : (Instr.makeSlice 31 (.int .i64 0) (.int .i64 0)).run Try.prog w = .ok (.slice (some ⟨w.heap.size, 0, none⟩) 0 0) w0 := hmk0
    go_enter Try.func26, Try.ntmps26
    go_wp2
    go_loopw [4] (fun i wr => i = .int .i64 0 ∧ wr = w0) (fun _ _ => 0)
    case atStart => exact ⟨rfl, rfl⟩
    case round =>
      obtain ⟨rfl, rfl⟩ := hrel
      go_wp2
      go_ret
      exact ⟨_, rfl, HO0.out, HB0.out⟩
  · obtain ⟨g, off, cap, rfl, hm, hc⟩ := reads_some hr hl0
    have HC := Lib.hid hc
    clear hr hl0 hc hm
    generalize hn : l.length = n at *
    have HN := Lib.hid hn
    clear hn
    go_enter Try.func26, Try.ntmps26
    go_wp2
    clear hmk0
    go_loopw [4] (fun i wr => ∃ k : Nat, i = .int .i64 k ∧ k ≤ n ∧ Owns wr w.heap.size (.slice (some ⟨w.heap.size, 0, none⟩) n n) (filled l k) ∧ Below w.heap.size w wr) (fun i _ => n - (intOf i).toNat)
    case atStart => exact ⟨0, rfl, Nat.zero_le _, by rw [filled_zero, HN.out]; exact HO0.out, HB0.out⟩
    case round =>
      obtain ⟨k, rfl, hk, ho, hb⟩ := hrel
      have HO := Lib.hid ho
      have HB := Lib.hid hb
      have hsz := hb.size
      clear ho hb
      by_cases hlt : k < n
      · have hcell := HC.out k hlt
        have hlg := World.block_lt_of_cell? w _ hcell
        have d1 : wr.cell? ⟨g, off + k, none⟩ = some (.string (l.getD k ByteArray.empty)) := (HB.out.cell hlg).trans hcell
        have HL := Lib.hid (show n = (filled l k).length by rw [filled_length _ _ (by have := HN.out; omega)]; exact HN.out.symm)
        have d2 := (owns_cell HL.out HO.out k hlt).1
        have f2 := (owns_cell HL.out HO.out k hlt).2
        clear hcell
        generalize hx : l.getD k ByteArray.empty = x at d1
        have HX := Lib.hid hx
        clear hx
        go_wp2
        go_roundw
        case rel => exact ⟨k + 1, by go_num, by omega, by rw [← filled_set l k (by have := HN.out; omega), HX.out]; exact owns_set HL.out HO.out k x, HB.out.setCell (Nat.le_refl _) _⟩
        case measure => first | (simp [intOf]; done) | (simp [intOf]; omega)
      · obtain rfl : k = n := by omega
        go_wp2
        go_ret
        exact ⟨_, rfl, by have h := HO.out; rw [← HN.out, filled_all] at h; rw [← HN.out]; exact h, HB.out⟩

/-- The first k strings are small. -/
def UpTo (l : List ByteArray) (k : Nat) : Prop := ∀ i, i < k → (l.getD i ByteArray.empty).size ≤ 1048576
theorem upTo_succ {l : List ByteArray} {k : Nat} (h : UpTo l k) (h2 : (l.getD k ByteArray.empty).size ≤ 1048576) : UpTo l (k + 1) := fun i hi => by
  rcases Nat.lt_or_ge i k with h3 | h3
  · exact h i h3
  · obtain rfl : i = k := by omega
    exact h2

/-- What szStringS answers: below 0, or the strings are small. -/
def SizeOk (l : List ByteArray) (r : Int) : Prop := 0 ≤ r → Small l

set_option maxHeartbeats 400000 in
theorem sz_strs (v : Value) (l : List ByteArray) (w : World) (hr : Reads w v l) (hpz : ∀ i, i < l.length → (l.getD i ByteArray.empty).size ≤ 9223372036854775807) :
    Calls Try.prog 24 #[v, .int .i64 1048576] w fun e w' => ∃ r : Int, e = .returned (.int .i64 r) ∧ SizeOk l r ∧ w = w' := by
  by_cases hl0 : l = []
  · subst hl0
    obtain ⟨a, c, rfl⟩ := reads_empty hr
    clear hr
    have HS : Hid (SizeOk [] 1048576) := fun _ => ⟨by simp, fun i hi => by simp at hi⟩
    go_enter Try.func24, Try.ntmps24
    go_wp2
    go_loop [1, 4, 5] (fun r _ i => i = .int .i64 0 ∧ r = .int .i64 1048576) (fun _ _ _ => 0)
    case atStart => exact ⟨rfl, rfl⟩
    case round =>
      obtain ⟨rfl, rfl⟩ := hrel
      go_wp2
      go_ret
      exact ⟨_, rfl, HS.out, rfl⟩
  · obtain ⟨g, off, cap, rfl, hm, hc⟩ := reads_some hr hl0
    have HC := Lib.hid hc
    have HZ := Lib.hid hpz
    clear hr hl0 hc hpz
    unfold maxLen at hm
    have HN := Lib.hid (rfl : l.length = l.length)
    by_cases hbig : (1048576 : Int) < l.length
    · go_enter Try.func24, Try.ntmps24
      go_wp2
      go_ret
      exact ⟨_, rfl, fun h => by omega, rfl⟩
    · go_enter Try.func24, Try.ntmps24
      go_wp2
      go_loop [1, 4, 5] (fun r _ i => ∃ (k : Nat) (x : Int), i = .int .i64 k ∧ k ≤ l.length ∧ r = .int .i64 x ∧ 0 ≤ x ∧ x ≤ 1048576 ∧ UpTo l k) (fun _ _ i => l.length - (intOf i).toNat)
      case atStart => exact ⟨0, _, rfl, Nat.zero_le _, rfl, by omega, by omega, fun i hi => by omega⟩
      case round =>
        obtain ⟨k, x, rfl, hk, rfl, hx0, hx1, hu⟩ := hrel
        have HU := Lib.hid hu
        clear hu
        by_cases hlt : k < l.length
        · have d1 := HC.out k hlt
          have hz := HZ.out k hlt
          generalize hy : l.getD k ByteArray.empty = y at d1 hz
          have HY := Lib.hid hy
          clear hy
          by_cases hneg : x - (y.size : Int) < 0
          · go_wp2
            go_ret
            exact ⟨_, rfl, fun h => by omega, rfl⟩
          · go_wp2
            go_round
            case rel => exact ⟨k + 1, _, by go_num, by omega, rfl, by omega, by omega, upTo_succ HU.out (by rw [HY.out]; omega)⟩
            case measure => first | (simp [intOf]; done) | (simp [intOf]; omega)
        · obtain rfl : k = l.length := by omega
          go_wp2
          go_ret
          exact ⟨_, rfl, fun _ => ⟨by omega, HU.out⟩, rfl⟩
/-- A slice of strings that came in can be read. -/
theorem reads_of_in {w : World} {a : Option Addr} {len cap : Nat} {z : List ByteArray} (h : IsStrs w a len cap z) : Reads w (.slice a len cap) (z.take len) ∧ (∀ i, i < (z.take len).length → ((z.take len).getD i ByteArray.empty).size ≤ 9223372036854775807) := by
  rcases h with ⟨rfl, rfl, rfl, rfl⟩ | ⟨x, rfl, hl, hm, hz, hc, hs⟩
  · exact ⟨.inl ⟨⟨_, _, rfl⟩, rfl⟩, fun i hi => by simp at hi⟩
  · have hlen : (z.take len).length = len := by rw [List.length_take]; omega
    refine ⟨?_, fun i hi => ?_⟩
    · by_cases h0 : len = 0
      · subst h0; exact .inl ⟨⟨_, _, rfl⟩, rfl⟩
      · obtain ⟨b, off, spot⟩ := x
        have hspot : spot = none := by simpa [Addr.add] using World.cell?_spot (hc 0 (by omega))
        subst hspot
        refine .inr ⟨b, off, cap, by rw [hlen], by omega, fun i hi => ?_⟩
        rw [← add_lit b off i, hc i (by omega)]
        rw [hlen] at hi
        simp [List.getD, hi]
    · rw [hlen] at hi
      have h1 : (z.take len).getD i ByteArray.empty = z[i]'(by omega) := by
        simp [List.getD, hi, List.getElem?_eq_getElem (show i < z.length by omega)]
      rw [h1]
      have h2 := hs _ (List.getElem_mem (show i < z.length by omega))
      unfold maxLen at h2; omega

set_option maxHeartbeats 800000 in
theorem FnExactJoin_walk (a0 : Option Addr) (len0 cap0 : Nat) (z0 : List ByteArray) (a1 : ByteArray) (w : World) (w0 : IsStrs w a0 len0 cap0 z0) (w1 : a1.size ≤ maxLen) :
    Calls Try.prog 8 #[.slice a0 len0 cap0, .string a1] w fun e w' => e = .returned (.bool true) ∧ Below w.heap.size w w' := by
  obtain ⟨hr, hpz⟩ := reads_of_in w0
  have hmm : (a1.size : Int) ≤ 9223372036854775807 := by unfold maxLen at w1; omega
  clear w0 w1
  generalize z0.take len0 = l at hr hpz
  generalize Value.slice a0 len0 cap0 = v at hr ⊢
  have HR := Lib.hid hr
  have HP := Lib.hid hpz
  clear hr hpz
  by_cases hlen : (1048576 : Int) < a1.size
  · go_enter Try.func8, Try.ntmps8
    go_wp2
    go_ret
    exact ⟨rfl, Below.refl _ _⟩
  · have hs : (a1.size : Int) ≤ 1048576 := by omega
    go_enter Try.func8, Try.ntmps8
    go_wp2_with fail
    refine (sz_strs v l _ HR.out HP.out).mono ?_
    rintro e wa ⟨r, rfl, hsz, rfl⟩
    have HS := Lib.hid hsz
    clear hsz
    by_cases hneg : r < 0
    · go_wp2
      go_ret
      exact ⟨rfl, Below.refl _ _⟩
    · have HSM := Lib.hid (HS.out (by omega))
      have hl := HSM.out.1
      go_wp2_with fail
      refine (to_strs v l _ HR.out hl).mono ?_
      rintro e wb ⟨v1, rfl, o1, b1⟩
      have R1 := Lib.hid (reads_of_owns o1)
      have HRb := Lib.hid (reads_below HR.out b1)
      have B1 := Lib.hid b1
      clear o1 b1
      go_wp2_with fail
      refine (spec_join v1 l a1 _ R1.out HSM.out hs).mono ?_
      rintro e wc ⟨rfl, b2⟩
      have HRc := Lib.hid (reads_below HRb.out b2)
      have B2 := Lib.hid (B1.out.trans (b2.mono B1.out.size))
      clear b2
      go_wp2_with fail
      refine (to_strs v l _ HRc.out hl).mono ?_
      rintro e wd ⟨v2, rfl, o3, b3⟩
      have R3 := Lib.hid (reads_of_owns o3)
      have HRd := Lib.hid (reads_below HRc.out b3)
      have B3 := Lib.hid (B2.out.trans (b3.mono B2.out.size))
      clear o3 b3
      go_wp2_with fail
      refine (impl_join v2 l a1 _ R3.out HSM.out hs).mono ?_
      rintro e we ⟨rfl, b4⟩
      have R4 := Lib.hid (reads_below R3.out b4)
      have HRe := Lib.hid (reads_below HRd.out b4)
      have B4 := Lib.hid (B3.out.trans (b4.mono B3.out.size))
      clear b4
      go_wp2_with fail
      refine (to_strs v l _ HRe.out hl).mono ?_
      rintro e wf ⟨v3, rfl, o5, b5⟩
      have R5 := Lib.hid (reads_of_owns o5)
      have R6 := Lib.hid (reads_below R4.out b5)
      have B5 := Lib.hid (B4.out.trans (b5.mono B4.out.size))
      clear o5 b5
      go_wp2_with fail
      refine (eq_strs v2 v3 l _ R6.out R5.out).mono ?_
      rintro e wg ⟨rfl, b6⟩
      have B6 := Lib.hid (B5.out.trans (b6.mono B5.out.size))
      clear b6
      go_wp2
      go_ret
      exact ⟨rfl, B6.out⟩
end Go.Proofs.Ytmaahoanlgjpgaa
