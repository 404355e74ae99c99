/- OperatorText and OperatorArity of the program, and of the reference model. The table reads as the program's text lays it. -/
import Derived.Test.YtpncmahpcccmlaaDoorA3
import Derived.Laws.Rows
import Derived.BigQuiet
namespace Go.Proofs.YtpncmahpcccmlaaDoor
open Go.RowKit
set_option linter.unusedVariables false

/-- A table of texts. -/
def TabAt (g : Nat) (l : List ByteArray) (W : World) : Prop := ∃ t fr, W.heap[g]? = some (.cells (l.map Value.string).toArray t fr)
theorem TabAt.lt {g : Nat} {l : List ByteArray} {W : World} (h : TabAt g l W) : g < W.heap.size := by
  obtain ⟨t, fr, h⟩ := h
  exact (Array.getElem?_eq_some_iff.1 h).1
theorem TabAt.keep {g : Nat} {l : List ByteArray} {W W' : World} (h : TabAt g l W) (hb : W'.heap[g]? = W.heap[g]?) : TabAt g l W' := by
  obtain ⟨t, fr, h⟩ := h
  exact ⟨t, fr, hb.trans h⟩
theorem TabAt.later {g : Nat} {l : List ByteArray} {W W' : World} (h : TabAt g l W) (hb : Below W.heap.size W W') : TabAt g l W' := h.keep (hb.block _ h.lt)
theorem TabAt.cell {g : Nat} {l : List ByteArray} {W : World} (h : TabAt g l W) {k : Nat} {x : ByteArray} (hk : l[k]? = some x) : W.cell? ⟨g, k, none⟩ = some (.string x) := by
  obtain ⟨t, fr, h⟩ := h
  rw [cell_of_row W _ k _ t fr h]
  simp [hk]
/-- The operators' table. -/
abbrev OpsAt (W : World) : Prop := TabAt 0 opL W
theorem drewN_a {B : Nat} {w wr : World} (h : Below B w wr) : ∀ n, Below B w (wr.drewN n)
  | 0 => h
  | n + 1 => ⟨h.1, h.2, h.3, h.4, h.5⟩
theorem impl_aug (n : Int) (w : World) : Calls Tryd.prog 44 #[.int .i64 n] w fun e w' => e = .returned (.bool (augO n)) ∧ w = w' := by
  have hc : n < 220 ∨ (220 ≤ n ∧ n ≤ 225) ∨ (226 ≤ n ∧ n < 250) ∨ (250 ≤ n ∧ n ≤ 254) ∨ 255 ≤ n := by omega
  rcases hc with h | h | h | h | h
  · rw [aug_no (n := n) (by omega)]
    have g1 : ¬ 220 ≤ n := by omega
    have g2 : ¬ 250 ≤ n := by omega
    clear h
    go_enter Tryd.func44, Tryd.ntmps44
    go_wp2
    go_ret
    exact ⟨rfl, rfl⟩
  · rw [aug_yes (n := n) (by omega)]
    obtain ⟨g1, g2⟩ := h
    go_enter Tryd.func44, Tryd.ntmps44
    go_wp2
    go_ret
    exact ⟨rfl, rfl⟩
  · rw [aug_no (n := n) (by omega)]
    have g1 : 220 ≤ n := by omega
    have g2 : ¬ n ≤ 225 := by omega
    have g3 : ¬ 250 ≤ n := by omega
    clear h
    go_enter Tryd.func44, Tryd.ntmps44
    go_wp2
    go_ret
    exact ⟨rfl, rfl⟩
  · rw [aug_yes (n := n) (by omega)]
    have g1 : 220 ≤ n := by omega
    have g2 : ¬ n ≤ 225 := by omega
    obtain ⟨g3, g4⟩ := h
    go_enter Tryd.func44, Tryd.ntmps44
    go_wp2
    go_ret
    exact ⟨rfl, rfl⟩
  · rw [aug_no (n := n) (by omega)]
    have g1 : 220 ≤ n := by omega
    have g2 : ¬ n ≤ 225 := by omega
    have g3 : 250 ≤ n := by omega
    have g4 : ¬ n ≤ 254 := by omega
    clear h
    go_enter Tryd.func44, Tryd.ntmps44
    go_wp2
    go_ret
    exact ⟨rfl, rfl⟩
set_option maxRecDepth 100000 in
theorem impl_opText (n : Int) (h0 : -9223372036854775808 ≤ n) (h1 : n ≤ 9223372036854775807) (w : World) (hT : OpsAt w) : Calls Tryd.prog 15 #[.int .i64 n] w fun e w' => e = .returned (.string (opT n)) ∧ Below w.heap.size w w' := by
  have HA := Lib.hid (fun W => impl_aug n W)
  have HT := Lib.hid hT
  clear hT
  by_cases ha : augO n = true
  · have hr : (220 ≤ n ∧ n ≤ 225) ∨ (250 ≤ n ∧ n ≤ 254) := by unfold augO at ha; simpa using ha
    obtain ⟨k, hk⟩ : ∃ k : Nat, (k : Int) = n - 200 := ⟨(n - 200).toNat, by omega⟩
    have hk82 : k < 82 := by omega
    obtain ⟨x, hx⟩ : ∃ x, opL[k]? = some x := ⟨_, List.getElem?_eq_getElem (by show k < 82; exact hk82)⟩
    have hxs : x.size ≤ 5 := small_op2 hx
    have hss : setB.size ≤ 2 := by decide
    have HX : Hid (opT n = x ++ setB) := Lib.hid (by
      have e : n = (k : Int) + 200 := by omega
      rw [e] at ha ⊢
      exact opT_aug ha hx)
    have c1 := HT.out.cell hx
    have c2 := HT.out.cell (k := 60) (x := setB) rfl
    have hw : IntKind.i64.wrap (n - 200) = (k : Int) := by rw [IntKind.wrap_i64]; omega
    have k0 : (0 : Int) ≤ k := by omega
    have k1 : (k : Int) < 82 := by omega
    rw [ha] at HA
    clear hx hk hr ha
    go_enter Tryd.func15, Tryd.ntmps15
    go_wp2_with fail
    refine (HA.out w).mono ?_
    rintro e w2 ⟨rfl, rfl⟩
    go_wp2_with fail
    go_quiet (fail)
    go_wp2
    go_ret
    exact ⟨ret_st2 HX.out.symm, drewN_a (Below.refl _ _) _⟩
  · rw [Bool.not_eq_true] at ha
    rw [ha] at HA
    by_cases hn : n < 0
    · have HX := Lib.hid (opT_neg hn)
      have g0 : ¬ 0 ≤ n := by omega
      clear ha
      go_enter Tryd.func15, Tryd.ntmps15
      go_wp2_with fail
      refine (HA.out w).mono ?_
      rintro e w2 ⟨rfl, rfl⟩
      go_wp2
      go_ret
      exact ⟨ret_st2 HX.out.symm, Below.refl _ _⟩
    · by_cases hf : 82 ≤ n
      · have HX := Lib.hid (opT_far hf ha)
        have g0 : 0 ≤ n := by omega
        have g1 : ¬ n < 82 := by omega
        clear ha
        go_enter Tryd.func15, Tryd.ntmps15
        go_wp2_with fail
        refine (HA.out w).mono ?_
        rintro e w2 ⟨rfl, rfl⟩
        go_wp2
        go_ret
        exact ⟨ret_st2 HX.out.symm, Below.refl _ _⟩
      · obtain ⟨k, rfl⟩ : ∃ k : Nat, (k : Int) = n := ⟨n.toNat, by omega⟩
        have hk : k < opL.length := by show k < 82; omega
        have hx := List.getElem?_eq_getElem hk
        have HX := Lib.hid (opT_at ha hx)
        have hc := HT.out.cell hx
        generalize opL[k] = x at hc HX
        have k1 : (k : Int) < 82 := by omega
        clear hx hk ha
        go_enter Tryd.func15, Tryd.ntmps15
        go_wp2_with fail
        refine (HA.out (w)).mono ?_
        rintro e w2 ⟨rfl, rfl⟩
        go_wp2
        go_ret
        exact ⟨ret_st2 HX.out.symm, Below.refl _ _⟩
/-- What the numbers of kids turn on. -/
theorem op_no (n : Int) : (∃ x, opT n = x ∧ x.toList.isEmpty = opNo n) := ⟨_, rfl, by
  unfold opNo
  rw [ByteArray.toList_eq]⟩
theorem op_range {n : Int} (h : opNo n = false) : 1 ≤ n ∧ n ≤ 254 := by
  refine ⟨?_, ?_⟩
  · rcases Int.lt_or_le n 1 with hn | hn
    · exfalso
      rcases Int.lt_or_le n 0 with h2 | h2
      · unfold opNo at h; rw [opT_neg h2] at h; exact absurd h (by decide)
      · obtain rfl : n = 0 := by omega
        exact absurd h (by decide)
    · exact hn
  · rcases Int.lt_or_le 254 n with hn | hn
    · exfalso
      unfold opNo at h; rw [opT_far (by omega) (aug_no (by omega))] at h; exact absurd h (by decide)
    · exact hn
theorem ret_ii2 {a b c d : Int} (h1 : a = c) (h2 : b = d) : Ending.returned (.tuple #[.int .i64 a, .int .i64 b]) = .returned (.tuple #[.int .i64 c, .int .i64 d]) := by rw [h1, h2]
/-- Numbers of kids by cases. -/
theorem ar_cases (n : Int) : (opNo n = true ∧ arLo n = 0 ∧ arHi n = -1) ∨ (opNo n = false ∧ n ≤ 11 ∧ arLo n = 1 ∧ arHi n = 1) ∨ (opNo n = false ∧ n = 81 ∧ arLo n = 1 ∧ arHi n = 1) ∨ (opNo n = false ∧ n = 71 ∧ arLo n = 3 ∧ arHi n = 3) ∨ (opNo n = false ∧ n = 72 ∧ arLo n = 3 ∧ arHi n = 3)
    ∨ (opNo n = false ∧ n = 73 ∧ arLo n = 2 ∧ arHi n = 8) ∨ (opNo n = false ∧ n = 74 ∧ arLo n = 0 ∧ arHi n = 8) ∨ (opNo n = false ∧ (¬ n ≤ 11 ∧ ¬ n = 81 ∧ ¬ n = 71 ∧ ¬ n = 72 ∧ ¬ n = 73 ∧ ¬ n = 74) ∧ arLo n = 2 ∧ arHi n = 2) := by
  unfold arLo arHi
  cases h : opNo n
  · by_cases h1 : n ≤ 11
    · exact .inr (.inl ⟨rfl, h1, by rw [if_neg (by decide), if_pos (.inl h1)], by rw [if_neg (by decide), if_pos (.inl h1)]⟩)
    · by_cases h2 : n = 81
      · exact .inr (.inr (.inl ⟨rfl, h2, by rw [if_neg (by decide), if_pos (.inr h2)], by rw [if_neg (by decide), if_pos (.inr h2)]⟩))
      · have h3 : ¬ (n ≤ 11 ∨ n = 81) := by omega
        by_cases h4 : n = 71
        · exact .inr (.inr (.inr (.inl ⟨rfl, h4, by rw [if_neg (by decide), if_neg h3, if_pos (.inl h4)], by rw [if_neg (by decide), if_neg h3, if_pos (.inl h4)]⟩)))
        · by_cases h5 : n = 72
          · exact .inr (.inr (.inr (.inr (.inl ⟨rfl, h5, by rw [if_neg (by decide), if_neg h3, if_pos (.inr h5)], by rw [if_neg (by decide), if_neg h3, if_pos (.inr h5)]⟩))))
          · have h6 : ¬ (n = 71 ∨ n = 72) := by omega
            by_cases h7 : n = 73
            · exact .inr (.inr (.inr (.inr (.inr (.inl ⟨rfl, h7, by rw [if_neg (by decide), if_neg h3, if_neg h6, if_pos h7], by rw [if_neg (by decide), if_neg h3, if_neg h6, if_pos h7]⟩)))))
            · by_cases h8 : n = 74
              · exact .inr (.inr (.inr (.inr (.inr (.inr (.inl ⟨rfl, h8, by rw [if_neg (by decide), if_neg h3, if_neg h6, if_neg h7, if_pos h8], by rw [if_neg (by decide), if_neg h3, if_neg h6, if_neg h7, if_pos h8]⟩))))))
              · exact .inr (.inr (.inr (.inr (.inr (.inr (.inr ⟨rfl, ⟨h1, h2, h4, h5, h7, h8⟩, by rw [if_neg (by decide), if_neg h3, if_neg h6, if_neg h7, if_neg h8], by rw [if_neg (by decide), if_neg h3, if_neg h6, if_neg h7, if_neg h8]⟩))))))
  · exact .inl ⟨rfl, by rw [if_pos rfl], by rw [if_pos rfl]⟩
set_option maxRecDepth 100000 in
theorem impl_arity (n : Int) (h0 : -9223372036854775808 ≤ n) (h1 : n ≤ 9223372036854775807) (w : World) (hT : OpsAt w) : Calls Tryd.prog 17 #[.int .i64 n] w fun e w' => e = .returned (.tuple #[.int .i64 (arLo n), .int .i64 (arHi n)]) ∧ Below w.heap.size w w' := by
  have HO := Lib.hid (impl_opText n h0 h1 w hT)
  clear hT
  obtain ⟨x, hx, hb⟩ := op_no n
  rw [hx] at HO
  clear hx
  have hc := ar_cases n
  generalize arLo n = lo at hc ⊢
  generalize arHi n = hi at hc ⊢
  rcases hc with ⟨h, rfl, rfl⟩ | ⟨h, g, rfl, rfl⟩ | ⟨h, rfl, rfl, rfl⟩ | ⟨h, rfl, rfl, rfl⟩ | ⟨h, rfl, rfl, rfl⟩ | ⟨h, rfl, rfl, rfl⟩ | ⟨h, rfl, rfl, rfl⟩ | ⟨h, ⟨g1, f2, f3, f4, f5, f6⟩, rfl, rfl⟩
  · rw [h] at hb
    clear h
    go_enter Tryd.func17, Tryd.ntmps17
    go_wp2_with fail
    refine HO.out.mono ?_
    rintro e w2 ⟨rfl, b2⟩
    have B2 := Lib.hid b2
    clear b2
    go_wp2
    go_ret2
    exact ⟨rfl, B2.out⟩
  · rw [h] at hb
    clear h
    go_enter Tryd.func17, Tryd.ntmps17
    go_wp2_with fail
    refine HO.out.mono ?_
    rintro e w2 ⟨rfl, b2⟩
    have B2 := Lib.hid b2
    clear b2
    go_wp2
    go_ret2
    exact ⟨rfl, B2.out⟩
  · rw [h] at hb
    clear h
    go_enter Tryd.func17, Tryd.ntmps17
    go_wp2_with fail
    refine HO.out.mono ?_
    rintro e w2 ⟨rfl, b2⟩
    have B2 := Lib.hid b2
    clear b2
    go_wp2
    go_ret2
    exact ⟨rfl, B2.out⟩
  · rw [h] at hb
    clear h
    go_enter Tryd.func17, Tryd.ntmps17
    go_wp2_with fail
    refine HO.out.mono ?_
    rintro e w2 ⟨rfl, b2⟩
    have B2 := Lib.hid b2
    clear b2
    go_wp2
    go_ret2
    exact ⟨rfl, B2.out⟩
  · rw [h] at hb
    clear h
    go_enter Tryd.func17, Tryd.ntmps17
    go_wp2_with fail
    refine HO.out.mono ?_
    rintro e w2 ⟨rfl, b2⟩
    have B2 := Lib.hid b2
    clear b2
    go_wp2
    go_ret2
    exact ⟨rfl, B2.out⟩
  · rw [h] at hb
    clear h
    go_enter Tryd.func17, Tryd.ntmps17
    go_wp2_with fail
    refine HO.out.mono ?_
    rintro e w2 ⟨rfl, b2⟩
    have B2 := Lib.hid b2
    clear b2
    go_wp2
    go_ret2
    exact ⟨rfl, B2.out⟩
  · rw [h] at hb
    clear h
    go_enter Tryd.func17, Tryd.ntmps17
    go_wp2_with fail
    refine HO.out.mono ?_
    rintro e w2 ⟨rfl, b2⟩
    have B2 := Lib.hid b2
    clear b2
    go_wp2
    go_ret2
    exact ⟨rfl, B2.out⟩
  · rw [h] at hb
    clear h
    have g2 : (n == 81) = false := beq_eq_false_iff_ne.2 f2
    have g3 : (n == 71) = false := beq_eq_false_iff_ne.2 f3
    have g4 : (n == 72) = false := beq_eq_false_iff_ne.2 f4
    have g5 : (n == 73) = false := beq_eq_false_iff_ne.2 f5
    have g6 : (n == 74) = false := beq_eq_false_iff_ne.2 f6
    clear f2 f3 f4 f5 f6
    go_enter Tryd.func17, Tryd.ntmps17
    go_wp2_with fail
    refine HO.out.mono ?_
    rintro e w2 ⟨rfl, b2⟩
    have B2 := Lib.hid b2
    clear b2
    go_wp2
    go_ret2
    exact ⟨rfl, B2.out⟩
set_option maxRecDepth 100000 in
theorem spec_arity (n : Int) (w : World) : Calls Tryd.prog 16 #[.int .i64 n] w fun e w' => e = .returned (.tuple #[.int .i64 (arLo n), .int .i64 (arHi n)]) ∧ Below w.heap.size w w' := by
  have HO := Lib.hid (spec_opText n w)
  obtain ⟨x, hx, hb⟩ := op_no n
  rw [hx] at HO
  clear hx
  have hc := ar_cases n
  generalize arLo n = lo at hc ⊢
  generalize arHi n = hi at hc ⊢
  rcases hc with ⟨h, rfl, rfl⟩ | ⟨h, g, rfl, rfl⟩ | ⟨h, rfl, rfl, rfl⟩ | ⟨h, rfl, rfl, rfl⟩ | ⟨h, rfl, rfl, rfl⟩ | ⟨h, rfl, rfl, rfl⟩ | ⟨h, rfl, rfl, rfl⟩ | ⟨h, ⟨g1, f2, f3, f4, f5, f6⟩, rfl, rfl⟩
  · rw [h] at hb
    clear h
    go_enter Tryd.func16, Tryd.ntmps16
    go_wp2_with fail
    refine HO.out.mono ?_
    rintro e w2 ⟨rfl, b2⟩
    have B2 := Lib.hid b2
    clear b2
    go_wp2
    go_ret2
    exact ⟨rfl, B2.out⟩
  · rw [h] at hb
    clear h
    go_enter Tryd.func16, Tryd.ntmps16
    go_wp2_with fail
    refine HO.out.mono ?_
    rintro e w2 ⟨rfl, b2⟩
    have B2 := Lib.hid b2
    clear b2
    go_wp2
    go_ret2
    exact ⟨rfl, B2.out⟩
  · rw [h] at hb
    clear h
    go_enter Tryd.func16, Tryd.ntmps16
    go_wp2_with fail
    refine HO.out.mono ?_
    rintro e w2 ⟨rfl, b2⟩
    have B2 := Lib.hid b2
    clear b2
    go_wp2
    go_ret2
    exact ⟨rfl, B2.out⟩
  · rw [h] at hb
    clear h
    go_enter Tryd.func16, Tryd.ntmps16
    go_wp2_with fail
    refine HO.out.mono ?_
    rintro e w2 ⟨rfl, b2⟩
    have B2 := Lib.hid b2
    clear b2
    go_wp2
    go_ret2
    exact ⟨rfl, B2.out⟩
  · rw [h] at hb
    clear h
    go_enter Tryd.func16, Tryd.ntmps16
    go_wp2_with fail
    refine HO.out.mono ?_
    rintro e w2 ⟨rfl, b2⟩
    have B2 := Lib.hid b2
    clear b2
    go_wp2
    go_ret2
    exact ⟨rfl, B2.out⟩
  · rw [h] at hb
    clear h
    go_enter Tryd.func16, Tryd.ntmps16
    go_wp2_with fail
    refine HO.out.mono ?_
    rintro e w2 ⟨rfl, b2⟩
    have B2 := Lib.hid b2
    clear b2
    go_wp2
    go_ret2
    exact ⟨rfl, B2.out⟩
  · rw [h] at hb
    clear h
    go_enter Tryd.func16, Tryd.ntmps16
    go_wp2_with fail
    refine HO.out.mono ?_
    rintro e w2 ⟨rfl, b2⟩
    have B2 := Lib.hid b2
    clear b2
    go_wp2
    go_ret2
    exact ⟨rfl, B2.out⟩
  · rw [h] at hb
    clear h
    have g2 : (n == 81) = false := beq_eq_false_iff_ne.2 f2
    have g3 : (n == 71) = false := beq_eq_false_iff_ne.2 f3
    have g4 : (n == 72) = false := beq_eq_false_iff_ne.2 f4
    have g5 : (n == 73) = false := beq_eq_false_iff_ne.2 f5
    have g6 : (n == 74) = false := beq_eq_false_iff_ne.2 f6
    clear f2 f3 f4 f5 f6
    go_enter Tryd.func16, Tryd.ntmps16
    go_wp2_with fail
    refine HO.out.mono ?_
    rintro e w2 ⟨rfl, b2⟩
    have B2 := Lib.hid b2
    clear b2
    go_wp2
    go_ret2
    exact ⟨rfl, B2.out⟩
end Go.Proofs.YtpncmahpcccmlaaDoor
