/- Joined texts: A4, A31. No conditions besides those that each states. -/
import Derived.Laws.Rows
import Derived.BigQuiet
import Derived.Test.YtbadepiakkhabaaDoorZ9
/- OperatorText and OperatorArity of the program, and of the reference model. The table reads as the program's text lays it. -/
namespace Go.Proofs.YtbadepiakkhabaaDoor
open Go.RowKit
set_option linter.unusedVariables false

/-- The operators' table. -/
abbrev OpsAt (W : World) : Prop := TabAt 2 opL W
theorem impl_aug (n : Int) (w : World) : Calls Tryd.prog 160 #[.int .i64 n] w fun e w' => e = .returned (.bool (augO n)) ∧ w = w' := by
  have hc : n < 220 ∨ (220 ≤ n ∧ n ≤ 225) ∨ (226 ≤ n ∧ n < 250) ∨ (250 ≤ n ∧ n ≤ 254) ∨ 255 ≤ n := by omega
  rcases hc with h | h | h | h | h
  · rw [aug_no (n := n) (by omega)]
    have g1 : ¬ 220 ≤ n := by omega
    have g2 : ¬ 250 ≤ n := by omega
    clear h
    go_enter Tryd.func160, Tryd.ntmps160
    go_wp2
    go_ret
    exact ⟨rfl, rfl⟩
  · rw [aug_yes (n := n) (by omega)]
    obtain ⟨g1, g2⟩ := h
    go_enter Tryd.func160, Tryd.ntmps160
    go_wp2
    go_ret
    exact ⟨rfl, rfl⟩
  · rw [aug_no (n := n) (by omega)]
    have g1 : 220 ≤ n := by omega
    have g2 : ¬ n ≤ 225 := by omega
    have g3 : ¬ 250 ≤ n := by omega
    clear h
    go_enter Tryd.func160, Tryd.ntmps160
    go_wp2
    go_ret
    exact ⟨rfl, rfl⟩
  · rw [aug_yes (n := n) (by omega)]
    have g1 : 220 ≤ n := by omega
    have g2 : ¬ n ≤ 225 := by omega
    obtain ⟨g3, g4⟩ := h
    go_enter Tryd.func160, Tryd.ntmps160
    go_wp2
    go_ret
    exact ⟨rfl, rfl⟩
  · rw [aug_no (n := n) (by omega)]
    have g1 : 220 ≤ n := by omega
    have g2 : ¬ n ≤ 225 := by omega
    have g3 : 250 ≤ n := by omega
    have g4 : ¬ n ≤ 254 := by omega
    clear h
    go_enter Tryd.func160, Tryd.ntmps160
    go_wp2
    go_ret
    exact ⟨rfl, rfl⟩
set_option maxRecDepth 100000 in
theorem impl_opText (n : Int) (h0 : -9223372036854775808 ≤ n) (h1 : n ≤ 9223372036854775807) (w : World) (hT : OpsAt w) : Calls Tryd.prog 152 #[.int .i64 n] w fun e w' => e = .returned (.string (opT n)) ∧ Below w.heap.size w w' := by
  have HA := Lib.hid (fun W => impl_aug n W)
  have HT := Lib.hid hT
  clear hT
  by_cases ha : augO n = true
  · have hr : (220 ≤ n ∧ n ≤ 225) ∨ (250 ≤ n ∧ n ≤ 254) := by unfold augO at ha; simpa using ha
    obtain ⟨k, hk⟩ : ∃ k : Nat, (k : Int) = n - 200 := ⟨(n - 200).toNat, by omega⟩
    have hk82 : k < 82 := by omega
    obtain ⟨x, hx⟩ : ∃ x, opL[k]? = some x := ⟨_, List.getElem?_eq_getElem (by show k < 82; exact hk82)⟩
    have hxs : x.size ≤ 5 := small_op2 hx
    have hss : setB.size ≤ 2 := by decide
    have HX : Hid (opT n = x ++ setB) := Lib.hid (by
      have e : n = (k : Int) + 200 := by omega
      rw [e] at ha ⊢
      exact opT_aug ha hx)
    have c1 := HT.out.cell hx
    have c2 := HT.out.cell (k := 60) (x := setB) rfl
    have hw : IntKind.i64.wrap (n - 200) = (k : Int) := by rw [IntKind.wrap_i64]; omega
    have k0 : (0 : Int) ≤ k := by omega
    have k1 : (k : Int) < 82 := by omega
    rw [ha] at HA
    clear hx hk hr ha
    go_enter Tryd.func152, Tryd.ntmps152
    go_wp2_with fail
    refine (HA.out w).mono ?_
    rintro e w2 ⟨rfl, rfl⟩
    go_wp2_with fail
    go_quiet (fail)
    go_wp2
    go_ret
    exact ⟨ret_st2 HX.out.symm, drewN_a (Below.refl _ _) _⟩
  · rw [Bool.not_eq_true] at ha
    rw [ha] at HA
    by_cases hn : n < 0
    · have HX := Lib.hid (opT_neg hn)
      have g0 : ¬ 0 ≤ n := by omega
      clear ha
      go_enter Tryd.func152, Tryd.ntmps152
      go_wp2_with fail
      refine (HA.out w).mono ?_
      rintro e w2 ⟨rfl, rfl⟩
      go_wp2
      go_ret
      exact ⟨ret_st2 HX.out.symm, Below.refl _ _⟩
    · by_cases hf : 82 ≤ n
      · have HX := Lib.hid (opT_far hf ha)
        have g0 : 0 ≤ n := by omega
        have g1 : ¬ n < 82 := by omega
        clear ha
        go_enter Tryd.func152, Tryd.ntmps152
        go_wp2_with fail
        refine (HA.out w).mono ?_
        rintro e w2 ⟨rfl, rfl⟩
        go_wp2
        go_ret
        exact ⟨ret_st2 HX.out.symm, Below.refl _ _⟩
      · obtain ⟨k, rfl⟩ : ∃ k : Nat, (k : Int) = n := ⟨n.toNat, by omega⟩
        have hk : k < opL.length := by show k < 82; omega
        have hx := List.getElem?_eq_getElem hk
        have HX := Lib.hid (opT_at ha hx)
        have hc := HT.out.cell hx
        generalize opL[k] = x at hc HX
        have k1 : (k : Int) < 82 := by omega
        clear hx hk ha
        go_enter Tryd.func152, Tryd.ntmps152
        go_wp2_with fail
        refine (HA.out (w)).mono ?_
        rintro e w2 ⟨rfl, rfl⟩
        go_wp2
        go_ret
        exact ⟨ret_st2 HX.out.symm, Below.refl _ _⟩
/-- What the numbers of kids turn on. -/
theorem op_no (n : Int) : (∃ x, opT n = x ∧ x.toList.isEmpty = opNo n) := ⟨_, rfl, by
  unfold opNo
  rw [ByteArray.toList_eq]⟩
theorem op_range {n : Int} (h : opNo n = false) : 1 ≤ n ∧ n ≤ 254 := by
  refine ⟨?_, ?_⟩
  · rcases Int.lt_or_le n 1 with hn | hn
    · exfalso
      rcases Int.lt_or_le n 0 with h2 | h2
      · unfold opNo at h; rw [opT_neg h2] at h; exact absurd h (by decide)
      · obtain rfl : n = 0 := by omega
        exact absurd h (by decide)
    · exact hn
  · rcases Int.lt_or_le 254 n with hn | hn
    · exfalso
      unfold opNo at h; rw [opT_far (by omega) (aug_no (by omega))] at h; exact absurd h (by decide)
    · exact hn
theorem ret_ii2 {a b c d : Int} (h1 : a = c) (h2 : b = d) : Ending.returned (.tuple #[.int .i64 a, .int .i64 b]) = .returned (.tuple #[.int .i64 c, .int .i64 d]) := by rw [h1, h2]
/-- Numbers of kids by cases. -/
theorem ar_cases (n : Int) : (opNo n = true ∧ arLo n = 0 ∧ arHi n = -1) ∨ (opNo n = false ∧ n ≤ 11 ∧ arLo n = 1 ∧ arHi n = 1) ∨ (opNo n = false ∧ n = 81 ∧ arLo n = 1 ∧ arHi n = 1) ∨ (opNo n = false ∧ n = 71 ∧ arLo n = 3 ∧ arHi n = 3) ∨ (opNo n = false ∧ n = 72 ∧ arLo n = 3 ∧ arHi n = 3)
    ∨ (opNo n = false ∧ n = 73 ∧ arLo n = 2 ∧ arHi n = 8) ∨ (opNo n = false ∧ n = 74 ∧ arLo n = 0 ∧ arHi n = 8) ∨ (opNo n = false ∧ (¬ n ≤ 11 ∧ ¬ n = 81 ∧ ¬ n = 71 ∧ ¬ n = 72 ∧ ¬ n = 73 ∧ ¬ n = 74) ∧ arLo n = 2 ∧ arHi n = 2) := by
  unfold arLo arHi
  cases h : opNo n
  · by_cases h1 : n ≤ 11
    · exact .inr (.inl ⟨rfl, h1, by rw [if_neg (by decide), if_pos (.inl h1)], by rw [if_neg (by decide), if_pos (.inl h1)]⟩)
    · by_cases h2 : n = 81
      · exact .inr (.inr (.inl ⟨rfl, h2, by rw [if_neg (by decide), if_pos (.inr h2)], by rw [if_neg (by decide), if_pos (.inr h2)]⟩))
      · have h3 : ¬ (n ≤ 11 ∨ n = 81) := by omega
        by_cases h4 : n = 71
        · exact .inr (.inr (.inr (.inl ⟨rfl, h4, by rw [if_neg (by decide), if_neg h3, if_pos (.inl h4)], by rw [if_neg (by decide), if_neg h3, if_pos (.inl h4)]⟩)))
        · by_cases h5 : n = 72
          · exact .inr (.inr (.inr (.inr (.inl ⟨rfl, h5, by rw [if_neg (by decide), if_neg h3, if_pos (.inr h5)], by rw [if_neg (by decide), if_neg h3, if_pos (.inr h5)]⟩))))
          · have h6 : ¬ (n = 71 ∨ n = 72) := by omega
            by_cases h7 : n = 73
            · exact .inr (.inr (.inr (.inr (.inr (.inl ⟨rfl, h7, by rw [if_neg (by decide), if_neg h3, if_neg h6, if_pos h7], by rw [if_neg (by decide), if_neg h3, if_neg h6, if_pos h7]⟩)))))
            · by_cases h8 : n = 74
              · exact .inr (.inr (.inr (.inr (.inr (.inr (.inl ⟨rfl, h8, by rw [if_neg (by decide), if_neg h3, if_neg h6, if_neg h7, if_pos h8], by rw [if_neg (by decide), if_neg h3, if_neg h6, if_neg h7, if_pos h8]⟩))))))
              · exact .inr (.inr (.inr (.inr (.inr (.inr (.inr ⟨rfl, ⟨h1, h2, h4, h5, h7, h8⟩, by rw [if_neg (by decide), if_neg h3, if_neg h6, if_neg h7, if_neg h8], by rw [if_neg (by decide), if_neg h3, if_neg h6, if_neg h7, if_neg h8]⟩))))))
  · exact .inl ⟨rfl, by rw [if_pos rfl], by rw [if_pos rfl]⟩
set_option maxRecDepth 100000 in
theorem impl_arity (n : Int) (h0 : -9223372036854775808 ≤ n) (h1 : n ≤ 9223372036854775807) (w : World) (hT : OpsAt w) : Calls Tryd.prog 141 #[.int .i64 n] w fun e w' => e = .returned (.tuple #[.int .i64 (arLo n), .int .i64 (arHi n)]) ∧ Below w.heap.size w w' := by
  have HO := Lib.hid (impl_opText n h0 h1 w hT)
  clear hT
  obtain ⟨x, hx, hb⟩ := op_no n
  rw [hx] at HO
  clear hx
  have hc := ar_cases n
  generalize arLo n = lo at hc ⊢
  generalize arHi n = hi at hc ⊢
  rcases hc with ⟨h, rfl, rfl⟩ | ⟨h, g, rfl, rfl⟩ | ⟨h, rfl, rfl, rfl⟩ | ⟨h, rfl, rfl, rfl⟩ | ⟨h, rfl, rfl, rfl⟩ | ⟨h, rfl, rfl, rfl⟩ | ⟨h, rfl, rfl, rfl⟩ | ⟨h, ⟨g1, f2, f3, f4, f5, f6⟩, rfl, rfl⟩
  · rw [h] at hb
    clear h
    go_enter Tryd.func141, Tryd.ntmps141
    go_wp2_with fail
    refine HO.out.mono ?_
    rintro e w2 ⟨rfl, b2⟩
    have B2 := Lib.hid b2
    clear b2
    go_wp2
    go_ret2
    exact ⟨rfl, B2.out⟩
  · rw [h] at hb
    clear h
    go_enter Tryd.func141, Tryd.ntmps141
    go_wp2_with fail
    refine HO.out.mono ?_
    rintro e w2 ⟨rfl, b2⟩
    have B2 := Lib.hid b2
    clear b2
    go_wp2
    go_ret2
    exact ⟨rfl, B2.out⟩
  · rw [h] at hb
    clear h
    go_enter Tryd.func141, Tryd.ntmps141
    go_wp2_with fail
    refine HO.out.mono ?_
    rintro e w2 ⟨rfl, b2⟩
    have B2 := Lib.hid b2
    clear b2
    go_wp2
    go_ret2
    exact ⟨rfl, B2.out⟩
  · rw [h] at hb
    clear h
    go_enter Tryd.func141, Tryd.ntmps141
    go_wp2_with fail
    refine HO.out.mono ?_
    rintro e w2 ⟨rfl, b2⟩
    have B2 := Lib.hid b2
    clear b2
    go_wp2
    go_ret2
    exact ⟨rfl, B2.out⟩
  · rw [h] at hb
    clear h
    go_enter Tryd.func141, Tryd.ntmps141
    go_wp2_with fail
    refine HO.out.mono ?_
    rintro e w2 ⟨rfl, b2⟩
    have B2 := Lib.hid b2
    clear b2
    go_wp2
    go_ret2
    exact ⟨rfl, B2.out⟩
  · rw [h] at hb
    clear h
    go_enter Tryd.func141, Tryd.ntmps141
    go_wp2_with fail
    refine HO.out.mono ?_
    rintro e w2 ⟨rfl, b2⟩
    have B2 := Lib.hid b2
    clear b2
    go_wp2
    go_ret2
    exact ⟨rfl, B2.out⟩
  · rw [h] at hb
    clear h
    go_enter Tryd.func141, Tryd.ntmps141
    go_wp2_with fail
    refine HO.out.mono ?_
    rintro e w2 ⟨rfl, b2⟩
    have B2 := Lib.hid b2
    clear b2
    go_wp2
    go_ret2
    exact ⟨rfl, B2.out⟩
  · rw [h] at hb
    clear h
    have g2 : (n == 81) = false := beq_eq_false_iff_ne.2 f2
    have g3 : (n == 71) = false := beq_eq_false_iff_ne.2 f3
    have g4 : (n == 72) = false := beq_eq_false_iff_ne.2 f4
    have g5 : (n == 73) = false := beq_eq_false_iff_ne.2 f5
    have g6 : (n == 74) = false := beq_eq_false_iff_ne.2 f6
    clear f2 f3 f4 f5 f6
    go_enter Tryd.func141, Tryd.ntmps141
    go_wp2_with fail
    refine HO.out.mono ?_
    rintro e w2 ⟨rfl, b2⟩
    have B2 := Lib.hid b2
    clear b2
    go_wp2
    go_ret2
    exact ⟨rfl, B2.out⟩
set_option maxRecDepth 100000 in
theorem spec_arity (n : Int) (w : World) : Calls Tryd.prog 90 #[.int .i64 n] w fun e w' => e = .returned (.tuple #[.int .i64 (arLo n), .int .i64 (arHi n)]) ∧ Below w.heap.size w w' := by
  have HO := Lib.hid (spec_opText n w)
  obtain ⟨x, hx, hb⟩ := op_no n
  rw [hx] at HO
  clear hx
  have hc := ar_cases n
  generalize arLo n = lo at hc ⊢
  generalize arHi n = hi at hc ⊢
  rcases hc with ⟨h, rfl, rfl⟩ | ⟨h, g, rfl, rfl⟩ | ⟨h, rfl, rfl, rfl⟩ | ⟨h, rfl, rfl, rfl⟩ | ⟨h, rfl, rfl, rfl⟩ | ⟨h, rfl, rfl, rfl⟩ | ⟨h, rfl, rfl, rfl⟩ | ⟨h, ⟨g1, f2, f3, f4, f5, f6⟩, rfl, rfl⟩
  · rw [h] at hb
    clear h
    go_enter Tryd.func90, Tryd.ntmps90
    go_wp2_with fail
    refine HO.out.mono ?_
    rintro e w2 ⟨rfl, b2⟩
    have B2 := Lib.hid b2
    clear b2
    go_wp2
    go_ret2
    exact ⟨rfl, B2.out⟩
  · rw [h] at hb
    clear h
    go_enter Tryd.func90, Tryd.ntmps90
    go_wp2_with fail
    refine HO.out.mono ?_
    rintro e w2 ⟨rfl, b2⟩
    have B2 := Lib.hid b2
    clear b2
    go_wp2
    go_ret2
    exact ⟨rfl, B2.out⟩
  · rw [h] at hb
    clear h
    go_enter Tryd.func90, Tryd.ntmps90
    go_wp2_with fail
    refine HO.out.mono ?_
    rintro e w2 ⟨rfl, b2⟩
    have B2 := Lib.hid b2
    clear b2
    go_wp2
    go_ret2
    exact ⟨rfl, B2.out⟩
  · rw [h] at hb
    clear h
    go_enter Tryd.func90, Tryd.ntmps90
    go_wp2_with fail
    refine HO.out.mono ?_
    rintro e w2 ⟨rfl, b2⟩
    have B2 := Lib.hid b2
    clear b2
    go_wp2
    go_ret2
    exact ⟨rfl, B2.out⟩
  · rw [h] at hb
    clear h
    go_enter Tryd.func90, Tryd.ntmps90
    go_wp2_with fail
    refine HO.out.mono ?_
    rintro e w2 ⟨rfl, b2⟩
    have B2 := Lib.hid b2
    clear b2
    go_wp2
    go_ret2
    exact ⟨rfl, B2.out⟩
  · rw [h] at hb
    clear h
    go_enter Tryd.func90, Tryd.ntmps90
    go_wp2_with fail
    refine HO.out.mono ?_
    rintro e w2 ⟨rfl, b2⟩
    have B2 := Lib.hid b2
    clear b2
    go_wp2
    go_ret2
    exact ⟨rfl, B2.out⟩
  · rw [h] at hb
    clear h
    go_enter Tryd.func90, Tryd.ntmps90
    go_wp2_with fail
    refine HO.out.mono ?_
    rintro e w2 ⟨rfl, b2⟩
    have B2 := Lib.hid b2
    clear b2
    go_wp2
    go_ret2
    exact ⟨rfl, B2.out⟩
  · rw [h] at hb
    clear h
    have g2 : (n == 81) = false := beq_eq_false_iff_ne.2 f2
    have g3 : (n == 71) = false := beq_eq_false_iff_ne.2 f3
    have g4 : (n == 72) = false := beq_eq_false_iff_ne.2 f4
    have g5 : (n == 73) = false := beq_eq_false_iff_ne.2 f5
    have g6 : (n == 74) = false := beq_eq_false_iff_ne.2 f6
    clear f2 f3 f4 f5 f6
    go_enter Tryd.func90, Tryd.ntmps90
    go_wp2_with fail
    refine HO.out.mono ?_
    rintro e w2 ⟨rfl, b2⟩
    have B2 := Lib.hid b2
    clear b2
    go_wp2
    go_ret2
    exact ⟨rfl, B2.out⟩
end Go.Proofs.YtbadepiakkhabaaDoor
/- The program: numbers of kids, texts of core nodes. The operators' table reads as the program's text lays it. -/
namespace Go.Proofs.YtbadepiakkhabaaDoor.Cr
open Go.RowKit
set_option linter.unusedVariables false

/-- The fewest and the most kids of a node, or an empty range. -/
def kLo (k p : Int) : Int := if 1 ≤ k ∧ k ≤ 28 then Co.cLo k p else 0
def kHi (k p : Int) : Int := if 1 ≤ k ∧ k ≤ 28 then Co.cHi k p else -1
theorem ret_ii {a b c d : Int} (h1 : a = c) (h2 : b = d) : Ending.returned (.tuple #[.int .i64 a, .int .i64 b]) = .returned (.tuple #[.int .i64 c, .int .i64 d]) := by rw [h1, h2]

theorem range_1 (t : Co.T) (w : World) (g o : Nat) (ht : TreeAt w g o t) (h : t.kind = 1) : Calls Tryd.prog 128 #[.pointer (some ⟨g, o, none⟩)] w fun e w' => e = .returned (.tuple #[.int .i64 0, .int .i64 0]) ∧ Below w.heap.size w w' := by
  obtain ⟨⟨e0, e1, e2, e3, e4⟩, v, e5, hk⟩ := tree_cells ht
  rw [h] at e0
  clear ht hk
  go_enter Tryd.func128, Tryd.ntmps128
  go_wp2
  go_ret2
  exact ⟨rfl, Below.refl _ _⟩
theorem range_2 (t : Co.T) (w : World) (g o : Nat) (ht : TreeAt w g o t) (h : t.kind = 2) : Calls Tryd.prog 128 #[.pointer (some ⟨g, o, none⟩)] w fun e w' => e = .returned (.tuple #[.int .i64 0, .int .i64 0]) ∧ Below w.heap.size w w' := by
  obtain ⟨⟨e0, e1, e2, e3, e4⟩, v, e5, hk⟩ := tree_cells ht
  rw [h] at e0
  clear ht hk
  go_enter Tryd.func128, Tryd.ntmps128
  go_wp2
  go_ret2
  exact ⟨rfl, Below.refl _ _⟩
theorem range_3 (t : Co.T) (w : World) (g o : Nat) (ht : TreeAt w g o t) (h : t.kind = 3) : Calls Tryd.prog 128 #[.pointer (some ⟨g, o, none⟩)] w fun e w' => e = .returned (.tuple #[.int .i64 0, .int .i64 0]) ∧ Below w.heap.size w w' := by
  obtain ⟨⟨e0, e1, e2, e3, e4⟩, v, e5, hk⟩ := tree_cells ht
  rw [h] at e0
  clear ht hk
  go_enter Tryd.func128, Tryd.ntmps128
  go_wp2
  go_ret2
  exact ⟨rfl, Below.refl _ _⟩
theorem range_4 (t : Co.T) (w : World) (g o : Nat) (ht : TreeAt w g o t) (h : t.kind = 4) : Calls Tryd.prog 128 #[.pointer (some ⟨g, o, none⟩)] w fun e w' => e = .returned (.tuple #[.int .i64 0, .int .i64 0]) ∧ Below w.heap.size w w' := by
  obtain ⟨⟨e0, e1, e2, e3, e4⟩, v, e5, hk⟩ := tree_cells ht
  rw [h] at e0
  clear ht hk
  go_enter Tryd.func128, Tryd.ntmps128
  go_wp2
  go_ret2
  exact ⟨rfl, Below.refl _ _⟩
theorem range_5 (t : Co.T) (w : World) (g o : Nat) (ht : TreeAt w g o t) (h : t.kind = 5) : Calls Tryd.prog 128 #[.pointer (some ⟨g, o, none⟩)] w fun e w' => e = .returned (.tuple #[.int .i64 0, .int .i64 0]) ∧ Below w.heap.size w w' := by
  obtain ⟨⟨e0, e1, e2, e3, e4⟩, v, e5, hk⟩ := tree_cells ht
  rw [h] at e0
  clear ht hk
  go_enter Tryd.func128, Tryd.ntmps128
  go_wp2
  go_ret2
  exact ⟨rfl, Below.refl _ _⟩
theorem range_6 (t : Co.T) (w : World) (g o : Nat) (ht : TreeAt w g o t) (h : t.kind = 6) : Calls Tryd.prog 128 #[.pointer (some ⟨g, o, none⟩)] w fun e w' => e = .returned (.tuple #[.int .i64 0, .int .i64 0]) ∧ Below w.heap.size w w' := by
  obtain ⟨⟨e0, e1, e2, e3, e4⟩, v, e5, hk⟩ := tree_cells ht
  rw [h] at e0
  clear ht hk
  go_enter Tryd.func128, Tryd.ntmps128
  go_wp2
  go_ret2
  exact ⟨rfl, Below.refl _ _⟩
theorem range_7 (t : Co.T) (w : World) (g o : Nat) (ht : TreeAt w g o t) (h : t.kind = 7) : Calls Tryd.prog 128 #[.pointer (some ⟨g, o, none⟩)] w fun e w' => e = .returned (.tuple #[.int .i64 0, .int .i64 0]) ∧ Below w.heap.size w w' := by
  obtain ⟨⟨e0, e1, e2, e3, e4⟩, v, e5, hk⟩ := tree_cells ht
  rw [h] at e0
  clear ht hk
  go_enter Tryd.func128, Tryd.ntmps128
  go_wp2
  go_ret2
  exact ⟨rfl, Below.refl _ _⟩
theorem range_8 (t : Co.T) (w : World) (g o : Nat) (ht : TreeAt w g o t) (h : t.kind = 8) : Calls Tryd.prog 128 #[.pointer (some ⟨g, o, none⟩)] w fun e w' => e = .returned (.tuple #[.int .i64 0, .int .i64 0]) ∧ Below w.heap.size w w' := by
  obtain ⟨⟨e0, e1, e2, e3, e4⟩, v, e5, hk⟩ := tree_cells ht
  rw [h] at e0
  clear ht hk
  go_enter Tryd.func128, Tryd.ntmps128
  go_wp2
  go_ret2
  exact ⟨rfl, Below.refl _ _⟩
theorem range_9 (t : Co.T) (w : World) (g o : Nat) (ht : TreeAt w g o t) (h : t.kind = 9) : Calls Tryd.prog 128 #[.pointer (some ⟨g, o, none⟩)] w fun e w' => e = .returned (.tuple #[.int .i64 0, .int .i64 0]) ∧ Below w.heap.size w w' := by
  obtain ⟨⟨e0, e1, e2, e3, e4⟩, v, e5, hk⟩ := tree_cells ht
  rw [h] at e0
  clear ht hk
  go_enter Tryd.func128, Tryd.ntmps128
  go_wp2
  go_ret2
  exact ⟨rfl, Below.refl _ _⟩
theorem range_10 (t : Co.T) (w : World) (g o : Nat) (ht : TreeAt w g o t) (h : t.kind = 10) : Calls Tryd.prog 128 #[.pointer (some ⟨g, o, none⟩)] w fun e w' => e = .returned (.tuple #[.int .i64 0, .int .i64 0]) ∧ Below w.heap.size w w' := by
  obtain ⟨⟨e0, e1, e2, e3, e4⟩, v, e5, hk⟩ := tree_cells ht
  rw [h] at e0
  clear ht hk
  go_enter Tryd.func128, Tryd.ntmps128
  go_wp2
  go_ret2
  exact ⟨rfl, Below.refl _ _⟩
theorem range_11 (t : Co.T) (w : World) (g o : Nat) (ht : TreeAt w g o t) (h : t.kind = 11) (hT : OpsAt w) (p0 : -9223372036854775808 ≤ t.op) (p1 : t.op ≤ 9223372036854775807) : Calls Tryd.prog 128 #[.pointer (some ⟨g, o, none⟩)] w fun e w' => e = .returned (.tuple #[.int .i64 (arLo t.op), .int .i64 (arHi t.op)]) ∧ Below w.heap.size w w' := by
  have HA := Lib.hid (impl_arity t.op p0 p1 w hT)
  obtain ⟨⟨e0, e1, e2, e3, e4⟩, v, e5, hk⟩ := tree_cells ht
  rw [h] at e0
  clear ht hk hT p0 p1
  go_enter Tryd.func128, Tryd.ntmps128
  go_wp2_with fail
  refine HA.out.mono ?_
  rintro e w1 ⟨rfl, b1⟩
  go_wp2
  go_ret2
  exact ⟨rfl, b1⟩
theorem range_12 (t : Co.T) (w : World) (g o : Nat) (ht : TreeAt w g o t) (h : t.kind = 12) : Calls Tryd.prog 128 #[.pointer (some ⟨g, o, none⟩)] w fun e w' => e = .returned (.tuple #[.int .i64 1, .int .i64 9]) ∧ Below w.heap.size w w' := by
  obtain ⟨⟨e0, e1, e2, e3, e4⟩, v, e5, hk⟩ := tree_cells ht
  rw [h] at e0
  clear ht hk
  go_enter Tryd.func128, Tryd.ntmps128
  go_wp2
  go_ret2
  exact ⟨rfl, Below.refl _ _⟩
theorem range_13 (t : Co.T) (w : World) (g o : Nat) (ht : TreeAt w g o t) (h : t.kind = 13) : Calls Tryd.prog 128 #[.pointer (some ⟨g, o, none⟩)] w fun e w' => e = .returned (.tuple #[.int .i64 2, .int .i64 2]) ∧ Below w.heap.size w w' := by
  obtain ⟨⟨e0, e1, e2, e3, e4⟩, v, e5, hk⟩ := tree_cells ht
  rw [h] at e0
  clear ht hk
  go_enter Tryd.func128, Tryd.ntmps128
  go_wp2
  go_ret2
  exact ⟨rfl, Below.refl _ _⟩
theorem range_14 (t : Co.T) (w : World) (g o : Nat) (ht : TreeAt w g o t) (h : t.kind = 14) : Calls Tryd.prog 128 #[.pointer (some ⟨g, o, none⟩)] w fun e w' => e = .returned (.tuple #[.int .i64 1, .int .i64 1]) ∧ Below w.heap.size w w' := by
  obtain ⟨⟨e0, e1, e2, e3, e4⟩, v, e5, hk⟩ := tree_cells ht
  rw [h] at e0
  clear ht hk
  go_enter Tryd.func128, Tryd.ntmps128
  go_wp2
  go_ret2
  exact ⟨rfl, Below.refl _ _⟩
theorem range_15 (t : Co.T) (w : World) (g o : Nat) (ht : TreeAt w g o t) (h : t.kind = 15) : Calls Tryd.prog 128 #[.pointer (some ⟨g, o, none⟩)] w fun e w' => e = .returned (.tuple #[.int .i64 2, .int .i64 2]) ∧ Below w.heap.size w w' := by
  obtain ⟨⟨e0, e1, e2, e3, e4⟩, v, e5, hk⟩ := tree_cells ht
  rw [h] at e0
  clear ht hk
  go_enter Tryd.func128, Tryd.ntmps128
  go_wp2
  go_ret2
  exact ⟨rfl, Below.refl _ _⟩
theorem range_16 (t : Co.T) (w : World) (g o : Nat) (ht : TreeAt w g o t) (h : t.kind = 16) : Calls Tryd.prog 128 #[.pointer (some ⟨g, o, none⟩)] w fun e w' => e = .returned (.tuple #[.int .i64 1, .int .i64 24]) ∧ Below w.heap.size w w' := by
  obtain ⟨⟨e0, e1, e2, e3, e4⟩, v, e5, hk⟩ := tree_cells ht
  rw [h] at e0
  clear ht hk
  go_enter Tryd.func128, Tryd.ntmps128
  go_wp2
  go_ret2
  exact ⟨rfl, Below.refl _ _⟩
theorem range_17 (t : Co.T) (w : World) (g o : Nat) (ht : TreeAt w g o t) (h : t.kind = 17) : Calls Tryd.prog 128 #[.pointer (some ⟨g, o, none⟩)] w fun e w' => e = .returned (.tuple #[.int .i64 3, .int .i64 3]) ∧ Below w.heap.size w w' := by
  obtain ⟨⟨e0, e1, e2, e3, e4⟩, v, e5, hk⟩ := tree_cells ht
  rw [h] at e0
  clear ht hk
  go_enter Tryd.func128, Tryd.ntmps128
  go_wp2
  go_ret2
  exact ⟨rfl, Below.refl _ _⟩
theorem range_18 (t : Co.T) (w : World) (g o : Nat) (ht : TreeAt w g o t) (h : t.kind = 18) : Calls Tryd.prog 128 #[.pointer (some ⟨g, o, none⟩)] w fun e w' => e = .returned (.tuple #[.int .i64 2, .int .i64 2]) ∧ Below w.heap.size w w' := by
  obtain ⟨⟨e0, e1, e2, e3, e4⟩, v, e5, hk⟩ := tree_cells ht
  rw [h] at e0
  clear ht hk
  go_enter Tryd.func128, Tryd.ntmps128
  go_wp2
  go_ret2
  exact ⟨rfl, Below.refl _ _⟩
theorem range_19 (t : Co.T) (w : World) (g o : Nat) (ht : TreeAt w g o t) (h : t.kind = 19) : Calls Tryd.prog 128 #[.pointer (some ⟨g, o, none⟩)] w fun e w' => e = .returned (.tuple #[.int .i64 2, .int .i64 2]) ∧ Below w.heap.size w w' := by
  obtain ⟨⟨e0, e1, e2, e3, e4⟩, v, e5, hk⟩ := tree_cells ht
  rw [h] at e0
  clear ht hk
  go_enter Tryd.func128, Tryd.ntmps128
  go_wp2
  go_ret2
  exact ⟨rfl, Below.refl _ _⟩
theorem range_20 (t : Co.T) (w : World) (g o : Nat) (ht : TreeAt w g o t) (h : t.kind = 20) : Calls Tryd.prog 128 #[.pointer (some ⟨g, o, none⟩)] w fun e w' => e = .returned (.tuple #[.int .i64 1, .int .i64 1]) ∧ Below w.heap.size w w' := by
  obtain ⟨⟨e0, e1, e2, e3, e4⟩, v, e5, hk⟩ := tree_cells ht
  rw [h] at e0
  clear ht hk
  go_enter Tryd.func128, Tryd.ntmps128
  go_wp2
  go_ret2
  exact ⟨rfl, Below.refl _ _⟩
theorem range_21 (t : Co.T) (w : World) (g o : Nat) (ht : TreeAt w g o t) (h : t.kind = 21) : Calls Tryd.prog 128 #[.pointer (some ⟨g, o, none⟩)] w fun e w' => e = .returned (.tuple #[.int .i64 0, .int .i64 0]) ∧ Below w.heap.size w w' := by
  obtain ⟨⟨e0, e1, e2, e3, e4⟩, v, e5, hk⟩ := tree_cells ht
  rw [h] at e0
  clear ht hk
  go_enter Tryd.func128, Tryd.ntmps128
  go_wp2
  go_ret2
  exact ⟨rfl, Below.refl _ _⟩
theorem range_22 (t : Co.T) (w : World) (g o : Nat) (ht : TreeAt w g o t) (h : t.kind = 22) : Calls Tryd.prog 128 #[.pointer (some ⟨g, o, none⟩)] w fun e w' => e = .returned (.tuple #[.int .i64 2, .int .i64 2]) ∧ Below w.heap.size w w' := by
  obtain ⟨⟨e0, e1, e2, e3, e4⟩, v, e5, hk⟩ := tree_cells ht
  rw [h] at e0
  clear ht hk
  go_enter Tryd.func128, Tryd.ntmps128
  go_wp2
  go_ret2
  exact ⟨rfl, Below.refl _ _⟩
theorem range_23 (t : Co.T) (w : World) (g o : Nat) (ht : TreeAt w g o t) (h : t.kind = 23) : Calls Tryd.prog 128 #[.pointer (some ⟨g, o, none⟩)] w fun e w' => e = .returned (.tuple #[.int .i64 1, .int .i64 1]) ∧ Below w.heap.size w w' := by
  obtain ⟨⟨e0, e1, e2, e3, e4⟩, v, e5, hk⟩ := tree_cells ht
  rw [h] at e0
  clear ht hk
  go_enter Tryd.func128, Tryd.ntmps128
  go_wp2
  go_ret2
  exact ⟨rfl, Below.refl _ _⟩
theorem range_24 (t : Co.T) (w : World) (g o : Nat) (ht : TreeAt w g o t) (h : t.kind = 24) : Calls Tryd.prog 128 #[.pointer (some ⟨g, o, none⟩)] w fun e w' => e = .returned (.tuple #[.int .i64 0, .int .i64 0]) ∧ Below w.heap.size w w' := by
  obtain ⟨⟨e0, e1, e2, e3, e4⟩, v, e5, hk⟩ := tree_cells ht
  rw [h] at e0
  clear ht hk
  go_enter Tryd.func128, Tryd.ntmps128
  go_wp2
  go_ret2
  exact ⟨rfl, Below.refl _ _⟩
theorem range_25 (t : Co.T) (w : World) (g o : Nat) (ht : TreeAt w g o t) (h : t.kind = 25) : Calls Tryd.prog 128 #[.pointer (some ⟨g, o, none⟩)] w fun e w' => e = .returned (.tuple #[.int .i64 2, .int .i64 2]) ∧ Below w.heap.size w w' := by
  obtain ⟨⟨e0, e1, e2, e3, e4⟩, v, e5, hk⟩ := tree_cells ht
  rw [h] at e0
  clear ht hk
  go_enter Tryd.func128, Tryd.ntmps128
  go_wp2
  go_ret2
  exact ⟨rfl, Below.refl _ _⟩
theorem range_26 (t : Co.T) (w : World) (g o : Nat) (ht : TreeAt w g o t) (h : t.kind = 26) : Calls Tryd.prog 128 #[.pointer (some ⟨g, o, none⟩)] w fun e w' => e = .returned (.tuple #[.int .i64 1, .int .i64 1]) ∧ Below w.heap.size w w' := by
  obtain ⟨⟨e0, e1, e2, e3, e4⟩, v, e5, hk⟩ := tree_cells ht
  rw [h] at e0
  clear ht hk
  go_enter Tryd.func128, Tryd.ntmps128
  go_wp2
  go_ret2
  exact ⟨rfl, Below.refl _ _⟩
theorem range_27 (t : Co.T) (w : World) (g o : Nat) (ht : TreeAt w g o t) (h : t.kind = 27) : Calls Tryd.prog 128 #[.pointer (some ⟨g, o, none⟩)] w fun e w' => e = .returned (.tuple #[.int .i64 1, .int .i64 1]) ∧ Below w.heap.size w w' := by
  obtain ⟨⟨e0, e1, e2, e3, e4⟩, v, e5, hk⟩ := tree_cells ht
  rw [h] at e0
  clear ht hk
  go_enter Tryd.func128, Tryd.ntmps128
  go_wp2
  go_ret2
  exact ⟨rfl, Below.refl _ _⟩
theorem range_28 (t : Co.T) (w : World) (g o : Nat) (ht : TreeAt w g o t) (h : t.kind = 28) : Calls Tryd.prog 128 #[.pointer (some ⟨g, o, none⟩)] w fun e w' => e = .returned (.tuple #[.int .i64 0, .int .i64 0]) ∧ Below w.heap.size w w' := by
  obtain ⟨⟨e0, e1, e2, e3, e4⟩, v, e5, hk⟩ := tree_cells ht
  rw [h] at e0
  clear ht hk
  go_enter Tryd.func128, Tryd.ntmps128
  go_wp2
  go_ret2
  exact ⟨rfl, Below.refl _ _⟩
theorem range_n (t : Co.T) (w : World) (g o : Nat) (ht : TreeAt w g o t) (m1 : (t.kind == 1) = false) (m2 : (t.kind == 2) = false) (m3 : (t.kind == 3) = false) (m4 : (t.kind == 4) = false) (m5 : (t.kind == 5) = false) (m6 : (t.kind == 6) = false) (m7 : (t.kind == 7) = false) (m8 : (t.kind == 8) = false) (m9 : (t.kind == 9) = false) (m10 : (t.kind == 10) = false) (m11 : (t.kind == 11) = false) (m12 : (t.kind == 12) = false) (m13 : (t.kind == 13) = false) (m14 : (t.kind == 14) = false) (m15 : (t.kind == 15) = false) (m16 : (t.kind == 16) = false) (m17 : (t.kind == 17) = false) (m18 : (t.kind == 18) = false) (m19 : (t.kind == 19) = false) (m20 : (t.kind == 20) = false) (m21 : (t.kind == 21) = false) (m22 : (t.kind == 22) = false) (m23 : (t.kind == 23) = false) (m24 : (t.kind == 24) = false) (m25 : (t.kind == 25) = false) (m26 : (t.kind == 26) = false) (m27 : (t.kind == 27) = false) (m28 : (t.kind == 28) = false) : Calls Tryd.prog 128 #[.pointer (some ⟨g, o, none⟩)] w fun e w' => e = .returned (.tuple #[.int .i64 0, .int .i64 (-1)]) ∧ Below w.heap.size w w' := by
  obtain ⟨⟨e0, e1, e2, e3, e4⟩, v, e5, hk⟩ := tree_cells ht
  clear ht hk
  go_enter Tryd.func128, Tryd.ntmps128
  go_wp2
  go_ret2
  exact ⟨rfl, Below.refl _ _⟩
theorem impl_range (t : Co.T) (w : World) (g o : Nat) (ht : TreeAt w g o t) (hT : OpsAt w) (p0 : -9223372036854775808 ≤ t.op) (p1 : t.op ≤ 9223372036854775807) : Calls Tryd.prog 128 #[.pointer (some ⟨g, o, none⟩)] w fun e w' => e = .returned (.tuple #[.int .i64 (kLo t.kind t.op), .int .i64 (kHi t.kind t.op)]) ∧ Below w.heap.size w w' := by
  by_cases h1 : t.kind = 1
  · have e1 : kLo t.kind t.op = 0 := by rw [h1]; rfl
    have e2 : kHi t.kind t.op = 0 := by rw [h1]; rfl
    rw [e1, e2]
    exact range_1 t w g o ht h1
  by_cases h2 : t.kind = 2
  · have e1 : kLo t.kind t.op = 0 := by rw [h2]; rfl
    have e2 : kHi t.kind t.op = 0 := by rw [h2]; rfl
    rw [e1, e2]
    exact range_2 t w g o ht h2
  by_cases h3 : t.kind = 3
  · have e1 : kLo t.kind t.op = 0 := by rw [h3]; rfl
    have e2 : kHi t.kind t.op = 0 := by rw [h3]; rfl
    rw [e1, e2]
    exact range_3 t w g o ht h3
  by_cases h4 : t.kind = 4
  · have e1 : kLo t.kind t.op = 0 := by rw [h4]; rfl
    have e2 : kHi t.kind t.op = 0 := by rw [h4]; rfl
    rw [e1, e2]
    exact range_4 t w g o ht h4
  by_cases h5 : t.kind = 5
  · have e1 : kLo t.kind t.op = 0 := by rw [h5]; rfl
    have e2 : kHi t.kind t.op = 0 := by rw [h5]; rfl
    rw [e1, e2]
    exact range_5 t w g o ht h5
  by_cases h6 : t.kind = 6
  · have e1 : kLo t.kind t.op = 0 := by rw [h6]; rfl
    have e2 : kHi t.kind t.op = 0 := by rw [h6]; rfl
    rw [e1, e2]
    exact range_6 t w g o ht h6
  by_cases h7 : t.kind = 7
  · have e1 : kLo t.kind t.op = 0 := by rw [h7]; rfl
    have e2 : kHi t.kind t.op = 0 := by rw [h7]; rfl
    rw [e1, e2]
    exact range_7 t w g o ht h7
  by_cases h8 : t.kind = 8
  · have e1 : kLo t.kind t.op = 0 := by rw [h8]; rfl
    have e2 : kHi t.kind t.op = 0 := by rw [h8]; rfl
    rw [e1, e2]
    exact range_8 t w g o ht h8
  by_cases h9 : t.kind = 9
  · have e1 : kLo t.kind t.op = 0 := by rw [h9]; rfl
    have e2 : kHi t.kind t.op = 0 := by rw [h9]; rfl
    rw [e1, e2]
    exact range_9 t w g o ht h9
  by_cases h10 : t.kind = 10
  · have e1 : kLo t.kind t.op = 0 := by rw [h10]; rfl
    have e2 : kHi t.kind t.op = 0 := by rw [h10]; rfl
    rw [e1, e2]
    exact range_10 t w g o ht h10
  by_cases h11 : t.kind = 11
  · have e1 : kLo t.kind t.op = (arLo t.op) := by rw [h11]; rfl
    have e2 : kHi t.kind t.op = (arHi t.op) := by rw [h11]; rfl
    rw [e1, e2]
    exact range_11 t w g o ht h11 hT p0 p1
  by_cases h12 : t.kind = 12
  · have e1 : kLo t.kind t.op = 1 := by rw [h12]; rfl
    have e2 : kHi t.kind t.op = 9 := by rw [h12]; rfl
    rw [e1, e2]
    exact range_12 t w g o ht h12
  by_cases h13 : t.kind = 13
  · have e1 : kLo t.kind t.op = 2 := by rw [h13]; rfl
    have e2 : kHi t.kind t.op = 2 := by rw [h13]; rfl
    rw [e1, e2]
    exact range_13 t w g o ht h13
  by_cases h14 : t.kind = 14
  · have e1 : kLo t.kind t.op = 1 := by rw [h14]; rfl
    have e2 : kHi t.kind t.op = 1 := by rw [h14]; rfl
    rw [e1, e2]
    exact range_14 t w g o ht h14
  by_cases h15 : t.kind = 15
  · have e1 : kLo t.kind t.op = 2 := by rw [h15]; rfl
    have e2 : kHi t.kind t.op = 2 := by rw [h15]; rfl
    rw [e1, e2]
    exact range_15 t w g o ht h15
  by_cases h16 : t.kind = 16
  · have e1 : kLo t.kind t.op = 1 := by rw [h16]; rfl
    have e2 : kHi t.kind t.op = 24 := by rw [h16]; rfl
    rw [e1, e2]
    exact range_16 t w g o ht h16
  by_cases h17 : t.kind = 17
  · have e1 : kLo t.kind t.op = 3 := by rw [h17]; rfl
    have e2 : kHi t.kind t.op = 3 := by rw [h17]; rfl
    rw [e1, e2]
    exact range_17 t w g o ht h17
  by_cases h18 : t.kind = 18
  · have e1 : kLo t.kind t.op = 2 := by rw [h18]; rfl
    have e2 : kHi t.kind t.op = 2 := by rw [h18]; rfl
    rw [e1, e2]
    exact range_18 t w g o ht h18
  by_cases h19 : t.kind = 19
  · have e1 : kLo t.kind t.op = 2 := by rw [h19]; rfl
    have e2 : kHi t.kind t.op = 2 := by rw [h19]; rfl
    rw [e1, e2]
    exact range_19 t w g o ht h19
  by_cases h20 : t.kind = 20
  · have e1 : kLo t.kind t.op = 1 := by rw [h20]; rfl
    have e2 : kHi t.kind t.op = 1 := by rw [h20]; rfl
    rw [e1, e2]
    exact range_20 t w g o ht h20
  by_cases h21 : t.kind = 21
  · have e1 : kLo t.kind t.op = 0 := by rw [h21]; rfl
    have e2 : kHi t.kind t.op = 0 := by rw [h21]; rfl
    rw [e1, e2]
    exact range_21 t w g o ht h21
  by_cases h22 : t.kind = 22
  · have e1 : kLo t.kind t.op = 2 := by rw [h22]; rfl
    have e2 : kHi t.kind t.op = 2 := by rw [h22]; rfl
    rw [e1, e2]
    exact range_22 t w g o ht h22
  by_cases h23 : t.kind = 23
  · have e1 : kLo t.kind t.op = 1 := by rw [h23]; rfl
    have e2 : kHi t.kind t.op = 1 := by rw [h23]; rfl
    rw [e1, e2]
    exact range_23 t w g o ht h23
  by_cases h24 : t.kind = 24
  · have e1 : kLo t.kind t.op = 0 := by rw [h24]; rfl
    have e2 : kHi t.kind t.op = 0 := by rw [h24]; rfl
    rw [e1, e2]
    exact range_24 t w g o ht h24
  by_cases h25 : t.kind = 25
  · have e1 : kLo t.kind t.op = 2 := by rw [h25]; rfl
    have e2 : kHi t.kind t.op = 2 := by rw [h25]; rfl
    rw [e1, e2]
    exact range_25 t w g o ht h25
  by_cases h26 : t.kind = 26
  · have e1 : kLo t.kind t.op = 1 := by rw [h26]; rfl
    have e2 : kHi t.kind t.op = 1 := by rw [h26]; rfl
    rw [e1, e2]
    exact range_26 t w g o ht h26
  by_cases h27 : t.kind = 27
  · have e1 : kLo t.kind t.op = 1 := by rw [h27]; rfl
    have e2 : kHi t.kind t.op = 1 := by rw [h27]; rfl
    rw [e1, e2]
    exact range_27 t w g o ht h27
  by_cases h28 : t.kind = 28
  · have e1 : kLo t.kind t.op = 0 := by rw [h28]; rfl
    have e2 : kHi t.kind t.op = 0 := by rw [h28]; rfl
    rw [e1, e2]
    exact range_28 t w g o ht h28
  rw [show kLo t.kind t.op = 0 from if_neg (by omega), show kHi t.kind t.op = -1 from if_neg (by omega)]
  exact range_n t w g o ht (beq_eq_false_iff_ne.2 h1) (beq_eq_false_iff_ne.2 h2) (beq_eq_false_iff_ne.2 h3) (beq_eq_false_iff_ne.2 h4) (beq_eq_false_iff_ne.2 h5) (beq_eq_false_iff_ne.2 h6) (beq_eq_false_iff_ne.2 h7) (beq_eq_false_iff_ne.2 h8) (beq_eq_false_iff_ne.2 h9) (beq_eq_false_iff_ne.2 h10) (beq_eq_false_iff_ne.2 h11) (beq_eq_false_iff_ne.2 h12) (beq_eq_false_iff_ne.2 h13) (beq_eq_false_iff_ne.2 h14) (beq_eq_false_iff_ne.2 h15) (beq_eq_false_iff_ne.2 h16) (beq_eq_false_iff_ne.2 h17) (beq_eq_false_iff_ne.2 h18) (beq_eq_false_iff_ne.2 h19) (beq_eq_false_iff_ne.2 h20) (beq_eq_false_iff_ne.2 h21) (beq_eq_false_iff_ne.2 h22) (beq_eq_false_iff_ne.2 h23) (beq_eq_false_iff_ne.2 h24) (beq_eq_false_iff_ne.2 h25) (beq_eq_false_iff_ne.2 h26) (beq_eq_false_iff_ne.2 h27) (beq_eq_false_iff_ne.2 h28)
theorem ctext_2 (t : Co.T) (w : World) (g o : Nat) (ht : TreeAt w g o t) (h : t.kind = 2) : Calls Tryd.prog 102 #[.pointer (some ⟨g, o, none⟩)] w fun e w' => e = .returned (.bool (decide (t.text.size ≤ 120))) ∧ Below w.heap.size w w' := by
  obtain ⟨⟨e0, e1, e2, e3, e4⟩, v, e5, hk⟩ := tree_cells ht
  rw [h] at e0
  clear ht hk
  go_enter Tryd.func102, Tryd.ntmps102
  go_wp2
  go_ret
  exact ⟨ret_vb2 (by simp; omega), Below.refl _ _⟩
theorem ctext_3 (t : Co.T) (w : World) (g o : Nat) (ht : TreeAt w g o t) (h : t.kind = 3) (hs : (t.text.size : Int) ≤ 1048576) : Calls Tryd.prog 102 #[.pointer (some ⟨g, o, none⟩)] w fun e w' => e = .returned (.bool (Co.elems t.text)) ∧ Below w.heap.size w w' := by
  have HC := Lib.hid (fun W => impl_elems t.text W hs)
  obtain ⟨⟨e0, e1, e2, e3, e4⟩, v, e5, hk⟩ := tree_cells ht
  rw [h] at e0
  generalize Co.elems t.text = b at HC ⊢
  clear ht hk
  go_enter Tryd.func102, Tryd.ntmps102
  go_wp2_with fail
  refine (HC.out _).mono ?_
  rintro e w1 ⟨rfl, b1⟩
  go_wp2
  go_ret
  exact ⟨rfl, b1⟩
theorem ctext_n (t : Co.T) (w : World) (g o : Nat) (ht : TreeAt w g o t) (m2 : (t.kind == 2) = false) (m3 : (t.kind == 3) = false) : Calls Tryd.prog 102 #[.pointer (some ⟨g, o, none⟩)] w fun e w' => e = .returned (.bool (t.text.data.toList.isEmpty)) ∧ Below w.heap.size w w' := by
  obtain ⟨⟨e0, e1, e2, e3, e4⟩, v, e5, hk⟩ := tree_cells ht
  clear ht hk
  go_enter Tryd.func102, Tryd.ntmps102
  go_wp2
  go_ret
  exact ⟨ret_vb2 (by rw [← ByteArray.toList_eq]), Below.refl _ _⟩
theorem impl_ctext (t : Co.T) (w : World) (g o : Nat) (ht : TreeAt w g o t) (hs : (t.text.size : Int) ≤ 1048576) : Calls Tryd.prog 102 #[.pointer (some ⟨g, o, none⟩)] w fun e w' => e = .returned (.bool (Co.txtOk t.kind t.text)) ∧ Below w.heap.size w w' := by
  unfold Co.txtOk
  by_cases h2 : t.kind = 2
  · rw [if_pos h2]; exact ctext_2 t w g o ht h2
  · rw [if_neg h2]
    by_cases h3 : t.kind = 3
    · rw [if_pos h3]; exact ctext_3 t w g o ht h3 hs
    · rw [if_neg h3]; exact ctext_n t w g o ht (beq_eq_false_iff_ne.2 h2) (beq_eq_false_iff_ne.2 h3)
end Go.Proofs.YtbadepiakkhabaaDoor.Cr
