/- Joined texts: Y17, Y11. No conditions besides those that each states. -/
import Derived.Test.YtiiogpafgoeblaaZ19
import Derived.Test.YtiiogpafgoeblaaZ24
/- The program's printer: a case. No conditions. -/
namespace Go.Proofs.Ytiiogpafgoeblaa
open Go.RowKit
set_option linter.unusedVariables false

set_option maxRecDepth 100000 in
set_option maxHeartbeats 6400000 in
theorem impl_case (t : Ex.T) (h : t.kind = 20) (x : Ex.T) (r : List Ex.T) (hks : t.kids = x :: r) (n0 : 0 ≤ t.num) (n1 : t.num ≤ 1) (hpar : ((t.kids.length : Int) - 1 - t.num).tmod 2 = 0) (hI : ∀ k (h : k < t.kids.length), FitC t.kids[k]) (h24 : t.kids.length ≤ 24)
    (zI : ∀ k (h : k < t.kids.length), ((str8 (t.kids[k].fit 1)).size : Int) ≤ 1048576) (hb : (Lib.join (Ex.brs (Ex.parts r)) [59, 32]).length ≤ 1048576) (w : World) (g o : Nat) (ht : TreeAt w g o t) :
    Calls Try.prog 114 #[.pointer (some ⟨g, o, none⟩)] w (RetT w (str8 t.form)) := by
  unfold RetT
  obtain ⟨i0, hi, hz0, hz1, hz2⟩ := info_parts info_string
  have HF : Hid ((⟨#[99, 97, 115, 101, 32]⟩ : ByteArray) ++ str8 (x.fit 1) ++ (⟨#[32, 111, 102, 32, 123]⟩ : ByteArray) ++ str8 (Lib.join (Ex.brs (Ex.parts r)) [59, 32]) ++ (⟨#[125]⟩ : ByteArray) = str8 t.form) := Lib.hid (by
    rw [Ex.form_20 t h, hks]
    show _ = str8 ([99, 97, 115, 101, 32] ++ x.fit 1 ++ [32, 111, 102, 32, 123] ++ Lib.join (Ex.brs (Ex.parts r)) [59, 32] ++ [125])
    apply ByteArray.ext
    simp [str8])
  have HT := Lib.hid ht
  obtain ⟨⟨e0, e1, e2, e3⟩, v, e4, hkk⟩ := tree_cells ht
  obtain ⟨a, c, rfl⟩ := kids_len hkk
  have hkl : t.kids.length = r.length + 1 := by rw [hks, List.length_cons]
  have HK : Hid (∀ k, (hk : k < r.length + 1) → ∀ W, Below w.heap.size w W → Calls Try.prog 111 #[.pointer (some ⟨g, o, none⟩), .int .i64 k, .int .i64 1] W fun e w' => e = .returned (.string (str8 ((x :: r)[k].fit 1))) ∧ Below W.heap.size W w') := Lib.hid (fun k hk W hW => by
    have h2 := impl_kid t k (by omega) h24 (hI k (by omega)) 1 W g o (ht.later hW)
    have e : t.kids[k]'(by omega) = (x :: r)[k] := by congr 1
    rw [e] at h2
    exact h2)
  have ZI : Hid (∀ k, (hk : k < r.length + 1) → ((str8 ((x :: r)[k].fit 1)).size : Int) ≤ 1048576) := Lib.hid (fun k hk => by
    have h2 := zI k (by omega)
    have e : t.kids[k]'(by omega) = (x :: r)[k] := by congr 1
    rw [e] at h2
    exact h2)
  rw [hkl] at hpar e4
  have HJ : Hid (∀ W vo, StrsAt W vo (brsS r) → Calls Try.prog 86 #[vo, .string ⟨#[59, 32]⟩] W fun e w' => e = .returned (.string (str8 (Lib.join (Ex.brs (Ex.parts r)) [59, 32]))) ∧ Below W.heap.size W w') := Lib.hid (fun W vo hv => by
    have h2 := impl_sjoin vo (brsS r) ⟨#[59, 32]⟩ W hv (by rw [brsS_data]; show (Lib.join _ [59, 32]).length ≤ _; omega) (by have := brs_count _ r (Nat.le_refl _); omega)
    rw [brsS_data] at h2
    exact h2)
  have z2 : ((str8 (Lib.join (Ex.brs (Ex.parts r)) [59, 32])).size : Int) ≤ 1048576 := by rw [str8_size]; omega
  have HT2 := Lib.hid (fun j hj => brs_step j r hj)
  have HLa := Lib.hid (fun j hj => brs_last j r hj)
  have HEv := Lib.hid (fun j hj => brs_even j r hj)
  have HCN := Lib.hid (show (brsS r).length ≤ 24 by have := brs_count _ r (Nat.le_refl _); omega)
  obtain ⟨m, hm⟩ : ∃ m : Nat, (r.length : Int) = 2 * m + t.num := by
    rw [show ((r.length + 1 : Nat) : Int) - 1 - t.num = (r.length : Int) - t.num by omega] at hpar
    by_cases e : t.num = 0
    · rw [e] at hpar
      exact ⟨r.length / 2, by rw [Int.tmod_eq_emod_of_nonneg (by omega)] at hpar; omega⟩
    · have e1 : t.num = 1 := by omega
      rw [e1] at hpar
      refine ⟨r.length / 2, ?_⟩
      by_cases hz : r.length = 0
      · rw [hz] at hpar; simp at hpar
      · rw [Int.tmod_eq_emod_of_nonneg (by omega)] at hpar; omega
  have HM := Lib.hid hm
  have hr24 : r.length ≤ 24 := by omega
  generalize str8 (Lib.join (Ex.brs (Ex.parts r)) [59, 32]) = s2 at HJ HF z2
  have q1 : IntKind.i64.wrap (((r.length + 1 : Nat) : Int) - t.num) = 1 + 2 * (m : Int) := by rw [IntKind.wrap_i64]; omega
  have q2 : IntKind.i64.wrap ((r.length : Int) + 1 - t.num) = 1 + 2 * (m : Int) := by rw [IntKind.wrap_i64]; omega
  clear hkk ht hks hkl hpar hI zI hb hm h
  go_enter Try.func114, Try.ntmps114
  go_wp2_with fail
  go_quiet (fail)
  have HX : Hid (∀ W, Below w.heap.size w W → Calls Try.prog 111 #[.pointer (some ⟨g, o, none⟩), .int .i64 0, .int .i64 1] W fun e w' => e = .returned (.string (str8 (x.fit 1))) ∧ Below W.heap.size W w') := Lib.hid (fun W hW => HK.out 0 (by omega) W hW)
  have z1 := ZI.out 0 (by omega)
  rw [List.getElem_cons_zero] at z1
  generalize str8 (x.fit 1) = s1 at HX HF z1
  have HDr : Hid (Below w.heap.size w (w.drewN nq)) := Lib.hid (below_drewN (Below.refl _ w) nq)
  go_wp2
  go_loopw [4, 5] (fun vo i wr => ∃ j : Nat, i = .int .i64 (1 + 2 * (j : Int)) ∧ j ≤ m ∧ Owns wr w.heap.size vo ((brsS r).take j) ∧ Below w.heap.size w wr) (fun _ i _ => 2 * m + 1 - (intOf i).toNat)
  case atStart => exact ⟨0, rfl, Nat.zero_le _, World.ownsRow_nil _ _ _ _, HDr.out⟩
  case round =>
    clear HDr
    obtain ⟨j, rfl, hj, ho, hb⟩ := hrel
    have HO := Lib.hid ho
    have HB := Lib.hid hb
    have hsz := hb.size
    have ln : ((brsS r).take j).length ≤ 24 := by rw [List.length_take]; have := HCN.out; omega
    have LN := Lib.hid ln
    clear ho hb ln
    by_cases hlt : j < m
    · have hm := HM.out
      have h2 : 2 * j + 1 < r.length := by omega
      have HA : Hid (∀ W, Below w.heap.size w W → Calls Try.prog 111 #[.pointer (some ⟨g, o, none⟩), .int .i64 (1 + 2 * (j : Int)), .int .i64 1] W fun e w' => e = .returned (.string (str8 (r[2 * j].fit 1))) ∧ Below W.heap.size W w') := Lib.hid (fun W hW => by
        have h3 := HK.out (2 * j + 1) (by omega) W hW
        rw [List.getElem_cons_succ, show ((2 * j + 1 : Nat) : Int) = 1 + 2 * (j : Int) by omega] at h3
        exact h3)
      have HC : Hid (∀ W, Below w.heap.size w W → Calls Try.prog 111 #[.pointer (some ⟨g, o, none⟩), .int .i64 (2 + 2 * (j : Int)), .int .i64 1] W fun e w' => e = .returned (.string (str8 (r[2 * j + 1].fit 1))) ∧ Below W.heap.size W w') := Lib.hid (fun W hW => by
        have h3 := HK.out (2 * j + 1 + 1) (by omega) W hW
        rw [List.getElem_cons_succ, show ((2 * j + 1 + 1 : Nat) : Int) = 2 + 2 * (j : Int) by omega] at h3
        exact h3)
      have za := ZI.out (2 * j + 1) (by omega)
      have zb := ZI.out (2 * j + 1 + 1) (by omega)
      rw [List.getElem_cons_succ] at za zb
      have HN := Lib.hid (HT2.out j h2)
      have q3 : IntKind.i64.wrap (1 + 2 * (j : Int) + 1) = 2 + 2 * (j : Int) := by rw [IntKind.wrap_i64]; omega
      have q4 : IntKind.i64.wrap (1 + 2 * (j : Int) + 2) = 3 + 2 * (j : Int) := by rw [IntKind.wrap_i64]; omega
      have q5 : (j : Int) < m := by omega
      have q6 : 1 + 2 * (j : Int) < 1 + 2 * (m : Int) := by omega
      clear hm
      generalize str8 (r[2 * j].fit 1) = sa at HA za HN
      generalize str8 (r[2 * j + 1].fit 1) = sb at HC zb HN
      clear h2
      go_wp2_with fail
      refine (HA.out _ HB.out).mono ?_
      rintro e w1 ⟨rfl, b1⟩
      have B1 := Lib.hid (below_then HB.out b1)
      have O1 := Lib.hid (owns_below HO.out b1)
      clear b1
      go_wp2_with fail
      refine (HC.out _ B1.out).mono ?_
      rintro e w2 ⟨rfl, b2⟩
      have B2 := Lib.hid (below_then B1.out b2)
      have O2 := Lib.hid (owns_below O1.out b2)
      clear b2
      go_wp2_with fail
      refine (tog3 sa _ sb w2 ?sz).mono ?_
      case sz => show (sa.size : Int) + 3 + sb.size ≤ _; omega
      rintro e w3 ⟨rfl, b3⟩
      have HB1 := Lib.hid (below_then (below_then B2.out (bl1 _ _)) b3)
      have HO1 := Lib.hid (owns_below (owns_below O2.out (bl1 _ _)) b3)
      have hs1 := HB1.out.size
      clear b3 q3
      go_wp2_with (at_builtin; refine wpList_append_own _ rfl _ _ 23 rfl w.heap.size 9 i0 (.string ByteArray.empty) 1 16 Try.underlying23 hi hz0 hz1 hz2 rfl (by decide) _ _ _ rfl (HO1.out.alloc _) ⟨w3.heap.size, 0, none⟩ 1 1 [.string (sa ++ (⟨#[32, 58, 32]⟩ : ByteArray) ++ sb)] rfl rfl ?c1 ?c2 ?c3 ?c4 ?c5 ?_)
      case c1 => exact new_cell _ _ _
      case c2 => exact one_string _
      case c3 => have := LN.out; exact max_small (by omega)
      case c4 => have := LN.out; omega
      case c5 => simp; omega
      intro v' w4 hown' hgrow _
      have ho := owns_app (l := (brsS r).take j) (x := sa ++ (⟨#[32, 58, 32]⟩ : ByteArray) ++ sb) (by rw [List.length_take, List.map_take]; exact hown')
      rw [HN.out] at ho
      have HO2 := Lib.hid ho
      have HB2 := Lib.hid (below_app HB1.out HO1.out hgrow)
      clear hown' hgrow ho
      go_wp2
      go_roundw
      case rel => exact ⟨j + 1, by congr 1; omega, by omega, HO2.out, HB2.out⟩
      case measure => first | (simp [intOf]; done) | (simp [intOf]; omega)
    · obtain rfl : j = m := by omega
      have hm := HM.out
      have e5 := subw_below HB.out _ _ _ e4
      by_cases hn1 : t.num = 1
      · have hr : r.length = 2 * j + 1 := by omega
        have q7 : 1 + 2 * (j : Int) < ((r.length + 1 : Nat) : Int) := by omega
        have q8 : 1 + 2 * (j : Int) < (r.length : Int) + 1 := by omega
        have HA : Hid (∀ W, Below w.heap.size w W → Calls Try.prog 111 #[.pointer (some ⟨g, o, none⟩), .int .i64 (1 + 2 * (j : Int)), .int .i64 1] W fun e w' => e = .returned (.string (str8 (r[2 * j].fit 1))) ∧ Below W.heap.size W w') := Lib.hid (fun W hW => by
          have h3 := HK.out (2 * j + 1) (by omega) W hW
          rw [List.getElem_cons_succ, show ((2 * j + 1 : Nat) : Int) = 1 + 2 * (j : Int) by omega] at h3
          exact h3)
        have za := ZI.out (2 * j + 1) (by omega)
        rw [List.getElem_cons_succ] at za
        have HN := Lib.hid (HLa.out j hr)
        generalize str8 (r[2 * j].fit 1) = sa at HA za HN
        clear hr hm hn1
        go_wp2_with fail
        refine (HA.out _ HB.out).mono ?_
        rintro e w1 ⟨rfl, b1⟩
        have B1 := Lib.hid (below_then HB.out b1)
        have O1 := Lib.hid (owns_below HO.out b1)
        clear b1 e5
        go_wp2_with fail
        refine (tog2 _ sa w1 ?sz).mono ?_
        case sz => show (10 : Int) + sa.size ≤ _; omega
        rintro e w3 ⟨rfl, b3⟩
        have HB1 := Lib.hid (below_then (below_then B1.out (bl1 _ _)) b3)
        have HO1 := Lib.hid (owns_below (owns_below O1.out (bl1 _ _)) b3)
        have hs1 := HB1.out.size
        clear b3
        go_wp2_with (at_builtin; refine wpList_append_own _ rfl _ _ 23 rfl w.heap.size 9 i0 (.string ByteArray.empty) 1 16 Try.underlying23 hi hz0 hz1 hz2 rfl (by decide) _ _ _ rfl (HO1.out.alloc _) ⟨w3.heap.size, 0, none⟩ 1 1 [.string ((⟨#[100, 101, 102, 97, 117, 108, 116, 32, 58, 32]⟩ : ByteArray) ++ sa)] rfl rfl ?d1 ?d2 ?d3 ?d4 ?d5 ?_)
        case d1 => exact new_cell _ _ _
        case d2 => exact one_string _
        case d3 => have := LN.out; exact max_small (by omega)
        case d4 => have := LN.out; omega
        case d5 => simp; omega
        intro v' w4 hown' hgrow _
        have ho := owns_app (l := (brsS r).take j) (x := (⟨#[100, 101, 102, 97, 117, 108, 116, 32, 58, 32]⟩ : ByteArray) ++ sa) (by rw [List.length_take, List.map_take]; exact hown')
        rw [HN.out] at ho
        have HSt : Hid (StrsAt w4 v' (brsS r)) := Lib.hid (strsAt_owns ho)
        have HBt := Lib.hid (below_app HB1.out HO1.out hgrow)
        clear hown' hgrow ho hi hz0 hz1 hz2
        have e5 := subw_below HBt.out _ _ _ e4
        go_wp2_with fail
        refine (HX.out _ HBt.out).mono ?_
        rintro e w8 ⟨rfl, b8⟩
        have B8 := Lib.hid (below_then HBt.out b8)
        have O8 := Lib.hid (HSt.out.later b8)
        clear b8 e5
        go_wp2_with fail
        refine (HJ.out _ _ O8.out).mono ?_
        rintro e w9 ⟨rfl, b9⟩
        have B9 := Lib.hid (below_then B8.out b9)
        clear b9
        go_wp2_with fail
        refine (tog5 _ s1 _ s2 _ w9 ?sz).mono ?_
        case sz => show (5 : Int) + s1.size + 5 + s2.size + 1 ≤ _; omega
        rintro e w10 ⟨rfl, b10⟩
        have B10 := Lib.hid (below_then (below_then B9.out (bl1 _ _)) b10)
        clear b10
        go_wp2
        go_ret
        exact ⟨ret_str HF.out, B10.out⟩
      · have hn0 : t.num = 0 := by omega
        have hr : r.length = 2 * j := by omega
        have q7 : ¬ 1 + 2 * (j : Int) < ((r.length + 1 : Nat) : Int) := by omega
        have q8 : (r.length : Int) + 1 ≤ 1 + 2 * (j : Int) := by omega
        have q9 : (r.length : Int) = 2 * (j : Int) := by omega
        have HSt : Hid (StrsAt wr _ (brsS r)) := Lib.hid (by have h9 := strsAt_owns HO.out; rw [HEv.out j hr] at h9; exact h9)
        have HBt := HB
        clear hm hr
        go_wp2_with fail
        refine (HX.out _ HBt.out).mono ?_
        rintro e w8 ⟨rfl, b8⟩
        have B8 := Lib.hid (below_then HBt.out b8)
        have O8 := Lib.hid (HSt.out.later b8)
        clear b8 e5
        go_wp2_with fail
        refine (HJ.out _ _ O8.out).mono ?_
        rintro e w9 ⟨rfl, b9⟩
        have B9 := Lib.hid (below_then B8.out b9)
        clear b9
        go_wp2_with fail
        refine (tog5 _ s1 _ s2 _ w9 ?sz).mono ?_
        case sz => show (5 : Int) + s1.size + 5 + s2.size + 1 ≤ _; omega
        rintro e w10 ⟨rfl, b10⟩
        have B10 := Lib.hid (below_then (below_then B9.out (bl1 _ _)) b10)
        clear b10
        go_wp2
        go_ret
        exact ⟨ret_str HF.out, B10.out⟩
end Go.Proofs.Ytiiogpafgoeblaa
/- The reference model's printer: calls. No conditions. -/
namespace Go.Proofs.Ytiiogpafgoeblaa
open Go.RowKit
set_option linter.unusedVariables false

theorem kids_rest {w : World} {g o c : Nat} {r : List Ex.T} (hc : r.length ≤ c) (h : RowAt w g o r) : Kids w (.slice (some ⟨g, o, none⟩) r.length c) r := kids_of hc fun i hi => row_at h i hi
set_option maxRecDepth 100000 in
set_option maxHeartbeats 3200000 in
theorem node_10a (t : Ex.T) (h : t.kind = 10) (x : Ex.T) (h1 : AtC x) (z1 : ((str8 (x.fit 13)).size : Int) ≤ 1048576) (hb : (Ex.seps (Ex.parts []) [44, 32]).length ≤ 1048576)
    (HF : Hid (str8 (x.fit 13) ++ (⟨#[40]⟩ : ByteArray) ++ str8 (Ex.seps (Ex.parts []) [44, 32]) ++ (⟨#[41]⟩ : ByteArray) = str8 t.form)) (w : World) (g o : Nat) (vx : Value) (cx : Cells5 w g o x vx) (kx : Kids w vx x.kids) :
    Calls Try.prog 40 #[exV t (.slice (some ⟨g, o, none⟩) 1 1)] w (RetT w (str8 t.form)) := by
  unfold RetT
  have hkr : Kids w (.slice (some ⟨g, o, none⟩) 0 0) [] := by rw [Kids]; exact ⟨_, _, rfl⟩
  have hb0 := bl1 w (.cells #[.int .i64 10, .string t.text, .int .i64 t.num, .int .i64 t.line, .slice (some ⟨g, o, none⟩) 1 1] 45)
  have he := CellsE.new w t (.slice (some ⟨g, o, none⟩) 1 1) 45
  rw [h] at he
  have HE := Lib.hid he
  have Cx := Lib.hid (cx.later hb0)
  have H1 := Lib.hid (at_c h1 (kx.later hb0) 13)
  have H2 : Hid (∀ W, Below (w.alloc (.cells #[.int .i64 10, .string t.text, .int .i64 t.num, .int .i64 t.line, .slice (some ⟨g, o, none⟩) 1 1] 45)).heap.size (w.alloc (.cells #[.int .i64 10, .string t.text, .int .i64 t.num, .int .i64 t.line, .slice (some ⟨g, o, none⟩) 1 1] 45)) W → Calls Try.prog 65 #[.slice (some ⟨g, o, none⟩) 0 0, .string ⟨#[44, 32]⟩] W fun e w' => e = .returned (.string (str8 (Ex.seps (Ex.parts []) [44, 32]))) ∧ Below W.heap.size W w') := Lib.hid (fun W hW => spec_list [] (fun y hy => by cases hy) ⟨#[44, 32]⟩ (show 2 ≤ 16 by decide) (by decide) hb W _ ((hkr.later hb0).later hW))
  have z2 : ((str8 (Ex.seps (Ex.parts []) [44, 32])).size : Int) ≤ 1048576 := by rw [str8_size]; omega
  have HB0 := Lib.hid hb0
  obtain ⟨w0, hw0⟩ : ∃ W, w.alloc (.cells #[.int .i64 10, .string t.text, .int .i64 t.num, .int .i64 t.line, .slice (some ⟨g, o, none⟩) 1 1] 45) = W := ⟨_, rfl⟩
  rw [hw0] at HE HB0 H1 H2 Cx
  have HW0 := Lib.hid hw0
  generalize str8 (x.fit 13) = s1 at H1 HF z1
  generalize str8 (Ex.seps (Ex.parts []) [44, 32]) = s2 at H2 HF z2
  clear hw0 he cx kx hb0 h1 hb hkr
  go_enter Try.func40, Try.ntmps40
  go_wp2_with fail
  have c1 := cat_run (s1) ((⟨#[40]⟩ : ByteArray)) (by have l0 : (⟨#[40]⟩ : ByteArray).size = 1 := rfl; omega)
  have c2 := cat_run (s1 ++ (⟨#[40]⟩ : ByteArray)) (s2) (by simp only [ByteArray.size_append]; have l0 : (⟨#[40]⟩ : ByteArray).size = 1 := rfl; omega)
  have c3 := cat_run (s1 ++ (⟨#[40]⟩ : ByteArray) ++ s2) ((⟨#[41]⟩ : ByteArray)) (by simp only [ByteArray.size_append]; have l0 : (⟨#[40]⟩ : ByteArray).size = 1 := rfl; have l1 : (⟨#[41]⟩ : ByteArray).size = 1 := rfl; omega)
  obtain ⟨e0, e1, e2, e3, e4⟩ := HE.out
  obtain ⟨E, hE⟩ : ∃ n, w.heap.size = n := ⟨_, rfl⟩
  have hw0 := HW0.out
  rw [hw0, hE]
  rw [hE] at e1 e4
  have HS : Hid (∀ W, Below w0.heap.size w0 W → (W.cell? ⟨E, 4, none⟩ = some (.slice (some ⟨g, o, none⟩) (1) 1) ∧ W.cell? ⟨E, 1, none⟩ = some (.string t.text) ∧ W.cell? ⟨g, o, none⟩ = some (.int .i64 x.kind) ∧ W.cell? ⟨g, o + 1, none⟩ = some (.string x.text) ∧ W.cell? ⟨g, o + 2, none⟩ = some (.int .i64 x.num) ∧ W.cell? ⟨g, o + 3, none⟩ = some (.int .i64 x.line) ∧ W.cell? ⟨g, o + 4, none⟩ = some (vx)) ∧ Below w0.heap.size w0 W) := Lib.hid (fun W hW => ⟨⟨subw_below hW _ _ _ e4, subw_below hW _ _ _ e1, subw_below hW _ _ _ Cx.out.1, subw_below hW _ _ _ Cx.out.2.1, subw_below hW _ _ _ Cx.out.2.2.1, subw_below hW _ _ _ Cx.out.2.2.2.1, subw_below hW _ _ _ Cx.out.2.2.2.2⟩, hW⟩)
  clear hw0 hE e0 e1 e2 e3 e4 HE Cx
  go_region_held3 (fun W => (W.cell? ⟨E, 4, none⟩ = some (.slice (some ⟨g, o, none⟩) (1) 1) ∧ W.cell? ⟨E, 1, none⟩ = some (.string t.text) ∧ W.cell? ⟨g, o, none⟩ = some (.int .i64 x.kind) ∧ W.cell? ⟨g, o + 1, none⟩ = some (.string x.text) ∧ W.cell? ⟨g, o + 2, none⟩ = some (.int .i64 x.num) ∧ W.cell? ⟨g, o + 3, none⟩ = some (.int .i64 x.line) ∧ W.cell? ⟨g, o + 4, none⟩ = some (vx)) ∧ Below w0.heap.size w0 W) (first | (with_reducible assumption) | (with_reducible exact HS.out _ (Below.refl _ _).drew) | (with_reducible exact HS.out _ (held_t (by assumption) b1)) | (with_reducible exact HS.out _ (held_t (by assumption) b2))) (first | (go_at_call 66; with_reducible refine (H1.out _ (held_b (by assumption))).mono ?_; rintro e w1 ⟨rfl, b1⟩) | (go_at_call 65; with_reducible refine (H2.out _ (held_b (by assumption))).mono ?_; rintro e w2 ⟨rfl, b2⟩))
  all_goals go_wp2
  all_goals go_ret
  all_goals exact ⟨ret_str HF.out, below_then (below_then HB0.out.drew b1) b2⟩
set_option maxRecDepth 100000 in
set_option maxHeartbeats 3200000 in
theorem node_10b (t : Ex.T) (h : t.kind = 10) (x : Ex.T) (r : List Ex.T) (n : Nat) (hn : r.length = n) (h1 : AtC x) (z1 : ((str8 (x.fit 13)).size : Int) ≤ 1048576) (hI : ∀ y ∈ r, AtC y) (hl : n ≤ 24) (hb : (Ex.seps (Ex.parts r) [44, 32]).length ≤ 1048576)
    (HF : Hid (str8 (x.fit 13) ++ (⟨#[40]⟩ : ByteArray) ++ str8 (Ex.seps (Ex.parts r) [44, 32]) ++ (⟨#[41]⟩ : ByteArray) = str8 t.form)) (w : World) (g o c : Nat) (vx : Value) (hc1 : ¬ c = 1) (hcp : n + 1 ≤ c) (cx : Cells5 w g o x vx) (kx : Kids w vx x.kids) (hr : RowAt w g (o + 5) r) :
    Calls Try.prog 40 #[exV t (.slice (some ⟨g, o, none⟩) (n + 1) c)] w (RetT w (str8 t.form)) := by
  unfold RetT
  subst hn
  have hkr : Kids w (.slice (some ⟨g, o + 5, none⟩) r.length (c - 1)) r := kids_rest (by omega) hr
  have hb0 := bl1 w (.cells #[.int .i64 10, .string t.text, .int .i64 t.num, .int .i64 t.line, .slice (some ⟨g, o, none⟩) (r.length + 1) c] 45)
  have he := CellsE.new w t (.slice (some ⟨g, o, none⟩) (r.length + 1) c) 45
  rw [h] at he
  have HE := Lib.hid he
  have Cx := Lib.hid (cx.later hb0)
  have H1 := Lib.hid (at_c h1 (kx.later hb0) 13)
  have H2 : Hid (∀ W, Below (w.alloc (.cells #[.int .i64 10, .string t.text, .int .i64 t.num, .int .i64 t.line, .slice (some ⟨g, o, none⟩) (r.length + 1) c] 45)).heap.size (w.alloc (.cells #[.int .i64 10, .string t.text, .int .i64 t.num, .int .i64 t.line, .slice (some ⟨g, o, none⟩) (r.length + 1) c] 45)) W → Calls Try.prog 65 #[.slice (some ⟨g, o + 5, none⟩) r.length (c - 1), .string ⟨#[44, 32]⟩] W fun e w' => e = .returned (.string (str8 (Ex.seps (Ex.parts r) [44, 32]))) ∧ Below W.heap.size W w') := Lib.hid (fun W hW => spec_list r hI ⟨#[44, 32]⟩ (show 2 ≤ 16 by decide) hl hb W _ ((hkr.later hb0).later hW))
  have z2 : ((str8 (Ex.seps (Ex.parts r) [44, 32])).size : Int) ≤ 1048576 := by rw [str8_size]; omega
  have HB0 := Lib.hid hb0
  obtain ⟨w0, hw0⟩ : ∃ W, w.alloc (.cells #[.int .i64 10, .string t.text, .int .i64 t.num, .int .i64 t.line, .slice (some ⟨g, o, none⟩) (r.length + 1) c] 45) = W := ⟨_, rfl⟩
  rw [hw0] at HE HB0 H1 H2 Cx
  have HW0 := Lib.hid hw0
  generalize str8 (x.fit 13) = s1 at H1 HF z1
  generalize str8 (Ex.seps (Ex.parts r) [44, 32]) = s2 at H2 HF z2
  have l0 : (1 : Int) ≤ (r.length : Int) + 1 := by omega
  have l1 : ((r.length + 1 : Nat) : Int) ≤ c := by omega
  have l2 : (0 : Int) ≤ r.length := by omega
  clear hw0 he cx kx hb0 h1 hI hb hr hkr hcp
  go_enter Try.func40, Try.ntmps40
  go_wp2_with fail
  have c1 := cat_run (s1) ((⟨#[40]⟩ : ByteArray)) (by have l0 : (⟨#[40]⟩ : ByteArray).size = 1 := rfl; omega)
  have c2 := cat_run (s1 ++ (⟨#[40]⟩ : ByteArray)) (s2) (by simp only [ByteArray.size_append]; have l0 : (⟨#[40]⟩ : ByteArray).size = 1 := rfl; omega)
  have c3 := cat_run (s1 ++ (⟨#[40]⟩ : ByteArray) ++ s2) ((⟨#[41]⟩ : ByteArray)) (by simp only [ByteArray.size_append]; have l0 : (⟨#[40]⟩ : ByteArray).size = 1 := rfl; have l1 : (⟨#[41]⟩ : ByteArray).size = 1 := rfl; omega)
  obtain ⟨e0, e1, e2, e3, e4⟩ := HE.out
  obtain ⟨E, hE⟩ : ∃ n, w.heap.size = n := ⟨_, rfl⟩
  have hw0 := HW0.out
  rw [hw0, hE]
  rw [hE] at e1 e4
  have HS : Hid (∀ W, Below w0.heap.size w0 W → (W.cell? ⟨E, 4, none⟩ = some (.slice (some ⟨g, o, none⟩) (r.length + 1) c) ∧ W.cell? ⟨E, 1, none⟩ = some (.string t.text) ∧ W.cell? ⟨g, o, none⟩ = some (.int .i64 x.kind) ∧ W.cell? ⟨g, o + 1, none⟩ = some (.string x.text) ∧ W.cell? ⟨g, o + 2, none⟩ = some (.int .i64 x.num) ∧ W.cell? ⟨g, o + 3, none⟩ = some (.int .i64 x.line) ∧ W.cell? ⟨g, o + 4, none⟩ = some (vx)) ∧ Below w0.heap.size w0 W) := Lib.hid (fun W hW => ⟨⟨subw_below hW _ _ _ e4, subw_below hW _ _ _ e1, subw_below hW _ _ _ Cx.out.1, subw_below hW _ _ _ Cx.out.2.1, subw_below hW _ _ _ Cx.out.2.2.1, subw_below hW _ _ _ Cx.out.2.2.2.1, subw_below hW _ _ _ Cx.out.2.2.2.2⟩, hW⟩)
  clear hw0 hE e0 e1 e2 e3 e4 HE Cx
  go_region_held3 (fun W => (W.cell? ⟨E, 4, none⟩ = some (.slice (some ⟨g, o, none⟩) (r.length + 1) c) ∧ W.cell? ⟨E, 1, none⟩ = some (.string t.text) ∧ W.cell? ⟨g, o, none⟩ = some (.int .i64 x.kind) ∧ W.cell? ⟨g, o + 1, none⟩ = some (.string x.text) ∧ W.cell? ⟨g, o + 2, none⟩ = some (.int .i64 x.num) ∧ W.cell? ⟨g, o + 3, none⟩ = some (.int .i64 x.line) ∧ W.cell? ⟨g, o + 4, none⟩ = some (vx)) ∧ Below w0.heap.size w0 W) (first | (with_reducible assumption) | (with_reducible exact HS.out _ (Below.refl _ _).drew) | (with_reducible exact HS.out _ (held_t (by assumption) b1)) | (with_reducible exact HS.out _ (held_t (by assumption) b2))) (first | (go_at_call 66; with_reducible refine (H1.out _ (held_b (by assumption))).mono ?_; rintro e w1 ⟨rfl, b1⟩) | (go_at_call 65; with_reducible refine (H2.out _ (held_b (by assumption))).mono ?_; rintro e w2 ⟨rfl, b2⟩))
  all_goals go_wp2
  all_goals go_ret
  all_goals exact ⟨ret_str HF.out, below_then (below_then HB0.out.drew b1) b2⟩
theorem node_10 (t : Ex.T) (h : t.kind = 10) (x : Ex.T) (r : List Ex.T) (hks : t.kids = x :: r) (h1 : AtC x) (z1 : ((str8 (x.fit 13)).size : Int) ≤ 1048576) (hI : ∀ y ∈ r, AtC y) (hl : r.length ≤ 24) (hb : (Ex.seps (Ex.parts r) [44, 32]).length ≤ 1048576) : NodeC t := by
  intro w v hk
  have HF : Hid (str8 (x.fit 13) ++ (⟨#[40]⟩ : ByteArray) ++ str8 (Ex.seps (Ex.parts r) [44, 32]) ++ (⟨#[41]⟩ : ByteArray) = str8 t.form) := Lib.hid (by
    rw [Ex.form_10 t h, hks]
    show _ = str8 (x.fit 13 ++ [40] ++ Ex.seps (Ex.parts r) [44, 32] ++ [41])
    apply ByteArray.ext
    simp [str8])
  rw [hks] at hk
  obtain ⟨g, o, c, vx, rfl, hcp, ⟨cx, kx⟩, hr⟩ := kids1 hk
  by_cases hc1 : c = 1
  · subst hc1
    obtain rfl : r = [] := List.length_eq_zero_iff.1 (by omega)
    exact node_10a t h x h1 z1 hb HF w g o vx cx kx
  · exact node_10b t h x r r.length rfl h1 z1 hI hl hb HF w g o c vx hc1 hcp cx kx hr
end Go.Proofs.Ytiiogpafgoeblaa
