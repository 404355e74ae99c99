/- Joined texts: K14, K15, X8, R14, J10. No conditions besides those that each states. -/
import Derived.Deep.RegionHeld3
import Derived.Test.YtfhakailbikjkaaDoorRows
import Derived.LaidLaws
import Derived.MakeChecks
import Derived.Stop.LaidErr
import Derived.LaidMore
import Derived.Test.YtfhakailbikjkaaDoorZ4
import Derived.Test.YtfhakailbikjkaaDoorZ10
/- Lex of the reference model: its walk. No conditions. -/
namespace Go.Proofs.YtfhakailbikjkaaDoor
open Go.RowKit
set_option linter.unusedVariables false

set_option maxRecDepth 100000 in
set_option maxHeartbeats 3200000 in
theorem spec_lex (s : ByteArray) (w : World) : Calls Tryd.prog 4 #[.string s] w (RetLex w (Tk.lex denM s.data.toList)) := by
  unfold RetLex
  obtain ⟨i0, hi, hz0, hz1, hz2⟩ := info_parts info_tok
  by_cases hbig : 6000 < s.size
  · have e : Tk.lex denM s.data.toList = (1, []) := by unfold Tk.lex; exact if_pos hbig
    rw [e]
    have hb : (6000 : Int) < s.size := by omega
    clear e hbig
    go_enter Tryd.func4, Tryd.ntmps4
    go_wp2
    go_ret2
    exact ⟨_, rfl, ownT_nil _ _, Below.refl _ _⟩
  · have hst := LexAt.start w s (by show s.size ≤ 6000; omega)
    have hs : (s.size : Int) ≤ 6000 := by omega
    generalize Tk.lex denM s.data.toList = R at hst ⊢
    have HST := Lib.hid hst
    clear hst hbig
    go_enter Tryd.func4, Tryd.ntmps4
    go_wp2
    go_loopw [2, 3, 4, 5, 6, 7, 8, 9] (fun _ _ v ln fr i _ _ wr => ∃ (k line : Nat) (f : Bool) (out : List Tk.Tok), i = .int .i64 k ∧ ln = .int .i64 line ∧ fr = .bool f ∧ k ≤ s.size ∧ LexAt w s R k line f out v wr) (fun _ _ _ _ _ i _ _ _ => s.size - (intOf i).toNat)
    case atStart => exact ⟨0, 1, false, [], rfl, rfl, rfl, by omega, HST.out⟩
    case round =>
      clear HST
      obtain ⟨k, line, f, out, rfl, rfl, rfl, hk, hat⟩ := hrel
      have hline := hat.2.1
      have hol := hat.2.2.1
      have HAT := Lib.hid hat
      clear hat
      by_cases hlt : (k : Int) < s.size
      · have hks : k < s.size := by omega
        by_cases h10 : s[k] = 10
        · have t10 : ((s[k].toNat : Int) == 10) = true := by rw [h10]; rfl
          have HN := Lib.hid (HAT.out.line hks h10)
          clear h10
          go_wp2
          go_roundw
          case rel => exact ⟨k + 1, line + 1, true, out, by go_num, by go_num, rfl, by omega, HN.out⟩
          case measure => first | (simp [intOf]; done) | (simp [intOf]; omega)
        · have t10 : ((s[k].toNat : Int) == 10) = false := ne8 (b := 10) h10
          by_cases h32 : s[k] = 32
          · have t32 : ((s[k].toNat : Int) == 32) = true := by rw [h32]; rfl
            have HN := Lib.hid (HAT.out.blank hks (.inl h32))
            clear h10 h32
            go_wp2
            go_roundw
            case rel => exact ⟨k + 1, line, f, out, by go_num, rfl, rfl, by omega, HN.out⟩
            case measure => first | (simp [intOf]; done) | (simp [intOf]; omega)
          · have t32 : ((s[k].toNat : Int) == 32) = false := ne8 (b := 32) h32
            by_cases h9 : s[k] = 9
            · have t9 : ((s[k].toNat : Int) == 9) = true := by rw [h9]; rfl
              have HN := Lib.hid (HAT.out.blank hks (.inr h9))
              clear h10 h32 h9
              go_wp2
              go_roundw
              case rel => exact ⟨k + 1, line, f, out, by go_num, rfl, rfl, by omega, HN.out⟩
              case measure => first | (simp [intOf]; done) | (simp [intOf]; omega)
            · have t9 : ((s[k].toNat : Int) == 9) = false := ne8 (b := 9) h9
              by_cases h35 : s[k] = 35
              · have t35 : ((s[k].toNat : Int) == 35) = true := by rw [h35]; rfl
                have HN := Lib.hid (HAT.out.note hks h35)
                have hle := tw_le (fun c => c != 10) s.data.toList k (by show k ≤ s.size; omega)
                have HLT := Lib.hid (fun m h1 h2 => tw_lt (fun c => c != 10) s.data.toList k m h1 h2)
                have HEND := Lib.hid (fun m hm h => tw_end (fun c => c != 10) s.data.toList k m hm h)
                have hk1 : k + 1 ≤ noteEnd s k := by
                  unfold noteEnd
                  rw [drop_at s k hks, h35, List.takeWhile_cons, if_pos (by decide), List.length_cons]
                  omega
                have HE : Hid (noteEnd s k = k + ((s.data.toList.drop k).takeWhile fun c => c != 10).length) := Lib.hid rfl
                have hen : noteEnd s k ≤ s.size := by rw [HE.out]; exact hle
                clear h10 h32 h9 h35 hle
                generalize noteEnd s k = e0 at HN hk1 HE hen
                go_wp2
                go_loop [7] (fun i => ∃ m : Nat, i = .int .i64 m ∧ k ≤ m ∧ m ≤ e0) (fun i => s.size - (intOf i).toNat)
                case atStart => exact ⟨k, rfl, by omega, by omega⟩
                case round =>
                  obtain ⟨m, rfl, hm1, hm2⟩ := hrel
                  by_cases hme : m < e0
                  · obtain ⟨hml, hmb⟩ := HLT.out m hm1 (by rw [← HE.out]; exact hme)
                    have hml2 : m < s.size := hml
                    have hmli : (m : Int) < s.size := by omega
                    have u10 : ((s[m].toNat : Int) == 10) = false := ne8 (b := 10) (by have h2 : (s[m] != 10) = true := hmb; simpa using h2)
                    clear hml hmb
                    go_wp2
                    go_round
                    case rel => exact ⟨m + 1, by go_num, by omega, by omega⟩
                    case measure => first | (simp [intOf]; done) | (simp [intOf]; omega)
                  · obtain rfl : m = e0 := by omega
                    by_cases hmx : m < s.size
                    · have hmli : (m : Int) < s.size := by omega
                      have hx := HEND.out m HE.out hmx
                      have u10 : ((s[m].toNat : Int) == 10) = true := by
                        have hx2 : s[m] = 10 := by have h3 : (s[m] != 10) = false := hx; simpa using h3
                        rw [hx2]; rfl
                      clear hx
                      go_wp2
                      go_roundw
                      case rel => exact ⟨m, line, f, out, rfl, rfl, rfl, by omega, HN.out⟩
                      case measure => first | (simp [intOf]; done) | (simp [intOf]; omega)
                    · have hmli : ¬ (m : Int) < s.size := by omega
                      go_wp2
                      go_roundw
                      case rel => exact ⟨m, line, f, out, rfl, rfl, rfl, by omega, HN.out⟩
                      case measure => first | (simp [intOf]; done) | (simp [intOf]; omega)
              · have t35 : ((s[k].toNat : Int) == 35) = false := ne8 (b := 35) h35
                have HO := Lib.hid (fun W => one_any s k W (by omega) hks)
                unfold RetOne at HO
                cases ho : Tk.one denM (s.data.toList.drop k) with
                | none =>
                  have HBAD := Lib.hid (HAT.out.bad hks h10 h32 h9 h35 ho)
                  rw [ho] at HO
                  unfold oneE at HO
                  clear h10 h32 h9 h35 ho
                  go_wp2_with (go_at_call 9; refine (HO.out _).mono ?_; rintro e w1 ⟨rfl, hb1⟩; have HB1 := Lib.hid (below_step HAT.out.2.2.2.2 hb1); clear hb1)
                  go_ret2
                  exact ⟨_, by rw [HBAD.out]; rfl, by rw [HBAD.out]; exact ownT_nil _ _, HB1.out.alloc HB1.out.size _⟩
                | some y =>
                  obtain ⟨kd, t, n⟩ := y
                  have hn1 := Tk.one_pos ho
                  have hn2 := one_le ho
                  rw [List.length_drop, len8] at hn2
                  have HTK := Lib.hid (fun w1 v1 h1 h2 => HAT.out.tok (w1 := w1) (v1 := v1) hks h10 h32 h9 h35 ho (semi_le _ _ _ _) h1 h2)
                  rw [ho] at HO
                  unfold oneE at HO
                  clear h10 h32 h9 h35 ho
                  have HOWN := Lib.hid (fun w1 (hb1 : Below wr.heap.size wr w1) => (ownT_below HAT.out.2.2.2.1 hb1).alloc (.cells #[.int .i64 (kd : Int), .string (str8 t), .int .i64 (line : Int)] 29))
                  have HBW := Lib.hid HAT.out.2.2.2.2
                  rcases semi_cases out f kd t with ⟨rfl, hsm⟩ | ⟨rfl, rfl, hsm⟩ | ⟨l0, x, rfl, rfl, hx⟩
                  · rw [hsm, List.append_nil] at HTK
                    clear hsm HAT
                    have hml : (out.map toB).length ≤ 12000 := by rw [List.length_map]; omega
                    go_wp2_with (first | (go_at_call 9; refine (HO.out _).mono ?_; rintro e w1 ⟨rfl, hb1⟩; have HO1 := Lib.hid (HOWN.out w1 hb1); have HB1 := Lib.hid ((below_step HBW.out hb1).alloc (below_step HBW.out hb1).size (.cells #[.int .i64 (kd : Int), .string (str8 t), .int .i64 (line : Int)] 29)); clear hb1) | (at_builtin; refine wpList_append_own _ rfl _ _ 22 rfl w.heap.size 29 i0 (.agg #[.int .i64 0, .string ByteArray.empty, .int .i64 0]) 3 32 Tryd.underlying22 hi hz0 hz1 hz2 rfl (by decide) _ _ _ rfl (HO1.out.alloc _) ⟨w1.heap.size + 1, 0, none⟩ 1 1 [.int .i64 (kd : Int), .string (str8 t), .int .i64 (line : Int)] rfl rfl ?c1 ?c2 ?c3 ?c4 ?c5 ?_))
                    case c1 => exact new_tok2 _ _ (by simp) _ _ _ _
                    case c2 => exact one_tok _ _ _
                    case c3 => exact max_small (by first | omega | (simp; done) | (simp; omega))
                    case c4 => first | omega | (simp; done) | (simp; omega)
                    case c5 => have := HB1.out.size; simp at this ⊢; omega
                    intro v' w2 hown' hgrow _
                    have ho2 := Lib.hid (own_last (out) (kd, t, line) hown' (by first | rfl | (simp; done)) (by first | rfl | (simp; done)))
                    have hb2 := Lib.hid (belowT_app HB1.out HO1.out hgrow)
                    clear hown' hgrow
                    go_wp2
                    go_roundw
                    case rel => exact ⟨k + n, line, false, _, by go_num, rfl, rfl, by omega, HTK.out _ _ ho2.out hb2.out⟩
                    case measure => first | (simp [intOf]; done) | (simp [intOf]; omega)
                  · rw [hsm, List.append_nil] at HTK
                    obtain ⟨sa, sc, rfl⟩ := ownT_len HAT.out.2.2.2.1
                    clear hsm HAT
                    go_wp2_with (first | (go_at_call 9; refine (HO.out _).mono ?_; rintro e w1 ⟨rfl, hb1⟩; have HO1 := Lib.hid (HOWN.out w1 hb1); have HB1 := Lib.hid ((below_step HBW.out hb1).alloc (below_step HBW.out hb1).size (.cells #[.int .i64 (kd : Int), .string (str8 t), .int .i64 (line : Int)] 29)); clear hb1) | (at_builtin; refine wpList_append_own _ rfl _ _ 22 rfl w.heap.size 29 i0 (.agg #[.int .i64 0, .string ByteArray.empty, .int .i64 0]) 3 32 Tryd.underlying22 hi hz0 hz1 hz2 rfl (by decide) _ _ _ rfl (HO1.out.alloc _) ⟨w1.heap.size + 1, 0, none⟩ 1 1 [.int .i64 (kd : Int), .string (str8 t), .int .i64 (line : Int)] rfl rfl ?d1 ?d2 ?d3 ?d4 ?d5 ?_))
                    case d1 => exact new_tok2 _ _ (by simp) _ _ _ _
                    case d2 => exact one_tok _ _ _
                    case d3 => exact max_small (by first | omega | (simp; done) | (simp; omega))
                    case d4 => first | omega | (simp; done) | (simp; omega)
                    case d5 => have := HB1.out.size; simp at this ⊢; omega
                    intro v' w2 hown' hgrow _
                    have ho2 := Lib.hid (own_last ([]) (kd, t, line) hown' (by first | rfl | (simp; done)) (by first | rfl | (simp; done)))
                    have hb2 := Lib.hid (belowT_app HB1.out HO1.out hgrow)
                    clear hown' hgrow
                    go_wp2
                    go_roundw
                    case rel => exact ⟨k + n, line, false, _, by go_num, rfl, rfl, by omega, HTK.out _ _ ho2.out hb2.out⟩
                    case measure => first | (simp [intOf]; done) | (simp [intOf]; omega)
                  · have hlen : l0.length + 1 ≤ 12000 := by simp at hol; omega
                    have hl1 : (List.map toB (l0 ++ [x])).length = l0.length + 1 := by simp
                    obtain ⟨g, cap, hv, hg1, hg2, hg3⟩ := ownT_some HAT.out.2.2.2.1 (by simp)
                    rw [hl1] at hv
                    subst hv
                    have HGL := Lib.hid (HAT.out.2.2.2.1.lt g rfl).2
                    have HE := Lib.hid (fun W => spec_ends x.1 (str8 x.2.1) x.2.2 W)
                    rw [str8_list] at HE
                    have HG := Lib.hid (fun W => spec_begins kd (str8 t) line W)
                    rw [str8_list] at HG
                    clear HAT hol hl1 hg1 hg2 hg3
                    rcases hx with ⟨hx1, hsm⟩ | ⟨hx1, hx2, hsm⟩ | ⟨hx1, hx2, hsm⟩
                    · rw [hx1] at HE
                      rw [hsm, List.append_nil] at HTK
                      clear hx1 hsm HG
                      go_wp2_with (first | (go_at_call 9; refine (HO.out _).mono ?_; rintro e w1 ⟨rfl, hb1⟩; have HO1 := Lib.hid (HOWN.out w1 hb1); have HB1 := Lib.hid ((below_step HBW.out hb1).alloc (below_step HBW.out hb1).size (.cells #[.int .i64 (kd : Int), .string (str8 t), .int .i64 (line : Int)] 29)); obtain ⟨q0, q1, q2⟩ := last_cell rfl HO1.out; clear hb1) | (go_at_call 10; refine (HE.out _).mono ?_; rintro e w3 ⟨rfl, hb3⟩; have HO3 := Lib.hid (ownT_below HO1.out hb3); have HB3 := Lib.hid (below_step HB1.out hb3); have HF3 := Lib.hid ((FreeTok.new w1 kd (str8 t) line 29).later hb3); have HZ3 := Lib.hid HF3.out.lt; clear hb3; obtain ⟨⟨r0, r1, r2⟩, _⟩ := HF3.out) | (at_builtin; refine wpList_append_own _ rfl _ _ 22 rfl w.heap.size 29 i0 (.agg #[.int .i64 0, .string ByteArray.empty, .int .i64 0]) 3 32 Tryd.underlying22 hi hz0 hz1 hz2 rfl (by decide) _ _ _ rfl (HO3.out.alloc _) ⟨w3.heap.size, 0, none⟩ 1 1 [.int .i64 (kd : Int), .string (str8 t), .int .i64 (line : Int)] rfl rfl ?e1 ?e2 ?e3 ?e4 ?e5 ?_))
                      case e1 => exact new_tok2 _ _ (by simp) _ _ _ _
                      case e2 => exact one_tok _ _ _
                      case e3 => exact max_small (by first | omega | (simp; done) | (simp; omega))
                      case e4 => first | omega | (simp; done) | (simp; omega)
                      case e5 => have := HB3.out.size; simp at this ⊢; omega
                      intro v' w2 hown' hgrow _
                      have ho2 := Lib.hid (own_last (l0 ++ [x]) (kd, t, line) hown' (by first | rfl | (simp; done)) (by first | rfl | (simp; done)))
                      have hb2 := Lib.hid (belowT_app HB3.out HO3.out hgrow)
                      clear hown' hgrow
                      go_wp2
                      go_roundw
                      case rel => exact ⟨k + n, line, false, _, by go_num, rfl, rfl, by omega, HTK.out _ _ ho2.out hb2.out⟩
                      case measure => first | (simp [intOf]; done) | (simp [intOf]; omega)
                    · rw [hx1] at HE
                      rw [hx2] at HG
                      rw [hsm, List.append_nil] at HTK
                      clear hx1 hx2 hsm
                      go_wp2_with (first | (go_at_call 9; refine (HO.out _).mono ?_; rintro e w1 ⟨rfl, hb1⟩; have HO1 := Lib.hid (HOWN.out w1 hb1); have HB1 := Lib.hid ((below_step HBW.out hb1).alloc (below_step HBW.out hb1).size (.cells #[.int .i64 (kd : Int), .string (str8 t), .int .i64 (line : Int)] 29)); obtain ⟨q0, q1, q2⟩ := last_cell rfl HO1.out; clear hb1) | (go_at_call 10; refine (HE.out _).mono ?_; rintro e w3 ⟨rfl, hb3⟩; have HO3 := Lib.hid (ownT_below HO1.out hb3); have HB3 := Lib.hid (below_step HB1.out hb3); have HF3 := Lib.hid ((FreeTok.new w1 kd (str8 t) line 29).later hb3); have HZ3 := Lib.hid HF3.out.lt; clear hb3; obtain ⟨⟨r0, r1, r2⟩, _⟩ := HF3.out) | (go_at_call 11; refine (HG.out _).mono ?_; rintro e w4 ⟨rfl, hb4⟩; have HO4 := Lib.hid (ownT_below HO3.out hb4); have HB4 := Lib.hid (below_step HB3.out hb4); have HF4 := Lib.hid (HF3.out.later hb4); have HZ4 := Lib.hid HF4.out.lt; clear hb4 r0 r1 r2; obtain ⟨⟨r0, r1, r2⟩, _⟩ := HF4.out) | (at_builtin; refine wpList_append_own _ rfl _ _ 22 rfl w.heap.size 29 i0 (.agg #[.int .i64 0, .string ByteArray.empty, .int .i64 0]) 3 32 Tryd.underlying22 hi hz0 hz1 hz2 rfl (by decide) _ _ _ rfl (HO4.out.alloc _) ⟨w4.heap.size, 0, none⟩ 1 1 [.int .i64 (kd : Int), .string (str8 t), .int .i64 (line : Int)] rfl rfl ?f1 ?f2 ?f3 ?f4 ?f5 ?_))
                      case f1 => exact new_tok2 _ _ (by simp) _ _ _ _
                      case f2 => exact one_tok _ _ _
                      case f3 => exact max_small (by first | omega | (simp; done) | (simp; omega))
                      case f4 => first | omega | (simp; done) | (simp; omega)
                      case f5 => have := HB4.out.size; simp at this ⊢; omega
                      intro v' w2 hown' hgrow _
                      have ho2 := Lib.hid (own_last (l0 ++ [x]) (kd, t, line) hown' (by first | rfl | (simp; done)) (by first | rfl | (simp; done)))
                      have hb2 := Lib.hid (belowT_app HB4.out HO4.out hgrow)
                      clear hown' hgrow
                      go_wp2
                      go_roundw
                      case rel => exact ⟨k + n, line, false, _, by go_num, rfl, rfl, by omega, HTK.out _ _ ho2.out hb2.out⟩
                      case measure => first | (simp [intOf]; done) | (simp [intOf]; omega)
                    · rw [hx1] at HE
                      rw [hx2] at HG
                      rw [hsm] at HTK
                      clear hx1 hx2 hsm
                      go_wp2_with (first | (go_at_call 9; refine (HO.out _).mono ?_; rintro e w1 ⟨rfl, hb1⟩; have HO1 := Lib.hid (HOWN.out w1 hb1); have HB1 := Lib.hid ((below_step HBW.out hb1).alloc (below_step HBW.out hb1).size (.cells #[.int .i64 (kd : Int), .string (str8 t), .int .i64 (line : Int)] 29)); obtain ⟨q0, q1, q2⟩ := last_cell rfl HO1.out; have HGZ := Lib.hid (Nat.lt_of_lt_of_le HGL.out hb1.size); clear hb1) | (go_at_call 10; refine (HE.out _).mono ?_; rintro e w3 ⟨rfl, hb3⟩; have HO3 := Lib.hid (ownT_below HO1.out hb3); have HB3 := Lib.hid (below_step HB1.out hb3); have HF3 := Lib.hid ((FreeTok.new w1 kd (str8 t) line 29).later hb3); have HZ3 := Lib.hid HF3.out.lt; clear hb3; obtain ⟨⟨r0, r1, r2⟩, _⟩ := HF3.out) | (go_at_call 11; refine (HG.out _).mono ?_; rintro e w4 ⟨rfl, hb4⟩; have HO4 := Lib.hid (ownT_below HO3.out hb4); have HB4 := Lib.hid (below_step HB3.out hb4); have HF4 := Lib.hid (HF3.out.later hb4); clear hb4 r0 r1 r2; obtain ⟨p0, p1, p2⟩ := last_cell rfl HO4.out) | (at_builtin; refine wpList_append_own _ rfl _ _ 22 rfl w.heap.size 29 i0 (.agg #[.int .i64 0, .string ByteArray.empty, .int .i64 0]) 3 32 Tryd.underlying22 hi hz0 hz1 hz2 rfl (by decide) _ _ _ rfl (HO4.out.alloc _) ⟨w4.heap.size, 0, none⟩ 1 1 [.int .i64 7, .string (str8 [59]), .int .i64 (x.2.2 : Int)] rfl rfl ?g1 ?g2 ?g3 ?g4 ?g5 ?_))
                      case g1 => exact new_tok2 _ _ (by simp) _ _ _ _
                      case g2 => exact one_tok _ _ _
                      case g3 => exact max_small (by first | omega | (simp; done) | (simp; omega))
                      case g4 => first | omega | (simp; done) | (simp; omega)
                      case g5 => have := HB4.out.size; simp at this ⊢; omega
                      intro v1 w5 hown5 hgrow5 _
                      have HO5 := Lib.hid (own_last (l0 ++ [x]) (7, [59], x.2.2) hown5 (by first | rfl | (simp; done)) (by first | rfl | (simp; done)))
                      have HB5 := Lib.hid (belowT_app HB4.out HO4.out hgrow5)
                      have HF5 := Lib.hid (FreeTok.grown (HF4.out.later (bl1 _ _)) hgrow5 (by intro e; have h2 : w1.heap.size = g := Option.some.inj e; have h3 := HGZ.out; omega))
                      clear hown5 hgrow5
                      obtain ⟨r0, r1, r2⟩ := HF5.out
                      go_wp2_with (first | (at_builtin; refine wpList_append_own _ rfl _ _ 22 rfl w.heap.size 29 i0 (.agg #[.int .i64 0, .string ByteArray.empty, .int .i64 0]) 3 32 Tryd.underlying22 hi hz0 hz1 hz2 rfl (by decide) _ _ _ rfl (HO5.out.alloc _) ⟨w5.heap.size, 0, none⟩ 1 1 [.int .i64 (kd : Int), .string (str8 t), .int .i64 (line : Int)] rfl rfl ?h1 ?h2 ?h3 ?h4 ?h5 ?_))
                      case h1 => exact new_tok2 _ _ (by simp) _ _ _ _
                      case h2 => exact one_tok _ _ _
                      case h3 => exact max_small (by first | omega | (simp; done) | (simp; omega))
                      case h4 => first | omega | (simp; done) | (simp; omega)
                      case h5 => have := HB5.out.size; simp at this ⊢; omega
                      intro v' w2 hown' hgrow _
                      have ho2 := Lib.hid (own_last (l0 ++ [x] ++ [(7, [59], x.2.2)]) (kd, t, line) hown' (by first | rfl | (simp; done)) (by first | rfl | (simp; done)))
                      have hb2 := Lib.hid (belowT_app HB5.out HO5.out hgrow)
                      clear hown' hgrow
                      go_wp2
                      go_roundw
                      case rel => exact ⟨k + n, line, false, _, by go_num, rfl, rfl, by omega, HTK.out _ _ ho2.out hb2.out⟩
                      case measure => first | (simp [intOf]; done) | (simp [intOf]; omega)
      · have HDN := Lib.hid (HAT.out.done (by show s.size ≤ k; omega))
        go_wp2
        go_ret2
        exact ⟨_, by rw [HDN.out]; rfl, by rw [HDN.out]; exact HAT.out.2.2.2.1, HAT.out.2.2.2.2⟩
end Go.Proofs.YtfhakailbikjkaaDoor
/- The laws' own helpers over slices of tokens. No conditions. -/
namespace Go.Proofs.YtfhakailbikjkaaDoor
open Go.RowKit
set_option linter.unusedVariables false

abbrev tok0 : TokB := (0, ByteArray.empty, 0)
/-- A slice of tokens that can be read. -/
def ReadsT (w : World) (v : Value) (l : List TokB) : Prop :=
  ((∃ a c, v = .slice a 0 c) ∧ l = []) ∨ ∃ g cap, v = .slice (some ⟨g, 0, none⟩) l.length cap ∧ l.length ≤ maxLen ∧ ∀ i, i < l.length →
    w.cell? ⟨g, i * 3, none⟩ = some (.int .i64 (l.getD i tok0).1) ∧ w.cell? ⟨g, i * 3 + 1, none⟩ = some (.string (l.getD i tok0).2.1) ∧ w.cell? ⟨g, i * 3 + 2, none⟩ = some (.int .i64 (l.getD i tok0).2.2)
theorem readsT_of_own {w : World} {base : Nat} {v : Value} {l : List TokB} (h : OwnT w base v l) : ReadsT w v l := by
  by_cases hl : l = []
  · subst hl
    obtain ⟨a, c, rfl⟩ := ownT_len h
    exact .inl ⟨⟨a, c, rfl⟩, rfl⟩
  · obtain ⟨g, cap, rfl, h1, h2, h3⟩ := ownT_some h hl
    refine .inr ⟨g, cap, rfl, by omega, fun i hi => ?_⟩
    have h4 := (ownT_cell rfl h i hi).1
    rw [List.getD_eq_getElem?_getD, List.getElem?_eq_getElem hi]
    exact h4
theorem readsT_empty {w : World} {v : Value} (h : ReadsT w v []) : ∃ a c, v = .slice a 0 c := by
  rcases h with ⟨h, _⟩ | ⟨g, cap, rfl, _⟩
  · exact h
  · exact ⟨_, _, rfl⟩
theorem readsT_some {w : World} {v : Value} {l : List TokB} (h : ReadsT w v l) (hl : l ≠ []) : ∃ g cap, v = .slice (some ⟨g, 0, none⟩) l.length cap ∧ l.length ≤ maxLen ∧ ∀ i, i < l.length →
    w.cell? ⟨g, i * 3, none⟩ = some (.int .i64 (l.getD i tok0).1) ∧ w.cell? ⟨g, i * 3 + 1, none⟩ = some (.string (l.getD i tok0).2.1) ∧ w.cell? ⟨g, i * 3 + 2, none⟩ = some (.int .i64 (l.getD i tok0).2.2) := by
  rcases h with ⟨_, h0⟩ | h
  · exact absurd h0 hl
  · exact h
/-- The three cells of a token. -/
def CellsT (w : World) (g o : Nat) (x : TokB) : Prop := w.cell? ⟨g, o, none⟩ = some (.int .i64 x.1) ∧ w.cell? ⟨g, o + 1, none⟩ = some (.string x.2.1) ∧ w.cell? ⟨g, o + 2, none⟩ = some (.int .i64 x.2.2)
theorem CellsT.lt {w : World} {g o : Nat} {x : TokB} (h : CellsT w g o x) : g < w.heap.size := World.block_lt_of_cell? w _ h.1
theorem CellsT.later {w w1 : World} {g o : Nat} {x : TokB} (h : CellsT w g o x) (hb : Below w.heap.size w w1) : CellsT w1 g o x :=
  ⟨(hb.cell (p := ⟨g, o, none⟩) h.lt).trans h.1, (hb.cell (p := ⟨g, o + 1, none⟩) h.lt).trans h.2.1, (hb.cell (p := ⟨g, o + 2, none⟩) h.lt).trans h.2.2⟩
theorem CellsT.belowlt {w w1 : World} {B g o : Nat} {x : TokB} (h : CellsT w g o x) (hB : g < B) (hb : Below B w w1) : CellsT w1 g o x :=
  ⟨(hb.cell (p := ⟨g, o, none⟩) hB).trans h.1, (hb.cell (p := ⟨g, o + 1, none⟩) hB).trans h.2.1, (hb.cell (p := ⟨g, o + 2, none⟩) hB).trans h.2.2⟩
theorem readsT_below {w w1 : World} {v : Value} {l : List TokB} (h : ReadsT w v l) (hb : Below w.heap.size w w1) : ReadsT w1 v l := by
  rcases h with h | ⟨g, cap, hv, hm, hc⟩
  · exact .inl h
  · exact .inr ⟨g, cap, hv, hm, fun i hi => CellsT.later (hc i hi) hb⟩

theorem eq_tok (x : TokB) (w : World) : Calls Tryd.prog 14 #[tokV x.1 x.2.1 x.2.2, tokV x.1 x.2.1 x.2.2] w fun e w' => e = .returned (.bool true) ∧ Below w.heap.size w w' := by
  obtain ⟨k, t, l⟩ := x
  unfold tokV
  go_enter Tryd.func14, Tryd.ntmps14
  go_wp2
  go_ret
  exact ⟨rfl, bl2 _ _ _⟩

set_option maxHeartbeats 800000 in
theorem eq_toks (v1 v2 : Value) (l : List TokB) (w : World) (h1 : ReadsT w v1 l) (h2 : ReadsT w v2 l) :
    Calls Tryd.prog 6 #[v1, v2] w fun e w' => e = .returned (.bool true) ∧ Below w.heap.size w w' := by
  by_cases hl : l = []
  · subst hl
    obtain ⟨a1, c1, rfl⟩ := readsT_empty h1
    obtain ⟨a2, c2, rfl⟩ := readsT_empty h2
    clear h1 h2
    go_enter Tryd.func6, Tryd.ntmps6
    go_wp2
    go_loopw [4, 5] (fun _ i wr => i = .int .i64 0 ∧ Below w.heap.size w wr) (fun _ _ _ => 0)
    case atStart => exact ⟨rfl, Below.refl _ _⟩
    case round =>
      obtain ⟨rfl, hb⟩ := hrel
      go_wp2
      go_ret
      exact ⟨rfl, hb⟩
  · obtain ⟨g1, c1, rfl, hm, hc1⟩ := readsT_some h1 hl
    obtain ⟨g2, c2, rfl, _, hc2⟩ := readsT_some h2 hl
    clear h1 h2 hl
    generalize hn : l.length = n at *
    unfold maxLen at hm
    have C1 := Lib.hid hc1
    have C2 := Lib.hid hc2
    clear hc1 hc2 hn
    go_enter Tryd.func6, Tryd.ntmps6
    go_wp2
    go_loopw [4, 5] (fun _ i wr => ∃ k : Nat, i = .int .i64 k ∧ k ≤ n ∧ Below w.heap.size w wr) (fun _ i _ => n - (intOf i).toNat)
    case atStart => exact ⟨0, rfl, Nat.zero_le _, Below.refl _ _⟩
    case round =>
      obtain ⟨k, rfl, hk, hb⟩ := hrel
      by_cases hlt : k < n
      · have D1 : Hid (CellsT wr g1 (k * 3) (l.getD k tok0)) := CellsT.later (C1.out k hlt) hb
        have D2 : Hid (CellsT wr g2 (k * 3) (l.getD k tok0)) := CellsT.later (C2.out k hlt) hb
        have HB := Lib.hid hb
        have k0 : (0 : Int) ≤ k := by omega
        have k1 : (k : Int) < n := by omega
        clear hb
        generalize l.getD k tok0 = x at D1 D2
        have HM := Lib.hid (fun W => eq_tok x W)
        obtain ⟨a1, a2, a3⟩ := D1.out
        obtain ⟨b1, b2, b3⟩ := D2.out
        go_wp2
        go_region_held3 (fun w' => w'.cell? ⟨g1, k * 3, none⟩ = some (.int .i64 x.1) ∧ w'.cell? ⟨g1, k * 3 + 1, none⟩ = some (.string x.2.1) ∧ w'.cell? ⟨g1, k * 3 + 2, none⟩ = some (.int .i64 x.2.2) ∧ w'.cell? ⟨g2, k * 3, none⟩ = some (.int .i64 x.1) ∧ w'.cell? ⟨g2, k * 3 + 1, none⟩ = some (.string x.2.1) ∧ w'.cell? ⟨g2, k * 3 + 2, none⟩ = some (.int .i64 x.2.2) ∧ Below wr.heap.size wr w')
          (first | exact ⟨a1, a2, a3, b1, b2, b3, (Below.refl _ _).drew⟩ | exact ⟨(d1.cell D1.out.lt).trans a1, (d1.cell D1.out.lt).trans a2, (d1.cell D1.out.lt).trans a3, (d1.cell D2.out.lt).trans b1, (d1.cell D2.out.lt).trans b2, (d1.cell D2.out.lt).trans b3, (Below.refl _ _).drew.trans d1⟩ | go_keep)
          (first | (go_at_call 14; refine (HM.out _).mono ?_; rintro e w1 ⟨rfl, d1⟩))
        have hb2 := Lib.hid (HB.out.trans (((Below.refl _ _).drew.trans d1).mono HB.out.size))
        clear d1 a1 a2 a3 b1 b2 b3
        go_wp2
        go_roundw
        case rel => exact ⟨k + 1, by go_num, by omega, hb2.out⟩
        case measure => first | (simp [intOf]; done) | (simp [intOf]; omega)
      · go_wp2
        go_ret
        exact ⟨rfl, hb⟩

theorem mark_nat (m : Nat) (w : World) (h1 : (m : Int) ≤ 100000000) :
    Calls Tryd.prog 15 #[.int .i64 ((m : Int) + 1)] w fun e w' => e = .returned (.string (mark (m + 1))) ∧ Below w.heap.size w w' := by
  have h := mark_text ((m : Int) + 1) w (by omega) (by omega)
  rw [show ((m : Int) + 1).toNat = m + 1 by omega] at h
  exact h
/-- The token that the laws write, from the letter m on. -/
def mtok (m : Nat) : TokB := ((m : Int), mark (m + 1), (m : Int) + 1 + 1)
def marksT (n : Nat) : List TokB := (List.range n).map fun i => mtok (3 * i + 1)
theorem marksT_length (n : Nat) : (marksT n).length = n := by simp [marksT]
theorem marksT_get (n i : Nat) (h : i < n) : (marksT n).getD i tok0 = mtok (3 * i + 1) := by simp [marksT, List.getD, h]
theorem marksT_succ (n : Nat) : marksT (n + 1) = marksT n ++ [mtok (3 * n + 1)] := by simp [marksT, List.range_succ]
def partlyT (l : List TokB) (i : Nat) : List TokB := marksT i ++ l.drop i
theorem partlyT_length (l : List TokB) (i : Nat) (h : i ≤ l.length) : (partlyT l i).length = l.length := by
  simp [partlyT, marksT_length]; omega
theorem partlyT_set (l : List TokB) (i : Nat) (h : i < l.length) : (partlyT l i).set i (mtok (3 * i + 1)) = partlyT l (i + 1) := by
  unfold partlyT
  rw [marksT_succ, List.set_append_right _ _ (by rw [marksT_length]; exact Nat.le_refl _), marksT_length, Nat.sub_self, List.drop_eq_getElem_cons h, List.append_assoc]
  rfl
theorem partlyT_zero (l : List TokB) : partlyT l 0 = l := by simp [partlyT, marksT]
theorem partlyT_all (l : List TokB) : partlyT l l.length = marksT l.length := by simp [partlyT]
theorem tokCells_length (l : List TokB) : (tokCells l).length = l.length * 3 := by
  induction l with
  | nil => rfl
  | cons x l ih =>
    have e : tokCells (x :: l) = Value.int .i64 x.1 :: Value.string x.2.1 :: Value.int .i64 x.2.2 :: tokCells l := rfl
    rw [e]; simp [ih]; omega
theorem tokCells_set (x : TokB) (l : List TokB) : ∀ (i : Nat), i < l.length → (((tokCells l).set (i * 3) (.int .i64 x.1)).set (i * 3 + 1) (.string x.2.1)).set (i * 3 + 2) (.int .i64 x.2.2) = tokCells (l.set i x) := by
  induction l with
  | nil => intro i h; simp at h
  | cons y l ih =>
    intro i h
    have e : tokCells (y :: l) = Value.int .i64 y.1 :: Value.string y.2.1 :: Value.int .i64 y.2.2 :: tokCells l := rfl
    match i with
    | 0 => rw [e]; rfl
    | i + 1 =>
      have h2 := ih i (by simpa using h)
      have e2 : tokCells (y :: l.set i x) = Value.int .i64 y.1 :: Value.string y.2.1 :: Value.int .i64 y.2.2 :: tokCells (l.set i x) := rfl
      have e3 : (y :: l).set (i + 1) x = y :: l.set i x := rfl
      rw [e3, e2, ← h2, e, show (i + 1) * 3 = i * 3 + 3 by omega]
      rfl
/-- A row of n tokens' cells. -/
def RowT (w : World) (base g n cap : Nat) (xs : List Value) : Prop := w.ownsRow base 29 3 (.slice (some ⟨g, 0, none⟩) n cap) n xs
theorem RowT.cell {w : World} {base g n cap : Nat} {xs : List Value} (h : RowT w base g n cap xs) (j : Nat) (hj : j < n * 3) : (∃ u, w.cell? ⟨g, j, none⟩ = some u) ∧ w.frozen? ⟨g, j, none⟩ = false := by
  refine ⟨?_, World.ownsRow.frozenAt h j⟩
  rw [World.ownsRow.cellAt h j hj]
  have hl := h.1
  exact ⟨xs[j]'(by omega), List.getElem?_eq_getElem _⟩
theorem RowT.set {w : World} {base g n cap : Nat} {xs : List Value} (h : RowT w base g n cap xs) (j : Nat) (u : Value) : RowT (w.setCell ⟨g, j, none⟩ u) base g n cap (xs.set j u) := (World.ownsRow.stored h j u).1
theorem RowT.later {w w1 : World} {base g n cap : Nat} {xs : List Value} (h : RowT w base g n cap xs) (hb : Below w.heap.size w w1) : RowT w1 base g n cap xs := by
  refine ⟨h.1, ?_⟩
  rcases h.2 with hn | ⟨g2, cap2, cur, hv, hg, hgg, r⟩
  · exact .inl hn
  · exact .inr ⟨g2, cap2, cur, hv, hg, by rw [hb.block g2 (Array.getElem?_eq_some_iff.1 hgg).1]; exact hgg, r⟩
theorem RowT.own {w : World} {base g n cap : Nat} {l : List TokB} (hn : n = l.length) (h : RowT w base g n cap (tokCells l)) : OwnT w base (.slice (some ⟨g, 0, none⟩) n cap) l := by subst hn; exact h
theorem OwnT.row {w : World} {base g n cap : Nat} {l : List TokB} (hn : n = l.length) (h : OwnT w base (.slice (some ⟨g, 0, none⟩) n cap) l) : RowT w base g n cap (tokCells l) := by subst hn; exact h

theorem RowT.round {w : World} {base g n cap : Nat} {l : List TokB} {k m : Nat} (h : RowT w base g n cap ((((tokCells (partlyT l k)).set (k * 3) (.int .i64 (m : Int))).set (k * 3 + 1) (.string (mark (m + 1)))).set (k * 3 + 2) (.int .i64 ((m : Int) + 1 + 1)))) (hm : m = 3 * k + 1) (hk : k < l.length) : RowT w base g n cap (tokCells (partlyT l (k + 1))) := by
  rw [← partlyT_set l k hk, ← tokCells_set _ _ _ (by rw [partlyT_length _ _ (by omega)]; exact hk), ← hm]
  exact h

set_option maxRecDepth 100000 in
set_option maxHeartbeats 800000 in
theorem mark_toks (v : Value) (l : List TokB) (base : Nat) (w : World) (ho : OwnT w base v l) (hbase : base ≤ w.heap.size) (hl : l.length ≤ 1048577) :
    Calls Tryd.prog 7 #[v, .int .i64 1] w fun e w' => e = .returned (.int .i64 ((3 * l.length + 1 : Nat) : Int)) ∧ OwnT w' base v (marksT l.length) ∧ Below base w w' := by
  by_cases h0 : l = []
  · subst h0
    obtain ⟨a, c, rfl⟩ := ownT_len ho
    have HO := Lib.hid ho
    clear ho
    go_enter Tryd.func7, Tryd.ntmps7
    go_wp2
    go_loopw [1, 5] (fun c i wr => c = .int .i64 1 ∧ i = .int .i64 0 ∧ w = wr) (fun _ _ _ => 0)
    case atStart => exact ⟨rfl, rfl, rfl⟩
    case round =>
      obtain ⟨rfl, rfl, rfl⟩ := hrel
      go_wp2
      go_ret
      exact ⟨rfl, HO.out, Below.refl _ _⟩
  · obtain ⟨g, cap, rfl, hbg, h1, h2⟩ := ownT_some ho h0
    have HO := Lib.hid ho
    clear ho h0
    generalize hn : l.length = n at *
    have HN := Lib.hid hn
    clear hn
    unfold maxLen at h2
    go_enter Tryd.func7, Tryd.ntmps7
    go_wp2
    go_loopw [1, 5] (fun c i wr => ∃ k m : Nat, c = .int .i64 m ∧ m = 3 * k + 1 ∧ i = .int .i64 k ∧ k ≤ n ∧ RowT wr base g n cap (tokCells (partlyT l k)) ∧ Below base w wr) (fun _ i _ => n - (intOf i).toNat)
    case atStart => exact ⟨0, 1, rfl, rfl, rfl, Nat.zero_le _, by rw [partlyT_zero]; exact HO.out.row HN.out.symm, Below.refl _ _⟩
    case round =>
      obtain ⟨k, m, rfl, hm, rfl, hk, ho, hb⟩ := hrel
      have HP := Lib.hid ho
      have HB := Lib.hid hb
      have HBW := Lib.hid (Nat.le_trans hbase hb.size)
      clear ho hb
      by_cases hlt : k < n
      · have HM := Lib.hid fun W => mark_nat m W (by omega)
        obtain ⟨⟨u0, q0⟩, f0⟩ := HP.out.cell (k * 3) (by omega)
        have HQ := Lib.hid (HP.out.set (k * 3) (.int .i64 (m : Int)))
        have k0 : (0 : Int) ≤ k := by omega
        have k1 : (k : Int) < n := by omega
        have HST := Lib.hid (fun (wz : World) hz => RowT.round (w := wz) (base := base) (g := g) (n := n) (cap := cap) (l := l) (k := k) hz hm (by have := HN.out; omega))
        have HMK := Lib.hid hm
        have hmb : (m : Int) ≤ 3145732 := by omega
        clear HP hm
        go_wp2_with (go_at_call 15; refine (HM.out _).mono ?_; rintro e w1 ⟨rfl, b1⟩; have HR1 := Lib.hid (HQ.out.later b1); obtain ⟨⟨u1, q1⟩, f1⟩ := HR1.out.cell (k * 3 + 1) (by omega); obtain ⟨⟨u2, q2⟩, f2⟩ := HR1.out.cell (k * 3 + 2) (by omega); have HB1 := Lib.hid ((HB.out.setCell hbg _).trans (b1.mono (by simp; exact HBW.out))); clear b1)
        go_roundw
        case rel => exact ⟨k + 1, m + 1 + 1 + 1, by go_num, by have := HMK.out; omega, by go_num, by omega, HST.out _ ((HR1.out.set (k * 3 + 1) _).set (k * 3 + 2) _), (HB1.out.setCell hbg _).setCell hbg _⟩
        case measure => first | (simp [intOf]; done) | (simp [intOf]; omega)
      · obtain rfl : k = n := by omega
        go_wp2
        go_ret
        exact ⟨by rw [← hm]; rfl, by rw [← HN.out, ← partlyT_all, HN.out]; exact HP.out.own (by rw [partlyT_length _ _ (by have := HN.out; omega)]; exact HN.out.symm), HB.out⟩

set_option maxRecDepth 100000 in
set_option maxHeartbeats 800000 in
theorem held_toks (v : Value) (n : Nat) (w : World) (ho : ReadsT w v (marksT n)) (hl : n ≤ 1048577) :
    Calls Tryd.prog 8 #[v, .int .i64 1] w fun e w' => e = .returned (.int .i64 ((3 * n + 1 : Nat) : Int)) ∧ Below w.heap.size w w' := by
  by_cases h0 : n = 0
  · subst h0
    obtain ⟨a, c, rfl⟩ := readsT_empty ho
    clear ho
    go_enter Tryd.func8, Tryd.ntmps8
    go_wp2
    go_loopw [1, 4, 5] (fun c _ i wr => c = .int .i64 1 ∧ i = .int .i64 0 ∧ w = wr) (fun _ _ _ _ => 0)
    case atStart => exact ⟨rfl, rfl, rfl⟩
    case round =>
      obtain ⟨rfl, rfl, rfl⟩ := hrel
      go_wp2
      go_ret
      exact ⟨rfl, Below.refl _ _⟩
  · obtain ⟨g, cap, rfl, hm, hc⟩ := readsT_some ho (by intro e; have := congrArg List.length e; rw [marksT_length] at this; simp at this; omega)
    rw [marksT_length] at hc hm ⊢
    have HC := Lib.hid (fun i (hi : i < n) => (show CellsT w g (i * 3) (mtok (3 * i + 1)) by have h := hc i hi; rw [marksT_get n i hi] at h; exact h))
    clear ho hc h0
    unfold maxLen at hm
    go_enter Tryd.func8, Tryd.ntmps8
    go_wp2
    go_loopw [1, 4, 5] (fun c _ i wr => ∃ k m : Nat, c = .int .i64 m ∧ m = 3 * k + 1 ∧ i = .int .i64 k ∧ k ≤ n ∧ Below w.heap.size w wr) (fun _ _ i _ => n - (intOf i).toNat)
    case atStart => exact ⟨0, 1, rfl, rfl, rfl, Nat.zero_le _, Below.refl _ _⟩
    case round =>
      obtain ⟨k, m, rfl, hm2, rfl, hk, hb⟩ := hrel
      by_cases hlt : k < n
      · have D1 : Hid (CellsT wr g (k * 3) (mtok m)) := by have h := (HC.out k hlt).later hb; rw [← hm2] at h; exact h
        have HB := Lib.hid hb
        have k0 : (0 : Int) ≤ k := by omega
        have k1 : (k : Int) < n := by omega
        have HM := Lib.hid fun W => mark_nat m W (by omega)
        have HG := Lib.hid D1.out.lt
        obtain ⟨a1, a2, a3⟩ := D1.out
        unfold mtok at a1 a2 a3
        have HMK := Lib.hid hm2
        have hmb : (m : Int) ≤ 3145732 := by omega
        clear hb hm2
        go_wp2
        go_region_held3 (fun w' => w'.cell? ⟨g, k * 3 + 1, none⟩ = some (.string (mark (m + 1))) ∧ Below wr.heap.size wr w')
          (first | exact ⟨a2, (Below.refl _ _).drew⟩ | exact ⟨(b1.cell HG.out).trans a2, (Below.refl _ _).drew.trans b1⟩ | go_keep)
          (first | (go_at_call 15; refine (HM.out _).mono ?_; rintro e w1 ⟨rfl, b1⟩))
        have HB2 := Lib.hid (HB.out.trans (((Below.refl _ _).drew.trans b1).mono HB.out.size))
        have a4 : w1.cell? ⟨g, k * 3 + 2, none⟩ = some (.int .i64 ((m : Int) + 1 + 1)) := (b1.cell HG.out).trans a3
        clear b1 a1 a2 a3
        go_wp2
        go_roundw
        case rel => exact ⟨k + 1, m + 1 + 1 + 1, by go_num, by have := HMK.out; omega, by go_num, by omega, HB2.out⟩
        case measure => first | (simp [intOf]; done) | (simp [intOf]; omega)
      · obtain rfl : k = n := by omega
        go_wp2
        go_ret
        exact ⟨by rw [← hm2]; rfl, hb⟩
end Go.Proofs.YtfhakailbikjkaaDoor
/- The law FnExactLex: its walk, from a contract of the program's Lex. No conditions. -/
namespace Go.Proofs.YtfhakailbikjkaaDoor
open Go.RowKit
set_option linter.unusedVariables false

theorem lexW_len (D : Tk.Den) : ∀ (N : Nat) (R : List UInt8) (line : Nat) (fr : Bool) (out : List Tk.Tok), R.length ≤ N → (Tk.lexW D R line fr out).2.length ≤ out.length + 2 * R.length := by
  intro N
  induction N with
  | zero =>
    intro R line fr out h
    rw [List.length_eq_zero_iff.1 (Nat.le_zero.1 h), Tk.lexW_nil]; simp
  | succ N ih =>
    intro R line fr out h
    match R with
    | [] => rw [Tk.lexW_nil]; simp
    | b :: r =>
      rw [List.length_cons] at h ⊢
      by_cases h1 : b = 10
      · rw [h1, Tk.lexW_line]
        have := ih r (line + 1) true out (by omega); omega
      · by_cases h2 : b = 32 ∨ b = 9
        · rw [Tk.lexW_blank D _ _ _ _ h2]
          have := ih r line fr out (by omega); omega
        · by_cases h4 : b = 35
          · rw [h4, Tk.lexW_note]
            have h5 := (List.dropWhile_sublist (p := fun c : UInt8 => c != 10) (l := r)).length_le
            have := ih (r.dropWhile fun c => c != 10) line fr out (by omega); omega
          · cases ho : Tk.one D (b :: r) with
            | none => rw [Tk.lexW_bad D _ _ _ _ h1 (fun e => h2 (.inl e)) (fun e => h2 (.inr e)) h4 ho]; simp
            | some y =>
              obtain ⟨k, t, n⟩ := y
              rw [Tk.lexW_tok D _ _ _ _ h1 (fun e => h2 (.inl e)) (fun e => h2 (.inr e)) h4 ho]
              have h5 := Tk.one_pos ho
              have h6 := one_le ho
              have h7 := semi_le out fr k t
              rw [List.length_cons] at h6
              have := ih ((b :: r).drop n) line false (out ++ Tk.semi out fr k t ++ [(k, t, line)]) (by rw [List.length_drop, List.length_cons]; omega)
              rw [List.length_drop, List.length_cons, List.length_append, List.length_append, List.length_singleton] at this
              omega
theorem lex_len (D : Tk.Den) (S : List UInt8) : (Tk.lex D S).2.length ≤ 12000 := by
  unfold Tk.lex
  by_cases h : 6000 < S.length
  · rw [if_pos h]; simp
  · rw [if_neg h]
    have := lexW_len D _ S 1 false [] (Nat.le_refl _)
    simp at this; omega
/-- What is owned stays so where only blocks from a later base on are written. -/
theorem ownT_far {w w0 w1 : World} {base B : Nat} {v : Value} {l : List TokB} (h : OwnT w0 base v l) (hB : w0.heap.size ≤ B) (h1 : OwnT w base v l) (hb : Below B w w1) : OwnT w1 base v l := by
  refine ⟨h1.1, ?_⟩
  rcases h1.2 with hn | ⟨g, cap, cur, hv, hg, hgg, r⟩
  · exact .inl hn
  · subst hv
    exact .inr ⟨g, cap, cur, rfl, hg, by rw [hb.block g (Nat.lt_of_lt_of_le (h.lt g rfl).2 hB)]; exact hgg, r⟩

set_option maxHeartbeats 1600000 in
theorem lex_law (S : World → Prop) (hSb : ∀ W W', S W → Below W.heap.size W W' → S W')
    (hI : ∀ (s : ByteArray) (W : World), (s.size : Int) ≤ 1048576 → S W → Calls Tryd.prog 5 #[.string s] W (RetLex W (Tk.lex denM s.data.toList)))
    (a0 : ByteArray) (w0 : a0.size ≤ maxLen) (w : World) (hS0 : S w) :
    Calls Tryd.prog 3 #[.string a0] w fun e w' => e = .returned (.bool true) ∧ Below w.heap.size w w' := by
  by_cases hlen : (1048576 : Int) < a0.size
  · go_enter Tryd.func3, Tryd.ntmps3
    go_wp2
    go_ret
    exact ⟨rfl, Below.refl _ _⟩
  · have hs : (a0.size : Int) ≤ 1048576 := by omega
    have hL := lex_len denM a0.data.toList
    have HS := Lib.hid (fun W => spec_lex a0 W)
    have HI := Lib.hid (fun W hW => hI a0 W hs hW)
    have HSB := Lib.hid (fun W' hb => hSb w W' hS0 hb)
    clear hI hSb hS0
    unfold RetLex at HS HI
    generalize Tk.lex denM a0.data.toList = R at hL HS HI
    obtain ⟨ln, toks⟩ := R
    have hl2 : (toks.map toB).length ≤ 1048577 := by rw [List.length_map]; simp at hL; omega
    generalize toks.map toB = l at HS HI hl2
    dsimp only at HS HI
    clear hL toks
    go_enter Tryd.func3, Tryd.ntmps3
    go_wp2_with fail
    refine (HS.out _).mono ?_
    rintro e wa ⟨va, rfl, oa, ba⟩
    have OA := Lib.hid oa
    have BA := Lib.hid ba
    clear oa ba
    go_wp2_with fail
    refine (HI.out _ ?s1).mono ?_
    case s1 => exact HSB.out _ BA.out
    rintro e wb ⟨vb, rfl, ob, bb⟩
    have OA1 := Lib.hid (ownT_below OA.out bb)
    have BB := Lib.hid (BA.out.trans (bb.mono BA.out.size))
    have OB := Lib.hid ob
    have S1 := Lib.hid bb.size
    clear ob bb
    go_wp2_with fail
    refine (eq_toks vb va l _ (readsT_of_own OB.out) (readsT_of_own OA1.out)).mono ?_
    rintro e wc ⟨rfl, bc⟩
    have OA2 := Lib.hid (ownT_below OA1.out bc)
    have OB2 := Lib.hid (ownT_below OB.out bc)
    have BC := Lib.hid (BB.out.trans (bc.mono BB.out.size))
    have S2 := Lib.hid (Nat.le_trans S1.out bc.size)
    clear bc
    go_wp2_with fail
    refine (mark_toks vb l _ _ OB2.out S2.out hl2).mono ?_
    rintro e wd ⟨rfl, od, bd⟩
    have OA3 := Lib.hid (ownT_far OA.out (Nat.le_refl _) OA2.out bd)
    have BD := Lib.hid (BC.out.trans (bd.mono BA.out.size))
    have OB3 := Lib.hid od
    clear od bd
    go_wp2_with fail
    have R3 := readsT_of_own OB3.out
    refine (held_toks vb l.length _ R3 hl2).mono ?_
    rintro e we ⟨rfl, be⟩
    clear R3
    have OA4 := Lib.hid (ownT_below OA3.out be)
    have OB4 := Lib.hid (ownT_below OB3.out be)
    have BE := Lib.hid (BD.out.trans (be.mono BD.out.size))
    clear be
    go_wp2_with fail
    refine (HI.out _ ?s2).mono ?_
    case s2 => exact HSB.out _ BE.out
    rintro e wf ⟨vf, rfl, of, bf⟩
    have OA5 := Lib.hid (ownT_below OA4.out bf)
    have OB5 := Lib.hid (ownT_below OB4.out bf)
    have BF := Lib.hid (BE.out.trans (bf.mono BE.out.size))
    have OF := Lib.hid of
    clear of bf
    go_wp2_with fail
    refine (eq_toks vf va l _ (readsT_of_own OF.out) (readsT_of_own OA5.out)).mono ?_
    rintro e wg ⟨rfl, bg⟩
    have OB6 := Lib.hid (ownT_below OB5.out bg)
    have BG := Lib.hid (BF.out.trans (bg.mono BF.out.size))
    clear bg
    go_wp2_with fail
    have R6 := readsT_of_own OB6.out
    refine (held_toks vb l.length _ R6 hl2).mono ?_
    rintro e wh ⟨rfl, bh⟩
    clear R6
    have BH := Lib.hid (BG.out.trans (bh.mono BG.out.size))
    clear bh
    go_wp2
    go_ret
    exact ⟨rfl, BH.out⟩
end Go.Proofs.YtfhakailbikjkaaDoor
/- The law FnExactLex: its walk. No conditions besides the sentinel's. -/
namespace Go.Proofs.YtfhakailbikjkaaDoor
open Go.RowKit
set_option linter.unusedVariables false

theorem sent_below (W W' : World) (h : Sent W) (hb : Below W.heap.size W W') : Sent W' := by
  obtain ⟨a, ha⟩ := h
  exact ⟨a, sentAt_below ha hb⟩
theorem FnExactLex_walk (a0 : ByteArray) (w0 : a0.size ≤ maxLen) (w : World) (hS : Sent w) :
    Calls Tryd.prog 3 #[.string a0] w fun e w' => e = .returned (.bool true) ∧ Below w.heap.size w w' :=
  lex_law Sent sent_below (fun s W _ hW => impl_lex s W hW) a0 w0 w hS
end Go.Proofs.YtfhakailbikjkaaDoor
/- What the row's list gives a walk: the sentinel's variable holds a pointer. No conditions. -/
namespace Go.Proofs.YtfhakailbikjkaaDoor
open Go.RowKit Go.Extern.Stop Go.Stop Go.Extern
set_option linter.unusedVariables false

theorem gBad : Tryd.prog.globalNamed "loop.example/g03106/impl.errBadEscape" = some 0 := by kernel_rfl
theorem gBadType : (Tryd.prog.globals[0]?).map (·.type) = some 69 := by kernel_rfl
theorem rowErr (u : TypeId) (h : Tryd.prog.typeName? 3 u = some "*errors.errorString") : u = 92 := typeName_ptr_named (nm := "errors.errorString") (by kernel_rfl) (by kernel_rfl) (by decide) u h
theorem cellsErr : Tryd.prog.cellsOf 117 = 1 := by kernel_rfl
theorem cellsStr : Tryd.prog.cellsOf 9 = 1 := by kernel_rfl
/-- What the row's list gives: the variable holds a pointer. -/
theorem sent_of {W : World} (hL : laidMetH Tryd.prog [("loop.example/g03106/impl.errBadEscape", Rows.laid_loop_example_g03106_impl_errBadEscape)] W) : Sent W := by
  rw [MakeChecks.laidMetH_plain _ _ _ (by kernel_rfl)] at hL
  obtain ⟨a, s, hv, _, _, _⟩ := laid_sentinel hL gBad gBadType Tryd.underlying69 rowErr Tryd.underlying92 Tryd.underlying117 rfl rfl Tryd.underlying9 cellsErr cellsStr
  exact ⟨a, by unfold SentAt; rw [World.var?_cell gBad hv 0]; rfl⟩
end Go.Proofs.YtfhakailbikjkaaDoor
