/- Joined texts: N39. No conditions besides those that each states. -/
import Derived.Deep.DeepCutAuto
import Derived.IntWalk
import Derived.Test.YtkkopnhbafjnaaaZ18
/- Drawn trees: the walk of an inner node. No conditions. -/
namespace Go.Proofs.Ytkkopnhbafjnaaa
open Go.RowKit
set_option linter.unusedVariables false

def TreeC (e : Nat) : Prop := ∀ (B cb : Nat) (w : World), IsCur B w cb → B ≤ w.heap.size → Calls Try.prog 48 #[.pointer (some ⟨cb, 0, none⟩), .int .i64 ((e : Int) + 1)] w (DrawnT (bnd e) B cb w)
def treeUn : List ByteArray := [⟨#[45]⟩, ⟨#[43]⟩, ⟨#[42]⟩, ⟨#[47]⟩, ⟨#[92]⟩, ⟨#[126]⟩, ⟨#[33]⟩, ⟨#[61]⟩, ⟨#[124]⟩, ⟨#[64]⟩, ⟨#[94]⟩, ⟨#[46]⟩, ⟨#[46, 62]⟩]
theorem treeUn_small : ∀ s ∈ treeUn, s.size ≤ 4 := by decide
def treeBin : List ByteArray := [⟨#[38]⟩, ⟨#[63]⟩, ⟨#[58, 61]⟩, ⟨#[60, 45]⟩, ⟨#[43, 58, 61]⟩, ⟨#[124]⟩, ⟨#[46, 124]⟩, ⟨#[60]⟩, ⟨#[61, 61, 61]⟩, ⟨#[63, 63]⟩, ⟨#[124, 124]⟩, ⟨#[124, 124, 124]⟩, ⟨#[43]⟩, ⟨#[45, 45]⟩, ⟨#[42]⟩, ⟨#[42, 42]⟩, ⟨#[94]⟩, ⟨#[92]⟩, ⟨#[45, 62]⟩, ⟨#[61, 62]⟩]
theorem treeBin_small : ∀ s ∈ treeBin, s.size ≤ 4 := by decide
def treeKinds : List Int := [7, 8, 8, 9, 10, 15]
theorem num16 (n y : Int) (h0 : 0 ≤ n) (h1 : n < 2) (h2 : 0 ≤ y) (h3 : y < 3) : Value.int .i64 (IntKind.i64.wrap (IntKind.i64.wrap (1 + n) + IntKind.i64.wrap (2 * y))) = Value.int .i64 (((1 + n + 2 * y).toNat : Nat) : Int) := by
  rw [IntWalk.i64_in (1 + n) (by omega), IntWalk.i64_in (2 * y) (by omega), IntWalk.i64_in _ (by omega)]
  congr 1
  omega
set_option maxRecDepth 100000 in
set_option maxHeartbeats 3200000 in
theorem tree_zero : TreeC 0 := by
  intro B cb w hp hB
  have hcl := cur_lt hp
  have hne : w.heap.size ≠ cb := by omega
  have HD : Hid (LeafSt B cb w (w.alloc (.cells #[.int .i64 0, .string ⟨#[]⟩, .int .i64 0, .int .i64 0, .slice none 0 0] 26))) := Lib.hid ⟨FreeE.new _ _ _ _ _ _ _, cur_alloc hp hB _, only_alloc _⟩
  have HL := Lib.hid (draw_leaf B cb _ HD.out.2.1 (Nat.le_trans hB (Nat.le_of_lt HD.out.lt)))
  unfold DrawnT at HL
  clear hp
  go_enter Try.func48, Try.ntmps48
  go_wp2_with fail
  refine HL.out.mono ?_
  rintro ee w2 ⟨t, v, F, rfl, ho, hf, hb, hc, hon⟩
  have HD2 := Lib.hid (HD.out.only hc hon hne)
  obtain ⟨z, d, rfl⟩ := kids_len (OwnK.kids _ ho)
  have HR := Lib.hid (HD2.out.ret hB hne (M := bnd 0) ho (fun b hb2 => ⟨Nat.lt_of_lt_of_le HD.out.lt (hf b hb2).1, (hf b hb2).2⟩) (Nat.le_trans hb (bnd_le _)))
  obtain ⟨⟨q0, q1, q2, q3, q4⟩, f0, f1, f2, f3, f4⟩ := HD2.out.1
  clear ho hf hc hon
  go_wp2
  exact bodyPost_ret (v := exV t (.slice z t.kids.length d)) (by simp [results, Try.results48, go_sem, q0, q1, q2, q3, q4]) rfl HR.out
set_option maxRecDepth 100000 in
set_option maxHeartbeats 3200000 in
theorem tree_succ (e : Nat) (he : e ≤ 10) (ih : TreeC e) : TreeC (e + 1) := by
  intro B cb w hp hB
  have hcl := cur_lt hp
  have hne : w.heap.size ≠ cb := by omega
  have HD : Hid (LeafSt B cb w (w.alloc (.cells #[.int .i64 0, .string ⟨#[]⟩, .int .i64 0, .int .i64 0, .slice none 0 0] 26))) := Lib.hid ⟨FreeE.new _ _ _ _ _ _ _, cur_alloc hp hB _, only_alloc _⟩
  have HO := Lib.hid (once_at B cb 5 _ HD.out.2.1 (by omega) (by omega))
  have d1 : ¬ ((e + 1 : Nat) : Int) + 1 ≤ 1 := by omega
  clear hp
  go_enter Try.func48, Try.ntmps48
  go_wp2_with fail
  refine HO.out.mono ?_
  rintro ee w1 ⟨b, rfl, hc1, ho1⟩
  have HD1 := Lib.hid (HD.out.only hc1 ho1 hne)
  clear hc1 ho1 HD HO
  cases b
  · have HX := Lib.hid (draw_below B cb 24 _ HD1.out.2.1 (by omega) (by omega))
    go_wp2_with fail
    refine HX.out.mono ?_
    rintro ee w2 ⟨x, rfl, hx0, hx1, hc2, ho2⟩
    have hd2 := HD1.out.only hc2 ho2 hne
    have HT2 : Hid (TrSt B cb w w2.heap.size (6 + x) ⟨#[]⟩ 0 (.slice none 0 0) (w2.alloc (.cells #[.int .i64 (6 + x), .string ⟨#[]⟩, .int .i64 0, .int .i64 0, .slice none 0 0] 26))) := Lib.hid ⟨hd2.later (bl1 _ _) hB, FreeE.new _ _ _ _ _ _ _, hd2.lt, by decide⟩
    have HO2 := Lib.hid (once_at B cb 2 _ HT2.out.1.2.1 (by omega) (by omega))
    have hEL := hd2.lt
    clear hc2 ho2 hd2 HX HD1
    go_wp2_with fail
    refine HO2.out.mono ?_
    rintro ee w3 ⟨b, rfl, hc3, ho3⟩
    have HT3 := Lib.hid (HT2.out.only hcl hc3 ho3)
    clear hc3 ho3 HT2 HO2
    go_upto_if 23 with fail
    go_cut [] (fun wx => ∃ k, TrSt B cb w w2.heap.size k ⟨#[]⟩ 0 (.slice none 0 0) wx)
    case first =>
      cases b
      · go_wp2_with fail
        go_meet
        exact ⟨_, HT3.out⟩
      · have HP := Lib.hid (pick_int B cb w3.heap.size 6 treeKinds _ (cur_alloc HT3.out.1.2.1 (Nat.le_trans hB (Nat.le_of_lt HT3.out.1.lt)) _) (by decide) (by decide) (by have := cur_lt HT3.out.1.2.1; omega) (new_cells (Value.int .i64) treeKinds 0 w3 3 _ rfl))
        go_wp2_with fail
        refine HP.out.mono ?_
        rintro ee w4 ⟨k, _, rfl, hc4, ho4⟩
        have HT4 := Lib.hid ((HT3.out.later hB (bl1 w3 _)).only hcl hc4 ho4)
        clear hc4 ho4 HT3 HP
        obtain ⟨⟨q0, _⟩, f0, _⟩ := HT4.out.2.1
        go_wp2_with fail
        go_meet
        exact ⟨_, HT4.out.kind hB hcl _⟩
    case rest =>
      obtain ⟨k, hT⟩ := hcut
      have HT5 := Lib.hid hT
      obtain ⟨⟨q0, _⟩, _⟩ := hT.2.1
      clear hT HT3
      go_upto_if 30 with fail
      go_cut [] (fun wx => ∃ s, TrSt B cb w w2.heap.size k s 0 (.slice none 0 0) wx)
      case first =>
        by_cases h7 : k = 7
        · have b7 : (k == 7) = true := by simpa using h7
          have HP := Lib.hid (pick_text B cb wc.heap.size 13 treeUn _ (cur_alloc HT5.out.1.2.1 (Nat.le_trans hB (Nat.le_of_lt HT5.out.1.lt)) _) (by decide) (by decide) (by have := cur_lt HT5.out.1.2.1; omega) (new_cells Value.string treeUn ByteArray.empty wc 9 _ rfl))
          clear h7
          go_wp2_with fail
          refine HP.out.mono ?_
          rintro ee w6 ⟨s, hs, rfl, hc6, ho6⟩
          have HT6 := Lib.hid ((HT5.out.later hB (bl1 wc _)).only hcl hc6 ho6)
          have hs4 := treeUn_small s hs
          clear hs hc6 ho6 HT5 HP q0
          obtain ⟨⟨_, q1, _⟩, _, f1, _⟩ := HT6.out.2.1
          go_wp2_with fail
          go_meet
          exact ⟨_, HT6.out.text hB hcl _ hs4⟩
        · have b7 : (k == 7) = false := by simpa using h7
          clear h7
          go_wp2_with fail
          go_meet
          exact ⟨_, HT5.out⟩
      case rest =>
        obtain ⟨s, hT⟩ := hcut
        clear HT5 q0
        have HT6 := Lib.hid hT
        obtain ⟨⟨q0, _⟩, _⟩ := hT.2.1
        clear hT
        go_upto_if 37 with fail
        go_cut [] (fun wx => ∃ s, TrSt B cb w w2.heap.size k s 0 (.slice none 0 0) wx)
        case first =>
          by_cases h8 : k = 8
          · have b8 : (k == 8) = true := by simpa using h8
            have HP := Lib.hid (pick_text B cb wc.heap.size 20 treeBin _ (cur_alloc HT6.out.1.2.1 (Nat.le_trans hB (Nat.le_of_lt HT6.out.1.lt)) _) (by decide) (by decide) (by have := cur_lt HT6.out.1.2.1; omega) (new_cells Value.string treeBin ByteArray.empty wc 9 _ rfl))
            clear h8
            go_wp2_with fail
            refine HP.out.mono ?_
            rintro ee w7 ⟨s7, hs, rfl, hc7, ho7⟩
            have HT7 := Lib.hid ((HT6.out.later hB (bl1 wc _)).only hcl hc7 ho7)
            have hs4 := treeBin_small s7 hs
            clear hs hc7 ho7 HT6 HP q0
            obtain ⟨⟨_, q1, _⟩, _, f1, _⟩ := HT7.out.2.1
            go_wp2_with fail
            go_meet
            exact ⟨_, HT7.out.text hB hcl _ hs4⟩
          · have b8 : (k == 8) = false := by simpa using h8
            clear h8
            go_wp2_with fail
            go_meet
            exact ⟨_, HT6.out⟩
        case rest =>
          obtain ⟨s2, hT⟩ := hcut
          clear HT6 q0
          have HT7 := Lib.hid hT
          obtain ⟨⟨q0, _⟩, _⟩ := hT.2.1
          clear hT
          go_upto_region 10 with fail
          go_cut [49] (fun v49 wx => (∃ b, v49 = .bool b) ∧ TrSt B cb w w2.heap.size k s2 0 (.slice none 0 0) wx)
          case first =>
            by_cases h13 : k = 13
            · have b13 : (k == 13) = true := by simpa using h13
              clear h13
              go_wp2_with fail
              go_meet
              exact ⟨⟨_, rfl⟩, HT7.out⟩
            · have b13 : (k == 13) = false := by simpa using h13
              clear h13
              go_wp2_with fail
              go_meet
              exact ⟨⟨_, rfl⟩, HT7.out⟩
          case rest =>
            obtain ⟨⟨b, rfl⟩, hT⟩ := hcut
            clear HT7 q0
            have HT8 := Lib.hid hT
            obtain ⟨⟨q0, q1, _⟩, f0, f1, _⟩ := hT.2.1
            clear hT
            go_upto_if 49 with fail
            go_cut [] (fun wx => ∃ s, TrSt B cb w w2.heap.size k s 0 (.slice none 0 0) wx)
            case first =>
              cases b
              · go_wp2_with fail
                go_meet
                exact ⟨_, HT8.out⟩
              · go_wp2_with fail
                go_meet
                exact ⟨_, HT8.out.text hB hcl _ (by decide)⟩
            case rest =>
              obtain ⟨s3, hT⟩ := hcut
              clear HT8 q0 q1 f0 f1
              have HT9 := Lib.hid hT
              obtain ⟨⟨q0, q1, q2, q3, q4⟩, _⟩ := hT.2.1
              have HCT : Hid (∀ W, Calls Try.prog 56 #[.agg #[.int .i64 k, .string s3, .int .i64 0, .int .i64 0, .slice none 0 0]] W fun e w' => e = .returned (.tuple #[.int .i64 (Ex.kidsOf k).1, .int .i64 (Ex.kidsOf k).2]) ∧ Below W.heap.size W w') := Lib.hid (fun W => spec_counts (.node k s3 0 0 []) (.slice none 0 0) W)
              obtain ⟨hlo0, hlo3, hhi0, hhi24⟩ := kids_bounds k
              clear hT
              generalize (Ex.kidsOf k).1 = lo at HCT hlo0 hlo3
              generalize (Ex.kidsOf k).2 = hi at HCT hhi0 hhi24
              go_wp2_with fail
              refine (HCT.out _).mono ?_
              rintro ee w10 ⟨rfl, b10⟩
              have HT10 := Lib.hid (HT9.out.later hB b10)
              have HX3 := Lib.hid (draw_below B cb 3 _ HT10.out.1.2.1 (by omega) (by omega))
              clear b10 HT9 HCT q0 q1 q2 q3 q4
              go_wp2_with fail
              refine HX3.out.mono ?_
              rintro ee w11 ⟨y, rfl, hy0, hy1, hc11, ho11⟩
              have HT11 := Lib.hid (HT10.out.only hcl hc11 ho11)
              have HMN := Lib.hid (fun W => min_at (lo + y) hi W)
              obtain ⟨z, hz⟩ : ∃ z : Nat, min (lo + y) hi = z := ⟨(min (lo + y) hi).toNat, by omega⟩
              have hz6 : z ≤ 6 := by omega
              rw [hz] at HMN
              clear hc11 ho11 HT10 HX3 hz
              go_wp2_with fail
              refine (HMN.out _).mono ?_
              rintro ee w12 ⟨rfl, rfl⟩
              clear HMN
              obtain ⟨⟨q0, _, q2, _⟩, _, _, f2, _⟩ := HT11.out.2.1
              go_upto_if 64 with fail
              go_cut [8] (fun v8 wx => (∃ z : Nat, v8 = .int .i64 z ∧ z ≤ 6) ∧ ∃ n, TrSt B cb w w2.heap.size k s3 n (.slice none 0 0) wx)
              case first =>
                by_cases h20 : k = 20
                · have b20 : (k == 20) = true := by simpa using h20
                  have HX2 := Lib.hid (draw_below B cb 2 _ HT11.out.1.2.1 (by omega) (by omega))
                  clear h20
                  go_wp2_with fail
                  refine HX2.out.mono ?_
                  rintro ee w13 ⟨n, rfl, hn0, hn1, hc13, ho13⟩
                  have HT13 := Lib.hid (HT11.out.only hcl hc13 ho13)
                  clear hc13 ho13 HT11 HX2 q0 q2 f2
                  obtain ⟨⟨_, _, q2, _⟩, _, _, f2, _⟩ := HT13.out.2.1
                  have HT14 := Lib.hid (HT13.out.num hB hcl n)
                  obtain ⟨w14, hw14⟩ : ∃ w14, w13.setCell ⟨w2.heap.size, 2, none⟩ (.int .i64 n) = w14 := ⟨_, rfl⟩
                  rw [hw14] at HT14
                  have HW14 := Lib.hid hw14
                  clear hw14
                  go_wp2_with fail
                  rw [HW14.out]
                  clear q2 f2 HT13 HW14
                  obtain ⟨⟨_, _, q2, _⟩, _, _, f2, _⟩ := HT14.out.2.1
                  have HTD := Lib.hid (HT14.out.later hB ((Below.refl w14.heap.size w14).drew))
                  have HX4 := Lib.hid (draw_below B cb 3 w14.drew HTD.out.1.2.1 (by omega) (by omega))
                  go_region_with (first | (go_at_call 49; refine HX4.out.mono ?_; rintro ee w15 ⟨y2, rfl, hy20, hy21, hc15, ho15⟩; have HT15 := Lib.hid (HTD.out.only hcl hc15 ho15); obtain ⟨⟨_, _, p2, _⟩, _⟩ := HT15.out.2.1; clear hc15 ho15))
                  all_goals (go_wp2_with fail; go_meet; exact ⟨⟨(1 + n + 2 * y2).toNat, num16 n y2 hn0 hn1 hy20 hy21, by omega⟩, n, HT15.out⟩)
                · have b20 : (k == 20) = false := by simpa using h20
                  clear h20
                  go_wp2_with fail
                  go_meet
                  exact ⟨⟨z, rfl, hz6⟩, _, HT11.out⟩
              case rest =>
                obtain ⟨⟨z2, rfl, hz2⟩, n, hT⟩ := hcut
                clear HT11 q0 q2 f2 hz6
                have HT16 := Lib.hid hT
                have IH := Lib.hid ih
                clear hT ih
                have HAP0 : Hid (AppK (w2.heap.size + 1) wc (.slice none 0 0) []) := Lib.hid (AppK.nil _ _)
                go_wp2_with fail
                go_loopw [9] (fun i wr => ∃ (j : Nat) (v : Value) (ld : List El), i = .int .i64 j ∧ j ≤ z2 ∧ TrSt B cb w w2.heap.size k s3 n v wr ∧ AppK (w2.heap.size + 1) wr v ld ∧ ld.length = j ∧ Small (bnd e) ld) (fun i _ => z2 - (intOf i).toNat)
                case atStart => exact ⟨0, _, [], rfl, Nat.zero_le _, HT16.out, HAP0.out, rfl, fun p hp => by cases hp⟩
                case round =>
                  clear HT16 HAP0
                  obtain ⟨j, v, ld, rfl, hj, hT, hap, hld, hsm⟩ := hrel
                  obtain ⟨av, nv, cv, rfl⟩ := hap.slice
                  have HT := Lib.hid hT
                  have HAP := Lib.hid hap
                  have HLD := Lib.hid hld
                  have HSM := Lib.hid hsm
                  obtain ⟨⟨q0, q1, q2, q3, q4⟩, _, _, _, _, f4⟩ := hT.2.1
                  clear hT hap hld hsm
                  by_cases hlt : j < z2
                  · have j1 : (j : Int) < z2 := by omega
                    have hdf : IntKind.i64.wrap ((e : Int) + 1) = (e : Int) + 1 := IntWalk.i64_in _ (by omega)
                    have HTD := Lib.hid (HT.out.later hB ((Below.refl wr.heap.size wr).drew))
                    have HC := Lib.hid (IH.out B cb wr.drew HTD.out.1.2.1 (by have := HT.out.1.lt; exact Nat.le_trans hB (Nat.le_of_lt this)))
                    have HAD := Lib.hid (HAP.out.later ((Below.refl wr.heap.size wr).drew))
                    have hEw := HT.out.2.2.1
                    go_wp2_with fail
                    go_region_law (first
                      | (refine step_tree (B := B) (e := e) rfl (.tmp 82) (.tmp 84) rfl (by first | (simp [Act.eval]; done) | (simp [Act.eval, Act.put]; done)) (by first | (simp [Act.eval]; done) | (simp [Act.eval, Act.put]; done)) HC.out ?_; intro t6 v6 F6 w6 o6 g6 b6 c6 on6; obtain ⟨z6, d6, rfl⟩ := kids_len (OwnK.kids _ o6); have HT6 := Lib.hid (HTD.out.only hcl c6 on6); have HA6 := Lib.hid (HAD.out.only on6 (by omega)); have O6 := Lib.hid o6; have G6 := Lib.hid g6; have C6 := Lib.hid c6; have ON6 := Lib.hid on6; have BK6 := Lib.hid b6; have r46 := HT6.out.2.1.1.2.2.2.2; have r47 := (HT6.out.2.1.later (bl1 w6 (iexN t6 (.slice z6 t6.kids.length d6)))).1.2.2.2.2; clear o6 g6 b6 c6 on6)
                      | (refine step_append_kid (B := w2.heap.size + 1) rfl (.tmp 81) (.tmp 86) rfl (by simp [Act.eval]) (HA6.out.later (bl1 w6 (iexN t6 (.slice z6 t6.kids.length d6)))).1 ⟨w6.heap.size, 0, none⟩ 1 (rowV [(t6, .slice z6 t6.kids.length d6, F6)]) (by simp [Act.eval]) rfl (fun j u hj => rowCells_get (new_row w6 t6 (.slice z6 t6.kids.length d6) F6) j u hj) row_one (by have := HLD.out; omega) (by have := HT6.out.lt; simp; omega) ?_; intro w8 g8 c8 hown8 hgr8 hg8 hor8; have hf7 := HT6.out.2.1.later (bl1 w6 (iexN t6 (.slice z6 t6.kids.length d6))); have hf8 := hf7.keep (hgr8.block _ hf7.lt (fun e => by have h1 := (ownBlock_lt HAP.out.1 e.symm).1; omega)); obtain ⟨⟨_, _, _, _, r48⟩, _, _, _, _, s48⟩ := hf8; have HO8 := Lib.hid hown8; have HGR8 := Lib.hid hgr8; have HOR8 := Lib.hid hor8; clear hf7 hown8 hgr8 hg8 hor8))
                    all_goals
                      have HN := Lib.hid (tr_next HT.out hB hcl HAP.out O6.out G6.out C6.out ON6.out HO8.out HGR8.out HOR8.out)
                      have HSN : Hid (Small (bnd e) (ld ++ [(t6, .slice z6 t6.kids.length d6, F6)])) := Lib.hid (fun p hp => by
                        rcases List.mem_append.1 hp with hp | hp
                        · exact HSM.out p hp
                        · rw [List.mem_singleton] at hp; subst hp; exact BK6.out)
                      clear HO8 HGR8 HOR8 r48 s48 O6 G6 C6 ON6 BK6 HA6 HT6 r46 r47 q0 q1 q2 q3 q4 f4
                      go_wp2
                      go_roundw
                      case rel => exact ⟨j + 1, _, _, by go_num, by omega, HN.out.1, HN.out.2, by rw [List.length_append, HLD.out]; rfl, HSN.out⟩
                      case measure => first | (simp [intOf]; done) | (simp [intOf]; omega)
                  · obtain rfl : j = z2 := by omega
                    obtain ⟨F, hK, hF⟩ := HAP.out.done
                    have hEw := HT.out.2.2.1
                    have hbk : (Ex.T.node k s3 n 0 (ld.map Prod.fst)).bulk ≤ bnd (e + 1) := by
                      rw [Ex.T.bulk, List.length_map, HLD.out, bnd]
                      have h1 := small_bulk HSM.out
                      rw [HLD.out] at h1
                      have h2 := HT.out.2.2.2
                      have h3 : j * bnd e ≤ 6 * bnd e := Nat.mul_le_mul_right _ hz2
                      omega
                    have HR := Lib.hid (HT.out.1.ret hB hne (t := .node k s3 n 0 (ld.map Prod.fst)) (v := .slice av nv cv) (F := F) hK (fun b hb => by have := hF b hb; omega) hbk)
                    obtain ⟨⟨r0, r1, r2, r3, r4⟩, g0, g1, g2, g3, g4⟩ := HT.out.1.1
                    clear hK hF hbk
                    go_wp2
                    exact bodyPost_ret (v := .agg #[.int .i64 k, .string s3, .int .i64 n, .int .i64 0, .slice av nv cv]) (by simp [results, Try.results48, go_sem, r0, r1, r2, r3, r4]) rfl HR.out
  · have HL := Lib.hid (draw_leaf B cb _ HD1.out.2.1 (Nat.le_trans hB (Nat.le_of_lt HD1.out.lt)))
    unfold DrawnT at HL
    go_wp2_with fail
    refine HL.out.mono ?_
    rintro ee w2 ⟨t, v, F, rfl, ho, hf, hb, hc, hon⟩
    have HD2 := Lib.hid (HD1.out.only hc hon hne)
    obtain ⟨z, d, rfl⟩ := kids_len (OwnK.kids _ ho)
    have HR := Lib.hid (HD2.out.ret hB hne (M := bnd (e + 1)) ho (fun b hb2 => ⟨Nat.lt_of_lt_of_le HD1.out.lt (hf b hb2).1, (hf b hb2).2⟩) (Nat.le_trans hb (bnd_le _)))
    obtain ⟨⟨q0, q1, q2, q3, q4⟩, f0, f1, f2, f3, f4⟩ := HD2.out.1
    clear ho hf hc hon
    go_wp2
    exact bodyPost_ret (v := exV t (.slice z t.kids.length d)) (by simp [results, Try.results48, go_sem, q0, q1, q2, q3, q4]) rfl HR.out
end Go.Proofs.Ytkkopnhbafjnaaa
