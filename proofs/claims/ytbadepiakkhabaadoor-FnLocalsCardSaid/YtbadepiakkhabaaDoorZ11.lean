/- Joined texts: N39, N40, V62, V1, T3. No conditions besides those that each states. -/
import Derived.Deep.DeepCutAuto
import Derived.IntWalk
import Derived.Maps.AppendAt
import Derived.Deep.AppendLies
import Derived.RegionTactic
import Derived.Test.YtbadepiakkhabaaDoorZ3
import Derived.Test.YtbadepiakkhabaaDoorZ6
import Derived.Test.YtbadepiakkhabaaDoorZ8
import Derived.Test.YtbadepiakkhabaaDoorZ10
/- Drawn trees: the walk of an inner node. No conditions. -/
namespace Go.Proofs.YtbadepiakkhabaaDoor
open Go.RowKit
set_option linter.unusedVariables false

def TreeC (e : Nat) : Prop := ∀ (B cb : Nat) (w : World), IsCur B w cb → B ≤ w.heap.size → Calls Tryd.prog 76 #[.pointer (some ⟨cb, 0, none⟩), .int .i64 ((e : Int) + 1)] w (DrawnT (bnd e) B cb w)
def treeUn : List ByteArray := [⟨#[45]⟩, ⟨#[43]⟩, ⟨#[42]⟩, ⟨#[47]⟩, ⟨#[92]⟩, ⟨#[126]⟩, ⟨#[33]⟩, ⟨#[61]⟩, ⟨#[124]⟩, ⟨#[64]⟩, ⟨#[94]⟩, ⟨#[46]⟩, ⟨#[46, 62]⟩]
theorem treeUn_small : ∀ s ∈ treeUn, s.size ≤ 4 := by decide
def treeBin : List ByteArray := [⟨#[38]⟩, ⟨#[63]⟩, ⟨#[58, 61]⟩, ⟨#[60, 45]⟩, ⟨#[43, 58, 61]⟩, ⟨#[124]⟩, ⟨#[46, 124]⟩, ⟨#[60]⟩, ⟨#[61, 61, 61]⟩, ⟨#[63, 63]⟩, ⟨#[124, 124]⟩, ⟨#[124, 124, 124]⟩, ⟨#[43]⟩, ⟨#[45, 45]⟩, ⟨#[42]⟩, ⟨#[42, 42]⟩, ⟨#[94]⟩, ⟨#[92]⟩, ⟨#[45, 62]⟩, ⟨#[61, 62]⟩]
theorem treeBin_small : ∀ s ∈ treeBin, s.size ≤ 4 := by decide
def treeKinds : List Int := [7, 8, 8, 9, 10, 15]
theorem num16 (n y : Int) (h0 : 0 ≤ n) (h1 : n < 2) (h2 : 0 ≤ y) (h3 : y < 3) : Value.int .i64 (IntKind.i64.wrap (IntKind.i64.wrap (1 + n) + IntKind.i64.wrap (2 * y))) = Value.int .i64 (((1 + n + 2 * y).toNat : Nat) : Int) := by
  rw [IntWalk.i64_in (1 + n) (by omega), IntWalk.i64_in (2 * y) (by omega), IntWalk.i64_in _ (by omega)]
  congr 1
  omega
set_option maxRecDepth 100000 in
set_option maxHeartbeats 3200000 in
theorem tree_zero : TreeC 0 := by
  intro B cb w hp hB
  have hcl := cur_lt hp
  have hne : w.heap.size ≠ cb := by omega
  have HD : Hid (LeafSt B cb w (w.alloc (.cells #[.int .i64 0, .string ⟨#[]⟩, .int .i64 0, .int .i64 0, .slice none 0 0] 105))) := Lib.hid ⟨FreeE.new _ _ _ _ _ _ _, cur_alloc hp hB _, only_alloc _⟩
  have HL := Lib.hid (draw_leaf B cb _ HD.out.2.1 (Nat.le_trans hB (Nat.le_of_lt HD.out.lt)))
  unfold DrawnT at HL
  clear hp
  go_enter Tryd.func76, Tryd.ntmps76
  go_wp2_with fail
  refine HL.out.mono ?_
  rintro ee w2 ⟨t, v, F, rfl, ho, hf, hb, hc, hon⟩
  have HD2 := Lib.hid (HD.out.only hc hon hne)
  obtain ⟨z, d, rfl⟩ := kids_len (OwnK.kids _ ho)
  have HR := Lib.hid (HD2.out.ret hB hne (M := bnd 0) ho (fun b hb2 => ⟨Nat.lt_of_lt_of_le HD.out.lt (hf b hb2).1, (hf b hb2).2⟩) (Nat.le_trans hb (bnd_le _)))
  obtain ⟨⟨q0, q1, q2, q3, q4⟩, f0, f1, f2, f3, f4⟩ := HD2.out.1
  clear ho hf hc hon
  go_wp2
  exact bodyPost_ret (v := exV t (.slice z t.kids.length d)) (by simp [results, Tryd.results76, go_sem, q0, q1, q2, q3, q4]) rfl HR.out
set_option maxRecDepth 100000 in
set_option maxHeartbeats 3200000 in
theorem tree_succ (e : Nat) (he : e ≤ 10) (ih : TreeC e) : TreeC (e + 1) := by
  intro B cb w hp hB
  have hcl := cur_lt hp
  have hne : w.heap.size ≠ cb := by omega
  have HD : Hid (LeafSt B cb w (w.alloc (.cells #[.int .i64 0, .string ⟨#[]⟩, .int .i64 0, .int .i64 0, .slice none 0 0] 105))) := Lib.hid ⟨FreeE.new _ _ _ _ _ _ _, cur_alloc hp hB _, only_alloc _⟩
  have HO := Lib.hid (once_at B cb 5 _ HD.out.2.1 (by omega) (by omega))
  have d1 : ¬ ((e + 1 : Nat) : Int) + 1 ≤ 1 := by omega
  clear hp
  go_enter Tryd.func76, Tryd.ntmps76
  go_wp2_with fail
  refine HO.out.mono ?_
  rintro ee w1 ⟨b, rfl, hc1, ho1⟩
  have HD1 := Lib.hid (HD.out.only hc1 ho1 hne)
  clear hc1 ho1 HD HO
  cases b
  · have HX := Lib.hid (draw_below B cb 24 _ HD1.out.2.1 (by omega) (by omega))
    go_wp2_with fail
    refine HX.out.mono ?_
    rintro ee w2 ⟨x, rfl, hx0, hx1, hc2, ho2⟩
    have hd2 := HD1.out.only hc2 ho2 hne
    have HT2 : Hid (TrSt B cb w w2.heap.size (6 + x) ⟨#[]⟩ 0 (.slice none 0 0) (w2.alloc (.cells #[.int .i64 (6 + x), .string ⟨#[]⟩, .int .i64 0, .int .i64 0, .slice none 0 0] 105))) := Lib.hid ⟨hd2.later (bl1 _ _) hB, FreeE.new _ _ _ _ _ _ _, hd2.lt, by decide⟩
    have HO2 := Lib.hid (once_at B cb 2 _ HT2.out.1.2.1 (by omega) (by omega))
    have hEL := hd2.lt
    clear hc2 ho2 hd2 HX HD1
    go_wp2_with fail
    refine HO2.out.mono ?_
    rintro ee w3 ⟨b, rfl, hc3, ho3⟩
    have HT3 := Lib.hid (HT2.out.only hcl hc3 ho3)
    clear hc3 ho3 HT2 HO2
    go_upto_if 23 with fail
    go_cut [] (fun wx => ∃ k, TrSt B cb w w2.heap.size k ⟨#[]⟩ 0 (.slice none 0 0) wx)
    case first =>
      cases b
      · go_wp2_with fail
        go_meet
        exact ⟨_, HT3.out⟩
      · have HP := Lib.hid (pick_int B cb w3.heap.size 6 treeKinds _ (cur_alloc HT3.out.1.2.1 (Nat.le_trans hB (Nat.le_of_lt HT3.out.1.lt)) _) (by decide) (by decide) (by have := cur_lt HT3.out.1.2.1; omega) (new_cells (Value.int .i64) treeKinds 0 w3 3 _ rfl))
        go_wp2_with fail
        refine HP.out.mono ?_
        rintro ee w4 ⟨k, _, rfl, hc4, ho4⟩
        have HT4 := Lib.hid ((HT3.out.later hB (bl1 w3 _)).only hcl hc4 ho4)
        clear hc4 ho4 HT3 HP
        obtain ⟨⟨q0, _⟩, f0, _⟩ := HT4.out.2.1
        go_wp2_with fail
        go_meet
        exact ⟨_, HT4.out.kind hB hcl _⟩
    case rest =>
      obtain ⟨k, hT⟩ := hcut
      have HT5 := Lib.hid hT
      obtain ⟨⟨q0, _⟩, _⟩ := hT.2.1
      clear hT HT3
      go_upto_if 30 with fail
      go_cut [] (fun wx => ∃ s, TrSt B cb w w2.heap.size k s 0 (.slice none 0 0) wx)
      case first =>
        by_cases h7 : k = 7
        · have b7 : (k == 7) = true := by simpa using h7
          have HP := Lib.hid (pick_text B cb wc.heap.size 13 treeUn _ (cur_alloc HT5.out.1.2.1 (Nat.le_trans hB (Nat.le_of_lt HT5.out.1.lt)) _) (by decide) (by decide) (by have := cur_lt HT5.out.1.2.1; omega) (new_cells Value.string treeUn ByteArray.empty wc 9 _ rfl))
          clear h7
          go_wp2_with fail
          refine HP.out.mono ?_
          rintro ee w6 ⟨s, hs, rfl, hc6, ho6⟩
          have HT6 := Lib.hid ((HT5.out.later hB (bl1 wc _)).only hcl hc6 ho6)
          have hs4 := treeUn_small s hs
          clear hs hc6 ho6 HT5 HP q0
          obtain ⟨⟨_, q1, _⟩, _, f1, _⟩ := HT6.out.2.1
          go_wp2_with fail
          go_meet
          exact ⟨_, HT6.out.text hB hcl _ hs4⟩
        · have b7 : (k == 7) = false := by simpa using h7
          clear h7
          go_wp2_with fail
          go_meet
          exact ⟨_, HT5.out⟩
      case rest =>
        obtain ⟨s, hT⟩ := hcut
        clear HT5 q0
        have HT6 := Lib.hid hT
        obtain ⟨⟨q0, _⟩, _⟩ := hT.2.1
        clear hT
        go_upto_if 37 with fail
        go_cut [] (fun wx => ∃ s, TrSt B cb w w2.heap.size k s 0 (.slice none 0 0) wx)
        case first =>
          by_cases h8 : k = 8
          · have b8 : (k == 8) = true := by simpa using h8
            have HP := Lib.hid (pick_text B cb wc.heap.size 20 treeBin _ (cur_alloc HT6.out.1.2.1 (Nat.le_trans hB (Nat.le_of_lt HT6.out.1.lt)) _) (by decide) (by decide) (by have := cur_lt HT6.out.1.2.1; omega) (new_cells Value.string treeBin ByteArray.empty wc 9 _ rfl))
            clear h8
            go_wp2_with fail
            refine HP.out.mono ?_
            rintro ee w7 ⟨s7, hs, rfl, hc7, ho7⟩
            have HT7 := Lib.hid ((HT6.out.later hB (bl1 wc _)).only hcl hc7 ho7)
            have hs4 := treeBin_small s7 hs
            clear hs hc7 ho7 HT6 HP q0
            obtain ⟨⟨_, q1, _⟩, _, f1, _⟩ := HT7.out.2.1
            go_wp2_with fail
            go_meet
            exact ⟨_, HT7.out.text hB hcl _ hs4⟩
          · have b8 : (k == 8) = false := by simpa using h8
            clear h8
            go_wp2_with fail
            go_meet
            exact ⟨_, HT6.out⟩
        case rest =>
          obtain ⟨s2, hT⟩ := hcut
          clear HT6 q0
          have HT7 := Lib.hid hT
          obtain ⟨⟨q0, _⟩, _⟩ := hT.2.1
          clear hT
          go_upto_region 10 with fail
          go_cut [49] (fun v49 wx => (∃ b, v49 = .bool b) ∧ TrSt B cb w w2.heap.size k s2 0 (.slice none 0 0) wx)
          case first =>
            by_cases h13 : k = 13
            · have b13 : (k == 13) = true := by simpa using h13
              clear h13
              go_wp2_with fail
              go_meet
              exact ⟨⟨_, rfl⟩, HT7.out⟩
            · have b13 : (k == 13) = false := by simpa using h13
              clear h13
              go_wp2_with fail
              go_meet
              exact ⟨⟨_, rfl⟩, HT7.out⟩
          case rest =>
            obtain ⟨⟨b, rfl⟩, hT⟩ := hcut
            clear HT7 q0
            have HT8 := Lib.hid hT
            obtain ⟨⟨q0, q1, _⟩, f0, f1, _⟩ := hT.2.1
            clear hT
            go_upto_if 49 with fail
            go_cut [] (fun wx => ∃ s, TrSt B cb w w2.heap.size k s 0 (.slice none 0 0) wx)
            case first =>
              cases b
              · go_wp2_with fail
                go_meet
                exact ⟨_, HT8.out⟩
              · go_wp2_with fail
                go_meet
                exact ⟨_, HT8.out.text hB hcl _ (by decide)⟩
            case rest =>
              obtain ⟨s3, hT⟩ := hcut
              clear HT8 q0 q1 f0 f1
              have HT9 := Lib.hid hT
              obtain ⟨⟨q0, q1, q2, q3, q4⟩, _⟩ := hT.2.1
              have HCT : Hid (∀ W, Calls Tryd.prog 108 #[.agg #[.int .i64 k, .string s3, .int .i64 0, .int .i64 0, .slice none 0 0]] W fun e w' => e = .returned (.tuple #[.int .i64 (Ex.kidsOf k).1, .int .i64 (Ex.kidsOf k).2]) ∧ Below W.heap.size W w') := Lib.hid (fun W => spec_counts (.node k s3 0 0 []) (.slice none 0 0) W)
              obtain ⟨hlo0, hlo3, hhi0, hhi24⟩ := kids_bounds k
              clear hT
              generalize (Ex.kidsOf k).1 = lo at HCT hlo0 hlo3
              generalize (Ex.kidsOf k).2 = hi at HCT hhi0 hhi24
              go_wp2_with fail
              refine (HCT.out _).mono ?_
              rintro ee w10 ⟨rfl, b10⟩
              have HT10 := Lib.hid (HT9.out.later hB b10)
              have HX3 := Lib.hid (draw_below B cb 3 _ HT10.out.1.2.1 (by omega) (by omega))
              clear b10 HT9 HCT q0 q1 q2 q3 q4
              go_wp2_with fail
              refine HX3.out.mono ?_
              rintro ee w11 ⟨y, rfl, hy0, hy1, hc11, ho11⟩
              have HT11 := Lib.hid (HT10.out.only hcl hc11 ho11)
              have HMN := Lib.hid (fun W => min_at (lo + y) hi W)
              obtain ⟨z, hz⟩ : ∃ z : Nat, min (lo + y) hi = z := ⟨(min (lo + y) hi).toNat, by omega⟩
              have hz6 : z ≤ 6 := by omega
              rw [hz] at HMN
              clear hc11 ho11 HT10 HX3 hz
              go_wp2_with fail
              refine (HMN.out _).mono ?_
              rintro ee w12 ⟨rfl, rfl⟩
              clear HMN
              obtain ⟨⟨q0, _, q2, _⟩, _, _, f2, _⟩ := HT11.out.2.1
              go_upto_if 64 with fail
              go_cut [8] (fun v8 wx => (∃ z : Nat, v8 = .int .i64 z ∧ z ≤ 6) ∧ ∃ n, TrSt B cb w w2.heap.size k s3 n (.slice none 0 0) wx)
              case first =>
                by_cases h20 : k = 20
                · have b20 : (k == 20) = true := by simpa using h20
                  have HX2 := Lib.hid (draw_below B cb 2 _ HT11.out.1.2.1 (by omega) (by omega))
                  clear h20
                  go_wp2_with fail
                  refine HX2.out.mono ?_
                  rintro ee w13 ⟨n, rfl, hn0, hn1, hc13, ho13⟩
                  have HT13 := Lib.hid (HT11.out.only hcl hc13 ho13)
                  clear hc13 ho13 HT11 HX2 q0 q2 f2
                  obtain ⟨⟨_, _, q2, _⟩, _, _, f2, _⟩ := HT13.out.2.1
                  have HT14 := Lib.hid (HT13.out.num hB hcl n)
                  obtain ⟨w14, hw14⟩ : ∃ w14, w13.setCell ⟨w2.heap.size, 2, none⟩ (.int .i64 n) = w14 := ⟨_, rfl⟩
                  rw [hw14] at HT14
                  have HW14 := Lib.hid hw14
                  clear hw14
                  go_wp2_with fail
                  rw [HW14.out]
                  clear q2 f2 HT13 HW14
                  obtain ⟨⟨_, _, q2, _⟩, _, _, f2, _⟩ := HT14.out.2.1
                  have HTD := Lib.hid (HT14.out.later hB ((Below.refl w14.heap.size w14).drew))
                  have HX4 := Lib.hid (draw_below B cb 3 w14.drew HTD.out.1.2.1 (by omega) (by omega))
                  go_region_with (first | (go_at_call 42; refine HX4.out.mono ?_; rintro ee w15 ⟨y2, rfl, hy20, hy21, hc15, ho15⟩; have HT15 := Lib.hid (HTD.out.only hcl hc15 ho15); obtain ⟨⟨_, _, p2, _⟩, _⟩ := HT15.out.2.1; clear hc15 ho15))
                  all_goals (go_wp2_with fail; go_meet; exact ⟨⟨(1 + n + 2 * y2).toNat, num16 n y2 hn0 hn1 hy20 hy21, by omega⟩, n, HT15.out⟩)
                · have b20 : (k == 20) = false := by simpa using h20
                  clear h20
                  go_wp2_with fail
                  go_meet
                  exact ⟨⟨z, rfl, hz6⟩, _, HT11.out⟩
              case rest =>
                obtain ⟨⟨z2, rfl, hz2⟩, n, hT⟩ := hcut
                clear HT11 q0 q2 f2 hz6
                have HT16 := Lib.hid hT
                have IH := Lib.hid ih
                clear hT ih
                have HAP0 : Hid (AppK (w2.heap.size + 1) wc (.slice none 0 0) []) := Lib.hid (AppK.nil _ _)
                go_wp2_with fail
                go_loopw [9] (fun i wr => ∃ (j : Nat) (v : Value) (ld : List El), i = .int .i64 j ∧ j ≤ z2 ∧ TrSt B cb w w2.heap.size k s3 n v wr ∧ AppK (w2.heap.size + 1) wr v ld ∧ ld.length = j ∧ Small (bnd e) ld) (fun i _ => z2 - (intOf i).toNat)
                case atStart => exact ⟨0, _, [], rfl, Nat.zero_le _, HT16.out, HAP0.out, rfl, fun p hp => by cases hp⟩
                case round =>
                  clear HT16 HAP0
                  obtain ⟨j, v, ld, rfl, hj, hT, hap, hld, hsm⟩ := hrel
                  obtain ⟨av, nv, cv, rfl⟩ := hap.slice
                  have HT := Lib.hid hT
                  have HAP := Lib.hid hap
                  have HLD := Lib.hid hld
                  have HSM := Lib.hid hsm
                  obtain ⟨⟨q0, q1, q2, q3, q4⟩, _, _, _, _, f4⟩ := hT.2.1
                  clear hT hap hld hsm
                  by_cases hlt : j < z2
                  · have j1 : (j : Int) < z2 := by omega
                    have hdf : IntKind.i64.wrap ((e : Int) + 1) = (e : Int) + 1 := IntWalk.i64_in _ (by omega)
                    have HTD := Lib.hid (HT.out.later hB ((Below.refl wr.heap.size wr).drew))
                    have HC := Lib.hid (IH.out B cb wr.drew HTD.out.1.2.1 (by have := HT.out.1.lt; exact Nat.le_trans hB (Nat.le_of_lt this)))
                    have HAD := Lib.hid (HAP.out.later ((Below.refl wr.heap.size wr).drew))
                    have hEw := HT.out.2.2.1
                    go_wp2_with fail
                    go_region_law (first
                      | (refine step_tree (B := B) (e := e) rfl (.tmp 82) (.tmp 84) rfl (by first | (simp [Act.eval]; done) | (simp [Act.eval, Act.put]; done)) (by first | (simp [Act.eval]; done) | (simp [Act.eval, Act.put]; done)) HC.out ?_; intro t6 v6 F6 w6 o6 g6 b6 c6 on6; obtain ⟨z6, d6, rfl⟩ := kids_len (OwnK.kids _ o6); have HT6 := Lib.hid (HTD.out.only hcl c6 on6); have HA6 := Lib.hid (HAD.out.only on6 (by omega)); have O6 := Lib.hid o6; have G6 := Lib.hid g6; have C6 := Lib.hid c6; have ON6 := Lib.hid on6; have BK6 := Lib.hid b6; have r46 := HT6.out.2.1.1.2.2.2.2; have r47 := (HT6.out.2.1.later (bl1 w6 (iexN t6 (.slice z6 t6.kids.length d6)))).1.2.2.2.2; clear o6 g6 b6 c6 on6)
                      | (refine step_append_kid (B := w2.heap.size + 1) rfl (.tmp 81) (.tmp 86) rfl (by simp [Act.eval]) (HA6.out.later (bl1 w6 (iexN t6 (.slice z6 t6.kids.length d6)))).1 ⟨w6.heap.size, 0, none⟩ 1 (rowV [(t6, .slice z6 t6.kids.length d6, F6)]) (by simp [Act.eval]) rfl (fun j u hj => rowCells_get (new_row w6 t6 (.slice z6 t6.kids.length d6) F6) j u hj) row_one (by have := HLD.out; omega) (by have := HT6.out.lt; simp; omega) ?_; intro w8 g8 c8 hown8 hgr8 hg8 hor8; have hf7 := HT6.out.2.1.later (bl1 w6 (iexN t6 (.slice z6 t6.kids.length d6))); have hf8 := hf7.keep (hgr8.block _ hf7.lt (fun e => by have h1 := (ownBlock_lt HAP.out.1 e.symm).1; omega)); obtain ⟨⟨_, _, _, _, r48⟩, _, _, _, _, s48⟩ := hf8; have HO8 := Lib.hid hown8; have HGR8 := Lib.hid hgr8; have HOR8 := Lib.hid hor8; clear hf7 hown8 hgr8 hg8 hor8))
                    all_goals
                      have HN := Lib.hid (tr_next HT.out hB hcl HAP.out O6.out G6.out C6.out ON6.out HO8.out HGR8.out HOR8.out)
                      have HSN : Hid (Small (bnd e) (ld ++ [(t6, .slice z6 t6.kids.length d6, F6)])) := Lib.hid (fun p hp => by
                        rcases List.mem_append.1 hp with hp | hp
                        · exact HSM.out p hp
                        · rw [List.mem_singleton] at hp; subst hp; exact BK6.out)
                      clear HO8 HGR8 HOR8 r48 s48 O6 G6 C6 ON6 BK6 HA6 HT6 r46 r47 q0 q1 q2 q3 q4 f4
                      go_wp2
                      go_roundw
                      case rel => exact ⟨j + 1, _, _, by go_num, by omega, HN.out.1, HN.out.2, by rw [List.length_append, HLD.out]; rfl, HSN.out⟩
                      case measure => first | (simp [intOf]; done) | (simp [intOf]; omega)
                  · obtain rfl : j = z2 := by omega
                    obtain ⟨F, hK, hF⟩ := HAP.out.done
                    have hEw := HT.out.2.2.1
                    have hbk : (Ex.T.node k s3 n 0 (ld.map Prod.fst)).bulk ≤ bnd (e + 1) := by
                      rw [Ex.T.bulk, List.length_map, HLD.out, bnd]
                      have h1 := small_bulk HSM.out
                      rw [HLD.out] at h1
                      have h2 := HT.out.2.2.2
                      have h3 : j * bnd e ≤ 6 * bnd e := Nat.mul_le_mul_right _ hz2
                      omega
                    have HR := Lib.hid (HT.out.1.ret hB hne (t := .node k s3 n 0 (ld.map Prod.fst)) (v := .slice av nv cv) (F := F) hK (fun b hb => by have := hF b hb; omega) hbk)
                    obtain ⟨⟨r0, r1, r2, r3, r4⟩, g0, g1, g2, g3, g4⟩ := HT.out.1.1
                    clear hK hF hbk
                    go_wp2
                    exact bodyPost_ret (v := .agg #[.int .i64 k, .string s3, .int .i64 n, .int .i64 0, .slice av nv cv]) (by simp [results, Tryd.results76, go_sem, r0, r1, r2, r3, r4]) rfl HR.out
  · have HL := Lib.hid (draw_leaf B cb _ HD1.out.2.1 (Nat.le_trans hB (Nat.le_of_lt HD1.out.lt)))
    unfold DrawnT at HL
    go_wp2_with fail
    refine HL.out.mono ?_
    rintro ee w2 ⟨t, v, F, rfl, ho, hf, hb, hc, hon⟩
    have HD2 := Lib.hid (HD1.out.only hc hon hne)
    obtain ⟨z, d, rfl⟩ := kids_len (OwnK.kids _ ho)
    have HR := Lib.hid (HD2.out.ret hB hne (M := bnd (e + 1)) ho (fun b hb2 => ⟨Nat.lt_of_lt_of_le HD1.out.lt (hf b hb2).1, (hf b hb2).2⟩) (Nat.le_trans hb (bnd_le _)))
    obtain ⟨⟨q0, q1, q2, q3, q4⟩, f0, f1, f2, f3, f4⟩ := HD2.out.1
    clear ho hf hc hon
    go_wp2
    exact bodyPost_ret (v := exV t (.slice z t.kids.length d)) (by simp [results, Tryd.results76, go_sem, q0, q1, q2, q3, q4]) rfl HR.out
end Go.Proofs.YtbadepiakkhabaaDoor
/- Drawn trees: where the drawing of a whole tree stands. No conditions. -/
namespace Go.Proofs.YtbadepiakkhabaaDoor
open Go.RowKit
set_option linter.unusedVariables false

theorem tree_any : ∀ e : Nat, e ≤ 5 → TreeC e := by
  intro e
  induction e with
  | zero => intro _; exact tree_zero
  | succ e ih => intro h; exact tree_succ e (by omega) (ih (by omega))
theorem code_up {B B' : Nat} {w : World} {v : Value} {n : Nat} (h : Code B w v n) (hB : B ≤ B') : Code B' w v n := by
  rcases h with h | ⟨g, off, c, hv, hg, r⟩
  · exact .inl h
  · exact .inr ⟨g, off, c, hv, by omega, r⟩
/-- What a tree's drawing holds beside the variable. -/
def DwB (w : World) (cb h0 g : Nat) (v : Value) (ks : List Ex.T) (F : List Nat) (wr : World) : Prop :=
  FreeE wr w.heap.size 0 ⟨#[]⟩ 0 0 (.slice none 0 0) ∧ IsCur (w.heap.size + 1) wr cb ∧ Below w.heap.size w wr ∧ OwnK wr v ks F ∧ (∀ b ∈ F, h0 ≤ b ∧ b < wr.heap.size ∧ b ≠ g) ∧ w.heap.size < cb ∧ cb < h0 ∧ h0 ≤ g ∧ g < wr.heap.size
/-- A whole tree that is being drawn, in the variable at block g. -/
def DwSt (w : World) (cb h0 g : Nat) (t : Ex.T) (v : Value) (F : List Nat) (wr : World) : Prop :=
  DwB w cb h0 g v t.kids F wr ∧ FreeE wr g t.kind t.text t.num t.line v
theorem DwSt.only {w wr wx : World} {cb h0 g : Nat} {t : Ex.T} {v : Value} {F : List Nat} (h : DwSt w cb h0 g t v F wr) (hc : IsCur (w.heap.size + 1) wx cb) (ho : Only cb wr wx) : DwSt w cb h0 g t v F wx := by
  obtain ⟨⟨h1, h2, h3, h4, h5, h6, h7, h8, h9⟩, h10⟩ := h
  have hs := ho.size
  refine ⟨⟨h1.only ho (by omega), hc, h3.trans (ho.below (by omega) h3.size), OwnK.keep _ (fun b hb => ho.block b (h5 b hb).2.1 fun e => ?_) h4, fun b hb => ?_, h6, h7, h8, by omega⟩, h10.only ho (by omega)⟩
  · have h11 := Option.some.inj e
    have h12 := h5 b hb
    omega
  · have h12 := h5 b hb
    exact ⟨h12.1, by omega, h12.2.2⟩
theorem DwB.later {w wr wx : World} {cb h0 g : Nat} {ks : List Ex.T} {v : Value} {F : List Nat} (h : DwB w cb h0 g v ks F wr) (hb : Below wr.heap.size wr wx) : DwB w cb h0 g v ks F wx := by
  obtain ⟨h1, h2, h3, h4, h5, h6, h7, h8, h9⟩ := h
  have hs := hb.size
  have hr := h1.lt
  refine ⟨h1.later hb, cur_below h2 (by omega) hb, h3.trans (hb.mono h3.size), OwnK.keep _ (fun b hb2 => hb.block b (h5 b hb2).2.1) h4, fun b hb2 => ?_, h6, h7, h8, by omega⟩
  have h12 := h5 b hb2
  exact ⟨h12.1, by omega, h12.2.2⟩
theorem DwSt.later {w wr wx : World} {cb h0 g : Nat} {t : Ex.T} {v : Value} {F : List Nat} (h : DwSt w cb h0 g t v F wr) (hb : Below wr.heap.size wr wx) : DwSt w cb h0 g t v F wx := ⟨h.1.later hb, h.2.later hb⟩
theorem DwB.set {w wr : World} {cb h0 g : Nat} {ks : List Ex.T} {v : Value} {F : List Nat} (h : DwB w cb h0 g v ks F wr) (o : Nat) (u : Value) : DwB w cb h0 g v ks F (wr.setCell ⟨g, o, none⟩ u) := by
  obtain ⟨h1, h2, h3, h4, h5, h6, h7, h8, h9⟩ := h
  have hz : (wr.setCell ⟨g, o, none⟩ u).heap.size = wr.heap.size := by simp [World.setCell]
  refine ⟨h1.keep (Below.heap_setCell wr ⟨g, o, none⟩ u _ (show w.heap.size ≠ g by omega)), ?_, h3.trans ((Below.refl w.heap.size wr).setCell (p := ⟨g, o, none⟩) (by show w.heap.size ≤ g; omega) u), OwnK.keep _ (fun b hb => Below.heap_setCell wr ⟨g, o, none⟩ u b (h5 b hb).2.2) h4, by rw [hz]; exact h5, h6, h7, h8, by rw [hz]; exact h9⟩
  obtain ⟨v, m, i, x, c1, c2, c3⟩ := h2
  refine ⟨v, m, i, x, c1, code_below c2 ((Below.refl _ wr).setCell (p := ⟨g, o, none⟩) (by show w.heap.size + 1 ≤ g; omega) u), ?_⟩
  rw [Below.heap_setCell wr ⟨g, o, none⟩ u cb (show cb ≠ g by omega)]; exact c3
theorem DwSt.text {w wr : World} {cb h0 g : Nat} {t : Ex.T} {v : Value} {F : List Nat} (h : DwSt w cb h0 g t v F wr) (s : ByteArray) : DwSt w cb h0 g (.node t.kind s t.num t.line t.kids) v F (wr.setCell ⟨g, 1, none⟩ (.string s)) := by
  refine ⟨h.1.set _ _, ?_⟩
  obtain ⟨⟨a0, a1, a2, a3, a4⟩, f0, f1, f2, f3, f4⟩ := h.2
  refine ⟨⟨?_, ?_, ?_, ?_, ?_⟩, ?_, ?_, ?_, ?_, ?_⟩
  all_goals go_simp
  all_goals rfl
theorem DwSt.num {w wr : World} {cb h0 g : Nat} {t : Ex.T} {v : Value} {F : List Nat} (h : DwSt w cb h0 g t v F wr) (n : Int) : DwSt w cb h0 g (.node t.kind t.text n t.line t.kids) v F (wr.setCell ⟨g, 2, none⟩ (.int .i64 n)) := by
  refine ⟨h.1.set _ _, ?_⟩
  obtain ⟨⟨a0, a1, a2, a3, a4⟩, f0, f1, f2, f3, f4⟩ := h.2
  refine ⟨⟨?_, ?_, ?_, ?_, ?_⟩, ?_, ?_, ?_, ?_, ?_⟩
  all_goals go_simp
  all_goals rfl
theorem own_one (w : World) (t : Ex.T) (v : Value) (F : List Nat) (h : OwnK w v t.kids F) (hF : ∀ b ∈ F, b < w.heap.size) : OwnK (w.alloc (iexN t v)) (.slice (some ⟨w.heap.size, 0, none⟩) 1 1) [t] (w.heap.size :: F) := by
  have hr : RowE (w.alloc (iexN t v)) w.heap.size 1 1 (rowV [(t, v, F)]) :=
    ⟨rfl, .inr ⟨w.heap.size, 1, _, rfl, Nat.zero_le _, World.alloc_heap_new w (iexN t v), Nat.le_refl _, by unfold maxLen; omega, rfl, rfl⟩⟩
  have hk : OwnK (w.alloc (iexN t v)) v t.kids F := OwnK.keep _ (fun b hb => (bl1 w (iexN t v)).block b (hF b hb)) h
  have he : Els (w.alloc (iexN t v)) [(t, v, F)] := ⟨fun p hp => by rw [List.mem_singleton] at hp; subst hp; exact hk, List.pairwise_singleton _ _⟩
  have hg : w.heap.size ∉ elsF [(t, v, F)] := fun hb => by
    have hb2 : w.heap.size ∈ F := by simpa [elsF] using hb
    exact Nat.lt_irrefl _ (hF _ hb2)
  have hh := ownK_els (l := [(t, v, F)]) hr he hg
  simpa [elsF] using hh
theorem DwSt.wrap {w wr : World} {cb h0 g : Nat} {t : Ex.T} {v : Value} {F : List Nat} (h : DwSt w cb h0 g t v F wr) (i : Int) :
    DwSt w cb h0 g (.node 27 ⟨#[]⟩ 0 i [t]) (.slice (some ⟨wr.heap.size, 0, none⟩) 1 1) (wr.heap.size :: F) ((((((wr.alloc (iexN t v)).setCell ⟨g, 0, none⟩ (.int .i64 27)).setCell ⟨g, 1, none⟩ (.string ⟨#[]⟩)).setCell ⟨g, 2, none⟩ (.int .i64 0)).setCell ⟨g, 3, none⟩ (.int .i64 i)).setCell ⟨g, 4, none⟩ (.slice (some ⟨wr.heap.size, 0, none⟩) 1 1)) := by
  have h2 := h.later (bl1 wr (iexN t v))
  obtain ⟨⟨h1, c2, c3, c4, c5, c6, c7, c8, c9⟩, h10⟩ := h2
  have o := own_one wr t v F h.1.2.2.2.1 fun b hb => (h.1.2.2.2.2.1 b hb).2.1
  have hz : (wr.alloc (iexN t v)).heap.size = wr.heap.size + 1 := by simp
  have hgl := h.1.2.2.2.2.2.2.2.2
  have hB : DwB w cb h0 g (.slice (some ⟨wr.heap.size, 0, none⟩) 1 1) [t] (wr.heap.size :: F) (wr.alloc (iexN t v)) := by
    refine ⟨h1, c2, c3, o, fun b hb => ?_, c6, c7, c8, c9⟩
    rcases List.mem_cons.1 hb with rfl | hb
    · exact ⟨by omega, by omega, by omega⟩
    · exact c5 b hb
  refine ⟨((((hB.set _ _).set _ _).set _ _).set _ _).set _ _, ?_⟩
  obtain ⟨⟨a0, a1, a2, a3, a4⟩, f0, f1, f2, f3, f4⟩ := h10
  generalize wr.alloc (iexN t v) = W at a0 a1 a2 a3 a4 f0 f1 f2 f3 f4
  refine ⟨⟨?_, ?_, ?_, ?_, ?_⟩, ?_, ?_, ?_, ?_, ?_⟩
  all_goals go_simp
  all_goals rfl
end Go.Proofs.YtbadepiakkhabaaDoor
/- The reference model's drawing of a unit: words, its records. No conditions. -/
namespace Go.Proofs.YtbadepiakkhabaaDoor
open Go.RowKit
set_option linter.unusedVariables false

/-- A drawn unit. -/
def DrawnU (M B cb : Nat) (w : World) (e : Ending) (w' : World) : Prop := ∃ (u : Un) (v1 v2 v3 : Value), e = .returned (unV v1 v2 v3) ∧ (∃ F1 F2 F3, Own w' (recsD u.recs) v1 F1 ∧ Own w' (strsD u.globs) v2 F2 ∧ Own w' (procsD u.procs) v3 F3 ∧ ∀ x ∈ F1 ++ (F2 ++ F3), w.heap.size ≤ x ∧ x < w'.heap.size) ∧ u.bulk ≤ M ∧ IsCur B w' cb ∧ Only cb w w'
/-- What lies in memory all the while: the cursor; nothing else is turned but the row, when it is appended to. -/
def IRow (B cb p : Nat) (rb : Option Nat) (w0 : World) (L : Nat → Bool) (w : World) : Prop := IsCur B w cb ∧ Turn cb rb w0 w ∧ (L p = false → Turn cb none w0 w)
theorem IRow.same {B cb p i : Nat} {rb : Option Nat} {w0 w : World} {L : Nat → Bool} (h : IRow B cb p rb w0 L w) (hi : p ≠ i) : IRow B cb p rb w0 (upL L i) w := ⟨h.1, h.2.1, fun hl => h.2.2 (by unfold upL at hl; rw [if_neg hi] at hl; exact hl)⟩
theorem IRow.step {B cb p i : Nat} {rb : Option Nat} {w0 w w' : World} {L : Nat → Bool} (h : IRow B cb p rb w0 L w) (hi : p ≠ i) (hc : IsCur B w' cb) (ht : Turn cb none w w') : IRow B cb p rb w0 (upL L i) w' :=
  ⟨hc, h.2.1.trans ht.wide, fun hl => (h.2.2 (by unfold upL at hl; rw [if_neg hi] at hl; exact hl)).trans ht⟩
theorem IRow.last {B cb p : Nat} {rb : Option Nat} {w0 w w' : World} {L : Nat → Bool} (h : IRow B cb p rb w0 L w) (hc : IsCur B w' cb) (ht : Turn cb rb w w') : IRow B cb p rb w0 (upL L p) w' :=
  ⟨hc, h.2.1.trans ht, fun hl => by unfold upL at hl; rw [if_pos rfl] at hl; cases hl⟩
/-- What an operation does to the world. -/
def RRow (cb p : Nat) (rb : Option Nat) (i : Nat) (w w' : World) : Prop := if i = p then Turn cb rb w w' else Turn cb none w w'
theorem RRow.any {cb p i : Nat} {rb : Option Nat} {w w' : World} (h : RRow cb p rb i w w') : Turn cb rb w w' := by
  unfold RRow at h
  split at h
  · exact h
  · exact h.wide
theorem RRow.oth {cb p i : Nat} {rb : Option Nat} {w w' : World} (h : RRow cb p rb i w w') (hi : i ≠ p) : Turn cb none w w' := by
  unfold RRow at h
  rw [if_neg hi] at h
  exact h
theorem RRow.of {cb p i : Nat} {rb : Option Nat} {w w' : World} (h : Turn cb none w w') : RRow cb p rb i w w' := by
  unfold RRow
  split
  · exact h.wide
  · exact h
theorem AppD.turn {B cb : Nat} {w w1 : World} {T : TypeId} {z n : Nat} {v : Value} {l : List D} {Fs : List (List Nat)} (h : AppD B w T z v n l Fs) (ht : Turn cb none w w1) (hc : cb < B) : AppD B w1 T z v n l Fs :=
  h.keep ht.1.2.2.2 (fun b hb hlt => ht.2 b hlt (by omega) (by simp))
/-- The values of the statement that draws a record. -/
def F6 (Z E cb B2 : Nat) (vr : Value) (k : Nat) (ds : List D) (L : Nat → Bool) (j : Nat) (v : Value) (w : World) : Prop := match j with
  | 0 => v = .pointer (some ⟨E, 0, none⟩)
  | 1 => v = vr
  | 2 => v = .pointer (some ⟨cb, 0, none⟩)
  | 3 => ∃ b, v = .slice (some ⟨b, 0, none⟩) 2 2 ∧ NewB Z w b #[.string ⟨#[112, 111, 105, 110, 116]⟩, .string ⟨#[99, 101, 108, 108]⟩] 9
  | 4 => ∃ s : ByteArray, v = .string s ∧ s.size ≤ 5
  | 5 => ∃ b, v = .slice (some ⟨b, 0, none⟩) 2 2 ∧ NewB Z w b #[.string ⟨#[97]⟩, .string ⟨#[98]⟩] 9
  | 6 => v = .pointer (some ⟨cb, 0, none⟩)
  | 7 => ∃ x : Int, v = .int .i64 x ∧ 0 ≤ x ∧ x < 3
  | 8 => ∃ b n, n ≤ 2 ∧ v = .slice (some ⟨b, 0, none⟩) n 2 ∧ NewB Z w b #[.string ⟨#[97]⟩, .string ⟨#[98]⟩] 9
  | 9 => v = .pointer (some ⟨cb, 0, none⟩)
  | 10 => ∃ x : Int, v = .int .i64 x ∧ 0 ≤ x ∧ x < 3
  | 11 => ∃ (s : ByteArray) (b n : Nat) (x : Int), s.size ≤ 5 ∧ n ≤ 2 ∧ v = .agg #[.string s, .slice (some ⟨b, 0, none⟩) n 2, .int .i64 x] ∧ NewB Z w b #[.string ⟨#[97]⟩, .string ⟨#[98]⟩] 9
  | 12 => ∃ (c : Nat) (s : ByteArray) (b n : Nat) (x : Int), s.size ≤ 5 ∧ n ≤ 2 ∧ v = .slice (some ⟨c, 0, none⟩) 1 1 ∧ NewB Z w c #[.string s, .slice (some ⟨b, 0, none⟩) n 2, .int .i64 x] 72 ∧ NewB Z w b #[.string ⟨#[97]⟩, .string ⟨#[98]⟩] 9
  | 13 => ∃ (r : Rc) (g c : Nat) (Fs : List (List Nat)), r.bulk ≤ 40 ∧ v = .slice (some ⟨g, 0, none⟩) (k + 1) c ∧ AppD B2 w 72 3 v (k + 1) (ds ++ r.ds) Fs
  | 14 => v = .pointer (some ⟨E, 0, none⟩)
  | _ => True
theorem F6_keep {Z E cb B2 : Nat} {vr : Value} {k : Nat} {ds : List D} (hcZ : cb < Z) (hcB : cb < B2) {rb : Option Nat} (hrb : ∀ r, rb = some r → r < Z) (L : Nat → Bool) (j i : Nat) (v : Value) (w1 w2 : World) (hji : j ≠ i) (hR : RRow cb 13 rb i w1 w2) (h : F6 Z E cb B2 vr k ds L j v w1) : F6 Z E cb B2 vr k ds (upL L i) j v w2 := by
  have hT := hR.any
  match j with
  | 0 => exact h
  | 1 => exact h
  | 2 => exact h
  | 3 => obtain ⟨b, h1, h2⟩ := h; exact ⟨b, h1, h2.keep hT hcZ hrb⟩
  | 4 => exact h
  | 5 => obtain ⟨b, h1, h2⟩ := h; exact ⟨b, h1, h2.keep hT hcZ hrb⟩
  | 6 => exact h
  | 7 => exact h
  | 8 => obtain ⟨b, n, h1, h2, h3⟩ := h; exact ⟨b, n, h1, h2, h3.keep hT hcZ hrb⟩
  | 9 => exact h
  | 10 => exact h
  | 11 => obtain ⟨s, b, n, x, h1, h2, h3, h4⟩ := h; exact ⟨s, b, n, x, h1, h2, h3, h4.keep hT hcZ hrb⟩
  | 12 => obtain ⟨c, s, b, n, x, h1, h2, h3, h4, h5⟩ := h; exact ⟨c, s, b, n, x, h1, h2, h3, h4.keep hT hcZ hrb, h5.keep hT hcZ hrb⟩
  | 13 => obtain ⟨r, g, c, Fs, h1, h2, h3⟩ := h; exact ⟨r, g, c, Fs, h1, h2, h3.turn (hR.oth (fun e => hji e.symm)) hcB⟩
  | 14 => exact h
  | n + 15 => exact trivial
end Go.Proofs.YtbadepiakkhabaaDoor
/- Names: their first places in lists, what they mean, the faults of a unit. No conditions. -/
namespace Go.Proofs.YtbadepiakkhabaaDoor
set_option linter.unusedVariables false

/-- The names of the functions. -/
def funL : List ByteArray := [⟨#[119, 114, 105, 116, 101]⟩, ⟨#[105, 109, 97, 103, 101]⟩, ⟨#[116, 121, 112, 101]⟩, ⟨#[105, 110, 116, 101, 103, 101, 114]⟩, ⟨#[115, 116, 114, 105, 110, 103]⟩, ⟨#[99, 115, 101, 116]⟩, ⟨#[108, 105, 115, 116]⟩, ⟨#[116, 97, 98, 108, 101]⟩, ⟨#[115, 101, 116]⟩, ⟨#[112, 117, 116]⟩, ⟨#[112, 117, 115, 104]⟩, ⟨#[103, 101, 116]⟩, ⟨#[112, 111, 112]⟩, ⟨#[112, 117, 108, 108]⟩, ⟨#[109, 101, 109, 98, 101, 114]⟩, ⟨#[105, 110, 115, 101, 114, 116]⟩, ⟨#[100, 101, 108, 101, 116, 101]⟩, ⟨#[107, 101, 121]⟩, ⟨#[115, 111, 114, 116]⟩, ⟨#[99, 111, 112, 121]⟩, ⟨#[102, 105, 110, 100]⟩, ⟨#[117, 112, 116, 111]⟩, ⟨#[109, 97, 110, 121]⟩, ⟨#[97, 110, 121]⟩, ⟨#[109, 97, 116, 99, 104]⟩, ⟨#[116, 97, 98]⟩, ⟨#[109, 111, 118, 101]⟩, ⟨#[112, 111, 115]⟩, ⟨#[114, 101, 112, 108]⟩, ⟨#[114, 101, 118, 101, 114, 115, 101]⟩, ⟨#[108, 101, 102, 116]⟩, ⟨#[114, 105, 103, 104, 116]⟩, ⟨#[99, 101, 110, 116, 101, 114]⟩, ⟨#[116, 114, 105, 109]⟩, ⟨#[109, 97, 112]⟩, ⟨#[111, 114, 100]⟩, ⟨#[99, 104, 97, 114]⟩, ⟨#[97, 98, 115]⟩, ⟨#[115, 101, 113]⟩, ⟨#[76, 101, 110]⟩, ⟨#[80, 111, 115]⟩, ⟨#[82, 80, 111, 115]⟩, ⟨#[84, 97, 98]⟩, ⟨#[82, 84, 97, 98]⟩, ⟨#[65, 110, 121]⟩, ⟨#[78, 111, 116, 65, 110, 121]⟩, ⟨#[83, 112, 97, 110]⟩, ⟨#[66, 114, 101, 97, 107]⟩, ⟨#[65, 114, 98]⟩, ⟨#[82, 101, 109]⟩, ⟨#[65, 114, 98, 110, 111]⟩, ⟨#[70, 101, 110, 99, 101]⟩, ⟨#[65, 98, 111, 114, 116]⟩, ⟨#[69, 109, 112, 116, 121]⟩, ⟨#[70, 97, 105, 108]⟩]
theorem funL_len : funL.length = 55 := rfl
/-- Are two names equal? -/
def eqN (x s : ByteArray) : Bool := x.toList == s.toList
theorem eqN_iff {x s : ByteArray} : eqN x s = true ↔ x = s := by
  unfold eqN
  rw [beq_iff_eq, ByteArray.toList_eq, ByteArray.toList_eq]
  constructor
  · intro h
    cases x; cases s
    exact congrArg ByteArray.mk (Array.toList_inj.1 h)
  · rintro rfl; rfl
theorem eqN_self (x : ByteArray) : eqN x x = true := eqN_iff.2 rfl
theorem eqN_ne {x s : ByteArray} (h : x ≠ s) : eqN x s = false := by
  cases e : eqN x s
  · rfl
  · exact absurd (eqN_iff.1 e) h
/-- The first place of a name. -/
def fx (l : List ByteArray) (s : ByteArray) : Option Nat := l.findIdx? fun x => eqN x s
def fxI (l : List ByteArray) (s : ByteArray) : Int := match fx l s with | some k => (k : Int) | none => -1
theorem fx_nil (s : ByteArray) : fx [] s = none := rfl
theorem fx_lt {l : List ByteArray} {s : ByteArray} {k : Nat} (h : fx l s = some k) : k < l.length := by
  unfold fx at h
  obtain ⟨h1, _⟩ := List.findIdx?_eq_some_iff_getElem.1 h
  exact h1
theorem fx_none {l : List ByteArray} {s : ByteArray} : fx l s = none ↔ ∀ x ∈ l, eqN x s = false := by
  unfold fx
  rw [List.findIdx?_eq_none_iff]
theorem fx_at {l : List ByteArray} {s : ByteArray} {k : Nat} (hk : k < l.length) (h1 : eqN l[k] s = true) (h2 : ∀ x ∈ l.take k, eqN x s = false) : fx l s = some k := by
  unfold fx
  rw [List.findIdx?_eq_some_iff_getElem]
  refine ⟨hk, h1, fun j hj => ?_⟩
  have := h2 l[j] (by rw [List.mem_take_iff_getElem]; exact ⟨j, by omega, rfl⟩)
  rw [this]; decide
theorem fx_snoc (l : List ByteArray) (x s : ByteArray) : fx (l ++ [x]) s = match fx l s with | some k => some k | none => if eqN x s then some l.length else none := by
  unfold fx
  rw [List.findIdx?_append]
  cases h : List.findIdx? (fun x => eqN x s) l with
  | some k => rfl
  | none =>
    simp only [Option.none_or]
    rw [List.findIdx?_cons]
    cases eqN x s <;> simp
theorem fxI_none {l : List ByteArray} {s : ByteArray} (h : fx l s = none) : fxI l s = -1 := by unfold fxI; rw [h]
theorem fxI_some {l : List ByteArray} {s : ByteArray} {k : Nat} (h : fx l s = some k) : fxI l s = k := by unfold fxI; rw [h]
/-- What a name means outside a procedure: the sort and the number. -/
def outer (u : Un) (s : ByteArray) : Int × Int :=
  match fx (u.recs.map Rc.name) s with
  | some k => (5, k)
  | none => match fx u.globs s with
    | some k => (2, k)
    | none => match fx (u.procs.map Pc.name) s with
      | some k => (3, k)
      | none => match fx funL s with
        | some k => (4, k)
        | none => (0, 0)
/-- Is it a name that is new in a procedure? -/
def fresh (u : Un) (s : ByteArray) (acc : List ByteArray) : Bool := (outer u s).1 == 0 && (fx acc s).isNone
mutual
/-- The names that are met in a body, behind those that are there. -/
def coll (u : Un) : Ex.T → List ByteArray → List ByteArray
  | .node k t n l ks, acc => if k == 4 || k == 28 then (if fresh u t acc then acc ++ [t] else acc) else colls u ks acc
def colls (u : Un) : List Ex.T → List ByteArray → List ByteArray
  | [], acc => acc
  | x :: r, acc => colls u r (coll u x acc)
end
/-- The local names of a procedure. -/
def locs (u : Un) (p : Pc) : List ByteArray := coll u p.body (p.params ++ p.locals)
/-- What a name means in a procedure whose local names these are. -/
def means (u : Un) (L : List ByteArray) (s : ByteArray) : Int × Int := match fx L s with | some k => (1, k) | none => outer u s
mutual
/-- How many case expressions. -/
def csN : Ex.T → Nat
  | .node k t n l ks => (if k == 20 then 1 else 0) + csNs ks
def csNs : List Ex.T → Nat
  | [] => 0
  | x :: r => csN x + csNs r
end
/-- The fault of a node, whatever its kids have. -/
def flt (u : Un) (L : List ByteArray) (k : Int) (t : ByteArray) (loop made : Bool) : Int :=
  if ((k == 24 || k == 25) && !loop) || ((k == 21 || k == 22 || k == 23) && made) then 4
  else if k == 13 && !(u.recs.any fun r => (fx r.fields t).isSome) then 5
  else if k == 28 && ((fx L t).isNone && !((outer u t).1 == 2)) then 6
  else 0
/-- Is kid i of a node in a loop? -/
def kidL (k : Int) (loop : Bool) (i : Nat) : Bool := if k == 16 || k == 17 || k == 18 then i == 1 else if k == 19 then true else if k == 24 || k == 26 then false else loop
mutual
/-- The first fault of a tree: its code and its line. -/
def wlk (u : Un) (L : List ByteArray) : Ex.T → Bool → Bool → Int × Int
  | .node k t n l ks, loop, made => if flt u L k t loop made == 0 then wlks u L k ks 0 loop (made || k == 26) else (flt u L k t loop made, l)
def wlks (u : Un) (L : List ByteArray) (k : Int) : List Ex.T → Nat → Bool → Bool → Int × Int
  | [], i, loop, made => (0, 0)
  | x :: r, i, loop, made => if (wlk u L x (kidL k loop i) made).1 == 0 then wlks u L k r (i + 1) loop made else wlk u L x (kidL k loop i) made
end
/-- Does a name stand twice? -/
def twice (l : List ByteArray) : Bool := (List.range l.length).any fun i => (fx (l.take i) (l.getD i ByteArray.empty)).isSome
/-- The first fault of the declarations among themselves, by the names that are there. -/
def dupR (acc : List ByteArray) : List Rc → (Int × Int) ⊕ List ByteArray
  | [] => .inr acc
  | r :: l => if (fx acc r.name).isSome || twice r.fields then .inl (2, r.line) else dupR (acc ++ [r.name]) l
def dupG (acc : List ByteArray) : List ByteArray → (Int × Int) ⊕ List ByteArray
  | [] => .inr acc
  | s :: l => if (fx acc s).isSome then .inl (2, 0) else dupG (acc ++ [s]) l
def dupP (acc : List ByteArray) : List Pc → (Int × Int) ⊕ List ByteArray
  | [] => .inr acc
  | p :: l => if (fx acc p.name).isSome || twice (p.params ++ p.locals) then .inl (2, p.line) else dupP (acc ++ [p.name]) l
def dup (u : Un) : Int × Int :=
  match dupR funL u.recs with
  | .inl f => f
  | .inr a => match dupG a u.globs with
    | .inl f => f
    | .inr b => match dupP b u.procs with
      | .inl f => f
      | .inr _ => (0, 0)
def fltP (u : Un) (p : Pc) : Int × Int :=
  if (wlk u (locs u p) p.body false false).1 == 0 then (if 24 < (locs u p).length + csN p.body then (7, p.line) else (0, 0)) else wlk u (locs u p) p.body false false
def fltPs (u : Un) : List Pc → Int × Int
  | [] => (0, 0)
  | p :: l => if (fltP u p).1 == 0 then fltPs u l else fltP u p
def isMain (p : Pc) : Bool := eqN p.name ⟨#[109, 97, 105, 110]⟩ && p.params.length == 0
def fltU (u : Un) : Int × Int :=
  if (dup u).1 == 0 then (if (fltPs u u.procs).1 == 0 then (if u.procs.any isMain then (0, 0) else (3, 0)) else fltPs u u.procs) else dup u
end Go.Proofs.YtbadepiakkhabaaDoor
/- Appending a few bytes that are written out to bytes of the call's own: in a plain region, and at a step of one that draws its order. No conditions. -/
namespace Go.Proofs.YtbadepiakkhabaaDoor
open Go.RowKit
set_option linter.unusedVariables false

end Go.Proofs.YtbadepiakkhabaaDoor
