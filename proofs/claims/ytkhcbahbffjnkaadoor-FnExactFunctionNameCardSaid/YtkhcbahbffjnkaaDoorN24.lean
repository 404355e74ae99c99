/- The program's walk of a tree that erases lines: every tree. No conditions. -/
import Derived.Test.YtkhcbahbffjnkaaDoorN23
namespace Go.Proofs.YtkhcbahbffjnkaaDoor
open Go.RowKit Go.Shelf
set_option linter.unusedVariables false
attribute [local go_sem] Oper.semAt_some

set_option maxRecDepth 100000 in
set_option maxHeartbeats 2000000 in
theorem erase_visit (F : Fence) (hd : F.depth = none) (hF : F.fn 79) (hro : F.round = none) (w0 : World) (L : Nat) (ob : Obj) (hob : ob.isCells = false)
    (hY : ∀ m (x : XN) (W : World), XPre w0 L x W → W.heap[L]? = some ob → YieldAt F m Tryd.prog L (xnV x) W fun e W' => e = .returned (.bool true) ∧ XRel x W W') :
    ∀ (M : Nat) (t : Ex.T), t.count ≤ M → EraT F w0 L ob t := by
  intro M
  induction M with
  | zero => intro t h; have := Ex.count_pos t; omega
  | succ M ih =>
    intro t hM n g i d cap l W p hp hpt hb hdd hrow hg hgL hW hL hkp
    subst hpt
    obtain ⟨lk, hlk⟩ := kid_ok hkp
    have hbe := bulk_eq p.1
    have hde := deep_eq p.1
    have hkl : p.1.kids.length = lk.length := by rw [hlk.1, List.length_map]
    have hlL : L < W.heap.size := (Array.getElem?_eq_some_iff.1 hL).1
    obtain ⟨fn, tmps, assign, body, hy, hR⟩ := hY (n - 1) ⟨g, i, d, cap, l, p, lk⟩ W ⟨⟨hp, hrow⟩, ⟨hg, hgL⟩, hW, hlk, ⟨by show lk.length ≤ 1048576; omega, by show p.1.text.size ≤ 1048576; omega⟩⟩ hL
    dsimp only [xnV] at hy
    unfold XRel at hR
    dsimp only at hR
    have hdk : ∀ k : Nat, (F.depth.isSome = true → 1 ≤ k) := fun k h => by rw [hd] at h; cases h
    have HI := Lib.hid (fun (x : Ex.T) (hx : x ∈ p.1.kids) => ih x (by have := kids_count hx; omega))
    have HM : Hid (∀ x ∈ p.1.kids, x.bulk ≤ 1048576 ∧ d + 1 + x.deep ≤ 2097152) := Lib.hid (fun x hx => ⟨by have := Ex.bulks_mem hx; omega, by have := deeps_mem hx; omega⟩)
    have hln : lk.length ≤ 1048576 := by omega
    have HP := Lib.hid hp
    have HGW := Lib.hid hrow.lt
    have HGL := Lib.hid hgL
    have HG := Lib.hid hg
    have HW := Lib.hid hW
    have HLL := Lib.hid hlL
    have HL := Lib.hid hL
    have HK := Lib.hid hlk
    clear ih hY hM hbe hde hb hp hg hgL hW hlL hL hlk hrow hkp hkl
    refine callsIn_of_wp Tryd.func79 rfl hF ?_ hro
    simp only [Tryd.ntmps79, List.size_toArray, List.length_cons, List.length_nil, Nat.reduceAdd, Nat.reduceSub, Array.replicate_succ, Array.replicate_zero, List.push_toArray, List.append_toArray, List.nil_append, List.cons_append]
    gi_wp2
    refine hR.mono ?_
    clear hR hy
    rintro e W1 ⟨rfl, v, hr1, ho1, hs1⟩
    have hr1l : RowE W1 g (l.set i (p.1.erase, v, [])).length cap (rowV (l.set i (p.1.erase, v, []))) := by rw [List.length_set]; exact hr1
    have hi := (List.getElem?_eq_some_iff.1 HP.out).1
    have c4 := row_node hr1l (p := (p.1.erase, v, [])) (List.getElem?_set_self hi)
    have HR1 := Lib.hid hr1
    have HO1 := Lib.hid ho1
    clear hr1 ho1 hr1l
    rcases hs1 with ⟨rfl, a, c, rfl⟩ | ⟨h0, g2, c, rfl, hg2, hr2⟩
    · have HE : Hid (EraseAt g i cap l p.1 W W1) := Lib.hid ⟨_, [], HR1.out, HO1.out, by rw [HK.out.1, List.map_nil, Ex.erases, OwnK]; exact ⟨rfl, _, _, rfl⟩, (fun b hb => by cases hb)⟩
      clear HR1 HO1
      gi_wp2
      gi_loopw [7, 18] (fun _ i wr => i = .int .i64 0 ∧ W1 = wr) (fun _ _ _ => 0)
      case atStart => exact ⟨rfl, rfl⟩
      case round =>
        obtain ⟨rfl, rfl⟩ := hrel
        gi_wp2
        go_ret
        exact ⟨rfl, HE.out⟩
    · have hg2l := hr2.lt
      have HG2 := Lib.hid hg2
      have hgw := HGW.out
      have hll := HLL.out
      have hgg : g ≠ g2 := by omega
      have hLg : g2 ≠ L := by omega
      have HGG := Lib.hid hgg
      have c4a : W1.cell? ⟨g, i * 5 + 4, none⟩ = some (.slice (some ⟨g2, 0, none⟩) lk.length c) := c4
      have hg1 : g < W1.heap.size := by have := HO1.out.size; omega
      have HC4 := Lib.hid (fun wr (hh : Oth g2 W1 wr) => (cell_keep (hh.2 g hgg hg1) (i * 5 + 4)).trans c4a)
      have HST := Lib.hid (ErasL.start hr2)
      have hL1 : W1.heap[L]? = some ob := (HO1.out.2 L (fun e => HGL.out e.symm) hll).trans HL.out
      have hll1 : L < W1.heap.size := (Array.getElem?_eq_some_iff.1 hL1).1
      have HL1 := Lib.hid (fun wr (hh : Oth g2 W1 wr) => (hh.2 L (fun e => hLg e.symm) hll1).trans hL1)
      have hW1 : Below w0.heap.size w0 W1 := HW.out.trans (HO1.out.below HG.out HW.out.size)
      have HW1 := Lib.hid (fun wr (hh : Oth g2 W1 wr) => hW1.trans (hh.below (by have := HW.out.size; omega) hW1.size))
      have hw0g : w0.heap.size ≤ g2 := by have := HW.out.size; omega
      clear c4 hr2 hgw hll hgg hg1 hL1 hll1 hW1
      gi_wp2
      gi_loopw [7, 18] (fun _ i wr => ∃ k : Nat, i = .int .i64 k ∧ k ≤ lk.length ∧ ErasL lk g2 c W1 k wr) (fun _ i _ => lk.length - (intOf i).toNat)
      case atStart => exact ⟨0, rfl, Nat.zero_le _, HST.out⟩
      case round =>
        clear HST c4a
        obtain ⟨k, rfl, hk, ld, hat⟩ := hrel
        have HAT := Lib.hid hat
        have ho : Oth g2 W1 wr := hat.2.2.2.2.2
        have c4 := HC4.out wr ho
        by_cases hlt : k < lk.length
        · have hm := HM.out lk[k].1 (by rw [HK.out.1]; exact List.mem_map.2 ⟨lk[k], List.getElem_mem hlt, rfl⟩)
          have HR := Lib.hid (HI.out lk[k].1 (by rw [HK.out.1]; exact List.mem_map.2 ⟨lk[k], List.getElem_mem hlt, rfl⟩) (n - 1) g2 k (d + 1) c (ld ++ lk.drop k) wr lk[k] (hat.at hlt) rfl hm.1 (by have := hm.2; omega) (hat.row (by omega)) hw0g hLg (HW1.out _ ho) (HL1.out _ ho) (HK.out.2.2.2 lk[k] (List.getElem_mem hlt)).2)
          rw [show ((d + 1 : Nat) : Int) = (d : Int) + 1 by omega] at HR
          have e1 : IntKind.i64.wrap ((d : Int) + 1) = (d : Int) + 1 := IntWalk.i64_in _ (by have := hm.2; omega)
          have k0 : (0 : Int) ≤ k := by omega
          have k1 : (k : Int) < lk.length := by omega
          have HNX := Lib.hid (fun W2 he => HAT.out.next (W2 := W2) hg2l hlt he)
          clear hm hat ho
          gi_wp2
          refine HR.out.mono ?_
          clear HR
          rintro e W2 ⟨rfl, he⟩
          have HE := Lib.hid (HNX.out W2 he)
          clear he
          gi_wp2
          go_roundw
          case rel => exact ⟨k + 1, by go_num, by omega, HE.out⟩
          case measure => first | (simp [intOf]; done) | (simp [intOf]; omega)
        · obtain rfl : k = lk.length := by omega
          have HD := Lib.hid (ErasL.done ⟨ld, HAT.out⟩ hg2l)
          clear hat ho
          gi_wp2
          go_ret
          refine ⟨rfl, ?_⟩
          obtain ⟨G, d1, d2, d3⟩ := HD.out
          rw [← HK.out.1] at d1
          refine ⟨_, G, ?_, HO1.out.new d2 HG2.out, d1, fun b hb => ?_⟩
          · rw [rowV_foot hi _ _ G []]
            exact HR1.out.keep (d2.2 g HGG.out HR1.out.lt)
          · have h1 := d3 b hb
            have h2 := HO1.out.size
            have h3 := HG2.out
            refine ⟨?_, h1.2⟩
            rcases h1.1 with h | h <;> omega
end Go.Proofs.YtkhcbahbffjnkaaDoor
