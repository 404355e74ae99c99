/- Joined texts: A23c2. No conditions besides those that each states. -/
import Derived.Test.YtbadepiakkhabaaDoorZ29
/- Valid core trees, in the reference model: kids (c2). No conditions. -/
namespace Go.Proofs.YtbadepiakkhabaaDoor.Cr
open Go.RowKit
set_option linter.unusedVariables false

set_option maxRecDepth 100000 in
set_option maxHeartbeats 6400000 in
theorem val_c2 (a1 a2 a3 : Option Addr) (z1 z2 z3 c1 c2 c3 : Nat) (mn sl : Int) (q1 : (z1 : Int) ≤ 1048576) (q2 : (z2 : Int) ≤ 1048576) (q3 : (z3 : Int) ≤ 1048576) (s0 : 0 ≤ sl) (s1 : sl ≤ 1048576) (p n l : Int) (s : ByteArray) (a : Option Addr) (ks : List Co.T) (c : Nat) (hz : (ks.length : Int) ≤ 1048576) (zs : (s.size : Int) ≤ 1048576) (d : Int) (d0 : 0 ≤ d) (d1 : d ≤ 1000) (q40 : d ≤ 400) (l0 : 0 ≤ l) (q4 : Co.cLo 2 p ≤ (ks.length : Int)) (q5 : (ks.length : Int) ≤ Co.cHi 2 p) (hn : Co.numOk ⟨sl, z3, z1, z2⟩ 2 n = true) (bp : (p != 0) = false) (hs : (s.size : Int) ≤ 128) (hs2 : (s.size : Int) ≤ 120) (loop : Bool) (made : Bool) (w : World) (hk : Kids w (.slice a ks.length c) ks) (hI : KidsV ⟨sl, z3, z1, z2⟩ (.agg #[.slice a1 z1 c1, .slice a2 z2 c2, .slice a3 z3 c3, .int .i64 mn]) ks (d + 1)) : Calls Tryd.prog 30 #[.agg #[.slice a1 z1 c1, .slice a2 z2 c2, .slice a3 z3 c3, .int .i64 mn], .int .i64 sl, .agg #[.int .i64 2, .int .i64 p, .int .i64 n, .int .i64 l, .string s, .slice a ks.length c], .bool loop, .bool made, .int .i64 d] w (RetV w (Co.oks ⟨sl, z3, z1, z2⟩ ks (2 : Int) loop (made || decide ((2 : Int) = 26)) (d + 1) 0)) := by
  have HK := Lib.hid hk
  have HI := Lib.hid hI
  have hw : IntKind.i64.wrap (d + 1) = d + 1 := by rw [IntKind.wrap_i64]; omega
  clear hk hI
  have HP0 := Lib.hid (Pg4.new w (.slice a1 z1 c1) (.slice a2 z2 c2) (.slice a3 z3 c3) mn 43)
  have HB0 := Lib.hid (below_then (bl1 w (.cells #[.slice a1 z1 c1, .slice a2 z2 c2, .slice a3 z3 c3, .int .i64 mn] 43)) (bl1 _ (.cells #[.int .i64 2, .int .i64 p, .int .i64 n, .int .i64 l, .string s, .slice a ks.length c] 68)))
  have HP1 := Lib.hid (HP0.out.later (bl1 _ (.cells #[.int .i64 2, .int .i64 p, .int .i64 n, .int .i64 l, .string s, .slice a ks.length c] 68)))
  have HE1 := Six.new (w.alloc (.cells #[.slice a1 z1 c1, .slice a2 z2 c2, .slice a3 z3 c3, .int .i64 mn] 43)) 2 p n l s (.slice a ks.length c) 68
  rw [World.size_alloc] at HE1
  replace HE1 := Lib.hid HE1
  have HC := Lib.hid (fun W => spec_counts 2 p n l s (.slice a ks.length c) W)
  have HL := Lib.hid (fun W => spec_leaf a1 a2 a3 z1 z2 z3 c1 c2 c3 mn sl p n l s (.slice a ks.length c) 2 q1 q2 q3 s0 s1 W)
  rw [hn] at HL
  generalize Co.cLo 2 p = lo at HC q4 q5
  generalize Co.cHi 2 p = hi at HC q5
  clear HP0
  go_enter Tryd.func30, Tryd.ntmps30
  go_wp2_with fail
  refine (HC.out _).mono ?_
  rintro e w1 ⟨rfl, b1⟩
  have B1 := Lib.hid (below_then HB0.out b1)
  have P1 := Lib.hid (HP1.out.later b1)
  have E1 := Lib.hid (HE1.out.later b1)
  clear b1 HC HB0 HP1 HE1
  obtain ⟨p0, p1, p2, p3⟩ := P1.out
  obtain ⟨e0, e1, e2, e3, e4, e5⟩ := E1.out
  go_wp2_with fail
  refine (HL.out _).mono ?_
  rintro e w2 ⟨rfl, b2⟩
  have B2 := Lib.hid (below_then B1.out b2)
  have P2 := Lib.hid (P1.out.later b2)
  have E2 := Lib.hid (E1.out.later b2)
  clear b2 HL B1 P1 E1 p0 p1 p2 p3 e0 e1 e2 e3 e4 e5
  obtain ⟨p0, p1, p2, p3⟩ := P2.out
  obtain ⟨e0, e1, e2, e3, e4, e5⟩ := E2.out
  go_wp2
  go_loopw [17, 18] (fun i il wr => ∃ j : Nat, i = .int .i64 j ∧ j ≤ ks.length ∧ OkAt ⟨sl, z3, z1, z2⟩ ks (2 : Int) loop (made || decide ((2 : Int) = 26)) (d + 1) j ∧ Six wr (w.heap.size + 1) 2 p n l s (.slice a ks.length c) ∧ Pg4 wr w.heap.size (.slice a1 z1 c1) (.slice a2 z2 c2) (.slice a3 z3 c3) mn ∧ Below w.heap.size w wr) (fun i _ _ => ks.length - (intOf i).toNat)
  case atStart => exact ⟨0, rfl, Nat.zero_le _, by unfold OkAt; rw [List.take_zero, Co.oks], E2.out, P2.out, B2.out⟩
  case round =>
    clear p0 p1 p2 p3 e0 e1 e2 e3 e4 e5 E2 P2 B2
    obtain ⟨j, rfl, hj, hat, h6, h4, hb⟩ := hrel
    have HAT := Lib.hid hat
    have HB := Lib.hid hb
    have H6 := Lib.hid h6
    have H4 := Lib.hid h4
    have HK2 := Lib.hid (HK.out.later hb)
    obtain ⟨p0, p1, p2, p3⟩ := h4
    obtain ⟨e0, e1, e2, e3, e4, e5⟩ := h6
    clear hat hb
    by_cases hlt : j < ks.length
    · obtain ⟨g, o, rfl, ht⟩ := kids_at HK2.out j hlt
      obtain ⟨⟨x0, x1, x2, x3, x4⟩, v, x5, hkv⟩ := tree_cells ht
      have HR : Hid (∀ W, Below wr.heap.size wr W → Calls Tryd.prog 30 #[.agg #[.slice a1 z1 c1, .slice a2 z2 c2, .slice a3 z3 c3, .int .i64 mn], .int .i64 sl, exV ks[j] v, .bool loop, .bool made, .int .i64 (d + 1)] W fun e w' => e = .returned (.bool (ks[j].ok ⟨sl, z3, z1, z2⟩ loop made (d + 1))) ∧ Below W.heap.size W w') := Lib.hid (fun W hW => by
        have h := HI.out ks[j] (List.getElem_mem hlt) (Co.kLoop (2 : Int) loop j) (made || decide ((2 : Int) = 26)) W v (hkv.later hW)
        rw [kLoop_x (k := (2 : Int)) rfl rfl rfl rfl, made_x (k := (2 : Int)) rfl] at h
        exact h)
      have j0 : (0 : Int) ≤ j := by omega
      have j1 : (j : Int) < ks.length := by omega
      have hw2 : IntKind.i64.wrap ((j : Int) + 1) = (j : Int) + 1 := by rw [IntKind.wrap_i64]; omega
      obtain ⟨b, hv⟩ : ∃ b, ks[j].ok ⟨sl, z3, z1, z2⟩ loop made (d + 1) = b := ⟨_, rfl⟩
      have HNF := Lib.hid (fun (h : b = false) => Co.oks_bad ⟨sl, z3, z1, z2⟩ ks (2 : Int) loop (made || decide ((2 : Int) = 26)) (d + 1) j hlt (by rw [kLoop_x (k := (2 : Int)) rfl rfl rfl rfl, made_x (k := (2 : Int)) rfl]; exact hv.trans h))
      have HNT := Lib.hid (fun (h : b = true) => HAT.out.next hlt (by rw [kLoop_x (k := (2 : Int)) rfl rfl rfl rfl, made_x (k := (2 : Int)) rfl]; exact hv.trans h))
      rw [hv] at HR
      have HR2 := Lib.hid (HR.out wr.drew ((Below.refl _ _).drew))
      clear ht hkv HAT hv HR
      generalize ks[j] = x at x0 x1 x2 x3 x4 x5 HR2
      cases loop <;> cases made <;> (
        go_wp2_with fail
        go_still_tail 16, (by kernel_rfl)
        change wpList _ _ _ _ _ wr.drew
        go_wp2_with fail
        refine HR2.out.mono ?_
        rintro e w9 ⟨rfl, b9⟩
        have B9 := Lib.hid (below_then HB.out.drew b9)
        have E9 := Lib.hid (H6.out.later (w' := w9) (below_then ((Below.refl _ _).drew) b9))
        have P9 := Lib.hid (H4.out.later (w' := w9) (below_then ((Below.refl _ _).drew) b9))
        clear b9 HR2 p0 p1 p2 p3 e0 e1 e2 e3 e4 e5 x0 x1 x2 x3 x4 x5
        cases b
        case false =>
          have HN := Lib.hid (HNF.out rfl)
          go_wp2
          go_ret
          exact ⟨ret_vb HN.out.symm, B9.out⟩
        case true =>
          have HN := Lib.hid (HNT.out rfl)
          go_wp2
          go_roundw
          case rel => exact ⟨j + 1, by go_num, by omega, HN.out, E9.out, P9.out, B9.out⟩
          case measure => first | (simp [intOf]; done) | (simp [intOf]; omega))
    · obtain rfl : j = ks.length := by omega
      have HN := Lib.hid HAT.out.over
      clear HAT
      go_wp2
      go_ret
      exact ⟨ret_vb HN.out.symm, HB.out⟩
end Go.Proofs.YtbadepiakkhabaaDoor.Cr
