/- Joined texts: V35c. No conditions besides those that each states. -/
import Derived.Test.YtbadepiakkhabaaDoorZ28
/- The reference model's faults of a body: kinds of nodes. No conditions. -/
namespace Go.Proofs.YtbadepiakkhabaaDoor
open Go.RowKit
set_option linter.unusedVariables false

set_option maxRecDepth 100000 in
set_option maxHeartbeats 12800000 in
theorem walk_24 (u : Un) (hb : u.bulk ≤ 1048576) (w0 : World) (v1 v2 v3 vl : Value) (L : List ByteArray) (hu : UnIs w0 u v1 v2 v3) (hvl : Is w0 (strsD L) vl) (hL : (L.length : Int) ≤ 1048576) (t : Ex.T) (hI : ∀ x ∈ t.kids, WlkT u w0 v1 v2 v3 vl L x) (hln : t.kids.length ≤ 1048576) (hkind : 24 ≤ t.kind ∧ t.kind ≤ 24) : WlkT u w0 v1 v2 v3 vl L t := by
  intro loop made w x hx hbl
  unfold RetII
  have HI := Lib.hid hI
  unfold WlkT RetII at HI
  have HO := Lib.hid (fun W (hW : Below w0.heap.size w0 W) => spec_outer u hb t.text W v1 v2 v3 ⟨hu.1.later hW, hu.2.1.later hW, hu.2.2.later hW⟩)
  unfold RetII at HO
  have HFL := Lib.hid (fun W (hW : Below w0.heap.size w0 W) => spec_find vl L t.text W (hvl.later hW) hL)
  have HUR := Lib.hid (fun W (hW : Below w0.heap.size w0 W) => hu.1.later hW)
  have HRB : Hid (∀ r ∈ u.recs, (r.fields.length : Int) ≤ 1048576) := Lib.hid (fun r hr => by
    have h1 := wsum_mem Rc.bulk hr
    have h2 : r.bulk = r.name.size + strsB r.fields := rfl
    unfold strsB at h2
    unfold Un.bulk recsB at hb
    omega)
  obtain ⟨l1, _, _⟩ := un_lens hb
  obtain ⟨h1, h2, h3⟩ := hu
  obtain ⟨a1, c1, rfl⟩ := is_slice h1
  obtain ⟨a2, c2, rfl⟩ := is_slice h2
  obtain ⟨a3, c3, rfl⟩ := is_slice h3
  obtain ⟨al, cl, rfl⟩ := is_slice hvl
  have HKX := Lib.hid hx
  obtain ⟨a4, c4, rfl⟩ := kids_len hx
  have hz := hbl.size
  have hq1 := bl1 w (.cells #[.slice a1 u.recs.length c1, .slice a2 u.globs.length c2, .slice a3 u.procs.length c3] 51)
  have HQ1 := Var.new w #[.slice a1 u.recs.length c1, .slice a2 u.globs.length c2, .slice a3 u.procs.length c3] 51
  obtain ⟨w1, hw1⟩ : ∃ W, w.alloc (.cells #[.slice a1 u.recs.length c1, .slice a2 u.globs.length c2, .slice a3 u.procs.length c3] 51) = W := ⟨_, rfl⟩
  have hz1 : w1.heap.size = w.heap.size + 1 := by rw [← hw1, World.size_alloc]
  rw [hw1] at hq1 HQ1
  have hq2 := bl1 w1 (.cells #[.int .i64 t.kind, .string t.text, .int .i64 t.num, .int .i64 t.line, .slice a4 t.kids.length c4] 105)
  have HQ2 := Var.new w1 #[.int .i64 t.kind, .string t.text, .int .i64 t.num, .int .i64 t.line, .slice a4 t.kids.length c4] 105
  obtain ⟨w2, hw2⟩ : ∃ W, w1.alloc (.cells #[.int .i64 t.kind, .string t.text, .int .i64 t.num, .int .i64 t.line, .slice a4 t.kids.length c4] 105) = W := ⟨_, rfl⟩
  rw [hw2] at hq2 HQ2
  rw [hz1] at HQ2
  have hq := below_then hq1 hq2
  have HW2 := Lib.hid (show (w.alloc (.cells #[.slice a1 u.recs.length c1, .slice a2 u.globs.length c2, .slice a3 u.procs.length c3] 51)).alloc (.cells #[.int .i64 t.kind, .string t.text, .int .i64 t.num, .int .i64 t.line, .slice a4 t.kids.length c4] 105) = w2 by rw [hw1, hw2])
  have HV1 := Lib.hid (HQ1.later hq2)
  have HV2 := Lib.hid HQ2
  have HB := Lib.hid hq
  have HBW := Lib.hid (hbl.trans (hq.mono hz))
  have HZ := Lib.hid hz
  clear hI hx hbl hz hz1 hq hq1 hq2 HQ1 HQ2 hw1 hw2 h1 h2 h3 hvl
  have hlo : (24 : Int) ≤ t.kind := by omega
  have hhi : t.kind ≤ 24 := by omega
  have t24 : (t.kind == 24) = true := kind_b (by omega)
  have t25 : (t.kind == 25) = false := kind_nb (by omega)
  have t13 : (t.kind == 13) = false := kind_nb (by omega)
  have t28 : (t.kind == 28) = false := kind_nb (by omega)
  have t26 : (t.kind == 26) = false := kind_nb (by omega)
  have t19 : (t.kind == 19) = false := kind_nb (by omega)
  have n24 : (t.kind != 24) = false := by simp; omega
  have n26 : (t.kind != 26) = true := by simp; omega
  by_cases hvv : loop = false
  · have tv := hvv
    have HX := Lib.hid (wlk_stop (u := u) (L := L) (t := t) (loop := loop) (made := made) (n := 4) (by rw [hvv]; exact flt_loop (by omega)) (by decide))
    clear hkind
    go_enter Tryd.func50, Tryd.ntmps50
    go_wp2_with fail
    rw [HW2.out]
    have y0 := (HV2.out 0 _ rfl).1
    have y3 := (HV2.out 3 _ rfl).1
    go_wp2
    go_quiet (fail)
    go_wp2
    go_ret2
    exact ⟨ret_ii2 HX.out, below_drewN HB.out _⟩

  · have tv : loop = true := by simpa using hvv
    have HGO := Lib.hid (wlk_go (u := u) (L := L) (t := t) (loop := loop) (made := made) (flt_zero (fun _ => tv) (fun h => absurd h (by omega)) (fun h => absurd h (by omega)) (fun h => absurd h (by omega))))
    clear hkind
    go_enter Tryd.func50, Tryd.ntmps50
    go_wp2_with fail
    rw [HW2.out]
    have y0 := (HV2.out 0 _ rfl).1
    go_wp2
    have HS0 : Hid (WkAt u L t loop made 0) := Lib.hid (by unfold WkAt; rw [HGO.out]; rfl)
    clear HGO
    go_loopw [16, 17, 18, 19] (fun i _ _ _ wr => ∃ k : Nat, i = .int .i64 k ∧ k ≤ t.kids.length ∧ WkAt u L t loop made k ∧ Below w.heap.size w wr ∧ Below w0.heap.size w0 wr ∧ Var wr w.heap.size [.slice a1 u.recs.length c1, .slice a2 u.globs.length c2, .slice a3 u.procs.length c3] ∧ Var wr (w.heap.size + 1) [.int .i64 t.kind, .string t.text, .int .i64 t.num, .int .i64 t.line, .slice a4 t.kids.length c4]) (fun i _ _ _ _ => t.kids.length - (intOf i).toNat)
    case atStart => exact ⟨0, rfl, Nat.zero_le _, HS0.out, HB.out, HBW.out, HV1.out, HV2.out⟩
    case round =>
      clear HS0
      obtain ⟨k, rfl, hk, hwk, hbb, hbw, hv1, hv2⟩ := hrel
      have HWK := Lib.hid hwk
      have HB5 := Lib.hid hbb
      have HW5 := Lib.hid hbw
      have HV15 := Lib.hid hv1
      have HV25 := Lib.hid hv2
      have x0 := (hv1 0 _ rfl).1
      have x1 := (hv1 1 _ rfl).1
      have x2 := (hv1 2 _ rfl).1
      have y0 := (hv2 0 _ rfl).1
      have y4 := (hv2 4 _ rfl).1
      by_cases hlt : k < t.kids.length
      · obtain ⟨gk, ok, rfl, ht⟩ := kids_at (HKX.out.later hbw) k hlt
        obtain ⟨⟨q0, q1, q2, q3⟩, vx, q4, hkv⟩ := tree_cells ht
        have hx0 : Kids w0 vx t.kids[k].kids := by
          obtain ⟨g9, o9, e9, ht9⟩ := kids_at HKX.out k hlt
          obtain rfl : g9 = gk := by injection e9 with e9; injection e9 with e9 _ _; exact e9.symm
          obtain rfl : o9 = ok := by injection e9 with e9; injection e9 with _ e9 _; exact e9.symm
          obtain ⟨_, vy, q9, hky⟩ := tree_cells ht9
          obtain rfl : vy = vx := Option.some.inj ((subw_below hbw _ _ _ q9).symm.trans q4)
          exact hky
        have HC := Lib.hid (fun W (hW : Below wr.heap.size wr W) => HI.out t.kids[k] (List.getElem_mem hlt) (kidL t.kind loop k) (made || t.kind == 26) W vx hx0 (hbw.trans (hW.mono hbw.size)))
        have HNX := Lib.hid (fun hz => HWK.out.next hlt hz)
        have HNO := Lib.hid (fun hz => HWK.out.no hlt hz)
        obtain ⟨p, hp⟩ : ∃ p, wlk u L t.kids[k] (kidL t.kind loop k) (made || t.kind == 26) = p := ⟨_, rfl⟩
        rw [hp] at HC HNX HNO
        rw [show (made || t.kind == 26) = made from by rw [t26]; simp] at HC
        obtain ⟨a8, c8, rfl⟩ := kids_len hkv
        have HS := Lib.hid (fun W (hW : Below wr.heap.size wr W) => (⟨⟨((hv1.later hW) 0 _ rfl).1, ((hv1.later hW) 1 _ rfl).1, ((hv1.later hW) 2 _ rfl).1, ((hv2.later hW) 0 _ rfl).1, ((hv2.later hW) 4 _ rfl).1, subw_below hW _ _ _ q0, subw_below hW _ _ _ q1, subw_below hW _ _ _ q2, subw_below hW _ _ _ q3, subw_below hW _ _ _ q4⟩, hW⟩ : (W.cell? ⟨w.heap.size, 0, none⟩ = some (.slice a1 u.recs.length c1) ∧ W.cell? ⟨w.heap.size, 1, none⟩ = some (.slice a2 u.globs.length c2) ∧ W.cell? ⟨w.heap.size, 2, none⟩ = some (.slice a3 u.procs.length c3) ∧ W.cell? ⟨w.heap.size + 1, 0, none⟩ = some (.int .i64 t.kind) ∧ W.cell? ⟨w.heap.size + 1, 4, none⟩ = some (.slice (some ⟨gk, ok, none⟩) t.kids.length c4) ∧ W.cell? ⟨gk, ok + k * 5, none⟩ = some (.int .i64 t.kids[k].kind) ∧ W.cell? ⟨gk, ok + k * 5 + 1, none⟩ = some (.string t.kids[k].text) ∧ W.cell? ⟨gk, ok + k * 5 + 2, none⟩ = some (.int .i64 t.kids[k].num) ∧ W.cell? ⟨gk, ok + k * 5 + 3, none⟩ = some (.int .i64 t.kids[k].line) ∧ W.cell? ⟨gk, ok + k * 5 + 4, none⟩ = some (.slice a8 t.kids[k].kids.length c8)) ∧ Below wr.heap.size wr W))
        have k0 : (0 : Int) ≤ k := by omega
        have k1 : (k : Int) < t.kids.length := by omega
        clear hwk hbb hbw hv1 hv2 ht hkv hx0 hp
        generalize t.kids[k] = y at q0 q1 q2 q3 q4 HC HS
        have HLT := Lib.hid hlt
        clear hlt
        rw [kidL_off (by omega)] at HC
        cases loop
        all_goals (try (exact absurd tv (by decide)))
        all_goals (have HMK : IsT made := Eq.refl made; cases made)
        all_goals (try (exact absurd tv (by decide)))
        all_goals
          go_wp2_with fail
          first | (have _hf : IsT false := HMK) | (have _hm : IsT true := HMK; have eK : opK = { dst := some 140, op := Op.load 3 (.tmp 139), type := 3, pos := "l09_scopes.go:117", after := #[{ on := 10, ground := .data }, { on := 9, ground := .guard }], guard := some (9, false) } := rfl; have eJ : opJ = { dst := some 139, op := Op.fieldAddr 105 (.tmp 7) 0, type := 0, pos := "l09_scopes.go:117", after := #[{ on := 9, ground := .guard }], guard := some (9, false) } := rfl; have eL : opL = { dst := some 141, op := Op.binOp BinOp.eql 3 (.tmp 140) (.const (.int .i64 26)) 3, type := 4, pos := "l09_scopes.go:117", after := #[{ on := 11, ground := .data }, { on := 9, ground := .guard }], guard := some (9, false) } := rfl; rw [← eK, ← eJ, ← eL])
          first
            | (go_region_held3 (fun W => (W.cell? ⟨w.heap.size, 0, none⟩ = some (.slice a1 u.recs.length c1) ∧ W.cell? ⟨w.heap.size, 1, none⟩ = some (.slice a2 u.globs.length c2) ∧ W.cell? ⟨w.heap.size, 2, none⟩ = some (.slice a3 u.procs.length c3) ∧ W.cell? ⟨w.heap.size + 1, 0, none⟩ = some (.int .i64 t.kind) ∧ W.cell? ⟨w.heap.size + 1, 4, none⟩ = some (.slice (some ⟨gk, ok, none⟩) t.kids.length c4) ∧ W.cell? ⟨gk, ok + k * 5, none⟩ = some (.int .i64 y.kind) ∧ W.cell? ⟨gk, ok + k * 5 + 1, none⟩ = some (.string y.text) ∧ W.cell? ⟨gk, ok + k * 5 + 2, none⟩ = some (.int .i64 y.num) ∧ W.cell? ⟨gk, ok + k * 5 + 3, none⟩ = some (.int .i64 y.line) ∧ W.cell? ⟨gk, ok + k * 5 + 4, none⟩ = some (.slice a8 y.kids.length c8)) ∧ Below wr.heap.size wr W)
              (first | (with_reducible assumption) | (with_reducible exact HS.out _ (Below.refl _ _).drew) | (with_reducible exact HS.out _ b8))
              (first | (go_at_call 50; (with_reducible refine (HC.out _ (Below.refl _ _).drew).mono ?_); rintro e w7 ⟨rfl, b7⟩; have b8 := below_then ((Below.refl wr.heap.size wr).drew) b7)))
            | fail "held"
          all_goals
            have HB7 := Lib.hid (below_then HB5.out b8)
            have HW7 := Lib.hid (HW5.out.trans (b8.mono HW5.out.size))
            have HV17 := Lib.hid (HV15.out.later b8)
            have HV27 := Lib.hid (HV25.out.later b8)
            clear b7 b8 HB5 HW5 HV15 HV25 HC HS x0 x1 x2 y0 y4 q0 q1 q2 q3 q4
            by_cases hz : p.1 = 0
            · have tz : (p.1 != 0) = false := by simp [hz]
              have HN := Lib.hid (HNX.out hz)
              clear hz HNX HNO
              go_wp2
              go_roundw
              case rel => exact ⟨k + 1, by go_num, by have := HLT.out; omega, HN.out, HB7.out, HW7.out, HV17.out, HV27.out⟩
              case measure => have := HLT.out; first | (simp [intOf]; done) | (simp [intOf]; omega)
            · have tz : (p.1 != 0) = true := by simp [hz]
              have HN := Lib.hid (HNO.out hz)
              clear hz HNX HNO
              go_wp2
              go_ret2
              exact ⟨ret_ii2 HN.out, HB7.out⟩

      · obtain rfl : k = t.kids.length := by omega
        have HX := Lib.hid hwk.over
        clear hwk hbw hv1 hv2
        go_wp2
        go_ret2
        exact ⟨ret_ii HX.out, hbb⟩

set_option maxRecDepth 100000 in
set_option maxHeartbeats 12800000 in
theorem walk_25 (u : Un) (hb : u.bulk ≤ 1048576) (w0 : World) (v1 v2 v3 vl : Value) (L : List ByteArray) (hu : UnIs w0 u v1 v2 v3) (hvl : Is w0 (strsD L) vl) (hL : (L.length : Int) ≤ 1048576) (t : Ex.T) (hI : ∀ x ∈ t.kids, WlkT u w0 v1 v2 v3 vl L x) (hln : t.kids.length ≤ 1048576) (hkind : 25 ≤ t.kind ∧ t.kind ≤ 25) : WlkT u w0 v1 v2 v3 vl L t := by
  intro loop made w x hx hbl
  unfold RetII
  have HI := Lib.hid hI
  unfold WlkT RetII at HI
  have HO := Lib.hid (fun W (hW : Below w0.heap.size w0 W) => spec_outer u hb t.text W v1 v2 v3 ⟨hu.1.later hW, hu.2.1.later hW, hu.2.2.later hW⟩)
  unfold RetII at HO
  have HFL := Lib.hid (fun W (hW : Below w0.heap.size w0 W) => spec_find vl L t.text W (hvl.later hW) hL)
  have HUR := Lib.hid (fun W (hW : Below w0.heap.size w0 W) => hu.1.later hW)
  have HRB : Hid (∀ r ∈ u.recs, (r.fields.length : Int) ≤ 1048576) := Lib.hid (fun r hr => by
    have h1 := wsum_mem Rc.bulk hr
    have h2 : r.bulk = r.name.size + strsB r.fields := rfl
    unfold strsB at h2
    unfold Un.bulk recsB at hb
    omega)
  obtain ⟨l1, _, _⟩ := un_lens hb
  obtain ⟨h1, h2, h3⟩ := hu
  obtain ⟨a1, c1, rfl⟩ := is_slice h1
  obtain ⟨a2, c2, rfl⟩ := is_slice h2
  obtain ⟨a3, c3, rfl⟩ := is_slice h3
  obtain ⟨al, cl, rfl⟩ := is_slice hvl
  have HKX := Lib.hid hx
  obtain ⟨a4, c4, rfl⟩ := kids_len hx
  have hz := hbl.size
  have hq1 := bl1 w (.cells #[.slice a1 u.recs.length c1, .slice a2 u.globs.length c2, .slice a3 u.procs.length c3] 51)
  have HQ1 := Var.new w #[.slice a1 u.recs.length c1, .slice a2 u.globs.length c2, .slice a3 u.procs.length c3] 51
  obtain ⟨w1, hw1⟩ : ∃ W, w.alloc (.cells #[.slice a1 u.recs.length c1, .slice a2 u.globs.length c2, .slice a3 u.procs.length c3] 51) = W := ⟨_, rfl⟩
  have hz1 : w1.heap.size = w.heap.size + 1 := by rw [← hw1, World.size_alloc]
  rw [hw1] at hq1 HQ1
  have hq2 := bl1 w1 (.cells #[.int .i64 t.kind, .string t.text, .int .i64 t.num, .int .i64 t.line, .slice a4 t.kids.length c4] 105)
  have HQ2 := Var.new w1 #[.int .i64 t.kind, .string t.text, .int .i64 t.num, .int .i64 t.line, .slice a4 t.kids.length c4] 105
  obtain ⟨w2, hw2⟩ : ∃ W, w1.alloc (.cells #[.int .i64 t.kind, .string t.text, .int .i64 t.num, .int .i64 t.line, .slice a4 t.kids.length c4] 105) = W := ⟨_, rfl⟩
  rw [hw2] at hq2 HQ2
  rw [hz1] at HQ2
  have hq := below_then hq1 hq2
  have HW2 := Lib.hid (show (w.alloc (.cells #[.slice a1 u.recs.length c1, .slice a2 u.globs.length c2, .slice a3 u.procs.length c3] 51)).alloc (.cells #[.int .i64 t.kind, .string t.text, .int .i64 t.num, .int .i64 t.line, .slice a4 t.kids.length c4] 105) = w2 by rw [hw1, hw2])
  have HV1 := Lib.hid (HQ1.later hq2)
  have HV2 := Lib.hid HQ2
  have HB := Lib.hid hq
  have HBW := Lib.hid (hbl.trans (hq.mono hz))
  have HZ := Lib.hid hz
  clear hI hx hbl hz hz1 hq hq1 hq2 HQ1 HQ2 hw1 hw2 h1 h2 h3 hvl
  have hlo : (25 : Int) ≤ t.kind := by omega
  have hhi : t.kind ≤ 25 := by omega
  have t24 : (t.kind == 24) = false := kind_nb (by omega)
  have t25 : (t.kind == 25) = true := kind_b (by omega)
  have t13 : (t.kind == 13) = false := kind_nb (by omega)
  have t28 : (t.kind == 28) = false := kind_nb (by omega)
  have t26 : (t.kind == 26) = false := kind_nb (by omega)
  have t19 : (t.kind == 19) = false := kind_nb (by omega)
  have n24 : (t.kind != 24) = true := by simp; omega
  have n26 : (t.kind != 26) = true := by simp; omega
  by_cases hvv : loop = false
  · have tv := hvv
    have HX := Lib.hid (wlk_stop (u := u) (L := L) (t := t) (loop := loop) (made := made) (n := 4) (by rw [hvv]; exact flt_loop (by omega)) (by decide))
    clear hkind
    go_enter Tryd.func50, Tryd.ntmps50
    go_wp2_with fail
    rw [HW2.out]
    have y0 := (HV2.out 0 _ rfl).1
    have y3 := (HV2.out 3 _ rfl).1
    go_wp2
    go_quiet (fail)
    go_wp2
    go_ret2
    exact ⟨ret_ii2 HX.out, below_drewN HB.out _⟩

  · have tv : loop = true := by simpa using hvv
    have HGO := Lib.hid (wlk_go (u := u) (L := L) (t := t) (loop := loop) (made := made) (flt_zero (fun _ => tv) (fun h => absurd h (by omega)) (fun h => absurd h (by omega)) (fun h => absurd h (by omega))))
    clear hkind
    go_enter Tryd.func50, Tryd.ntmps50
    go_wp2_with fail
    rw [HW2.out]
    have y0 := (HV2.out 0 _ rfl).1
    go_wp2
    have HS0 : Hid (WkAt u L t loop made 0) := Lib.hid (by unfold WkAt; rw [HGO.out]; rfl)
    clear HGO
    go_loopw [16, 17, 18, 19] (fun i _ _ _ wr => ∃ k : Nat, i = .int .i64 k ∧ k ≤ t.kids.length ∧ WkAt u L t loop made k ∧ Below w.heap.size w wr ∧ Below w0.heap.size w0 wr ∧ Var wr w.heap.size [.slice a1 u.recs.length c1, .slice a2 u.globs.length c2, .slice a3 u.procs.length c3] ∧ Var wr (w.heap.size + 1) [.int .i64 t.kind, .string t.text, .int .i64 t.num, .int .i64 t.line, .slice a4 t.kids.length c4]) (fun i _ _ _ _ => t.kids.length - (intOf i).toNat)
    case atStart => exact ⟨0, rfl, Nat.zero_le _, HS0.out, HB.out, HBW.out, HV1.out, HV2.out⟩
    case round =>
      clear HS0
      obtain ⟨k, rfl, hk, hwk, hbb, hbw, hv1, hv2⟩ := hrel
      have HWK := Lib.hid hwk
      have HB5 := Lib.hid hbb
      have HW5 := Lib.hid hbw
      have HV15 := Lib.hid hv1
      have HV25 := Lib.hid hv2
      have x0 := (hv1 0 _ rfl).1
      have x1 := (hv1 1 _ rfl).1
      have x2 := (hv1 2 _ rfl).1
      have y0 := (hv2 0 _ rfl).1
      have y4 := (hv2 4 _ rfl).1
      by_cases hlt : k < t.kids.length
      · obtain ⟨gk, ok, rfl, ht⟩ := kids_at (HKX.out.later hbw) k hlt
        obtain ⟨⟨q0, q1, q2, q3⟩, vx, q4, hkv⟩ := tree_cells ht
        have hx0 : Kids w0 vx t.kids[k].kids := by
          obtain ⟨g9, o9, e9, ht9⟩ := kids_at HKX.out k hlt
          obtain rfl : g9 = gk := by injection e9 with e9; injection e9 with e9 _ _; exact e9.symm
          obtain rfl : o9 = ok := by injection e9 with e9; injection e9 with _ e9 _; exact e9.symm
          obtain ⟨_, vy, q9, hky⟩ := tree_cells ht9
          obtain rfl : vy = vx := Option.some.inj ((subw_below hbw _ _ _ q9).symm.trans q4)
          exact hky
        have HC := Lib.hid (fun W (hW : Below wr.heap.size wr W) => HI.out t.kids[k] (List.getElem_mem hlt) (kidL t.kind loop k) (made || t.kind == 26) W vx hx0 (hbw.trans (hW.mono hbw.size)))
        have HNX := Lib.hid (fun hz => HWK.out.next hlt hz)
        have HNO := Lib.hid (fun hz => HWK.out.no hlt hz)
        obtain ⟨p, hp⟩ : ∃ p, wlk u L t.kids[k] (kidL t.kind loop k) (made || t.kind == 26) = p := ⟨_, rfl⟩
        rw [hp] at HC HNX HNO
        rw [show (made || t.kind == 26) = made from by rw [t26]; simp] at HC
        obtain ⟨a8, c8, rfl⟩ := kids_len hkv
        have HS := Lib.hid (fun W (hW : Below wr.heap.size wr W) => (⟨⟨((hv1.later hW) 0 _ rfl).1, ((hv1.later hW) 1 _ rfl).1, ((hv1.later hW) 2 _ rfl).1, ((hv2.later hW) 0 _ rfl).1, ((hv2.later hW) 4 _ rfl).1, subw_below hW _ _ _ q0, subw_below hW _ _ _ q1, subw_below hW _ _ _ q2, subw_below hW _ _ _ q3, subw_below hW _ _ _ q4⟩, hW⟩ : (W.cell? ⟨w.heap.size, 0, none⟩ = some (.slice a1 u.recs.length c1) ∧ W.cell? ⟨w.heap.size, 1, none⟩ = some (.slice a2 u.globs.length c2) ∧ W.cell? ⟨w.heap.size, 2, none⟩ = some (.slice a3 u.procs.length c3) ∧ W.cell? ⟨w.heap.size + 1, 0, none⟩ = some (.int .i64 t.kind) ∧ W.cell? ⟨w.heap.size + 1, 4, none⟩ = some (.slice (some ⟨gk, ok, none⟩) t.kids.length c4) ∧ W.cell? ⟨gk, ok + k * 5, none⟩ = some (.int .i64 t.kids[k].kind) ∧ W.cell? ⟨gk, ok + k * 5 + 1, none⟩ = some (.string t.kids[k].text) ∧ W.cell? ⟨gk, ok + k * 5 + 2, none⟩ = some (.int .i64 t.kids[k].num) ∧ W.cell? ⟨gk, ok + k * 5 + 3, none⟩ = some (.int .i64 t.kids[k].line) ∧ W.cell? ⟨gk, ok + k * 5 + 4, none⟩ = some (.slice a8 t.kids[k].kids.length c8)) ∧ Below wr.heap.size wr W))
        have k0 : (0 : Int) ≤ k := by omega
        have k1 : (k : Int) < t.kids.length := by omega
        clear hwk hbb hbw hv1 hv2 ht hkv hx0 hp
        generalize t.kids[k] = y at q0 q1 q2 q3 q4 HC HS
        have HLT := Lib.hid hlt
        clear hlt
        rw [kidL_same (by omega) (by omega) (by omega)] at HC
        cases loop
        all_goals (try (exact absurd tv (by decide)))
        all_goals (have HMK : IsT made := Eq.refl made; cases made)
        all_goals (try (exact absurd tv (by decide)))
        all_goals
          go_wp2_with fail
          first | (have _hf : IsT false := HMK) | (have _hm : IsT true := HMK; have eK : opK = { dst := some 140, op := Op.load 3 (.tmp 139), type := 3, pos := "l09_scopes.go:117", after := #[{ on := 10, ground := .data }, { on := 9, ground := .guard }], guard := some (9, false) } := rfl; have eJ : opJ = { dst := some 139, op := Op.fieldAddr 105 (.tmp 7) 0, type := 0, pos := "l09_scopes.go:117", after := #[{ on := 9, ground := .guard }], guard := some (9, false) } := rfl; have eL : opL = { dst := some 141, op := Op.binOp BinOp.eql 3 (.tmp 140) (.const (.int .i64 26)) 3, type := 4, pos := "l09_scopes.go:117", after := #[{ on := 11, ground := .data }, { on := 9, ground := .guard }], guard := some (9, false) } := rfl; rw [← eK, ← eJ, ← eL])
          first
            | (go_region_held3 (fun W => (W.cell? ⟨w.heap.size, 0, none⟩ = some (.slice a1 u.recs.length c1) ∧ W.cell? ⟨w.heap.size, 1, none⟩ = some (.slice a2 u.globs.length c2) ∧ W.cell? ⟨w.heap.size, 2, none⟩ = some (.slice a3 u.procs.length c3) ∧ W.cell? ⟨w.heap.size + 1, 0, none⟩ = some (.int .i64 t.kind) ∧ W.cell? ⟨w.heap.size + 1, 4, none⟩ = some (.slice (some ⟨gk, ok, none⟩) t.kids.length c4) ∧ W.cell? ⟨gk, ok + k * 5, none⟩ = some (.int .i64 y.kind) ∧ W.cell? ⟨gk, ok + k * 5 + 1, none⟩ = some (.string y.text) ∧ W.cell? ⟨gk, ok + k * 5 + 2, none⟩ = some (.int .i64 y.num) ∧ W.cell? ⟨gk, ok + k * 5 + 3, none⟩ = some (.int .i64 y.line) ∧ W.cell? ⟨gk, ok + k * 5 + 4, none⟩ = some (.slice a8 y.kids.length c8)) ∧ Below wr.heap.size wr W)
              (first | (with_reducible assumption) | (with_reducible exact HS.out _ (Below.refl _ _).drew) | (with_reducible exact HS.out _ b8))
              (first | (go_at_call 50; (with_reducible refine (HC.out _ (Below.refl _ _).drew).mono ?_); rintro e w7 ⟨rfl, b7⟩; have b8 := below_then ((Below.refl wr.heap.size wr).drew) b7)))
            | fail "held"
          all_goals
            have HB7 := Lib.hid (below_then HB5.out b8)
            have HW7 := Lib.hid (HW5.out.trans (b8.mono HW5.out.size))
            have HV17 := Lib.hid (HV15.out.later b8)
            have HV27 := Lib.hid (HV25.out.later b8)
            clear b7 b8 HB5 HW5 HV15 HV25 HC HS x0 x1 x2 y0 y4 q0 q1 q2 q3 q4
            by_cases hz : p.1 = 0
            · have tz : (p.1 != 0) = false := by simp [hz]
              have HN := Lib.hid (HNX.out hz)
              clear hz HNX HNO
              go_wp2
              go_roundw
              case rel => exact ⟨k + 1, by go_num, by have := HLT.out; omega, HN.out, HB7.out, HW7.out, HV17.out, HV27.out⟩
              case measure => have := HLT.out; first | (simp [intOf]; done) | (simp [intOf]; omega)
            · have tz : (p.1 != 0) = true := by simp [hz]
              have HN := Lib.hid (HNO.out hz)
              clear hz HNX HNO
              go_wp2
              go_ret2
              exact ⟨ret_ii2 HN.out, HB7.out⟩

      · obtain rfl : k = t.kids.length := by omega
        have HX := Lib.hid hwk.over
        clear hwk hbw hv1 hv2
        go_wp2
        go_ret2
        exact ⟨ret_ii HX.out, hbb⟩
end Go.Proofs.YtbadepiakkhabaaDoor
