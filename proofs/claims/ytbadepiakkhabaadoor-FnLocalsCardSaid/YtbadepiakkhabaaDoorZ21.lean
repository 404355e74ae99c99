/- Joined texts: V8, V23, V27. No conditions besides those that each states. -/
import Derived.Lib.AppendZeros
import Derived.StillTailTactics
import Derived.Test.YtbadepiakkhabaaDoorZ7
import Derived.Test.YtbadepiakkhabaaDoorZ17
import Derived.Test.YtbadepiakkhabaaDoorZ20
/- The reference model's LocalNames. No conditions. -/
namespace Go.Proofs.YtbadepiakkhabaaDoor
open Go.RowKit
set_option linter.unusedVariables false

/-- The local names of a procedure; none if there is no such procedure. -/
def lnames (u : Un) (k : Int) : List ByteArray := if u.valid = true ∧ 0 ≤ k then (match u.procs[k.toNat]? with | some p => locs u p | none => []) else []
theorem held_tt {p : Prop} {w W W2 : World} (h : p ∧ Below w.heap.size w W) (hb : Below W.heap.size W W2) : Below w.heap.size w W2 := below_then h.2 hb
theorem owns_base {w : World} {B B2 : Nat} {v : Value} {l : List ByteArray} (h : Owns w B v l) (hB : B2 ≤ B) : Owns w B2 v l := by
  refine ⟨h.1, ?_⟩
  rcases h.2 with hn | ⟨g, cap, cur, hv, hg, r⟩
  · exact .inl hn
  · exact .inr ⟨g, cap, cur, hv, Nat.le_trans hB hg, r⟩
def RetN (w : World) (l : List ByteArray) (e : Ending) (w' : World) : Prop := ∃ v', e = .returned v' ∧ Owns w' w.heap.size v' l ∧ Below w.heap.size w w'
theorem lnames_bad {u : Un} {k : Int} (h : u.valid = false) : lnames u k = [] := by unfold lnames; rw [h]; simp
theorem lnames_neg {u : Un} {k : Int} (h : k < 0) : lnames u k = [] := by unfold lnames; rw [if_neg (by omega)]
theorem lnames_far {u : Un} {k : Int} (h : (u.procs.length : Int) ≤ k) : lnames u k = [] := by
  unfold lnames
  split
  · rw [List.getElem?_eq_none (by omega)]
  · rfl
theorem lnames_at {u : Un} {n : Nat} (hv : u.valid = true) (h : n < u.procs.length) : lnames u (n : Int) = locs u u.procs[n] := by
  unfold lnames
  rw [if_pos ⟨hv, by omega⟩, Int.toNat_natCast, List.getElem?_eq_getElem h]
theorem own_none (w : World) (B : Nat) : Owns w B (.slice none 0 0) [] := World.ownsRow_nil w B _ _
/-- What a valid unit's procedure has. -/
theorem proc_ok {u : Un} (h : u.valid = true) {p : Pc} (hp : p ∈ u.procs) : p.params.length ≤ 6 ∧ p.locals.length ≤ 8 ∧ p.body.kind = 14 ∧ p.body.count ≤ 600 ∧ u.procs.length ≤ 12 := by
  unfold Un.valid at h
  simp only [Bool.and_eq_true, decide_eq_true_eq] at h
  have h1 := List.all_eq_true.1 h.2.2.2.2 p hp
  unfold Pc.valid exOk nmOk at h1
  simp only [Bool.and_eq_true, decide_eq_true_eq] at h1
  exact ⟨h1.2.1.2, h1.2.2.1.2, h1.2.2.2.2.1, h1.2.2.2.2.2.1, h.2.1⟩
set_option maxRecDepth 100000 in
set_option maxHeartbeats 3200000 in
theorem spec_locals (u : Un) (hb : u.bulk ≤ 1048576) (k : Int) (w : World) (v1 v2 v3 : Value) (h : UnIs w u v1 v2 v3) : Calls Tryd.prog 18 #[unV v1 v2 v3, .int .i64 k] w (RetN w (lnames u k)) := by
  unfold RetN
  obtain ⟨h1, h2, h3⟩ := h
  have HV := Lib.hid (fun W (hW : Below w.heap.size w W) => spec_validunit u hb W v1 v2 v3 ⟨h1.later hW, h2.later hW, h3.later hW⟩)
  have HU := Lib.hid (⟨h1, h2, h3⟩ : UnIs w u v1 v2 v3)
  have H3 := Lib.hid h3
  obtain ⟨a1, c1, rfl⟩ := is_slice h1
  obtain ⟨a2, c2, rfl⟩ := is_slice h2
  obtain ⟨a3, c3, rfl⟩ := is_slice h3
  have B0 := Lib.hid (bl1 w (.cells #[.slice a1 u.recs.length c1, .slice a2 u.globs.length c2, .slice a3 u.procs.length c3] 51))
  have V0 := Lib.hid (Var.new w #[.slice a1 u.recs.length c1, .slice a2 u.globs.length c2, .slice a3 u.procs.length c3] 51)
  obtain ⟨w1, hw1⟩ : ∃ W, w.alloc (.cells #[.slice a1 u.recs.length c1, .slice a2 u.globs.length c2, .slice a3 u.procs.length c3] 51) = W := ⟨_, rfl⟩
  rw [hw1] at B0 V0
  have HW1 := Lib.hid hw1
  have HVC := Lib.hid (HV.out w1 B0.out)
  have HZW : Hid (w1.heap.size = w.heap.size + 1) := Lib.hid (by rw [← hw1, World.size_alloc])
  clear h1 h2 h3 hw1 HV
  cases hv : u.valid
  case false =>
    rw [lnames_bad hv]
    rw [hv] at HVC
    clear hv
    go_enter Tryd.func18, Tryd.ntmps18
    go_wp2_with fail
    rw [HW1.out]
    have x0 := (V0.out 0 _ rfl).1
    have x1 := (V0.out 1 _ rfl).1
    have x2 := (V0.out 2 _ rfl).1
    go_wp2_with fail
    refine HVC.out.mono ?_
    rintro e w2 ⟨rfl, b2⟩
    have B2 := Lib.hid (below_then B0.out b2)
    clear b2
    go_wp2
    go_ret
    exact ⟨_, rfl, own_none _ _, B2.out⟩
  rw [hv] at HVC
  have HVD := Lib.hid hv
  by_cases hk0 : k < 0
  · rw [lnames_neg hk0]
    clear hv
    go_enter Tryd.func18, Tryd.ntmps18
    go_wp2_with fail
    rw [HW1.out]
    have x0 := (V0.out 0 _ rfl).1
    have x1 := (V0.out 1 _ rfl).1
    have x2 := (V0.out 2 _ rfl).1
    go_wp2_with fail
    refine HVC.out.mono ?_
    rintro e w2 ⟨rfl, b2⟩
    have B2 := Lib.hid (below_then B0.out b2)
    clear b2
    go_wp2
    go_ret
    exact ⟨_, rfl, own_none _ _, B2.out⟩
  have hk1 : 0 ≤ k := by omega
  by_cases hkn : (u.procs.length : Int) ≤ k
  · rw [lnames_far hkn]
    clear hv
    go_enter Tryd.func18, Tryd.ntmps18
    go_wp2_with fail
    rw [HW1.out]
    have x0 := (V0.out 0 _ rfl).1
    have x1 := (V0.out 1 _ rfl).1
    have x2 := (V0.out 2 _ rfl).1
    go_wp2_with fail
    refine HVC.out.mono ?_
    rintro e w2 ⟨rfl, b2⟩
    have B2 := Lib.hid (below_then B0.out b2)
    have x2 := ((V0.out.later b2) 2 _ rfl).1
    clear b2
    go_wp2
    go_ret
    exact ⟨_, rfl, own_none _ _, B2.out⟩
  obtain ⟨n, rfl⟩ : ∃ n : Nat, (n : Int) = k := ⟨k.toNat, by omega⟩
  have hn : n < u.procs.length := by omega
  rw [lnames_at hv hn]
  have HPO := Lib.hid (proc_ok hv (List.getElem_mem hn))
  have hpb : u.procs[n].body.bulk ≤ 1048576 := by
    have h1 : u.procs[n].bulk ≤ wsum Pc.bulk u.procs := wsum_mem Pc.bulk (List.getElem_mem hn)
    have h2 : u.procs[n].body.bulk ≤ u.procs[n].bulk := by unfold Pc.bulk; omega
    unfold Un.bulk procsB at hb
    omega
  obtain ⟨l0, hl0⟩ : ∃ l, locs u u.procs[n] = l := ⟨_, rfl⟩
  rw [hl0]
  have HL0 : Hid (coll u u.procs[n].body (u.procs[n].params ++ u.procs[n].locals) = l0) := Lib.hid hl0
  clear hl0
  have HC := Lib.hid (fun W (hu : UnIs W u (.slice a1 u.recs.length c1) (.slice a2 u.globs.length c2) (.slice a3 u.procs.length c3)) => spec_collect u hb W _ _ _ hu u.procs[n].body.count u.procs[n].body (Nat.le_refl _) hpb)
  unfold CollT RetL at HC
  clear hv hpb hb
  go_enter Tryd.func18, Tryd.ntmps18
  go_wp2_with fail
  rw [HW1.out]
  have x0 := (V0.out 0 _ rfl).1
  have x1 := (V0.out 1 _ rfl).1
  have x2 := (V0.out 2 _ rfl).1
  go_wp2_with fail
  refine HVC.out.mono ?_
  rintro e w2 ⟨rfl, b2⟩
  have B2 := Lib.hid (below_then B0.out b2)
  have V2 := Lib.hid (V0.out.later b2)
  have x2 := (V2.out 2 _ rfl).1
  obtain ⟨g, o, rfl, q0, ⟨y5, q1, k5⟩, ⟨y6, q2, k6⟩, ⟨q3, q4, q5, q6⟩, ⟨y7, q7, k7⟩, q8⟩ := proc_at (H3.out.later B2.out) n hn
  have HZ2 : Hid (w.heap.size + 1 ≤ w2.heap.size) := Lib.hid (by have h1 := b2.size; have h2 := HZW.out; omega)
  have n0 : (0 : Int) ≤ (n : Int) := by omega
  have n1 : (n : Int) < u.procs.length := by omega
  clear b2 hk0 hkn
  generalize u.procs[n] = p at q0 q3 q4 q5 q6 q8 k5 k6 k7 HPO HC HL0
  obtain ⟨e5, d5, rfl⟩ := is_slice k5
  obtain ⟨e6, d6, rfl⟩ := is_slice k6
  have HK7 := Lib.hid k7
  obtain ⟨e7, d7, rfl⟩ := kids_len k7
  have n3 := bl1 w2 (.cells #[.string p.name, .slice e5 p.params.length d5, .slice e6 p.locals.length d6, .int .i64 p.body.kind, .string p.body.text, .int .i64 p.body.num, .int .i64 p.body.line, .slice e7 p.body.kids.length d7, .int .i64 p.line] 107)
  have VP := Lib.hid (Var.new w2 #[.string p.name, .slice e5 p.params.length d5, .slice e6 p.locals.length d6, .int .i64 p.body.kind, .string p.body.text, .int .i64 p.body.num, .int .i64 p.body.line, .slice e7 p.body.kids.length d7, .int .i64 p.line] 107)
  obtain ⟨w3, hw3⟩ : ∃ W, w2.alloc (.cells #[.string p.name, .slice e5 p.params.length d5, .slice e6 p.locals.length d6, .int .i64 p.body.kind, .string p.body.text, .int .i64 p.body.num, .int .i64 p.body.line, .slice e7 p.body.kids.length d7, .int .i64 p.line] 107) = W := ⟨_, rfl⟩
  have HW3 := Lib.hid hw3
  have HZ3 : Hid (w3.heap.size = w2.heap.size + 1) := Lib.hid (by rw [← hw3, World.size_alloc])
  rw [hw3] at n3 VP
  have B3 := Lib.hid (below_then B2.out n3)
  have N3 := Lib.hid n3
  have V3 := Lib.hid (V2.out.later n3)
  have K5 := Lib.hid (fun W (hW : Below w3.heap.size w3 W) => (k5.later n3).later hW)
  have K6 := Lib.hid (fun W (hW : Below w3.heap.size w3 W) => (k6.later n3).later hW)
  clear n3 hw3 k5 k6 k7
  have HPO1 : p.params.length ≤ 6 ∧ p.locals.length ≤ 8 := ⟨HPO.out.1, HPO.out.2.1⟩
  obtain ⟨lp, ll⟩ := HPO1
  go_wp2_with fail
  rw [HW3.out]
  clear x0 x1 x2 q0 q1 q2 q3 q4 q5 q6 q7 q8
  have HS : Hid (∀ W, Below w3.heap.size w3 W → (W.cell? ⟨w2.heap.size, 1, none⟩ = some (.slice e5 p.params.length d5) ∧ W.cell? ⟨w2.heap.size, 2, none⟩ = some (.slice e6 p.locals.length d6)) ∧ Below w3.heap.size w3 W) := Lib.hid (fun W hW => ⟨⟨((VP.out.later hW) 1 _ rfl).1, ((VP.out.later hW) 2 _ rfl).1⟩, hW⟩)
  go_region_held3 (fun W => (W.cell? ⟨w2.heap.size, 1, none⟩ = some (.slice e5 p.params.length d5) ∧ W.cell? ⟨w2.heap.size, 2, none⟩ = some (.slice e6 p.locals.length d6)) ∧ Below w3.heap.size w3 W) (first | (with_reducible assumption) | (with_reducible exact HS.out _ (Below.refl _ _).drew) | (with_reducible exact HS.out _ (held_tt (by assumption) (bl1 _ _))) | (with_reducible exact HS.out _ b5) | (with_reducible exact HS.out _ b6)) (first
    | (refine step_append_more (B := w3.heap.size) rfl (.tmp 26) (.tmp 28) rfl rfl rfl (own_first w3.drew w3.heap.size rfl) (K5.out _ ((Below.refl w3.heap.size w3).drew.alloc (Nat.le_refl _) _)) (by simp; omega) (by simp) ?_; intro v5 w5 o5 g5 m5; have b5 := below_grown (w0 := w3) ((Below.refl w3.heap.size w3).drew.alloc (Nat.le_refl _) (.cells #[] 9)) (own_first w3.drew w3.heap.size rfl) (Nat.le_refl _) g5)
    | (refine step_append_more (B := w3.heap.size) rfl (.tmp 29) (.tmp 31) rfl rfl rfl o5 (K6.out _ b5) (by simp; omega) b5.size ?_; intro v6 w6 o6 g6 m6; have b6 := below_grown b5 o5 (Nat.le_refl _) g6))
  all_goals
    rw [List.nil_append] at o6
    have HO6 := Lib.hid o6
    have HB6 := Lib.hid b6
    have HC6 := Lib.hid (HC.out w3 ⟨HU.out.1.later B3.out, HU.out.2.1.later B3.out, HU.out.2.2.later B3.out⟩ (p.params ++ p.locals) w6 _ v6 (Kids.later HK7.out N3.out) b6 o6 (by rw [List.length_append]; have h1 := HPO.out.2.2.2.1; omega))
    have V6 := V3.out.later b6
    have P6 := VP.out.later b6
    have x0 := (V6 0 _ rfl).1
    have x1 := (V6 1 _ rfl).1
    have x2 := (V6 2 _ rfl).1
    have q3 := (P6 3 _ rfl).1
    have q4 := (P6 4 _ rfl).1
    have q5 := (P6 5 _ rfl).1
    have q6 := (P6 6 _ rfl).1
    have q7 := (P6 7 _ rfl).1
    clear o5 g5 m5 b5 o6 g6 m6 b6 V6 P6 HS HC K5 K6
    go_wp2_with ((with_reducible refine HC6.out.mono ?_); rintro e w7 ⟨v7, rfl, o7, g7, m7⟩)
    have B7 := Lib.hid (B3.out.trans ((below_grown HB6.out HO6.out (Nat.le_refl _) g7).mono B3.out.size))
    have HO7 := Lib.hid (owns_base o7 B3.out.size)
    clear o7 g7 m7
    go_ret
    exact ⟨_, rfl, by rw [← HL0.out]; exact HO7.out, B7.out⟩
end Go.Proofs.YtbadepiakkhabaaDoor
/- slices.Concat of two lists of names. No conditions. -/
namespace Go.Proofs.YtbadepiakkhabaaDoor
open Go.RowKit
set_option linter.unusedVariables false

set_option maxRecDepth 100000 in
set_option maxHeartbeats 1600000 in
theorem lib_grow (n : Nat) (hn : n ≤ 2097152) (w : World) : Calls Tryd.prog 136 #[.slice none 0 0, .int .i64 (n : Int)] w (RetN w []) := by
  unfold RetN
  by_cases h0 : n = 0
  · subst h0
    go_enter Tryd.func136, Tryd.ntmps136
    go_wp2
    go_ret
    exact ⟨_, rfl, own_none _ _, Below.refl _ _⟩
  · obtain ⟨i0, hi, hz0, hz1, hz2⟩ := info_parts info_string
    have hr := Lib.run_append_nil_zeros (P := Tryd.prog) w 35 3 35 9 i0 (.string ByteArray.empty) .i64 .i64 Tryd.underlying35 Tryd.underlying3 hi hz0 n (by omega) (by omega) (by omega) (by rw [hz2]; omega)
    have hcap := grownCap_ge w n 0 9
    have hcm := grownCap_le_maxLen w n 0 9 (by unfold maxLen; omega)
    have hrow : Owns (w.drew.alloc (.cells (Builtin.zeroCells (Value.string ByteArray.empty).cells n ++ Builtin.zeroCells (Value.string ByteArray.empty).cells (grownCap w n 0 9 - n)) 9)) w.heap.size (.slice (some ⟨w.heap.size, 0, none⟩) 0 (grownCap w n 0 9)) [] := by
      have h := World.ownsRow_made (base := w.heap.size) (size := 1) (e := 9) w.drew (Builtin.zeroCells (Value.string ByteArray.empty).cells n ++ Builtin.zeroCells (Value.string ByteArray.empty).cells (grownCap w n 0 9 - n)) (grownCap w n 0 9) (Nat.le_refl _) hcm (by
        have e1 : (Value.string ByteArray.empty).cells.size = 1 := rfl
        simp only [Array.size_append, size_zeroCells, e1]; omega)
      exact h
    have hb : Below w.heap.size w (w.drew.alloc (.cells (Builtin.zeroCells (Value.string ByteArray.empty).cells n ++ Builtin.zeroCells (Value.string ByteArray.empty).cells (grownCap w n 0 9 - n)) 9)) := (Below.refl w.heap.size w).drew.alloc (Nat.le_refl _) _
    generalize w.drew.alloc (.cells (Builtin.zeroCells (Value.string ByteArray.empty).cells n ++ Builtin.zeroCells (Value.string ByteArray.empty).cells (grownCap w n 0 9 - n)) 9) = w2 at hr hrow hb
    generalize grownCap w n 0 9 = cp at hr hrow hcap hcm
    have HR := Lib.hid hr
    have HO := Lib.hid hrow
    have HB := Lib.hid hb
    unfold maxLen at hcm
    clear hr hrow hb
    go_enter Tryd.func136, Tryd.ntmps136
    go_wp2_with (at_builtin; refine Lib.wpList_append_run _ rfl _ _ _ _ rfl _ _ rfl rfl _ _ HR.out ?_)
    go_ret
    exact ⟨_, rfl, HO.out, HB.out⟩
set_option maxRecDepth 100000 in
set_option maxHeartbeats 1600000 in
theorem lib_concat2 (l m : List ByteArray) (hl : l.length + m.length ≤ 1048576) (g : Nat) (v1 v2 : Value) (w : World) (h1 : Is w (strsD l) v1) (h2 : Is w (strsD m) v2) (c1 : w.cell? ⟨g, 0, none⟩ = some v1) (c2 : w.cell? ⟨g, 1, none⟩ = some v2) :
    Calls Tryd.prog 113 #[.slice (some ⟨g, 0, none⟩) 2 2] w (RetN w (l ++ m)) := by
  unfold RetN
  obtain ⟨a1, d1, rfl⟩ := is_slice h1
  obtain ⟨a2, d2, rfl⟩ := is_slice h2
  have HG := Lib.hid (lib_grow (l.length + m.length) (by omega) w)
  unfold RetN at HG
  rw [show ((l.length + m.length : Nat) : Int) = (l.length : Int) + (m.length : Int) by omega] at HG
  have H1 := Lib.hid h1
  have H2 := Lib.hid h2
  have C1 := Lib.hid (fun W (hW : Below w.heap.size w W) => subw_below hW _ _ _ c1)
  have C2 := Lib.hid (fun W (hW : Below w.heap.size w W) => subw_below hW _ _ _ c2)
  clear h1 h2
  go_enter Tryd.func113, Tryd.ntmps113
  go_wp2
  go_loop [3, 5, 11] (fun s _ i => (i = .int .i64 0 ∧ s = .int .i64 0) ∨ (i = .int .i64 1 ∧ s = .int .i64 (l.length : Int)) ∨ (i = .int .i64 2 ∧ s = .int .i64 ((l.length : Int) + (m.length : Int)))) (fun _ _ i => 2 - (intOf i).toNat)
  case atStart => exact .inl ⟨rfl, rfl⟩
  case round =>
    rcases hrel with ⟨rfl, rfl⟩ | ⟨rfl, rfl⟩ | ⟨rfl, rfl⟩
    · go_wp2
      go_round
      case rel => exact .inr (.inl ⟨rfl, by go_num⟩)
      case measure => simp [intOf]
    · go_wp2
      go_round
      case rel => exact .inr (.inr ⟨rfl, rfl⟩)
      case measure => simp [intOf]
    · clear c1 c2
      go_wp2_with fail
      refine HG.out.mono ?_
      rintro e w2 ⟨v2, rfl, o2, b2⟩
      have HO := Lib.hid o2
      have HB := Lib.hid b2
      clear o2 b2
      go_wp2
      go_loopw [6, 8, 27] (fun v _ i wr => Below w.heap.size w wr ∧ ((i = .int .i64 0 ∧ Owns wr w.heap.size v []) ∨ (i = .int .i64 1 ∧ Owns wr w.heap.size v l) ∨ (i = .int .i64 2 ∧ Owns wr w.heap.size v (l ++ m)))) (fun _ _ i _ => 2 - (intOf i).toNat)
      case atStart => exact ⟨HB.out, .inl ⟨rfl, HO.out⟩⟩
      case round =>
        clear HO HB
        obtain ⟨hb, hrel⟩ := hrel
        have HB := Lib.hid hb
        have c1 := C1.out wr hb
        have c2 := C2.out wr hb
        clear hb
        rcases hrel with ⟨rfl, ho⟩ | ⟨rfl, ho⟩ | ⟨rfl, ho⟩
        · have HO := Lib.hid ho
          clear ho
          go_wp2_with (at_builtin; refine wpList_append_more (B := w.heap.size) rfl _ _ rfl rfl rfl HO.out (H1.out.later HB.out) (by simp; omega) HB.out.size ?_; intro v5 w5 o5 g5 m5)
          have O5 := Lib.hid o5
          have B5 := Lib.hid (below_grown HB.out HO.out (Nat.le_refl _) g5)
          rw [List.nil_append] at O5
          clear o5 g5 m5 c1 c2
          go_roundw
          case rel => exact ⟨B5.out, .inr (.inl ⟨rfl, O5.out⟩)⟩
          case measure => simp [intOf]
        · have HO := Lib.hid ho
          clear ho
          go_wp2_with (at_builtin; refine wpList_append_more (B := w.heap.size) rfl _ _ rfl rfl rfl HO.out (H2.out.later HB.out) hl HB.out.size ?_; intro v5 w5 o5 g5 m5)
          have O5 := Lib.hid o5
          have B5 := Lib.hid (below_grown HB.out HO.out (Nat.le_refl _) g5)
          clear o5 g5 m5 c1 c2
          go_roundw
          case rel => exact ⟨B5.out, .inr (.inr ⟨rfl, O5.out⟩)⟩
          case measure => simp [intOf]
        · have HO := Lib.hid ho
          clear ho
          go_wp2
          go_ret
          exact ⟨_, rfl, HO.out, HB.out⟩
end Go.Proofs.YtbadepiakkhabaaDoor
/- The program's scopes: adding a local name. No conditions. -/
namespace Go.Proofs.YtbadepiakkhabaaDoor
open Go.RowKit
set_option linter.unusedVariables false

/-- A scope in memory: its variable, its list of names, its map. -/
def ScopeAt (w : World) (B bs bm : Nat) (v : Value) (L : List ByteArray) (n : Nat) (f : ByteArray → Option (Int × Int)) : Prop :=
  Var w bs [v, .map (some bm)] ∧ Owns w B v L ∧ MapM w bm n f ∧ B ≤ bs ∧ B ≤ bm ∧ v.ownBlock ≠ some bs
/-- Nothing that lay is turned but a scope. -/
def ScTurn (w : World) (bs bm : Nat) (v : Value) (w' : World) : Prop := Below 0 w w' ∧ ∀ b, b < w.heap.size → b ≠ bs → b ≠ bm → v.ownBlock ≠ some b → w'.heap[b]? = w.heap[b]?
theorem Moves.step {w w1 : World} {v v1 v2 : Value} (h1 : Moves w v v1) (h2 : Moves w1 v1 v2) (hs : w.heap.size ≤ w1.heap.size) : Moves w v v2 := fun b hb => by
  rcases h2 b hb with h | h
  · exact h1 b h
  · exact .inr (Nat.le_trans hs h)
theorem ScTurn.refl (w : World) (bs bm : Nat) (v : Value) : ScTurn w bs bm v w := ⟨Below.refl _ _, fun _ _ _ _ _ => rfl⟩
theorem ScTurn.trans {w w1 w2 : World} {bs bm : Nat} {v v1 : Value} (h1 : ScTurn w bs bm v w1) (h2 : ScTurn w1 bs bm v1 w2) (hm : Moves w v v1) : ScTurn w bs bm v w2 :=
  ⟨h1.1.trans h2.1, fun b hb n1 n2 n3 => (h2.2 b (Nat.lt_of_lt_of_le hb h1.1.size) n1 n2 (fun e => by
    rcases hm b e with h | h
    · exact n3 h
    · omega)).trans (h1.2 b hb n1 n2 n3)⟩
theorem ScTurn.later {w w1 w2 : World} {bs bm : Nat} {v : Value} (h1 : ScTurn w bs bm v w1) (h2 : Below w1.heap.size w1 w2) : ScTurn w bs bm v w2 :=
  ⟨h1.1.trans (h2.mono (Nat.zero_le _)), fun b hb n1 n2 n3 => (h2.block b (Nat.lt_of_lt_of_le hb h1.1.size)).trans (h1.2 b hb n1 n2 n3)⟩
theorem ScTurn.below {w w1 : World} {bs bm B : Nat} {v : Value} {L : List ByteArray} {n : Nat} {f : ByteArray → Option (Int × Int)} (h : ScTurn w bs bm v w1) (hs : ScopeAt w B bs bm v L n f) (hB : B ≤ w.heap.size) : Below B w w1 :=
  ⟨h.1.os, h.1.tape, h.1.output, h.1.size, fun b hb => h.2 b (Nat.lt_of_lt_of_le hb hB) (by have := hs.2.2.2.1; omega) (by have := hs.2.2.2.2.1; omega) (fun e => by have := (owns_lt hs.2.1 e).1; omega)⟩
theorem ScopeAt.later {w w' : World} {B bs bm n : Nat} {v : Value} {L : List ByteArray} {f : ByteArray → Option (Int × Int)} (h : ScopeAt w B bs bm v L n f) (hb : Below w.heap.size w w') : ScopeAt w' B bs bm v L n f :=
  ⟨h.1.later hb, owns_later h.2.1 hb, h.2.2.1.later hb, h.2.2.2⟩
theorem ScopeAt.congr {w : World} {B bs bm n m : Nat} {v : Value} {L : List ByteArray} {f g : ByteArray → Option (Int × Int)} (h : ScopeAt w B bs bm v L n f) (hg : ∀ s, g s = f s) (hn : n ≤ m) : ScopeAt w B bs bm v L m g :=
  ⟨h.1, h.2.1, (h.2.2.1.congr hg).mono hn, h.2.2.2⟩
theorem map_ne_row {w : World} {B b n : Nat} {v : Value} {L : List ByteArray} {f : ByteArray → Option (Int × Int)} (h : MapM w b n f) (ho : Owns w B v L) : v.ownBlock ≠ some b := fun e => by
  obtain ⟨o, h1, h2⟩ := h.obj
  rcases ho.2 with ⟨rfl, _⟩ | ⟨g, cap, cur, rfl, _, hg, _⟩
  · cases e
  · obtain rfl : g = b := Option.some.inj e
    rw [hg] at h1
    obtain rfl := Option.some.inj h1
    cases h2
theorem map_ne_var {w : World} {b c n : Nat} {u : Value} {us : List Value} {f : ByteArray → Option (Int × Int)} (h : MapM w b n f) (hv : Var w c (u :: us)) : c ≠ b := fun e => by
  subst e
  obtain ⟨o, h1, h2⟩ := h.obj
  have h3 := (hv 0 u rfl).1
  unfold World.cell? at h3
  rw [h1] at h3
  cases o <;> simp [Obj.isCells] at h2 <;> cases h3
def AddR (w : World) (B bs bm : Nat) (v : Value) (L : List ByteArray) (n : Nat) (f : ByteArray → Option (Int × Int)) (e : Ending) (w' : World) : Prop :=
  e = .returned (.tuple #[]) ∧ ∃ v', ScopeAt w' B bs bm v' L n f ∧ ScTurn w bs bm v w' ∧ Moves w v v'
set_option maxRecDepth 100000 in
set_option maxHeartbeats 1600000 in
theorem impl_addLocal (s : ByteArray) (hs : s.size ≤ maxLen) (w : World) (B bs bm : Nat) (v : Value) (L : List ByteArray) (n : Nat) (f : ByteArray → Option (Int × Int)) (h : ScopeAt w B bs bm v L n f) (hL : L.length ≤ 1000000) (hn : n < 1000000) (hB : B ≤ w.heap.size) :
    Calls Tryd.prog 82 #[.pointer (some ⟨bs, 0, none⟩), .string s] w (AddR w B bs bm v (L ++ [s]) (n + 1) (decl f s (1, (L.length : Int)))) := by
  unfold AddR
  obtain ⟨a, c, rfl⟩ := owns_slice h.2.1
  have HNE1 := Lib.hid (map_ne_row h.2.2.1 h.2.1)
  have HNE2 := Lib.hid (map_ne_var h.2.2.1 h.1)
  have hd : ScopeAt w.drew B bs bm (.slice a L.length c) L n f := h.later (Below.refl _ _).drew
  have HD := Lib.hid hd
  have HC := Lib.hid (impl_declare bm n f s 1 (L.length : Int) w.drew hd.2.2.1 hs (by unfold maxLen; omega))
  unfold DeclR at HC
  have x0 := (h.1 0 _ rfl).1
  have x1 := (h.1 1 _ rfl).1
  have hl0 : (L.length : Int) ≤ 1000000 := by omega
  have HLL := Lib.hid hL
  have HBB := Lib.hid hB
  have HZ : Hid (w.drew.heap.size = w.heap.size) := Lib.hid rfl
  have HDB : Hid (Below w.heap.size w w.drew) := Lib.hid (Below.refl _ _).drew
  clear hd h hs hn hL hB
  go_enter Tryd.func82, Tryd.ntmps82
  go_wp2_with fail
  go_still_tail 10, (by kernel_rfl)
  change wpList _ _ _ _ _ w.drew
  clear x0 x1
  generalize w.drew = w1 at HD HC HZ HDB ⊢
  go_wp2_with fail
  refine HC.out.mono ?_
  rintro e w2 ⟨rfl, hm2, hg2⟩
  have HM2 := Lib.hid hm2
  have HG2 := Lib.hid hg2
  have hv2 := HD.out.1.grown (Var.lt HD.out.1) hg2 (fun e => HNE2.out (Option.some.inj e).symm)
  have hown2 : Owns w2 B (.slice a L.length c) L := owns_keep HD.out.2.1 fun b e => hg2.block b (owns_lt HD.out.2.1 e).2 (fun e2 => HNE1.out (e.trans e2))
  have x0 := (hv2 0 _ rfl).1
  have f0 := (hv2 0 _ rfl).2
  have HV2 := Lib.hid hv2
  have HOW2 := Lib.hid hown2
  have HOW3 := Lib.hid (owns_later hown2 (bl1 w2 (.cells #[.string s] 9)))
  have HB3 : Hid (B ≤ (w2.alloc (.cells #[.string s] 9)).heap.size) := Lib.hid (by have h1 := (bl1 w2 (.cells #[.string s] 9)).size; have h2 := hg2.size; have h3 := HZ.out; have h4 := HBB.out; omega)
  clear hm2 hg2 hv2 hown2
  go_wp2_with (at_builtin; refine wpList_append_str (B := B) rfl _ _ rfl rfl HOW3.out ⟨w2.heap.size, 0, none⟩ s rfl ?c1 (by have := HLL.out; omega) HB3.out ?_)
  case c1 => exact new_cell _ _ _ 0 _ rfl
  intro g c' w5 ho hg hm
  have hv5 : Var w5 bs [.slice a L.length c, .map (some bm)] := by
    have h1 := HV2.out.later (bl1 w2 (.cells #[.string s] 9))
    exact h1.grown (Var.lt h1) hg (fun e => HD.out.2.2.2.2.2 e)
  have x0 := (hv5 0 _ rfl).1
  have f0 := (hv5 0 _ rfl).2
  have HV5 := Lib.hid (hv5.set 0 (.slice (some ⟨g, 0, none⟩) (L.length + 1) c'))
  have hbs := Var.lt HV2.out
  have HGB : Hid (g ≠ bs) := Lib.hid (fun e => by
    subst e
    rcases hm with h | h
    · exact HD.out.2.2.2.2.2 h
    · have h1 := (bl1 w2 (.cells #[.string s] 9)).size; omega)
  have HO5 := Lib.hid ho
  have HG5 := Lib.hid hg
  have HM5 := Lib.hid hm
  have HMM := Lib.hid (HM2.out.later (bl1 w2 (.cells #[.string s] 9)))
  clear ho hg hm hv5 hbs
  go_wp2
  go_end0
  refine ⟨rfl, _, ⟨HV5.out, owns_keep HO5.out (fun b e => ?_), (HMM.out.keep (HG5.out.block _ HMM.out.lt (fun e => map_ne_row HMM.out HOW3.out e.symm))).keep (set_keep (fun e => HNE2.out e.symm)), HD.out.2.2.2.1, HD.out.2.2.2.2.1, fun e => HGB.out (Option.some.inj e)⟩, ?_, ?_⟩
  · obtain rfl : g = b := Option.some.inj e
    exact set_keep HGB.out
  · refine ⟨?_, fun b hb n1 n2 n3 => ?_⟩
    · have k1 : Below 0 w w1 := HDB.out.mono (Nat.zero_le _)
      have k2 : Below 0 w1 w2 := (Below.refl 0 w1).grown HG2.out (Nat.zero_le _) (fun k e => Nat.zero_le _)
      have k3 : Below 0 (w2.alloc (.cells #[.string s] 9)) w5 := (Below.refl 0 _).grown HG5.out (Nat.zero_le _) (fun k e => Nat.zero_le _)
      exact (((k1.trans k2).trans ((bl1 w2 _).mono (Nat.zero_le _))).trans k3).setCell (p := ⟨bs, 0, none⟩) (Nat.zero_le _) _
    · have h1 := HZ.out
      have h2 := HG2.out.size
      have h3 := (bl1 w2 (.cells #[.string s] 9)).size
      rw [set_keep n1, HG5.out.block b (by omega) (fun e => n3 e.symm), (bl1 w2 (.cells #[.string s] 9)).block b (by omega), HG2.out.block b (by omega) (fun e => n2 (Option.some.inj e)), HDB.out.block b (by omega)]
  · intro b e
    obtain rfl : g = b := Option.some.inj e
    rcases HM5.out with h | h
    · exact .inl h
    · right
      have h1 := HZ.out
      have h2 := HG2.out.size
      have h3 := (bl1 w2 (.cells #[.string s] 9)).size
      omega
set_option maxRecDepth 100000 in
set_option maxHeartbeats 1600000 in
theorem impl_declared (p : Pc) (hp : p.params.length + p.locals.length ≤ 1048576) (w : World) (g o : Nat) (h : ProcAt w g o p) : Calls Tryd.prog 81 #[.pointer (some ⟨g, o, none⟩)] w (RetN w (p.params ++ p.locals)) := by
  unfold RetN
  obtain ⟨_, ⟨y5, q1, k5⟩, ⟨y6, q2, k6⟩, _⟩ := h
  have HC := Lib.hid (fun (W : World) h1 h2 c1 c2 => lib_concat2 p.params p.locals hp W.heap.size y5 y6 (W.alloc (.cells #[y5, y6] 35)) h1 h2 c1 c2)
  unfold RetN at HC
  obtain ⟨a5, c5, rfl⟩ := is_slice k5
  obtain ⟨a6, c6, rfl⟩ := is_slice k6
  have n1 := bl1 w.drew (.cells #[.slice a5 p.params.length c5, .slice a6 p.locals.length c6] 35)
  have HB : Hid (Below w.heap.size w (w.drew.alloc (.cells #[.slice a5 p.params.length c5, .slice a6 p.locals.length c6] 35))) := Lib.hid ((Below.refl w.heap.size w).drew.alloc (Nat.le_refl _) _)
  have VN := Var.new w.drew #[.slice a5 p.params.length c5, .slice a6 p.locals.length c6] 35
  have HK := Lib.hid (HC.out w.drew (k5.later HB.out) (k6.later HB.out) (VN 0 _ rfl).1 (VN 1 _ rfl).1)
  clear HC n1 VN k5 k6
  go_enter Tryd.func81, Tryd.ntmps81
  go_wp2_with fail
  go_still_tail 8, (by kernel_rfl)
  change wpList _ _ _ _ _ w.drew
  clear q1 q2
  generalize w.drew = w1 at HK HB ⊢
  go_wp2_with ((with_reducible refine HK.out.mono ?_); rintro e w2 ⟨v2, rfl, o2, b2⟩)
  have h1 := HB.out.size
  have HO := Lib.hid (owns_base o2 h1)
  have HB2 := Lib.hid (below_then HB.out b2)
  clear o2 b2 h1
  go_ret
  exact ⟨_, rfl, HO.out, HB2.out⟩
end Go.Proofs.YtbadepiakkhabaaDoor
