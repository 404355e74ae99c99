/- Joined texts: A37, G5, N20, N21, G7. No conditions besides those that each states. -/
import Derived.Lib.SliceRun
import Derived.Test.YtbadepiakkhabaaDoorZ4
import Derived.Test.YtbadepiakkhabaaDoorZ7
import Derived.Test.YtbadepiakkhabaaDoorZ8
import Derived.Test.YtbadepiakkhabaaDoorZ14
/- The program: valid core trees, the loop over kids. The operators' table reads as the program's text lays it. -/
namespace Go.Proofs.YtbadepiakkhabaaDoor.Cr
open Go.RowKit Go.Lib
set_option linter.unusedVariables false

/-- The values of a round's operations. -/
def vv7 (b g o g1 o1 j n c d : Nat) (loop made : Bool) (k : Int) (lp md : Bool) : Nat → Value
  | 0 => .pointer (some ⟨b, 0, none⟩)
  | 1 => .pointer (some ⟨g, o, none⟩)
  | 2 => .pointer (some ⟨g, o, none⟩)
  | 3 => .pointer (some ⟨g, o + 5, none⟩)
  | 4 => .slice (some ⟨g1, o1, none⟩) n c
  | 5 => .int .i64 (j : Int)
  | 6 => .pointer (some ⟨g1, o1 + j * 6, none⟩)
  | 7 => .int .i64 (d : Int)
  | 8 => .int .i64 ((d : Int) + 1)
  | 9 => .agg #[.bool loop, .bool made]
  | 10 => .pointer (some ⟨g, o, none⟩)
  | 11 => .pointer (some ⟨g, o, none⟩)
  | 12 => .pointer (some ⟨g, o, none⟩)
  | 13 => .int .i64 k
  | 14 => .int .i64 (j : Int)
  | 15 => .agg #[.bool lp, .bool md]
  | _ => .bool false
/-- An operation's value is as listed. -/
def FV (f : Nat → Value) (L : Nat → Bool) (k : Nat) (v : Value) (w : World) : Prop := v = f k
theorem ok_oks {t : Co.T} (h : t.Ok) : Co.Oks t.kids := (Co.ok_node h).2.2
theorem impl_okid (k : Int) (i : Nat) (loop made : Bool) (w : World) : Calls Tryd.prog 71 #[.agg #[.bool loop, .bool made], .int .i64 k, .int .i64 (i : Int)] w fun e w' => e = .returned (.agg #[.bool (Co.kLoop k loop i), .bool (made || decide (k = 26))]) ∧ Below w.heap.size w w' := by
  have hi : ((i : Int) == 1) = decide (i = 1) := by rw [Bool.eq_iff_iff]; simp; omega
  by_cases h18 : k = 18
  · subst h18
    rw [show (made || decide ((18 : Int) = 26)) = made by simp, show Co.kLoop 18 loop i = decide (i = 1) from rfl, ← hi]
    exact okid_18 i loop made w
  by_cases h19 : k = 19
  · subst h19
    rw [show (made || decide ((19 : Int) = 26)) = made by simp, show Co.kLoop 19 loop i = decide (i = 1) from rfl, ← hi]
    exact okid_19 i loop made w
  by_cases h20 : k = 20
  · subst h20
    rw [show (made || decide ((20 : Int) = 26)) = made by simp, show Co.kLoop 20 loop i = false from rfl]
    exact okid_20 i loop made w
  by_cases h26 : k = 26
  · subst h26
    rw [show (made || decide ((26 : Int) = 26)) = true by simp, show Co.kLoop 26 loop i = false from rfl]
    exact okid_26 i loop made w
  rw [decide_eq_false h26, Bool.or_false, show Co.kLoop k loop i = loop by unfold Co.kLoop; rw [if_neg (by omega), if_neg (by omega)]]
  exact okid_n k (beq_eq_false_iff_ne.2 h18) (beq_eq_false_iff_ne.2 h19) (beq_eq_false_iff_ne.2 h20) (beq_eq_false_iff_ne.2 h26) i loop made w
set_option maxRecDepth 100000 in
set_option maxHeartbeats 3200000 in
theorem vld_go (E : Co.Env) (hE : EnvS E) (t : Co.T) (hb : t.bulk ≤ 1048576) (hok : t.Ok) (W0 w : World) (b g o d : Nat) (n : Int) (loop made : Bool) (ht : TreeAt W0 g o t) (hT : OpsAt W0) (hw : Below W0.heap.size W0 w) (hbb : W0.heap.size ≤ b) (hv : Var w b (ckL E n)) (h0 : 0 ≤ n) (hn : n ≤ 40000) (hd : d ≤ 401) (hx : ¬ 40000 < n + 1) (hy : ¬ 400 < (d : Int)) (hz : nodeOk E t = true) (hu : Co.admit t.kind loop made = true) (HI : ∀ x ∈ t.kids, VldT E x) :
  Calls Tryd.prog 36 #[.pointer (some ⟨b, 0, none⟩), .pointer (some ⟨g, o, none⟩), .int .i64 (d : Int), .agg #[.bool loop, .bool made]] w (RetVld w b E n t (t.ok E loop made d && decide (n + t.count ≤ 40000))) := by
  have hpos := Co.count_pos t
  have HS := Lib.hid (StV.start (n := n) (E := E) loop made 87 hw hbb hv)
  obtain ⟨W, hW⟩ : ∃ W, (w.alloc (.cells #[.bool loop, .bool made] 87)).setCell ⟨b, 4, none⟩ (.int .i64 (n + 1)) = W := ⟨_, rfl⟩
  rw [hW] at HS
  have HW := Lib.hid hW
  have hq : IntKind.i64.wrap (n + 1) = n + 1 := by rw [IntKind.wrap_i64]; omega
  obtain ⟨c4, f4⟩ := hv.later (bl1 w (.cells #[.bool loop, .bool made] 87)) 4 _ rfl
  have d4 := (HS.out.2.1 4 _ rfl).1
  have hlt : b < w.heap.size := hv.lt
  have HOK := Lib.hid (ok_kids (E := E) (loop := loop) (made := made) (d := (d : Int)) (by omega) hz hu)
  have hcnt := count_eq t
  have hbe := bulk_eq t
  have tx : decide (40000 < n + 1) = false := decide_eq_false hx
  have ty : decide (400 < (d : Int)) = false := decide_eq_false hy
  have TW := HS.out.1
  obtain ⟨⟨q0, _, _, _, _⟩, v, q5, hk⟩ := tree_cells ht
  obtain ⟨a, c, rfl⟩ := kids_len hk
  have HQ := Lib.hid q0
  have HQ5 := Lib.hid q5
  have e0 := subw_below TW _ _ _ q0
  have e5 := subw_below TW _ _ _ q5
  have HE5 := Lib.hid e5
  obtain ⟨x0, _⟩ := HS.out.2.2.1 0 _ rfl
  obtain ⟨x1, _⟩ := HS.out.2.2.1 1 _ rfl
  obtain ⟨p0, p1⟩ := ok_op hok
  have HD : Hid (∀ W', Below W.heap.size W W' → W'.cell? ⟨b, 4, none⟩ = some (.int .i64 (n + 1)) ∧ W'.cell? ⟨w.heap.size, 0, none⟩ = some (.bool loop) ∧ W'.cell? ⟨w.heap.size, 1, none⟩ = some (.bool made) ∧ W'.cell? ⟨g, o, none⟩ = some (.int .i64 t.kind) ∧ Below W.heap.size W W') := Lib.hid (fun W' h => ⟨cell_later h d4, cell_later h x0, cell_later h x1, cell_later h e0, h⟩)
  have HN : Hid (∀ W', Below W.heap.size W W' → Calls Tryd.prog 69 #[.pointer (some ⟨b, 0, none⟩), .pointer (some ⟨g, o, none⟩)] W' fun e w' => e = .returned (.bool (nodeOk E t)) ∧ Below W'.heap.size W' w') := Lib.hid (fun W' hW' => impl_vnode E hE b t W' g o (ck_at (HS.out.2.1.later hW')) ((TreeAt.mono (subw_below TW) t ht).later hW') ((hT.later TW).later hW') p0 p1 hb)
  have HA : Hid (∀ W', Calls Tryd.prog 70 #[.agg #[.bool loop, .bool made], .int .i64 t.kind] W' fun e w' => e = .returned (.bool (Co.admit t.kind loop made)) ∧ Below W'.heap.size W' w') := Lib.hid (fun W' => impl_admit t.kind loop made W')
  rw [hz] at HN
  rw [hu] at HA
  have HKid : Hid (∀ (j : Nat) (hj : j < t.kids.length), ∃ g1 o1, a = some ⟨g1, o1, none⟩ ∧ ∀ (W' : World) (m : Int) (lp md : Bool), Below W0.heap.size W0 W' → Var W' b (ckL E m) → 0 ≤ m → m ≤ 40000 → Calls Tryd.prog 36 #[.pointer (some ⟨b, 0, none⟩), .pointer (some ⟨g1, o1 + j * 6, none⟩), .int .i64 ((d : Int) + 1), .agg #[.bool lp, .bool md]] W' (RetVld W' b E m t.kids[j] (t.kids[j].ok E lp md ((d : Int) + 1) && decide (m + t.kids[j].count ≤ 40000)))) := Lib.hid (fun j hj => by
    obtain ⟨g1, o1, ha, hti⟩ := kids_at hk j hj
    refine ⟨g1, o1, ha, fun W' m lp md h1 h2 h3 h4 => ?_⟩
    have hkb := kid_bulk j hj
    have h := HI t.kids[j] (List.getElem_mem hj) (by omega) (Co.oks_mem (ok_oks hok) (List.getElem_mem hj)) W0 W' b g1 (o1 + j * 6) (d + 1) m lp md hti hT h1 hbb h2 h3 h4 (by omega)
    rw [show (((d + 1 : Nat)) : Int) = (d : Int) + 1 by omega] at h
    exact h)
  have HO : Hid (∀ (j : Nat) (W' : World), Calls Tryd.prog 71 #[.agg #[.bool loop, .bool made], .int .i64 t.kind, .int .i64 (j : Int)] W' fun e w' => e = .returned (.agg #[.bool (Co.kLoop t.kind loop j), .bool (made || decide (t.kind = 26))]) ∧ Below W'.heap.size W' w') := Lib.hid (fun j W' => impl_okid t.kind j loop made W')
  have hwd : IntKind.i64.wrap ((d : Int) + 1) = (d : Int) + 1 := by rw [IntKind.wrap_i64]; omega
  have HBB := Lib.hid hbb
  have HLT := Lib.hid hlt
  have h0n := Lib.hid h0
  have HXY := Lib.hid hx
  have hln : t.kids.length ≤ 1048576 := by omega
  have HC := Lib.hid hcnt
  clear HI hcnt hbe
  clear ht hT hw hbb hv h0 hn hW hpos hlt hE hok hb TW e5 hk p0 p1 hz hu hx hy q0 q5
  go_enter Tryd.func36, Tryd.ntmps36
  go_wp2_with fail
  rw [HW.out]
  go_region_held3 (fun W' => W'.cell? ⟨b, 4, none⟩ = some (.int .i64 (n + 1)) ∧ W'.cell? ⟨w.heap.size, 0, none⟩ = some (.bool loop) ∧ W'.cell? ⟨w.heap.size, 1, none⟩ = some (.bool made) ∧ W'.cell? ⟨g, o, none⟩ = some (.int .i64 t.kind) ∧ Below W.heap.size W W')
    (first | exact HD.out _ ((Below.refl _ _).drew) | exact HD.out _ (below_then ((Below.refl _ _).drew) (by assumption)) | (go_split_ands; exact HD.out _ (below_then (by assumption) (by assumption))))
    (first | (go_at_call 69; refine (HN.out _ ?_).mono ?_; (first | exact (Below.refl _ _).drew | (go_split_ands; assumption)); rintro e w1 ⟨rfl, hb1⟩) | (go_at_call 70; refine (HA.out _).mono ?_; rintro e w2 ⟨rfl, hb2⟩))
  have hb9 := by go_split_ands; assumption
  have HB9 : Hid (Below W.heap.size W w2) := Lib.hid (by go_split_ands; assumption)
  clear hb1 hb2
  have S2 := Lib.hid (HS.out.later HB9.out)
  have y5 := cell_later HB9.out HE5.out
  clear HS HB9 d4 x0 x1 e0 HD HN HA HW c4 f4
  go_wp2
  go_loopw [46, 9] (fun i il wr => ∃ j : Nat, i = .int .i64 j ∧ j ≤ t.kids.length ∧ Co.oks E (t.kids.take j) t.kind loop (made || decide (t.kind = 26)) ((d : Int) + 1) 0 = true ∧ n + 1 + (Co.counts (t.kids.take j) : Nat) ≤ 40000 ∧ StV W0 w b E loop made (n + 1 + (Co.counts (t.kids.take j) : Nat)) wr) (fun i _ _ => t.kids.length - (intOf i).toNat)
  case atStart =>
    refine ⟨0, rfl, Nat.zero_le _, by rw [List.take_zero, Co.oks], ?_, ?_⟩
    · have := HXY.out; simp [Co.counts]; omega
    · simpa [Co.counts] using S2.out
  case round =>
    clear y5 S2
    obtain ⟨j, rfl, hj, hok, hle, hst⟩ := hrel
    have HST := Lib.hid hst
    have HOKJ := Lib.hid hok
    have HLE := Lib.hid hle
    have f0 := subw_below hst.1 _ _ _ HQ.out
    have f5 := subw_below hst.1 _ _ _ HQ5.out
    obtain ⟨x0, _⟩ := hst.2.2.1 0 _ rfl
    obtain ⟨x1, _⟩ := hst.2.2.1 1 _ rfl
    clear hst hok hle
    by_cases hjl : j < t.kids.length
    · have hn9 : 0 ≤ n + 1 + (Co.counts (t.kids.take j) : Nat) := by have := h0n.out; omega
      obtain ⟨r, hr⟩ : ∃ r, (t.kids[j].ok E (Co.kLoop t.kind loop j) (made || decide (t.kind = 26)) ((d : Int) + 1) && decide (n + 1 + (Co.counts (t.kids.take j) : Nat) + t.kids[j].count ≤ 40000)) = r := ⟨_, rfl⟩
      obtain ⟨g1, o1, rfl, hk0⟩ := HKid.out j hjl
      have HKK : Hid (∀ W', Below wr.heap.size wr W' → Calls Tryd.prog 36 #[.pointer (some ⟨b, 0, none⟩), .pointer (some ⟨g1, o1 + j * 6, none⟩), .int .i64 ((d : Int) + 1), .agg #[.bool (Co.kLoop t.kind loop j), .bool (made || decide (t.kind = 26))]] W' (RetVld W' b E (n + 1 + (Co.counts (t.kids.take j) : Nat)) t.kids[j] r)) := Lib.hid (fun W' hW' => by
        have h := hk0 W' (n + 1 + (Co.counts (t.kids.take j) : Nat)) (Co.kLoop t.kind loop j) (made || decide (t.kind = 26)) (below_then HST.out.1 hW') (HST.out.2.1.later hW') hn9 HLE.out
        rw [hr] at h
        exact h)
      have HOJ := Lib.hid (HO.out j)
      have HNO : Hid (r = false → (t.ok E loop made d && decide (n + t.count ≤ 40000)) = false) := Lib.hid (fun h => by
        subst h
        rw [Bool.and_eq_false_iff] at hr ⊢
        rcases hr with hr | hr
        · left; rw [HOK.out]; exact Co.oks_bad E t.kids t.kind loop _ _ j hjl hr
        · right
          rw [decide_eq_false_iff_not] at hr ⊢
          have h1 := HC.out
          have h2 := Co.counts_take t.kids j hjl
          have h3 := Co.counts_take_le t.kids (j + 1)
          omega)
      have HYES : Hid (r = true → Co.oks E (t.kids.take (j + 1)) t.kind loop (made || decide (t.kind = 26)) ((d : Int) + 1) 0 = true ∧ n + 1 + (Co.counts (t.kids.take (j + 1)) : Nat) ≤ 40000 ∧ n + 1 + (Co.counts (t.kids.take j) : Nat) + t.kids[j].count = n + 1 + (Co.counts (t.kids.take (j + 1)) : Nat)) := Lib.hid (fun h => by
        subst h
        rw [Bool.and_eq_true, decide_eq_true_iff] at hr
        have h2 := Co.counts_take t.kids j hjl
        refine ⟨?_, by omega, by omega⟩
        rw [Co.oks_take E t.kids t.kind loop _ _ j hjl, HOKJ.out, hr.1]
        rfl)
      have j0 : (0 : Int) ≤ j := by omega
      have j1 : (j : Int) < t.kids.length := by omega
      have hw2 : IntKind.i64.wrap ((j : Int) + 1) = (j : Int) + 1 := by rw [IntKind.wrap_i64]; omega
      clear hk0 HKid hr hn9 HOKJ HLE HO
      generalize t.kids[j] = x at HKK HYES
      generalize Co.kLoop t.kind loop j = lp at HOJ HKK
      generalize (made || decide (t.kind = 26)) = md at HOJ HKK HYES HOK
      have F0 := Lib.hid f0
      have F5 := Lib.hid f5
      have X0 := Lib.hid x0
      have X1 := Lib.hid x1
      clear f0 f5 x0 x1
      go_wp2_with fail
      refine wp_region_by 16 68 rfl (by kernel_rfl) (by kernel_rfl) rfl (by kernel_rfl) (fun _ W => Below wr.heap.size wr W) ((Below.refl _ _).drew) (fun _ W W' => Below W.heap.size W W') (FV (vv7 b g o g1 o1 j t.kids.length c d loop made t.kind lp md)) (fun L j i v w1 w2 _ _ _ _ h => h) ?hop ?hend
      case hop =>
        refine ⟨?_, ?_, ?_, ?_, ?_, ?_, ?_, ?_, ?_, ?_, ?_, ?_, ?_, ?_, ?_, ?_, trivial⟩
        · intro L vs A w1 hev hL hI hd
          have s0 : A.tmps[0]?.getD undef = .pointer (some ⟨b, 0, none⟩) := hev.2 0 (by kernel_rfl)
          go_wp2
          exact ⟨_, rfl, Below.refl _ _, hI, rfl⟩
        · intro L vs A w1 hev hL hI hd
          have s1 : A.tmps[1]?.getD undef = .pointer (some ⟨g, o, none⟩) := hev.2 1 (by kernel_rfl)
          go_wp2
          exact ⟨_, rfl, Below.refl _ _, hI, rfl⟩
        · intro L vs A w1 hev hL hI hd
          have h1 : vs 1 = .pointer (some ⟨g, o, none⟩) := hd 1 (by kernel_rfl)
          have e50 := (hev.1 1 _ 50 rfl rfl).trans h1
          go_wp2
          exact ⟨_, rfl, Below.refl _ _, hI, rfl⟩
        · intro L vs A w1 hev hL hI hd
          have h2 : vs 2 = .pointer (some ⟨g, o, none⟩) := hd 2 (by kernel_rfl)
          have e51 := (hev.1 2 _ 51 rfl rfl).trans h2
          go_wp2
          exact ⟨_, rfl, Below.refl _ _, hI, rfl⟩
        · intro L vs A w1 hev hL hI hd
          have h3 : vs 3 = .pointer (some ⟨g, o + 5, none⟩) := hd 3 (by kernel_rfl)
          have e52 := (hev.1 3 _ 52 rfl rfl).trans h3
          have f9 := subw_below hI _ _ _ F5.out
          go_wp2
          exact ⟨_, rfl, Below.refl _ _, hI, rfl⟩
        · intro L vs A w1 hev hL hI hd
          have s9 : A.tmps[9]?.getD undef = .int .i64 (j : Int) := hev.2 9 (by kernel_rfl)
          go_wp2
          exact ⟨_, rfl, Below.refl _ _, hI, rfl⟩
        · intro L vs A w1 hev hL hI hd
          have h4 : vs 4 = .slice (some ⟨g1, o1, none⟩) t.kids.length c := hd 4 (by kernel_rfl)
          have e53 := (hev.1 4 _ 53 rfl rfl).trans h4
          have h5 : vs 5 = .int .i64 (j : Int) := hd 5 (by kernel_rfl)
          have e54 := (hev.1 5 _ 54 rfl rfl).trans h5
          go_wp2
          exact ⟨_, rfl, Below.refl _ _, hI, rfl⟩
        · intro L vs A w1 hev hL hI hd
          have s2 : A.tmps[2]?.getD undef = .int .i64 (d : Int) := hev.2 2 (by kernel_rfl)
          go_wp2
          exact ⟨_, rfl, Below.refl _ _, hI, rfl⟩
        · intro L vs A w1 hev hL hI hd
          have h7 : vs 7 = .int .i64 (d : Int) := hd 7 (by kernel_rfl)
          have e56 := (hev.1 7 _ 56 rfl rfl).trans h7
          go_wp2
          exact ⟨_, rfl, Below.refl _ _, hI, rfl⟩
        · intro L vs A w1 hev hL hI hd
          have s7 : A.tmps[7]?.getD undef = .pointer (some ⟨w.heap.size, 0, none⟩) := hev.2 7 (by kernel_rfl)
          have z0 := subw_below hI _ _ _ X0.out
          have z1 := subw_below hI _ _ _ X1.out
          go_wp2
          exact ⟨_, rfl, Below.refl _ _, hI, rfl⟩
        · intro L vs A w1 hev hL hI hd
          have s1 : A.tmps[1]?.getD undef = .pointer (some ⟨g, o, none⟩) := hev.2 1 (by kernel_rfl)
          go_wp2
          exact ⟨_, rfl, Below.refl _ _, hI, rfl⟩
        · intro L vs A w1 hev hL hI hd
          have h10 : vs 10 = .pointer (some ⟨g, o, none⟩) := hd 10 (by kernel_rfl)
          have e59 := (hev.1 10 _ 59 rfl rfl).trans h10
          go_wp2
          exact ⟨_, rfl, Below.refl _ _, hI, rfl⟩
        · intro L vs A w1 hev hL hI hd
          have h11 : vs 11 = .pointer (some ⟨g, o, none⟩) := hd 11 (by kernel_rfl)
          have e60 := (hev.1 11 _ 60 rfl rfl).trans h11
          go_wp2
          exact ⟨_, rfl, Below.refl _ _, hI, rfl⟩
        · intro L vs A w1 hev hL hI hd
          have h12 : vs 12 = .pointer (some ⟨g, o, none⟩) := hd 12 (by kernel_rfl)
          have e61 := (hev.1 12 _ 61 rfl rfl).trans h12
          have f9 := subw_below hI _ _ _ F0.out
          go_wp2
          exact ⟨_, rfl, Below.refl _ _, hI, rfl⟩
        · intro L vs A w1 hev hL hI hd
          have s9 : A.tmps[9]?.getD undef = .int .i64 (j : Int) := hev.2 9 (by kernel_rfl)
          go_wp2
          exact ⟨_, rfl, Below.refl _ _, hI, rfl⟩
        · intro L vs A w1 hev hL hI hd
          have h9 : vs 9 = .agg #[.bool loop, .bool made] := hd 9 (by kernel_rfl)
          have e58 := (hev.1 9 _ 58 rfl rfl).trans h9
          have h13 : vs 13 = .int .i64 t.kind := hd 13 (by kernel_rfl)
          have e62 := (hev.1 13 _ 62 rfl rfl).trans h13
          have h14 : vs 14 = .int .i64 (j : Int) := hd 14 (by kernel_rfl)
          have e63 := (hev.1 14 _ 63 rfl rfl).trans h14
          go_wp2_with fail
          (with_reducible refine (HOJ.out _).mono ?_)
          rintro e w8 ⟨rfl, b8⟩
          have B8 := Lib.hid b8
          clear b8
          go_wp2
          exact ⟨_, rfl, B8.out, below_then hI B8.out, rfl⟩
      case hend =>
        intro L vs w8 hL hI hd
        have h0 : vs 0 = .pointer (some ⟨b, 0, none⟩) := hd 0 (by omega)
        have h6 : vs 6 = .pointer (some ⟨g1, o1 + j * 6, none⟩) := hd 6 (by omega)
        have h8 : vs 8 = .int .i64 ((d : Int) + 1) := hd 8 (by omega)
        have h15 : vs 15 = .agg #[.bool lp, .bool md] := hd 15 (by omega)
        have B8 := Lib.hid hI
        clear hd hI hL
        simp only [List.take_succ_cons, List.take_zero, putsA, List.drop_succ_cons, List.drop_zero]
        go_wp2_with fail
        (with_reducible refine (HKK.out _ B8.out).mono ?_)
        rintro e w9 ⟨rfl, hg9, m9, hv9, hm9⟩
        have S9 := Lib.hid ((HST.out.later B8.out).turn hg9 hv9 HBB.out HLT.out)
        have M9 := Lib.hid hm9
        clear hg9 hv9 hm9 HKK HOJ B8
        cases r
        case false =>
          have HN := Lib.hid (HNO.out rfl)
          go_wp2
          go_ret
          exact ret_no HN.out S9.out.2.2.2 S9.out.2.1
        case true =>
          obtain ⟨hy1, hy2, hy3⟩ := HYES.out rfl
          have HY1 := Lib.hid hy1
          have HY2 := Lib.hid hy2
          have HM : Hid (m9 = n + 1 + (Co.counts (t.kids.take (j + 1)) : Nat)) := Lib.hid ((M9.out rfl).trans hy3)
          clear hy1 hy2 hy3
          go_wp2
          go_roundw
          case rel => exact ⟨j + 1, by go_num, by omega, HY1.out, HY2.out, by have h := S9.out; rw [HM.out] at h; exact h⟩
          case measure => first | (simp [intOf]; done) | (simp [intOf]; omega)
    · obtain rfl : j = t.kids.length := by omega
      have HR : Hid ((t.ok E loop made d && decide (n + t.count ≤ 40000)) = true ∧ n + 1 + (Co.counts (t.kids.take t.kids.length) : Nat) = n + t.count) := Lib.hid (by
        have h1 := HC.out
        have h2 := HOKJ.out
        have h3 := HLE.out
        rw [List.take_length] at h2 h3 ⊢
        rw [HOK.out, h2, decide_eq_true (by omega)]
        exact ⟨rfl, by omega⟩)
      clear HOKJ HLE
      go_wp2
      go_ret
      refine ⟨congrArg (fun x => Ending.returned (.bool x)) HR.out.1.symm, HST.out.2.2.2, _, HST.out.2.1, fun _ => HR.out.2⟩
set_option maxHeartbeats 800000 in
theorem impl_vld (E : Co.Env) (hE : EnvS E) : ∀ (N : Nat) (t : Co.T), t.count ≤ N → VldT E t := by
  intro N
  induction N with
  | zero => intro t h; have := Co.count_pos t; omega
  | succ N ih =>
    intro t hN hb hok W0 w b g o d n loop made ht hT hw hbb hv h0 hn hd
    by_cases hx : 40000 < n + 1
    · exact vld_many E hE t hb hok W0 w b g o d n loop made ht hT hw hbb hv h0 hn hd hx
    by_cases hy : 400 < (d : Int)
    · exact vld_deep E hE t hb hok W0 w b g o d n loop made ht hT hw hbb hv h0 hn hd hx hy
    cases hz : nodeOk E t
    · exact vld_node E hE t hb hok W0 w b g o d n loop made ht hT hw hbb hv h0 hn hd hx hy hz
    cases hu : Co.admit t.kind loop made
    · exact vld_admit E hE t hb hok W0 w b g o d n loop made ht hT hw hbb hv h0 hn hd hx hy hz hu
    exact vld_go E hE t hb hok W0 w b g o d n loop made ht hT hw hbb hv h0 hn hd hx hy hz hu (fun x hxm => ih x (by have := kids_count hxm; omega))
end Go.Proofs.YtbadepiakkhabaaDoor.Cr
/- The laws' copy of a tree. No conditions. -/
namespace Go.Proofs.YtbadepiakkhabaaDoor
open Go.RowKit
set_option linter.unusedVariables false

theorem info_expr : (Tryd.prog.info? 105).map (fun i => (i.zero, i.size, i.bytes)) = some (some (.agg #[.int .i64 0, .string ByteArray.empty, .int .i64 0, .int .i64 0, .slice none 0 0]), 5, 64) := by kernel_rfl
theorem foot_if {B : Nat} {w : World} {g : Nat} {G : List Nat} {l : List Ex.T} (hB : B ≤ g) (h : ∀ b ∈ G, g < b ∧ b < w.heap.size) (hg : g < w.heap.size) : Foot B w (if l = [] then [] else g :: G) := by
  intro b hb
  split at hb
  · cases hb
  · rcases List.mem_cons.1 hb with rfl | hb
    · exact ⟨hB, hg⟩
    · have := h b hb; exact ⟨by omega, this.2⟩
theorem FillAt.done {w wr : World} {g : Nat} {ks : List Ex.T} (h : FillAt w g ks ks.length wr) (hg : w.heap.size ≤ g) : RetK w ks (.returned (.slice (some ⟨g, 0, none⟩) ks.length ks.length)) wr := by
  obtain ⟨xs, G, hr, hR, hG, hB⟩ := h
  rw [List.take_length] at hR
  exact ⟨_, _, rfl, ownK_of hr hR (fun h => by have := (hG g h).1; omega), foot_if hg hG hr.lt, hB⟩
theorem FillAt.later {w wr w1 : World} {g k : Nat} {ks : List Ex.T} (h : FillAt w g ks k wr) (j : Nat) (hj : j < ks.length * 5) (hb : Below wr.heap.size wr w1) : (∃ u, w1.cell? ⟨g, j, none⟩ = some u) ∧ w1.frozen? ⟨g, j, none⟩ = false := by
  obtain ⟨xs, G, hr, _⟩ := h
  exact (hr.keep (hb.block g hr.lt)).cell j hj

end Go.Proofs.YtbadepiakkhabaaDoor
/- Rows of trees by the values of their cells, each tree's lists in blocks of its own; a tree without lines. No conditions. -/
namespace Go.Proofs.YtbadepiakkhabaaDoor
open Go.RowKit
set_option linter.unusedVariables false

mutual
/-- A tree with every line 0. -/
def Ex.T.erase : Ex.T → Ex.T
  | .node k t n _ ks => .node k t n 0 (Ex.erases ks)
def Ex.erases : List Ex.T → List Ex.T
  | [] => []
  | x :: r => x.erase :: Ex.erases r
end
theorem Ex.erases_map (l : List Ex.T) : Ex.erases l = l.map Ex.T.erase := by
  induction l with
  | nil => simp [Ex.erases]
  | cons x r ih => rw [Ex.erases, ih]; rfl
theorem Ex.erase_eq (t : Ex.T) : t.erase = .node t.kind t.text t.num 0 (Ex.erases t.kids) := by cases t; rw [Ex.T.erase]; rfl
theorem Ex.erase_kind (t : Ex.T) : t.erase.kind = t.kind := by cases t; rw [Ex.T.erase]; rfl
theorem Ex.erase_text (t : Ex.T) : t.erase.text = t.text := by cases t; rw [Ex.T.erase]; rfl
theorem Ex.erase_num (t : Ex.T) : t.erase.num = t.num := by cases t; rw [Ex.T.erase]; rfl
theorem Ex.erase_line (t : Ex.T) : t.erase.line = 0 := by cases t; rw [Ex.T.erase]; rfl
theorem Ex.erase_kids (t : Ex.T) : t.erase.kids = Ex.erases t.kids := by cases t; rw [Ex.T.erase]; rfl
/-- A tree of a row: the tree, the value of its list, the blocks of its lists. -/
abbrev El := Ex.T × Value × List Nat
/-- The cells of a row of trees. -/
def rowV (l : List El) : List Value := l.flatMap fun p => [.int .i64 p.1.kind, .string p.1.text, .int .i64 p.1.num, .int .i64 p.1.line, p.2.1]
theorem rowV_cons (p : El) (l : List El) : rowV (p :: l) = Value.int .i64 p.1.kind :: Value.string p.1.text :: Value.int .i64 p.1.num :: Value.int .i64 p.1.line :: p.2.1 :: rowV l := rfl
theorem rowV_app (a b : List El) : rowV (a ++ b) = rowV a ++ rowV b := by unfold rowV; rw [List.flatMap_append]
theorem rowV_len (l : List El) : (rowV l).length = l.length * 5 := by
  induction l with
  | nil => rfl
  | cons p l ih => rw [rowV_cons]; simp [ih]; omega
theorem rowV_get : ∀ (l : List El) (i : Nat) (h : i < l.length), (rowV l)[i * 5]? = some (.int .i64 l[i].1.kind) ∧ (rowV l)[i * 5 + 1]? = some (.string l[i].1.text) ∧ (rowV l)[i * 5 + 2]? = some (.int .i64 l[i].1.num) ∧ (rowV l)[i * 5 + 3]? = some (.int .i64 l[i].1.line) ∧ (rowV l)[i * 5 + 4]? = some l[i].2.1 := by
  intro l
  induction l with
  | nil => intro i h; simp at h
  | cons p l ih =>
    intro i h
    rw [rowV_cons]
    match i with
    | 0 => exact ⟨rfl, rfl, rfl, rfl, rfl⟩
    | i + 1 =>
      have h2 := ih i (by simpa using h)
      rw [show (i + 1) * 5 = i * 5 + 5 by omega]
      exact h2
theorem rowV_set (x : El) : ∀ (l : List El) (i : Nat), i < l.length → (((((rowV l).set (i * 5) (.int .i64 x.1.kind)).set (i * 5 + 1) (.string x.1.text)).set (i * 5 + 2) (.int .i64 x.1.num)).set (i * 5 + 3) (.int .i64 x.1.line)).set (i * 5 + 4) x.2.1 = rowV (l.set i x) := by
  intro l
  induction l with
  | nil => intro i h; simp at h
  | cons p l ih =>
    intro i h
    match i with
    | 0 => rw [rowV_cons]; rfl
    | i + 1 =>
      have h2 := ih i (by simpa using h)
      rw [show (p :: l).set (i + 1) x = p :: l.set i x from rfl, rowV_cons, rowV_cons, ← h2, show (i + 1) * 5 = i * 5 + 5 by omega]
      rfl
/-- Each tree's lists lie in blocks of its own. -/
def Els (w : World) (l : List El) : Prop := (∀ p ∈ l, OwnK w p.2.1 p.1.kids p.2.2) ∧ l.Pairwise (fun p q => ∀ b ∈ p.2.2, b ∉ q.2.2)
def elsF (l : List El) : List Nat := l.flatMap fun p => p.2.2
theorem elsF_mem {l : List El} {p : El} (h : p ∈ l) {b : Nat} (hb : b ∈ p.2.2) : b ∈ elsF l := List.mem_flatMap.2 ⟨p, h, hb⟩
theorem Els.nil (w : World) : Els w [] := ⟨(fun p h => by cases h), List.Pairwise.nil⟩
theorem Els.keep {w w' : World} {l : List El} (h : Els w l) (hb : ∀ b ∈ elsF l, w'.heap[b]? = w.heap[b]?) : Els w' l :=
  ⟨fun p hp => OwnK.keep _ (fun b hb2 => hb b (elsF_mem hp hb2)) (h.1 p hp), h.2⟩
theorem Els.snoc {w : World} {l : List El} {p : El} (h : Els w l) (hp : OwnK w p.2.1 p.1.kids p.2.2) (hd : ∀ b ∈ elsF l, b ∉ p.2.2) : Els w (l ++ [p]) := by
  refine ⟨fun q hq => ?_, ?_⟩
  · rcases List.mem_append.1 hq with hq | hq
    · exact h.1 q hq
    · rw [List.mem_singleton] at hq; subst hq; exact hp
  · rw [List.pairwise_append]
    refine ⟨h.2, List.pairwise_singleton _ _, fun a ha b hb c hc => ?_⟩
    rw [List.mem_singleton] at hb; subst hb
    exact hd c (elsF_mem ha hc)
theorem elsF_snoc (l : List El) (p : El) : elsF (l ++ [p]) = elsF l ++ p.2.2 := by simp [elsF]
/-- Where a row's cells are known. -/
def RowCells (w : World) (g o : Nat) (l : List El) : Prop := ∀ (j : Nat), j < l.length * 5 → w.cell? ⟨g, o + j, none⟩ = (rowV l)[j]?
theorem RowCells.node {w : World} {g o : Nat} {l : List El} (h : RowCells w g o l) (i : Nat) (hi : i < l.length) : (w.cell? ⟨g, o + i * 5, none⟩ = some (.int .i64 l[i].1.kind) ∧ w.cell? ⟨g, o + i * 5 + 1, none⟩ = some (.string l[i].1.text) ∧ w.cell? ⟨g, o + i * 5 + 2, none⟩ = some (.int .i64 l[i].1.num) ∧ w.cell? ⟨g, o + i * 5 + 3, none⟩ = some (.int .i64 l[i].1.line)) ∧ w.cell? ⟨g, o + i * 5 + 4, none⟩ = some l[i].2.1 := by
  obtain ⟨a0, a1, a2, a3, a4⟩ := rowV_get l i hi
  have e : ∀ j, o + i * 5 + j = o + (i * 5 + j) := fun j => by omega
  refine ⟨⟨?_, ?_, ?_, ?_⟩, ?_⟩
  · rw [h _ (by omega), a0]
  · rw [e, h _ (by omega), a1]
  · rw [e, h _ (by omega), a2]
  · rw [e, h _ (by omega), a3]
  · rw [e, h _ (by omega), a4]
theorem rowE_cells {w : World} {g n cap : Nat} {l : List El} (hn : n = l.length) (h : RowE w g n cap (rowV l)) : RowCells w g 0 l := by
  subst hn
  intro j hj
  rw [Nat.zero_add]
  exact World.ownsRow.cellAt h j hj
theorem ownR_els {w : World} {g : Nat} : ∀ (l : List El) (o : Nat), RowCells w g o l → Els w l → OwnR w g o (l.map Prod.fst) (elsF l) := by
  intro l
  induction l with
  | nil => intro o _ _; rw [List.map_nil, OwnR]; rfl
  | cons p r ih =>
    intro o hc he
    rw [List.map_cons, OwnR]
    have h0 := hc.node 0 (by simp)
    rw [Nat.zero_mul, Nat.add_zero] at h0
    have hp := he.2
    rw [List.pairwise_cons] at hp
    refine ⟨p.2.2, elsF r, by simp [elsF], fun b hb hb2 => ?_, ownE_of h0.1 h0.2 (he.1 p List.mem_cons_self), ih (o + 5) ?_ ⟨fun q hq => he.1 q (List.mem_cons_of_mem _ hq), hp.2⟩⟩
    · obtain ⟨q, hq, hb3⟩ := List.mem_flatMap.1 hb2
      exact hp.1 q hq b hb hb3
    · intro j hj
      have h5 := hc (5 + j) (by rw [List.length_cons]; omega)
      rw [show o + (5 + j) = o + 5 + j by omega, rowV_cons, show 5 + j = j + 5 by omega] at h5
      exact h5
/-- A row that is known is a list of kids. -/
theorem ownK_els {w : World} {g cap : Nat} {l : List El} (hr : RowE w g l.length cap (rowV l)) (he : Els w l) (hg : g ∉ elsF l) : OwnK w (.slice (some ⟨g, 0, none⟩) l.length cap) (l.map Prod.fst) (if l.map Prod.fst = [] then [] else g :: elsF l) := by
  have h := ownK_of (w := w) (g := g) (c := cap) (xs := rowV l) (l := l.map Prod.fst) (G := elsF l) (by rw [List.length_map]; exact hr) (ownR_els l 0 (rowE_cells rfl hr) he) hg
  rw [List.length_map] at h; exact h
/-- A list of kids that came in, by its cells. -/
theorem kids_els {w : World} {a : Option Addr} {n c : Nat} {ks : List Ex.T} (h : Kids w (.slice a n c) ks) : ∃ l : List El, l.map Prod.fst = ks ∧ (∀ p ∈ l, p.2.2 = [] ∧ Kids w p.2.1 p.1.kids) ∧ (∀ g o, a = some ⟨g, o, none⟩ → RowCells w g o l) := by
  obtain ⟨a2, c2, e⟩ := kids_len h
  injection e with e1 e2 e3
  have key : ∀ (ks : List Ex.T) (g o : Nat), RowAt w g o ks → ∃ l : List El, l.map Prod.fst = ks ∧ (∀ p ∈ l, p.2.2 = [] ∧ Kids w p.2.1 p.1.kids) ∧ RowCells w g o l := by
    intro ks
    induction ks with
    | nil => intro g o _; exact ⟨[], rfl, (fun p h => by cases h), fun j hj => by simp at hj⟩
    | cons x r ih =>
      intro g o hr
      rw [RowAt] at hr
      obtain ⟨l, hl, hp, hc⟩ := ih g (o + 5) hr.2
      obtain ⟨⟨q0, q1, q2, q3⟩, v, q4, hk⟩ := tree_cells hr.1
      refine ⟨(x, v, []) :: l, by rw [List.map_cons, hl], fun p hp2 => ?_, fun j hj => ?_⟩
      · rcases List.mem_cons.1 hp2 with rfl | hp2
        · exact ⟨rfl, hk⟩
        · exact hp p hp2
      · rw [rowV_cons]
        match j with
        | 0 => exact q0
        | 1 => exact q1
        | 2 => exact q2
        | 3 => exact q3
        | 4 => exact q4
        | j + 5 =>
          have h5 := hc j (by rw [List.length_cons] at hj; omega)
          rw [show o + (j + 5) = o + 5 + j by omega]
          exact h5
  cases ks with
  | nil => exact ⟨[], rfl, (fun p h => by cases h), fun g o _ j hj => by simp at hj⟩
  | cons x r =>
    rw [Kids] at h
    obtain ⟨g, o, c3, e4, _, hx, hr⟩ := h
    injection e4 with e5 e6 e7
    obtain ⟨l, hl, hp, hc⟩ := key (x :: r) g o (by rw [RowAt]; exact ⟨hx, hr⟩)
    refine ⟨l, hl, hp, fun g2 o2 e8 => ?_⟩
    rw [e5] at e8
    injection e8 with e8
    injection e8 with e9 e10
    subst e9 e10
    exact hc
/-- An owned list, by its cells. -/
theorem ownR_elsOf {w : World} {g : Nat} : ∀ (ks : List Ex.T) (o : Nat) (G : List Nat), OwnR w g o ks G → ∃ l : List El, l.map Prod.fst = ks ∧ elsF l = G ∧ Els w l ∧ RowCells w g o l := by
  intro ks
  induction ks with
  | nil => intro o G h; rw [OwnR] at h; subst h; exact ⟨[], rfl, rfl, Els.nil _, fun j hj => by simp at hj⟩
  | cons x r ih =>
    intro o G h
    rw [OwnR] at h
    obtain ⟨G1, G2, rfl, hd, hx, hr⟩ := h
    obtain ⟨l, hl, rfl, he, hc⟩ := ih (o + 5) G2 hr
    cases x with
    | node k t n ln ks2 =>
      rw [OwnE] at hx
      obtain ⟨⟨q0, q1, q2, q3⟩, v, q4, hk⟩ := hx
      refine ⟨(.node k t n ln ks2, v, G1) :: l, by rw [List.map_cons, hl], by simp [elsF], ⟨fun p hp => ?_, ?_⟩, fun j hj => ?_⟩
      · rcases List.mem_cons.1 hp with rfl | hp
        · exact hk
        · exact he.1 p hp
      · rw [List.pairwise_cons]
        exact ⟨fun q hq b hb hb2 => hd b hb (elsF_mem hq hb2), he.2⟩
      · rw [rowV_cons]
        match j with
        | 0 => exact q0
        | 1 => exact q1
        | 2 => exact q2
        | 3 => exact q3
        | 4 => exact q4
        | j + 5 =>
          have h5 := hc j (by rw [List.length_cons] at hj; omega)
          rw [show o + (j + 5) = o + 5 + j by omega]
          exact h5
/-- A row's values are what its cells hold. -/
theorem rowE_vals {w : World} {g n cap : Nat} {xs : List Value} {l : List El} (h : RowE w g n cap xs) (hn : n = l.length) (hc : RowCells w g 0 l) : RowE w g n cap (rowV l) := by
  have e : xs = rowV l := by
    apply List.ext_getElem?
    intro j
    have hl := h.1
    by_cases hj : j < n * 5
    · have h1 := World.ownsRow.cellAt h j hj
      have h2 := hc j (by omega)
      rw [Nat.zero_add] at h2
      exact h1.symm.trans h2
    · rw [List.getElem?_eq_none (by omega), List.getElem?_eq_none (by rw [rowV_len]; omega)]
  rw [← e]; exact h
end Go.Proofs.YtbadepiakkhabaaDoor
/- slices.Clone of a list of kids. No conditions. -/
namespace Go.Proofs.YtbadepiakkhabaaDoor
open Go.RowKit
set_option linter.unusedVariables false

/-- A list of kids whose trees' cells are known; their own lists lie elsewhere. -/
def ShalK (B : Nat) (w : World) (v : Value) (l : List El) : Prop := (l = [] ∧ ∃ a c, v = .slice a 0 c) ∨ (l ≠ [] ∧ ∃ g c, v = .slice (some ⟨g, 0, none⟩) l.length c ∧ B ≤ g ∧ RowE w g l.length c (rowV l))
theorem rowE_base {w : World} {B g n cap : Nat} {xs : List Value} (h : w.ownsRow B 105 5 (.slice (some ⟨g, 0, none⟩) n cap) n xs) : RowE w g n cap xs := by
  refine ⟨h.1, ?_⟩
  rcases h.2 with hn | ⟨g2, cap2, cur, hv, hg, r⟩
  · exact .inl hn
  · exact .inr ⟨g2, cap2, cur, hv, Nat.zero_le _, r⟩
theorem rowV_one {w : World} {l : List El} (h : ∀ p ∈ l, p.2.2 = [] ∧ Kids w p.2.1 p.1.kids) : ∀ u ∈ rowV l, u.oneCell' = true := by
  intro u hu
  obtain ⟨p, hp, hu⟩ := List.mem_flatMap.1 hu
  obtain ⟨a, c, e⟩ := kids_len (h p hp).2
  simp only [List.mem_cons, List.not_mem_nil, or_false] at hu
  rcases hu with rfl | rfl | rfl | rfl | rfl
  · rfl
  · rfl
  · rfl
  · rfl
  · rw [e]; rfl
theorem rowCells_get {w : World} {g o : Nat} {l : List El} (h : RowCells w g o l) (j : Nat) (u : Value) (hj : (rowV l)[j]? = some u) : w.cell? ((⟨g, o, none⟩ : Addr).add j) = some u := by
  have hlt : j < l.length * 5 := by
    rw [← rowV_len]
    exact (List.getElem?_eq_some_iff.1 hj).1
  have e : (⟨g, o, none⟩ : Addr).add j = ⟨g, o + j, none⟩ := by unfold Addr.add; split <;> simp_all
  rw [e, h j hlt, hj]
theorem RowCells.later {w w' : World} {g o : Nat} {l : List El} (h : RowCells w g o l) (hb : Below w.heap.size w w') : RowCells w' g o l := fun j hj => by
  have h1 := h j hj
  rw [List.getElem?_eq_getElem (by rw [rowV_len]; exact hj)] at h1 ⊢
  exact subw_below hb _ _ _ h1
theorem own_zero {w : World} {B : Nat} {v : Value} (h : w.ownsRow B 105 5 v 0 []) : ∃ a c, v = .slice a 0 c := by
  rcases h.2 with ⟨rfl, _⟩ | ⟨g, cap, cur, rfl, _⟩
  · exact ⟨_, _, rfl⟩
  · exact ⟨_, _, rfl⟩
theorem own_some {w : World} {B n : Nat} {v : Value} {xs : List Value} (hn : n ≠ 0) (h : w.ownsRow B 105 5 v n xs) : ∃ g c, v = .slice (some ⟨g, 0, none⟩) n c ∧ B ≤ g ∧ RowE w g n c xs := by
  have h2 := h
  rcases h.2 with ⟨_, hz⟩ | ⟨g, cap, cur, rfl, hg, _⟩
  · exact absurd hz hn
  · exact ⟨g, cap, rfl, hg, rowE_base h2⟩
theorem kids_some {w : World} {v : Value} {l : List El} (hk : Kids w v (l.map Prod.fst)) (hl : l ≠ []) : ∃ g o c, v = .slice (some ⟨g, o, none⟩) l.length c := by
  cases l with
  | nil => exact absurd rfl hl
  | cons p r =>
    rw [List.map_cons, Kids] at hk
    obtain ⟨g, o, c, e, _⟩ := hk
    rw [List.length_map] at e
    exact ⟨g, o, c, e⟩
end Go.Proofs.YtbadepiakkhabaaDoor
/- Numbers of nodes and depths in the reference model. No conditions. -/
namespace Go.Proofs.YtbadepiakkhabaaDoor
open Go.RowKit
set_option linter.unusedVariables false

theorem count_eq (t : Ex.T) : t.count = 1 + Ex.counts t.kids := by cases t; rw [Ex.T.count]; rfl
theorem deep_eq (t : Ex.T) : t.deep = Ex.deeps t.kids + 1 := by cases t; rw [Ex.T.deep]; rfl
theorem small_count {t : Ex.T} (h : t.bulk ≤ 1048576) : t.count ≤ 1048577 := by have := Ex.count_bulk _ t (Nat.le_refl _); omega
theorem small_deep {t : Ex.T} (h : t.bulk ≤ 1048576) : t.deep ≤ 1048577 := by have h1 := Ex.deep_count _ t (Nat.le_refl _); have := small_count h; omega
/-- Where a count stands. -/
def CntAt (ks : List Ex.T) (k m : Nat) : Prop := m = 1 + Ex.counts (ks.take k)
theorem CntAt.next {ks : List Ex.T} {k m : Nat} (h : CntAt ks k m) (hk : k < ks.length) : CntAt ks (k + 1) (m + ks[k].count) := by
  unfold CntAt at h ⊢
  rw [Ex.counts_take ks k hk]; omega
theorem CntAt.le {ks : List Ex.T} {k m : Nat} (h : CntAt ks k m) : m ≤ 1 + Ex.counts ks := by
  unfold CntAt at h
  have := Ex.counts_take_le ks k; omega
theorem CntAt.over {ks : List Ex.T} {m : Nat} (h : CntAt ks ks.length m) : m = 1 + Ex.counts ks := by
  unfold CntAt at h
  rw [List.take_length] at h; exact h
/-- Where a depth stands. -/
def DepAt (ks : List Ex.T) (k m : Nat) : Prop := m = Ex.deeps (ks.take k)
theorem DepAt.next {ks : List Ex.T} {k m : Nat} (h : DepAt ks k m) (hk : k < ks.length) : DepAt ks (k + 1) (max m ks[k].deep) := by
  unfold DepAt at h ⊢
  rw [Ex.deeps_take ks k hk, h]
theorem deeps_take_le (l : List Ex.T) (k : Nat) : Ex.deeps (l.take k) ≤ Ex.deeps l := by
  induction l generalizing k with
  | nil => simp [Ex.deeps]
  | cons y l ih =>
    cases k with
    | zero => simp [Ex.deeps]
    | succ k => rw [List.take_succ_cons, Ex.deeps, Ex.deeps]; have := ih k; omega
theorem DepAt.le {ks : List Ex.T} {k m : Nat} (h : DepAt ks k m) : m ≤ Ex.deeps ks := by
  unfold DepAt at h
  have := deeps_take_le ks k; omega
theorem DepAt.over {ks : List Ex.T} {m : Nat} (h : DepAt ks ks.length m) : m = Ex.deeps ks := by
  unfold DepAt at h
  rw [List.take_length] at h; exact h
theorem max_nat (a b : Nat) : max (a : Int) (b : Int) = ((max a b : Nat) : Int) := by omega
end Go.Proofs.YtbadepiakkhabaaDoor
