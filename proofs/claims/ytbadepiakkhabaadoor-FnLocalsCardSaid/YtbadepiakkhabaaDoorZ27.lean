/- Joined texts: U18, V30, V33, V36. No conditions besides those that each states. -/
import Derived.Test.YtbadepiakkhabaaDoorZ4
import Derived.Test.YtbadepiakkhabaaDoorZ7
import Derived.Test.YtbadepiakkhabaaDoorZ11
import Derived.Test.YtbadepiakkhabaaDoorZ12
import Derived.Test.YtbadepiakkhabaaDoorZ20
import Derived.Test.YtbadepiakkhabaaDoorZ25
import Derived.Test.YtbadepiakkhabaaDoorZ26
/- The program's copy of a list of texts; rows that are written over. No conditions. -/
namespace Go.Proofs.YtbadepiakkhabaaDoor
open Go.RowKit
set_option linter.unusedVariables false

theorem txt_bound {l : List ByteArray} (h : strsB l ≤ 1048576) : ∀ s ∈ l, (s.size : Int) ≤ 1048576 := fun s hs => by
  have := wsum_mem ByteArray.size hs
  unfold strsB at h
  omega
theorem any_len (z : Nat) : (List.replicate z D.any).length = z := List.length_replicate
set_option maxRecDepth 100000 in
set_option maxHeartbeats 1600000 in
theorem impl_texts (v : Value) (l : List ByteArray) (w : World) (hk : Is w (strsD l) v) (hb : strsB l ≤ 1048576) : Calls Tryd.prog 44 #[v] w (RetD w (strsD l)) := by
  have hln : l.length ≤ 1048576 := by unfold strsB at hb; omega
  have HC := Lib.hid (clone_str v l w hk hln)
  unfold RetAny at HC
  have HZ := Lib.hid (txt_bound hb)
  obtain ⟨a, c, rfl⟩ := is_slice hk
  have HK := Lib.hid hk
  clear hk hb
  by_cases h0 : l = []
  · subst h0
    go_enter Tryd.func44, Tryd.ntmps44
    go_wp2_with fail
    refine HC.out.mono ?_
    rintro e w1 ⟨v1, rfl, hr, b1⟩
    obtain ⟨a1, c1, rfl⟩ : ∃ a1 c1, v1 = .slice a1 0 c1 := by
      rcases hr with ⟨_, a1, c1, e⟩ | ⟨h, _⟩
      · exact ⟨a1, c1, e⟩
      · exact absurd rfl h
    have B1 := Lib.hid b1
    clear hr b1
    go_wp2
    go_loopw [4, 5, 10] (fun _ _ i wr => i = .int .i64 0 ∧ wr = w1) (fun _ _ _ _ => 0)
    case atStart => exact ⟨rfl, rfl⟩
    case round =>
      obtain ⟨rfl, rfl⟩ := hrel
      go_wp2
      go_ret
      exact ⟨_, [], rfl, own_nil, (fun b hb => by cases hb), B1.out⟩
  · have H0 := Lib.hid h0
    clear h0
    go_enter Tryd.func44, Tryd.ntmps44
    go_wp2_with fail
    refine HC.out.mono ?_
    rintro e w1 ⟨v1, rfl, hr, b1⟩
    obtain ⟨g1, c1, rfl, hg, hrow, hgl⟩ : ∃ g1 c1, v1 = .slice (some ⟨g1, 0, none⟩) l.length c1 ∧ (l.length ≤ c1 ∧ w.heap.size ≤ g1) ∧ RowD w1 g1 0 (List.replicate (l.length * 1) D.any) (List.replicate (l.length * 1) []) ∧ g1 < w1.heap.size := by
      rcases hr with ⟨h, _⟩ | ⟨_, g1, c1, e, h1, h2, h3⟩
      · exact absurd (List.length_eq_zero_iff.1 h) H0.out
      · exact ⟨g1, c1, e, h1, h2, h3⟩
    have HST := Lib.hid (FillD.any (f := fun s => [D.str s]) (c := 0) hrow hgl b1)
    have HG := Lib.hid hg
    clear hr b1 hrow hgl HC
    go_wp2
    go_loopw [4, 5, 10] (fun _ _ i wr => ∃ k : Nat, i = .int .i64 k ∧ k ≤ l.length ∧ FillD (fun s => [D.str s]) (List.replicate 1 D.any) w g1 l k wr) (fun _ _ i _ => l.length - (intOf i).toNat)
    case atStart => exact ⟨0, rfl, Nat.zero_le _, HST.out⟩
    case round =>
      clear HST
      obtain ⟨k, rfl, hk, hat⟩ := hrel
      have HAT := Lib.hid hat
      have HB := Lib.hid hat.choose_spec.2.2.2
      by_cases hlt : k < l.length
      · obtain ⟨g, o, rfl, d1⟩ := str_at (HK.out.later HB.out) k hlt
        have HX := Lib.hid (clone8 l[k] wr (HZ.out _ (List.getElem_mem hlt)))
        have HN := Lib.hid (fun w2 (hb2 : Below wr.heap.size wr w2) es he ho hp => HAT.out.next (w1 := w2) (z := 1) (fun _ => rfl) (any_len 1) HG.out.2 hlt hb2 es he ho hp)
        have HF := Lib.hid (fun w2 hb => HAT.out.cell (w1 := w2) (z := 1) (fun _ => rfl) (any_len 1) (Nat.le_of_lt hlt) k (by omega) hb)
        have k0 : (0 : Int) ≤ k := by omega
        have k1 : (k : Int) < l.length := by omega
        clear hat HAT
        generalize l[k] = x at d1 HX HN
        go_wp2_with fail
        refine HX.out.mono ?_
        rintro e w2 ⟨rfl, hb2⟩
        have HN2 := Lib.hid (HN.out w2 hb2 [(.str x, .string x, [])] rfl (fun e he => by rw [List.mem_singleton] at he; subst he; exact ⟨own_str', fun b hb => by cases hb⟩) (List.pairwise_singleton _ _))
        obtain ⟨⟨e0, c0⟩, g0⟩ := HF.out w2 hb2
        rw [show k * 1 = k from Nat.mul_one k] at HN2
        clear hb2 HN HF
        go_wp2
        go_roundw
        case rel => exact ⟨k + 1, by go_num, by omega, HN2.out⟩
        case measure => first | (simp [intOf]; done) | (simp [intOf]; omega)
      · obtain rfl : k = l.length := by omega
        have HD := Lib.hid (HAT.out.done (cp := c1) (z := 1) (fun _ => rfl) (by decide) HG.out.2 HG.out.1)
        clear hat
        go_wp2
        go_ret
        obtain ⟨F, h1, h2, h3⟩ := HD.out
        rw [flat_str] at h1
        exact ⟨_, F, rfl, h1, h2, h3⟩
end Go.Proofs.YtbadepiakkhabaaDoor
/- The program's LocalNames and ResolveName. The table reads as the program's text lays it. -/
namespace Go.Proofs.YtbadepiakkhabaaDoor
open Go.RowKit
set_option linter.unusedVariables false

theorem strsB_app (a b : List ByteArray) : strsB (a ++ b) = strsB a + strsB b := by
  unfold strsB
  rw [wsum_app, List.length_append]; omega
theorem strsB_one (x : ByteArray) : strsB [x] = 1 + x.size := by unfold strsB; simp [wsum]
mutual
theorem coll_size (u : Un) : ∀ (t : Ex.T) (acc : List ByteArray), strsB (coll u t acc) ≤ strsB acc + (t.bulk + 1)
  | .node k t n l ks, acc => by
    rw [coll, Ex.T.bulk]
    have h := colls_size u ks acc
    split
    · split
      · rw [strsB_app, strsB_one]; omega
      · omega
    · omega
theorem colls_size (u : Un) : ∀ (ks : List Ex.T) (acc : List ByteArray), strsB (colls u ks acc) ≤ strsB acc + (ks.length + Ex.bulks ks)
  | [], acc => by rw [colls, Ex.bulks]; omega
  | x :: r, acc => by
    rw [colls, Ex.bulks, List.length_cons]
    have h1 := coll_size u x acc
    have h2 := colls_size u r (coll u x acc)
    omega
end
theorem locs_size {u : Un} (hb : u.bulk ≤ 1048576) {p : Pc} (hp : p ∈ u.procs) : strsB (locs u p) ≤ 1048576 := by
  have h1 := coll_size u p.body (p.params ++ p.locals)
  rw [strsB_app] at h1
  have h2 := wsum_mem Pc.bulk hp
  have h3 := List.length_pos_of_mem hp
  unfold locs
  unfold Un.bulk procsB at hb
  have h4 : p.bulk = p.name.size + (strsB p.params + (strsB p.locals + p.body.bulk)) := rfl
  omega
/-- Is the unit valid, and is there such a procedure? -/
def hasP (u : Un) (k : Int) : Bool := (decide (0 ≤ k) && decide (k < u.procs.length)) && u.valid
set_option maxRecDepth 100000 in
set_option maxHeartbeats 1600000 in
theorem impl_hasproc (u : Un) (hb : u.bulk ≤ 1048576) (k : Int) (w : World) (v1 v2 v3 : Value) (h : UnIs w u v1 v2 v3) : Calls Tryd.prog 43 #[unV v1 v2 v3, .int .i64 k] w fun e w' => e = .returned (.bool (hasP u k)) ∧ Below w.heap.size w w' := by
  obtain ⟨_, _, l3⟩ := un_lens hb
  obtain ⟨h1, h2, h3⟩ := h
  have HV := Lib.hid (fun W (hW : Below w.heap.size w W) => impl_validunit u hb W v1 v2 v3 ⟨h1.later hW, h2.later hW, h3.later hW⟩)
  obtain ⟨a1, c1, rfl⟩ := is_slice h1
  obtain ⟨a2, c2, rfl⟩ := is_slice h2
  obtain ⟨a3, c3, rfl⟩ := is_slice h3
  have B0 := Lib.hid (bl1 w (.cells #[.slice a1 u.recs.length c1, .slice a2 u.globs.length c2, .slice a3 u.procs.length c3] 51))
  have V0 := Lib.hid (Var.new w #[.slice a1 u.recs.length c1, .slice a2 u.globs.length c2, .slice a3 u.procs.length c3] 51)
  obtain ⟨w1, hw1⟩ : ∃ W, w.alloc (.cells #[.slice a1 u.recs.length c1, .slice a2 u.globs.length c2, .slice a3 u.procs.length c3] 51) = W := ⟨_, rfl⟩
  rw [hw1] at B0 V0
  have HW1 := Lib.hid hw1
  have HVC := Lib.hid (HV.out w1 B0.out)
  clear h1 h2 h3 hw1 HV hb
  by_cases hk0 : 0 ≤ k
  · by_cases hkn : k < u.procs.length
    · have HX : Hid (hasP u k = u.valid) := Lib.hid (by unfold hasP; rw [decide_eq_true hk0, decide_eq_true hkn]; rfl)
      rw [HX.out]
      generalize u.valid = b at HVC ⊢
      go_enter Tryd.func43, Tryd.ntmps43
      go_wp2_with fail
      rw [HW1.out]
      have x0 := (V0.out 0 _ rfl).1
      have x1 := (V0.out 1 _ rfl).1
      have x2 := (V0.out 2 _ rfl).1
      go_wp2_with fail
      refine HVC.out.mono ?_
      rintro e w2 ⟨rfl, b2⟩
      have B2 := Lib.hid (below_then B0.out b2)
      clear b2
      go_wp2
      go_ret
      exact ⟨rfl, B2.out⟩
    · have HX : Hid (hasP u k = false) := Lib.hid (by unfold hasP; rw [decide_eq_true hk0, decide_eq_false hkn]; rfl)
      rw [HX.out]
      go_enter Tryd.func43, Tryd.ntmps43
      go_wp2_with fail
      rw [HW1.out]
      have x0 := (V0.out 0 _ rfl).1
      have x1 := (V0.out 1 _ rfl).1
      have x2 := (V0.out 2 _ rfl).1
      go_wp2
      go_ret
      exact ⟨rfl, B0.out⟩
  · have HX : Hid (hasP u k = false) := Lib.hid (by unfold hasP; rw [decide_eq_false hk0]; rfl)
    rw [HX.out]
    go_enter Tryd.func43, Tryd.ntmps43
    go_wp2_with fail
    rw [HW1.out]
    have x0 := (V0.out 0 _ rfl).1
    have x1 := (V0.out 1 _ rfl).1
    have x2 := (V0.out 2 _ rfl).1
    go_wp2
    go_ret
    exact ⟨rfl, B0.out⟩
theorem hasP_no {u : Un} {k : Int} (h : hasP u k = false) : lnames u k = [] ∧ ∀ s, resv u k s = (0, 0) := by
  unfold hasP at h
  by_cases h1 : u.valid = true
  · by_cases h2 : 0 ≤ k
    · by_cases h3 : k < u.procs.length
      · rw [h1, decide_eq_true h2, decide_eq_true h3] at h; cases h
      · exact ⟨lnames_far (by omega), fun s => resv_far (by omega)⟩
    · exact ⟨lnames_neg (by omega), fun s => resv_neg (by omega)⟩
  · have h1 : u.valid = false := by simpa using h1
    exact ⟨lnames_bad h1, fun s => resv_bad h1⟩
theorem hasP_yes {u : Un} {k : Int} (h : hasP u k = true) : u.valid = true ∧ ∃ n : Nat, k = (n : Int) ∧ n < u.procs.length := by
  unfold hasP at h
  simp only [Bool.and_eq_true, decide_eq_true_eq] at h
  exact ⟨h.2, k.toNat, by omega, by omega⟩
theorem un_names {u : Un} (hb : u.bulk ≤ 1048576) (hv : u.valid = true) : UnNames u := by
  have hv2 := hv
  unfold Un.valid at hv2
  simp only [Bool.and_eq_true, decide_eq_true_eq] at hv2
  have hg := hv2.2.2.1
  unfold nmOk at hg
  simp only [Bool.and_eq_true, decide_eq_true_eq] at hg
  unfold Un.bulk recsB procsB at hb
  have hgs := fun s hs => str_bound (l := u.globs) (by omega) s hs
  refine ⟨fun r hr => ?_, fun s hs => by have := hgs s hs; unfold maxLen; omega, fun p hp => ?_, hv2.1, hg.2, hv2.2.1⟩
  · have h1 := wsum_mem Rc.bulk hr
    have h2 : r.bulk = r.name.size + strsB r.fields := rfl
    unfold maxLen; omega
  · have h1 := wsum_mem Pc.bulk hp
    have h2 : p.bulk = p.name.size + (strsB p.params + (strsB p.locals + p.body.bulk)) := rfl
    unfold maxLen; omega
theorem impl_scope (u : Un) (hb : u.bulk ≤ 1048576) (hv : u.valid = true) (w : World) (v1 v2 v3 : Value) (h : UnIs w u v1 v2 v3) (gu : Nat) (hu : Var w gu [v1, v2, v3]) (hN : NamesAt w) (n : Nat) (hn : n < u.procs.length) :
    Calls Tryd.prog 45 #[.pointer (some ⟨gu, 0, none⟩), .int .i64 (n : Int)] w (RetSc w (locs u u.procs[n]) (meanU u (locs u u.procs[n]))) := by
  have hpo := proc_ok hv (List.getElem_mem hn)
  have hv2 := hv
  unfold Un.valid at hv2
  simp only [Bool.and_eq_true, decide_eq_true_eq] at hv2
  have hpv := List.all_eq_true.1 hv2.2.2.2.2 u.procs[n] (List.getElem_mem hn)
  unfold Pc.valid exOk at hpv
  simp only [Bool.and_eq_true, decide_eq_true_eq] at hpv
  have hbb := hb
  unfold Un.bulk procsB at hbb
  have h1 : u.procs[n].bulk ≤ wsum Pc.bulk u.procs := wsum_mem Pc.bulk (List.getElem_mem hn)
  have h2 : u.procs[n].bulk = u.procs[n].name.size + (strsB u.procs[n].params + (strsB u.procs[n].locals + u.procs[n].body.bulk)) := rfl
  refine (callsIn_wide (n := 6)).1 (scope_in u (un_names hb hv) w v1 v2 v3 h gu 0 (hu 0 _ rfl).1 (hu 1 _ rfl).1 (hu 2 _ rfl).1 hN n hn (nk_valid _ 1 hpv.2.2.2.2.2.2) ⟨hpo.1, hpo.2.1⟩ (fun s hs => ?_) (by omega) hpo.2.2.2.1)
  have := str_bound (l := u.procs[n].params ++ u.procs[n].locals) (by rw [strsB_app]; omega) s hs
  unfold maxLen; omega
set_option maxRecDepth 100000 in
set_option maxHeartbeats 1600000 in
theorem impl_locals (u : Un) (hb : u.bulk ≤ 1048576) (k : Int) (w : World) (v1 v2 v3 : Value) (h : UnIs w u v1 v2 v3) (hN : NamesAt w) : Calls Tryd.prog 17 #[unV v1 v2 v3, .int .i64 k] w (RetD w (strsD (lnames u k))) := by
  unfold RetD
  have HU := Lib.hid (fun W (hW : Below w.heap.size w W) => (⟨h.1.later hW, h.2.1.later hW, h.2.2.later hW⟩ : UnIs W u v1 v2 v3))
  have HN := Lib.hid (fun W (hW : Below w.heap.size w W) => hN.later hW)
  have HH := Lib.hid (fun W (hW : Below w.heap.size w W) => impl_hasproc u hb k W v1 v2 v3 (HU.out W hW))
  obtain ⟨h1, h2, h3⟩ := h
  obtain ⟨a1, c1, rfl⟩ := is_slice h1
  obtain ⟨a2, c2, rfl⟩ := is_slice h2
  obtain ⟨a3, c3, rfl⟩ := is_slice h3
  have B0 := Lib.hid (bl1 w (.cells #[.slice a1 u.recs.length c1, .slice a2 u.globs.length c2, .slice a3 u.procs.length c3] 51))
  have V0 := Lib.hid (Var.new w #[.slice a1 u.recs.length c1, .slice a2 u.globs.length c2, .slice a3 u.procs.length c3] 51)
  obtain ⟨w1, hw1⟩ : ∃ W, w.alloc (.cells #[.slice a1 u.recs.length c1, .slice a2 u.globs.length c2, .slice a3 u.procs.length c3] 51) = W := ⟨_, rfl⟩
  rw [hw1] at B0 V0
  have HW1 := Lib.hid hw1
  have HVC := Lib.hid (HH.out w1 B0.out)
  have HBB := Lib.hid hb
  clear h1 h2 h3 hw1 HH hN hb
  cases hp : hasP u k
  case false =>
    rw [hp] at HVC
    rw [(hasP_no hp).1]
    clear hp
    go_enter Tryd.func17, Tryd.ntmps17
    go_wp2_with fail
    rw [HW1.out]
    have x0 := (V0.out 0 _ rfl).1
    have x1 := (V0.out 1 _ rfl).1
    have x2 := (V0.out 2 _ rfl).1
    go_wp2_with fail
    refine HVC.out.mono ?_
    rintro e w2 ⟨rfl, b2⟩
    have B2 := Lib.hid (below_then B0.out b2)
    clear b2
    go_wp2
    go_ret
    exact ⟨_, [], rfl, own_nil, (fun b hb => by cases hb), B2.out⟩
  case true =>
    rw [hp] at HVC
    obtain ⟨hv, n, rfl, hn⟩ := hasP_yes hp
    rw [lnames_at hv hn]
    have HS := Lib.hid (fun W (hW : Below w.heap.size w W) hvar => impl_scope u HBB.out hv W _ _ _ (HU.out W hW) w.heap.size hvar (HN.out W hW) n hn)
    unfold RetSc at HS
    have HLZ := Lib.hid (locs_size HBB.out (List.getElem_mem hn))
    generalize locs u u.procs[n] = L at HS HLZ ⊢
    clear hp hv hn
    have hfld : ∀ (a : Option Addr) (n c bm : Nat) (W : World), (Instr.field 99 (.agg #[.slice a n c, .map (some bm)]) 0).run Tryd.prog W = .ok (.slice a n c) W := fun a n c bm W => by kernel_rfl
    go_enter Tryd.func17, Tryd.ntmps17
    go_wp2_with fail
    rw [HW1.out]
    have x0 := (V0.out 0 _ rfl).1
    have x1 := (V0.out 1 _ rfl).1
    have x2 := (V0.out 2 _ rfl).1
    go_wp2_with fail
    refine HVC.out.mono ?_
    rintro e w2 ⟨rfl, b2⟩
    have HB2 := Lib.hid (below_then B0.out b2)
    have HV2 := Lib.hid (V0.out.later b2)
    clear b2 x0 x1 x2
    go_wp2_with fail
    refine (HS.out w2 HB2.out HV2.out).mono ?_
    rintro e w3 ⟨v3, bm, m3, rfl, o3, _, _, b3⟩
    have HB3 := Lib.hid (below_then HB2.out b3)
    have HT := Lib.hid (impl_texts _ L w3 (Is.strs_of_owns o3) HLZ.out)
    unfold RetD at HT
    obtain ⟨a5, c5, rfl⟩ := owns_slice o3
    clear o3 b3
    go_wp2_with fail
    refine HT.out.mono ?_
    rintro e w4 ⟨v4, F4, rfl, h4, f4, b4⟩
    have HB4 := Lib.hid (below_then HB3.out b4)
    have H4 := Lib.hid h4
    have HF4 : Hid (Foot w.heap.size w4 F4) := Lib.hid (fun b hb => ⟨Nat.le_trans HB3.out.size (f4 b hb).1, (f4 b hb).2⟩)
    clear h4 f4 b4
    go_wp2
    go_ret
    exact ⟨_, F4, rfl, H4.out, HF4.out, HB4.out⟩
set_option maxRecDepth 100000 in
set_option maxHeartbeats 1600000 in
theorem impl_resolve (u : Un) (hb : u.bulk ≤ 1048576) (k : Int) (s : ByteArray) (hs : s.size ≤ maxLen) (w : World) (v1 v2 v3 : Value) (h : UnIs w u v1 v2 v3) (hN : NamesAt w) : Calls Tryd.prog 20 #[unV v1 v2 v3, .int .i64 k, .string s] w (RetII w (resv u k s)) := by
  unfold RetII
  have HU := Lib.hid (fun W (hW : Below w.heap.size w W) => (⟨h.1.later hW, h.2.1.later hW, h.2.2.later hW⟩ : UnIs W u v1 v2 v3))
  have HN := Lib.hid (fun W (hW : Below w.heap.size w W) => hN.later hW)
  have HH := Lib.hid (fun W (hW : Below w.heap.size w W) => impl_hasproc u hb k W v1 v2 v3 (HU.out W hW))
  obtain ⟨h1, h2, h3⟩ := h
  obtain ⟨a1, c1, rfl⟩ := is_slice h1
  obtain ⟨a2, c2, rfl⟩ := is_slice h2
  obtain ⟨a3, c3, rfl⟩ := is_slice h3
  have B0 := Lib.hid (bl1 w (.cells #[.slice a1 u.recs.length c1, .slice a2 u.globs.length c2, .slice a3 u.procs.length c3] 51))
  have V0 := Lib.hid (Var.new w #[.slice a1 u.recs.length c1, .slice a2 u.globs.length c2, .slice a3 u.procs.length c3] 51)
  obtain ⟨w1, hw1⟩ : ∃ W, w.alloc (.cells #[.slice a1 u.recs.length c1, .slice a2 u.globs.length c2, .slice a3 u.procs.length c3] 51) = W := ⟨_, rfl⟩
  rw [hw1] at B0 V0
  have HW1 := Lib.hid hw1
  have HVC := Lib.hid (HH.out w1 B0.out)
  have HBB := Lib.hid hb
  have HSS := Lib.hid hs
  clear h1 h2 h3 hw1 HH hN hb hs
  cases hp : hasP u k
  case false =>
    rw [hp] at HVC
    rw [(hasP_no hp).2]
    clear hp
    go_enter Tryd.func20, Tryd.ntmps20
    go_wp2_with fail
    rw [HW1.out]
    have x0 := (V0.out 0 _ rfl).1
    have x1 := (V0.out 1 _ rfl).1
    have x2 := (V0.out 2 _ rfl).1
    go_wp2_with fail
    refine HVC.out.mono ?_
    rintro e w2 ⟨rfl, b2⟩
    have B2 := Lib.hid (below_then B0.out b2)
    clear b2
    go_wp2
    go_ret2
    exact ⟨rfl, B2.out⟩
  case true =>
    rw [hp] at HVC
    obtain ⟨hv, n, rfl, hn⟩ := hasP_yes hp
    rw [resv_at hv hn]
    have HS := Lib.hid (fun W (hW : Below w.heap.size w W) hvar => impl_scope u HBB.out hv W _ _ _ (HU.out W hW) w.heap.size hvar (HN.out W hW) n hn)
    unfold RetSc at HS
    generalize locs u u.procs[n] = L at HS ⊢
    obtain ⟨p, hp2⟩ : ∃ p, means u L s = p := ⟨_, rfl⟩
    rw [hp2]
    have HP := Lib.hid hp2
    clear hp hv hn hp2
    have hfld : ∀ (a : Option Addr) (n c bm : Nat) (W : World), (Instr.field 99 (.agg #[.slice a n c, .map (some bm)]) 1).run Tryd.prog W = .ok (.map (some bm)) W := fun a n c bm W => by kernel_rfl
    go_enter Tryd.func20, Tryd.ntmps20
    go_wp2_with fail
    rw [HW1.out]
    have x0 := (V0.out 0 _ rfl).1
    have x1 := (V0.out 1 _ rfl).1
    have x2 := (V0.out 2 _ rfl).1
    go_wp2_with fail
    refine HVC.out.mono ?_
    rintro e w2 ⟨rfl, b2⟩
    have HB2 := Lib.hid (below_then B0.out b2)
    have HV2 := Lib.hid (V0.out.later b2)
    clear b2 x0 x1 x2
    go_wp2_with fail
    refine (HS.out w2 HB2.out HV2.out).mono ?_
    rintro e w3 ⟨v3, bm, m3, rfl, o3, hm3, _, b3⟩
    have HB3 := Lib.hid (below_then HB2.out b3)
    have HOF := Lib.hid (impl_of bm m3 (meanU u L) s w3 hm3 (HN.out w3 HB3.out) HSS.out)
    unfold RetM at HOF
    rw [meanOf_means, HP.out] at HOF
    obtain ⟨a5, c5, rfl⟩ := owns_slice o3
    clear o3 b3 hm3
    go_wp2_with fail
    refine HOF.out.mono ?_
    rintro e w4 ⟨rfl, b4⟩
    have HB4 := Lib.hid (below_then HB3.out b4)
    clear b4
    go_wp2
    go_quiet (fail)
    go_wp2
    go_ret2
    exact ⟨rfl, below_drewN (below_then HB4.out (bl1 _ _)) _⟩
end Go.Proofs.YtbadepiakkhabaaDoor
/- The reference model: does a name stand twice, how many case expressions. No conditions. -/
namespace Go.Proofs.YtbadepiakkhabaaDoor
open Go.RowKit
set_option linter.unusedVariables false

theorem getD_at (l : List ByteArray) (k : Nat) (hk : k < l.length) : l.getD k ByteArray.empty = l[k] := by rw [List.getD_eq_getElem?_getD, List.getElem?_eq_getElem hk]; rfl
/-- Up to place k no name stood before. -/
def NoTwin (l : List ByteArray) (k : Nat) : Prop := ∀ i, i < k → (fx (l.take i) (l.getD i ByteArray.empty)).isSome = false
theorem noTwin_zero (l : List ByteArray) : NoTwin l 0 := fun i h => by omega
theorem noTwin_succ {l : List ByteArray} {k : Nat} (h : NoTwin l k) (hk : k < l.length) (hn : fx (l.take k) l[k] = none) : NoTwin l (k + 1) := fun i hi => by
  by_cases e : i = k
  · subst e; rw [getD_at l i hk, hn]; rfl
  · exact h i (by omega)
theorem noTwin_all {l : List ByteArray} (h : NoTwin l l.length) : twice l = false := by
  unfold twice
  rw [List.any_eq_false]
  intro i hi
  rw [h i (List.mem_range.1 hi)]; decide
theorem twice_yes {l : List ByteArray} {k j : Nat} (hk : k < l.length) (h : fx (l.take k) l[k] = some j) : twice l = true := by
  unfold twice
  rw [List.any_eq_true]
  exact ⟨k, List.mem_range.2 hk, by rw [getD_at l k hk, h]; rfl⟩
theorem fx_app (a b : List ByteArray) (s : ByteArray) : fx (a ++ b) s = match fx a s with | some j => some j | none => (fx b s).map (· + a.length) := by
  unfold fx
  rw [List.findIdx?_append]
  cases List.findIdx? (fun x => eqN x s) a <;> simp
theorem fx_here {l : List ByteArray} {k : Nat} (hk : k < l.length) : fx l l[k] = match fx (l.take k) l[k] with | some j => some j | none => some k := by
  have e : l = l.take k ++ (l[k] :: l.drop (k + 1)) := by rw [← List.drop_eq_getElem_cons hk, List.take_append_drop]
  have h1 : fx l l[k] = fx (l.take k ++ (l[k] :: l.drop (k + 1))) l[k] := congrArg (fun z => fx z l[k]) e
  rw [h1, fx_app]
  have h2 : fx (l[k] :: l.drop (k + 1)) l[k] = some 0 := by unfold fx; rw [List.findIdx?_cons, eqN_self]; rfl
  rw [h2]
  cases fx (l.take k) l[k] with
  | some j => rfl
  | none => simp; omega
theorem ret_bb {a b : Bool} (h : a = b) : Ending.returned (.bool a) = .returned (.bool b) := by rw [h]
set_option maxHeartbeats 800000 in
theorem spec_twice (v : Value) (l : List ByteArray) (w : World) (h : Is w (strsD l) v) (hl : (l.length : Int) ≤ 1048576) : Calls Tryd.prog 29 #[v] w fun e w' => e = .returned (.bool (twice l)) ∧ w = w' := by
  have HF := Lib.hid (fun s => spec_find v l s w h hl)
  obtain ⟨a, c, rfl⟩ := is_slice h
  have HK := Lib.hid h
  clear h
  go_enter Tryd.func29, Tryd.ntmps29
  go_wp2
  go_loop [3] (fun i => ∃ k : Nat, i = .int .i64 k ∧ k ≤ l.length ∧ NoTwin l k) (fun i => l.length - (intOf i).toNat)
  case atStart => exact ⟨0, rfl, Nat.zero_le _, noTwin_zero l⟩
  case round =>
    obtain ⟨k, rfl, hk, hn⟩ := hrel
    have HN := Lib.hid hn
    clear hn
    by_cases hlt : k < l.length
    · obtain ⟨g, o, rfl, d1⟩ := str_at HK.out k hlt
      have HC := Lib.hid (HF.out l[k])
      have k0 : (0 : Int) ≤ (k : Int) := by omega
      have k1 : (k : Int) < l.length := by omega
      rcases hf : fx (l.take k) l[k] with _ | j
      · have e : fx l l[k] = some k := by rw [fx_here hlt, hf]
        rw [fxI_some e] at HC
        have HX := Lib.hid (noTwin_succ HN.out hlt hf)
        clear hf e
        generalize l[k] = x at d1 HC
        go_wp2_with fail
        refine HC.out.mono ?_
        rintro e w3 ⟨rfl, rfl⟩
        go_wp2
        go_round
        case rel => exact ⟨k + 1, by go_num, by omega, HX.out⟩
        case measure => first | (simp [intOf]; done) | (simp [intOf]; omega)
      · have e : fx l l[k] = some j := by rw [fx_here hlt, hf]
        have hj := fx_lt hf
        rw [List.length_take] at hj
        have hj2 : (j : Int) < (k : Int) := by omega
        rw [fxI_some e] at HC
        have HX := Lib.hid (twice_yes hlt hf)
        clear hf e hj
        generalize l[k] = x at d1 HC
        go_wp2_with fail
        refine HC.out.mono ?_
        rintro e w3 ⟨rfl, rfl⟩
        go_wp2
        go_ret
        exact ⟨ret_bb HX.out.symm, rfl⟩
    · obtain rfl : k = l.length := by omega
      have HX := Lib.hid (noTwin_all HN.out)
      go_wp2
      go_ret
      exact ⟨ret_bb HX.out.symm, rfl⟩
theorem csN_eq (t : Ex.T) : csN t = (if t.kind == 20 then 1 else 0) + csNs t.kids := by cases t; rw [csN]; rfl
mutual
theorem csN_le : ∀ t : Ex.T, csN t ≤ t.count
  | .node k t n l ks => by
    rw [csN, Ex.T.count]
    have := csNs_le ks
    split <;> omega
theorem csNs_le : ∀ ks : List Ex.T, csNs ks ≤ Ex.counts ks
  | [] => by rw [csNs, Ex.counts]; omega
  | x :: r => by
    rw [csNs, Ex.counts]
    have h1 := csN_le x
    have h2 := csNs_le r
    omega
end
theorem csNs_take (l : List Ex.T) (k : Nat) (h : k < l.length) : csNs (l.take (k + 1)) = csNs (l.take k) + csN l[k] := by
  have app : ∀ a b : List Ex.T, csNs (a ++ b) = csNs a + csNs b := by
    intro a b
    induction a with
    | nil => simp [csNs]
    | cons x r ih => rw [List.cons_append, csNs, csNs, ih]; omega
  rw [List.take_succ_eq_append_getElem h, app]
  simp [csNs]
def CasesT (t : Ex.T) : Prop := t.count ≤ 1048576 → ∀ (w : World) (v : Value), Kids w v t.kids → Calls Tryd.prog 51 #[exV t v] w fun e w' => e = .returned (.int .i64 (csN t : Int)) ∧ Below w.heap.size w w'
set_option maxRecDepth 100000 in
set_option maxHeartbeats 1600000 in
theorem spec_cases : ∀ (N : Nat) (t : Ex.T), t.count ≤ N → CasesT t := by
  intro N
  induction N with
  | zero => intro t h; have := Ex.count_pos t; omega
  | succ N ih =>
    intro t hN hct w v hk
    have HI := Lib.hid (fun (x : Ex.T) (hx : x ∈ t.kids) => ih x (by have := kids_count hx; omega) (by have := kids_count hx; omega))
    have HC := Lib.hid (csN_eq t)
    have HKX := Lib.hid hk
    have hln : t.kids.length ≤ 1048576 := by
      have h1 := count_eq t
      have h2 : t.kids.length ≤ Ex.counts t.kids := by
        have : ∀ l : List Ex.T, l.length ≤ Ex.counts l := by
          intro l
          induction l with
          | nil => simp [Ex.counts]
          | cons x r ih => rw [Ex.counts, List.length_cons]; have := Ex.count_pos x; omega
        exact this _
      omega
    obtain ⟨a, c, rfl⟩ := kids_len hk
    have B0 := Lib.hid (bl1 w (.cells #[.int .i64 t.kind, .string t.text, .int .i64 t.num, .int .i64 t.line, .slice a t.kids.length c] 105))
    have V0 := Lib.hid (Var.new w #[.int .i64 t.kind, .string t.text, .int .i64 t.num, .int .i64 t.line, .slice a t.kids.length c] 105)
    obtain ⟨w1, hw1⟩ : ∃ W, w.alloc (.cells #[.int .i64 t.kind, .string t.text, .int .i64 t.num, .int .i64 t.line, .slice a t.kids.length c] 105) = W := ⟨_, rfl⟩
    rw [hw1] at B0 V0
    have HW1 := Lib.hid hw1
    have HCT : Hid (csNs t.kids + 1 ≤ 1048576) := Lib.hid (by have h1 := csNs_le t.kids; have h2 := count_eq t; omega)
    clear ih hN hk hw1 hct
    have x0 := (V0.out 0 _ rfl).1
    cases hk20 : t.kind == 20
    · rw [show (if t.kind == 20 then (1 : Nat) else 0) = 0 by rw [hk20]; rfl] at HC
      go_enter Tryd.func51, Tryd.ntmps51
      go_wp2_with fail
      rw [HW1.out]
      go_wp2
      clear x0
      go_loopw [3, 4] (fun m i wr => ∃ k : Nat, i = .int .i64 k ∧ k ≤ t.kids.length ∧ m = .int .i64 ((0 + csNs (t.kids.take k) : Nat) : Int) ∧ Below w.heap.size w wr ∧ Var wr w.heap.size [.int .i64 t.kind, .string t.text, .int .i64 t.num, .int .i64 t.line, .slice a t.kids.length c]) (fun _ i _ => t.kids.length - (intOf i).toNat)
      case atStart => exact ⟨0, rfl, Nat.zero_le _, by rw [List.take_zero, csNs]; rfl, B0.out, V0.out⟩
      case round =>
        obtain ⟨k, rfl, hk, rfl, hb, hv⟩ := hrel
        have HB := Lib.hid hb
        have HV := Lib.hid hv
        have x4 := (hv 4 _ rfl).1
        by_cases hlt : k < t.kids.length
        · obtain ⟨gk, ok, rfl, ht⟩ := kids_at (HKX.out.later hb) k hlt
          obtain ⟨⟨q0, q1, q2, q3⟩, vx, q4, hkv⟩ := tree_cells ht
          have HA := Lib.hid (HI.out t.kids[k] (List.getElem_mem hlt) wr vx hkv)
          obtain ⟨a8, c8, rfl⟩ := kids_len hkv
          have HN := Lib.hid (csNs_take t.kids k hlt)
          have hm1 : csNs (t.kids.take k) + csN t.kids[k] + 1 ≤ 1048576 := by
            have e : t.kids = t.kids.take (k + 1) ++ t.kids.drop (k + 1) := (List.take_append_drop _ _).symm
            have h1 : csNs (t.kids.take (k + 1)) ≤ csNs t.kids := by
              have app : ∀ a b : List Ex.T, csNs (a ++ b) = csNs a + csNs b := by
                intro a b
                induction a with
                | nil => simp [csNs]
                | cons x r ih => rw [List.cons_append, csNs, csNs, ih]; omega
              have h2 := app (t.kids.take (k + 1)) (t.kids.drop (k + 1))
              rw [← e] at h2; omega
            have := HCT.out
            rw [HN.out] at h1; omega
          have HKL := Lib.hid hlt
          have k0 : (0 : Int) ≤ k := by omega
          have k1 : (k : Int) < t.kids.length := by omega
          clear hb hv ht hkv
          generalize t.kids[k] = y at q0 q1 q2 q3 q4 HA HN hm1
          clear hlt
          generalize hs : csNs (t.kids.take k) = s0 at HN hm1 ⊢
          clear hs
          generalize csN y = s1 at HA HN hm1
          rw [show ((0 + s0 : Nat) : Int) = (0 + (s0 : Int) : Int) by omega]
          have hs0 : (0 : Int) ≤ s0 := by omega
          have hs1 : (0 : Int) ≤ s1 := by omega
          have hs2 : (s0 : Int) + s1 + 1 ≤ 1048576 := by omega
          have HS2 := Lib.hid hs2
          clear hm1
          go_wp2_with ((with_reducible refine HA.out.mono ?_); rintro e w3 ⟨rfl, b3⟩; have HB3 := Lib.hid (below_then HB.out b3); have HV3 := Lib.hid (HV.out.later b3); clear b3)
          go_roundw
          case rel => exact ⟨k + 1, by go_num, by have := HKL.out; omega, by rw [HN.out]; congr 1; omega, HB3.out, HV3.out⟩
          case measure => have := HKL.out; first | (simp [intOf]; done) | (simp [intOf]; omega)
        · obtain rfl : k = t.kids.length := by omega
          rw [List.take_length, ← HC.out]
          clear hv
          go_wp2
          go_ret
          exact ⟨rfl, hb⟩
    · rw [show (if t.kind == 20 then (1 : Nat) else 0) = 1 by rw [hk20]; rfl] at HC
      go_enter Tryd.func51, Tryd.ntmps51
      go_wp2_with fail
      rw [HW1.out]
      go_wp2
      clear x0
      go_loopw [3, 4] (fun m i wr => ∃ k : Nat, i = .int .i64 k ∧ k ≤ t.kids.length ∧ m = .int .i64 ((1 + csNs (t.kids.take k) : Nat) : Int) ∧ Below w.heap.size w wr ∧ Var wr w.heap.size [.int .i64 t.kind, .string t.text, .int .i64 t.num, .int .i64 t.line, .slice a t.kids.length c]) (fun _ i _ => t.kids.length - (intOf i).toNat)
      case atStart => exact ⟨0, rfl, Nat.zero_le _, by rw [List.take_zero, csNs]; rfl, B0.out, V0.out⟩
      case round =>
        obtain ⟨k, rfl, hk, rfl, hb, hv⟩ := hrel
        have HB := Lib.hid hb
        have HV := Lib.hid hv
        have x4 := (hv 4 _ rfl).1
        by_cases hlt : k < t.kids.length
        · obtain ⟨gk, ok, rfl, ht⟩ := kids_at (HKX.out.later hb) k hlt
          obtain ⟨⟨q0, q1, q2, q3⟩, vx, q4, hkv⟩ := tree_cells ht
          have HA := Lib.hid (HI.out t.kids[k] (List.getElem_mem hlt) wr vx hkv)
          obtain ⟨a8, c8, rfl⟩ := kids_len hkv
          have HN := Lib.hid (csNs_take t.kids k hlt)
          have hm1 : csNs (t.kids.take k) + csN t.kids[k] + 1 ≤ 1048576 := by
            have e : t.kids = t.kids.take (k + 1) ++ t.kids.drop (k + 1) := (List.take_append_drop _ _).symm
            have h1 : csNs (t.kids.take (k + 1)) ≤ csNs t.kids := by
              have app : ∀ a b : List Ex.T, csNs (a ++ b) = csNs a + csNs b := by
                intro a b
                induction a with
                | nil => simp [csNs]
                | cons x r ih => rw [List.cons_append, csNs, csNs, ih]; omega
              have h2 := app (t.kids.take (k + 1)) (t.kids.drop (k + 1))
              rw [← e] at h2; omega
            have := HCT.out
            rw [HN.out] at h1; omega
          have HKL := Lib.hid hlt
          have k0 : (0 : Int) ≤ k := by omega
          have k1 : (k : Int) < t.kids.length := by omega
          clear hb hv ht hkv
          generalize t.kids[k] = y at q0 q1 q2 q3 q4 HA HN hm1
          clear hlt
          generalize hs : csNs (t.kids.take k) = s0 at HN hm1 ⊢
          clear hs
          generalize csN y = s1 at HA HN hm1
          rw [show ((1 + s0 : Nat) : Int) = (1 + (s0 : Int) : Int) by omega]
          have hs0 : (0 : Int) ≤ s0 := by omega
          have hs1 : (0 : Int) ≤ s1 := by omega
          have hs2 : (s0 : Int) + s1 + 1 ≤ 1048576 := by omega
          have HS2 := Lib.hid hs2
          clear hm1
          go_wp2_with ((with_reducible refine HA.out.mono ?_); rintro e w3 ⟨rfl, b3⟩; have HB3 := Lib.hid (below_then HB.out b3); have HV3 := Lib.hid (HV.out.later b3); clear b3)
          go_roundw
          case rel => exact ⟨k + 1, by go_num, by have := HKL.out; omega, by rw [HN.out]; congr 1; omega, HB3.out, HV3.out⟩
          case measure => have := HKL.out; first | (simp [intOf]; done) | (simp [intOf]; omega)
        · obtain rfl : k = t.kids.length := by omega
          rw [List.take_length, ← HC.out]
          clear hv
          go_wp2
          go_ret
          exact ⟨rfl, hb⟩
end Go.Proofs.YtbadepiakkhabaaDoor
/- The faults of a unit in steps: its declarations, its procedures. No conditions. -/
namespace Go.Proofs.YtbadepiakkhabaaDoor
set_option linter.unusedVariables false

def dup3 (acc : List ByteArray) (l : List Pc) : Int × Int := match dupP acc l with | .inl f => f | .inr _ => (0, 0)
def dup2 (u : Un) (acc : List ByteArray) (l : List ByteArray) : Int × Int := match dupG acc l with | .inl f => f | .inr a => dup3 a u.procs
def dup1 (u : Un) (acc : List ByteArray) (l : List Rc) : Int × Int := match dupR acc l with | .inl f => f | .inr a => dup2 u a u.globs
theorem dup_eq (u : Un) : dup u = dup1 u funL u.recs := by
  unfold dup dup1
  cases dupR funL u.recs with
  | inl f => rfl
  | inr a =>
    simp only
    unfold dup2
    cases dupG a u.globs with
    | inl f => rfl
    | inr b => rfl
theorem dup1_bad {u : Un} {acc : List ByteArray} {r : Rc} {l : List Rc} (h : ((fx acc r.name).isSome || twice r.fields) = true) : dup1 u acc (r :: l) = (2, r.line) := by
  unfold dup1; rw [dupR, if_pos h]
theorem dup1_ok {u : Un} {acc : List ByteArray} {r : Rc} {l : List Rc} (h : ((fx acc r.name).isSome || twice r.fields) = false) : dup1 u acc (r :: l) = dup1 u (acc ++ [r.name]) l := by
  unfold dup1; rw [dupR, if_neg (by rw [h]; decide)]
theorem dup1_nil {u : Un} {acc : List ByteArray} : dup1 u acc [] = dup2 u acc u.globs := rfl
theorem dup2_bad {u : Un} {acc : List ByteArray} {s : ByteArray} {l : List ByteArray} (h : (fx acc s).isSome = true) : dup2 u acc (s :: l) = (2, 0) := by
  unfold dup2; rw [dupG, if_pos h]
theorem dup2_ok {u : Un} {acc : List ByteArray} {s : ByteArray} {l : List ByteArray} (h : (fx acc s).isSome = false) : dup2 u acc (s :: l) = dup2 u (acc ++ [s]) l := by
  unfold dup2; rw [dupG, if_neg (by rw [h]; decide)]
theorem dup2_nil {u : Un} {acc : List ByteArray} : dup2 u acc [] = dup3 acc u.procs := rfl
theorem dup3_bad {acc : List ByteArray} {p : Pc} {l : List Pc} (h : ((fx acc p.name).isSome || twice (p.params ++ p.locals)) = true) : dup3 acc (p :: l) = (2, p.line) := by
  unfold dup3; rw [dupP, if_pos h]
theorem dup3_ok {acc : List ByteArray} {p : Pc} {l : List Pc} (h : ((fx acc p.name).isSome || twice (p.params ++ p.locals)) = false) : dup3 acc (p :: l) = dup3 (acc ++ [p.name]) l := by
  unfold dup3; rw [dupP, if_neg (by rw [h]; decide)]
theorem dup3_nil {acc : List ByteArray} : dup3 acc [] = (0, 0) := rfl
/-- The names that are there ahead of a declaration. -/
def accR (u : Un) (k : Nat) : List ByteArray := funL ++ (u.recs.map Rc.name).take k
def accG (u : Un) (k : Nat) : List ByteArray := funL ++ (u.recs.map Rc.name ++ u.globs.take k)
def accP (u : Un) (k : Nat) : List ByteArray := funL ++ (u.recs.map Rc.name ++ (u.globs ++ (u.procs.map Pc.name).take k))
theorem accR_zero (u : Un) : accR u 0 = funL := by unfold accR; rw [List.take_zero, List.append_nil]
theorem accR_succ {u : Un} {k : Nat} (h : k < u.recs.length) : accR u (k + 1) = accR u k ++ [u.recs[k].name] := by
  unfold accR
  rw [List.take_succ_eq_append_getElem (by simpa using h), List.append_assoc]; simp
theorem accG_zero (u : Un) : accG u 0 = accR u u.recs.length := by
  unfold accG accR
  rw [List.take_zero, List.append_nil, List.take_of_length_le (by simp)]
theorem accG_succ {u : Un} {k : Nat} (h : k < u.globs.length) : accG u (k + 1) = accG u k ++ [u.globs[k]] := by
  unfold accG
  rw [List.take_succ_eq_append_getElem h, List.append_assoc, List.append_assoc]
theorem accP_zero (u : Un) : accP u 0 = accG u u.globs.length := by
  unfold accP accG
  rw [List.take_zero, List.append_nil, List.take_length]
theorem accP_succ {u : Un} {k : Nat} (h : k < u.procs.length) : accP u (k + 1) = accP u k ++ [u.procs[k].name] := by
  unfold accP
  rw [List.take_succ_eq_append_getElem (by simpa using h)]; simp
theorem accR_len (u : Un) {k : Nat} (h : k ≤ u.recs.length) : (accR u k).length = 55 + k := by unfold accR; simp [funL_len]; omega
theorem accG_len (u : Un) {k : Nat} (h : k ≤ u.globs.length) : (accG u k).length = 55 + u.recs.length + k := by unfold accG; simp [funL_len]; omega
theorem accP_len (u : Un) {k : Nat} (h : k ≤ u.procs.length) : (accP u k).length = 55 + u.recs.length + u.globs.length + k := by unfold accP; simp [funL_len]; omega
def DupR (u : Un) (k : Nat) : Prop := dup u = dup1 u (accR u k) (u.recs.drop k)
def DupG (u : Un) (k : Nat) : Prop := dup u = dup2 u (accG u k) (u.globs.drop k)
def DupP (u : Un) (k : Nat) : Prop := dup u = dup3 (accP u k) (u.procs.drop k)
theorem dupR_zero (u : Un) : DupR u 0 := by unfold DupR; rw [accR_zero, List.drop_zero]; exact dup_eq u
theorem DupR.next {u : Un} {k : Nat} (h : DupR u k) (hk : k < u.recs.length) (h1 : (fx (accR u k) u.recs[k].name).isSome = false) (h2 : twice u.recs[k].fields = false) : DupR u (k + 1) := by
  unfold DupR at h ⊢
  rw [h, List.drop_eq_getElem_cons hk, dup1_ok (by rw [h1, h2]; rfl), accR_succ hk]
theorem DupR.bad {u : Un} {k : Nat} (h : DupR u k) (hk : k < u.recs.length) (h1 : ((fx (accR u k) u.recs[k].name).isSome || twice u.recs[k].fields) = true) : dup u = (2, u.recs[k].line) := by
  unfold DupR at h
  rw [h, List.drop_eq_getElem_cons hk, dup1_bad h1]
theorem DupR.over {u : Un} (h : DupR u u.recs.length) : DupG u 0 := by
  unfold DupR at h
  unfold DupG
  rw [h, List.drop_length, dup1_nil, accG_zero, List.drop_zero]
theorem DupG.next {u : Un} {k : Nat} (h : DupG u k) (hk : k < u.globs.length) (h1 : (fx (accG u k) u.globs[k]).isSome = false) : DupG u (k + 1) := by
  unfold DupG at h ⊢
  rw [h, List.drop_eq_getElem_cons hk, dup2_ok h1, accG_succ hk]
theorem DupG.bad {u : Un} {k : Nat} (h : DupG u k) (hk : k < u.globs.length) (h1 : (fx (accG u k) u.globs[k]).isSome = true) : dup u = (2, 0) := by
  unfold DupG at h
  rw [h, List.drop_eq_getElem_cons hk, dup2_bad h1]
theorem DupG.over {u : Un} (h : DupG u u.globs.length) : DupP u 0 := by
  unfold DupG at h
  unfold DupP
  rw [h, List.drop_length, dup2_nil, accP_zero, List.drop_zero]
theorem DupP.next {u : Un} {k : Nat} (h : DupP u k) (hk : k < u.procs.length) (h1 : (fx (accP u k) u.procs[k].name).isSome = false) (h2 : twice (u.procs[k].params ++ u.procs[k].locals) = false) : DupP u (k + 1) := by
  unfold DupP at h ⊢
  rw [h, List.drop_eq_getElem_cons hk, dup3_ok (by rw [h1, h2]; rfl), accP_succ hk]
theorem DupP.bad {u : Un} {k : Nat} (h : DupP u k) (hk : k < u.procs.length) (h1 : ((fx (accP u k) u.procs[k].name).isSome || twice (u.procs[k].params ++ u.procs[k].locals)) = true) : dup u = (2, u.procs[k].line) := by
  unfold DupP at h
  rw [h, List.drop_eq_getElem_cons hk, dup3_bad h1]
theorem DupP.over {u : Un} (h : DupP u u.procs.length) : dup u = (0, 0) := by
  unfold DupP at h
  rw [h, List.drop_length, dup3_nil]
/-- Where the walk of the procedures stands. -/
def PrAt (u : Un) (k : Nat) : Prop := fltPs u u.procs = fltPs u (u.procs.drop k)
theorem prAt_zero (u : Un) : PrAt u 0 := by unfold PrAt; rw [List.drop_zero]
theorem PrAt.next {u : Un} {k : Nat} (h : PrAt u k) (hk : k < u.procs.length) (h1 : (fltP u u.procs[k]).1 = 0) : PrAt u (k + 1) := by
  unfold PrAt at h ⊢
  rw [h, List.drop_eq_getElem_cons hk, fltPs, h1]; rfl
theorem PrAt.bad {u : Un} {k : Nat} (h : PrAt u k) (hk : k < u.procs.length) (h1 : (fltP u u.procs[k]).1 ≠ 0) : fltPs u u.procs = fltP u u.procs[k] := by
  unfold PrAt at h
  rw [h, List.drop_eq_getElem_cons hk, fltPs, if_neg (by simp [h1])]
theorem PrAt.over {u : Un} (h : PrAt u u.procs.length) : fltPs u u.procs = (0, 0) := by
  unfold PrAt at h
  rw [h, List.drop_length, fltPs]
theorem fltP_walk {u : Un} {p : Pc} (h : (wlk u (locs u p) p.body false false).1 ≠ 0) : fltP u p = wlk u (locs u p) p.body false false := by
  unfold fltP; rw [if_neg (by simp [h])]
theorem fltP_slots {u : Un} {p : Pc} (h : (wlk u (locs u p) p.body false false).1 = 0) (h2 : 24 < (locs u p).length + csN p.body) : fltP u p = (7, p.line) := by
  unfold fltP; rw [h, if_pos (by rfl), if_pos h2]
theorem fltP_fine {u : Un} {p : Pc} (h : (wlk u (locs u p) p.body false false).1 = 0) (h2 : (locs u p).length + csN p.body ≤ 24) : fltP u p = (0, 0) := by
  unfold fltP; rw [h, if_pos (by rfl), if_neg (by omega)]
/-- What the check of a unit says. -/
def chk (u : Un) : Int × Int := if u.valid then fltU u else (1, 0)
theorem chk_bad {u : Un} (h : u.valid = false) : chk u = (1, 0) := by unfold chk; rw [h]; rfl
theorem chk_ok {u : Un} (h : u.valid = true) : chk u = fltU u := by unfold chk; rw [h]; rfl
theorem fltU_dup {u : Un} (h : (dup u).1 ≠ 0) : fltU u = dup u := by unfold fltU; rw [if_neg (by simp [h])]
theorem fltU_proc {u : Un} (h : dup u = (0, 0)) (h2 : (fltPs u u.procs).1 ≠ 0) : fltU u = fltPs u u.procs := by
  unfold fltU; rw [h, if_pos (by rfl), if_neg (by simp [h2])]
theorem fltU_main {u : Un} (h : dup u = (0, 0)) (h2 : fltPs u u.procs = (0, 0)) (h3 : u.procs.any isMain = true) : fltU u = (0, 0) := by
  unfold fltU; rw [h, h2, if_pos (by rfl), if_pos (by rfl), if_pos h3]
theorem fltU_none {u : Un} (h : dup u = (0, 0)) (h2 : fltPs u u.procs = (0, 0)) (h3 : u.procs.any isMain = false) : fltU u = (3, 0) := by
  unfold fltU; rw [h, h2, if_pos (by rfl), if_pos (by rfl), if_neg (by rw [h3]; decide)]
theorem any_take_succ {α : Type} (f : α → Bool) (l : List α) (k : Nat) (hk : k < l.length) : (l.take (k + 1)).any f = ((l.take k).any f || f l[k]) := by
  rw [List.take_succ_eq_append_getElem hk, List.any_append]; simp
end Go.Proofs.YtbadepiakkhabaaDoor
