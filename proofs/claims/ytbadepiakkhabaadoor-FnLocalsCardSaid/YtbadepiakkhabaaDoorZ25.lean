/- Joined texts: V29. No conditions besides those that each states. -/
import Derived.RangeFuncWrites
import Derived.Sort.CutIn
import Derived.Test.YtbadepiakkhabaaDoorZ24
/- The program's scope of a procedure. The table reads as the program's text lays it. -/
namespace Go.Proofs.YtbadepiakkhabaaDoor
open Go.RowKit Go.Shelf
set_option linter.unusedVariables false
attribute [local go_sem] Oper.semAt_some

def RetSc (w : World) (L : List ByteArray) (f : ByteArray → Option (Int × Int)) (e : Ending) (w' : World) : Prop := ∃ v bm n, e = .returned (.agg #[v, .map (some bm)]) ∧ Owns w' w.heap.size v L ∧ MapM w' bm n f ∧ w.heap.size ≤ bm ∧ Below w.heap.size w w'
theorem keepsFrom_turn {W wc w2 : World} {C bs bm B n : Nat} {v : Value} {L : List ByteArray} {f : ByteArray → Option (Int × Int)} (hb : Below W.heap.size W wc) (hs : ScopeAt wc B bs bm v L n f) (ht : ScTurn wc bs bm v w2) (h1 : bs < C) (h2 : bm < C) : KeepsFrom C W w2 :=
  ⟨Nat.le_trans hb.size ht.1.size, fun k o hk ho hc => by
    have hlt : k < W.heap.size := (Array.getElem?_eq_some_iff.1 ho).1
    have hwc := (hb.block k hlt).trans ho
    refine (ht.2 k (Nat.lt_of_lt_of_le hlt hb.size) (by omega) (by omega) (fun e => ?_)).trans hwc
    rcases hs.2.1.2 with ⟨rfl, _⟩ | ⟨g, cap, cur, rfl, _, hgg, _⟩
    · cases e
    · obtain rfl : g = k := Option.some.inj e
      rw [hwc] at hgg
      obtain rfl := Option.some.inj hgg
      cases hc⟩
/-- What is carried round the nodes of a body. -/
def ScI (u : Un) (w : World) (l : List ByteArray) (pre : List (Nd w)) (W : World) : Prop := ∃ (v : Value) (L : List ByteArray) (m : Nat), L = ((pre.map Nd.dat).map Prod.fst).foldl (collN u) l ∧ L.length ≤ l.length + pre.length ∧ m ≤ l.length + 32 + pre.length ∧ ScopeAt W w.heap.size (w.heap.size + 1 + 1) (w.heap.size + 1) v L m (meanU u L) ∧ (Var W w.heap.size [.slice none 0 0, .map none] ∧ v.ownBlock ≠ some w.heap.size) ∧ Below w.heap.size w W
theorem scI_own (u : Un) (w : World) (l : List ByteArray) {B : Nat} (hB : w.heap.size + 1 + 1 + 1 ≤ B) : OwnFrom B (ScI u w l) := by
  rintro pre W W' row ⟨v, L, m, e, h1, h2, ⟨hv, ho, hm, hb1, hb2, hb3⟩, ⟨hv4, hne⟩, hbel⟩ hg hr
  have far : ∀ b, b < B → some b ≠ row := fun b hb e => by have := (hr b e.symm).1; omega
  refine ⟨v, L, m, e, h1, h2, ⟨hv.keep (hg.block _ (Var.lt hv) (far _ (by omega))), owns_keep ho (fun b e => hg.block b (owns_lt ho e).2 (fun e2 => ?_)), hm.keep (hg.block _ hm.lt (far _ (by omega))), hb1, hb2, hb3⟩, ⟨hv4.keep (hg.block _ (Var.lt hv4) (far _ (by omega))), hne⟩, hbel.grown hg hbel.size (fun k e => by have := (hr k e).1; omega)⟩
  obtain ⟨_, o, hob, hoc⟩ := hr b e2.symm
  rcases ho.2 with ⟨rfl, _⟩ | ⟨g, cap, cur, rfl, _, hgg, _⟩
  · cases e
  · obtain rfl : g = b := Option.some.inj e
    rw [hgg] at hob
    obtain rfl := Option.some.inj hob
    cases hoc
set_option maxRecDepth 100000 in
set_option maxHeartbeats 12800000 in
theorem scope_in (u : Un) (hun : UnNames u) (w : World) (v1 v2 v3 : Value) (h : UnIs w u v1 v2 v3) (gu ou : Nat) (c1 : w.cell? ⟨gu, ou, none⟩ = some v1) (c2 : w.cell? ⟨gu, ou + 1, none⟩ = some v2) (c3 : w.cell? ⟨gu, ou + 2, none⟩ = some v3) (hN : NamesAt w)
    (n : Nat) (hn : n < u.procs.length) (hnk : nk u.procs[n].body = true) (hpl : u.procs[n].params.length ≤ 6 ∧ u.procs[n].locals.length ≤ 8) (hps : ∀ s ∈ u.procs[n].params ++ u.procs[n].locals, s.size ≤ maxLen) (hbk : u.procs[n].body.bulk ≤ 1048576) (hct : u.procs[n].body.count ≤ 600) :
    CallsIn Fence.wide 6 Tryd.prog 45 #[.pointer (some ⟨gu, ou, none⟩), .int .i64 (n : Int)] w (RetSc w (locs u u.procs[n]) (meanU u (locs u u.procs[n]))) := by
  unfold RetSc
  have hbk0 := hbk
  have hro : Fence.wide.round = none := rfl
  have hl3 : (u.procs.length : Int) ≤ 12 := by have := hun.2.2.2.2.2; omega
  have h3 := h.2.2
  obtain ⟨a3, d3, rfl⟩ := is_slice h3
  obtain ⟨g, o, rfl, hpr⟩ := proc_at h3 n hn
  have n0 : (0 : Int) ≤ (n : Int) := by omega
  have n1 : (n : Int) < u.procs.length := by omega
  have HDL := Lib.hid (fun W (hW : Below w.heap.size w W) => hpr)
  refine callsIn_of_wp_marks Tryd.func45 rfl trivial ?_ hro
  simp only [Tryd.ntmps45, List.size_toArray, List.length_cons, List.length_nil, Nat.reduceAdd, Nat.reduceSub, Array.replicate_succ, Array.replicate_zero, List.push_toArray, List.append_toArray, List.nil_append, List.cons_append]
  have c3a := cell_alloc (.cells #[.slice none 0 0, .map none] 99) c3
  have hrm := @run_makeMap Tryd.prog
  gi_wp2_with fail
  refine ⟨trivial, ?_⟩
  have hb3 : Below w.heap.size w (((w.alloc (.cells #[.slice none 0 0, .map none] 99)).alloc (.map #[] 0)).alloc (.cells #[.slice none 0 0, .map (some (w.heap.size + 1))] 99)) := (((Below.refl _ w).alloc (Nat.le_refl _) _).alloc (by simp) _).alloc (by simp; omega) _
  have hv4 : Var (((w.alloc (.cells #[.slice none 0 0, .map none] 99)).alloc (.map #[] 0)).alloc (.cells #[.slice none 0 0, .map (some (w.heap.size + 1))] 99)) w.heap.size [.slice none 0 0, .map none] := ((Var.new w #[.slice none 0 0, .map none] 99).later (bl1 _ _)).later (bl1 _ _)
  have hsc : ScopeAt (((w.alloc (.cells #[.slice none 0 0, .map none] 99)).alloc (.map #[] 0)).alloc (.cells #[.slice none 0 0, .map (some (w.heap.size + 1))] 99)) w.heap.size (w.heap.size + 1 + 1) (w.heap.size + 1) (.slice none 0 0) [] 0 (mean4 [] [] [] []) := by
    have hm := (MapM.made (w.alloc (.cells #[.slice none 0 0, .map none] 99))).later (bl1 _ (.cells #[.slice none 0 0, .map (some (w.heap.size + 1))] 99))
    have hv := Var.new ((w.alloc (.cells #[.slice none 0 0, .map none] 99)).alloc (.map #[] 0)) #[.slice none 0 0, .map (some (w.heap.size + 1))] 99
    rw [World.size_alloc] at hm
    rw [World.size_alloc, World.size_alloc] at hv
    exact ⟨hv, own_none _ _, hm.congr (fun s => rfl), by omega, by omega, fun e => by cases e⟩
  have hz3 : (((w.alloc (.cells #[.slice none 0 0, .map none] 99)).alloc (.map #[] 0)).alloc (.cells #[.slice none 0 0, .map (some (w.heap.size + 1))] 99)).heap.size = w.heap.size + 1 + 1 + 1 := by simp
  generalize ((w.alloc (.cells #[.slice none 0 0, .map none] 99)).alloc (.map #[] 0)).alloc (.cells #[.slice none 0 0, .map (some (w.heap.size + 1))] 99) = w3 at hb3 hv4 hsc hz3 ⊢
  have hpr3 : ProcAt w3 g (o + n * 9) u.procs[n] := by
    obtain ⟨g9, o9, e9, h9⟩ := proc_at (h3.later hb3) n hn
    injection e9 with e9
    injection e9 with e1 e2
    subst e1 e2
    exact h9
  have HU := Lib.hid h
  have HUN := Lib.hid hun
  have HN0 := Lib.hid hN
  have HPS := Lib.hid hps
  have HC1 := Lib.hid c1
  have HC2 := Lib.hid c2
  have HC3 := Lib.hid c3
  have HNK := Lib.hid hnk
  have HPR := Lib.hid hpr3
  have HZ3 := Lib.hid hz3
  have HB3 := Lib.hid hb3
  have HLP : Hid ((u.procs[n].params ++ u.procs[n].locals).length ≤ 14) := Lib.hid (by rw [List.length_append]; omega)
  refine (callsIn_wide.2 (impl_declared u.procs[n] (by omega) w3 g (o + n * 9) hpr3)).mono ?_
  rintro e w4 ⟨vl, rfl, o4, b4⟩
  have HOL := Lib.hid o4
  have HB4 := Lib.hid (hb3.trans (b4.mono hb3.size))
  have HV4 := Lib.hid (hv4.later b4)
  have HST : Hid (ScopeAt w4 w.heap.size (w.heap.size + 1 + 1) (w.heap.size + 1) (.slice none 0 0) ((u.procs[n].params ++ u.procs[n].locals).take 0) 0 (mean4 ((u.procs[n].params ++ u.procs[n].locals).take 0) [] [] [])) := Lib.hid (hsc.later b4)
  have HZ4 : Hid (w.heap.size + 1 + 1 + 1 ≤ w4.heap.size) := Lib.hid (by have := b4.size; omega)
  clear hb3 hv4 hsc hz3 hpr3 h hun hN hps c1 c2 c3 c3a hnk hpr HDL h3 o4 b4 hbk hrm
  have HLO : Hid (locs u u.procs[n] = coll u u.procs[n].body (u.procs[n].params ++ u.procs[n].locals)) := Lib.hid rfl
  obtain ⟨l, hl⟩ : ∃ l, u.procs[n].params ++ u.procs[n].locals = l := ⟨_, rfl⟩
  rw [hl] at HPS HLP HOL HST HLO
  obtain ⟨al, cl, rfl⟩ := owns_slice HOL.out
  have hl14 : (l.length : Int) ≤ 14 := by have := HLP.out; omega
  clear hl
  gi_wp2
  gi_loopw [8, 22] (fun _ i wr => ∃ (k : Nat) (v : Value), i = .int .i64 k ∧ k ≤ l.length ∧ ScopeAt wr w.heap.size (w.heap.size + 1 + 1) (w.heap.size + 1) v (l.take k) k (mean4 (l.take k) [] [] []) ∧ ScTurn w4 (w.heap.size + 1 + 1) (w.heap.size + 1) (.slice none 0 0) wr ∧ Moves w4 (.slice none 0 0) v) (fun _ i _ => l.length - (intOf i).toNat)
  case atStart => exact ⟨0, _, rfl, Nat.zero_le _, HST.out, ScTurn.refl _ _ _ _, Moves.refl _ _⟩
  case round =>
    clear HST
    obtain ⟨k, v, rfl, hk, hs, ht, hm⟩ := hrel
    have HS := Lib.hid hs
    have HT := Lib.hid ht
    have HM := Lib.hid hm
    have holr : Owns wr w3.heap.size (.slice al l.length cl) l := owns_keep HOL.out (fun b e => ht.2 b (owns_lt HOL.out e).2 (by have h1 := (owns_lt HOL.out e).1; have h2 := HZ3.out; omega) (by have h1 := (owns_lt HOL.out e).1; have h2 := HZ3.out; omega) (fun e => by cases e))
    have hisl := Is.strs_of_owns holr
    clear hs ht hm holr
    by_cases hlt : k < l.length
    · obtain ⟨gl, ol, rfl, q0⟩ := str_at hisl k hlt
      have k0 : (0 : Int) ≤ (k : Int) := by omega
      have k1 : (k : Int) < l.length := by omega
      have HTK : Hid (l.take (k + 1) = l.take k ++ [l[k]]) := Lib.hid (List.take_succ_eq_append_getElem hlt)
      have HLL : Hid (((l.take k).length : Int) = (k : Int)) := Lib.hid (by rw [List.length_take]; omega)
      have HE := Lib.hid (fun s => mean4_loc (l.take k) l[k] s)
      rw [HLL.out, ← HTK.out] at HE
      have HC := Lib.hid (impl_addLocal l[k] (HPS.out _ (List.getElem_mem hlt)) wr w.heap.size (w.heap.size + 1 + 1) (w.heap.size + 1) v (l.take k) k _ HS.out (by rw [List.length_take]; omega) (by omega) (by have h1 := HT.out.1.size; have h2 := HZ4.out; omega))
      unfold AddR at HC
      rw [HLL.out, ← HTK.out] at HC
      clear hisl HTK
      generalize l[k] = x at q0 HE HC
      gi_wp2_with fail
      refine ⟨trivial, ?_⟩
      refine (callsIn_wide.2 HC.out).mono ?_
      rintro e w5 ⟨rfl, v5, hs5, ht5, hm5⟩
      have HS5 := Lib.hid (hs5.congr HE.out (Nat.le_refl _))
      have HT5 := Lib.hid (HT.out.trans ht5 HM.out)
      have HM5 := Lib.hid (HM.out.step hm5 HT.out.1.size)
      clear hs5 ht5 hm5 q0
      gi_wp2
      go_roundw
      case rel => exact ⟨k + 1, _, by go_num, by omega, HS5.out, HT5.out, HM5.out⟩
      case measure => first | (simp [intOf]; done) | (simp [intOf]; omega)
    · obtain rfl : k = l.length := by omega
      have hbw : Below w.heap.size w wr := HB4.out.trans ⟨HT.out.1.os, HT.out.1.tape, HT.out.1.output, HT.out.1.size, fun b hb => HT.out.2 b (by have := HZ4.out; omega) (by omega) (by omega) (fun e => by cases e)⟩
      have HBW := Lib.hid hbw
      have hv4 : Var wr w.heap.size [.slice none 0 0, .map none] := HV4.out.keep (HT.out.2 _ (by have := HZ4.out; omega) (by omega) (by omega) (fun e => by cases e))
      have HV4' := Lib.hid hv4
      have HNB : Hid (v.ownBlock ≠ some w.heap.size) := Lib.hid (fun e => by
        rcases HM.out _ e with h | h
        · cases h
        · have := HZ4.out; omega)
      rw [List.take_length] at HS
      have x1 := (HS.out.1 1 _ rfl).1
      have HC := Lib.hid (impl_outside u HUN.out w _ _ _ HU.out gu ou HC1.out HC2.out HC3.out l (w.heap.size + 1) l.length (by omega) (by omega) wr hbw HS.out.2.2.1)
      unfold DeclR at HC
      clear hisl hbw hv4 HT HM HOL HV4 HB4 HZ4
      gi_wp2_with fail
      refine ⟨trivial, ?_⟩
      refine (callsIn_wide.2 HC.out).mono ?_
      rintro e w6 ⟨rfl, hm6, hg6⟩
      have hbw6 : Below w.heap.size w w6 := below_by HBW.out hg6 (by omega)
      have hs6 : ScopeAt w6 w.heap.size (w.heap.size + 1 + 1) (w.heap.size + 1) v l (l.length + 32) (meanU u l) :=
        ⟨HS.out.1.grown (Var.lt HS.out.1) hg6 (fun e => by have := Option.some.inj e; omega), owns_keep HS.out.2.1 (fun b e => hg6.block b (owns_lt HS.out.2.1 e).2 (fun e2 => map_ne_row HS.out.2.2.1 HS.out.2.1 (e.trans e2))), hm6, HS.out.2.2.2⟩
      have hv6 : Var w6 w.heap.size [.slice none 0 0, .map none] := HV4'.out.grown (Var.lt HV4'.out) hg6 (fun e => by have := Option.some.inj e; omega)
      clear x1 hm6 hg6 HS HV4' HBW HC
      gi_wp2_with fail
      refine ⟨trivial, ?_⟩
      refine (nodes_of Fence.wide _ trivial hro _ _).mono ?_
      rintro e w7 ⟨rfl, rfl⟩
      gi_wp2_with fail
      have hz6 := hbw6.size
      have hz63 : w.heap.size + 1 + 1 + 1 ≤ w6.heap.size := by have h1 := Var.lt hs6.1; omega
      obtain ⟨pr0, pr1, pr2, ⟨pr3, pr4, pr5, pr6⟩, ⟨pv, pr7, prk⟩, pr8⟩ : ProcAt w g (o + n * 9) u.procs[n] := by
        obtain ⟨g9, o9, e9, h9⟩ := proc_at HU.out.2.2 n hn
        injection e9 with e9
        injection e9 with e1 e2
        subst e1 e2
        exact h9
      have hta : TreeAt w g (o + n * 9 + 3) u.procs[n].body := tree_of ⟨pr3, pr4, pr5, pr6⟩ pr7 prk
      clear pr0 pr1 pr2 pr3 pr4 pr5 pr6 pr7 prk pr8
      have c2 := cell_one w6 (.pointer (some ⟨g, o + n * 9 + 3, none⟩)) 155
      have hb7 : Below w.heap.size w (w6.alloc (.cells #[.pointer (some ⟨g, o + n * 9 + 3, none⟩)] 155)) := hbw6.alloc hz6 _
      have hI0 : ScI u w l [] (w6.alloc (.cells #[.pointer (some ⟨g, o + n * 9 + 3, none⟩)] 155)) :=
        ⟨v, l, l.length + 32, rfl, by simp, by simp, hs6.later (bl1 _ _), ⟨hv6.later (bl1 _ _), HNB.out⟩, hb7⟩
      have hz7 : (w6.alloc (.cells #[.pointer (some ⟨g, o + n * 9 + 3, none⟩)] 155)).heap.size = w6.heap.size + 1 := by simp
      generalize w6.alloc (.cells #[.pointer (some ⟨g, o + n * 9 + 3, none⟩)] 155) = w7 at c2 hb7 hI0 hz7 ⊢
      have HI0 := Lib.hid hI0
      have HC2 := Lib.hid c2
      have HB7 := Lib.hid hb7
      have HZ7 := Lib.hid hz7
      have HTA := Lib.hid hta
      have HZ63 := Lib.hid hz63
      have HBK : Hid (u.procs[n].body.bulk ≤ 1048576) := Lib.hid hbk0
      clear hI0 c2 hb7 hz7 hta hs6 hv6 hbw6 hz6 hz63 hpl
      refine wpIn_rangeFunc_ownG hro (by omega) (gf := 115) (lb := #[.pointer (some ⟨w6.heap.size, 0, none⟩)]) rfl trivial (enters_of Tryd.func115 (by kernel_rfl) rfl)
        (nodes_stop Fence.wide rfl (6 - 1) trivial trivial hro w g (o + n * 9 + 3) w6.heap.size u.procs[n].body w7 (by rw [HZ7.out]; omega) HB7.out HC2.out.1 HTA.out HBK.out) belowK_t (belowK_b (by rw [HZ7.out]; have := HZ63.out; omega)) (Below.refl _ _) (fun _ => rfl)
        (ScI u w l) (fun _ _ _ => False) (scI_own u w l (by rw [HZ7.out]; have := HZ63.out; omega)) (fun _ _ _ _ _ hs _ _ => hs) HI0.out ?a1 ?assign ?body ?done ?stop
      case assign =>
        intro lq x W K hK
        dsimp only [ndV]
        gi_wp2
        exact hK
      case body =>
        rintro lq pre x W ⟨v0, L0, m0, e0, hl0, hm0, hsc, ⟨hv4, hne⟩, hbel⟩ hlen
        have HX2 := x.2.2.1
        obtain ⟨⟨q0, q1, q2, q3⟩, _, _⟩ := tree_cells (TreeAt.mono (subw_below hbel) _ x.2.1)
        have HTS : Hid (x.1.2.1.text.size ≤ maxLen) := Lib.hid (by have := bulk_eq x.1.2.1; unfold maxLen; omega)
        have HF : Hid (((pre ++ [x]).map Nd.dat).map Prod.fst = (pre.map Nd.dat).map Prod.fst ++ [x.1.2.1]) := Lib.hid (by rw [List.map_append, List.map_append]; rfl)
        have HLE : Hid (((((pre ++ [x]).map Nd.dat).map Prod.fst).foldl (collN u) l) = collN u L0 x.1.2.1) := Lib.hid (by rw [HF.out, List.foldl_append, ← e0]; rfl)
        have HPL : Hid ((pre ++ [x]).length = pre.length + 1) := Lib.hid (by simp)
        have HSC := Lib.hid hsc
        have HV4 := Lib.hid hv4
        have HNE := Lib.hid hne
        have HBE := Lib.hid hbel
        have HLM : Hid (L0.length ≤ l.length + pre.length ∧ m0 ≤ l.length + 32 + pre.length ∧ pre.length < 600) := Lib.hid ⟨hl0, hm0, by omega⟩
        clear hsc hv4 hne hbel hl0 hm0 e0 HF hlen HX2
        generalize x.1.2.1 = t at q0 q1 q2 q3 HTS HLE
        have hmix : Tryd.prog.follows .mixedOrders = true := by kernel_rfl
        have hfld : ∀ (a b : Int) (W : World), (Instr.field 114 (.agg #[.int .i64 a, .int .i64 b]) 0).run Tryd.prog W = .ok (.int .i64 a) W := fun a b W => by kernel_rfl
        have x1 := (HSC.out.1 1 _ rfl).1
        have x1d : W.drew.cell? ⟨w.heap.size + 1 + 1, 1, none⟩ = some (.map (some (w.heap.size + 1))) := x1
        have q1d : W.drew.cell? ⟨x.1.1.1, x.1.1.2 + 1, none⟩ = some (.string t.text) := q1
        have HOF := Lib.hid (impl_of (w.heap.size + 1) m0 (meanU u L0) t.text W.drew (HSC.out.later (Below.refl _ _).drew).2.2.1 (HN0.out.later HBE.out.drew) HTS.out)
        unfold RetM at HOF
        rw [meanOf_means] at HOF
        have HQ1 := Lib.hid q1
        have HT3 : Hid ((t.kind = 4 ∨ t.kind = 28) ∨ (t.kind ≠ 4 ∧ t.kind ≠ 28)) := Lib.hid (by omega)
        rcases HT3.out with hkk | ⟨hk4, hk28⟩
        · have HKK := Lib.hid hkk
          have HML : Hid (meanU u L0 = meanU u L0) := Lib.hid rfl
          have k1 : (t.kind == 4) = true ∨ ((t.kind == 4) = false ∧ (t.kind == 28) = true) := by
            rcases hkk with h | h
            · exact .inl (kind_b h)
            · exact .inr ⟨by rw [h]; rfl, kind_b h⟩
          obtain ⟨p, hp⟩ : ∃ p, means u L0 t.text = p := ⟨_, rfl⟩
          have HP := Lib.hid hp
          rw [hp] at HOF
          clear hp hkk HT3
          rcases k1 with k1 | ⟨k1, k2⟩
          all_goals
            gi_wp2
            gi_cut [62] from 43 (fun s62 wc => s62 = .bool (p.1 == 0) ∧ Below W.heap.size W wc)
            case first =>
              gi_region_with_o (refine ⟨trivial, ?_⟩; refine (CallsIn.inRound lq (callsIn_wide.2 HOF.out)).mono ?_; rintro e W2 ⟨rfl, b2⟩)
              all_goals gi_wp2_with fail
              all_goals gi_meet
              all_goals exact ⟨rfl, (Below.refl _ _).drew.trans b2⟩
            case rest =>
              obtain ⟨rfl, hbc⟩ := hcut
              have HBC := Lib.hid hbc
              have hsc := HSC.out.later hbc
              have HSC2 := Lib.hid hsc
              have q1c := subw_below hbc _ _ _ HQ1.out
              clear x1 x1d q0 q1 q1d q2 q3 hbc hsc
              by_cases hz : p.1 = 0
              · have tz : (p.1 == 0) = true := kind_b hz
                have HX := Lib.hid (collN_yes (u := u) (acc := L0) HKK.out (by rw [HP.out]; exact hz))
                have HMN := Lib.hid (meanU_none (u := u) (L := L0) (s := t.text) (by rw [HP.out]; exact hz))
                have HA := Lib.hid (impl_addLocal t.text HTS.out wc w.heap.size (w.heap.size + 1 + 1) (w.heap.size + 1) v0 L0 m0 _ HSC2.out (by have := HLM.out; omega) (by have := HLM.out; omega) (by have h1 := HBE.out.size; have h2 := HBC.out.size; omega))
                unfold AddR at HA
                clear hz
                rw [tz]
                gi_wp2_with fail
                refine ⟨trivial, ?_⟩
                refine (CallsIn.inRound lq (callsIn_wide.2 HA.out)).mono ?_
                rintro e W5 ⟨rfl, v5, hs5, ht5, hm5⟩
                clear q1c tz
                gi_wp2
                have hb5 := ht5.below HSC2.out (by have h1 := HBE.out.size; have h2 := HBC.out.size; omega)
                have hbb := (HBC.out.mono HBE.out.size).trans hb5
                refine ⟨keepsFrom_turn HBC.out HSC2.out ht5 (by rw [HZ7.out]; have := HZ63.out; omega) (by rw [HZ7.out]; have := HZ63.out; omega), hbb, v5, L0 ++ [t.text], m0 + 1, by rw [HLE.out, HX.out], by rw [List.length_append, List.length_singleton]; have := HLM.out; have := HPL.out; omega, by have := HLM.out; have := HPL.out; omega, hs5.congr (fun s => meanU_loc u L0 t.text s HMN.out) (Nat.le_refl _), ⟨(HV4.out.later HBC.out).keep (ht5.2 _ (Var.lt (HV4.out.later HBC.out)) (by omega) (by omega) HNE.out), fun e => ?_⟩, HBE.out.trans hbb⟩
                rcases hm5 _ e with h | h
                · exact HNE.out h
                · have h1 := Var.lt (HV4.out.later HBC.out); omega
              · have tz : (p.1 == 0) = false := kind_nb hz
                have HX := Lib.hid (collN_no (u := u) (acc := L0) HKK.out (by rw [HP.out]; exact hz))
                clear hz
                rw [tz]
                gi_wp2
                exact ⟨⟨HBC.out.size, fun k o _ h _ => (HBC.out.block k (Array.getElem?_eq_some_iff.1 h).1).trans h⟩, HBC.out.mono HBE.out.size, _, L0, m0, by rw [HLE.out, HX.out], by have := HLM.out; have := HPL.out; omega, by have := HLM.out; have := HPL.out; omega, HSC2.out, ⟨HV4.out.later HBC.out, HNE.out⟩, HBE.out.trans (HBC.out.mono HBE.out.size)⟩
        · have k4 := kind_nb hk4
          have k28 := kind_nb hk28
          have HX := Lib.hid (collN_oth (u := u) (acc := L0) hk4 hk28)
          clear hk4 hk28 HT3
          gi_wp2
          gi_region_with_o (refine ⟨trivial, ?_⟩)
          all_goals gi_wp2
          all_goals exact ⟨⟨Nat.le_refl _, fun _ _ _ h _ => h⟩, (Below.refl _ _).drew, _, L0, m0, by rw [HLE.out, HX.out], by have := HLM.out; have := HPL.out; omega, by have := HLM.out; have := HPL.out; omega, HSC.out.later (Below.refl _ _).drew, ⟨HV4.out.later (Below.refl _ _).drew, HNE.out⟩, HBE.out.drew⟩
      case done =>
        rintro D ys W hD hys ⟨vD, LD, mD, eD, _, _, hscD, ⟨hv4D, hneD⟩, hbelD⟩ hK
        obtain ⟨aD, cD, rfl⟩ := owns_slice hscD.2.1
        have x0 := (hscD.1 0 _ rfl).1
        have x1 := (hscD.1 1 _ rfl).1
        have y0 := (hv4D 0 _ rfl).1
        have y1 := (hv4D 1 _ rfl).1
        have g0 := (hv4D 0 _ rfl).2
        have g1 := (hv4D 1 _ rfl).2
        have HSD := Lib.hid hscD
        have HED := Lib.hid eD
        have HYS := Lib.hid hys
        have HNE := Lib.hid hneD
        have HBD := Lib.hid hbelD
        have HV2 := Lib.hid ((hv4D.set 0 (.slice aD LD.length cD)).set 1 (.map (some (w.heap.size + 1))))
        have hz7D := HZ7.out
        have hz63D := HZ63.out
        have HK2 : Hid (((W.setCell ⟨w.heap.size, 0, none⟩ (.slice aD LD.length cD)).setCell ⟨w.heap.size, 1, none⟩ (.map (some (w.heap.size + 1)))).heap[D]? = some (.deferred (some []))) := Lib.hid (by rw [set_keep (by omega), set_keep (by omega)]; exact hK)
        have HO2 : Hid (Owns ((W.setCell ⟨w.heap.size, 0, none⟩ (.slice aD LD.length cD)).setCell ⟨w.heap.size, 1, none⟩ (.map (some (w.heap.size + 1)))) w.heap.size (.slice aD LD.length cD) LD) := Lib.hid (owns_keep hscD.2.1 (fun b e => by rw [set_keep (fun e2 => hneD (by rw [e, e2])), set_keep (fun e2 => hneD (by rw [e, e2]))]))
        have HM2 : Hid (MapM ((W.setCell ⟨w.heap.size, 0, none⟩ (.slice aD LD.length cD)).setCell ⟨w.heap.size, 1, none⟩ (.map (some (w.heap.size + 1)))) (w.heap.size + 1) mD (meanU u LD)) := Lib.hid (hscD.2.2.1.keep (by rw [set_keep (by omega), set_keep (by omega)]))
        have HB2 := Lib.hid ((hbelD.setCell (p := ⟨w.heap.size, 0, none⟩) (Nat.le_refl _) (.slice aD LD.length cD)).setCell (p := ⟨w.heap.size, 1, none⟩) (Nat.le_refl _) (.map (some (w.heap.size + 1))))
        have HD2 : Hid (w.heap.size + 1 + 1 + 1 ≤ D) := Lib.hid (by omega)
        clear hscD eD hys hneD hv4D hbelD hz7D hz63D hK hD
        gi_wp2
        generalize (W.setCell ⟨w.heap.size, 0, none⟩ (.slice aD LD.length cD)).setCell ⟨w.heap.size, 1, none⟩ (.map (some (w.heap.size + 1))) = W2 at HV2 HK2 HO2 HM2 HB2 ⊢
        refine ⟨by simp, .inl ⟨_, _, rfl, run_takeDeferred HK2.out, ?_⟩⟩
        have hdd := HD2.out
        have hv3 : Var (W2.putObj D (.deferred none)) w.heap.size [.slice aD LD.length cD, .map (some (w.heap.size + 1))] := HV2.out.keep (World.putObj_heap_other (by omega))
        have z0 := (hv3 0 _ rfl).1
        have z1 := (hv3 1 _ rfl).1
        have hLD : locs u u.procs[n] = LD := by rw [HLO.out, coll_fold u u.procs[n].body l 1 HNK.out, ← HYS.out, ← HED.out]
        rw [hLD]
        refine ⟨.agg #[.slice aD LD.length cD, .map (some (w.heap.size + 1))], by simp [results, Tryd.results45, go_sem, z0, z1], _, _, _, rfl, owns_keep HO2.out (fun b e => World.putObj_heap_other (fun e2 => ?_)), HM2.out.keep (World.putObj_heap_other (by omega)), by omega, HB2.out.grown (grownBy_putObj' W2 D _) HB2.out.size (fun k e => by cases e; omega)⟩
        subst e2
        rcases HO2.out.2 with ⟨h, _⟩ | ⟨gq, cap, cur, h, _, hgg, _⟩
        · rw [h] at e; cases e
        · rw [h] at e
          obtain rfl : gq = b := Option.some.inj e
          rw [HK2.out] at hgg
          cases hgg
      case stop =>
        rintro D c pre W _ _ h _
        exact h.elim
end Go.Proofs.YtbadepiakkhabaaDoor
