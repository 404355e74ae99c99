/- Joined texts: V6, V7, G6. No conditions besides those that each states. -/
import Derived.Deep.RegionHeld3
import Derived.Deep.RegionLaw
import Derived.StillTailTactics
import Derived.IntWalk
import Derived.Test.YtckjmmapekaapaaGreatDoorZ8
import Derived.Test.YtckjmmapekaapaaGreatDoorZ20
import Derived.Test.YtckjmmapekaapaaGreatDoorZ21
import Derived.Test.YtckjmmapekaapaaGreatDoorZ22
/- The reference model's l9Collect, whole; LocalNames. No conditions. -/
namespace Go.Proofs.YtckjmmapekaapaaGreatDoor
open Go.RowKit
set_option linter.unusedVariables false

/-- What is carried round the kids. -/
def CollR (w0 w w2 : World) (A1 A2 : List Value) (v : Value) (l : List ByteArray) (vr : Value) (wr : World) : Prop :=
  Owns wr w0.heap.size vr l ∧ w.grownBy wr v.ownBlock ∧ Moves w v vr ∧ (Var wr w.heap.size A1 ∧ Var wr (w.heap.size + 1) A2) ∧ Below w0.heap.size w0 wr ∧ ((∀ b, v.ownBlock = some b → b < w.heap.size) ∧ w.heap.size + 2 ≤ wr.heap.size ∧ vr.ownBlock ≠ some w.heap.size ∧ vr.ownBlock ≠ some (w.heap.size + 1))
theorem CollR.drew {w0 w w2 : World} {A1 A2 : List Value} {v : Value} {l : List ByteArray} {vr : Value} {wr : World} (h : CollR w0 w w2 A1 A2 v l vr wr) : CollR w0 w w2 A1 A2 v l vr wr.drew := by
  obtain ⟨hown, hgr, hmv, ⟨hv1, hv2⟩, hbl, hlt0, hsz, hne⟩ := h
  exact ⟨owns_later hown (Below.refl _ _).drew, ⟨hgr.os, hgr.tape, hgr.output, hgr.size, hgr.block⟩, hmv, ⟨hv1, hv2⟩, hbl.drew, hlt0, hsz, hne⟩
set_option maxRecDepth 100000 in
set_option maxHeartbeats 3200000 in
theorem collect_kids (u : Un) (w0 : World) (v1 v2 v3 : Value) (hu : UnIs w0 u v1 v2 v3) (t : Ex.T) (hI : ∀ x ∈ t.kids, CollT u w0 v1 v2 v3 x) (hbk : t.kids.length ≤ 1048576) (h4 : t.kind ≠ 4) (h28 : t.kind ≠ 28) : CollT u w0 v1 v2 v3 t := by
  intro acc w x v hx hbl hown hln
  unfold RetL
  have HI := Lib.hid hI
  unfold CollT RetL at HI
  obtain ⟨h1, h2, h3⟩ := hu
  obtain ⟨a1, c1, rfl⟩ := is_slice h1
  obtain ⟨a2, c2, rfl⟩ := is_slice h2
  obtain ⟨a3, c3, rfl⟩ := is_slice h3
  have HKX := Lib.hid hx
  obtain ⟨a4, c4, rfl⟩ := kids_len hx
  have hz := hbl.size
  have hq1 := bl1 w (.cells #[.slice a1 u.recs.length c1, .slice a2 u.globs.length c2, .slice a3 u.procs.length c3] 32)
  have HQ1 := Var.new w #[.slice a1 u.recs.length c1, .slice a2 u.globs.length c2, .slice a3 u.procs.length c3] 32
  obtain ⟨w1, hw1⟩ : ∃ W, w.alloc (.cells #[.slice a1 u.recs.length c1, .slice a2 u.globs.length c2, .slice a3 u.procs.length c3] 32) = W := ⟨_, rfl⟩
  have hz1 : w1.heap.size = w.heap.size + 1 := by rw [← hw1, World.size_alloc]
  rw [hw1] at hq1 HQ1
  have hq2 := bl1 w1 (.cells #[.int .i64 t.kind, .string t.text, .int .i64 t.num, .int .i64 t.line, .slice a4 t.kids.length c4] 47)
  have HQ2 := Var.new w1 #[.int .i64 t.kind, .string t.text, .int .i64 t.num, .int .i64 t.line, .slice a4 t.kids.length c4] 47
  obtain ⟨w2, hw2⟩ : ∃ W, w1.alloc (.cells #[.int .i64 t.kind, .string t.text, .int .i64 t.num, .int .i64 t.line, .slice a4 t.kids.length c4] 47) = W := ⟨_, rfl⟩
  have hz2 : w2.heap.size = w.heap.size + 2 := by rw [← hw2, World.size_alloc, hz1]
  rw [hw2] at hq2 HQ2
  rw [hz1] at HQ2
  have hq := below_then hq1 hq2
  have HW2 := Lib.hid (show (w.alloc (.cells #[.slice a1 u.recs.length c1, .slice a2 u.globs.length c2, .slice a3 u.procs.length c3] 32)).alloc (.cells #[.int .i64 t.kind, .string t.text, .int .i64 t.num, .int .i64 t.line, .slice a4 t.kids.length c4] 47) = w2 by rw [hw1, hw2])
  have HST : Hid (CollR w0 w w2 [.slice a1 u.recs.length c1, .slice a2 u.globs.length c2, .slice a3 u.procs.length c3] [.int .i64 t.kind, .string t.text, .int .i64 t.num, .int .i64 t.line, .slice a4 t.kids.length c4] v (colls u (t.kids.take 0) acc) v w2) :=
    Lib.hid ⟨by rw [List.take_zero, colls]; exact owns_later hown hq, grown_below hq _, Moves.refl _ _, ⟨HQ1.later hq2, HQ2⟩, hbl.trans (hq.mono hz), fun b hb => (owns_lt hown hb).2, by omega, fun e => by have := (owns_lt hown e).2; omega, fun e => by have := (owns_lt hown e).2; omega⟩
  have HX := Lib.hid (coll_kids (u := u) (acc := acc) h4 h28)
  have k4 := kind_nb h4
  have k28 := kind_nb h28
  have HLN : Hid (acc.length + Ex.counts t.kids ≤ 1048576 ∧ acc.length ≤ 1048576) := Lib.hid (by have := count_eq t; omega)
  have y0 := (HST.out.2.2.2.1.2 0 _ rfl).1
  clear hI hx hbl hown hln hz hz1 hz2 hq hq1 hq2 HQ1 HQ2 hw1 hw2 h1 h2 h3 h4 h28
  go_enter Tryz.func20, Tryz.ntmps20
  go_wp2_with fail
  rw [HW2.out]
  go_wp2
  go_loopw [2, 9] (fun vr i wr => ∃ k : Nat, i = .int .i64 k ∧ k ≤ t.kids.length ∧ CollR w0 w w2 [.slice a1 u.recs.length c1, .slice a2 u.globs.length c2, .slice a3 u.procs.length c3] [.int .i64 t.kind, .string t.text, .int .i64 t.num, .int .i64 t.line, .slice a4 t.kids.length c4] v (colls u (t.kids.take k) acc) vr wr) (fun _ i _ => t.kids.length - (intOf i).toNat)
  case atStart => exact ⟨0, rfl, Nat.zero_le _, HST.out⟩
  case round =>
    clear HST y0
    obtain ⟨k, rfl, hk, hr⟩ := hrel
    have HR := Lib.hid hr
    obtain ⟨hown, hgr, hmv, ⟨hv1, hv2⟩, hbl, hlt0, hsz, hne1, hne2⟩ := hr
    have x0 := (hv1 0 _ rfl).1
    have x1 := (hv1 1 _ rfl).1
    have x2 := (hv1 2 _ rfl).1
    have y4 := (hv2 4 _ rfl).1
    have ll := colls_len u (t.kids.take k) acc
    have lt4 := Ex.counts_take_le t.kids k
    by_cases hlt : k < t.kids.length
    · obtain ⟨gk, ok, rfl, ht⟩ := kids_at (HKX.out.later hbl) k hlt
      obtain ⟨⟨q0, q1, q2, q3⟩, vx, q4, hkv⟩ := tree_cells ht
      have hx0 : Kids w0 vx t.kids[k].kids := by
        obtain ⟨g9, o9, e9, ht9⟩ := kids_at HKX.out k hlt
        obtain rfl : g9 = gk := by injection e9 with e9; injection e9 with e9 _ _; exact e9.symm
        obtain rfl : o9 = ok := by injection e9 with e9; injection e9 with _ e9 _; exact e9.symm
        obtain ⟨_, vy, q9, hky⟩ := tree_cells ht9
        obtain rfl : vy = vx := Option.some.inj ((subw_below hbl _ _ _ q9).symm.trans q4)
        exact hky
      have hlk : (colls u (t.kids.take k) acc).length + t.kids[k].count ≤ 1048576 := by
        have l5 := Ex.counts_take t.kids k hlt
        have l6 := Ex.counts_take_le t.kids (k + 1)
        have := HLN.out.1
        omega
      have HC := Lib.hid (HI.out t.kids[k] (List.getElem_mem hlt) (colls u (t.kids.take k) acc) wr.drew vx u2 hx0 hbl.drew (owns_later hown (Below.refl _ _).drew) hlk)
      rw [← colls_take u t.kids k hlt acc] at HC
      obtain ⟨a8, c8, rfl⟩ := kids_len hkv
      have k0 : (0 : Int) ≤ k := by omega
      have k1 : (k : Int) < t.kids.length := by omega
      clear hown hgr hmv hv1 hv2 hbl hlt0 hsz hne1 hne2 ht hkv hx0 ll lt4 hlk
      obtain ⟨acc2, hacc⟩ : ∃ l, colls u (t.kids.take (k + 1)) acc = l := ⟨_, rfl⟩
      rw [hacc] at HC
      have HACC := Lib.hid hacc
      clear hacc
      generalize t.kids[k] = y at q0 q1 q2 q3 q4 HC
      go_wp2_with fail
      go_still_tail 7, (by kernel_rfl)
      change wpList _ _ _ _ _ wr.drew
      clear x0 x1 x2 y4 q0 q1 q2 q3 q4
      have HD := Lib.hid HR.out.drew
      generalize wr.drew = w5 at HC HD ⊢
      go_wp2_with (go_at_call 20; (with_reducible refine HC.out.mono ?_); rintro e w6 ⟨v6, rfl, ho6, hg6, hm6⟩)
      have HN : Hid (CollR w0 w w2 [.slice a1 u.recs.length c1, .slice a2 u.globs.length c2, .slice a3 u.procs.length c3] [.int .i64 t.kind, .string t.text, .int .i64 t.num, .int .i64 t.line, .slice (some ⟨gk, ok, none⟩) t.kids.length c4] v acc2 v6 w6) := by
        obtain ⟨hown, hgr, hmv, ⟨hv1, hv2⟩, hbl, hlt0, hsz, hne1, hne2⟩ := HD.out
        refine Lib.hid ⟨ho6, grown_then hgr hg6 hmv, hmv.trans hm6 hgr, ⟨hv1.grown (by omega) hg6 hne1, hv2.grown (by omega) hg6 hne2⟩, below_grown hbl hown (Nat.le_refl _) hg6, hlt0, Nat.le_trans hsz hg6.size, fun e => ?_, fun e => ?_⟩
        · rcases hm6 _ e with h | h
          · exact hne1 h
          · omega
        · rcases hm6 _ e with h | h
          · exact hne2 h
          · omega
      clear ho6 hg6 hm6 HD HC HR
      go_roundw
      case rel => exact ⟨k + 1, by go_num, by omega, by rw [HACC.out]; exact HN.out⟩
      case measure => first | (simp [intOf]; done) | (simp [intOf]; omega)
    · obtain rfl : k = t.kids.length := by omega
      clear hown hgr hmv hv1 hv2 hbl hlt0 hsz hne1 hne2 ll lt4
      go_wp2
      go_ret
      refine ⟨_, rfl, ?_, HR.out.2.1, HR.out.2.2.1⟩
      have h := HR.out.1
      rw [List.take_length] at h
      rw [HX.out]
      exact h
theorem spec_collect (u : Un) (hb : u.bulk ≤ 1048576) (w0 : World) (v1 v2 v3 : Value) (hu : UnIs w0 u v1 v2 v3) : ∀ (N : Nat) (t : Ex.T), t.count ≤ N → t.bulk ≤ 1048576 → CollT u w0 v1 v2 v3 t := by
  intro N
  induction N with
  | zero => intro t h; have := Ex.count_pos t; omega
  | succ N ih =>
    intro t hN hbt
    by_cases h4 : t.kind = 4
    · exact collect_name u hb w0 v1 v2 v3 hu t (.inl h4)
    · by_cases h28 : t.kind = 28
      · exact collect_name u hb w0 v1 v2 v3 hu t (.inr h28)
      · have hbe := bulk_eq t
        exact collect_kids u w0 v1 v2 v3 hu t (fun x hx => ih x (by have := kids_count hx; omega) (by have := Ex.bulks_mem hx; omega)) (by omega) h4 h28
end Go.Proofs.YtckjmmapekaapaaGreatDoor
/- Appending a whole list of names to a list of the call's own. No conditions. -/
namespace Go.Proofs.YtckjmmapekaapaaGreatDoor
open Go.RowKit
set_option linter.unusedVariables false

theorem own_first (W : World) (n : Nat) (hn : W.heap.size = n) : Owns (W.alloc (.cells #[] 9)) n (.slice (some ⟨n, 0, none⟩) 0 0) [] := by
  subst hn
  exact World.ownsRow_made W #[] 0 (Nat.le_refl _) (by unfold maxLen; omega) rfl
theorem append_strs {B : Nat} {w : World} {v x : Value} {l m : List ByteArray} (ty : TypeId) (hown : Owns w B v l) (hx : Is w (strsD m) x) (hn : l.length + m.length ≤ 1048576) (hB : B ≤ w.heap.size) :
    ∃ v' w', (Builtin.append_ #[23, 23] ty #[v, x]).run Tryz.prog w = .ok v' w' ∧ Owns w' B v' (l ++ m) ∧ w.grownBy w' v.ownBlock ∧ Moves w v v' := by
  obtain ⟨i0, hi, hz0, hz1, hz2⟩ := info_parts info_string
  obtain ⟨a, c, rfl⟩ := is_slice hx
  by_cases h0 : m = []
  · subst h0
    rw [List.append_nil]
    refine ⟨v, w, ?_, hown, grown_refl _, Moves.refl _ _⟩
    rcases hown.2 with ⟨rfl, hl⟩ | ⟨g, cap, cur, rfl, _, hg, hc, hm, hcs, _⟩
    · cases a with
      | none => simp [Builtin.append_, run_underlying Tryz.underlying23, sizeOf, typeInfo, hi, Builtin.lenOf, Builtin.firstCells]
      | some ad2 =>
        have hf := run_firstCells_some (P := Tryz.prog) w i0.size 0 ad2 0 c [] (by simp) (by simp)
        simp [Builtin.append_, run_underlying Tryz.underlying23, sizeOf, typeInfo, hi, Builtin.lenOf, hf]
    · cases a with
      | none => simp [Builtin.append_, run_underlying Tryz.underlying23, sizeOf, typeInfo, hi, Builtin.lenOf, Builtin.firstCells, storeCells, hc]
      | some ad2 =>
        have hf := run_firstCells_some (P := Tryz.prog) w i0.size 0 ad2 0 c [] (by simp) (by simp)
        simp [Builtin.append_, run_underlying Tryz.underlying23, sizeOf, typeInfo, hi, Builtin.lenOf, hf, storeCells, hc]
  · obtain ⟨g, o, us, rfl, hul, hus, hone, hd⟩ := row_vals hx (by simpa using h0) (str_real m)
    have hul2 : us.length = m.length := by rw [hul, List.length_map]
    have hpos := List.length_pos_iff.2 h0
    have hvals : us = m.map Value.string := by
      apply List.ext_getElem?
      intro j
      by_cases hj : j < m.length
      · obtain ⟨u, hu, hI⟩ := hd j (.str m[j]) (by rw [List.getElem?_map, List.getElem?_eq_getElem hj]; rfl)
        rw [hu, is_str hI, List.getElem?_map, List.getElem?_eq_getElem hj]; rfl
      · rw [List.getElem?_eq_none (by omega), List.getElem?_eq_none (by rw [List.length_map]; omega)]
    obtain ⟨v', w', hr, h2, h3, _⟩ := run_append_own (P := Tryz.prog) w B 23 ty 9 i0 (.string ByteArray.empty) 1 16 Tryz.underlying23 hi hz0 hz1 hz2 rfl (by decide) v l.length (l.map Value.string) hown ⟨g, o, none⟩ m.length c us (by omega) hus hone (by unfold maxLen; omega) (by omega) hB
    refine ⟨v', w', hr, ?_, h3, fun b hb => ?_⟩
    · unfold Owns
      rw [List.map_append, List.length_append, ← hvals]
      exact h2
    · rcases hown.2 with ⟨rfl, hn0⟩ | ⟨g2, cap, cur, rfl, hbg, hg, hnc, hcm, hcs, htake⟩
      · have hr2 := run_append_nil (P := Tryz.prog) w 23 ty 9 i0 _ Tryz.underlying23 hi hz0 ⟨g, o, none⟩ m.length c us (by rw [hz1]; omega) hus hpos (by omega) (by rw [hz2]; omega)
        rw [hr2] at hr
        injection hr with e1 e2
        subst e1
        obtain rfl : w.heap.size = b := Option.some.inj hb
        exact .inr (Nat.le_refl _)
      · by_cases hroom : l.length + m.length ≤ cap
        · have hr2 := run_append_room (P := Tryz.prog) w 23 ty 9 i0 Tryz.underlying23 hi g2 l.length cap cur hg ⟨g, o, none⟩ m.length c us (by rw [hz1]; omega) hus hone hroom (by rw [hz1, hcs]; omega)
          rw [hr2] at hr
          injection hr with e1 e2
          subst e1
          exact .inl hb
        · have hr2 := run_append_grow (P := Tryz.prog) w 23 ty 9 i0 _ Tryz.underlying23 hi hz0 ⟨g2, 0, none⟩ l.length cap (l.map Value.string) (by rw [List.length_map, hz1]; omega) (fun j u h => World.ownsRow.cells hown (g := g2) rfl j u h) ⟨g, o, none⟩ m.length c us (by rw [hz1]; omega) hus (by omega) (by omega) (growslice_fits (by omega) (by rw [hz2]; omega))
          rw [hr2] at hr
          injection hr with e1 e2
          subst e1
          obtain rfl : w.heap.size = b := Option.some.inj hb
          exact .inr (Nat.le_refl _)
theorem step_append_more {B : Nat} {w : World} {v x : Value} {l m : List ByteArray} {ops : Array Oper} {o : Oper} {a : Act} {K : Act → World → Prop} {Q : Exit → Act → World → Prop} {E : Prop} (hgd : o.guard = none) (s y : Operand)
    (ho : o.op = .call { callee := .builtin .append, args := #[s, y], argTypes := #[23, 23] }) (hs : a.eval s = v) (hy : a.eval y = x) (hown : Owns w B v l) (hx : Is w (strsD m) x) (hn : l.length + m.length ≤ 1048576) (hB : B ≤ w.heap.size)
    (h : ∀ v' w', Owns w' B v' (l ++ m) → w.grownBy w' v.ownBlock → Moves w v v' → K (a.put o.dst v') w') :
    if Region.wanted o (yielded ops a.tmps) = true then Oper.wp Tryz.prog o a w K Q else E := by
  have hw : Region.wanted o (yielded ops a.tmps) = true := by simp [Region.wanted, hgd]
  rw [if_pos hw]
  obtain ⟨v', w', hr, h2, h3, h4⟩ := append_strs o.type hown hx hn hB
  unfold Oper.wp execOp
  simp only [ho, resolve, invoke, builtin, Sem.run_bind, Sem.run_pure, Result.andThen_ok, List.map_toArray, List.map_cons, List.map_nil, hs, hy, hr]
  exact h v' w' h2 h3 h4
theorem wpList_append_more {B : Nat} {w : World} {v x : Value} {l m : List ByteArray} {ops : Array Oper} {rest : List Oper} {o : Oper} {a : Act} {Q : Exit → Act → World → Prop} (hgd : o.guard = none) (s y : Operand)
    (ho : o.op = .call { callee := .builtin .append, args := #[s, y], argTypes := #[23, 23] }) (hs : a.eval s = v) (hy : a.eval y = x) (hown : Owns w B v l) (hx : Is w (strsD m) x) (hn : l.length + m.length ≤ 1048576) (hB : B ≤ w.heap.size)
    (h : ∀ v' w', Owns w' B v' (l ++ m) → w.grownBy w' v.ownBlock → Moves w v v' → wpList Tryz.prog ops Q rest (a.put o.dst v') w') : wpList Tryz.prog ops Q (o :: rest) a w := by
  refine wpList_plain hgd fun K hK => ?_
  obtain ⟨v', w', hr, h2, h3, h4⟩ := append_strs o.type hown hx hn hB
  unfold Oper.wp execOp
  simp only [ho, resolve, invoke, builtin, Sem.run_bind, Sem.run_pure, Result.andThen_ok, List.map_toArray, List.map_cons, List.map_nil, hs, hy, hr]
  exact hK _ _ (h v' w' h2 h3 h4)
end Go.Proofs.YtckjmmapekaapaaGreatDoor
/- The laws' comparison of a tree with itself. No conditions. -/
namespace Go.Proofs.YtckjmmapekaapaaGreatDoor
open Go.RowKit
set_option linter.unusedVariables false

def EqT (t : Ex.T) : Prop := t.bulk ≤ 1048576 → ∀ (w : World) (v1 v2 : Value), Kids w v1 t.kids → Kids w v2 t.kids → Calls Tryz.prog 79 #[exV t v1, exV t v2] w fun e w' => e = .returned (.bool true) ∧ Below w.heap.size w w'
set_option maxRecDepth 100000 in
set_option maxHeartbeats 1600000 in
theorem eq_list (ks : List Ex.T) (hI : ∀ x ∈ ks, EqT x) (hl : ks.length + Ex.bulks ks ≤ 1048576) (w : World) (v1 v2 : Value) (h1 : Kids w v1 ks) (h2 : Kids w v2 ks) : Calls Tryz.prog 95 #[v1, v2] w fun e w' => e = .returned (.bool true) ∧ Below w.heap.size w w' := by
  obtain ⟨a1, c1, rfl⟩ := kids_len h1
  obtain ⟨a2, c2, rfl⟩ := kids_len h2
  have H1 := Lib.hid h1
  have H2 := Lib.hid h2
  have HI := Lib.hid hI
  have HL := Lib.hid hl
  have hln : ks.length ≤ 1048576 := by omega
  clear h1 h2 hI hl
  go_enter Tryz.func95, Tryz.ntmps95
  go_wp2
  go_loopw [5] (fun i wr => ∃ k : Nat, i = .int .i64 k ∧ k ≤ ks.length ∧ Below w.heap.size w wr) (fun i _ => ks.length - (intOf i).toNat)
  case atStart => exact ⟨0, rfl, Nat.zero_le _, Below.refl _ _⟩
  case round =>
    obtain ⟨k, rfl, hk, hb⟩ := hrel
    have HB := Lib.hid hb
    have HK1 := Lib.hid (H1.out.later hb)
    have HK2 := Lib.hid (H2.out.later hb)
    clear hb
    by_cases hlt : k < ks.length
    · obtain ⟨g1, o1, rfl, ht1⟩ := kids_at HK1.out k hlt
      obtain ⟨g2, o2, rfl, ht2⟩ := kids_at HK2.out k hlt
      obtain ⟨⟨q0, q1, q2, q3⟩, u1, q4, hk1⟩ := tree_cells ht1
      obtain ⟨⟨p0, p1, p2, p3⟩, u2, p4, hk2⟩ := tree_cells ht2
      have hbk : ks[k].bulk ≤ 1048576 := by have h1 := Ex.bulks_mem (List.getElem_mem hlt); have h2 := HL.out; omega
      have HC := Lib.hid (fun W hW => HI.out ks[k] (List.getElem_mem hlt) hbk W u1 u2 (hk1.later hW) (hk2.later hW))
      have k0 : (0 : Int) ≤ k := by omega
      have k1 : (k : Int) < ks.length := by omega
      clear ht1 ht2 hk1 hk2 hbk
      generalize ks[k] = x at q0 q1 q2 q3 p0 p1 p2 p3 HC
      go_wp2_with fail
      go_still_tail 8, (by kernel_rfl)
      change wpList _ _ _ _ _ wr.drew
      have HC2 := Lib.hid (HC.out wr.drew ((Below.refl _ _).drew))
      have HB2 := Lib.hid HB.out.drew
      clear q0 q1 q2 q3 q4 p0 p1 p2 p3 p4 HK1 HK2 HB HC
      generalize wr.drew = w5 at HC2 HB2 ⊢
      go_wp2_with (go_at_call 79; refine HC2.out.mono ?_; rintro e w6 ⟨rfl, hb6⟩; have HB6 := Lib.hid (below_then HB2.out hb6); clear hb6)
      go_roundw
      case rel => exact ⟨k + 1, by go_num, by omega, HB6.out⟩
      case measure => first | (simp [intOf]; done) | (simp [intOf]; omega)
    · obtain rfl : k = ks.length := by omega
      go_wp2
      go_ret
      exact ⟨rfl, HB.out⟩
set_option maxHeartbeats 1600000 in
theorem eq_tree : ∀ (N : Nat) (t : Ex.T), t.count ≤ N → EqT t := by
  intro N
  induction N with
  | zero => intro t h; have := Ex.count_pos t; omega
  | succ N ih =>
    intro t hN hbt w v1 v2 h1 h2
    have HBE := bulk_eq t
    have HL := Lib.hid (fun W hW => eq_list t.kids (fun x hx => ih x (by have := kids_count hx; omega)) (by omega) W v1 v2 (h1.later hW) (h2.later hW))
    obtain ⟨a1, c1, rfl⟩ := kids_len h1
    obtain ⟨a2, c2, rfl⟩ := kids_len h2
    have HL2 := Lib.hid (HL.out _ (Below.alloc (bl1 w (.cells #[.int .i64 t.kind, .string t.text, .int .i64 t.num, .int .i64 t.line, .slice a1 t.kids.length c1] 47)) (bl1 w (.cells #[.int .i64 t.kind, .string t.text, .int .i64 t.num, .int .i64 t.line, .slice a1 t.kids.length c1] 47)).size (.cells #[.int .i64 t.kind, .string t.text, .int .i64 t.num, .int .i64 t.line, .slice a2 t.kids.length c2] 47)))
    have HB := Lib.hid (Below.alloc (bl1 w (.cells #[.int .i64 t.kind, .string t.text, .int .i64 t.num, .int .i64 t.line, .slice a1 t.kids.length c1] 47)) (bl1 w (.cells #[.int .i64 t.kind, .string t.text, .int .i64 t.num, .int .i64 t.line, .slice a1 t.kids.length c1] 47)).size (.cells #[.int .i64 t.kind, .string t.text, .int .i64 t.num, .int .i64 t.line, .slice a2 t.kids.length c2] 47))
    clear ih hN h1 h2 HL hbt HBE
    go_enter Tryz.func79, Tryz.ntmps79
    go_wp2_with (go_at_call 95; refine HL2.out.mono ?_; rintro e w1 ⟨rfl, hb1⟩; have HB1 := Lib.hid (below_then HB.out hb1); clear hb1)
    go_ret
    exact ⟨rfl, HB1.out⟩
end Go.Proofs.YtckjmmapekaapaaGreatDoor
