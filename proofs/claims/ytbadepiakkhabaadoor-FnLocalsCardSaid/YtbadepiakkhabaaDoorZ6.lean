/- Joined texts: N30, U3, U4, U5, U6, N27, U14. No conditions besides those that each states. -/
import Derived.Deep.RegionLaw
import Derived.RangeFuncRecord
import Derived.Test.YtbadepiakkhabaaDoorZ4
import Derived.Test.YtbadepiakkhabaaDoorZ5
/- What the laws write into a list of trees: the walk. No conditions. -/
namespace Go.Proofs.YtbadepiakkhabaaDoor
open Go.RowKit
set_option linter.unusedVariables false

theorem MkAt.done {w wr : World} {g c k0 : Nat} {l : List El} {ks : List Ex.T} (h : MkAt w g c l ks k0 ks.length wr) (hg : g ∉ elsF l) (h0 : ks ≠ []) : OwnK wr (.slice (some ⟨g, 0, none⟩) ks.length c) (Ex.mrks ks k0) (g :: elsF l) ∧ OnlyF (g :: elsF l) w wr := by
  obtain ⟨le, h1, h2, h3, h4, h5⟩ := h
  rw [List.take_length, List.drop_length, List.append_nil] at h2
  have hF : elsF le = elsF l := elsF_snd h1
  have hlen : le.length = ks.length := by
    have h6 := congrArg List.length h2
    rw [List.length_map, Ex.mrks_len] at h6; exact h6
  have hr : RowE wr g le.length c (rowV le) := by rw [hlen]; exact h3
  have hK := ownK_els hr h4 (hF ▸ hg)
  rw [hlen, h2, hF, if_neg (fun e => h0 (by have h7 := congrArg List.length e; rw [Ex.mrks_len] at h7; exact List.length_eq_zero_iff.1 h7))] at hK
  exact ⟨hK, h5⟩
end Go.Proofs.YtbadepiakkhabaaDoor
/- The laws' helpers over lists of strings, wherever they stand: their measure, their copy, comparing them, marking them and reading the marks. No conditions. -/
namespace Go.Proofs.YtbadepiakkhabaaDoor
open Go.RowKit
set_option linter.unusedVariables false

abbrev strsD (l : List ByteArray) : D := .row l.length (l.map D.str)
/-- How much a list of strings counts. -/
def strsB (l : List ByteArray) : Nat := l.length + wsum ByteArray.size l
theorem str_at {w : World} {a : Option Addr} {n c : Nat} {l : List ByteArray} (h : Is w (.row n (l.map D.str)) (.slice a n c)) (i : Nat) (hi : i < l.length) : ∃ g o, a = some ⟨g, o, none⟩ ∧ w.cell? ⟨g, o + i, none⟩ = some (.string l[i]) := by
  obtain ⟨g, o, e, hc⟩ := is_elem h i [.str l[i]] (by simp) fun j d hj => by
    match j with
    | 0 => obtain rfl := Option.some.inj hj; rw [Nat.add_zero, List.getElem?_map, List.getElem?_eq_getElem hi]; rfl
    | j + 1 => simp at hj
  obtain ⟨u, hu, hd⟩ := hc 0 _ rfl
  rw [Is] at hd
  subst hd
  exact ⟨g, o, e, hu⟩
theorem own_of_owns {w : World} {base : Nat} {v : Value} {l : List ByteArray} (h : Owns w base v l) : ∃ F, Own w (strsD l) v F ∧ Foot base w F := by
  by_cases h0 : l = []
  · subst h0
    rcases h.2 with ⟨rfl, _⟩ | ⟨g, cap, cur, rfl, _⟩
    · exact ⟨[], own_nil, fun b hb => by cases hb⟩
    · exact ⟨[], own_nil, fun b hb => by cases hb⟩
  · rcases id h.2 with ⟨rfl, hn⟩ | ⟨g, cap, cur, rfl, hb, _, hcap, _⟩
    · exact absurd (List.length_eq_zero_iff.1 hn) h0
    · have hfl : (List.replicate l.length ([] : List Nat)).flatten = [] := by simp
      have hr : RowD w g 0 (l.map D.str) (List.replicate l.length []) := by
        refine ⟨⟨by rw [hfl]; exact List.not_mem_nil, pairwise_of fun i j F G _ hi hj b hb2 => ?_⟩, by rw [List.length_replicate, List.length_map], fun j d hj => ?_⟩
        · obtain ⟨_, rfl⟩ := List.mem_replicate.1 (List.mem_of_getElem? hi)
          cases hb2
        · rw [List.getElem?_map] at hj
          obtain ⟨s, hs, rfl⟩ := Option.map_eq_some_iff.1 hj
          have hjl : j < l.length := (List.getElem?_eq_some_iff.1 hs).1
          refine ⟨.string s, [], by rw [List.getElem?_replicate, if_pos hjl], ?_, World.ownsRow.frozenAt h _, by rw [Own]; exact ⟨rfl, rfl⟩⟩
          rw [Nat.zero_add, World.ownsRow.cellAt h j (by omega), List.getElem?_map, hs]
          rfl
      refine ⟨_, own_of_rowD hr (by simpa using h0) hcap, fun b hb2 => ?_⟩
      rw [hfl, List.mem_singleton] at hb2
      subst hb2
      exact ⟨hb, (World.ownsRow.lt h b rfl).2⟩
end Go.Proofs.YtbadepiakkhabaaDoor
/- Records, procedures, units as data. No conditions. -/
namespace Go.Proofs.YtbadepiakkhabaaDoor
open Go.RowKit
set_option linter.unusedVariables false

structure Rc where
  name : ByteArray
  fields : List ByteArray
  line : Int
structure Pc where
  name : ByteArray
  params : List ByteArray
  locals : List ByteArray
  body : Ex.T
  line : Int
structure Un where
  recs : List Rc
  globs : List ByteArray
  procs : List Pc
def Rc.ds (r : Rc) : List D := [.str r.name, strsD r.fields, .int r.line]
def Pc.ds (p : Pc) : List D := [.str p.name, strsD p.params, strsD p.locals, .int p.body.kind, .str p.body.text, .int p.body.num, .int p.body.line, .ex p.body.kids, .int p.line]
abbrev recsD (l : List Rc) : D := .row l.length (l.flatMap Rc.ds)
abbrev procsD (l : List Pc) : D := .row l.length (l.flatMap Pc.ds)
theorem Rc.ds_len (r : Rc) : r.ds.length = 3 := rfl
theorem Pc.ds_len (p : Pc) : p.ds.length = 9 := rfl
abbrev rcV (r : Rc) (v1 : Value) : Value := .agg #[.string r.name, v1, .int .i64 r.line]
abbrev pcV (p : Pc) (v1 v2 v3 : Value) : Value := .agg #[.string p.name, v1, v2, .int .i64 p.body.kind, .string p.body.text, .int .i64 p.body.num, .int .i64 p.body.line, v3, .int .i64 p.line]
abbrev unV (v1 v2 v3 : Value) : Value := .agg #[v1, v2, v3]
/-- The cells of a record at a place. -/
def RecAt (w : World) (g o : Nat) (r : Rc) : Prop := w.cell? ⟨g, o, none⟩ = some (.string r.name) ∧ (∃ v1, w.cell? ⟨g, o + 1, none⟩ = some v1 ∧ Is w (strsD r.fields) v1) ∧ w.cell? ⟨g, o + 2, none⟩ = some (.int .i64 r.line)
def ProcAt (w : World) (g o : Nat) (p : Pc) : Prop := w.cell? ⟨g, o, none⟩ = some (.string p.name) ∧ (∃ v1, w.cell? ⟨g, o + 1, none⟩ = some v1 ∧ Is w (strsD p.params) v1) ∧ (∃ v2, w.cell? ⟨g, o + 2, none⟩ = some v2 ∧ Is w (strsD p.locals) v2) ∧ (w.cell? ⟨g, o + 3, none⟩ = some (.int .i64 p.body.kind) ∧ w.cell? ⟨g, o + 4, none⟩ = some (.string p.body.text) ∧ w.cell? ⟨g, o + 5, none⟩ = some (.int .i64 p.body.num) ∧ w.cell? ⟨g, o + 6, none⟩ = some (.int .i64 p.body.line)) ∧ (∃ v3, w.cell? ⟨g, o + 7, none⟩ = some v3 ∧ Kids w v3 p.body.kids) ∧ w.cell? ⟨g, o + 8, none⟩ = some (.int .i64 p.line)
theorem is_int {w : World} {n : Int} {v : Value} (h : Is w (.int n) v) : v = .int .i64 n := by rw [Is] at h; exact h
theorem is_str {w : World} {s : ByteArray} {v : Value} (h : Is w (.str s) v) : v = .string s := by rw [Is] at h; exact h
theorem is_ex {w : World} {ks : List Ex.T} {v : Value} (h : Is w (.ex ks) v) : Kids w v ks := by rw [Is] at h; exact h
theorem rec_at {w : World} {a : Option Addr} {n c : Nat} {l : List Rc} (h : Is w (.row n (l.flatMap Rc.ds)) (.slice a n c)) (i : Nat) (hi : i < l.length) : ∃ g o, a = some ⟨g, o, none⟩ ∧ RecAt w g (o + i * 3) l[i] := by
  obtain ⟨g, o, e, hc⟩ := is_nth Rc.ds Rc.ds_len (by decide) h i l[i] (List.getElem?_eq_getElem hi)
  obtain ⟨u0, c0, d0⟩ := hc 0 _ rfl
  obtain ⟨u1, c1, d1⟩ := hc 1 _ rfl
  obtain ⟨u2, c2, d2⟩ := hc 2 _ rfl
  obtain rfl := is_str d0
  obtain rfl := is_int d2
  exact ⟨g, o, e, c0, ⟨u1, c1, d1⟩, c2⟩
theorem proc_at {w : World} {a : Option Addr} {n c : Nat} {l : List Pc} (h : Is w (.row n (l.flatMap Pc.ds)) (.slice a n c)) (i : Nat) (hi : i < l.length) : ∃ g o, a = some ⟨g, o, none⟩ ∧ ProcAt w g (o + i * 9) l[i] := by
  obtain ⟨g, o, e, hc⟩ := is_nth Pc.ds Pc.ds_len (by decide) h i l[i] (List.getElem?_eq_getElem hi)
  obtain ⟨u0, c0, d0⟩ := hc 0 _ rfl
  obtain ⟨u1, c1, d1⟩ := hc 1 _ rfl
  obtain ⟨u2, c2, d2⟩ := hc 2 _ rfl
  obtain ⟨u3, c3, d3⟩ := hc 3 _ rfl
  obtain ⟨u4, c4, d4⟩ := hc 4 _ rfl
  obtain ⟨u5, c5, d5⟩ := hc 5 _ rfl
  obtain ⟨u6, c6, d6⟩ := hc 6 _ rfl
  obtain ⟨u7, c7, d7⟩ := hc 7 _ rfl
  obtain ⟨u8, c8, d8⟩ := hc 8 _ rfl
  obtain rfl := is_str d0
  obtain rfl := is_int d3
  obtain rfl := is_str d4
  obtain rfl := is_int d5
  obtain rfl := is_int d6
  obtain rfl := is_int d8
  exact ⟨g, o, e, c0, ⟨u1, c1, d1⟩, ⟨u2, c2, d2⟩, ⟨c3, c4, c5, c6⟩, ⟨u7, c7, is_ex d7⟩, c8⟩
def Rc.bulk (r : Rc) : Nat := r.name.size + strsB r.fields
def Pc.bulk (p : Pc) : Nat := p.name.size + (strsB p.params + (strsB p.locals + p.body.bulk))
def recsB (l : List Rc) : Nat := l.length + wsum Rc.bulk l
def procsB (l : List Pc) : Nat := l.length + wsum Pc.bulk l
def Un.bulk (u : Un) : Nat := recsB u.recs + (strsB u.globs + procsB u.procs)
/-- A unit by its three lists. -/
def UnIs (w : World) (u : Un) (v1 v2 v3 : Value) : Prop := Is w (recsD u.recs) v1 ∧ Is w (strsD u.globs) v2 ∧ Is w (procsD u.procs) v3
theorem UnIs.later {w w' : World} {u : Un} {v1 v2 v3 : Value} (h : UnIs w u v1 v2 v3) (hb : Below w.heap.size w w') : UnIs w' u v1 v2 v3 := ⟨h.1.later hb, h.2.1.later hb, h.2.2.later hb⟩
/-- A unit whose lists lie in the blocks F, each met once. -/
def UnOwn (w : World) (u : Un) (v1 v2 v3 : Value) (F1 F2 F3 : List Nat) : Prop := (Own w (recsD u.recs) v1 F1 ∧ Own w (strsD u.globs) v2 F2 ∧ Own w (procsD u.procs) v3 F3) ∧ Apart F1 F2 ∧ Apart F1 F3 ∧ Apart F2 F3
theorem UnOwn.is {w : World} {u : Un} {v1 v2 v3 : Value} {F1 F2 F3 : List Nat} (h : UnOwn w u v1 v2 v3 F1 F2 F3) : UnIs w u v1 v2 v3 := ⟨h.1.1.is, h.1.2.1.is, h.1.2.2.is⟩
theorem UnOwn.keep {w w' : World} {u : Un} {v1 v2 v3 : Value} {F1 F2 F3 : List Nat} (h : UnOwn w u v1 v2 v3 F1 F2 F3) (hF : ∀ b ∈ F1 ++ (F2 ++ F3), w'.heap[b]? = w.heap[b]?) : UnOwn w' u v1 v2 v3 F1 F2 F3 :=
  ⟨⟨Own.keep _ _ _ (fun b hb => hF b (List.mem_append_left _ hb)) h.1.1, Own.keep _ _ _ (fun b hb => hF b (List.mem_append_right _ (List.mem_append_left _ hb))) h.1.2.1, Own.keep _ _ _ (fun b hb => hF b (List.mem_append_right _ (List.mem_append_right _ hb))) h.1.2.2⟩, h.2⟩
def Rc.wd (r : Rc) : Nat := r.fields.length + 2
def Pc.k1 (p : Pc) (k : Nat) : Nat := k + 1 + p.params.length + p.locals.length
def Pc.wd (p : Pc) : Nat := p.params.length + p.locals.length + 4 * Ex.counts p.body.kids + 6
def Un.wd (u : Un) : Nat := wsum Rc.wd u.recs + (u.globs.length + wsum Pc.wd u.procs)
end Go.Proofs.YtbadepiakkhabaaDoor
/- The laws' measure of records, procedures and units. No conditions. -/
namespace Go.Proofs.YtbadepiakkhabaaDoor
open Go.RowKit
set_option linter.unusedVariables false

end Go.Proofs.YtbadepiakkhabaaDoor
/- The laws' copies of records, procedures and units. No conditions. -/
namespace Go.Proofs.YtbadepiakkhabaaDoor
open Go.RowKit
set_option linter.unusedVariables false

/-- Three new variables: the parameter, the result, a local one. -/
def Vars3 (w : World) (A B C : List Value) (W : World) : Prop := (Var W w.heap.size A ∧ Var W (w.heap.size + 1) B ∧ Var W (w.heap.size + 1 + 1) C) ∧ Below w.heap.size w W ∧ w.heap.size + 3 ≤ W.heap.size
theorem Vars3.start (w : World) (A B C : Array Value) (S T U : TypeId) : Vars3 w A.toList B.toList C.toList (((w.alloc (.cells A S)).alloc (.cells B T)).alloc (.cells C U)) := by
  have h1 := Var.new w A S
  have h2 := Var.new (w.alloc (.cells A S)) B T
  have h3 := Var.new ((w.alloc (.cells A S)).alloc (.cells B T)) C U
  rw [World.size_alloc] at h2
  rw [World.size_alloc, World.size_alloc] at h3
  have b1 := bl1 w (.cells A S)
  have b2 := bl1 (w.alloc (.cells A S)) (.cells B T)
  have b3 := bl1 ((w.alloc (.cells A S)).alloc (.cells B T)) (.cells C U)
  exact ⟨⟨(h1.later b2).later b3, h2.later b3, h3⟩, below_then (below_then b1 b2) b3, by simp⟩
theorem Vars3.later {w W W' : World} {A B C : List Value} (h : Vars3 w A B C W) (hb : Below W.heap.size W W') : Vars3 w A B C W' :=
  ⟨⟨h.1.1.later hb, h.1.2.1.later hb, h.1.2.2.later hb⟩, below_then h.2.1 hb, Nat.le_trans h.2.2 hb.size⟩
theorem Vars3.set {w W : World} {A B C : List Value} (h : Vars3 w A B C W) (j : Nat) (u : Value) : Vars3 w A B (C.set j u) (W.setCell ⟨w.heap.size + 1 + 1, j, none⟩ u) :=
  ⟨⟨h.1.1.oth _ j (by omega) u, h.1.2.1.oth _ j (by omega) u, h.1.2.2.set j u⟩, h.2.1.setCell (p := ⟨w.heap.size + 1 + 1, j, none⟩) (by show _ ≤ _ + 1 + 1; omega) u, by have := h.2.2; simpa [World.setCell] using this⟩
theorem set_keep {W : World} {b g j : Nat} {u : Value} (h : b ≠ g) : (W.setCell ⟨g, j, none⟩ u).heap[b]? = W.heap[b]? := Below.heap_setCell W ⟨g, j, none⟩ u b h
theorem set_size (W : World) (g j : Nat) (u : Value) : (W.setCell ⟨g, j, none⟩ u).heap.size = W.heap.size := by simp [World.setCell]
theorem wsum_mem {α : Type} (wd : α → Nat) {l : List α} {x : α} (h : x ∈ l) : wd x ≤ wsum wd l := by
  induction l with
  | nil => cases h
  | cons y r ih =>
    rw [wsum]
    rcases List.mem_cons.1 h with rfl | h
    · omega
    · have := ih h; omega
theorem own_ex {w : World} {ks : List Ex.T} {v : Value} {F : List Nat} (h : OwnK w v ks F) : Own w (.ex ks) v F := by rw [Own]; exact h
theorem own_str' {w : World} {s : ByteArray} : Own w (.str s) (.string s) [] := by rw [Own]; exact ⟨rfl, rfl⟩
theorem own_int' {w : World} {n : Int} : Own w (.int n) (.int .i64 n) [] := by rw [Own]; exact ⟨rfl, rfl⟩
theorem info_rec : (Tryd.prog.info? 72).map (fun i => (i.zero, i.size, i.bytes)) = some (some (.agg #[.string ByteArray.empty, .slice none 0 0, .int .i64 0]), 3, 48) := by kernel_rfl
theorem info_proc : (Tryd.prog.info? 107).map (fun i => (i.zero, i.size, i.bytes)) = some (some (.agg #[.string ByteArray.empty, .slice none 0 0, .slice none 0 0, .int .i64 0, .string ByteArray.empty, .int .i64 0, .int .i64 0, .slice none 0 0, .int .i64 0]), 9, 136) := by kernel_rfl
end Go.Proofs.YtbadepiakkhabaaDoor
/- Appending a tree to a list of the call's own. No conditions. -/
namespace Go.Proofs.YtbadepiakkhabaaDoor
open Go.RowKit
set_option linter.unusedVariables false

theorem append_kid {B : Nat} {w : World} {v : Value} {n : Nat} {xs : List Value} (ty : TypeId) (hown : w.ownsRow B 105 5 v n xs) (ad : Addr) (c : Nat) (news : List Value) (hl : news.length = 5) (hnews : ∀ j u, news[j]? = some u → w.cell? (ad.add j) = some u) (h1 : ∀ u ∈ news, u.oneCell' = true) (hn : n ≤ 1048577) (hB : B ≤ w.heap.size) :
    ∃ v' w', (Builtin.append_ #[103, 103] ty #[v, .slice (some ad) 1 c]).run Tryd.prog w = .ok v' w' ∧ w'.ownsRow B 105 5 v' (n + 1) (xs ++ news) ∧ w.grownBy w' v.ownBlock ∧ ∃ g c', v' = .slice (some ⟨g, 0, none⟩) (n + 1) c' ∧ B ≤ g ∧ (v.ownBlock = some g ∨ w.heap.size ≤ g) := by
  obtain ⟨i0, hi, hz0, hz1, hz2⟩ := info_parts info_expr
  obtain ⟨v', w', hr, h2, h3, _⟩ := run_append_own (P := Tryd.prog) w B 103 ty 105 i0 (.agg #[.int .i64 0, .string ByteArray.empty, .int .i64 0, .int .i64 0, .slice none 0 0]) 5 64 Tryd.underlying103 hi hz0 hz1 hz2 rfl (by decide) v n xs hown ad 1 c news (by rw [hl]) hnews h1 (by unfold maxLen; omega) (by omega) hB
  refine ⟨v', w', hr, h2, h3, ?_⟩
  rcases hown.2 with ⟨rfl, hn0⟩ | ⟨g, cap, cur, rfl, hbg, hg, hnc, hcm, hcs, htake⟩
  · have hr2 := run_append_nil (P := Tryd.prog) w 103 ty 105 i0 _ Tryd.underlying103 hi hz0 ad 1 c news (by rw [hl, hz1]) hnews (by omega) (by omega) (by rw [hz2]; omega)
    rw [hr2] at hr
    injection hr with e1 e2
    subst hn0
    exact ⟨w.heap.size, _, e1.symm, hB, .inr (Nat.le_refl _)⟩
  · by_cases hroom : n + 1 ≤ cap
    · have hr2 := run_append_room (P := Tryd.prog) w 103 ty 105 i0 Tryd.underlying103 hi g n cap cur hg ad 1 c news (by rw [hl, hz1]) hnews h1 hroom (by rw [hl, hz1, hcs]; omega)
      rw [hr2] at hr
      injection hr with e1 e2
      exact ⟨g, _, e1.symm, hbg, .inl rfl⟩
    · have hr2 := run_append_grow (P := Tryd.prog) w 103 ty 105 i0 _ Tryd.underlying103 hi hz0 ⟨g, 0, none⟩ n cap xs (by rw [hown.1, hz1]) (fun j u h => hown.cells (g := g) rfl j u h) ad 1 c news (by rw [hl, hz1]) hnews (by omega) (by omega) (growslice_fits (by omega) (by rw [hz2]; omega))
      rw [hr2] at hr
      injection hr with e1 e2
      exact ⟨w.heap.size, _, e1.symm, hB, .inr (Nat.le_refl _)⟩
/-- A list that grows: its trees, their lists in blocks of their own. -/
def AppK (B : Nat) (w : World) (v : Value) (ld : List El) : Prop := w.ownsRow B 105 5 v ld.length (rowV ld) ∧ Els w ld ∧ (∀ b ∈ elsF ld, B ≤ b ∧ b < w.heap.size) ∧ ∀ g n c, v = .slice (some ⟨g, 0, none⟩) n c → g ∉ elsF ld
theorem AppK.nil (B : Nat) (w : World) : AppK B w (.slice none 0 0) [] := ⟨World.ownsRow_nil w B _ _, Els.nil _, (fun b h => by cases h), fun g n c _ h => by cases h⟩
theorem ownsRow_keep {B n : Nat} {w w1 : World} {v : Value} {xs : List Value} (h : w.ownsRow B 105 5 v n xs) (hb : ∀ b, v.ownBlock = some b → w1.heap[b]? = w.heap[b]?) : w1.ownsRow B 105 5 v n xs := by
  refine ⟨h.1, ?_⟩
  rcases h.2 with hn | ⟨g2, cap2, cur, rfl, hg, hgg, r⟩
  · exact .inl hn
  · exact .inr ⟨g2, cap2, cur, rfl, hg, by rw [hb g2 rfl]; exact hgg, r⟩
theorem ownBlock_lt {B n : Nat} {w : World} {v : Value} {xs : List Value} (h : w.ownsRow B 105 5 v n xs) {b : Nat} (hb : v.ownBlock = some b) : B ≤ b ∧ b < w.heap.size := by
  rcases h.2 with ⟨rfl, _⟩ | ⟨g2, cap2, cur, rfl, hg, hgg, r⟩
  · cases hb
  · cases hb; exact ⟨hg, (Array.getElem?_eq_some_iff.1 hgg).1⟩
theorem AppK.later {B : Nat} {w w1 : World} {v : Value} {ld : List El} (h : AppK B w v ld) (hb : Below w.heap.size w w1) : AppK B w1 v ld := by
  obtain ⟨h1, h2, h3, h4⟩ := h
  refine ⟨ownsRow_keep h1 fun b e => hb.block b (ownBlock_lt h1 e).2, h2.keep fun b hbF => hb.block b (h3 b hbF).2, fun b hbF => ?_, h4⟩
  have := h3 b hbF
  have := hb.size
  omega
theorem AppK.drew {B : Nat} {w : World} {v : Value} {ld : List El} (h : AppK B w v ld) : AppK B w.drew v ld := h.later ((Below.refl _ _).drew)
/-- What a list has once a tree is appended. -/
theorem AppK.push {B : Nat} {w w1 : World} {v v1 : Value} {ld : List El} {p : El} {g c : Nat} (h : AppK B w v ld) (hp : OwnK w p.2.1 p.1.kids p.2.2) (hF : ∀ b ∈ p.2.2, B ≤ b ∧ b < w.heap.size ∧ b ∉ elsF ld ∧ v.ownBlock ≠ some b)
    (hown : w1.ownsRow B 105 5 v1 (ld.length + 1) (rowV ld ++ rowV [p])) (hgr : w.grownBy w1 v.ownBlock) (hv : v1 = .slice (some ⟨g, 0, none⟩) (ld.length + 1) c) (hg : v.ownBlock = some g ∨ w.heap.size ≤ g) : AppK B w1 v1 (ld ++ [p]) := by
  obtain ⟨h1, h2, h3, h4⟩ := h
  have hbv : ∀ b ∈ elsF ld, v.ownBlock ≠ some b := fun b hb e => by
    rcases h1.2 with ⟨rfl, _⟩ | ⟨g2, cap2, cur, rfl, _⟩
    · cases e
    · cases e; exact h4 _ _ _ rfl hb
  refine ⟨by rw [List.length_append, rowV_app]; exact hown, ?_, fun b hb => ?_, fun g2 n2 c2 e hb => ?_⟩
  · refine (h2.keep fun b hb => hgr.block b (h3 b hb).2 fun e => hbv b hb e.symm).snoc (OwnK.keep _ (fun b hb => hgr.block b (hF b hb).2.1 fun e => (hF b hb).2.2.2 e.symm) hp) fun b hb hb2 => (hF b hb2).2.2.1 hb
  · have hs := hgr.size
    rw [elsF_snoc] at hb
    rcases List.mem_append.1 hb with hb | hb
    · have := h3 b hb; omega
    · have := hF b hb; omega
  · rw [hv] at e
    injection e with e1 e2 e3
    injection e1 with e1
    injection e1 with e1
    subst e1
    rw [elsF_snoc] at hb
    rcases List.mem_append.1 hb with hb | hb
    · rcases hg with hg | hg
      · exact hbv _ hb hg
      · have := h3 _ hb; omega
    · rcases hg with hg | hg
      · exact (hF _ hb).2.2.2 hg
      · have := hF _ hb; omega
theorem AppK.done {B : Nat} {w : World} {v : Value} {ld : List El} (h : AppK B w v ld) : ∃ F, OwnK w v (ld.map Prod.fst) F ∧ Foot B w F := by
  obtain ⟨h1, h2, h3, h4⟩ := h
  by_cases h0 : ld = []
  · subst h0
    refine ⟨[], ?_, fun b hb => by cases hb⟩
    rw [List.map_nil, OwnK]
    exact ⟨rfl, own_zero h1⟩
  · obtain ⟨g, c, rfl, hg, hr⟩ := own_some (fun h => h0 (List.length_eq_zero_iff.1 h)) h1
    refine ⟨_, ownK_els hr h2 (h4 _ _ _ rfl), fun b hb => ?_⟩
    have hl := hr.lt
    split at hb
    · cases hb
    · rcases List.mem_cons.1 hb with rfl | hb
      · exact ⟨hg, hl⟩
      · exact h3 b hb
theorem AppK.keep {B : Nat} {w w1 : World} {v : Value} {ld : List El} (h : AppK B w v ld) (hs : w.heap.size ≤ w1.heap.size) (hb : ∀ b, B ≤ b → b < w.heap.size → w1.heap[b]? = w.heap[b]?) : AppK B w1 v ld := by
  obtain ⟨h1, h2, h3, h4⟩ := h
  exact ⟨ownsRow_keep h1 fun b e => hb b (ownBlock_lt h1 e).1 (ownBlock_lt h1 e).2, h2.keep fun b hbF => hb b (h3 b hbF).1 (h3 b hbF).2, fun b hbF => ⟨(h3 b hbF).1, Nat.lt_of_lt_of_le (h3 b hbF).2 hs⟩, h4⟩
theorem AppK.set {B C : Nat} {w : World} {v : Value} {ld : List El} (h : AppK B w v ld) (hC : C < B) (o : Nat) (u : Value) : AppK B (w.setCell ⟨C, o, none⟩ u) v ld :=
  h.keep (by simp [World.setCell]) fun b hb _ => Below.heap_setCell w ⟨C, o, none⟩ u b (show b ≠ C by omega)
theorem AppK.slice {B : Nat} {w : World} {v : Value} {ld : List El} (h : AppK B w v ld) : ∃ a n c, v = .slice a n c := by
  rcases h.1.2 with ⟨rfl, _⟩ | ⟨g2, cap2, cur, rfl, _⟩
  · exact ⟨_, _, _, rfl⟩
  · exact ⟨_, _, _, rfl⟩
theorem FreeE.keep {w w' : World} {b : Nat} {k n l : Int} {t : ByteArray} {v : Value} (h : FreeE w b k t n l v) (hh : w'.heap[b]? = w.heap[b]?) : FreeE w' b k t n l v := by
  obtain ⟨⟨a0, a1, a2, a3, a4⟩, f0, f1, f2, f3, f4⟩ := h
  exact ⟨⟨(cell_keep hh 0).trans a0, (cell_keep hh 1).trans a1, (cell_keep hh 2).trans a2, (cell_keep hh 3).trans a3, (cell_keep hh 4).trans a4⟩, (World.frozen?_of_block (a := ⟨_, 0, none⟩) hh).trans f0, (World.frozen?_of_block (a := ⟨_, 1, none⟩) hh).trans f1, (World.frozen?_of_block (a := ⟨_, 2, none⟩) hh).trans f2, (World.frozen?_of_block (a := ⟨_, 3, none⟩) hh).trans f3, (World.frozen?_of_block (a := ⟨_, 4, none⟩) hh).trans f4⟩
theorem FreeE.fifth {w : World} {b : Nat} {k n l : Int} {t : ByteArray} {v : Value} (h : FreeE w b k t n l v) (u : Value) : FreeE (w.setCell ⟨b, 4, none⟩ u) b k t n l u := by
  obtain ⟨⟨a0, a1, a2, a3, a4⟩, f0, f1, f2, f3, f4⟩ := h
  refine ⟨⟨?_, ?_, ?_, ?_, ?_⟩, ?_, ?_, ?_, ?_, ?_⟩
  all_goals go_simp
theorem new_row (W : World) (t : Ex.T) (v : Value) (F : List Nat) : RowCells (W.alloc (.cells #[.int .i64 t.kind, .string t.text, .int .i64 t.num, .int .i64 t.line, v] 105)) W.heap.size 0 [(t, v, F)] := by
  have h := World.alloc_heap_new W (.cells #[.int .i64 t.kind, .string t.text, .int .i64 t.num, .int .i64 t.line, v] 105)
  have hr : RowE (W.alloc (.cells #[.int .i64 t.kind, .string t.text, .int .i64 t.num, .int .i64 t.line, v] 105)) W.heap.size 1 1 (rowV [(t, v, F)]) :=
    ⟨rfl, .inr ⟨W.heap.size, 1, _, rfl, Nat.zero_le _, h, Nat.le_refl _, by unfold maxLen; omega, rfl, rfl⟩⟩
  exact rowE_cells (l := [(t, v, F)]) rfl hr
theorem row_one {t : Ex.T} {a : Option Addr} {n c : Nat} {F : List Nat} : ∀ u ∈ rowV [(t, .slice a n c, F)], u.oneCell' = true := by
  intro u hu
  rw [rowV_cons] at hu
  simp only [List.mem_cons, rowV, List.flatMap_nil, List.not_mem_nil, or_false] at hu
  rcases hu with rfl | rfl | rfl | rfl | rfl <;> rfl
theorem step_append_kid {B : Nat} {w : World} {v : Value} {n : Nat} {xs : List Value} {ops : Array Oper} {o : Oper} {a : Act} {K : Act → World → Prop} {Q : Exit → Act → World → Prop} {E : Prop} (hgd : o.guard = none) (s x : Operand)
    (ho : o.op = .call { callee := .builtin .append, args := #[s, x], argTypes := #[103, 103] }) (hs : a.eval s = v) (hown : w.ownsRow B 105 5 v n xs) (ad : Addr) (c : Nat) (news : List Value) (hx : a.eval x = .slice (some ad) 1 c) (hl : news.length = 5) (hnews : ∀ j u, news[j]? = some u → w.cell? (ad.add j) = some u) (h1 : ∀ u ∈ news, u.oneCell' = true) (hn : n ≤ 1048577) (hB : B ≤ w.heap.size)
    (h : ∀ w' g c', w'.ownsRow B 105 5 (.slice (some ⟨g, 0, none⟩) (n + 1) c') (n + 1) (xs ++ news) → w.grownBy w' v.ownBlock → B ≤ g → (v.ownBlock = some g ∨ w.heap.size ≤ g) → K (a.put o.dst (.slice (some ⟨g, 0, none⟩) (n + 1) c')) w') :
    if Region.wanted o (yielded ops a.tmps) = true then Oper.wp Tryd.prog o a w K Q else E := by
  have hw : Region.wanted o (yielded ops a.tmps) = true := by simp [Region.wanted, hgd]
  rw [if_pos hw]
  obtain ⟨v', w', hr, h2, h3, g, c', rfl, h4, h5⟩ := append_kid o.type hown ad c news hl hnews h1 hn hB
  unfold Oper.wp execOp
  simp only [ho, resolve, invoke, builtin, Sem.run_bind, Sem.run_pure, Result.andThen_ok, List.map_toArray, List.map_cons, List.map_nil, hs, hx, hr]
  exact h w' g c' h2 h3 h4 h5
end Go.Proofs.YtbadepiakkhabaaDoor
/- slices.Clone, append to an empty slice, rows of structs that grow. No conditions. -/
namespace Go.Proofs.YtbadepiakkhabaaDoor
open Go.RowKit
set_option linter.unusedVariables false

def D.real : D → Prop
  | .any => False
  | _ => True
theorem is_one {w : World} {d : D} {u : Value} (h : Is w d u) (hr : d.real) : u.oneCell' = true := by
  cases d with
  | int n => rw [Is] at h; subst h; rfl
  | bool b => rw [Is] at h; subst h; rfl
  | str s => rw [Is] at h; subst h; rfl
  | ex ks => rw [Is] at h; obtain ⟨a, c, rfl⟩ := kids_len h; rfl
  | cor ks => rw [Is] at h; obtain ⟨a, c, rfl⟩ := Cr.kids_len h; rfl
  | any => exact absurd hr id
  | row n l => obtain ⟨a, c, rfl⟩ := is_slice h; rfl
/-- The values of a row's cells. -/
theorem isAll_vals {w : World} {g : Nat} : ∀ {l : List D} {o : Nat}, IsAll w g o l → (∀ d ∈ l, d.real) → ∃ us : List Value, us.length = l.length ∧ (∀ (j : Nat) (u : Value), us[j]? = some u → w.cell? ((⟨g, o, none⟩ : Addr).add j) = some u) ∧ (∀ u ∈ us, u.oneCell' = true) ∧ ∀ (j : Nat) (d : D), l[j]? = some d → ∃ u, us[j]? = some u ∧ Is w d u := by
  intro l
  induction l with
  | nil => intro o _ _; exact ⟨[], rfl, (fun j u h => by simp at h), (fun u h => by cases h), fun j d h => by simp at h⟩
  | cons x r ih =>
    intro o h hr
    rw [IsAll] at h
    obtain ⟨⟨u0, hu0, hd0⟩, hrest⟩ := h
    obtain ⟨us, h1, h2, h3, h4⟩ := ih hrest fun d hd => hr d (List.mem_cons_of_mem _ hd)
    refine ⟨u0 :: us, by simp [h1], fun j u hj => ?_, fun u hu => ?_, fun j d hj => ?_⟩
    · match j with
      | 0 =>
        obtain rfl := Option.some.inj hj
        rw [add_lit]; exact hu0
      | j + 1 =>
        have h5 := h2 j u hj
        rw [add_lit] at h5 ⊢
        rw [show o + (j + 1) = o + 1 + j by omega]; exact h5
    · rcases List.mem_cons.1 hu with rfl | hu
      · exact is_one hd0 (hr x List.mem_cons_self)
      · exact h3 u hu
    · match j with
      | 0 => obtain rfl := Option.some.inj hj; exact ⟨u0, rfl, hd0⟩
      | j + 1 => exact h4 j d hj
theorem row_vals {w : World} {n c : Nat} {a : Option Addr} {l : List D} (h : Is w (.row n l) (.slice a n c)) (hl : l ≠ []) (hr : ∀ d ∈ l, d.real) : ∃ (g o : Nat) (us : List Value), a = some ⟨g, o, none⟩ ∧ us.length = l.length ∧ (∀ (j : Nat) (u : Value), us[j]? = some u → w.cell? ((⟨g, o, none⟩ : Addr).add j) = some u) ∧ (∀ u ∈ us, u.oneCell' = true) ∧ ∀ (j : Nat) (d : D), l[j]? = some d → ∃ u, us[j]? = some u ∧ Is w d u := by
  rw [Is] at h
  obtain ⟨a2, c2, e, h⟩ := h
  injection e with e1 e2 e3
  subst e1
  rcases h with h | ⟨_, g, o, e4, h⟩
  · exact absurd h hl
  · obtain ⟨us, h1, h2, h3, h4⟩ := isAll_vals h hr
    exact ⟨g, o, us, e4, h1, h2, h3, h4⟩
/-- A new row whose cells are there, whatever they hold. -/
def AnyRow (z n B : Nat) (w : World) (v : Value) : Prop := (n = 0 ∧ ∃ a c, v = .slice a 0 c) ∨ (n ≠ 0 ∧ ∃ g c, v = .slice (some ⟨g, 0, none⟩) n c ∧ (n ≤ c ∧ B ≤ g) ∧ RowD w g 0 (List.replicate (n * z) D.any) (List.replicate (n * z) []) ∧ g < w.heap.size)
theorem flat_any (z n : Nat) : ((List.replicate n ()).flatMap fun _ => List.replicate z D.any) = List.replicate (n * z) D.any := by
  induction n with
  | zero => simp
  | succ n ih => rw [List.replicate_succ, List.flatMap_cons, ih, Nat.succ_mul, Nat.add_comm (n * z) z, ← List.replicate_append_replicate]
theorem anyRow_of {w : World} {B z n : Nat} {T : TypeId} {v : Value} {xs : List Value} (h : w.ownsRow B T z v n xs) : AnyRow z n B w v := by
  by_cases h0 : n = 0
  · subst h0
    rcases h.2 with ⟨rfl, _⟩ | ⟨g, cap, cur, rfl, _⟩
    · exact .inl ⟨rfl, _, _, rfl⟩
    · exact .inl ⟨rfl, _, _, rfl⟩
  · rcases id h.2 with ⟨_, hn⟩ | ⟨g, cap, cur, rfl, hb, _, hcap, _⟩
    · exact absurd hn h0
    · have hfl : (List.replicate (n * z) ([] : List Nat)).flatten = [] := by simp
      refine .inr ⟨h0, g, cap, rfl, ⟨hcap, hb⟩, ⟨⟨by rw [hfl]; exact List.not_mem_nil, pairwise_of fun i j F G _ hi hj b hb2 => ?_⟩, by simp, fun j d hj => ?_⟩, (World.ownsRow.lt h g rfl).2⟩
      · obtain ⟨_, rfl⟩ := List.mem_replicate.1 (List.mem_of_getElem? hi)
        cases hb2
      · have hjl : j < n * z := by have := (List.getElem?_eq_some_iff.1 hj).1; simpa using this
        have hd : d = .any := by
          have := List.mem_of_getElem? hj
          exact (List.mem_replicate.1 this).2
        subst hd
        have hxl : j < xs.length := by rw [h.1]; exact hjl
        refine ⟨xs[j], [], by rw [List.getElem?_replicate, if_pos hjl], ?_, World.ownsRow.frozenAt h _, by rw [Own]⟩
        rw [Nat.zero_add, World.ownsRow.cellAt h j hjl, List.getElem?_eq_getElem hxl]
theorem FillD.any {α : Type} {f : α → List D} {w w1 : World} {g z c : Nat} {xs : List α} (h : RowD w1 g 0 (List.replicate (xs.length * z) D.any) (List.replicate (xs.length * z) [])) (hg : g < w1.heap.size) (hb : Below w.heap.size w w1) : FillD f (List.replicate z D.any) w g xs 0 w1 := by
  rw [FillD, List.take_zero, List.flatMap_nil, List.nil_append, Nat.sub_zero, flat_any]
  exact ⟨_, h, fun b hb2 => by simp at hb2, hg, hb⟩
def RetAny (z n : Nat) (w : World) (e : Ending) (w' : World) : Prop := ∃ v', e = .returned v' ∧ AnyRow z n w.heap.size w' v' ∧ Below w.heap.size w w'

theorem str_real : ∀ (l : List ByteArray), ∀ d ∈ l.map D.str, d.real := by
  intro l d hd
  obtain ⟨s, _, rfl⟩ := List.mem_map.1 hd
  trivial

set_option maxRecDepth 100000 in
set_option maxHeartbeats 1600000 in
theorem clone_str (v : Value) (l : List ByteArray) (w : World) (hk : Is w (.row l.length (l.map D.str)) v) (hl : l.length ≤ 1048576) :
    Calls Tryd.prog 79 #[v] w (RetAny 1 l.length w) := by
  obtain ⟨i0, hi, hz0, hz1, hz2⟩ := info_parts info_string
  have hnil : ∀ W (ad : Addr) n c, (binOp .eql 35 (.slice (some ad) n c) (.slice none 0 0)).run Tryd.prog W = .ok (.bool false) W := fun W ad n c => Lib.run_eql_slice_nil W _ _ (some ad) n c 0 0 Tryd.underlying35
  have hnil0 : ∀ W c, (binOp .eql 35 (.slice none 0 c) (.slice none 0 0)).run Tryd.prog W = .ok (.bool true) W := fun W c => Lib.run_eql_slice_nil W _ _ none 0 c 0 0 Tryd.underlying35
  obtain ⟨a, c, rfl⟩ := is_slice hk
  by_cases h0 : l = []
  · subst h0
    rw [List.length_nil]
    have HO := Lib.hid (World.ownsRow_made (e := 9) (size := 1) w #[] 0 (Nat.le_refl _) (by unfold maxLen; omega) rfl)
    clear hk hl
    cases a with
    | none =>
      clear hi hz0 hz1 hz2
      go_enter Tryd.func79, Tryd.ntmps79
      go_wp2
      go_ret
      exact ⟨_, rfl, .inl ⟨rfl, _, _, rfl⟩, Below.refl _ _⟩
    | some ad =>
      go_enter Tryd.func79, Tryd.ntmps79
      go_wp2_with (at_builtin; refine wpList_append_own _ rfl _ _ 35 rfl w.heap.size 9 i0 (.string ByteArray.empty) 1 16 Tryd.underlying35 hi hz0 hz1 hz2 rfl (by decide) _ _ _ rfl HO.out ad 0 c [] rfl rfl (by simp) (by simp) (by unfold maxLen; omega) (by omega) (by simp) ?_; intro v' w1 hown1 hgr1 hnn)
      go_ret
      exact ⟨_, rfl, anyRow_of hown1, (bl1 w _).grown hgr1 (bl1 w (.cells #[] 9)).size (fun k e => by cases e; exact Nat.le_refl _)⟩
  · have hne : (l.map D.str) ≠ [] := by simpa using h0
    obtain ⟨g, o, us, rfl, hul, hus, hone, _⟩ := row_vals (hk.later (bl1 w (.cells #[] 9))) hne (str_real l)
    have HUL : Hid (us.length = l.length * 1) := Lib.hid (by rw [hul]; simp [List.length_map])
    have HUS := Lib.hid hus
    have HONE := Lib.hid hone
    have HO := Lib.hid (World.ownsRow_made (e := 9) (size := 1) w #[] 0 (Nat.le_refl _) (by unfold maxLen; omega) rfl)
    clear hk hul hus hone hne
    go_enter Tryd.func79, Tryd.ntmps79
    go_wp2_with (at_builtin; refine wpList_append_own _ rfl _ _ 35 rfl w.heap.size 9 i0 (.string ByteArray.empty) 1 16 Tryd.underlying35 hi hz0 hz1 hz2 rfl (by decide) _ _ _ rfl HO.out ⟨g, o, none⟩ l.length c us rfl HUL.out HUS.out HONE.out (by unfold maxLen; omega) (by omega) (by simp) ?_; intro v' w1 hown1 hgr1 hnn)
    go_ret
    have h5 := anyRow_of hown1
    rw [Nat.zero_add] at h5
    exact ⟨_, rfl, h5, (bl1 w _).grown hgr1 (bl1 w (.cells #[] 9)).size (fun k e => by cases e; exact Nat.le_refl _)⟩
end Go.Proofs.YtbadepiakkhabaaDoor
