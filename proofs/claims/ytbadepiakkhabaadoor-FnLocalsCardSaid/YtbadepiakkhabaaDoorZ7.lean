/- Joined texts: U15, N28, U16, D1, D2, D4. No conditions besides those that each states. -/
import Derived.Deep.RegionHeld3
import Derived.Deep.RegionLaw
import Derived.Test.YtbadepiakkhabaaDoorProg
import Derived.WalkKit
import Derived.ProofKit
import Derived.WalkLawsBesides
import Derived.WalkSpells
import Derived.Lib.Hide
import Derived.Deep.QuietTactic
import Derived.BigQuiet
import Derived.Test.YtbadepiakkhabaaDoorZ3
import Derived.Test.YtbadepiakkhabaaDoorZ6
/- Rows of structs that grow by append. No conditions. -/
namespace Go.Proofs.YtbadepiakkhabaaDoor
open Go.RowKit
set_option linter.unusedVariables false

/-- A row that grows: its cells, their slices in blocks of their own. -/
def AppD (B : Nat) (w : World) (T : TypeId) (z : Nat) (v : Value) (n : Nat) (l : List D) (Fs : List (List Nat)) : Prop := (∃ xs : List Value, w.ownsRow B T z v n xs ∧ xs.length = l.length ∧ ∀ (j : Nat) (d : D), l[j]? = some d → ∃ (u : Value) (G : List Nat), Fs[j]? = some G ∧ xs[j]? = some u ∧ Own w d u G) ∧ (Fs.length = l.length ∧ Fs.Pairwise Apart) ∧ (∀ b ∈ Fs.flatten, B ≤ b ∧ b < w.heap.size) ∧ ∀ g, v.ownBlock = some g → g ∉ Fs.flatten
theorem AppD.nil (B : Nat) (w : World) (T : TypeId) (z : Nat) : AppD B w T z (.slice none 0 0) 0 [] [] := ⟨⟨[], World.ownsRow_nil w B _ _, rfl, fun j d h => by simp at h⟩, ⟨rfl, List.Pairwise.nil⟩, (fun b h => by simp at h), fun g h => by cases h⟩
theorem row_keep {B n z : Nat} {T : TypeId} {w w1 : World} {v : Value} {xs : List Value} (h : w.ownsRow B T z v n xs) (hb : ∀ b, v.ownBlock = some b → w1.heap[b]? = w.heap[b]?) : w1.ownsRow B T z v n xs := by
  refine ⟨h.1, ?_⟩
  rcases h.2 with hn | ⟨g2, cap2, cur, rfl, hg, hgg, r⟩
  · exact .inl hn
  · exact .inr ⟨g2, cap2, cur, rfl, hg, by rw [hb g2 rfl]; exact hgg, r⟩
theorem row_lt {B n z : Nat} {T : TypeId} {w : World} {v : Value} {xs : List Value} (h : w.ownsRow B T z v n xs) {b : Nat} (hb : v.ownBlock = some b) : B ≤ b ∧ b < w.heap.size := World.ownsRow.lt h b hb
theorem AppD.keep {B : Nat} {w w1 : World} {T : TypeId} {z n : Nat} {v : Value} {l : List D} {Fs : List (List Nat)} (h : AppD B w T z v n l Fs) (hs : w.heap.size ≤ w1.heap.size) (hb : ∀ b, B ≤ b → b < w.heap.size → w1.heap[b]? = w.heap[b]?) : AppD B w1 T z v n l Fs := by
  obtain ⟨⟨xs, h1, h2, h3⟩, h4, h5, h6⟩ := h
  refine ⟨⟨xs, row_keep h1 fun b e => hb b (row_lt h1 e).1 (row_lt h1 e).2, h2, fun j d hj => ?_⟩, h4, fun b hF => ⟨(h5 b hF).1, Nat.lt_of_lt_of_le (h5 b hF).2 hs⟩, h6⟩
  obtain ⟨u, G, e, hu, ho⟩ := h3 j d hj
  exact ⟨u, G, e, hu, Own.keep d u G (fun b hbG => hb b (h5 b (mem_at e hbG)).1 (h5 b (mem_at e hbG)).2) ho⟩
theorem AppD.later {B : Nat} {w w1 : World} {T : TypeId} {z n : Nat} {v : Value} {l : List D} {Fs : List (List Nat)} (h : AppD B w T z v n l Fs) (hb : Below w.heap.size w w1) : AppD B w1 T z v n l Fs := h.keep hb.size fun b _ hlt => hb.block b hlt
theorem AppD.set {B C : Nat} {w : World} {T : TypeId} {z n : Nat} {v : Value} {l : List D} {Fs : List (List Nat)} (h : AppD B w T z v n l Fs) (hC : C < B) (o : Nat) (u : Value) : AppD B (w.setCell ⟨C, o, none⟩ u) T z v n l Fs := h.keep (by simp [World.setCell]) fun b hb _ => Below.heap_setCell w ⟨C, o, none⟩ u b (show b ≠ C by omega)
theorem AppD.slice {B : Nat} {w : World} {T : TypeId} {z n : Nat} {v : Value} {l : List D} {Fs : List (List Nat)} (h : AppD B w T z v n l Fs) : ∃ a n c, v = .slice a n c := by
  rcases h.1.choose_spec.1.2 with ⟨rfl, _⟩ | ⟨g2, cap2, cur, rfl, _⟩
  · exact ⟨_, _, _, rfl⟩
  · exact ⟨_, _, _, rfl⟩
theorem AppD.done {B : Nat} {w : World} {T : TypeId} {z n : Nat} {v : Value} {l : List D} {Fs : List (List Nat)} (h : AppD B w T z v n l Fs) (hz : 0 < z) : ∃ F, Own w (.row n l) v F ∧ Foot B w F := by
  obtain ⟨⟨xs, h1, h2, h3⟩, ⟨h4, h4'⟩, h5, h6⟩ := h
  by_cases h0 : l = []
  · subst h0
    have hn : n = 0 := by
      have e := h1.1
      rw [h2] at e
      rcases Nat.mul_eq_zero.1 e.symm with h | h
      · exact h
      · omega
    subst hn
    rcases h1.2 with ⟨rfl, _⟩ | ⟨g, cap, cur, rfl, _⟩
    · exact ⟨[], own_nil, fun b hb => by cases hb⟩
    · exact ⟨[], own_nil, fun b hb => by cases hb⟩
  · have hxl := h1.1
    rcases id h1.2 with ⟨_, hn⟩ | ⟨g, cap, cur, rfl, hg, _, hcap, _⟩
    · subst hn
      rw [Nat.zero_mul, h2] at hxl
      exact absurd (List.length_eq_zero_iff.1 hxl) h0
    · have hr : RowD w g 0 l Fs := ⟨⟨h6 g rfl, h4'⟩, h4, fun j d hj => by
        obtain ⟨u, G, e, hu, ho⟩ := h3 j d hj
        have hjl : j < n * z := by rw [← hxl]; exact (List.getElem?_eq_some_iff.1 hu).1
        refine ⟨u, G, e, ?_, World.ownsRow.frozenAt h1 _, ho⟩
        rw [Nat.zero_add, World.ownsRow.cellAt h1 j hjl, hu]⟩
      refine ⟨_, own_of_rowD hr h0 hcap, fun b hb => ?_⟩
      rcases List.mem_cons.1 hb with rfl | hb
      · exact ⟨hg, (row_lt h1 rfl).2⟩
      · exact h5 b hb
/-- What append does to a row of its own. -/
theorem append_row {B : Nat} {w : World} {v : Value} {n z by' : Nat} {S E : TypeId} {i0 : TypeInfo} {zv : Value} (hS : Tryd.prog.underlying S = some (.slice E)) (hi : Tryd.prog.info? E = some i0) (hz0 : i0.zero = some zv) (hz1 : i0.size = z) (hz2 : i0.bytes = by') (hzc : zv.cells.size = z) (hzp : 0 < z) (hby : by' ≤ 256) {xs : List Value} (ty : TypeId) (hown : w.ownsRow B E z v n xs) (ad : Addr) (c : Nat) (news : List Value) (hl : news.length = z) (hnews : ∀ j u, news[j]? = some u → w.cell? (ad.add j) = some u) (h1 : ∀ u ∈ news, u.oneCell' = true) (hn : n ≤ 1048577) (hB : B ≤ w.heap.size) :
    ∃ v' w', (Builtin.append_ #[S, S] ty #[v, .slice (some ad) 1 c]).run Tryd.prog w = .ok v' w' ∧ w'.ownsRow B E z v' (n + 1) (xs ++ news) ∧ w.grownBy w' v.ownBlock ∧ ∃ g c', v' = .slice (some ⟨g, 0, none⟩) (n + 1) c' ∧ B ≤ g ∧ (v.ownBlock = some g ∨ w.heap.size ≤ g) := by
  have hbb : (n + 1) * by' ≤ 140737488355328 := Nat.le_trans (Nat.mul_le_mul (by omega : n + 1 ≤ 1048578) hby) (by decide)
  obtain ⟨v', w', hr, h2, h3, _⟩ := run_append_own (P := Tryd.prog) w B S ty E i0 zv z by' hS hi hz0 hz1 hz2 hzc hzp v n xs hown ad 1 c news (by rw [hl]; omega) hnews h1 (by unfold maxLen; omega) hbb hB
  refine ⟨v', w', hr, h2, h3, ?_⟩
  rcases hown.2 with ⟨rfl, hn0⟩ | ⟨g, cap, cur, rfl, hbg, hg, hnc, hcm, hcs, htake⟩
  · have hr2 := run_append_nil (P := Tryd.prog) w S ty E i0 _ hS hi hz0 ad 1 c news (by rw [hl, hz1]; omega) hnews (by omega) (by omega) (by rw [hz2]; omega)
    rw [hr2] at hr
    injection hr with e1 e2
    subst hn0
    exact ⟨w.heap.size, _, e1.symm, hB, .inr (Nat.le_refl _)⟩
  · by_cases hroom : n + 1 ≤ cap
    · have hr2 := run_append_room (P := Tryd.prog) w S ty E i0 hS hi g n cap cur hg ad 1 c news (by rw [hl, hz1]; omega) hnews h1 hroom (by rw [hl, hz1, hcs, ← Nat.succ_mul]; exact Nat.mul_le_mul_right _ hroom)
      rw [hr2] at hr
      injection hr with e1 e2
      exact ⟨g, _, e1.symm, hbg, .inl rfl⟩
    · have hr2 := run_append_grow (P := Tryd.prog) w S ty E i0 _ hS hi hz0 ⟨g, 0, none⟩ n cap xs (by rw [hown.1, hz1]) (fun j u h => hown.cells (g := g) rfl j u h) ad 1 c news (by rw [hl, hz1]; omega) hnews (by omega) (by omega) (growslice_fits (by omega) (by rw [hz2]; exact hbb))
      rw [hr2] at hr
      injection hr with e1 e2
      exact ⟨w.heap.size, _, e1.symm, hB, .inr (Nat.le_refl _)⟩
/-- One element more. -/
theorem AppD.push {B : Nat} {w w1 : World} {v v1 : Value} {T : TypeId} {z n g c : Nat} {l : List D} {Fs : List (List Nat)} {es : List (D × Value × List Nat)} (h : AppD B w T z v n l Fs) {xs : List Value} (hxs : w.ownsRow B T z v n xs) (he : ∀ e ∈ es, Own w e.1 e.2.1 e.2.2 ∧ ∀ b ∈ e.2.2, B ≤ b ∧ b < w.heap.size ∧ b ∉ Fs.flatten ∧ v.ownBlock ≠ some b) (hp : es.Pairwise (fun x y => Apart x.2.2 y.2.2))
    (hown : w1.ownsRow B T z v1 (n + 1) (xs ++ es.map fun e => e.2.1)) (hgr : w.grownBy w1 v.ownBlock) (hv : v1 = .slice (some ⟨g, 0, none⟩) (n + 1) c) (hg : v.ownBlock = some g ∨ w.heap.size ≤ g) : AppD B w1 T z v1 (n + 1) (l ++ es.map fun e => e.1) (Fs ++ es.map fun e => e.2.2) := by
  obtain ⟨⟨xs2, h1, h2, h3⟩, ⟨h4, h4'⟩, h5, h6⟩ := h
  obtain rfl : xs2 = xs := by
    apply List.ext_getElem?
    intro j
    by_cases hj : j < n * z
    · rcases hxs.2 with ⟨rfl, hn⟩ | ⟨g0, cap, cur, rfl, _⟩
      · subst hn; rw [Nat.zero_mul] at hj; omega
      · rw [← World.ownsRow.cellAt h1 j hj, ← World.ownsRow.cellAt hxs j hj]
    · rw [List.getElem?_eq_none (by rw [h1.1]; omega), List.getElem?_eq_none (by rw [hxs.1]; omega)]
  have hold : ∀ b ∈ Fs.flatten, w1.heap[b]? = w.heap[b]? := fun b hb => hgr.block b (h5 b hb).2 fun e => h6 b e.symm hb
  have hs := hgr.size
  refine ⟨⟨_, hown, by simp [h2], fun j d hj => ?_⟩, ⟨by simp [h4], ?_⟩, fun b hb => ?_, fun b e hb => ?_⟩
  · by_cases hjl : j < l.length
    · rw [List.getElem?_append_left hjl] at hj
      obtain ⟨u, G, e, hu, ho⟩ := h3 j d hj
      exact ⟨u, G, by rw [List.getElem?_append_left (by omega)]; exact e, by rw [List.getElem?_append_left (by omega)]; exact hu, Own.keep d u G (fun b hb => hold b (mem_at e hb)) ho⟩
    · rw [List.getElem?_append_right (by omega), List.getElem?_map] at hj
      obtain ⟨e, hej, rfl⟩ := Option.map_eq_some_iff.1 hj
      obtain ⟨k1, k2⟩ := he e (List.mem_of_getElem? hej)
      refine ⟨e.2.1, e.2.2, ?_, ?_, Own.keep _ _ _ (fun b hb => hgr.block b (k2 b hb).2.1 fun e5 => (k2 b hb).2.2.2 e5.symm) k1⟩
      · rw [List.getElem?_append_right (by omega), h4, List.getElem?_map, hej]; rfl
      · rw [List.getElem?_append_right (by omega), h2, List.getElem?_map, hej]; rfl
  · rw [List.pairwise_append]
    refine ⟨h4', List.pairwise_map.2 hp, fun F hF G hG b hb1 hb2 => ?_⟩
    obtain ⟨e, hem, rfl⟩ := List.mem_map.1 hG
    exact ((he e hem).2 b hb2).2.2.1 (List.mem_flatten.2 ⟨F, hF, hb1⟩)
  · rw [List.flatten_append] at hb
    rcases List.mem_append.1 hb with hb | hb
    · have := h5 b hb; omega
    · obtain ⟨K, hK, hb2⟩ := List.mem_flatten.1 hb
      obtain ⟨e, hem, rfl⟩ := List.mem_map.1 hK
      have := (he e hem).2 b hb2; omega
  · rw [hv] at e
    have e2 : g = b := Option.some.inj e
    subst e2
    rw [List.flatten_append] at hb
    rcases List.mem_append.1 hb with hb | hb
    · rcases hg with hg | hg
      · exact h6 _ hg hb
      · have := h5 _ hb; omega
    · obtain ⟨K, hK, hb2⟩ := List.mem_flatten.1 hb
      obtain ⟨e, hem, rfl⟩ := List.mem_map.1 hK
      rcases hg with hg | hg
      · exact ((he e hem).2 _ hb2).2.2.2 hg
      · have := (he e hem).2 _ hb2; omega
end Go.Proofs.YtbadepiakkhabaaDoor
/- EraseLines of the reference model. No conditions. -/
namespace Go.Proofs.YtbadepiakkhabaaDoor
open Go.RowKit
set_option linter.unusedVariables false

theorem CellsE.keep {w w' : World} {b : Nat} {t : Ex.T} {v : Value} (h : CellsE w b t v) (hh : w'.heap[b]? = w.heap[b]?) : CellsE w' b t v := by
  obtain ⟨a0, a1, a2, a3, a4⟩ := h
  exact ⟨(cell_keep hh 0).trans a0, (cell_keep hh 1).trans a1, (cell_keep hh 2).trans a2, (cell_keep hh 3).trans a3, (cell_keep hh 4).trans a4⟩
abbrev iexN (t : Ex.T) (v : Value) : Obj := .cells #[.int .i64 t.kind, .string t.text, .int .i64 t.num, .int .i64 t.line, v] 105
end Go.Proofs.YtbadepiakkhabaaDoor
/- Units without lines; the reference model's EraseUnitLines: its loop over records. No conditions. -/
namespace Go.Proofs.YtbadepiakkhabaaDoor
open Go.RowKit
set_option linter.unusedVariables false

def Rc.erase (r : Rc) : Rc := ⟨r.name, r.fields, 0⟩
def Pc.erase (p : Pc) : Pc := ⟨p.name, p.params, p.locals, p.body.erase, 0⟩
def Un.erase (u : Un) : Un := ⟨u.recs.map Rc.erase, u.globs, u.procs.map Pc.erase⟩
/-- What lies in memory while the model erases: the parameter, the result, the local variable, its globals. -/
def EuS (w : World) (A : List Value) (b3 : Nat) (c0 c1 c2 : Value) (l : List ByteArray) (Fg : List Nat) (wr : World) : Prop := (Var wr w.heap.size A ∧ Var wr (w.heap.size + 1) [.slice none 0 0, .slice none 0 0, .slice none 0 0] ∧ Var wr b3 [c0, c1, c2]) ∧ Own wr (strsD l) c1 Fg ∧ Below w.heap.size w wr ∧ (w.heap.size + 2 ≤ b3 ∧ b3 < wr.heap.size) ∧ ∀ b ∈ Fg, w.heap.size + 2 ≤ b ∧ b < b3
theorem EuS.mono {w wr wx : World} {A : List Value} {b3 : Nat} {c0 c1 c2 : Value} {l : List ByteArray} {Fg : List Nat} (h : EuS w A b3 c0 c1 c2 l Fg wr) (hb : Below (b3 + 1) wr wx) : EuS w A b3 c0 c1 c2 l Fg wx := by
  obtain ⟨⟨h1, h2, h3⟩, h4, h5, ⟨h6, h7⟩, h8⟩ := h
  have hs := hb.size
  exact ⟨⟨h1.keep (hb.block _ (by omega)), h2.keep (hb.block _ (by omega)), h3.keep (hb.block _ (by omega))⟩, Own.keep _ _ _ (fun b hbF => hb.block b (by have := h8 b hbF; omega)) h4, h5.trans (hb.mono (by omega)), ⟨h6, by omega⟩, h8⟩
theorem EuS.set {w wr : World} {A : List Value} {b3 : Nat} {c0 c1 c2 : Value} {l : List ByteArray} {Fg : List Nat} (h : EuS w A b3 c0 c1 c2 l Fg wr) (j : Nat) (u d0 d2 : Value) (he : ([c0, c1, c2] : List Value).set j u = [d0, c1, d2]) : EuS w A b3 d0 c1 d2 l Fg (wr.setCell ⟨b3, j, none⟩ u) := by
  obtain ⟨⟨h1, h2, h3⟩, h4, h5, ⟨h6, h7⟩, h8⟩ := h
  have h9 := h3.set j u
  rw [he] at h9
  exact ⟨⟨h1.oth _ j (by omega) u, h2.oth _ j (by omega) u, h9⟩, Own.keep _ _ _ (fun b hbF => set_keep (by have := h8 b hbF; omega)) h4, h5.setCell (p := ⟨b3, j, none⟩) (by show _ ≤ b3; omega) u, ⟨h6, by rw [set_size]; exact h7⟩, h8⟩
/-- Nothing below n is turned, and the block bt stays. -/
def Bt (n bt : Nat) (W0 W : World) : Prop := Below n W0 W ∧ W.heap[bt]? = W0.heap[bt]?
/-- The same, with the erased records. -/
def EuP (w : World) (A : List Value) (b3 B2 : Nat) (c0 c1 c2 : Value) (l : List ByteArray) (Fg : List Nat) (rs : List Rc) (F1 : List Nat) (wr : World) : Prop := EuS w A b3 c0 c1 c2 l Fg wr ∧ Own wr (recsD rs) c0 F1 ∧ (∀ b ∈ F1, b3 < b ∧ b < B2) ∧ b3 < B2 ∧ B2 ≤ wr.heap.size
theorem EuP.mono {w wr wx : World} {A : List Value} {b3 B2 : Nat} {c0 c1 c2 : Value} {l : List ByteArray} {Fg : List Nat} {rs : List Rc} {F1 : List Nat} (h : EuP w A b3 B2 c0 c1 c2 l Fg rs F1 wr) (hb : Below B2 wr wx) : EuP w A b3 B2 c0 c1 c2 l Fg rs F1 wx :=
  ⟨h.1.mono (hb.mono h.2.2.2.1), Own.keep _ _ _ (fun b hbF => hb.block b (h.2.2.1 b hbF).2) h.2.1, h.2.2.1, h.2.2.2.1, Nat.le_trans h.2.2.2.2 hb.size⟩
theorem EuP.set {w wr : World} {A : List Value} {b3 B2 : Nat} {c0 c1 c2 : Value} {l : List ByteArray} {Fg : List Nat} {rs : List Rc} {F1 : List Nat} (h : EuP w A b3 B2 c0 c1 c2 l Fg rs F1 wr) (u : Value) : EuP w A b3 B2 c0 c1 u l Fg rs F1 (wr.setCell ⟨b3, 2, none⟩ u) :=
  ⟨h.1.set 2 u c0 u rfl, Own.keep _ _ _ (fun b hbF => set_keep (by have := (h.2.2.1 b hbF).1; omega)) h.2.1, h.2.2.1, h.2.2.2.1, by rw [set_size]; exact h.2.2.2.2⟩
theorem AppD.bounds {B : Nat} {w : World} {T : TypeId} {z n : Nat} {v : Value} {l : List D} {Fs : List (List Nat)} (h : AppD B w T z v n l Fs) : (∀ b ∈ Fs.flatten, b < w.heap.size) ∧ ∀ b, v.ownBlock = some b → b < w.heap.size :=
  ⟨fun b hb => (h.2.2.1 b hb).2, fun b hb => (row_lt h.1.choose_spec.1 hb).2⟩
end Go.Proofs.YtbadepiakkhabaaDoor
/- The reference model's draws: a cursor over bytes, and numbers and texts that are drawn from it. -/
namespace Go.Proofs.YtbadepiakkhabaaDoor
open Go.RowKit
set_option linter.unusedVariables false

/-- Bytes that came in: below block B, each readable. -/
def Code (B : Nat) (w : World) (v : Value) (n : Nat) : Prop :=
  ((∃ a c, v = .slice a 0 c) ∧ n = 0) ∨ ∃ g off c, v = .slice (some ⟨g, off, none⟩) n c ∧ g < B ∧ n ≤ maxLen ∧ ∀ j, j < n → ∃ x : Int, w.cell? ⟨g, off + j, none⟩ = some (.int .u8 x) ∧ 0 ≤ x ∧ x ≤ 255

/-- A cursor over them, in a block of the call's own. -/
def IsCur (B : Nat) (w : World) (cb : Nat) : Prop :=
  ∃ (v : Value) (n i : Nat) (h : Int), B ≤ cb ∧ Code B w v n ∧ w.heap[cb]? = some (.cells #[v, .int .i64 i, .int .i64 h] 143 (0, 0))

theorem code_below {B : Nat} {w w1 : World} {v : Value} {n : Nat} (h : Code B w v n) (hb : Below B w w1) : Code B w1 v n := by
  rcases h with h | ⟨g, off, c, hv, hg, hm, hc⟩
  · exact .inl h
  · refine .inr ⟨g, off, c, hv, hg, hm, fun j hj => ?_⟩
    obtain ⟨x, hx, h0⟩ := hc j hj
    exact ⟨x, (hb.cell hg).trans hx, h0⟩
theorem cur_below {B : Nat} {w w1 : World} {cb : Nat} (h : IsCur B w cb) (hB : B ≤ w.heap.size) (hb : Below w.heap.size w w1) : IsCur B w1 cb := by
  obtain ⟨v, n, i, h, hcb, hc, hh⟩ := h
  exact ⟨v, n, i, h, hcb, code_below hc (hb.mono hB), by rw [hb.block cb (Array.getElem?_eq_some_iff.1 hh).1]; exact hh⟩

theorem heap_cell {w : World} {b : Nat} {cs : Array Value} {T : TypeId} {fr : Nat × Nat} (hb : w.heap[b]? = some (.cells cs T fr)) (j : Nat) : w.cell? ⟨b, j, none⟩ = cs[j]? := by
  simp [World.cell?, hb]
theorem heap_free {w : World} {b : Nat} {cs : Array Value} {T : TypeId} (hb : w.heap[b]? = some (.cells cs T (0, 0))) (j : Nat) : w.frozen? ⟨b, j, none⟩ = false := by
  simp [World.frozen?, hb]

theorem and255 (n : Int) : 0 ≤ bits .and .i64 n 255 ∧ bits .and .i64 n 255 ≤ 255 := by
  have h : bits .and .i64 n 255 = n % 256 := by
    have h127 : (BitVec.ofInt 64 255).toNat = 2 ^ 8 - 1 := by decide
    have key : (BitVec.ofInt 64 n &&& BitVec.ofInt 64 255).toNat = (n % ((2 ^ 64 : Nat) : Int)).toNat % 2 ^ 8 := by
      rw [BitVec.toNat_and, BitVec.toNat_ofInt, h127, Nat.and_two_pow_sub_one_eq_mod]
    show IntKind.i64.wrap ((BitVec.ofInt 64 n &&& BitVec.ofInt 64 255).toNat : Nat) = n % 256
    rw [key, IntKind.wrap_i64]
    omega
  rw [h]; omega

theorem heap_set {w : World} {b j : Nat} {cs : Array Value} {T : TypeId} {u : Value} (hb : w.heap[b]? = some (.cells cs T (0, 0))) : (w.setCell ⟨b, j, none⟩ u).heap[b]? = some (.cells (cs.setIfInBounds j u) T (0, 0)) := heap_setCell_same w b j cs T u hb

/-- Only block cb may have changed, and blocks may be new. -/
def Only (cb : Nat) (w w' : World) : Prop := w.grownBy w' (some cb)
theorem Only.refl (cb : Nat) (w : World) : Only cb w w := ⟨rfl, rfl, rfl, Nat.le_refl _, fun _ _ _ => rfl⟩
theorem Only.trans {cb : Nat} {w w1 w2 : World} (h : Only cb w w1) (k : Only cb w1 w2) : Only cb w w2 :=
  ⟨k.os.trans h.os, k.tape.trans h.tape, k.output.trans h.output, Nat.le_trans h.size k.size, fun i hi hne => (k.block i (Nat.lt_of_lt_of_le hi h.size) hne).trans (h.block i hi hne)⟩
theorem Only.setCell {cb : Nat} {w w1 : World} (h : Only cb w w1) (j : Nat) (v : Value) : Only cb w (w1.setCell ⟨cb, j, none⟩ v) :=
  h.trans ⟨rfl, rfl, rfl, by simp [World.setCell], fun k _ hk => Below.heap_setCell _ _ _ _ (fun e => hk (by simp [e]))⟩
theorem Only.drewN {cb : Nat} {w w1 : World} (h : Only cb w w1) (n : Nat) : Only cb w (w1.drewN n) := h.trans ⟨rfl, rfl, rfl, Nat.le_refl _, fun _ _ _ => rfl⟩
theorem Only.of_below {cb : Nat} {w w1 : World} (h : Below w.heap.size w w1) : Only cb w w1 := ⟨h.os, h.tape, h.output, h.size, fun k hk _ => h.block k hk⟩
theorem Only.below {cb B : Nat} {w w1 : World} (h : Only cb w w1) (h1 : B ≤ cb) (h2 : B ≤ w.heap.size) : Below B w w1 :=
  (Below.refl _ _).grown h h2 (fun k hk => by cases hk; exact h1)

/-- A cursor's parts. -/
def Cur (B : Nat) (w : World) (cb : Nat) (v : Value) (n i : Nat) (h : Int) : Prop := B ≤ cb ∧ Code B w v n ∧ w.heap[cb]? = some (.cells #[v, .int .i64 i, .int .i64 h] 143 (0, 0))
theorem cur_of {B : Nat} {w : World} {cb : Nat} {v : Value} {n i : Nat} {h : Int} (c : Cur B w cb v n i h) : IsCur B w cb := ⟨v, n, i, h, c.1, c.2.1, c.2.2⟩
theorem cur_set2 {B : Nat} {w : World} {cb : Nat} {v : Value} {n i : Nat} {h : Int} (c : Cur B w cb v n i h) (h2 : Int) : Cur B (w.setCell ⟨cb, 2, none⟩ (.int .i64 h2)) cb v n i h2 :=
  ⟨c.1, code_below c.2.1 ((Below.refl _ _).setCell c.1 _), by have := heap_set (j := 2) (u := .int .i64 h2) c.2.2; simpa using this⟩
theorem cur_set1 {B : Nat} {w : World} {cb : Nat} {v : Value} {n i : Nat} {h : Int} (c : Cur B w cb v n i h) (i2 : Nat) (x : Value) (hx : x = .int .i64 i2) : Cur B (w.setCell ⟨cb, 1, none⟩ x) cb v n i2 h := by
  subst hx
  exact ⟨c.1, code_below c.2.1 ((Below.refl _ _).setCell c.1 _), by have := heap_set (j := 1) (u := .int .i64 i2) c.2.2; simpa using this⟩
theorem cur_drewN {B : Nat} {w : World} {cb : Nat} {v : Value} {n i : Nat} {h : Int} (c : Cur B w cb v n i h) (k : Nat) : Cur B (w.drewN k) cb v n i h :=
  ⟨c.1, code_below c.2.1 (below_drewN (Below.refl _ _) _), c.2.2⟩

theorem cur_drewN' {B : Nat} {w : World} {cb : Nat} {v : Value} {n i : Nat} {h : Int} (c : Cur B w cb v n i h) (k : Nat) : Cur B (w.drewN k) cb v n i h := cur_drewN c k

set_option maxHeartbeats 400000 in
theorem draw_byte (B cb : Nat) (w : World) (hp : IsCur B w cb) :
    Calls Tryd.prog 77 #[.pointer (some ⟨cb, 0, none⟩)] w fun e w' => ∃ x : Int, e = .returned (.int .i64 x) ∧ 0 ≤ x ∧ x ≤ 255 ∧ IsCur B w' cb ∧ Only cb w w' := by
  obtain ⟨v, n, i, h, hcb, hc, hh⟩ := hp
  have HCur := Lib.hid (show Cur B w cb v n i h from ⟨hcb, hc, hh⟩)
  have c1 : w.cell? ⟨cb, 1, none⟩ = some (.int .i64 i) := by rw [heap_cell hh]; rfl
  have c2 : w.cell? ⟨cb, 2, none⟩ = some (.int .i64 h) := by rw [heap_cell hh]; rfl
  have f1 := heap_free hh 1
  have f2 := heap_free hh 2
  obtain ⟨a, c, rfl⟩ : ∃ a c, v = .slice a n c := by
    rcases hc with ⟨⟨a, c, rfl⟩, rfl⟩ | ⟨g, off, c, rfl, _⟩
    · exact ⟨_, _, rfl⟩
    · exact ⟨_, _, rfl⟩
  have c0 : w.cell? ⟨cb, 0, none⟩ = some (.slice a n c) := by rw [heap_cell hh]; rfl
  by_cases hlt : (i : Int) < n
  case neg =>
    clear hc hh
    go_enter Tryd.func77, Tryd.ntmps77
    go_wp2
    generalize wrap64 (wrap64 (h * 6364136223846793005) + 1442695040888963407) = h2
    go_quiet (fail)
    generalize hy : bits BinOp.and IntKind.i64 (bits BinOp.xor IntKind.i64 (h2 / 8589934592) (h2 / 35184372088832)) 255 = y
    obtain ⟨hy0, hy1⟩ : 0 ≤ y ∧ y ≤ 255 := by rw [← hy]; exact and255 _
    clear hy
    go_wp2
    go_quiet (fail)
    go_wp2
    go_ret
    exact ⟨y, rfl, hy0, hy1, cur_of (cur_drewN (cur_drewN (cur_set2 HCur.out h2) _) _), (((Only.refl _ _).setCell _ _).drewN _).drewN _⟩
  case pos =>
    obtain ⟨g, off, c', hv, hg, hm, hcc⟩ : ∃ g off c', Value.slice a n c = .slice (some ⟨g, off, none⟩) n c' ∧ g < B ∧ n ≤ maxLen ∧ ∀ j, j < n → ∃ x : Int, w.cell? ⟨g, off + j, none⟩ = some (.int .u8 x) ∧ 0 ≤ x ∧ x ≤ 255 := by
      rcases hc with ⟨_, h0⟩ | h
      · omega
      · exact h
    simp only [Value.slice.injEq, true_and] at hv
    obtain ⟨rfl, rfl⟩ := hv
    obtain ⟨x, hx, hx0, hx1⟩ := hcc i (by omega)
    have hne : ¬ g = cb := by omega
    have i0 : (0 : Int) ≤ i := by omega
    unfold maxLen at hm
    have hi1 : (i : Int) + 1 ≤ 9223372036854775807 := by omega
    clear hc hh hcc
    go_enter Tryd.func77, Tryd.ntmps77
    go_wp2
    generalize wrap64 (wrap64 (h * 6364136223846793005) + 1442695040888963407) = h2
    go_quiet (fail)
    generalize hy : bits BinOp.and IntKind.i64 (bits BinOp.xor IntKind.i64 (h2 / 8589934592) (h2 / 35184372088832)) 255 = y
    obtain ⟨hy0, hy1⟩ : 0 ≤ y ∧ y ≤ 255 := by rw [← hy]; exact and255 _
    clear hy
    go_wp2
    go_quiet (fail)
    go_wp2
    go_quiet (fail)
    generalize hz : bits BinOp.and IntKind.i64 (y + x) 255 = z
    obtain ⟨hz0, hz1⟩ : 0 ≤ z ∧ z ≤ 255 := by rw [← hz]; exact and255 _
    clear hz
    go_wp2
    go_ret
    exact ⟨z, rfl, hz0, hz1, cur_of (cur_drewN' (cur_set1 (cur_set2 HCur.out h2) (i + 1) _ (by go_num)) _), (((Only.refl _ _).setCell _ _).setCell _ _).drewN _⟩

/-- A number below n. -/
def DrawnBelow (B cb : Nat) (w : World) (n : Int) (e : Ending) (w' : World) : Prop := ∃ x : Int, e = .returned (.int .i64 x) ∧ 0 ≤ x ∧ x < n ∧ IsCur B w' cb ∧ Only cb w w'

set_option maxHeartbeats 400000 in
theorem draw_small (B cb : Nat) (n : Int) (w : World) (hp : IsCur B w cb) (h0 : 0 < n) (h1 : n ≤ 256) :
    Calls Tryd.prog 42 #[.pointer (some ⟨cb, 0, none⟩), .int .i64 n] w (DrawnBelow B cb w n) := by
  have HB := Lib.hid (draw_byte B cb w hp)
  clear hp
  go_enter Tryd.func42, Tryd.ntmps42
  go_wp2_with fail
  refine HB.out.mono ?_
  rintro e w1 ⟨x, rfl, hx0, hx1, hc, hb⟩
  have HC := Lib.hid hc
  have HW := Lib.hid hb
  clear hc hb
  have hm0 : 0 ≤ x % n := Int.emod_nonneg _ (by omega)
  have hm1 : x % n < n := Int.emod_lt_of_pos _ h0
  go_wp2
  go_ret
  exact ⟨x % n, rfl, hm0, hm1, HC.out, HW.out⟩

set_option maxHeartbeats 400000 in
theorem draw_great (B cb : Nat) (n : Int) (w : World) (hp : IsCur B w cb) (h0 : 256 < n) (h1 : n ≤ 2147483647) :
    Calls Tryd.prog 42 #[.pointer (some ⟨cb, 0, none⟩), .int .i64 n] w (DrawnBelow B cb w n) := by
  have HB := Lib.hid (draw_byte B cb w hp)
  clear hp
  go_enter Tryd.func42, Tryd.ntmps42
  go_wp2_with fail
  refine HB.out.mono ?_
  rintro e w1 ⟨x, rfl, hx0, hx1, hc, hb⟩
  have HB1 := Lib.hid (draw_byte B cb w1 hc)
  have HW := Lib.hid hb
  clear hc hb
  go_wp2_with fail
  refine HB1.out.mono ?_
  rintro e w2 ⟨y, rfl, hy0, hy1, hc, hb⟩
  have HB2 := Lib.hid (draw_byte B cb w2 hc)
  have HW2 := Lib.hid (HW.out.trans hb)
  clear hc hb
  go_wp2_with fail
  refine HB2.out.mono ?_
  rintro e w3 ⟨z, rfl, hz0, hz1, hc, hb⟩
  have HB3 := Lib.hid (draw_byte B cb w3 hc)
  have HW3 := Lib.hid (HW2.out.trans hb)
  clear hc hb
  go_wp2_with fail
  refine HB3.out.mono ?_
  rintro e w4 ⟨t, rfl, ht0, ht1, hc, hb⟩
  have HC := Lib.hid hc
  have HW4 := Lib.hid (HW3.out.trans hb)
  clear hc hb
  go_wp2
  go_ret
  exact ⟨_, rfl, Int.emod_nonneg _ (by omega), Int.emod_lt_of_pos _ (by omega), HC.out, HW4.out⟩

/-- A number below n is drawn, for every n above 0. -/
theorem draw_below (B cb : Nat) (n : Int) (w : World) (hp : IsCur B w cb) (h0 : 0 < n) (h1 : n ≤ 2147483647) :
    Calls Tryd.prog 42 #[.pointer (some ⟨cb, 0, none⟩), .int .i64 n] w (DrawnBelow B cb w n) := by
  by_cases h : n ≤ 256
  · exact draw_small B cb n w hp h0 h
  · exact draw_great B cb n w hp (by omega) h1
end Go.Proofs.YtbadepiakkhabaaDoor
/- The reference model's draws: a new cursor, and picks from a list. -/
namespace Go.Proofs.YtbadepiakkhabaaDoor
open Go.RowKit
set_option linter.unusedVariables false

theorem cur_new {w : World} {v : Value} {n : Nat} (hc : Code w.heap.size w v n) (x : Int) : IsCur w.heap.size (w.alloc (.cells #[v, .int .i64 0, .int .i64 x] 143)) w.heap.size :=
  ⟨v, n, 0, x, Nat.le_refl _, code_below hc ((Below.refl _ _).alloc (Nat.le_refl _) _), heap_alloc_new _ _⟩

set_option maxHeartbeats 400000 in
theorem draw_new (v : Value) (n : Nat) (w : World) (hc : Code w.heap.size w v n) (hn : (n : Int) ≤ 1048576) :
    Calls Tryd.prog 40 #[v] w fun e w' => ∃ cb, e = .returned (.pointer (some ⟨cb, 0, none⟩)) ∧ w.heap.size ≤ cb ∧ cb < w'.heap.size ∧ IsCur w.heap.size w' cb ∧ Below w.heap.size w w' := by
  obtain ⟨a, c, rfl⟩ : ∃ a c, v = .slice a n c := by
    rcases hc with ⟨⟨a, c, rfl⟩, rfl⟩ | ⟨g, off, c, rfl, _⟩
    · exact ⟨_, _, rfl⟩
    · exact ⟨_, _, rfl⟩
  have HC := Lib.hid hc
  clear hc
  go_enter Tryd.func40, Tryd.ntmps40
  go_wp2
  go_loop [3, 4] (fun h i => ∃ (k : Nat) (x : Int), i = .int .i64 k ∧ k ≤ n ∧ h = .int .i64 x) (fun _ i => n - (intOf i).toNat)
  case atStart => exact ⟨0, _, rfl, Nat.zero_le _, rfl⟩
  case round =>
    obtain ⟨k, x, rfl, hk, rfl⟩ := hrel
    by_cases hlt : (k : Int) < n
    · by_cases h4 : (k : Int) < 4000
      · obtain ⟨g, off, c', hv, hg, hm, hcc⟩ : ∃ g off c', Value.slice a n c = .slice (some ⟨g, off, none⟩) n c' ∧ g < w.heap.size ∧ n ≤ maxLen ∧ ∀ j, j < n → ∃ x : Int, w.cell? ⟨g, off + j, none⟩ = some (.int .u8 x) ∧ 0 ≤ x ∧ x ≤ 255 := by
          rcases HC.out with ⟨_, h0⟩ | h
          · omega
          · exact h
        simp only [Value.slice.injEq, true_and] at hv
        obtain ⟨rfl, rfl⟩ := hv
        obtain ⟨y, hy, hy0, hy1⟩ := hcc k (by omega)
        clear hcc
        have k0 : (0 : Int) ≤ k := by omega
        go_wp2
        go_round
        case rel => exact ⟨k + 1, _, by go_num, by omega, rfl⟩
        case measure => first | (simp [intOf]; done) | (simp [intOf]; omega)
      · go_wp2
        go_ret
        exact ⟨w.heap.size, rfl, Nat.le_refl _, by simp, cur_new HC.out x, (Below.refl _ _).alloc (Nat.le_refl _) _⟩
    · go_wp2
      go_ret
      exact ⟨w.heap.size, rfl, Nat.le_refl _, by simp, cur_new HC.out x, (Below.refl _ _).alloc (Nat.le_refl _) _⟩

/-- What a pick leaves: the cursor's block alone may have changed. -/
def Picked {α : Type} (mk : α → Value) (l : List α) (B cb : Nat) (w : World) (e : Ending) (w' : World) : Prop := ∃ x, x ∈ l ∧ e = .returned (mk x) ∧ IsCur B w' cb ∧ Only cb w w'

set_option maxHeartbeats 400000 in
theorem pick_int (B cb g cap : Nat) (l : List Int) (w : World) (hp : IsCur B w cb) (hl : 0 < l.length) (hl2 : (l.length : Int) ≤ 1048576) (hne : g ≠ cb)
    (hc : ∀ i, i < l.length → w.cell? ⟨g, i, none⟩ = some (.int .i64 (l.getD i 0))) :
    Calls Tryd.prog 106 #[.pointer (some ⟨cb, 0, none⟩), .slice (some ⟨g, 0, none⟩) l.length cap] w (Picked (Value.int .i64) l B cb w) := by
  have HB := Lib.hid (draw_below B cb l.length w hp (by omega) (by omega))
  have HC := Lib.hid hc
  clear hp hc
  go_enter Tryd.func106, Tryd.ntmps106
  go_wp2_with fail
  refine HB.out.mono ?_
  rintro e w1 ⟨x, rfl, hx0, hx1, hcur, ho⟩
  obtain ⟨k, rfl⟩ : ∃ k : Nat, x = k := ⟨x.toNat, by omega⟩
  have hk : k < l.length := by omega
  have h0 := HC.out k hk
  have h1 : w1.cell? ⟨g, k, none⟩ = some (.int .i64 (l.getD k 0)) := ho.cell h0 (fun e => hne (by simpa using e))
  have HCur := Lib.hid hcur
  have HO := Lib.hid ho
  have hmem : l.getD k 0 ∈ l := by simp [List.getD, List.getElem?_eq_getElem hk]
  have HM := Lib.hid hmem
  clear h0 hcur ho hmem
  generalize hv : l.getD k 0 = y at h1
  rw [hv] at HM
  clear hv
  go_wp2
  go_ret
  exact ⟨y, HM.out, rfl, HCur.out, HO.out⟩

set_option maxHeartbeats 400000 in
theorem pick_text (B cb g cap : Nat) (l : List ByteArray) (w : World) (hp : IsCur B w cb) (hl : 0 < l.length) (hl2 : (l.length : Int) ≤ 1048576) (hne : g ≠ cb)
    (hc : ∀ i, i < l.length → w.cell? ⟨g, i, none⟩ = some (.string (l.getD i ByteArray.empty))) :
    Calls Tryd.prog 105 #[.pointer (some ⟨cb, 0, none⟩), .slice (some ⟨g, 0, none⟩) l.length cap] w (Picked Value.string l B cb w) := by
  have HB := Lib.hid (draw_below B cb l.length w hp (by omega) (by omega))
  have HC := Lib.hid hc
  clear hp hc
  go_enter Tryd.func105, Tryd.ntmps105
  go_wp2_with fail
  refine HB.out.mono ?_
  rintro e w1 ⟨x, rfl, hx0, hx1, hcur, ho⟩
  obtain ⟨k, rfl⟩ : ∃ k : Nat, x = k := ⟨x.toNat, by omega⟩
  have hk : k < l.length := by omega
  have h0 := HC.out k hk
  have h1 : w1.cell? ⟨g, k, none⟩ = some (.string (l.getD k ByteArray.empty)) := ho.cell h0 (fun e => hne (by simpa using e))
  have HCur := Lib.hid hcur
  have HO := Lib.hid ho
  have hmem : l.getD k ByteArray.empty ∈ l := by simp [List.getD, List.getElem?_eq_getElem hk]
  have HM := Lib.hid hmem
  clear h0 hcur ho hmem
  generalize hv : l.getD k ByteArray.empty = y at h1
  rw [hv] at HM
  clear hv
  go_wp2
  go_ret
  exact ⟨y, HM.out, rfl, HCur.out, HO.out⟩
end Go.Proofs.YtbadepiakkhabaaDoor
/- The reference model's draws of an integer; a code that came in. -/
namespace Go.Proofs.YtbadepiakkhabaaDoor
open Go.RowKit
set_option linter.unusedVariables false

/-- The cells of a new block. -/
theorem new_cells {α : Type} (mk : α → Value) (l : List α) (d : α) (w : World) (t : TypeId) (arr : Array Value) (ha : arr = (l.map mk).toArray) : ∀ i, i < l.length → (w.alloc (.cells arr t)).cell? ⟨w.heap.size, i, none⟩ = some (mk (l.getD i d)) := by
  intro i hi
  subst ha
  rw [World.cell?_alloc_mark]
  simp [List.getD, List.getElem?_eq_getElem hi]

theorem only_alloc {cb : Nat} {w : World} (o : Obj) : Only cb w (w.alloc o) := ⟨rfl, rfl, rfl, by simp, fun k hk _ => Below.heap_alloc _ _ _ hk⟩
theorem cur_alloc {B cb : Nat} {w : World} (h : IsCur B w cb) (hB : B ≤ w.heap.size) (o : Obj) : IsCur B (w.alloc o) cb := cur_below h hB ((Below.refl _ _).alloc (Nat.le_refl _) o)
theorem cur_lt {B cb : Nat} {w : World} (h : IsCur B w cb) : cb < w.heap.size := by
  obtain ⟨v, n, i, h, hcb, hc, hh⟩ := h
  exact (Array.getElem?_eq_some_iff.1 hh).1

/-- An integer of 64 bits is drawn. -/
def DrawnInt (B cb : Nat) (w : World) (e : Ending) (w' : World) : Prop := ∃ x : Int, e = .returned (.int .i64 x) ∧ -9223372036854775808 ≤ x ∧ x ≤ 9223372036854775807 ∧ IsCur B w' cb ∧ Only cb w w'

set_option maxHeartbeats 400000 in
theorem draw_whole (B cb : Nat) (w : World) (hp : IsCur B w cb) (hB : B ≤ w.heap.size) :
    Calls Tryd.prog 145 #[.pointer (some ⟨cb, 0, none⟩)] w (DrawnInt B cb w) := by
  have HB := Lib.hid (draw_below B cb 3 w hp (by omega) (by omega))
  clear hp
  go_enter Tryd.func145, Tryd.ntmps145
  go_wp2_with fail
  refine HB.out.mono ?_
  rintro e w1 ⟨x, rfl, hx0, hx1, hcur, ho⟩
  have HCur := Lib.hid hcur
  have HO := Lib.hid ho
  have hB1 : B ≤ w1.heap.size := Nat.le_trans hB ho.size
  have hcb := cur_lt hcur
  clear hcur ho
  by_cases h0 : x = 0
  · have hx : (x == 0) = true := by simpa using h0
    subst h0
    go_wp2_with fail
    refine (pick_int B cb w1.heap.size 12 [0, 1, -1, 9, 10, 999999, 1000000, 999999999999, 1000000000000, -999999999999, 9223372036854775807, -9223372036854775808] _ (cur_alloc HCur.out hB1 _) (by decide) (by decide) (by omega) (new_cells (Value.int .i64) _ 0 w1 _ _ rfl)).mono ?_
    rintro e w2 ⟨y, hy, rfl, hc2, ho2⟩
    have HC2 := Lib.hid hc2
    have HO2 := Lib.hid (HO.out.trans ((only_alloc _).trans ho2))
    have HY : Hid (-9223372036854775808 ≤ y ∧ y ≤ 9223372036854775807) := by
      simp only [List.mem_cons, List.not_mem_nil, or_false] at hy
      show _ ∧ _
      omega
    clear hy hc2 ho2
    go_wp2
    go_ret
    exact ⟨y, rfl, HY.out.1, HY.out.2, HC2.out, HO2.out⟩
  · have hx : (x == 0) = false := by simpa using h0
    by_cases h1 : x = 1
    · have hx2 : (x == 1) = true := by simpa using h1
      subst h1
      have HD := Lib.hid (draw_below B cb 1000000 w1 HCur.out (by omega) (by omega))
      go_wp2_with fail
      refine HD.out.mono ?_
      rintro e w2 ⟨y, rfl, hy0, hy1, hc2, ho2⟩
      have HC2 := Lib.hid hc2
      have HO2 := Lib.hid (HO.out.trans ho2)
      clear hc2 ho2
      go_wp2
      go_ret
      exact ⟨y - 500000, rfl, by omega, by omega, HC2.out, HO2.out⟩
    · have hx2 : (x == 1) = false := by simpa using h1
      have HD := Lib.hid (draw_below B cb 20 w1 HCur.out (by omega) (by omega))
      go_wp2_with fail
      refine HD.out.mono ?_
      rintro e w2 ⟨y, rfl, hy0, hy1, hc2, ho2⟩
      have HC2 := Lib.hid hc2
      have HO2 := Lib.hid (HO.out.trans ho2)
      clear hc2 ho2
      go_wp2
      go_ret
      exact ⟨y, rfl, by omega, by omega, HC2.out, HO2.out⟩

theorem add_off (g o i : Nat) : (⟨g, o, none⟩ : Addr).add i = ⟨g, o + i, none⟩ := by
  unfold Addr.add; split <;> simp_all

/-- Bytes that came in, as a draw wants them. -/
theorem code_of_in {w : World} {a : Option Addr} {len cap : Nat} {z : List Int} (h : IsRow .u8 w a len cap z) : Code w.heap.size w (.slice a len cap) len := by
  rcases h with ⟨rfl, rfl, rfl, rfl⟩ | ⟨x, rfl, hl, hm, hz, hc, hs⟩
  · exact .inl ⟨⟨_, _, rfl⟩, rfl⟩
  · by_cases h0 : len = 0
    · subst h0; exact .inl ⟨⟨_, _, rfl⟩, rfl⟩
    · obtain ⟨b, off, spot⟩ := x
      have hspot : spot = none := by simpa [Addr.add] using World.cell?_spot (hc 0 (by omega))
      subst hspot
      have hc0 := hc 0 (by omega)
      refine .inr ⟨b, off, cap, rfl, World.block_lt_of_cell? w _ hc0, by omega, fun j hj => ⟨z.getD j 0, ?_, ?_⟩⟩
      · rw [← add_off b off j]; exact hc j (by omega)
      · have h1 : z.getD j 0 = z[j]'(by omega) := by simp [List.getD, List.getElem?_eq_getElem (show j < z.length by omega)]
        rw [h1]
        have h2 := hs _ (List.getElem_mem (show j < z.length by omega))
        simpa [Lit.wf, IntKind.min, IntKind.max, IntKind.signed, IntKind.bits] using h2

/-- A code that is not too long. -/
theorem big_no (a : Option Addr) (len cap : Nat) (w : World) (h : (len : Int) ≤ 1048576) :
    Calls Tryd.prog 15 #[.slice a len cap] w fun e w' => e = .returned (.bool false) ∧ w = w' := by
  have h2 : decide ((1048576 : Int) < len) = false := by simp; omega
  go_enter Tryd.func15, Tryd.ntmps15
  go_wp2
  go_ret
  exact ⟨by rw [show Value.bool false = Value.bool (decide ((1048576 : Int) < len)) from by rw [h2]]; first | rfl | simp, rfl⟩

end Go.Proofs.YtbadepiakkhabaaDoor
