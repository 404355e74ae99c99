/- Joined texts: U15, N28. No conditions besides those that each states. -/
import Derived.Test.YtiiogpafgoeblaaZ13
/- Rows of structs that grow by append. No conditions. -/
namespace Go.Proofs.Ytiiogpafgoeblaa
open Go.RowKit
set_option linter.unusedVariables false

/-- A row that grows: its cells, their slices in blocks of their own. -/
def AppD (B : Nat) (w : World) (T : TypeId) (z : Nat) (v : Value) (n : Nat) (l : List D) (Fs : List (List Nat)) : Prop := (∃ xs : List Value, w.ownsRow B T z v n xs ∧ xs.length = l.length ∧ ∀ (j : Nat) (d : D), l[j]? = some d → ∃ (u : Value) (G : List Nat), Fs[j]? = some G ∧ xs[j]? = some u ∧ Own w d u G) ∧ (Fs.length = l.length ∧ Fs.Pairwise Apart) ∧ (∀ b ∈ Fs.flatten, B ≤ b ∧ b < w.heap.size) ∧ ∀ g, v.ownBlock = some g → g ∉ Fs.flatten
theorem AppD.nil (B : Nat) (w : World) (T : TypeId) (z : Nat) : AppD B w T z (.slice none 0 0) 0 [] [] := ⟨⟨[], World.ownsRow_nil w B _ _, rfl, fun j d h => by simp at h⟩, ⟨rfl, List.Pairwise.nil⟩, (fun b h => by simp at h), fun g h => by cases h⟩
theorem row_keep {B n z : Nat} {T : TypeId} {w w1 : World} {v : Value} {xs : List Value} (h : w.ownsRow B T z v n xs) (hb : ∀ b, v.ownBlock = some b → w1.heap[b]? = w.heap[b]?) : w1.ownsRow B T z v n xs := by
  refine ⟨h.1, ?_⟩
  rcases h.2 with hn | ⟨g2, cap2, cur, rfl, hg, hgg, r⟩
  · exact .inl hn
  · exact .inr ⟨g2, cap2, cur, rfl, hg, by rw [hb g2 rfl]; exact hgg, r⟩
theorem row_lt {B n z : Nat} {T : TypeId} {w : World} {v : Value} {xs : List Value} (h : w.ownsRow B T z v n xs) {b : Nat} (hb : v.ownBlock = some b) : B ≤ b ∧ b < w.heap.size := World.ownsRow.lt h b hb
theorem AppD.keep {B : Nat} {w w1 : World} {T : TypeId} {z n : Nat} {v : Value} {l : List D} {Fs : List (List Nat)} (h : AppD B w T z v n l Fs) (hs : w.heap.size ≤ w1.heap.size) (hb : ∀ b, B ≤ b → b < w.heap.size → w1.heap[b]? = w.heap[b]?) : AppD B w1 T z v n l Fs := by
  obtain ⟨⟨xs, h1, h2, h3⟩, h4, h5, h6⟩ := h
  refine ⟨⟨xs, row_keep h1 fun b e => hb b (row_lt h1 e).1 (row_lt h1 e).2, h2, fun j d hj => ?_⟩, h4, fun b hF => ⟨(h5 b hF).1, Nat.lt_of_lt_of_le (h5 b hF).2 hs⟩, h6⟩
  obtain ⟨u, G, e, hu, ho⟩ := h3 j d hj
  exact ⟨u, G, e, hu, Own.keep d u G (fun b hbG => hb b (h5 b (mem_at e hbG)).1 (h5 b (mem_at e hbG)).2) ho⟩
theorem AppD.later {B : Nat} {w w1 : World} {T : TypeId} {z n : Nat} {v : Value} {l : List D} {Fs : List (List Nat)} (h : AppD B w T z v n l Fs) (hb : Below w.heap.size w w1) : AppD B w1 T z v n l Fs := h.keep hb.size fun b _ hlt => hb.block b hlt
theorem AppD.set {B C : Nat} {w : World} {T : TypeId} {z n : Nat} {v : Value} {l : List D} {Fs : List (List Nat)} (h : AppD B w T z v n l Fs) (hC : C < B) (o : Nat) (u : Value) : AppD B (w.setCell ⟨C, o, none⟩ u) T z v n l Fs := h.keep (by simp [World.setCell]) fun b hb _ => Below.heap_setCell w ⟨C, o, none⟩ u b (show b ≠ C by omega)
theorem AppD.slice {B : Nat} {w : World} {T : TypeId} {z n : Nat} {v : Value} {l : List D} {Fs : List (List Nat)} (h : AppD B w T z v n l Fs) : ∃ a n c, v = .slice a n c := by
  rcases h.1.choose_spec.1.2 with ⟨rfl, _⟩ | ⟨g2, cap2, cur, rfl, _⟩
  · exact ⟨_, _, _, rfl⟩
  · exact ⟨_, _, _, rfl⟩
theorem AppD.done {B : Nat} {w : World} {T : TypeId} {z n : Nat} {v : Value} {l : List D} {Fs : List (List Nat)} (h : AppD B w T z v n l Fs) (hz : 0 < z) : ∃ F, Own w (.row n l) v F ∧ Foot B w F := by
  obtain ⟨⟨xs, h1, h2, h3⟩, ⟨h4, h4'⟩, h5, h6⟩ := h
  by_cases h0 : l = []
  · subst h0
    have hn : n = 0 := by
      have e := h1.1
      rw [h2] at e
      rcases Nat.mul_eq_zero.1 e.symm with h | h
      · exact h
      · omega
    subst hn
    rcases h1.2 with ⟨rfl, _⟩ | ⟨g, cap, cur, rfl, _⟩
    · exact ⟨[], own_nil, fun b hb => by cases hb⟩
    · exact ⟨[], own_nil, fun b hb => by cases hb⟩
  · have hxl := h1.1
    rcases id h1.2 with ⟨_, hn⟩ | ⟨g, cap, cur, rfl, hg, _⟩
    · subst hn
      rw [Nat.zero_mul, h2] at hxl
      exact absurd (List.length_eq_zero_iff.1 hxl) h0
    · have hr : RowD w g 0 l Fs := ⟨⟨h6 g rfl, h4'⟩, h4, fun j d hj => by
        obtain ⟨u, G, e, hu, ho⟩ := h3 j d hj
        have hjl : j < n * z := by rw [← hxl]; exact (List.getElem?_eq_some_iff.1 hu).1
        refine ⟨u, G, e, ?_, World.ownsRow.frozenAt h1 _, ho⟩
        rw [Nat.zero_add, World.ownsRow.cellAt h1 j hjl, hu]⟩
      refine ⟨_, own_of_rowD hr h0, fun b hb => ?_⟩
      rcases List.mem_cons.1 hb with rfl | hb
      · exact ⟨hg, (row_lt h1 rfl).2⟩
      · exact h5 b hb
/-- What append does to a row of its own. -/
theorem append_row {B : Nat} {w : World} {v : Value} {n z by' : Nat} {S E : TypeId} {i0 : TypeInfo} {zv : Value} (hS : Try.prog.underlying S = some (.slice E)) (hi : Try.prog.info? E = some i0) (hz0 : i0.zero = some zv) (hz1 : i0.size = z) (hz2 : i0.bytes = by') (hzc : zv.cells.size = z) (hzp : 0 < z) (hby : by' ≤ 256) {xs : List Value} (ty : TypeId) (hown : w.ownsRow B E z v n xs) (ad : Addr) (c : Nat) (news : List Value) (hl : news.length = z) (hnews : ∀ j u, news[j]? = some u → w.cell? (ad.add j) = some u) (h1 : ∀ u ∈ news, u.oneCell' = true) (hn : n ≤ 1048577) (hB : B ≤ w.heap.size) :
    ∃ v' w', (Builtin.append_ #[S, S] ty #[v, .slice (some ad) 1 c]).run Try.prog w = .ok v' w' ∧ w'.ownsRow B E z v' (n + 1) (xs ++ news) ∧ w.grownBy w' v.ownBlock ∧ ∃ g c', v' = .slice (some ⟨g, 0, none⟩) (n + 1) c' ∧ B ≤ g ∧ (v.ownBlock = some g ∨ w.heap.size ≤ g) := by
  have hbb : (n + 1) * by' ≤ 140737488355328 := Nat.le_trans (Nat.mul_le_mul (by omega : n + 1 ≤ 1048578) hby) (by decide)
  obtain ⟨v', w', hr, h2, h3, _⟩ := run_append_own (P := Try.prog) w B S ty E i0 zv z by' hS hi hz0 hz1 hz2 hzc hzp v n xs hown ad 1 c news (by rw [hl]; omega) hnews h1 (by unfold maxLen; omega) hbb hB
  refine ⟨v', w', hr, h2, h3, ?_⟩
  rcases hown.2 with ⟨rfl, hn0⟩ | ⟨g, cap, cur, rfl, hbg, hg, hnc, hcm, hcs, htake⟩
  · have hr2 := run_append_nil (P := Try.prog) w S ty E i0 _ hS hi hz0 ad 1 c news (by rw [hl, hz1]; omega) hnews (by omega) (by omega) (by rw [hz2]; omega)
    rw [hr2] at hr
    injection hr with e1 e2
    subst hn0
    exact ⟨w.heap.size, _, e1.symm, hB, .inr (Nat.le_refl _)⟩
  · by_cases hroom : n + 1 ≤ cap
    · have hr2 := run_append_room (P := Try.prog) w S ty E i0 hS hi g n cap cur hg ad 1 c news (by rw [hl, hz1]; omega) hnews h1 hroom (by rw [hl, hz1, hcs, ← Nat.succ_mul]; exact Nat.mul_le_mul_right _ hroom)
      rw [hr2] at hr
      injection hr with e1 e2
      exact ⟨g, _, e1.symm, hbg, .inl rfl⟩
    · have hr2 := run_append_grow (P := Try.prog) w S ty E i0 _ hS hi hz0 ⟨g, 0, none⟩ n cap xs (by rw [hown.1, hz1]) (fun j u h => hown.cells (g := g) rfl j u h) ad 1 c news (by rw [hl, hz1]; omega) hnews (by omega) (by omega) (growslice_fits (by omega) (by rw [hz2]; exact hbb))
      rw [hr2] at hr
      injection hr with e1 e2
      exact ⟨w.heap.size, _, e1.symm, hB, .inr (Nat.le_refl _)⟩
/-- One element more. -/
theorem AppD.push {B : Nat} {w w1 : World} {v v1 : Value} {T : TypeId} {z n g c : Nat} {l : List D} {Fs : List (List Nat)} {es : List (D × Value × List Nat)} (h : AppD B w T z v n l Fs) {xs : List Value} (hxs : w.ownsRow B T z v n xs) (he : ∀ e ∈ es, Own w e.1 e.2.1 e.2.2 ∧ ∀ b ∈ e.2.2, B ≤ b ∧ b < w.heap.size ∧ b ∉ Fs.flatten ∧ v.ownBlock ≠ some b) (hp : es.Pairwise (fun x y => Apart x.2.2 y.2.2))
    (hown : w1.ownsRow B T z v1 (n + 1) (xs ++ es.map fun e => e.2.1)) (hgr : w.grownBy w1 v.ownBlock) (hv : v1 = .slice (some ⟨g, 0, none⟩) (n + 1) c) (hg : v.ownBlock = some g ∨ w.heap.size ≤ g) : AppD B w1 T z v1 (n + 1) (l ++ es.map fun e => e.1) (Fs ++ es.map fun e => e.2.2) := by
  obtain ⟨⟨xs2, h1, h2, h3⟩, ⟨h4, h4'⟩, h5, h6⟩ := h
  obtain rfl : xs2 = xs := by
    apply List.ext_getElem?
    intro j
    by_cases hj : j < n * z
    · rcases hxs.2 with ⟨rfl, hn⟩ | ⟨g0, cap, cur, rfl, _⟩
      · subst hn; rw [Nat.zero_mul] at hj; omega
      · rw [← World.ownsRow.cellAt h1 j hj, ← World.ownsRow.cellAt hxs j hj]
    · rw [List.getElem?_eq_none (by rw [h1.1]; omega), List.getElem?_eq_none (by rw [hxs.1]; omega)]
  have hold : ∀ b ∈ Fs.flatten, w1.heap[b]? = w.heap[b]? := fun b hb => hgr.block b (h5 b hb).2 fun e => h6 b e.symm hb
  have hs := hgr.size
  refine ⟨⟨_, hown, by simp [h2], fun j d hj => ?_⟩, ⟨by simp [h4], ?_⟩, fun b hb => ?_, fun b e hb => ?_⟩
  · by_cases hjl : j < l.length
    · rw [List.getElem?_append_left hjl] at hj
      obtain ⟨u, G, e, hu, ho⟩ := h3 j d hj
      exact ⟨u, G, by rw [List.getElem?_append_left (by omega)]; exact e, by rw [List.getElem?_append_left (by omega)]; exact hu, Own.keep d u G (fun b hb => hold b (mem_at e hb)) ho⟩
    · rw [List.getElem?_append_right (by omega), List.getElem?_map] at hj
      obtain ⟨e, hej, rfl⟩ := Option.map_eq_some_iff.1 hj
      obtain ⟨k1, k2⟩ := he e (List.mem_of_getElem? hej)
      refine ⟨e.2.1, e.2.2, ?_, ?_, Own.keep _ _ _ (fun b hb => hgr.block b (k2 b hb).2.1 fun e5 => (k2 b hb).2.2.2 e5.symm) k1⟩
      · rw [List.getElem?_append_right (by omega), h4, List.getElem?_map, hej]; rfl
      · rw [List.getElem?_append_right (by omega), h2, List.getElem?_map, hej]; rfl
  · rw [List.pairwise_append]
    refine ⟨h4', List.pairwise_map.2 hp, fun F hF G hG b hb1 hb2 => ?_⟩
    obtain ⟨e, hem, rfl⟩ := List.mem_map.1 hG
    exact ((he e hem).2 b hb2).2.2.1 (List.mem_flatten.2 ⟨F, hF, hb1⟩)
  · rw [List.flatten_append] at hb
    rcases List.mem_append.1 hb with hb | hb
    · have := h5 b hb; omega
    · obtain ⟨K, hK, hb2⟩ := List.mem_flatten.1 hb
      obtain ⟨e, hem, rfl⟩ := List.mem_map.1 hK
      have := (he e hem).2 b hb2; omega
  · rw [hv] at e
    have e2 : g = b := Option.some.inj e
    subst e2
    rw [List.flatten_append] at hb
    rcases List.mem_append.1 hb with hb | hb
    · rcases hg with hg | hg
      · exact h6 _ hg hb
      · have := h5 _ hb; omega
    · obtain ⟨K, hK, hb2⟩ := List.mem_flatten.1 hb
      obtain ⟨e, hem, rfl⟩ := List.mem_map.1 hK
      rcases hg with hg | hg
      · exact ((he e hem).2 _ hb2).2.2.2 hg
      · have := (he e hem).2 _ hb2; omega
/-- append(row, element) as a step of a region. -/
theorem step_push {B : Nat} {w : World} {v : Value} {n z by' : Nat} {S T : TypeId} {i0 : TypeInfo} {zv : Value} (hS : Try.prog.underlying S = some (.slice T)) (hi : Try.prog.info? T = some i0) (hz0 : i0.zero = some zv) (hz1 : i0.size = z) (hz2 : i0.bytes = by') (hzc : zv.cells.size = z) (hzp : 0 < z) (hby : by' ≤ 256) {l : List D} {Fs : List (List Nat)} {ops : Array Oper} {o : Oper} {a : Act} {K : Act → World → Prop} {Q : Exit → Act → World → Prop} {E : Prop} (hgd : o.guard = none) (s x : Operand)
    (ho : o.op = .call { callee := .builtin .append, args := #[s, x], argTypes := #[S, S] }) (hs : a.eval s = v) (h : AppD B w T z v n l Fs) (ad : Addr) (c : Nat) (hx : a.eval x = .slice (some ad) 1 c) (es : List (D × Value × List Nat)) (hl : es.length = z) (hnews : ∀ j u, (es.map fun e => e.2.1)[j]? = some u → w.cell? (ad.add j) = some u) (hr : ∀ e ∈ es, e.1.real) (he : ∀ e ∈ es, Own w e.1 e.2.1 e.2.2 ∧ ∀ b ∈ e.2.2, B ≤ b ∧ b < w.heap.size ∧ b ∉ Fs.flatten ∧ v.ownBlock ≠ some b) (hp : es.Pairwise (fun x y => Apart x.2.2 y.2.2)) (hn : n ≤ 1048577) (hB : B ≤ w.heap.size)
    (hK : ∀ w' g c', AppD B w' T z (.slice (some ⟨g, 0, none⟩) (n + 1) c') (n + 1) (l ++ es.map fun e => e.1) (Fs ++ es.map fun e => e.2.2) → Below B w w' → (∀ b, b < w.heap.size → v.ownBlock ≠ some b → w'.heap[b]? = w.heap[b]?) → K (a.put o.dst (.slice (some ⟨g, 0, none⟩) (n + 1) c')) w') :
    if Region.wanted o (yielded ops a.tmps) = true then Oper.wp Try.prog o a w K Q else E := by
  have hw : Region.wanted o (yielded ops a.tmps) = true := by simp [Region.wanted, hgd]
  rw [if_pos hw]
  obtain ⟨xs, hown, _⟩ := h.1
  obtain ⟨v', w', hr', h2, h3, g, c', rfl, h4, h5⟩ := append_row hS hi hz0 hz1 hz2 hzc hzp hby o.type hown ad c (es.map fun e => e.2.1) (by rw [List.length_map, hl]) hnews (fun u hu => by obtain ⟨e, hem, rfl⟩ := List.mem_map.1 hu; exact is_one (he e hem).1.is (hr e hem)) hn hB
  unfold Oper.wp execOp
  simp only [ho, resolve, invoke, builtin, Sem.run_bind, Sem.run_pure, Result.andThen_ok, List.map_toArray, List.map_cons, List.map_nil, hs, hx, hr']
  exact hK w' g c' (h.push hown he hp h2 h3 rfl h5) ((Below.refl _ _).grown h3 hB (fun k e => (row_lt hown e).1)) (fun b hb1 hb2 => h3.block b hb1 fun e => hb2 e.symm)
end Go.Proofs.Ytiiogpafgoeblaa
/- EraseLines of the reference model. No conditions. -/
namespace Go.Proofs.Ytiiogpafgoeblaa
open Go.RowKit
set_option linter.unusedVariables false

def SerT (t : Ex.T) : Prop := t.bulk ≤ 1048576 → ∀ (w : World) (v : Value), Kids w v t.kids → Calls Try.prog 20 #[exV t v] w (RetE w t.erase)
theorem step_erase {t : Ex.T} {u : Value} {w : World} {ops : Array Oper} {o : Oper} {a : Act} {K : Act → World → Prop} {Q : Exit → Act → World → Prop} {E : Prop} (hgd : o.guard = none) (x : Operand)
    (ho : o.op = .call { callee := .value (.func 20), args := #[x], argTypes := #[45] }) (hx : a.eval x = u) (hc : Calls Try.prog 20 #[u] w (RetE w t))
    (h : ∀ v F w', OwnK w' v t.kids F → Foot w.heap.size w' F → Below w.heap.size w w' → K (a.put o.dst (exV t v)) w') : if Region.wanted o (yielded ops a.tmps) = true then Oper.wp Try.prog o a w K Q else E := by
  have hw : Region.wanted o (yielded ops a.tmps) = true := by simp [Region.wanted, hgd]
  rw [if_pos hw]
  have hen : (execOp a.eval o).run Try.prog w = .ok (.enter 20 #[u]) w := by
    unfold execOp
    rw [ho]
    unfold Act.eval at hx
    go_simp
    simpa using hx
  unfold Oper.wp
  rw [hen, Oper.upon_enter]
  exact hc.mono fun e w' ⟨v, F, h1, h2, h3, h4⟩ => by subst h1; exact h v F w' h2 h3 h4
theorem CellsE.keep {w w' : World} {b : Nat} {t : Ex.T} {v : Value} (h : CellsE w b t v) (hh : w'.heap[b]? = w.heap[b]?) : CellsE w' b t v := by
  obtain ⟨a0, a1, a2, a3, a4⟩ := h
  exact ⟨(cell_keep hh 0).trans a0, (cell_keep hh 1).trans a1, (cell_keep hh 2).trans a2, (cell_keep hh 3).trans a3, (cell_keep hh 4).trans a4⟩
abbrev iexN (t : Ex.T) (v : Value) : Obj := .cells #[.int .i64 t.kind, .string t.text, .int .i64 t.num, .int .i64 t.line, v] 45
theorem ser_next {w wr w6 w8 : World} {t x : Ex.T} {A v v6 : Value} {ld : List El} {g8 c8 : Nat} {F6 : List Nat} {pre : List Ex.T}
    (ha : CellsE wr w.heap.size t A) (hg : FreeE wr (w.heap.size + 1) 0 ⟨#[]⟩ 0 0 (.slice none 0 0)) (hf8 : FreeE w8 (w.heap.size + 1 + 1) t.kind t.text t.num 0 v) (hap : AppK (w.heap.size + 3) wr v ld) (hld : ld.map Prod.fst = pre) (hb : Below w.heap.size w wr) (hlt : w.heap.size + 3 ≤ wr.heap.size)
    (o6 : OwnK w6 v6 x.kids F6) (f6 : Foot wr.drew.heap.size w6 F6) (b6 : Below wr.heap.size wr w6)
    (hown : w8.ownsRow (w.heap.size + 3) 45 5 (.slice (some ⟨g8, 0, none⟩) (ld.length + 1) c8) (ld.length + 1) (rowV ld ++ rowV [(x, v6, F6)])) (hgr : (w6.alloc (iexN x v6)).grownBy w8 v.ownBlock) (hor : v.ownBlock = some g8 ∨ (w6.alloc (iexN x v6)).heap.size ≤ g8) :
    CellsE (w8.setCell ⟨w.heap.size + 1 + 1, 4, none⟩ (.slice (some ⟨g8, 0, none⟩) (ld.length + 1) c8)) w.heap.size t A ∧ FreeE (w8.setCell ⟨w.heap.size + 1 + 1, 4, none⟩ (.slice (some ⟨g8, 0, none⟩) (ld.length + 1) c8)) (w.heap.size + 1) 0 ⟨#[]⟩ 0 0 (.slice none 0 0) ∧
    FreeE (w8.setCell ⟨w.heap.size + 1 + 1, 4, none⟩ (.slice (some ⟨g8, 0, none⟩) (ld.length + 1) c8)) (w.heap.size + 1 + 1) t.kind t.text t.num 0 (.slice (some ⟨g8, 0, none⟩) (ld.length + 1) c8) ∧ AppK (w.heap.size + 3) (w8.setCell ⟨w.heap.size + 1 + 1, 4, none⟩ (.slice (some ⟨g8, 0, none⟩) (ld.length + 1) c8)) (.slice (some ⟨g8, 0, none⟩) (ld.length + 1) c8) (ld ++ [(x, v6, F6)]) ∧
    (ld ++ [(x, v6, F6)]).map Prod.fst = pre ++ [x] ∧ Below w.heap.size w (w8.setCell ⟨w.heap.size + 1 + 1, 4, none⟩ (.slice (some ⟨g8, 0, none⟩) (ld.length + 1) c8)) := by
  have b7 : Below wr.heap.size wr (w6.alloc (iexN x v6)) := b6.alloc b6.size _
  have hsz : (w6.alloc (iexN x v6)).heap.size = w6.heap.size + 1 := by simp
  have hs6 := b6.size
  have hs8 := hgr.size
  have hap7 := hap.later b7
  have old : ∀ b, b < w.heap.size + 3 → w8.heap[b]? = wr.heap[b]? := fun b hb2 => by
    rw [hgr.block b (by omega) (fun e => by have h1 := (ownBlock_lt hap.1 e.symm).1; omega), b7.block b (by omega)]
  have hset : ∀ b, b ≠ w.heap.size + 1 + 1 → ∀ u : Value, (w8.setCell ⟨w.heap.size + 1 + 1, 4, none⟩ u).heap[b]? = w8.heap[b]? := fun b hb2 u => Below.heap_setCell w8 _ u b hb2
  refine ⟨ha.keep ((hset _ (by omega) _).trans (old _ (by omega))), hg.keep ((hset _ (by omega) _).trans (old _ (by omega))), hf8.fifth _, ?_, by rw [List.map_append, hld]; rfl, ?_⟩
  · refine AppK.set (AppK.push (p := (x, v6, F6)) hap7 (OwnK.keep _ (fun b hb2 => ?_) o6) (fun b hb2 => ?_) hown hgr rfl hor) (by omega) _ _
    · have := f6 b hb2
      exact (bl1 w6 _).block b this.2
    · have h1 := f6 b hb2
      have h2 : wr.drew.heap.size = wr.heap.size := rfl
      rw [h2] at h1
      refine ⟨by omega, by omega, fun h3 => ?_, fun e => ?_⟩
      · have := hap.2.2.1 b h3; omega
      · have := (ownBlock_lt hap.1 e).2; omega
  · have h9 : Below w.heap.size w w8 := (hb.trans (b7.mono hb.size)).grown hgr (by have := hb.size; omega) (fun k e => by have := (ownBlock_lt hap.1 e).1; omega)
    exact h9.setCell (p := ⟨w.heap.size + 1 + 1, 4, none⟩) (by show _ ≤ _ + 1 + 1; omega) _
set_option maxRecDepth 100000 in
set_option maxHeartbeats 3200000 in
theorem spec_erase : ∀ (N : Nat) (t : Ex.T), t.count ≤ N → SerT t := by
  intro N
  induction N with
  | zero => intro t h; have := Ex.count_pos t; omega
  | succ N ih =>
    intro t hN hb w v hk
    have hbe := bulk_eq t
    obtain ⟨a, c, rfl⟩ := kids_len hk
    have HI := Lib.hid (fun (x : Ex.T) (hx : x ∈ t.kids) => ih x (by have := kids_count hx; omega) (by have := Ex.bulks_mem hx; omega))
    have HK := Lib.hid hk
    have hln : t.kids.length ≤ 1048576 := by omega
    clear ih hN hb hk hbe
    go_enter Try.func20, Try.ntmps20
    go_wp2
    have HA0 := Lib.hid (((CellsE.new w t (.slice a t.kids.length c) 45).later (bl1 _ (.cells #[.int .i64 0, .string ⟨#[]⟩, .int .i64 0, .int .i64 0, .slice none 0 0] 45))).later (bl1 _ (.cells #[.int .i64 t.kind, .string t.text, .int .i64 t.num, .int .i64 0, .slice none 0 0] 45)))
    have hG0 := (FreeE.new (w.alloc (.cells #[.int .i64 t.kind, .string t.text, .int .i64 t.num, .int .i64 t.line, .slice a t.kids.length c] 45)) 0 ⟨#[]⟩ 0 0 (.slice none 0 0) 45).later (bl1 _ (.cells #[.int .i64 t.kind, .string t.text, .int .i64 t.num, .int .i64 0, .slice none 0 0] 45))
    have hF0 := FreeE.new ((w.alloc (.cells #[.int .i64 t.kind, .string t.text, .int .i64 t.num, .int .i64 t.line, .slice a t.kids.length c] 45)).alloc (.cells #[.int .i64 0, .string ⟨#[]⟩, .int .i64 0, .int .i64 0, .slice none 0 0] 45)) t.kind t.text t.num 0 (.slice none 0 0) 45
    simp only [World.size_alloc] at hG0 hF0
    have HG0 := Lib.hid hG0
    have HF0 := Lib.hid hF0
    have HB0 := Lib.hid ((bl2 w (.cells #[.int .i64 t.kind, .string t.text, .int .i64 t.num, .int .i64 t.line, .slice a t.kids.length c] 45) (.cells #[.int .i64 0, .string ⟨#[]⟩, .int .i64 0, .int .i64 0, .slice none 0 0] 45)).trans ((bl1 _ (.cells #[.int .i64 t.kind, .string t.text, .int .i64 t.num, .int .i64 0, .slice none 0 0] 45)).mono (by simp; omega)))
    clear hG0 hF0
    go_loopw [4] (fun i wr => ∃ (k : Nat) (v : Value) (ld : List El), i = .int .i64 k ∧ k ≤ t.kids.length ∧ CellsE wr w.heap.size t (.slice a t.kids.length c) ∧ FreeE wr (w.heap.size + 1) 0 ⟨#[]⟩ 0 0 (.slice none 0 0) ∧ FreeE wr (w.heap.size + 1 + 1) t.kind t.text t.num 0 v ∧ AppK (w.heap.size + 3) wr v ld ∧ ld.map Prod.fst = (t.kids.take k).map Ex.T.erase ∧ Below w.heap.size w wr) (fun i _ => t.kids.length - (intOf i).toNat)
    case atStart => exact ⟨0, _, [], rfl, Nat.zero_le _, HA0.out, HG0.out, HF0.out, AppK.nil _ _, by simp, HB0.out⟩
    case round =>
      clear HA0 HG0 HF0 HB0
      obtain ⟨k, v, ld, rfl, hk, ha, hg, hf, hap, hld, hb⟩ := hrel
      obtain ⟨av, nv, cv, rfl⟩ := hap.slice
      have HA := Lib.hid ha
      have HG := Lib.hid hg
      have HF := Lib.hid hf
      have HAP := Lib.hid hap
      have HLD := Lib.hid hld
      have HB := Lib.hid hb
      have HK2 := Lib.hid (HK.out.later hb)
      have HLT := Lib.hid (show w.heap.size + 3 ≤ wr.heap.size by have h1 := hf.lt; omega)
      have HLEN := Lib.hid (show ld.length = k by have h1 := congrArg List.length hld; rw [List.length_map, List.length_map, List.length_take] at h1; omega)
      obtain ⟨_, _, _, _, p4⟩ := ha
      obtain ⟨⟨_, _, _, _, r4⟩, _, _, _, _, s4⟩ := hf
      clear hg hap hld hb
      by_cases hlt : k < t.kids.length
      · obtain ⟨g, o, rfl, ht⟩ := kids_at HK2.out k hlt
        obtain ⟨⟨q0, q1, q2, q3⟩, v3, q4, hkv⟩ := tree_cells ht
        have HC := Lib.hid (HI.out t.kids[k] (List.getElem_mem hlt) wr.drew v3 (hkv.later (Below.refl _ _).drew))
        have HTK : Hid ((t.kids.take (k + 1)).map Ex.T.erase = (t.kids.take k).map Ex.T.erase ++ [t.kids[k].erase]) := Lib.hid (by rw [List.take_succ_eq_append_getElem hlt, List.map_append]; rfl)
        have k0 : (0 : Int) ≤ k := by omega
        have k1 : (k : Int) < t.kids.length := by omega
        clear ht hkv
        generalize t.kids[k] = x at q0 q1 q2 q3 HC HTK
        go_wp2_with fail
        go_region_law (first
          | (refine step_erase rfl (.tmp 25) rfl (by simp [Act.eval]) HC.out ?_; intro v6 F6 w6 o6 g6 b6; obtain ⟨z6, d6, rfl⟩ := kids_len (OwnK.kids _ o6); have bb6 : Below wr.heap.size wr w6 := ⟨b6.os, b6.tape, b6.output, b6.size, b6.block⟩; have HAP6 := Lib.hid (HAP.out.later bb6); have HF6 := Lib.hid (HF.out.later bb6); have O6 := Lib.hid o6; have G6 := Lib.hid g6; have BB6 := Lib.hid bb6; have r46 := (HF6.out).1.2.2.2.2; have r47 := (HF6.out.later (bl1 w6 (.cells #[.int .i64 x.erase.kind, .string x.erase.text, .int .i64 x.erase.num, .int .i64 x.erase.line, .slice z6 x.erase.kids.length d6] 45))).1.2.2.2.2; clear o6 g6 b6 bb6)
          | (refine step_append_kid (B := w.heap.size + 3) rfl (.tmp 20) (.tmp 27) rfl (by simp [Act.eval]) (HAP6.out.later (bl1 w6 (.cells #[.int .i64 x.erase.kind, .string x.erase.text, .int .i64 x.erase.num, .int .i64 x.erase.line, .slice z6 x.erase.kids.length d6] 45))).1 ⟨w6.heap.size, 0, none⟩ 1 (rowV [(x.erase, .slice z6 x.erase.kids.length d6, F6)]) (by simp [Act.eval]) rfl (fun j u hj => rowCells_get (new_row w6 x.erase (.slice z6 x.erase.kids.length d6) F6) j u hj) row_one (by have := HLEN.out; omega) (by have := HLT.out; have h2 := BB6.out.size; simp; omega) ?_; intro w8 g8 c8 hown8 hgr8 hg8 hor8; have hap7 := HAP6.out.later (bl1 w6 (.cells #[.int .i64 x.erase.kind, .string x.erase.text, .int .i64 x.erase.num, .int .i64 x.erase.line, .slice z6 x.erase.kids.length d6] 45)); have hf7 := HF6.out.later (bl1 w6 (.cells #[.int .i64 x.erase.kind, .string x.erase.text, .int .i64 x.erase.num, .int .i64 x.erase.line, .slice z6 x.erase.kids.length d6] 45)); have hf8 := hf7.keep (hgr8.block _ hf7.lt (fun e => by have h1 := (ownBlock_lt hap7.1 e.symm).1; omega)); have HF8 := Lib.hid hf8; obtain ⟨⟨_, _, _, _, r48⟩, _, _, _, _, s48⟩ := hf8; have HO8 := Lib.hid hown8; have HGR8 := Lib.hid hgr8; have HG8 := Lib.hid hg8; have HOR8 := Lib.hid hor8; clear hap7 hf7 hown8 hgr8 hg8 hor8))
        all_goals
          have HN := Lib.hid (ser_next HA.out HG.out HF8.out HAP.out HLD.out HB.out HLT.out O6.out G6.out BB6.out HO8.out HGR8.out HOR8.out)
          clear HF8 HO8 HGR8 HG8 HOR8 r48 s48 O6 G6 BB6 HAP6 HF6 r46 r47 q0 q1 q2 q3 q4 p4 r4 s4
          go_wp2
          go_roundw
          case rel => exact ⟨k + 1, _, _, by go_num, by omega, HN.out.1, HN.out.2.1, HN.out.2.2.1, HN.out.2.2.2.1, by rw [HN.out.2.2.2.2.1, HTK.out], HN.out.2.2.2.2.2⟩
          case measure => first | (simp [intOf]; done) | (simp [intOf]; omega)
      · obtain rfl : k = t.kids.length := by omega
        obtain ⟨F, hK, hF⟩ := HAP.out.done
        have HKD := Lib.hid hK
        have HFD := Lib.hid hF
        have HLE : Hid (ld.map Prod.fst = t.erase.kids) := Lib.hid (by rw [HLD.out, List.take_length, Ex.erase_kids, Ex.erases_map])
        obtain ⟨⟨f0, f1, f2, f3, f4⟩, _, _, _, _, _⟩ := HF.out
        obtain ⟨⟨g0, g1, g2, g3, g4⟩, j0, j1, j2, j3, j4⟩ := HG.out
        have hlw := HLT.out
        clear hK hF
        go_wp2
        refine bodyPost_ret (v := .agg #[.int .i64 t.kind, .string t.text, .int .i64 t.num, .int .i64 0, .slice av nv cv]) (by simp [results, Try.results20, go_sem, g0, g1, g2, g3, g4]) rfl ⟨.slice av nv cv, F, by dsimp only [exV]; rw [Ex.erase_kind, Ex.erase_text, Ex.erase_num, Ex.erase_line], ?_, fun b hb => ?_, ?_⟩
        · rw [← HLE.out]
          refine OwnK.keep _ (fun b hb => ?_) HKD.out
          have h1 := (HFD.out b hb).1
          rw [Below.heap_setCell _ _ _ _ (show b ≠ w.heap.size + 1 by omega), Below.heap_setCell _ _ _ _ (show b ≠ w.heap.size + 1 by omega), Below.heap_setCell _ _ _ _ (show b ≠ w.heap.size + 1 by omega), Below.heap_setCell _ _ _ _ (show b ≠ w.heap.size + 1 by omega), Below.heap_setCell _ _ _ _ (show b ≠ w.heap.size + 1 by omega)]
        · have h1 := HFD.out b hb
          refine ⟨by omega, ?_⟩
          simpa [World.setCell] using h1.2
        · exact ((((HB.out.setCell (p := ⟨w.heap.size + 1, 0, none⟩) (Nat.le_succ _) _).setCell (p := ⟨w.heap.size + 1, 1, none⟩) (Nat.le_succ _) _).setCell (p := ⟨w.heap.size + 1, 2, none⟩) (Nat.le_succ _) _).setCell (p := ⟨w.heap.size + 1, 3, none⟩) (Nat.le_succ _) _).setCell (p := ⟨w.heap.size + 1, 4, none⟩) (Nat.le_succ _) _
end Go.Proofs.Ytiiogpafgoeblaa
