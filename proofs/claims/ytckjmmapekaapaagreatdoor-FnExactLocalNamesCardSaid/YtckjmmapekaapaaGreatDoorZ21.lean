/- Joined texts: U15, V4. No conditions besides those that each states. -/
import Derived.Test.YtckjmmapekaapaaGreatDoorZ17
import Derived.Test.YtckjmmapekaapaaGreatDoorZ20
/- Rows of structs that grow by append. No conditions. -/
namespace Go.Proofs.YtckjmmapekaapaaGreatDoor
open Go.RowKit
set_option linter.unusedVariables false

/-- A row that grows: its cells, their slices in blocks of their own. -/
def AppD (B : Nat) (w : World) (T : TypeId) (z : Nat) (v : Value) (n : Nat) (l : List D) (Fs : List (List Nat)) : Prop := (∃ xs : List Value, w.ownsRow B T z v n xs ∧ xs.length = l.length ∧ ∀ (j : Nat) (d : D), l[j]? = some d → ∃ (u : Value) (G : List Nat), Fs[j]? = some G ∧ xs[j]? = some u ∧ Own w d u G) ∧ (Fs.length = l.length ∧ Fs.Pairwise Apart) ∧ (∀ b ∈ Fs.flatten, B ≤ b ∧ b < w.heap.size) ∧ ∀ g, v.ownBlock = some g → g ∉ Fs.flatten
theorem AppD.nil (B : Nat) (w : World) (T : TypeId) (z : Nat) : AppD B w T z (.slice none 0 0) 0 [] [] := ⟨⟨[], World.ownsRow_nil w B _ _, rfl, fun j d h => by simp at h⟩, ⟨rfl, List.Pairwise.nil⟩, (fun b h => by simp at h), fun g h => by cases h⟩
theorem row_keep {B n z : Nat} {T : TypeId} {w w1 : World} {v : Value} {xs : List Value} (h : w.ownsRow B T z v n xs) (hb : ∀ b, v.ownBlock = some b → w1.heap[b]? = w.heap[b]?) : w1.ownsRow B T z v n xs := by
  refine ⟨h.1, ?_⟩
  rcases h.2 with hn | ⟨g2, cap2, cur, rfl, hg, hgg, r⟩
  · exact .inl hn
  · exact .inr ⟨g2, cap2, cur, rfl, hg, by rw [hb g2 rfl]; exact hgg, r⟩
theorem row_lt {B n z : Nat} {T : TypeId} {w : World} {v : Value} {xs : List Value} (h : w.ownsRow B T z v n xs) {b : Nat} (hb : v.ownBlock = some b) : B ≤ b ∧ b < w.heap.size := World.ownsRow.lt h b hb
theorem AppD.keep {B : Nat} {w w1 : World} {T : TypeId} {z n : Nat} {v : Value} {l : List D} {Fs : List (List Nat)} (h : AppD B w T z v n l Fs) (hs : w.heap.size ≤ w1.heap.size) (hb : ∀ b, B ≤ b → b < w.heap.size → w1.heap[b]? = w.heap[b]?) : AppD B w1 T z v n l Fs := by
  obtain ⟨⟨xs, h1, h2, h3⟩, h4, h5, h6⟩ := h
  refine ⟨⟨xs, row_keep h1 fun b e => hb b (row_lt h1 e).1 (row_lt h1 e).2, h2, fun j d hj => ?_⟩, h4, fun b hF => ⟨(h5 b hF).1, Nat.lt_of_lt_of_le (h5 b hF).2 hs⟩, h6⟩
  obtain ⟨u, G, e, hu, ho⟩ := h3 j d hj
  exact ⟨u, G, e, hu, Own.keep d u G (fun b hbG => hb b (h5 b (mem_at e hbG)).1 (h5 b (mem_at e hbG)).2) ho⟩
theorem AppD.later {B : Nat} {w w1 : World} {T : TypeId} {z n : Nat} {v : Value} {l : List D} {Fs : List (List Nat)} (h : AppD B w T z v n l Fs) (hb : Below w.heap.size w w1) : AppD B w1 T z v n l Fs := h.keep hb.size fun b _ hlt => hb.block b hlt
theorem AppD.set {B C : Nat} {w : World} {T : TypeId} {z n : Nat} {v : Value} {l : List D} {Fs : List (List Nat)} (h : AppD B w T z v n l Fs) (hC : C < B) (o : Nat) (u : Value) : AppD B (w.setCell ⟨C, o, none⟩ u) T z v n l Fs := h.keep (by simp [World.setCell]) fun b hb _ => Below.heap_setCell w ⟨C, o, none⟩ u b (show b ≠ C by omega)
theorem AppD.slice {B : Nat} {w : World} {T : TypeId} {z n : Nat} {v : Value} {l : List D} {Fs : List (List Nat)} (h : AppD B w T z v n l Fs) : ∃ a n c, v = .slice a n c := by
  rcases h.1.choose_spec.1.2 with ⟨rfl, _⟩ | ⟨g2, cap2, cur, rfl, _⟩
  · exact ⟨_, _, _, rfl⟩
  · exact ⟨_, _, _, rfl⟩
theorem AppD.done {B : Nat} {w : World} {T : TypeId} {z n : Nat} {v : Value} {l : List D} {Fs : List (List Nat)} (h : AppD B w T z v n l Fs) (hz : 0 < z) : ∃ F, Own w (.row n l) v F ∧ Foot B w F := by
  obtain ⟨⟨xs, h1, h2, h3⟩, ⟨h4, h4'⟩, h5, h6⟩ := h
  by_cases h0 : l = []
  · subst h0
    have hn : n = 0 := by
      have e := h1.1
      rw [h2] at e
      rcases Nat.mul_eq_zero.1 e.symm with h | h
      · exact h
      · omega
    subst hn
    rcases h1.2 with ⟨rfl, _⟩ | ⟨g, cap, cur, rfl, _⟩
    · exact ⟨[], own_nil, fun b hb => by cases hb⟩
    · exact ⟨[], own_nil, fun b hb => by cases hb⟩
  · have hxl := h1.1
    rcases id h1.2 with ⟨_, hn⟩ | ⟨g, cap, cur, rfl, hg, _, hcap, _⟩
    · subst hn
      rw [Nat.zero_mul, h2] at hxl
      exact absurd (List.length_eq_zero_iff.1 hxl) h0
    · have hr : RowD w g 0 l Fs := ⟨⟨h6 g rfl, h4'⟩, h4, fun j d hj => by
        obtain ⟨u, G, e, hu, ho⟩ := h3 j d hj
        have hjl : j < n * z := by rw [← hxl]; exact (List.getElem?_eq_some_iff.1 hu).1
        refine ⟨u, G, e, ?_, World.ownsRow.frozenAt h1 _, ho⟩
        rw [Nat.zero_add, World.ownsRow.cellAt h1 j hjl, hu]⟩
      refine ⟨_, own_of_rowD hr h0 hcap, fun b hb => ?_⟩
      rcases List.mem_cons.1 hb with rfl | hb
      · exact ⟨hg, (row_lt h1 rfl).2⟩
      · exact h5 b hb
/-- What append does to a row of its own. -/
theorem append_row {B : Nat} {w : World} {v : Value} {n z by' : Nat} {S E : TypeId} {i0 : TypeInfo} {zv : Value} (hS : Tryz.prog.underlying S = some (.slice E)) (hi : Tryz.prog.info? E = some i0) (hz0 : i0.zero = some zv) (hz1 : i0.size = z) (hz2 : i0.bytes = by') (hzc : zv.cells.size = z) (hzp : 0 < z) (hby : by' ≤ 256) {xs : List Value} (ty : TypeId) (hown : w.ownsRow B E z v n xs) (ad : Addr) (c : Nat) (news : List Value) (hl : news.length = z) (hnews : ∀ j u, news[j]? = some u → w.cell? (ad.add j) = some u) (h1 : ∀ u ∈ news, u.oneCell' = true) (hn : n ≤ 1048577) (hB : B ≤ w.heap.size) :
    ∃ v' w', (Builtin.append_ #[S, S] ty #[v, .slice (some ad) 1 c]).run Tryz.prog w = .ok v' w' ∧ w'.ownsRow B E z v' (n + 1) (xs ++ news) ∧ w.grownBy w' v.ownBlock ∧ ∃ g c', v' = .slice (some ⟨g, 0, none⟩) (n + 1) c' ∧ B ≤ g ∧ (v.ownBlock = some g ∨ w.heap.size ≤ g) := by
  have hbb : (n + 1) * by' ≤ 140737488355328 := Nat.le_trans (Nat.mul_le_mul (by omega : n + 1 ≤ 1048578) hby) (by decide)
  obtain ⟨v', w', hr, h2, h3, _⟩ := run_append_own (P := Tryz.prog) w B S ty E i0 zv z by' hS hi hz0 hz1 hz2 hzc hzp v n xs hown ad 1 c news (by rw [hl]; omega) hnews h1 (by unfold maxLen; omega) hbb hB
  refine ⟨v', w', hr, h2, h3, ?_⟩
  rcases hown.2 with ⟨rfl, hn0⟩ | ⟨g, cap, cur, rfl, hbg, hg, hnc, hcm, hcs, htake⟩
  · have hr2 := run_append_nil (P := Tryz.prog) w S ty E i0 _ hS hi hz0 ad 1 c news (by rw [hl, hz1]; omega) hnews (by omega) (by omega) (by rw [hz2]; omega)
    rw [hr2] at hr
    injection hr with e1 e2
    subst hn0
    exact ⟨w.heap.size, _, e1.symm, hB, .inr (Nat.le_refl _)⟩
  · by_cases hroom : n + 1 ≤ cap
    · have hr2 := run_append_room (P := Tryz.prog) w S ty E i0 hS hi g n cap cur hg ad 1 c news (by rw [hl, hz1]; omega) hnews h1 hroom (by rw [hl, hz1, hcs, ← Nat.succ_mul]; exact Nat.mul_le_mul_right _ hroom)
      rw [hr2] at hr
      injection hr with e1 e2
      exact ⟨g, _, e1.symm, hbg, .inl rfl⟩
    · have hr2 := run_append_grow (P := Tryz.prog) w S ty E i0 _ hS hi hz0 ⟨g, 0, none⟩ n cap xs (by rw [hown.1, hz1]) (fun j u h => hown.cells (g := g) rfl j u h) ad 1 c news (by rw [hl, hz1]; omega) hnews (by omega) (by omega) (growslice_fits (by omega) (by rw [hz2]; exact hbb))
      rw [hr2] at hr
      injection hr with e1 e2
      exact ⟨w.heap.size, _, e1.symm, hB, .inr (Nat.le_refl _)⟩
/-- One element more. -/
theorem AppD.push {B : Nat} {w w1 : World} {v v1 : Value} {T : TypeId} {z n g c : Nat} {l : List D} {Fs : List (List Nat)} {es : List (D × Value × List Nat)} (h : AppD B w T z v n l Fs) {xs : List Value} (hxs : w.ownsRow B T z v n xs) (he : ∀ e ∈ es, Own w e.1 e.2.1 e.2.2 ∧ ∀ b ∈ e.2.2, B ≤ b ∧ b < w.heap.size ∧ b ∉ Fs.flatten ∧ v.ownBlock ≠ some b) (hp : es.Pairwise (fun x y => Apart x.2.2 y.2.2))
    (hown : w1.ownsRow B T z v1 (n + 1) (xs ++ es.map fun e => e.2.1)) (hgr : w.grownBy w1 v.ownBlock) (hv : v1 = .slice (some ⟨g, 0, none⟩) (n + 1) c) (hg : v.ownBlock = some g ∨ w.heap.size ≤ g) : AppD B w1 T z v1 (n + 1) (l ++ es.map fun e => e.1) (Fs ++ es.map fun e => e.2.2) := by
  obtain ⟨⟨xs2, h1, h2, h3⟩, ⟨h4, h4'⟩, h5, h6⟩ := h
  obtain rfl : xs2 = xs := by
    apply List.ext_getElem?
    intro j
    by_cases hj : j < n * z
    · rcases hxs.2 with ⟨rfl, hn⟩ | ⟨g0, cap, cur, rfl, _⟩
      · subst hn; rw [Nat.zero_mul] at hj; omega
      · rw [← World.ownsRow.cellAt h1 j hj, ← World.ownsRow.cellAt hxs j hj]
    · rw [List.getElem?_eq_none (by rw [h1.1]; omega), List.getElem?_eq_none (by rw [hxs.1]; omega)]
  have hold : ∀ b ∈ Fs.flatten, w1.heap[b]? = w.heap[b]? := fun b hb => hgr.block b (h5 b hb).2 fun e => h6 b e.symm hb
  have hs := hgr.size
  refine ⟨⟨_, hown, by simp [h2], fun j d hj => ?_⟩, ⟨by simp [h4], ?_⟩, fun b hb => ?_, fun b e hb => ?_⟩
  · by_cases hjl : j < l.length
    · rw [List.getElem?_append_left hjl] at hj
      obtain ⟨u, G, e, hu, ho⟩ := h3 j d hj
      exact ⟨u, G, by rw [List.getElem?_append_left (by omega)]; exact e, by rw [List.getElem?_append_left (by omega)]; exact hu, Own.keep d u G (fun b hb => hold b (mem_at e hb)) ho⟩
    · rw [List.getElem?_append_right (by omega), List.getElem?_map] at hj
      obtain ⟨e, hej, rfl⟩ := Option.map_eq_some_iff.1 hj
      obtain ⟨k1, k2⟩ := he e (List.mem_of_getElem? hej)
      refine ⟨e.2.1, e.2.2, ?_, ?_, Own.keep _ _ _ (fun b hb => hgr.block b (k2 b hb).2.1 fun e5 => (k2 b hb).2.2.2 e5.symm) k1⟩
      · rw [List.getElem?_append_right (by omega), h4, List.getElem?_map, hej]; rfl
      · rw [List.getElem?_append_right (by omega), h2, List.getElem?_map, hej]; rfl
  · rw [List.pairwise_append]
    refine ⟨h4', List.pairwise_map.2 hp, fun F hF G hG b hb1 hb2 => ?_⟩
    obtain ⟨e, hem, rfl⟩ := List.mem_map.1 hG
    exact ((he e hem).2 b hb2).2.2.1 (List.mem_flatten.2 ⟨F, hF, hb1⟩)
  · rw [List.flatten_append] at hb
    rcases List.mem_append.1 hb with hb | hb
    · have := h5 b hb; omega
    · obtain ⟨K, hK, hb2⟩ := List.mem_flatten.1 hb
      obtain ⟨e, hem, rfl⟩ := List.mem_map.1 hK
      have := (he e hem).2 b hb2; omega
  · rw [hv] at e
    have e2 : g = b := Option.some.inj e
    subst e2
    rw [List.flatten_append] at hb
    rcases List.mem_append.1 hb with hb | hb
    · rcases hg with hg | hg
      · exact h6 _ hg hb
      · have := h5 _ hb; omega
    · obtain ⟨K, hK, hb2⟩ := List.mem_flatten.1 hb
      obtain ⟨e, hem, rfl⟩ := List.mem_map.1 hK
      rcases hg with hg | hg
      · exact ((he e hem).2 _ hb2).2.2.2 hg
      · have := (he e hem).2 _ hb2; omega
/-- append(row, element) as a step of a region. -/
theorem step_push {B : Nat} {w : World} {v : Value} {n z by' : Nat} {S T : TypeId} {i0 : TypeInfo} {zv : Value} (hS : Tryz.prog.underlying S = some (.slice T)) (hi : Tryz.prog.info? T = some i0) (hz0 : i0.zero = some zv) (hz1 : i0.size = z) (hz2 : i0.bytes = by') (hzc : zv.cells.size = z) (hzp : 0 < z) (hby : by' ≤ 256) {l : List D} {Fs : List (List Nat)} {ops : Array Oper} {o : Oper} {a : Act} {K : Act → World → Prop} {Q : Exit → Act → World → Prop} {E : Prop} (hgd : o.guard = none) (s x : Operand)
    (ho : o.op = .call { callee := .builtin .append, args := #[s, x], argTypes := #[S, S] }) (hs : a.eval s = v) (h : AppD B w T z v n l Fs) (ad : Addr) (c : Nat) (hx : a.eval x = .slice (some ad) 1 c) (es : List (D × Value × List Nat)) (hl : es.length = z) (hnews : ∀ j u, (es.map fun e => e.2.1)[j]? = some u → w.cell? (ad.add j) = some u) (hr : ∀ e ∈ es, e.1.real) (he : ∀ e ∈ es, Own w e.1 e.2.1 e.2.2 ∧ ∀ b ∈ e.2.2, B ≤ b ∧ b < w.heap.size ∧ b ∉ Fs.flatten ∧ v.ownBlock ≠ some b) (hp : es.Pairwise (fun x y => Apart x.2.2 y.2.2)) (hn : n ≤ 1048577) (hB : B ≤ w.heap.size)
    (hK : ∀ w' g c', AppD B w' T z (.slice (some ⟨g, 0, none⟩) (n + 1) c') (n + 1) (l ++ es.map fun e => e.1) (Fs ++ es.map fun e => e.2.2) → Below B w w' → (∀ b, b < w.heap.size → v.ownBlock ≠ some b → w'.heap[b]? = w.heap[b]?) → K (a.put o.dst (.slice (some ⟨g, 0, none⟩) (n + 1) c')) w') :
    if Region.wanted o (yielded ops a.tmps) = true then Oper.wp Tryz.prog o a w K Q else E := by
  have hw : Region.wanted o (yielded ops a.tmps) = true := by simp [Region.wanted, hgd]
  rw [if_pos hw]
  obtain ⟨xs, hown, _⟩ := h.1
  obtain ⟨v', w', hr', h2, h3, g, c', rfl, h4, h5⟩ := append_row hS hi hz0 hz1 hz2 hzc hzp hby o.type hown ad c (es.map fun e => e.2.1) (by rw [List.length_map, hl]) hnews (fun u hu => by obtain ⟨e, hem, rfl⟩ := List.mem_map.1 hu; exact is_one (he e hem).1.is (hr e hem)) hn hB
  unfold Oper.wp execOp
  simp only [ho, resolve, invoke, builtin, Sem.run_bind, Sem.run_pure, Result.andThen_ok, List.map_toArray, List.map_cons, List.map_nil, hs, hx, hr']
  exact hK w' g c' (h.push hown he hp h2 h3 rfl h5) ((Below.refl _ _).grown h3 hB (fun k e => (row_lt hown e).1)) (fun b hb1 hb2 => h3.block b hb1 fun e => hb2 e.symm)
end Go.Proofs.YtckjmmapekaapaaGreatDoor
/- Lists of names that grow by append, where their blocks lie. No conditions. -/
namespace Go.Proofs.YtckjmmapekaapaaGreatDoor
open Go.RowKit
set_option linter.unusedVariables false

theorem Is.strs_of_owns {w : World} {base : Nat} {v : Value} {l : List ByteArray} (h : Owns w base v l) : Is w (strsD l) v := by
  obtain ⟨F, h1, _⟩ := own_of_owns h
  exact h1.is
theorem append_str2 {B : Nat} {w : World} {v : Value} {l : List ByteArray} (ty : TypeId) (hown : Owns w B v l) (ad : Addr) (y : ByteArray) (hy : w.cell? ad = some (.string y)) (hn : l.length ≤ 1048576) (hB : B ≤ w.heap.size) :
    ∃ g c' w', (Builtin.append_ #[23, 23] ty #[v, .slice (some ad) 1 1]).run Tryz.prog w = .ok (.slice (some ⟨g, 0, none⟩) (l.length + 1) c') w' ∧ Owns w' B (.slice (some ⟨g, 0, none⟩) (l.length + 1) c') (l ++ [y]) ∧ w.grownBy w' v.ownBlock ∧ (v.ownBlock = some g ∨ w.heap.size ≤ g) := by
  obtain ⟨i0, hi, hz0, hz1, hz2⟩ := info_parts info_string
  obtain ⟨v', w', hr, h2, h3, g, c', rfl, h4, h5⟩ := append_row (B := B) (w := w) (v := v) (n := l.length) (z := 1) (by' := 16) Tryz.underlying23 hi hz0 hz1 hz2 rfl (by decide) (by decide) ty hown ad 1 [.string y] rfl (fun j u h => by
    match j, h with
    | 0, h => obtain rfl := Option.some.inj h; rw [show ad.add 0 = ad by unfold Addr.add; rfl]; exact hy) (one_string y) (by omega) hB
  exact ⟨g, c', w', hr, owns_app h2, h3, h5⟩
theorem wpList_append_str {B : Nat} {w : World} {v : Value} {l : List ByteArray} {ops : Array Oper} {rest : List Oper} {o : Oper} {a : Act} {Q : Exit → Act → World → Prop} (hgd : o.guard = none) (s x : Operand)
    (ho : o.op = .call { callee := .builtin .append, args := #[s, x], argTypes := #[23, 23] }) (hs : a.eval s = v) (hown : Owns w B v l) (ad : Addr) (y : ByteArray) (hx : a.eval x = .slice (some ad) 1 1) (hy : w.cell? ad = some (.string y)) (hn : l.length ≤ 1048576) (hB : B ≤ w.heap.size)
    (h : ∀ g c' w', Owns w' B (.slice (some ⟨g, 0, none⟩) (l.length + 1) c') (l ++ [y]) → w.grownBy w' v.ownBlock → (v.ownBlock = some g ∨ w.heap.size ≤ g) → wpList Tryz.prog ops Q rest (a.put o.dst (.slice (some ⟨g, 0, none⟩) (l.length + 1) c')) w') : wpList Tryz.prog ops Q (o :: rest) a w := by
  refine wpList_plain hgd fun K hK => ?_
  obtain ⟨g, c', w', hr, h2, h3, h4⟩ := append_str2 o.type hown ad y hy hn hB
  unfold Oper.wp execOp
  simp only [ho, resolve, invoke, builtin, Sem.run_bind, Sem.run_pure, Result.andThen_ok, List.map_toArray, List.map_cons, List.map_nil, hs, hx, hr]
  exact hK _ _ (h g c' w' h2 h3 h4)
/-- The block of a list is one of those of another list, or new. -/
def Moves (w : World) (v v' : Value) : Prop := ∀ b, v'.ownBlock = some b → v.ownBlock = some b ∨ w.heap.size ≤ b
theorem Moves.refl (w : World) (v : Value) : Moves w v v := fun b h => .inl h
theorem grown_refl {w : World} (r : Option Nat) : w.grownBy w r := ⟨rfl, rfl, rfl, Nat.le_refl _, fun _ _ _ => rfl⟩
theorem grown_then {w w1 w2 : World} {v v1 : Value} (h1 : w.grownBy w1 v.ownBlock) (h2 : w1.grownBy w2 v1.ownBlock) (hm : Moves w v v1) : w.grownBy w2 v.ownBlock :=
  ⟨h2.os.trans h1.os, h2.tape.trans h1.tape, h2.output.trans h1.output, Nat.le_trans h1.size h2.size, fun b hb hne => (h2.block b (Nat.lt_of_lt_of_le hb h1.size) (fun e => by
    rcases hm b e.symm with h | h
    · exact hne h.symm
    · omega)).trans (h1.block b hb hne)⟩
theorem Moves.trans {w w1 : World} {v v1 v2 : Value} {r : Option Nat} (h1 : Moves w v v1) (h2 : Moves w1 v1 v2) (hg : w.grownBy w1 r) : Moves w v v2 := fun b hb => by
  rcases h2 b hb with h | h
  · exact h1 b h
  · exact .inr (Nat.le_trans hg.size h)
theorem grown_below {w w' : World} (h : Below w.heap.size w w') (r : Option Nat) : w.grownBy w' r := ⟨h.os, h.tape, h.output, h.size, fun b hb _ => h.block b hb⟩
theorem below_grown {B : Nat} {w0 w w' : World} {v : Value} {l : List ByteArray} (hb : Below B w0 w) (hown : Owns w B v l) (hB : B ≤ w0.heap.size) (hg : w.grownBy w' v.ownBlock) : Below B w0 w' := hb.trans ((Below.refl _ _).grown hg (Nat.le_trans hB hb.size) (fun k e => (World.ownsRow.lt hown k e).1))
theorem owns_keep {w w1 : World} {B : Nat} {v : Value} {l : List ByteArray} (h : Owns w B v l) (hb : ∀ b, v.ownBlock = some b → w1.heap[b]? = w.heap[b]?) : Owns w1 B v l := row_keep h hb
theorem owns_lt {w : World} {B : Nat} {v : Value} {l : List ByteArray} (h : Owns w B v l) {b : Nat} (hb : v.ownBlock = some b) : B ≤ b ∧ b < w.heap.size := World.ownsRow.lt h b hb
theorem owns_later {w w1 : World} {B : Nat} {v : Value} {l : List ByteArray} (h : Owns w B v l) (hb : Below w.heap.size w w1) : Owns w1 B v l := owns_keep h fun b e => hb.block b (owns_lt h e).2
theorem owns_slice {w : World} {B : Nat} {v : Value} {l : List ByteArray} (h : Owns w B v l) : ∃ a c, v = .slice a l.length c := by
  rcases h.2 with ⟨rfl, h0⟩ | ⟨g2, cap2, cur, rfl, _⟩
  · rw [h0]; exact ⟨_, _, rfl⟩
  · exact ⟨_, _, rfl⟩
/-- A variable's cells behind a step that turns one list's block. -/
theorem Var.grown {w w' : World} {b : Nat} {us : List Value} {r : Option Nat} (h : Var w b us) (hb : b < w.heap.size) (hg : w.grownBy w' r) (hne : r ≠ some b) : Var w' b us := h.keep (hg.block b hb fun e => hne e.symm)
mutual
theorem coll_len (u : Un) : ∀ (t : Ex.T) (acc : List ByteArray), (coll u t acc).length ≤ acc.length + t.count
  | .node k t n l ks, acc => by
    rw [coll, Ex.T.count]
    have h := colls_len u ks acc
    split
    · split
      · rw [List.length_append, List.length_singleton]; omega
      · omega
    · omega
theorem colls_len (u : Un) : ∀ (ks : List Ex.T) (acc : List ByteArray), (colls u ks acc).length ≤ acc.length + Ex.counts ks
  | [], acc => by rw [colls, Ex.counts]; omega
  | x :: r, acc => by
    rw [colls, Ex.counts]
    have h1 := coll_len u x acc
    have h2 := colls_len u r (coll u x acc)
    omega
end
theorem colls_app (u : Un) : ∀ (a b : List Ex.T) (acc : List ByteArray), colls u (a ++ b) acc = colls u b (colls u a acc)
  | [], b, acc => by rw [List.nil_append, colls]
  | x :: r, b, acc => by rw [List.cons_append, colls, colls, colls_app u r b]
theorem colls_take (u : Un) (ks : List Ex.T) (k : Nat) (hk : k < ks.length) (acc : List ByteArray) : colls u (ks.take (k + 1)) acc = coll u ks[k] (colls u (ks.take k) acc) := by
  rw [List.take_succ_eq_append_getElem hk, colls_app, colls, colls]
theorem coll_eq (u : Un) (t : Ex.T) (acc : List ByteArray) : coll u t acc = if t.kind == 4 || t.kind == 28 then (if fresh u t.text acc then acc ++ [t.text] else acc) else colls u t.kids acc := by
  cases t; rw [coll]; rfl
end Go.Proofs.YtckjmmapekaapaaGreatDoor
