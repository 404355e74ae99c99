/- Appending a tree to a list of the call's own. No conditions. -/
import Derived.Test.YtkkopnhbafjnaaaN21
import Derived.Deep.RegionLaw
import Derived.RangeFuncRecord
namespace Go.Proofs.Ytkkopnhbafjnaaa
open Go.RowKit
set_option linter.unusedVariables false

theorem append_kid {B : Nat} {w : World} {v : Value} {n : Nat} {xs : List Value} (ty : TypeId) (hown : w.ownsRow B 26 5 v n xs) (ad : Addr) (c : Nat) (news : List Value) (hl : news.length = 5) (hnews : ∀ j u, news[j]? = some u → w.cell? (ad.add j) = some u) (h1 : ∀ u ∈ news, u.oneCell' = true) (hn : n ≤ 1048577) (hB : B ≤ w.heap.size) :
    ∃ v' w', (Builtin.append_ #[24, 24] ty #[v, .slice (some ad) 1 c]).run Try.prog w = .ok v' w' ∧ w'.ownsRow B 26 5 v' (n + 1) (xs ++ news) ∧ w.grownBy w' v.ownBlock ∧ ∃ g c', v' = .slice (some ⟨g, 0, none⟩) (n + 1) c' ∧ B ≤ g ∧ (v.ownBlock = some g ∨ w.heap.size ≤ g) := by
  obtain ⟨i0, hi, hz0, hz1, hz2⟩ := info_parts info_expr
  obtain ⟨v', w', hr, h2, h3, _⟩ := run_append_own (P := Try.prog) w B 24 ty 26 i0 (.agg #[.int .i64 0, .string ByteArray.empty, .int .i64 0, .int .i64 0, .slice none 0 0]) 5 64 Try.underlying24 hi hz0 hz1 hz2 rfl (by decide) v n xs hown ad 1 c news (by rw [hl]) hnews h1 (by unfold maxLen; omega) (by omega) hB
  refine ⟨v', w', hr, h2, h3, ?_⟩
  rcases hown.2 with ⟨rfl, hn0⟩ | ⟨g, cap, cur, rfl, hbg, hg, hnc, hcm, hcs, htake⟩
  · have hr2 := run_append_nil (P := Try.prog) w 24 ty 26 i0 _ Try.underlying24 hi hz0 ad 1 c news (by rw [hl, hz1]) hnews (by omega) (by omega) (by rw [hz2]; omega)
    rw [hr2] at hr
    injection hr with e1 e2
    subst hn0
    exact ⟨w.heap.size, _, e1.symm, hB, .inr (Nat.le_refl _)⟩
  · by_cases hroom : n + 1 ≤ cap
    · have hr2 := run_append_room (P := Try.prog) w 24 ty 26 i0 Try.underlying24 hi g n cap cur hg ad 1 c news (by rw [hl, hz1]) hnews h1 hroom (by rw [hl, hz1, hcs]; omega)
      rw [hr2] at hr
      injection hr with e1 e2
      exact ⟨g, _, e1.symm, hbg, .inl rfl⟩
    · have hr2 := run_append_grow (P := Try.prog) w 24 ty 26 i0 _ Try.underlying24 hi hz0 ⟨g, 0, none⟩ n cap xs (by rw [hown.1, hz1]) (fun j u h => hown.cells (g := g) rfl j u h) ad 1 c news (by rw [hl, hz1]) hnews (by omega) (by omega) (growslice_fits (by omega) (by rw [hz2]; omega))
      rw [hr2] at hr
      injection hr with e1 e2
      exact ⟨w.heap.size, _, e1.symm, hB, .inr (Nat.le_refl _)⟩
/-- A list that grows: its trees, their lists in blocks of their own. -/
def AppK (B : Nat) (w : World) (v : Value) (ld : List El) : Prop := w.ownsRow B 26 5 v ld.length (rowV ld) ∧ Els w ld ∧ (∀ b ∈ elsF ld, B ≤ b ∧ b < w.heap.size) ∧ ∀ g n c, v = .slice (some ⟨g, 0, none⟩) n c → g ∉ elsF ld
theorem AppK.nil (B : Nat) (w : World) : AppK B w (.slice none 0 0) [] := ⟨World.ownsRow_nil w B _ _, Els.nil _, (fun b h => by cases h), fun g n c _ h => by cases h⟩
theorem ownsRow_keep {B n : Nat} {w w1 : World} {v : Value} {xs : List Value} (h : w.ownsRow B 26 5 v n xs) (hb : ∀ b, v.ownBlock = some b → w1.heap[b]? = w.heap[b]?) : w1.ownsRow B 26 5 v n xs := by
  refine ⟨h.1, ?_⟩
  rcases h.2 with hn | ⟨g2, cap2, cur, rfl, hg, hgg, r⟩
  · exact .inl hn
  · exact .inr ⟨g2, cap2, cur, rfl, hg, by rw [hb g2 rfl]; exact hgg, r⟩
theorem ownBlock_lt {B n : Nat} {w : World} {v : Value} {xs : List Value} (h : w.ownsRow B 26 5 v n xs) {b : Nat} (hb : v.ownBlock = some b) : B ≤ b ∧ b < w.heap.size := by
  rcases h.2 with ⟨rfl, _⟩ | ⟨g2, cap2, cur, rfl, hg, hgg, r⟩
  · cases hb
  · cases hb; exact ⟨hg, (Array.getElem?_eq_some_iff.1 hgg).1⟩
theorem AppK.later {B : Nat} {w w1 : World} {v : Value} {ld : List El} (h : AppK B w v ld) (hb : Below w.heap.size w w1) : AppK B w1 v ld := by
  obtain ⟨h1, h2, h3, h4⟩ := h
  refine ⟨ownsRow_keep h1 fun b e => hb.block b (ownBlock_lt h1 e).2, h2.keep fun b hbF => hb.block b (h3 b hbF).2, fun b hbF => ?_, h4⟩
  have := h3 b hbF
  have := hb.size
  omega
theorem AppK.drew {B : Nat} {w : World} {v : Value} {ld : List El} (h : AppK B w v ld) : AppK B w.drew v ld := h.later ((Below.refl _ _).drew)
/-- What a list has once a tree is appended. -/
theorem AppK.push {B : Nat} {w w1 : World} {v v1 : Value} {ld : List El} {p : El} {g c : Nat} (h : AppK B w v ld) (hp : OwnK w p.2.1 p.1.kids p.2.2) (hF : ∀ b ∈ p.2.2, B ≤ b ∧ b < w.heap.size ∧ b ∉ elsF ld ∧ v.ownBlock ≠ some b)
    (hown : w1.ownsRow B 26 5 v1 (ld.length + 1) (rowV ld ++ rowV [p])) (hgr : w.grownBy w1 v.ownBlock) (hv : v1 = .slice (some ⟨g, 0, none⟩) (ld.length + 1) c) (hg : v.ownBlock = some g ∨ w.heap.size ≤ g) : AppK B w1 v1 (ld ++ [p]) := by
  obtain ⟨h1, h2, h3, h4⟩ := h
  have hbv : ∀ b ∈ elsF ld, v.ownBlock ≠ some b := fun b hb e => by
    rcases h1.2 with ⟨rfl, _⟩ | ⟨g2, cap2, cur, rfl, _⟩
    · cases e
    · cases e; exact h4 _ _ _ rfl hb
  refine ⟨by rw [List.length_append, rowV_app]; exact hown, ?_, fun b hb => ?_, fun g2 n2 c2 e hb => ?_⟩
  · refine (h2.keep fun b hb => hgr.block b (h3 b hb).2 fun e => hbv b hb e.symm).snoc (OwnK.keep _ (fun b hb => hgr.block b (hF b hb).2.1 fun e => (hF b hb).2.2.2 e.symm) hp) fun b hb hb2 => (hF b hb2).2.2.1 hb
  · have hs := hgr.size
    rw [elsF_snoc] at hb
    rcases List.mem_append.1 hb with hb | hb
    · have := h3 b hb; omega
    · have := hF b hb; omega
  · rw [hv] at e
    injection e with e1 e2 e3
    injection e1 with e1
    injection e1 with e1
    subst e1
    rw [elsF_snoc] at hb
    rcases List.mem_append.1 hb with hb | hb
    · rcases hg with hg | hg
      · exact hbv _ hb hg
      · have := h3 _ hb; omega
    · rcases hg with hg | hg
      · exact (hF _ hb).2.2.2 hg
      · have := hF _ hb; omega
theorem AppK.done {B : Nat} {w : World} {v : Value} {ld : List El} (h : AppK B w v ld) : ∃ F, OwnK w v (ld.map Prod.fst) F ∧ Foot B w F := by
  obtain ⟨h1, h2, h3, h4⟩ := h
  by_cases h0 : ld = []
  · subst h0
    refine ⟨[], ?_, fun b hb => by cases hb⟩
    rw [List.map_nil, OwnK]
    exact ⟨rfl, own_zero h1⟩
  · obtain ⟨g, c, rfl, hg, hr⟩ := own_some (fun h => h0 (List.length_eq_zero_iff.1 h)) h1
    refine ⟨_, ownK_els hr h2 (h4 _ _ _ rfl), fun b hb => ?_⟩
    have hl := hr.lt
    split at hb
    · cases hb
    · rcases List.mem_cons.1 hb with rfl | hb
      · exact ⟨hg, hl⟩
      · exact h3 b hb
theorem AppK.keep {B : Nat} {w w1 : World} {v : Value} {ld : List El} (h : AppK B w v ld) (hs : w.heap.size ≤ w1.heap.size) (hb : ∀ b, B ≤ b → b < w.heap.size → w1.heap[b]? = w.heap[b]?) : AppK B w1 v ld := by
  obtain ⟨h1, h2, h3, h4⟩ := h
  exact ⟨ownsRow_keep h1 fun b e => hb b (ownBlock_lt h1 e).1 (ownBlock_lt h1 e).2, h2.keep fun b hbF => hb b (h3 b hbF).1 (h3 b hbF).2, fun b hbF => ⟨(h3 b hbF).1, Nat.lt_of_lt_of_le (h3 b hbF).2 hs⟩, h4⟩
theorem AppK.set {B C : Nat} {w : World} {v : Value} {ld : List El} (h : AppK B w v ld) (hC : C < B) (o : Nat) (u : Value) : AppK B (w.setCell ⟨C, o, none⟩ u) v ld :=
  h.keep (by simp [World.setCell]) fun b hb _ => Below.heap_setCell w ⟨C, o, none⟩ u b (show b ≠ C by omega)
theorem AppK.slice {B : Nat} {w : World} {v : Value} {ld : List El} (h : AppK B w v ld) : ∃ a n c, v = .slice a n c := by
  rcases h.1.2 with ⟨rfl, _⟩ | ⟨g2, cap2, cur, rfl, _⟩
  · exact ⟨_, _, _, rfl⟩
  · exact ⟨_, _, _, rfl⟩
theorem FreeE.keep {w w' : World} {b : Nat} {k n l : Int} {t : ByteArray} {v : Value} (h : FreeE w b k t n l v) (hh : w'.heap[b]? = w.heap[b]?) : FreeE w' b k t n l v := by
  obtain ⟨⟨a0, a1, a2, a3, a4⟩, f0, f1, f2, f3, f4⟩ := h
  exact ⟨⟨(cell_keep hh 0).trans a0, (cell_keep hh 1).trans a1, (cell_keep hh 2).trans a2, (cell_keep hh 3).trans a3, (cell_keep hh 4).trans a4⟩, (World.frozen?_of_block (a := ⟨_, 0, none⟩) hh).trans f0, (World.frozen?_of_block (a := ⟨_, 1, none⟩) hh).trans f1, (World.frozen?_of_block (a := ⟨_, 2, none⟩) hh).trans f2, (World.frozen?_of_block (a := ⟨_, 3, none⟩) hh).trans f3, (World.frozen?_of_block (a := ⟨_, 4, none⟩) hh).trans f4⟩
theorem FreeE.fifth {w : World} {b : Nat} {k n l : Int} {t : ByteArray} {v : Value} (h : FreeE w b k t n l v) (u : Value) : FreeE (w.setCell ⟨b, 4, none⟩ u) b k t n l u := by
  obtain ⟨⟨a0, a1, a2, a3, a4⟩, f0, f1, f2, f3, f4⟩ := h
  refine ⟨⟨?_, ?_, ?_, ?_, ?_⟩, ?_, ?_, ?_, ?_, ?_⟩
  all_goals go_simp
theorem new_row (W : World) (t : Ex.T) (v : Value) (F : List Nat) : RowCells (W.alloc (.cells #[.int .i64 t.kind, .string t.text, .int .i64 t.num, .int .i64 t.line, v] 26)) W.heap.size 0 [(t, v, F)] := by
  have h := World.alloc_heap_new W (.cells #[.int .i64 t.kind, .string t.text, .int .i64 t.num, .int .i64 t.line, v] 26)
  have hr : RowE (W.alloc (.cells #[.int .i64 t.kind, .string t.text, .int .i64 t.num, .int .i64 t.line, v] 26)) W.heap.size 1 1 (rowV [(t, v, F)]) :=
    ⟨rfl, .inr ⟨W.heap.size, 1, _, rfl, Nat.zero_le _, h, Nat.le_refl _, by unfold maxLen; omega, rfl, rfl⟩⟩
  exact rowE_cells (l := [(t, v, F)]) rfl hr
theorem row_one {t : Ex.T} {a : Option Addr} {n c : Nat} {F : List Nat} : ∀ u ∈ rowV [(t, .slice a n c, F)], u.oneCell' = true := by
  intro u hu
  rw [rowV_cons] at hu
  simp only [List.mem_cons, rowV, List.flatMap_nil, List.not_mem_nil, or_false] at hu
  rcases hu with rfl | rfl | rfl | rfl | rfl <;> rfl
theorem step_append_kid {B : Nat} {w : World} {v : Value} {n : Nat} {xs : List Value} {ops : Array Oper} {o : Oper} {a : Act} {K : Act → World → Prop} {Q : Exit → Act → World → Prop} {E : Prop} (hgd : o.guard = none) (s x : Operand)
    (ho : o.op = .call { callee := .builtin .append, args := #[s, x], argTypes := #[24, 24] }) (hs : a.eval s = v) (hown : w.ownsRow B 26 5 v n xs) (ad : Addr) (c : Nat) (news : List Value) (hx : a.eval x = .slice (some ad) 1 c) (hl : news.length = 5) (hnews : ∀ j u, news[j]? = some u → w.cell? (ad.add j) = some u) (h1 : ∀ u ∈ news, u.oneCell' = true) (hn : n ≤ 1048577) (hB : B ≤ w.heap.size)
    (h : ∀ w' g c', w'.ownsRow B 26 5 (.slice (some ⟨g, 0, none⟩) (n + 1) c') (n + 1) (xs ++ news) → w.grownBy w' v.ownBlock → B ≤ g → (v.ownBlock = some g ∨ w.heap.size ≤ g) → K (a.put o.dst (.slice (some ⟨g, 0, none⟩) (n + 1) c')) w') :
    if Region.wanted o (yielded ops a.tmps) = true then Oper.wp Try.prog o a w K Q else E := by
  have hw : Region.wanted o (yielded ops a.tmps) = true := by simp [Region.wanted, hgd]
  rw [if_pos hw]
  obtain ⟨v', w', hr, h2, h3, g, c', rfl, h4, h5⟩ := append_kid o.type hown ad c news hl hnews h1 hn hB
  unfold Oper.wp execOp
  simp only [ho, resolve, invoke, builtin, Sem.run_bind, Sem.run_pure, Result.andThen_ok, List.map_toArray, List.map_cons, List.map_nil, hs, hx, hr]
  exact h w' g c' h2 h3 h4 h5
end Go.Proofs.Ytkkopnhbafjnaaa
