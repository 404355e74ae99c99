/- Joined texts: N27, N36, C6. No conditions besides those that each states. -/
import Derived.Deep.RegionLaw
import Derived.RangeFuncRecord
import Derived.Laws.Bits128
import Derived.Test.YtkkopnhbafjnaaaZ2
import Derived.Test.YtkkopnhbafjnaaaZ8
import Derived.Test.YtkkopnhbafjnaaaZ10
import Derived.Test.YtkkopnhbafjnaaaZ13
/- Appending a tree to a list of the call's own. No conditions. -/
namespace Go.Proofs.Ytkkopnhbafjnaaa
open Go.RowKit
set_option linter.unusedVariables false

theorem append_kid {B : Nat} {w : World} {v : Value} {n : Nat} {xs : List Value} (ty : TypeId) (hown : w.ownsRow B 26 5 v n xs) (ad : Addr) (c : Nat) (news : List Value) (hl : news.length = 5) (hnews : ∀ j u, news[j]? = some u → w.cell? (ad.add j) = some u) (h1 : ∀ u ∈ news, u.oneCell' = true) (hn : n ≤ 1048577) (hB : B ≤ w.heap.size) :
    ∃ v' w', (Builtin.append_ #[24, 24] ty #[v, .slice (some ad) 1 c]).run Try.prog w = .ok v' w' ∧ w'.ownsRow B 26 5 v' (n + 1) (xs ++ news) ∧ w.grownBy w' v.ownBlock ∧ ∃ g c', v' = .slice (some ⟨g, 0, none⟩) (n + 1) c' ∧ B ≤ g ∧ (v.ownBlock = some g ∨ w.heap.size ≤ g) := by
  obtain ⟨i0, hi, hz0, hz1, hz2⟩ := info_parts info_expr
  obtain ⟨v', w', hr, h2, h3, _⟩ := run_append_own (P := Try.prog) w B 24 ty 26 i0 (.agg #[.int .i64 0, .string ByteArray.empty, .int .i64 0, .int .i64 0, .slice none 0 0]) 5 64 Try.underlying24 hi hz0 hz1 hz2 rfl (by decide) v n xs hown ad 1 c news (by rw [hl]) hnews h1 (by unfold maxLen; omega) (by omega) hB
  refine ⟨v', w', hr, h2, h3, ?_⟩
  rcases hown.2 with ⟨rfl, hn0⟩ | ⟨g, cap, cur, rfl, hbg, hg, hnc, hcm, hcs, htake⟩
  · have hr2 := run_append_nil (P := Try.prog) w 24 ty 26 i0 _ Try.underlying24 hi hz0 ad 1 c news (by rw [hl, hz1]) hnews (by omega) (by omega) (by rw [hz2]; omega)
    rw [hr2] at hr
    injection hr with e1 e2
    subst hn0
    exact ⟨w.heap.size, _, e1.symm, hB, .inr (Nat.le_refl _)⟩
  · by_cases hroom : n + 1 ≤ cap
    · have hr2 := run_append_room (P := Try.prog) w 24 ty 26 i0 Try.underlying24 hi g n cap cur hg ad 1 c news (by rw [hl, hz1]) hnews h1 hroom (by rw [hl, hz1, hcs]; omega)
      rw [hr2] at hr
      injection hr with e1 e2
      exact ⟨g, _, e1.symm, hbg, .inl rfl⟩
    · have hr2 := run_append_grow (P := Try.prog) w 24 ty 26 i0 _ Try.underlying24 hi hz0 ⟨g, 0, none⟩ n cap xs (by rw [hown.1, hz1]) (fun j u h => hown.cells (g := g) rfl j u h) ad 1 c news (by rw [hl, hz1]) hnews (by omega) (by omega) (growslice_fits (by omega) (by rw [hz2]; omega))
      rw [hr2] at hr
      injection hr with e1 e2
      exact ⟨w.heap.size, _, e1.symm, hB, .inr (Nat.le_refl _)⟩
/-- A list that grows: its trees, their lists in blocks of their own. -/
def AppK (B : Nat) (w : World) (v : Value) (ld : List El) : Prop := w.ownsRow B 26 5 v ld.length (rowV ld) ∧ Els w ld ∧ (∀ b ∈ elsF ld, B ≤ b ∧ b < w.heap.size) ∧ ∀ g n c, v = .slice (some ⟨g, 0, none⟩) n c → g ∉ elsF ld
theorem AppK.nil (B : Nat) (w : World) : AppK B w (.slice none 0 0) [] := ⟨World.ownsRow_nil w B _ _, Els.nil _, (fun b h => by cases h), fun g n c _ h => by cases h⟩
theorem ownsRow_keep {B n : Nat} {w w1 : World} {v : Value} {xs : List Value} (h : w.ownsRow B 26 5 v n xs) (hb : ∀ b, v.ownBlock = some b → w1.heap[b]? = w.heap[b]?) : w1.ownsRow B 26 5 v n xs := by
  refine ⟨h.1, ?_⟩
  rcases h.2 with hn | ⟨g2, cap2, cur, rfl, hg, hgg, r⟩
  · exact .inl hn
  · exact .inr ⟨g2, cap2, cur, rfl, hg, by rw [hb g2 rfl]; exact hgg, r⟩
theorem ownBlock_lt {B n : Nat} {w : World} {v : Value} {xs : List Value} (h : w.ownsRow B 26 5 v n xs) {b : Nat} (hb : v.ownBlock = some b) : B ≤ b ∧ b < w.heap.size := by
  rcases h.2 with ⟨rfl, _⟩ | ⟨g2, cap2, cur, rfl, hg, hgg, r⟩
  · cases hb
  · cases hb; exact ⟨hg, (Array.getElem?_eq_some_iff.1 hgg).1⟩
theorem AppK.later {B : Nat} {w w1 : World} {v : Value} {ld : List El} (h : AppK B w v ld) (hb : Below w.heap.size w w1) : AppK B w1 v ld := by
  obtain ⟨h1, h2, h3, h4⟩ := h
  refine ⟨ownsRow_keep h1 fun b e => hb.block b (ownBlock_lt h1 e).2, h2.keep fun b hbF => hb.block b (h3 b hbF).2, fun b hbF => ?_, h4⟩
  have := h3 b hbF
  have := hb.size
  omega
theorem AppK.drew {B : Nat} {w : World} {v : Value} {ld : List El} (h : AppK B w v ld) : AppK B w.drew v ld := h.later ((Below.refl _ _).drew)
/-- What a list has once a tree is appended. -/
theorem AppK.push {B : Nat} {w w1 : World} {v v1 : Value} {ld : List El} {p : El} {g c : Nat} (h : AppK B w v ld) (hp : OwnK w p.2.1 p.1.kids p.2.2) (hF : ∀ b ∈ p.2.2, B ≤ b ∧ b < w.heap.size ∧ b ∉ elsF ld ∧ v.ownBlock ≠ some b)
    (hown : w1.ownsRow B 26 5 v1 (ld.length + 1) (rowV ld ++ rowV [p])) (hgr : w.grownBy w1 v.ownBlock) (hv : v1 = .slice (some ⟨g, 0, none⟩) (ld.length + 1) c) (hg : v.ownBlock = some g ∨ w.heap.size ≤ g) : AppK B w1 v1 (ld ++ [p]) := by
  obtain ⟨h1, h2, h3, h4⟩ := h
  have hbv : ∀ b ∈ elsF ld, v.ownBlock ≠ some b := fun b hb e => by
    rcases h1.2 with ⟨rfl, _⟩ | ⟨g2, cap2, cur, rfl, _⟩
    · cases e
    · cases e; exact h4 _ _ _ rfl hb
  refine ⟨by rw [List.length_append, rowV_app]; exact hown, ?_, fun b hb => ?_, fun g2 n2 c2 e hb => ?_⟩
  · refine (h2.keep fun b hb => hgr.block b (h3 b hb).2 fun e => hbv b hb e.symm).snoc (OwnK.keep _ (fun b hb => hgr.block b (hF b hb).2.1 fun e => (hF b hb).2.2.2 e.symm) hp) fun b hb hb2 => (hF b hb2).2.2.1 hb
  · have hs := hgr.size
    rw [elsF_snoc] at hb
    rcases List.mem_append.1 hb with hb | hb
    · have := h3 b hb; omega
    · have := hF b hb; omega
  · rw [hv] at e
    injection e with e1 e2 e3
    injection e1 with e1
    injection e1 with e1
    subst e1
    rw [elsF_snoc] at hb
    rcases List.mem_append.1 hb with hb | hb
    · rcases hg with hg | hg
      · exact hbv _ hb hg
      · have := h3 _ hb; omega
    · rcases hg with hg | hg
      · exact (hF _ hb).2.2.2 hg
      · have := hF _ hb; omega
theorem AppK.done {B : Nat} {w : World} {v : Value} {ld : List El} (h : AppK B w v ld) : ∃ F, OwnK w v (ld.map Prod.fst) F ∧ Foot B w F := by
  obtain ⟨h1, h2, h3, h4⟩ := h
  by_cases h0 : ld = []
  · subst h0
    refine ⟨[], ?_, fun b hb => by cases hb⟩
    rw [List.map_nil, OwnK]
    exact ⟨rfl, own_zero h1⟩
  · obtain ⟨g, c, rfl, hg, hr⟩ := own_some (fun h => h0 (List.length_eq_zero_iff.1 h)) h1
    refine ⟨_, ownK_els hr h2 (h4 _ _ _ rfl), fun b hb => ?_⟩
    have hl := hr.lt
    split at hb
    · cases hb
    · rcases List.mem_cons.1 hb with rfl | hb
      · exact ⟨hg, hl⟩
      · exact h3 b hb
theorem AppK.keep {B : Nat} {w w1 : World} {v : Value} {ld : List El} (h : AppK B w v ld) (hs : w.heap.size ≤ w1.heap.size) (hb : ∀ b, B ≤ b → b < w.heap.size → w1.heap[b]? = w.heap[b]?) : AppK B w1 v ld := by
  obtain ⟨h1, h2, h3, h4⟩ := h
  exact ⟨ownsRow_keep h1 fun b e => hb b (ownBlock_lt h1 e).1 (ownBlock_lt h1 e).2, h2.keep fun b hbF => hb b (h3 b hbF).1 (h3 b hbF).2, fun b hbF => ⟨(h3 b hbF).1, Nat.lt_of_lt_of_le (h3 b hbF).2 hs⟩, h4⟩
theorem AppK.set {B C : Nat} {w : World} {v : Value} {ld : List El} (h : AppK B w v ld) (hC : C < B) (o : Nat) (u : Value) : AppK B (w.setCell ⟨C, o, none⟩ u) v ld :=
  h.keep (by simp [World.setCell]) fun b hb _ => Below.heap_setCell w ⟨C, o, none⟩ u b (show b ≠ C by omega)
theorem AppK.slice {B : Nat} {w : World} {v : Value} {ld : List El} (h : AppK B w v ld) : ∃ a n c, v = .slice a n c := by
  rcases h.1.2 with ⟨rfl, _⟩ | ⟨g2, cap2, cur, rfl, _⟩
  · exact ⟨_, _, _, rfl⟩
  · exact ⟨_, _, _, rfl⟩
theorem FreeE.keep {w w' : World} {b : Nat} {k n l : Int} {t : ByteArray} {v : Value} (h : FreeE w b k t n l v) (hh : w'.heap[b]? = w.heap[b]?) : FreeE w' b k t n l v := by
  obtain ⟨⟨a0, a1, a2, a3, a4⟩, f0, f1, f2, f3, f4⟩ := h
  exact ⟨⟨(cell_keep hh 0).trans a0, (cell_keep hh 1).trans a1, (cell_keep hh 2).trans a2, (cell_keep hh 3).trans a3, (cell_keep hh 4).trans a4⟩, (World.frozen?_of_block (a := ⟨_, 0, none⟩) hh).trans f0, (World.frozen?_of_block (a := ⟨_, 1, none⟩) hh).trans f1, (World.frozen?_of_block (a := ⟨_, 2, none⟩) hh).trans f2, (World.frozen?_of_block (a := ⟨_, 3, none⟩) hh).trans f3, (World.frozen?_of_block (a := ⟨_, 4, none⟩) hh).trans f4⟩
theorem FreeE.fifth {w : World} {b : Nat} {k n l : Int} {t : ByteArray} {v : Value} (h : FreeE w b k t n l v) (u : Value) : FreeE (w.setCell ⟨b, 4, none⟩ u) b k t n l u := by
  obtain ⟨⟨a0, a1, a2, a3, a4⟩, f0, f1, f2, f3, f4⟩ := h
  refine ⟨⟨?_, ?_, ?_, ?_, ?_⟩, ?_, ?_, ?_, ?_, ?_⟩
  all_goals go_simp
theorem new_row (W : World) (t : Ex.T) (v : Value) (F : List Nat) : RowCells (W.alloc (.cells #[.int .i64 t.kind, .string t.text, .int .i64 t.num, .int .i64 t.line, v] 26)) W.heap.size 0 [(t, v, F)] := by
  have h := World.alloc_heap_new W (.cells #[.int .i64 t.kind, .string t.text, .int .i64 t.num, .int .i64 t.line, v] 26)
  have hr : RowE (W.alloc (.cells #[.int .i64 t.kind, .string t.text, .int .i64 t.num, .int .i64 t.line, v] 26)) W.heap.size 1 1 (rowV [(t, v, F)]) :=
    ⟨rfl, .inr ⟨W.heap.size, 1, _, rfl, Nat.zero_le _, h, Nat.le_refl _, by unfold maxLen; omega, rfl, rfl⟩⟩
  exact rowE_cells (l := [(t, v, F)]) rfl hr
theorem row_one {t : Ex.T} {a : Option Addr} {n c : Nat} {F : List Nat} : ∀ u ∈ rowV [(t, .slice a n c, F)], u.oneCell' = true := by
  intro u hu
  rw [rowV_cons] at hu
  simp only [List.mem_cons, rowV, List.flatMap_nil, List.not_mem_nil, or_false] at hu
  rcases hu with rfl | rfl | rfl | rfl | rfl <;> rfl
theorem step_append_kid {B : Nat} {w : World} {v : Value} {n : Nat} {xs : List Value} {ops : Array Oper} {o : Oper} {a : Act} {K : Act → World → Prop} {Q : Exit → Act → World → Prop} {E : Prop} (hgd : o.guard = none) (s x : Operand)
    (ho : o.op = .call { callee := .builtin .append, args := #[s, x], argTypes := #[24, 24] }) (hs : a.eval s = v) (hown : w.ownsRow B 26 5 v n xs) (ad : Addr) (c : Nat) (news : List Value) (hx : a.eval x = .slice (some ad) 1 c) (hl : news.length = 5) (hnews : ∀ j u, news[j]? = some u → w.cell? (ad.add j) = some u) (h1 : ∀ u ∈ news, u.oneCell' = true) (hn : n ≤ 1048577) (hB : B ≤ w.heap.size)
    (h : ∀ w' g c', w'.ownsRow B 26 5 (.slice (some ⟨g, 0, none⟩) (n + 1) c') (n + 1) (xs ++ news) → w.grownBy w' v.ownBlock → B ≤ g → (v.ownBlock = some g ∨ w.heap.size ≤ g) → K (a.put o.dst (.slice (some ⟨g, 0, none⟩) (n + 1) c')) w') :
    if Region.wanted o (yielded ops a.tmps) = true then Oper.wp Try.prog o a w K Q else E := by
  have hw : Region.wanted o (yielded ops a.tmps) = true := by simp [Region.wanted, hgd]
  rw [if_pos hw]
  obtain ⟨v', w', hr, h2, h3, g, c', rfl, h4, h5⟩ := append_kid o.type hown ad c news hl hnews h1 hn hB
  unfold Oper.wp execOp
  simp only [ho, resolve, invoke, builtin, Sem.run_bind, Sem.run_pure, Result.andThen_ok, List.map_toArray, List.map_cons, List.map_nil, hs, hx, hr]
  exact h w' g c' h2 h3 h4 h5
end Go.Proofs.Ytkkopnhbafjnaaa
/- Drawn trees: leaves. No conditions. -/
namespace Go.Proofs.Ytkkopnhbafjnaaa
open Go.RowKit
set_option linter.unusedVariables false

theorem once_at (B cb : Nat) (n : Int) (w : World) (hp : IsCur B w cb) (h0 : 0 < n) (h1 : n ≤ 2147483647) :
    Calls Try.prog 51 #[.pointer (some ⟨cb, 0, none⟩), .int .i64 n] w fun e w' => ∃ b : Bool, e = .returned (.bool b) ∧ IsCur B w' cb ∧ Only cb w w' := by
  have HB := Lib.hid (draw_below B cb n w hp h0 h1)
  clear hp
  go_enter Try.func51, Try.ntmps51
  go_wp2_with fail
  refine HB.out.mono ?_
  rintro e w1 ⟨x, rfl, hx0, hx1, hc, ho⟩
  have HC := Lib.hid hc
  have HO := Lib.hid ho
  clear hc ho
  go_wp2
  go_ret
  exact ⟨_, rfl, HC.out, HO.out⟩
def leafTexts : List ByteArray := [⟨#[]⟩, ⟨#[97, 34, 98]⟩, ⟨#[105, 116, 39, 115]⟩, ⟨#[116, 97, 98, 9, 104, 101, 114, 101]⟩, ⟨#[108, 105, 110, 101, 10, 101, 110, 100]⟩, ⟨#[98, 97, 99, 107, 92, 115, 108, 97, 115, 104]⟩, ⟨#[0, 127]⟩, ⟨#[255]⟩, ⟨#[112, 108, 97, 105, 110]⟩]
theorem leafTexts_small : ∀ s ∈ leafTexts, s.size ≤ 10 := by decide
def DrawnS (m : Nat) (B cb : Nat) (w : World) (e : Ending) (w' : World) : Prop := ∃ s : ByteArray, e = .returned (.string s) ∧ s.size ≤ m ∧ IsCur B w' cb ∧ Only cb w w'
theorem draw_leafText (B cb : Nat) (w : World) (hp : IsCur B w cb) (hB : B ≤ w.heap.size) :
    Calls Try.prog 75 #[.pointer (some ⟨cb, 0, none⟩)] w (DrawnS 10 B cb w) := by
  have hcb := cur_lt hp
  have HP := Lib.hid (pick_text B cb w.heap.size 9 leafTexts _ (cur_alloc hp hB _) (by decide) (by decide) (by omega) (new_cells Value.string leafTexts ByteArray.empty w 9 _ rfl))
  clear hp
  go_enter Try.func75, Try.ntmps75
  go_wp2_with fail
  refine HP.out.mono ?_
  rintro e w2 ⟨s, hs, rfl, hc2, ho2⟩
  have HC2 := Lib.hid hc2
  have HO2 := Lib.hid ((only_alloc _).trans ho2)
  have hz : s.size ≤ 10 := leafTexts_small s hs
  clear hs hc2 ho2
  go_wp2
  go_ret
  exact ⟨s, rfl, hz, HC2.out, HO2.out⟩
/-- A drawn tree. -/
def DrawnT (M B cb : Nat) (w : World) (e : Ending) (w' : World) : Prop := ∃ (t : Ex.T) (v : Value) (F : List Nat), e = .returned (exV t v) ∧ OwnK w' v t.kids F ∧ Foot w.heap.size w' F ∧ t.bulk ≤ M ∧ IsCur B w' cb ∧ Only cb w w'
/-- Where the drawing of a leaf stands. -/
def LeafSt (B cb : Nat) (w wr : World) : Prop := FreeE wr w.heap.size 0 ⟨#[]⟩ 0 0 (.slice none 0 0) ∧ IsCur B wr cb ∧ Only cb w wr
theorem FreeE.only {w w' : World} {cb b : Nat} {k n l : Int} {t : ByteArray} {v : Value} (h : FreeE w b k t n l v) (ho : Only cb w w') (hne : b ≠ cb) : FreeE w' b k t n l v := h.keep (ho.block b h.lt (fun e => hne (Option.some.inj e)))
theorem LeafSt.lt {B cb : Nat} {w wr : World} (h : LeafSt B cb w wr) : w.heap.size < wr.heap.size := h.1.lt
theorem LeafSt.only {B cb : Nat} {w wr wx : World} (h : LeafSt B cb w wr) (hc : IsCur B wx cb) (ho : Only cb wr wx) (hne : w.heap.size ≠ cb) : LeafSt B cb w wx := ⟨h.1.only ho hne, hc, h.2.2.trans ho⟩
theorem LeafSt.later {B cb : Nat} {w wr wx : World} (h : LeafSt B cb w wr) (hb : Below wr.heap.size wr wx) (hB : B ≤ w.heap.size) : LeafSt B cb w wx :=
  ⟨h.1.later hb, cur_below h.2.1 (Nat.le_trans hB (Nat.le_of_lt h.lt)) hb, h.2.2.trans (Only.of_below hb)⟩
theorem LeafSt.done {B cb : Nat} {w wr : World} (h : LeafSt B cb w wr) (hB : B ≤ w.heap.size) (hne : w.heap.size ≠ cb) (k n : Int) (s : ByteArray) (M : Nat) (hs : s.size ≤ M) :
    DrawnT M B cb w (.returned (.agg #[.int .i64 k, .string s, .int .i64 n, .int .i64 0, .slice none 0 0])) (((((wr.setCell ⟨w.heap.size, 0, none⟩ (.int .i64 k)).setCell ⟨w.heap.size, 1, none⟩ (.string s)).setCell ⟨w.heap.size, 2, none⟩ (.int .i64 n)).setCell ⟨w.heap.size, 3, none⟩ (.int .i64 0)).setCell ⟨w.heap.size, 4, none⟩ (.slice none 0 0)) := by
  have hset : ∀ (A : World) (o : Nat) (u : Value), Only cb w A → IsCur B A cb → Only cb w (A.setCell ⟨w.heap.size, o, none⟩ u) ∧ IsCur B (A.setCell ⟨w.heap.size, o, none⟩ u) cb := by
    intro A o u hA hc
    refine ⟨⟨hA.1, hA.2, hA.3, by simp [World.setCell]; exact hA.size, fun b h1 h2 => (Below.heap_setCell A ⟨w.heap.size, o, none⟩ u b (show b ≠ w.heap.size by omega)).trans (hA.block b h1 h2)⟩, ?_⟩
    obtain ⟨v, m, i, x, h1, h2, h3⟩ := hc
    refine ⟨v, m, i, x, h1, code_below h2 ((Below.refl B A).setCell (p := ⟨w.heap.size, o, none⟩) hB u), ?_⟩
    rw [Below.heap_setCell A ⟨w.heap.size, o, none⟩ u cb (fun e => hne e.symm)]; exact h3
  obtain ⟨h1, h2, h3⟩ := h
  obtain ⟨o1, c1⟩ := hset _ 0 (.int .i64 k) h3 h2
  obtain ⟨o2, c2⟩ := hset _ 1 (.string s) o1 c1
  obtain ⟨o3, c3⟩ := hset _ 2 (.int .i64 n) o2 c2
  obtain ⟨o4, c4⟩ := hset _ 3 (.int .i64 0) o3 c3
  obtain ⟨o5, c5⟩ := hset _ 4 (.slice none 0 0) o4 c4
  refine ⟨.node k s n 0 [], .slice none 0 0, [], rfl, ?_, (fun b hb => by cases hb), ?_, c5, o5⟩
  · show OwnK _ _ [] []
    rw [OwnK]; exact ⟨rfl, _, _, rfl⟩
  · rw [Ex.T.bulk]; simp [Ex.bulks]; exact hs
end Go.Proofs.Ytkkopnhbafjnaaa
/- OnesCount64 counts the ones of a word. No conditions. -/
namespace Go.Proofs.Ytkkopnhbafjnaaa
open Go.RowKit
set_option linter.unusedVariables false

theorem Cs.wrap_u64 {n : Int} (h0 : 0 ≤ n) (h1 : n < 18446744073709551616) : IntKind.u64.wrap n = n := by
  have : IntKind.u64.wrap n = n % 18446744073709551616 := by simp [IntKind.wrap, IntKind.bits, IntKind.signed]
  rw [this]; omega
theorem Cs.mask1 : Cs.mask 1 32 = 6148914691236517205 := by decide
theorem Cs.mask2 : Cs.mask 2 16 = 3689348814741910323 := by decide
theorem Cs.mask4 : Cs.mask 4 8 = 1085102592571150095 := by decide
theorem Cs.step_and (x d m : Nat) (hx : x < 18446744073709551616) (hm : m < 18446744073709551616) : bits .and .u64 ((x : Int) / (d : Nat)) (m : Nat) = ((x / d &&& m : Nat) : Int) := by
  rw [← Int.natCast_ediv]
  exact u64_and_nat _ _ (Nat.lt_of_le_of_lt (Nat.div_le_self _ _) hx) hm
theorem Cs.step1 (x : Nat) (hx : x < 18446744073709551616) : IntKind.u64.wrap (bits .and .u64 ((x : Int) / 2) 6148914691236517205 + bits .and .u64 (x : Int) 6148914691236517205) = ((Cs.pair 1 32 x : Nat) : Int) := by
  have h1 : bits .and .u64 ((x : Int) / 2) 6148914691236517205 = ((x / 2 &&& 6148914691236517205 : Nat) : Int) := Cs.step_and x 2 6148914691236517205 hx (by decide)
  have h2 : bits .and .u64 (x : Int) 6148914691236517205 = ((x &&& 6148914691236517205 : Nat) : Int) := u64_and_nat x 6148914691236517205 hx (by decide)
  have h3 := Cs.pair_lt 1 32 x
  have e : Cs.pair 1 32 x = (x / 2 &&& 6148914691236517205) + (x &&& 6148914691236517205) := by unfold Cs.pair; rw [Cs.mask1]
  rw [Cs.mask1] at h3
  rw [e] at h3
  rw [h1, h2, e]
  rw [Cs.wrap_u64 (by omega) (by omega)]; rfl
theorem Cs.step2 (x : Nat) (hx : x < 18446744073709551616) : IntKind.u64.wrap (bits .and .u64 ((x : Int) / 4) 3689348814741910323 + bits .and .u64 (x : Int) 3689348814741910323) = ((Cs.pair 2 16 x : Nat) : Int) := by
  have h1 : bits .and .u64 ((x : Int) / 4) 3689348814741910323 = ((x / 4 &&& 3689348814741910323 : Nat) : Int) := Cs.step_and x 4 3689348814741910323 hx (by decide)
  have h2 : bits .and .u64 (x : Int) 3689348814741910323 = ((x &&& 3689348814741910323 : Nat) : Int) := u64_and_nat x 3689348814741910323 hx (by decide)
  have h3 := Cs.pair_lt 2 16 x
  have e : Cs.pair 2 16 x = (x / 4 &&& 3689348814741910323) + (x &&& 3689348814741910323) := by unfold Cs.pair; rw [Cs.mask2]
  rw [Cs.mask2] at h3
  rw [e] at h3
  rw [h1, h2, e]
  rw [Cs.wrap_u64 (by omega) (by omega)]; rfl
theorem Cs.step3 (x : Nat) (hx : x ≤ 7378697629483820646) (hs : Cs.small 4 4 16 x) : bits .and .u64 (IntKind.u64.wrap ((x : Int) / 16 + x)) 1085102592571150095 = ((Cs.pair 4 8 x : Nat) : Int) := by
  have e := Cs.lump_step 4 4 (by decide) 8 x hs
  rw [Cs.mask4, show (2 : Nat) ^ 4 = 16 from rfl] at e
  rw [Cs.wrap_u64 (by omega) (by omega), ← e]
  have := u64_and_nat (x / 16 + x) 1085102592571150095 (by omega) (by decide)
  rw [← this]; rfl
theorem Cs.step4 (x d : Nat) (hx : x + x / d < 18446744073709551616) : IntKind.u64.wrap ((x : Int) + (x : Int) / (d : Nat)) = ((x + x / d : Nat) : Int) := by
  rw [← Int.natCast_ediv, ← Int.natCast_add]
  exact Cs.wrap_u64 (Int.natCast_nonneg _) (by omega)
/-- The steps together. -/
theorem Cs.steps (x : Nat) (hx : x < 18446744073709551616) (y1 y2 y3 z1 z2 z3 : Nat) (h1 : y1 = Cs.pair 1 32 x) (h2 : y2 = Cs.pair 2 16 y1) (h3 : y3 = Cs.pair 4 8 y2) (e1 : z1 = y3 + y3 / 256) (e2 : z2 = z1 + z1 / 65536) (e3 : z3 = z2 + z2 / 4294967296) :
    y1 < 18446744073709551616 ∧ y2 ≤ 7378697629483820646 ∧ Cs.small 4 4 16 y2 ∧ y3 < 18446744073709551616 ∧ z1 < 18446744073709551616 ∧ z2 < 18446744073709551616 ∧ z3 < 18446744073709551616 ∧ z3 % 128 = Cs.dsum 1 64 x := by
  obtain ⟨s1, t1⟩ := Cs.pair_step 1 1 (by decide) 32 x (Cs.small_one 64 x)
  rw [← h1] at s1 t1
  obtain ⟨s2, t2⟩ := Cs.pair_step 2 2 (by decide) 16 y1 t1
  rw [← h2] at s2 t2
  obtain ⟨s3, t3⟩ := Cs.pair_step 4 4 (by decide) 8 y2 t2
  rw [← h3] at s3 t3
  have l1 := Cs.pair_lt 1 32 x
  have l2 := Cs.pair_lt 2 16 y1
  have l3 := Cs.pair_lt 4 8 y2
  rw [← h1, Cs.mask1] at l1
  rw [← h2, Cs.mask2] at l2
  rw [← h3, Cs.mask4] at l3
  obtain ⟨f1, f2, f3, f4⟩ := Cs.fold_bytes y3 t3 (by omega) z1 z2 z3 e1 e2 e3
  exact ⟨by omega, by omega, t2, by omega, f1, f2, f3, by rw [f4, s3, s2, s1]⟩
theorem ret_i {k : IntKind} {a b : Int} (h : a = b) : Ending.returned (.int k a) = .returned (.int k b) := by rw [h]

theorem Cs.last (z s : Nat) (h : z % 128 = s) : wrap64 (z : Int) % 128 = (s : Int) := by
  unfold wrap64; omega
theorem ones (x : Nat) (hx : x < 18446744073709551616) (w : World) : Calls Try.prog 94 #[.int .u64 x] w fun e w' => e = .returned (.int .i64 ((Cs.dsum 1 64 x : Nat) : Int)) ∧ w = w' := by
  go_enter Try.func94, Try.ntmps94
  go_wp2
  go_ret
  refine ⟨ret_i ?_, rfl⟩
  obtain ⟨a1, a2, a3, a4, b1, b2, b3, b4⟩ := Cs.steps x hx _ _ _ _ _ _ rfl rfl rfl rfl rfl rfl
  rw [Cs.step1 x hx, Cs.step2 _ a1, Cs.step3 _ a2 a3]
  generalize Cs.pair 4 8 (Cs.pair 2 16 (Cs.pair 1 32 x)) = y at *
  have c1 : IntKind.u64.wrap ((y : Int) + (y : Int) / 256) = ((y + y / 256 : Nat) : Int) := Cs.step4 y 256 b1
  rw [c1]
  generalize y + y / 256 = y1 at *
  have c2 : IntKind.u64.wrap ((y1 : Int) + (y1 : Int) / 65536) = ((y1 + y1 / 65536 : Nat) : Int) := Cs.step4 y1 65536 b2
  rw [c2]
  generalize y1 + y1 / 65536 = y2 at *
  have c3 : IntKind.u64.wrap ((y2 : Int) + (y2 : Int) / 4294967296) = ((y2 + y2 / 4294967296 : Nat) : Int) := Cs.step4 y2 4294967296 b3
  rw [c3, i64_and127]
  exact Cs.last _ _ b4
end Go.Proofs.Ytkkopnhbafjnaaa
