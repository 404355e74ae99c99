/- Joined texts: N38. No conditions besides those that each states. -/
import Derived.Test.YtkkopnhbafjnaaaZ15
import Derived.Test.YtkkopnhbafjnaaaZ16
import Derived.Test.YtkkopnhbafjnaaaZ17
/- Drawn trees: where the drawing of an inner node stands. No conditions. -/
namespace Go.Proofs.Ytkkopnhbafjnaaa
open Go.RowKit
set_option linter.unusedVariables false

/-- A node that is being drawn: the result's variable, the node's, the cursor. -/
def TrSt (B cb : Nat) (w : World) (E : Nat) (k : Int) (s : ByteArray) (n : Int) (v : Value) (wr : World) : Prop :=
  LeafSt B cb w wr ∧ FreeE wr E k s n 0 v ∧ (w.heap.size < E ∧ s.size ≤ 4)
theorem TrSt.lt {B cb E : Nat} {w wr : World} {k n : Int} {s : ByteArray} {v : Value} (h : TrSt B cb w E k s n v wr) : E < wr.heap.size := h.2.1.lt
theorem TrSt.only {B cb E : Nat} {w wr wx : World} {k n : Int} {s : ByteArray} {v : Value} (h : TrSt B cb w E k s n v wr) (hcl : cb < w.heap.size) (hc : IsCur B wx cb) (ho : Only cb wr wx) : TrSt B cb w E k s n v wx :=
  ⟨h.1.only hc ho (by omega), h.2.1.only ho (by have := h.2.2.1; omega), h.2.2⟩
theorem TrSt.later {B cb E : Nat} {w wr wx : World} {k n : Int} {s : ByteArray} {v : Value} (h : TrSt B cb w E k s n v wr) (hB : B ≤ w.heap.size) (hb : Below wr.heap.size wr wx) : TrSt B cb w E k s n v wx :=
  ⟨h.1.later hb hB, h.2.1.later hb, h.2.2⟩
theorem LeafSt.set {B cb b : Nat} {w wr : World} (h : LeafSt B cb w wr) (hB : B ≤ w.heap.size) (hcl : cb < w.heap.size) (hb : w.heap.size < b) (o : Nat) (u : Value) : LeafSt B cb w (wr.setCell ⟨b, o, none⟩ u) := by
  obtain ⟨h1, h2, h3⟩ := h
  refine ⟨h1.keep (Below.heap_setCell wr ⟨b, o, none⟩ u _ (show w.heap.size ≠ b by omega)), ?_, ⟨h3.1, h3.2, h3.3, by simp [World.setCell]; exact h3.size, fun j hj1 hj2 => (Below.heap_setCell wr ⟨b, o, none⟩ u j (show j ≠ b by omega)).trans (h3.block j hj1 hj2)⟩⟩
  obtain ⟨v, m, i, x, c1, c2, c3⟩ := h2
  refine ⟨v, m, i, x, c1, code_below c2 ((Below.refl B wr).setCell (p := ⟨b, o, none⟩) (by show B ≤ b; omega) u), ?_⟩
  rw [Below.heap_setCell wr ⟨b, o, none⟩ u cb (show cb ≠ b by omega)]; exact c3
theorem TrSt.kind {B cb E : Nat} {w wr : World} {k n : Int} {s : ByteArray} {v : Value} (h : TrSt B cb w E k s n v wr) (hB : B ≤ w.heap.size) (hcl : cb < w.heap.size) (k2 : Int) : TrSt B cb w E k2 s n v (wr.setCell ⟨E, 0, none⟩ (.int .i64 k2)) := by
  refine ⟨h.1.set hB hcl h.2.2.1 _ _, ?_, h.2.2⟩
  obtain ⟨⟨a0, a1, a2, a3, a4⟩, f0, f1, f2, f3, f4⟩ := h.2.1
  refine ⟨⟨?_, ?_, ?_, ?_, ?_⟩, ?_, ?_, ?_, ?_, ?_⟩
  all_goals go_simp
theorem TrSt.text {B cb E : Nat} {w wr : World} {k n : Int} {s : ByteArray} {v : Value} (h : TrSt B cb w E k s n v wr) (hB : B ≤ w.heap.size) (hcl : cb < w.heap.size) (s2 : ByteArray) (hs : s2.size ≤ 4) : TrSt B cb w E k s2 n v (wr.setCell ⟨E, 1, none⟩ (.string s2)) := by
  refine ⟨h.1.set hB hcl h.2.2.1 _ _, ?_, ⟨h.2.2.1, hs⟩⟩
  obtain ⟨⟨a0, a1, a2, a3, a4⟩, f0, f1, f2, f3, f4⟩ := h.2.1
  refine ⟨⟨?_, ?_, ?_, ?_, ?_⟩, ?_, ?_, ?_, ?_, ?_⟩
  all_goals go_simp
theorem TrSt.num {B cb E : Nat} {w wr : World} {k n : Int} {s : ByteArray} {v : Value} (h : TrSt B cb w E k s n v wr) (hB : B ≤ w.heap.size) (hcl : cb < w.heap.size) (n2 : Int) : TrSt B cb w E k s n2 v (wr.setCell ⟨E, 2, none⟩ (.int .i64 n2)) := by
  refine ⟨h.1.set hB hcl h.2.2.1 _ _, ?_, h.2.2⟩
  obtain ⟨⟨a0, a1, a2, a3, a4⟩, f0, f1, f2, f3, f4⟩ := h.2.1
  refine ⟨⟨?_, ?_, ?_, ?_, ?_⟩, ?_, ?_, ?_, ?_, ?_⟩
  all_goals go_simp
theorem TrSt.kids {B cb E : Nat} {w wr : World} {k n : Int} {s : ByteArray} {v : Value} (h : TrSt B cb w E k s n v wr) (hB : B ≤ w.heap.size) (hcl : cb < w.heap.size) (u : Value) : TrSt B cb w E k s n u (wr.setCell ⟨E, 4, none⟩ u) :=
  ⟨h.1.set hB hcl h.2.2.1 _ _, h.2.1.fifth u, h.2.2⟩
theorem ite_mem {α : Type} {c : Prop} [Decidable c] {a b : α} {l : List α} (ha : a ∈ l) (hb : b ∈ l) : (if c then a else b) ∈ l := by split <;> assumption
theorem kids_bounds (k : Int) : 0 ≤ (Ex.kidsOf k).1 ∧ (Ex.kidsOf k).1 ≤ 3 ∧ 0 ≤ (Ex.kidsOf k).2 ∧ (Ex.kidsOf k).2 ≤ 24 := by
  have h : Ex.kidsOf k ∈ ([(0, 8), (1, 1), (2, 2), (2, 3), (1, 9), (3, 3), (0, 24), (1, 2), (1, 14), (0, 1), (0, 2), (2, 8), (0, 0)] : List (Int × Int)) := by
    unfold Ex.kidsOf
    repeat refine ite_mem (by decide) ?_
    decide
  have hall : ∀ p ∈ ([(0, 8), (1, 1), (2, 2), (2, 3), (1, 9), (3, 3), (0, 24), (1, 2), (1, 14), (0, 1), (0, 2), (2, 8), (0, 0)] : List (Int × Int)), 0 ≤ p.1 ∧ p.1 ≤ 3 ∧ 0 ≤ p.2 ∧ p.2 ≤ 24 := by decide
  exact hall _ h
theorem min_at (a b : Int) (w : World) : Calls Try.prog 64 #[.int .i64 a, .int .i64 b] w fun e w' => e = .returned (.int .i64 (min a b)) ∧ w = w' := by
  by_cases h : a < b
  · rw [show min a b = a by omega]
    go_enter Try.func64, Try.ntmps64
    go_wp2
    go_ret
    exact ⟨rfl, rfl⟩
  · rw [show min a b = b by omega]
    go_enter Try.func64, Try.ntmps64
    go_wp2
    go_ret
    exact ⟨rfl, rfl⟩
/-- The greatest bulk of a drawn tree. -/
def bnd : Nat → Nat
  | 0 => 128
  | e + 1 => 10 + 6 * bnd e
theorem bnd_le (e : Nat) : 128 ≤ bnd e := by
  induction e with
  | zero => exact Nat.le_refl _
  | succ e ih => rw [bnd]; omega
theorem bnd_5 : bnd 5 ≤ 1040000 := by decide
/-- Elements no greater than M. -/
def Small (M : Nat) (ld : List El) : Prop := ∀ p ∈ ld, p.1.bulk ≤ M
theorem small_bulk {M : Nat} : ∀ {ld : List El}, Small M ld → Ex.bulks (ld.map Prod.fst) ≤ ld.length * M := by
  intro ld
  induction ld with
  | nil => intro _; simp [Ex.bulks]
  | cons p r ih =>
    intro h
    rw [List.map_cons, Ex.bulks, List.length_cons, Nat.succ_mul]
    have h1 := h p List.mem_cons_self
    have h2 := ih fun q hq => h q (List.mem_cons_of_mem _ hq)
    omega
theorem LeafSt.ret {B cb : Nat} {w wr : World} (h : LeafSt B cb w wr) (hB : B ≤ w.heap.size) (hne : w.heap.size ≠ cb) {t : Ex.T} {v : Value} {F : List Nat} {M : Nat} (ho : OwnK wr v t.kids F) (hF : ∀ b ∈ F, w.heap.size < b ∧ b < wr.heap.size) (hb : t.bulk ≤ M) :
    DrawnT M B cb w (.returned (exV t v)) (((((wr.setCell ⟨w.heap.size, 0, none⟩ (.int .i64 t.kind)).setCell ⟨w.heap.size, 1, none⟩ (.string t.text)).setCell ⟨w.heap.size, 2, none⟩ (.int .i64 t.num)).setCell ⟨w.heap.size, 3, none⟩ (.int .i64 t.line)).setCell ⟨w.heap.size, 4, none⟩ v) := by
  have hset : ∀ (A : World) (o : Nat) (u : Value), Only cb w A → IsCur B A cb → Only cb w (A.setCell ⟨w.heap.size, o, none⟩ u) ∧ IsCur B (A.setCell ⟨w.heap.size, o, none⟩ u) cb := by
    intro A o u hA hc
    refine ⟨⟨hA.1, hA.2, hA.3, by simp [World.setCell]; exact hA.size, fun b h1 h2 => (Below.heap_setCell A ⟨w.heap.size, o, none⟩ u b (show b ≠ w.heap.size by omega)).trans (hA.block b h1 h2)⟩, ?_⟩
    obtain ⟨v, m, i, x, h1, h2, h3⟩ := hc
    refine ⟨v, m, i, x, h1, code_below h2 ((Below.refl B A).setCell (p := ⟨w.heap.size, o, none⟩) hB u), ?_⟩
    rw [Below.heap_setCell A ⟨w.heap.size, o, none⟩ u cb (fun e => hne e.symm)]; exact h3
  obtain ⟨h1, h2, h3⟩ := h
  obtain ⟨o1, c1⟩ := hset _ 0 (.int .i64 t.kind) h3 h2
  obtain ⟨o2, c2⟩ := hset _ 1 (.string t.text) o1 c1
  obtain ⟨o3, c3⟩ := hset _ 2 (.int .i64 t.num) o2 c2
  obtain ⟨o4, c4⟩ := hset _ 3 (.int .i64 t.line) o3 c3
  obtain ⟨o5, c5⟩ := hset _ 4 v o4 c4
  refine ⟨t, v, F, rfl, OwnK.keep _ (fun b hbF => ?_) ho, fun b hbF => ?_, hb, c5, o5⟩
  · have := hF b hbF
    rw [Below.heap_setCell _ _ _ _ (show b ≠ w.heap.size by omega), Below.heap_setCell _ _ _ _ (show b ≠ w.heap.size by omega), Below.heap_setCell _ _ _ _ (show b ≠ w.heap.size by omega), Below.heap_setCell _ _ _ _ (show b ≠ w.heap.size by omega), Below.heap_setCell _ _ _ _ (show b ≠ w.heap.size by omega)]
  · have := hF b hbF
    refine ⟨by omega, ?_⟩
    simpa [World.setCell] using this.2
theorem TrSt.grown {B cb E : Nat} {w wa w8 : World} {k n : Int} {s : ByteArray} {v : Value} {row : Option Nat} (h : TrSt B cb w E k s n v wa) (hB : B ≤ w.heap.size) (hcl : cb < w.heap.size) (hgr : wa.grownBy w8 row) (hrow : ∀ b, row = some b → E < b) : TrSt B cb w E k s n v w8 := by
  obtain ⟨⟨h1, h2, h3⟩, h4, h5, h6⟩ := h
  have hsz := h1.lt
  have hs4 := h4.lt
  have old : ∀ b, b ≤ E → b < wa.heap.size → w8.heap[b]? = wa.heap[b]? := fun b hb1 hb2 => hgr.block b hb2 fun e => by have := hrow b e.symm; omega
  refine ⟨⟨h1.keep (old _ (by omega) hsz), ?_, ⟨hgr.1.trans h3.1, hgr.2.trans h3.2, hgr.3.trans h3.3, Nat.le_trans h3.size hgr.size, fun j hj1 hj2 => (old j (by omega) (by omega)).trans (h3.block j hj1 hj2)⟩⟩, h4.keep (old _ (Nat.le_refl _) hs4), h5, h6⟩
  · obtain ⟨v, m, i, x, c1, c2, c3⟩ := h2
    refine ⟨v, m, i, x, c1, code_below c2 ((Below.refl B wa).grown hgr (by omega) fun b e => by have := hrow b e; omega), ?_⟩
    rw [old cb (by omega) (by omega)]; exact c3
theorem AppK.only {B cb : Nat} {w w1 : World} {v : Value} {ld : List El} (h : AppK B w v ld) (ho : Only cb w w1) (hcb : cb < B) : AppK B w1 v ld :=
  h.keep ho.size fun b hb1 hb2 => ho.block b hb2 fun e => by have := Option.some.inj e; omega
theorem tr_next {B cb E : Nat} {w wr w6 w8 : World} {k n : Int} {s : ByteArray} {x : Ex.T} {v v6 : Value} {ld : List El} {g8 c8 : Nat} {F6 : List Nat} (hT : TrSt B cb w E k s n v wr) (hB : B ≤ w.heap.size) (hcl : cb < w.heap.size) (hap : AppK (E + 1) wr v ld)
    (o6 : OwnK w6 v6 x.kids F6) (f6 : Foot wr.drew.heap.size w6 F6) (c6 : IsCur B w6 cb) (on6 : Only cb wr.drew w6)
    (hown : w8.ownsRow (E + 1) 26 5 (.slice (some ⟨g8, 0, none⟩) (ld.length + 1) c8) (ld.length + 1) (rowV ld ++ rowV [(x, v6, F6)])) (hgr : (w6.alloc (iexN x v6)).grownBy w8 v.ownBlock) (hor : v.ownBlock = some g8 ∨ (w6.alloc (iexN x v6)).heap.size ≤ g8) :
    TrSt B cb w E k s n (.slice (some ⟨g8, 0, none⟩) (ld.length + 1) c8) (w8.setCell ⟨E, 4, none⟩ (.slice (some ⟨g8, 0, none⟩) (ld.length + 1) c8)) ∧ AppK (E + 1) (w8.setCell ⟨E, 4, none⟩ (.slice (some ⟨g8, 0, none⟩) (ld.length + 1) c8)) (.slice (some ⟨g8, 0, none⟩) (ld.length + 1) c8) (ld ++ [(x, v6, F6)]) := by
  have hE := hT.2.2.1
  have hTd := hT.later hB ((Below.refl wr.heap.size wr).drew)
  have hT6 := (hTd.only hcl c6 on6).later hB (bl1 w6 (iexN x v6))
  have hsz : (w6.alloc (iexN x v6)).heap.size = w6.heap.size + 1 := by simp
  have hs6 : wr.heap.size ≤ w6.heap.size := on6.size
  have hap7 := ((hap.later ((Below.refl wr.heap.size wr).drew)).only on6 (by omega)).later (bl1 w6 (iexN x v6))
  have hT8 := hT6.grown hB hcl hgr fun b e => by have := (ownBlock_lt hap.1 e).1; omega
  refine ⟨hT8.kids hB hcl _, AppK.set (AppK.push (p := (x, v6, F6)) hap7 (OwnK.keep _ (fun b hb2 => ?_) o6) (fun b hb2 => ?_) hown hgr rfl hor) (Nat.lt_succ_self _) _ _⟩
  · have := f6 b hb2
    exact (bl1 w6 _).block b this.2
  · have h1 := f6 b hb2
    have h2 : wr.drew.heap.size = wr.heap.size := rfl
    rw [h2] at h1
    have h3 := hT.lt
    refine ⟨by omega, by omega, fun h4 => ?_, fun e => ?_⟩
    · have := hap.2.2.1 b h4; omega
    · have := (ownBlock_lt hap.1 e).2; omega
theorem step_tree {B cb e : Nat} {dv : Value} {w : World} {ops : Array Oper} {o : Oper} {a : Act} {K : Act → World → Prop} {Q : Exit → Act → World → Prop} {E : Prop} (hgd : o.guard = none) (x y : Operand)
    (ho : o.op = .call { callee := .value (.func 48), args := #[x, y], argTypes := #[58, 3] }) (hx : a.eval x = .pointer (some ⟨cb, 0, none⟩)) (hy : a.eval y = dv) (hc : Calls Try.prog 48 #[.pointer (some ⟨cb, 0, none⟩), dv] w (DrawnT (bnd e) B cb w))
    (h : ∀ t v F w', OwnK w' v t.kids F → Foot w.heap.size w' F → t.bulk ≤ bnd e → IsCur B w' cb → Only cb w w' → K (a.put o.dst (exV t v)) w') : if Region.wanted o (yielded ops a.tmps) = true then Oper.wp Try.prog o a w K Q else E := by
  have hw : Region.wanted o (yielded ops a.tmps) = true := by simp [Region.wanted, hgd]
  rw [if_pos hw]
  have hen : (execOp a.eval o).run Try.prog w = .ok (.enter 48 #[.pointer (some ⟨cb, 0, none⟩), dv]) w := by
    unfold execOp
    rw [ho]
    unfold Act.eval at hx hy
    go_simp
    refine ⟨?_, ?_⟩
    · simpa using hx
    · simpa using hy
  unfold Oper.wp
  rw [hen, Oper.upon_enter]
  exact hc.mono fun e w' ⟨t, v, F, h1, h2, h3, h4, h5, h6⟩ => by subst h1; exact h t v F w' h2 h3 h4 h5 h6
end Go.Proofs.Ytkkopnhbafjnaaa
