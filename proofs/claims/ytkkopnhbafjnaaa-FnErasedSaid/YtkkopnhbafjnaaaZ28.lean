/- Joined texts: N33, T3. No conditions besides those that each states. -/
import Derived.Deep.DeepCutAuto
import Derived.Maps.AppendAt
import Derived.Deep.AppendLies
import Derived.RegionTactic
import Derived.Test.YtkkopnhbafjnaaaZ10
import Derived.Test.YtkkopnhbafjnaaaZ16
import Derived.Test.YtkkopnhbafjnaaaZ26
import Derived.Test.YtkkopnhbafjnaaaZ27
/- The walk of the law on EraseLines. No conditions. -/
namespace Go.Proofs.Ytkkopnhbafjnaaa
open Go.RowKit
set_option linter.unusedVariables false

mutual
theorem erase_count : ∀ (t : Ex.T), t.erase.count = t.count
  | .node k s n l ks => by rw [Ex.T.erase, Ex.T.count, Ex.T.count, erases_count ks]
theorem erases_count : ∀ (l : List Ex.T), Ex.counts (Ex.erases l) = Ex.counts l
  | [] => by rw [Ex.erases]
  | x :: r => by rw [Ex.erases, Ex.counts, Ex.counts, erase_count x, erases_count r]
end
theorem erases_len (l : List Ex.T) : (Ex.erases l).length = l.length := by rw [Ex.erases_map, List.length_map]
mutual
theorem erase_bulk : ∀ (t : Ex.T), t.erase.bulk = t.bulk
  | .node k s n l ks => by rw [Ex.T.erase, Ex.T.bulk, Ex.T.bulk, erases_bulk ks, erases_len]
theorem erases_bulk : ∀ (l : List Ex.T), Ex.bulks (Ex.erases l) = Ex.bulks l
  | [] => by rw [Ex.erases]
  | x :: r => by rw [Ex.erases, Ex.bulks, Ex.bulks, erase_bulk x, erases_bulk r]
end
theorem OwnK.later {w w' : World} {v : Value} {l : List Ex.T} {F : List Nat} (h : OwnK w v l F) (hF : ∀ b ∈ F, b < w.heap.size) (hb : Below w.heap.size w w') : OwnK w' v l F := OwnK.keep l (fun b hb2 => hb.block b (hF b hb2)) h
theorem cells_keep {w w' : World} {b : Nat} {t : Ex.T} {v : Value} (h : CellsE w b t v) (hh : w'.heap[b]? = w.heap[b]?) : CellsE w' b t v := CellsE.keep h hh
theorem cells_lt {w : World} {b : Nat} {t : Ex.T} {v : Value} (h : CellsE w b t v) : b < w.heap.size := World.block_lt_of_cell? w _ h.1
/-- What lies in memory while the law runs: the tree that came in, what the model made, what the program made. -/
def EB (w : World) (t te : Ex.T) (A vW vG : Value) (FW FG : List Nat) (b4 b5 b6 : Nat) (kG : List Ex.T) (W : World) : Prop :=
  (CellsE W w.heap.size t A ∧ CellsE W b4 te vW ∧ CellsE W b6 te vG) ∧ (OwnK W vW te.kids FW ∧ OwnK W vG kG FG) ∧ Below w.heap.size w W ∧
  (w.heap.size < b4 ∧ b4 < b5 ∧ b5 < b6 ∧ b6 < W.heap.size) ∧ (∀ b ∈ FW, w.heap.size < b ∧ b < b4) ∧ ∀ b ∈ FG, b5 < b ∧ b < b6
theorem EB.later {w W W' : World} {t te : Ex.T} {A vW vG : Value} {FW FG : List Nat} {b4 b5 b6 : Nat} {kG : List Ex.T} (h : EB w t te A vW vG FW FG b4 b5 b6 kG W) (hb : Below W.heap.size W W') : EB w t te A vW vG FW FG b4 b5 b6 kG W' := by
  obtain ⟨⟨h1, h2, h3⟩, ⟨h4, h5⟩, h6, ⟨h7, h8, h9, h10⟩, h11, h12⟩ := h
  have hs := hb.size
  exact ⟨⟨h1.later hb, h2.later hb, h3.later hb⟩, ⟨h4.later (fun b hbF => by have := h11 b hbF; omega) hb, h5.later (fun b hbF => by have := h12 b hbF; omega) hb⟩, below_then h6 hb, ⟨h7, h8, h9, by omega⟩, h11, h12⟩
theorem EB.only {w W W' : World} {t te : Ex.T} {A vW vG : Value} {FW FG FX : List Nat} {b4 b5 b6 : Nat} {kG : List Ex.T} (h : EB w t te A vW vG FW FG b4 b5 b6 kG W) (hX : ∀ b ∈ FX, b4 < b ∧ b < b5) (hb : OnlyF FX W W') : EB w t te A vW vG FW FG b4 b5 b6 kG W' := by
  obtain ⟨⟨h1, h2, h3⟩, ⟨h4, h5⟩, h6, ⟨h7, h8, h9, h10⟩, h11, h12⟩ := h
  have hs := hb.1.size
  have old : ∀ b, b < W.heap.size → ¬ (b4 < b ∧ b < b5) → W'.heap[b]? = W.heap[b]? := fun b hb1 hb2 => hb.2 b (fun e => hb2 (hX b e)) hb1
  exact ⟨⟨h1.keep (old _ (by omega) (by omega)), h2.keep (old _ (by omega) (by omega)), h3.keep (old _ (by omega) (by omega))⟩, ⟨OwnK.keep _ (fun b hbF => old b (by have := h11 b hbF; omega) (by have := h11 b hbF; omega)) h4, OwnK.keep _ (fun b hbF => old b (by have := h12 b hbF; omega) (by have := h12 b hbF; omega)) h5⟩, h6.trans (hb.below (fun b hbF => by have := hX b hbF; omega) (by have := h6.size; omega)), ⟨h7, h8, h9, by omega⟩, h11, h12⟩
theorem EB.onlyG {w W W' : World} {t te : Ex.T} {A vW vG : Value} {FW FG : List Nat} {b4 b5 b6 : Nat} {kG kH : List Ex.T} (h : EB w t te A vW vG FW FG b4 b5 b6 kG W) (hk : OwnK W' vG kH FG) (hb : OnlyF FG W W') : EB w t te A vW vG FW FG b4 b5 b6 kH W' := by
  obtain ⟨⟨h1, h2, h3⟩, ⟨h4, h5⟩, h6, ⟨h7, h8, h9, h10⟩, h11, h12⟩ := h
  have hs := hb.1.size
  have old : ∀ b, b < W.heap.size → ¬ (b5 < b ∧ b < b6) → W'.heap[b]? = W.heap[b]? := fun b hb1 hb2 => hb.2 b (fun e => hb2 (h12 b e)) hb1
  exact ⟨⟨h1.keep (old _ (by omega) (by omega)), h2.keep (old _ (by omega) (by omega)), h3.keep (old _ (by omega) (by omega))⟩, ⟨OwnK.keep _ (fun b hbF => old b (by have := h11 b hbF; omega) (by have := h11 b hbF; omega)) h4, hk⟩, h6.trans (hb.below (fun b hbF => by have := h12 b hbF; omega) (by have := h6.size; omega)), ⟨h7, h8, h9, by omega⟩, h11, h12⟩
theorem EB.gbound {w W : World} {t te : Ex.T} {A vW vG : Value} {FW FG : List Nat} {b4 b5 b6 : Nat} {kG : List Ex.T} (h : EB w t te A vW vG FW FG b4 b5 b6 kG W) : ∀ b ∈ FG, b < W.heap.size := fun b hb => by have h1 := h.2.2.2.2.2 b hb; have h2 := h.2.2.2.1; omega
end Go.Proofs.Ytkkopnhbafjnaaa
/- Appending a few bytes that are written out to bytes of the call's own: in a plain region, and at a step of one that draws its order. No conditions. -/
namespace Go.Proofs.Ytkkopnhbafjnaaa
open Go.RowKit
set_option linter.unusedVariables false

theorem new8s (w : World) (xs : List Value) (t : TypeId) : ∀ (j : Nat) (u : Value), xs[j]? = some u → (w.alloc (.cells xs.toArray t)).cell? ((⟨w.heap.size, 0, none⟩ : Addr).add j) = some u := by
  intro j u hj
  have e : (⟨w.heap.size, 0, none⟩ : Addr).add j = ⟨w.heap.size, j, none⟩ := by unfold Addr.add; split <;> simp_all
  rw [e, World.cell?_alloc_mark]
  simpa using hj
theorem max8b {n : Nat} (h : n ≤ 100000000) : n ≤ maxLen := by unfold maxLen; omega
theorem run_app8 (w : World) (base : Nat) (v : Value) (l news : List UInt8) (hown : Own8 w base v l) (hB : base ≤ w.heap.size) (n : Nat) (hn : n = news.length) (hl : l.length + n ≤ 100000000) (ty tc : TypeId) :
    ∃ v' w', (Builtin.append_ #[22, 22] ty #[v, .slice (some ⟨w.heap.size, 0, none⟩) n n]).run Try.prog (w.alloc (.cells (Lib.byteCells news).toArray tc)) = .ok v' w' ∧ Own8 w' base v' (l ++ news) ∧ Below base w w' := by
  subst hn
  obtain ⟨i0, hi, hz0, hz1, hz2⟩ := info_parts info8
  have hown2 := World.ownsRow.alloc hown (.cells (Lib.byteCells news).toArray tc)
  obtain ⟨v', w', hrun, h2, h3, _⟩ := run_append_own_at (P := Try.prog) (w.alloc (.cells (Lib.byteCells news).toArray tc)) base 22 ty 5 i0 (.int .u8 0) 1 1 Try.underlying22 hi hz0 hz1 hz2 rfl (by decide) v l.length (Lib.byteCells l) hown2
    ⟨w.heap.size, 0, none⟩ news.length news.length (Lib.byteCells news) (by rw [Lib.byteCells_length]; omega) (new8s _ _ _) (Lib.byteCells_one _) (max8b hl) (by omega) (by simp; omega)
  refine ⟨v', w', hrun, ?_, ?_⟩
  · unfold Own8; rw [cells8_app, List.length_append]; exact h2
  · exact ((Below.refl base w).alloc hB _).grown h3 (by simp; omega) (fun k hk => (hown2.lt k hk).1)
theorem wp_app8 {w : World} {o : Oper} {a : Act} {K : Act → World → Prop} {Q : Exit → Act → World → Prop} (s x : Operand)
    (ho : o.op = .call { callee := .builtin .append, args := #[s, x], argTypes := #[22, 22] })
    (base : Nat) (v : Value) (l news : List UInt8) (hs : a.eval s = v) (hown : Own8 w base v l) (hB : base ≤ w.heap.size) (n : Nat) (hn : n = news.length) (hx : a.eval x = .slice (some ⟨w.heap.size, 0, none⟩) n n) (hl : l.length + n ≤ 100000000)
    (cs : Array Value) (tc : TypeId) (hcs : cs = (Lib.byteCells news).toArray)
    (h : ∀ v' w', Hid (Own8 w' base v' (l ++ news)) → Hid (Below base w w') → K (a.put o.dst v') w') : o.wp Try.prog a (w.alloc (.cells cs tc)) K Q := by
  subst hcs
  obtain ⟨v', w', hrun, h2, h3⟩ := run_app8 w base v l news hown hB n hn hl o.type tc
  unfold Oper.wp execOp
  simp only [ho, resolve, invoke, builtin, Sem.run_bind, Sem.run_pure, Result.andThen_ok, List.map_toArray, List.map_cons, List.map_nil, hs, hx, hrun]
  exact h v' w' h2 h3
theorem wpList_app8 {w : World} {ops : Array Oper} {rest : List Oper} {o : Oper} {a : Act} {Q : Exit → Act → World → Prop} (hgd : o.guard = none) (s x : Operand)
    (ho : o.op = .call { callee := .builtin .append, args := #[s, x], argTypes := #[22, 22] })
    (base : Nat) (v : Value) (l news : List UInt8) (hs : a.eval s = v) (hown : Own8 w base v l) (hB : base ≤ w.heap.size) (n : Nat) (hn : n = news.length) (hx : a.eval x = .slice (some ⟨w.heap.size, 0, none⟩) n n) (hl : l.length + n ≤ 100000000)
    (cs : Array Value) (tc : TypeId) (hcs : cs = (Lib.byteCells news).toArray)
    (h : ∀ v' w', Hid (Own8 w' base v' (l ++ news)) → Hid (Below base w w') → wpList Try.prog ops Q rest (a.put o.dst v') w') : wpList Try.prog ops Q (o :: rest) a (w.alloc (.cells cs tc)) :=
  wpList_plain hgd fun _ hK => wp_app8 s x ho base v l news hs hown hB n hn hx hl cs tc hcs fun v' w' h2 h3 => hK _ _ (h v' w' h2 h3)
theorem step_app8 {w : World} {ops : Array Oper} {o : Oper} {a : Act} {K : Act → World → Prop} {Q : Exit → Act → World → Prop} {E : Prop} (hgd : o.guard = none) (s x : Operand)
    (ho : o.op = .call { callee := .builtin .append, args := #[s, x], argTypes := #[22, 22] })
    (base : Nat) (v : Value) (l news : List UInt8) (hs : a.eval s = v) (hown : Own8 w base v l) (hB : base ≤ w.heap.size) (n : Nat) (hn : n = news.length) (hx : a.eval x = .slice (some ⟨w.heap.size, 0, none⟩) n n) (hl : l.length + n ≤ 100000000)
    (cs : Array Value) (tc : TypeId) (hcs : cs = (Lib.byteCells news).toArray)
    (h : ∀ v' w', Hid (Own8 w' base v' (l ++ news)) → Hid (Below base w w') → K (a.put o.dst v') w') : if Region.wanted o (yielded ops a.tmps) = true then Oper.wp Try.prog o a (w.alloc (.cells cs tc)) K Q else E := by
  have hw : Region.wanted o (yielded ops a.tmps) = true := by simp [Region.wanted, hgd]
  rw [if_pos hw]
  exact wp_app8 s x ho base v l news hs hown hB n hn hx hl cs tc hcs h
/-- The same where the order has been drawn. -/
theorem step_app8d {w : World} {ops : Array Oper} {o : Oper} {a : Act} {K : Act → World → Prop} {Q : Exit → Act → World → Prop} {E : Prop} (hgd : o.guard = none) (s x : Operand)
    (ho : o.op = .call { callee := .builtin .append, args := #[s, x], argTypes := #[22, 22] })
    (base : Nat) (v : Value) (l news : List UInt8) (hs : a.eval s = v) (hown : Own8 w base v l) (hB : base ≤ w.heap.size) (n : Nat) (hn : n = news.length) (hx : a.eval x = .slice (some ⟨w.heap.size, 0, none⟩) n n) (hl : l.length + n ≤ 100000000)
    (cs : Array Value) (tc : TypeId) (hcs : cs = (Lib.byteCells news).toArray)
    (h : ∀ v' w', Hid (Own8 w' base v' (l ++ news)) → Hid (Below base w w') → K (a.put o.dst v') w') : if Region.wanted o (yielded ops a.tmps) = true then Oper.wp Try.prog o a (w.alloc (.cells cs tc)).drew K Q else E :=
  step_app8 (w := w.drew) hgd s x ho base v l news hs hown hB n hn hx hl cs tc hcs fun v' w' h2 h3 => h v' w' h2 (Lib.hid (Below.trans (Below.drew (Below.refl base w)) h3.out))
/-- The same where the memory made for the new bytes lies behind other memory. -/
theorem own8_lit (w : World) (base : Nat) (l : List UInt8) (n : Nat) (hB : base ≤ w.heap.size) (hn : l.length = n) (hm : n ≤ 100) : Own8 (w.alloc (.cells (Lib.byteCells l).toArray 5)) base (.slice (some ⟨w.heap.size, 0, none⟩) n n) l := by
  subst hn
  have h := World.ownsRow_lit (base := base) (e := 5) (size := 1) w (Lib.byteCells l).toArray l.length hB (by unfold maxLen; omega) (by rw [List.size_toArray, Lib.byteCells_length]; omega)
  simpa [Own8] using h
/-- The bytes of the call's own, and what lies below, in a later world. -/
theorem own8_at {w w1 : World} {base : Nat} {v : Value} {l : List UInt8} (h : Own8 w base v l) (hb : Below w.heap.size w w1) : Own8 w1 base v l := own8_below h hb
theorem own8_drewN {w : World} {base : Nat} {v : Value} {l : List UInt8} (h : Own8 w base v l) (n : Nat) : Own8 (w.drewN n) base v l := h
theorem drewN8 {B : Nat} {w wr : World} (h : Below B w wr) : ∀ n, Below B w (wr.drewN n)
  | 0 => h
  | n + 1 => ⟨h.1, h.2, h.3, h.4, h.5⟩
end Go.Proofs.Ytkkopnhbafjnaaa
