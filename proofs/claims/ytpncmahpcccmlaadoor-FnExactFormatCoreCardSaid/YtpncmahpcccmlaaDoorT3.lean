/- Appending a few bytes that are written out to bytes of the call's own: in a plain region, and at a step of one that draws its order. No conditions. -/
import Derived.Test.YtpncmahpcccmlaaDoorT1
import Derived.Maps.AppendAt
import Derived.Deep.AppendLies
import Derived.RegionTactic
namespace Go.Proofs.YtpncmahpcccmlaaDoor
open Go.RowKit
set_option linter.unusedVariables false

theorem new8s (w : World) (xs : List Value) (t : TypeId) : ∀ (j : Nat) (u : Value), xs[j]? = some u → (w.alloc (.cells xs.toArray t)).cell? ((⟨w.heap.size, 0, none⟩ : Addr).add j) = some u := by
  intro j u hj
  have e : (⟨w.heap.size, 0, none⟩ : Addr).add j = ⟨w.heap.size, j, none⟩ := by unfold Addr.add; split <;> simp_all
  rw [e, World.cell?_alloc_mark]
  simpa using hj
theorem max8b {n : Nat} (h : n ≤ 100000000) : n ≤ maxLen := by unfold maxLen; omega
theorem run_app8 (w : World) (base : Nat) (v : Value) (l news : List UInt8) (hown : Own8 w base v l) (hB : base ≤ w.heap.size) (n : Nat) (hn : n = news.length) (hl : l.length + n ≤ 100000000) (ty tc : TypeId) :
    ∃ v' w', (Builtin.append_ #[22, 22] ty #[v, .slice (some ⟨w.heap.size, 0, none⟩) n n]).run Tryd.prog (w.alloc (.cells (Lib.byteCells news).toArray tc)) = .ok v' w' ∧ Own8 w' base v' (l ++ news) ∧ Below base w w' := by
  subst hn
  obtain ⟨i0, hi, hz0, hz1, hz2⟩ := info_parts info8
  have hown2 := World.ownsRow.alloc hown (.cells (Lib.byteCells news).toArray tc)
  obtain ⟨v', w', hrun, h2, h3, _⟩ := run_append_own_at (P := Tryd.prog) (w.alloc (.cells (Lib.byteCells news).toArray tc)) base 22 ty 5 i0 (.int .u8 0) 1 1 Tryd.underlying22 hi hz0 hz1 hz2 rfl (by decide) v l.length (Lib.byteCells l) hown2
    ⟨w.heap.size, 0, none⟩ news.length news.length (Lib.byteCells news) (by rw [Lib.byteCells_length]; omega) (new8s _ _ _) (Lib.byteCells_one _) (max8b hl) (by omega) (by simp; omega)
  refine ⟨v', w', hrun, ?_, ?_⟩
  · unfold Own8; rw [cells8_app, List.length_append]; exact h2
  · exact ((Below.refl base w).alloc hB _).grown h3 (by simp; omega) (fun k hk => (hown2.lt k hk).1)
theorem wp_app8 {w : World} {o : Oper} {a : Act} {K : Act → World → Prop} {Q : Exit → Act → World → Prop} (s x : Operand)
    (ho : o.op = .call { callee := .builtin .append, args := #[s, x], argTypes := #[22, 22] })
    (base : Nat) (v : Value) (l news : List UInt8) (hs : a.eval s = v) (hown : Own8 w base v l) (hB : base ≤ w.heap.size) (n : Nat) (hn : n = news.length) (hx : a.eval x = .slice (some ⟨w.heap.size, 0, none⟩) n n) (hl : l.length + n ≤ 100000000)
    (cs : Array Value) (tc : TypeId) (hcs : cs = (Lib.byteCells news).toArray)
    (h : ∀ v' w', Hid (Own8 w' base v' (l ++ news)) → Hid (Below base w w') → K (a.put o.dst v') w') : o.wp Tryd.prog a (w.alloc (.cells cs tc)) K Q := by
  subst hcs
  obtain ⟨v', w', hrun, h2, h3⟩ := run_app8 w base v l news hown hB n hn hl o.type tc
  unfold Oper.wp execOp
  simp only [ho, resolve, invoke, builtin, Sem.run_bind, Sem.run_pure, Result.andThen_ok, List.map_toArray, List.map_cons, List.map_nil, hs, hx, hrun]
  exact h v' w' h2 h3
theorem wpList_app8 {w : World} {ops : Array Oper} {rest : List Oper} {o : Oper} {a : Act} {Q : Exit → Act → World → Prop} (hgd : o.guard = none) (s x : Operand)
    (ho : o.op = .call { callee := .builtin .append, args := #[s, x], argTypes := #[22, 22] })
    (base : Nat) (v : Value) (l news : List UInt8) (hs : a.eval s = v) (hown : Own8 w base v l) (hB : base ≤ w.heap.size) (n : Nat) (hn : n = news.length) (hx : a.eval x = .slice (some ⟨w.heap.size, 0, none⟩) n n) (hl : l.length + n ≤ 100000000)
    (cs : Array Value) (tc : TypeId) (hcs : cs = (Lib.byteCells news).toArray)
    (h : ∀ v' w', Hid (Own8 w' base v' (l ++ news)) → Hid (Below base w w') → wpList Tryd.prog ops Q rest (a.put o.dst v') w') : wpList Tryd.prog ops Q (o :: rest) a (w.alloc (.cells cs tc)) :=
  wpList_plain hgd fun _ hK => wp_app8 s x ho base v l news hs hown hB n hn hx hl cs tc hcs fun v' w' h2 h3 => hK _ _ (h v' w' h2 h3)
theorem step_app8 {w : World} {ops : Array Oper} {o : Oper} {a : Act} {K : Act → World → Prop} {Q : Exit → Act → World → Prop} {E : Prop} (hgd : o.guard = none) (s x : Operand)
    (ho : o.op = .call { callee := .builtin .append, args := #[s, x], argTypes := #[22, 22] })
    (base : Nat) (v : Value) (l news : List UInt8) (hs : a.eval s = v) (hown : Own8 w base v l) (hB : base ≤ w.heap.size) (n : Nat) (hn : n = news.length) (hx : a.eval x = .slice (some ⟨w.heap.size, 0, none⟩) n n) (hl : l.length + n ≤ 100000000)
    (cs : Array Value) (tc : TypeId) (hcs : cs = (Lib.byteCells news).toArray)
    (h : ∀ v' w', Hid (Own8 w' base v' (l ++ news)) → Hid (Below base w w') → K (a.put o.dst v') w') : if Region.wanted o (yielded ops a.tmps) = true then Oper.wp Tryd.prog o a (w.alloc (.cells cs tc)) K Q else E := by
  have hw : Region.wanted o (yielded ops a.tmps) = true := by simp [Region.wanted, hgd]
  rw [if_pos hw]
  exact wp_app8 s x ho base v l news hs hown hB n hn hx hl cs tc hcs h
/-- The same where the order has been drawn. -/
theorem step_app8d {w : World} {ops : Array Oper} {o : Oper} {a : Act} {K : Act → World → Prop} {Q : Exit → Act → World → Prop} {E : Prop} (hgd : o.guard = none) (s x : Operand)
    (ho : o.op = .call { callee := .builtin .append, args := #[s, x], argTypes := #[22, 22] })
    (base : Nat) (v : Value) (l news : List UInt8) (hs : a.eval s = v) (hown : Own8 w base v l) (hB : base ≤ w.heap.size) (n : Nat) (hn : n = news.length) (hx : a.eval x = .slice (some ⟨w.heap.size, 0, none⟩) n n) (hl : l.length + n ≤ 100000000)
    (cs : Array Value) (tc : TypeId) (hcs : cs = (Lib.byteCells news).toArray)
    (h : ∀ v' w', Hid (Own8 w' base v' (l ++ news)) → Hid (Below base w w') → K (a.put o.dst v') w') : if Region.wanted o (yielded ops a.tmps) = true then Oper.wp Tryd.prog o a (w.alloc (.cells cs tc)).drew K Q else E :=
  step_app8 (w := w.drew) hgd s x ho base v l news hs hown hB n hn hx hl cs tc hcs fun v' w' h2 h3 => h v' w' h2 (Lib.hid (Below.trans (Below.drew (Below.refl base w)) h3.out))
/-- The same where the memory made for the new bytes lies behind other memory. -/
theorem own8_lit (w : World) (base : Nat) (l : List UInt8) (n : Nat) (hB : base ≤ w.heap.size) (hn : l.length = n) (hm : n ≤ 100) : Own8 (w.alloc (.cells (Lib.byteCells l).toArray 5)) base (.slice (some ⟨w.heap.size, 0, none⟩) n n) l := by
  subst hn
  have h := World.ownsRow_lit (base := base) (e := 5) (size := 1) w (Lib.byteCells l).toArray l.length hB (by unfold maxLen; omega) (by rw [List.size_toArray, Lib.byteCells_length]; omega)
  simpa [Own8] using h
/-- The bytes of the call's own, and what lies below, in a later world. -/
theorem own8_at {w w1 : World} {base : Nat} {v : Value} {l : List UInt8} (h : Own8 w base v l) (hb : Below w.heap.size w w1) : Own8 w1 base v l := own8_below h hb
theorem own8_drewN {w : World} {base : Nat} {v : Value} {l : List UInt8} (h : Own8 w base v l) (n : Nat) : Own8 (w.drewN n) base v l := h
theorem drewN8 {B : Nat} {w wr : World} (h : Below B w wr) : ∀ n, Below B w (wr.drewN n)
  | 0 => h
  | n + 1 => ⟨h.1, h.2, h.3, h.4, h.5⟩
end Go.Proofs.YtpncmahpcccmlaaDoor
