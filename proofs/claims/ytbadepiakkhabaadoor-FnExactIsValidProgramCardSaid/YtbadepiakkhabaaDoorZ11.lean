/- Joined texts: A32, T3, D1, D2. No conditions besides those that each states. -/
import Derived.BigQuiet
import Derived.Maps.AppendAt
import Derived.Deep.AppendLies
import Derived.RegionTactic
import Derived.Test.YtbadepiakkhabaaDoorProg
import Derived.WalkKit
import Derived.ProofKit
import Derived.WalkLawsBesides
import Derived.WalkSpells
import Derived.Lib.Hide
import Derived.Deep.QuietTactic
import Derived.Test.YtbadepiakkhabaaDoorZ7
import Derived.Test.YtbadepiakkhabaaDoorZ10
/- The program: numbers of core nodes. No conditions. -/
namespace Go.Proofs.YtbadepiakkhabaaDoor.Cr
open Go.RowKit
set_option linter.unusedVariables false

/-- The checker's four counts. -/
def CkAt (w : World) (b : Nat) (E : Co.Env) : Prop := w.cell? ⟨b, 0, none⟩ = some (.int .i64 E.slots) ∧ w.cell? ⟨b, 1, none⟩ = some (.int .i64 E.globs) ∧ w.cell? ⟨b, 2, none⟩ = some (.int .i64 E.routs) ∧ w.cell? ⟨b, 3, none⟩ = some (.int .i64 E.recs)
/-- Counts are small. -/
structure EnvS (E : Co.Env) : Prop where
  s0 : 0 ≤ E.slots
  s1 : E.slots ≤ 1048576
  g0 : 0 ≤ E.globs
  g1 : E.globs ≤ 1048576
  r0 : 0 ≤ E.routs
  r1 : E.routs ≤ 1048576
  c0 : 0 ≤ E.recs
  c1 : E.recs ≤ 1048576
def nLo (E : Co.Env) (k : Int) : Int := if k = 1 then -999999999999 else if k = 10 then 1 else 0
def nHi (E : Co.Env) (k : Int) : Int := if k = 1 then 999999999999 else if k = 5 then E.slots - 1 else if k = 6 then E.globs - 1 else if k = 7 then E.routs - 1 else if k = 8 then 54 else if k = 9 then E.recs - 1 else if k = 10 then 2 else 0
theorem num_in (E : Co.Env) (k n : Int) : Co.inR n (nLo E k) (nHi E k) = Co.numOk E k n := by
  unfold nLo nHi Co.numOk
  by_cases h1 : k = 1
  · subst h1; rfl
  by_cases h5 : k = 5
  · subst h5; rfl
  by_cases h6 : k = 6
  · subst h6; rfl
  by_cases h7 : k = 7
  · subst h7; rfl
  by_cases h8 : k = 8
  · subst h8; rfl
  by_cases h9 : k = 9
  · subst h9; rfl
  by_cases h10 : k = 10
  · subst h10; rfl
  rw [if_neg h1, if_neg h1, if_neg h1, if_neg h10, if_neg h5, if_neg h6, if_neg h7, if_neg h8, if_neg h9, if_neg h10, if_neg h5, if_neg h6, if_neg h7, if_neg h8, if_neg h9, if_neg h10]
  unfold Co.inR
  by_cases h : n = 0
  · subst h; rfl
  · rw [decide_eq_false h, decide_eq_false (by omega)]

theorem nrange_1 (E : Co.Env) (hE : EnvS E) (b : Nat) (w : World) (hc : CkAt w b E) : Calls Tryd.prog 130 #[.pointer (some ⟨b, 0, none⟩), .int .i64 1] w fun e w' => e = .returned (.tuple #[.int .i64 (-999999999999), .int .i64 999999999999]) ∧ Below w.heap.size w w' := by
  obtain ⟨e0, e1, e2, e3⟩ := hc
  clear hE
  go_enter Tryd.func130, Tryd.ntmps130
  go_wp2
  go_ret2
  exact ⟨rfl, Below.refl _ _⟩
theorem nrange_5 (E : Co.Env) (hE : EnvS E) (b : Nat) (w : World) (hc : CkAt w b E) : Calls Tryd.prog 130 #[.pointer (some ⟨b, 0, none⟩), .int .i64 5] w fun e w' => e = .returned (.tuple #[.int .i64 0, .int .i64 (E.slots - 1)]) ∧ Below w.heap.size w w' := by
  obtain ⟨e0, e1, e2, e3⟩ := hc
  have hw : IntKind.i64.wrap (E.slots - 1) = E.slots - 1 := by rw [IntKind.wrap_i64]; have := hE.s0; have := hE.s1; omega
  clear hE
  go_enter Tryd.func130, Tryd.ntmps130
  go_wp2_with fail
  go_quiet (fail)
  go_wp2
  go_ret2
  exact ⟨rfl, drewN_a (Below.refl _ _) _⟩
theorem nrange_6 (E : Co.Env) (hE : EnvS E) (b : Nat) (w : World) (hc : CkAt w b E) : Calls Tryd.prog 130 #[.pointer (some ⟨b, 0, none⟩), .int .i64 6] w fun e w' => e = .returned (.tuple #[.int .i64 0, .int .i64 (E.globs - 1)]) ∧ Below w.heap.size w w' := by
  obtain ⟨e0, e1, e2, e3⟩ := hc
  have hw : IntKind.i64.wrap (E.globs - 1) = E.globs - 1 := by rw [IntKind.wrap_i64]; have := hE.g0; have := hE.g1; omega
  clear hE
  go_enter Tryd.func130, Tryd.ntmps130
  go_wp2_with fail
  go_quiet (fail)
  go_wp2
  go_ret2
  exact ⟨rfl, drewN_a (Below.refl _ _) _⟩
theorem nrange_7 (E : Co.Env) (hE : EnvS E) (b : Nat) (w : World) (hc : CkAt w b E) : Calls Tryd.prog 130 #[.pointer (some ⟨b, 0, none⟩), .int .i64 7] w fun e w' => e = .returned (.tuple #[.int .i64 0, .int .i64 (E.routs - 1)]) ∧ Below w.heap.size w w' := by
  obtain ⟨e0, e1, e2, e3⟩ := hc
  have hw : IntKind.i64.wrap (E.routs - 1) = E.routs - 1 := by rw [IntKind.wrap_i64]; have := hE.r0; have := hE.r1; omega
  clear hE
  go_enter Tryd.func130, Tryd.ntmps130
  go_wp2_with fail
  go_quiet (fail)
  go_wp2
  go_ret2
  exact ⟨rfl, drewN_a (Below.refl _ _) _⟩
theorem nrange_8 (E : Co.Env) (hE : EnvS E) (b : Nat) (w : World) (hc : CkAt w b E) : Calls Tryd.prog 130 #[.pointer (some ⟨b, 0, none⟩), .int .i64 8] w fun e w' => e = .returned (.tuple #[.int .i64 0, .int .i64 54]) ∧ Below w.heap.size w w' := by
  obtain ⟨e0, e1, e2, e3⟩ := hc
  clear hE
  go_enter Tryd.func130, Tryd.ntmps130
  go_wp2
  go_ret2
  exact ⟨rfl, Below.refl _ _⟩
theorem nrange_9 (E : Co.Env) (hE : EnvS E) (b : Nat) (w : World) (hc : CkAt w b E) : Calls Tryd.prog 130 #[.pointer (some ⟨b, 0, none⟩), .int .i64 9] w fun e w' => e = .returned (.tuple #[.int .i64 0, .int .i64 (E.recs - 1)]) ∧ Below w.heap.size w w' := by
  obtain ⟨e0, e1, e2, e3⟩ := hc
  have hw : IntKind.i64.wrap (E.recs - 1) = E.recs - 1 := by rw [IntKind.wrap_i64]; have := hE.c0; have := hE.c1; omega
  clear hE
  go_enter Tryd.func130, Tryd.ntmps130
  go_wp2_with fail
  go_quiet (fail)
  go_wp2
  go_ret2
  exact ⟨rfl, drewN_a (Below.refl _ _) _⟩
theorem nrange_10 (E : Co.Env) (hE : EnvS E) (b : Nat) (w : World) (hc : CkAt w b E) : Calls Tryd.prog 130 #[.pointer (some ⟨b, 0, none⟩), .int .i64 10] w fun e w' => e = .returned (.tuple #[.int .i64 1, .int .i64 2]) ∧ Below w.heap.size w w' := by
  obtain ⟨e0, e1, e2, e3⟩ := hc
  clear hE
  go_enter Tryd.func130, Tryd.ntmps130
  go_wp2
  go_ret2
  exact ⟨rfl, Below.refl _ _⟩
theorem nrange_n (E : Co.Env) (b : Nat) (w : World) (k : Int) (m1 : (k == 1) = false) (m5 : (k == 5) = false) (m6 : (k == 6) = false) (m7 : (k == 7) = false) (m8 : (k == 8) = false) (m9 : (k == 9) = false) (m10 : (k == 10) = false) : Calls Tryd.prog 130 #[.pointer (some ⟨b, 0, none⟩), .int .i64 k] w fun e w' => e = .returned (.tuple #[.int .i64 0, .int .i64 0]) ∧ Below w.heap.size w w' := by
  go_enter Tryd.func130, Tryd.ntmps130
  go_wp2
  go_ret2
  exact ⟨rfl, Below.refl _ _⟩
theorem impl_nrange (E : Co.Env) (hE : EnvS E) (b : Nat) (w : World) (hc : CkAt w b E) (k : Int) : Calls Tryd.prog 130 #[.pointer (some ⟨b, 0, none⟩), .int .i64 k] w fun e w' => e = .returned (.tuple #[.int .i64 (nLo E k), .int .i64 (nHi E k)]) ∧ Below w.heap.size w w' := by
  by_cases h1 : k = 1
  · subst h1; exact nrange_1 E hE b w hc
  by_cases h5 : k = 5
  · subst h5; exact nrange_5 E hE b w hc
  by_cases h6 : k = 6
  · subst h6; exact nrange_6 E hE b w hc
  by_cases h7 : k = 7
  · subst h7; exact nrange_7 E hE b w hc
  by_cases h8 : k = 8
  · subst h8; exact nrange_8 E hE b w hc
  by_cases h9 : k = 9
  · subst h9; exact nrange_9 E hE b w hc
  by_cases h10 : k = 10
  · subst h10; exact nrange_10 E hE b w hc
  have e1 : nLo E k = 0 := by unfold nLo; rw [if_neg h1, if_neg h10]
  have e2 : nHi E k = 0 := by unfold nHi; rw [if_neg h1, if_neg h5, if_neg h6, if_neg h7, if_neg h8, if_neg h9, if_neg h10]
  rw [e1, e2]
  exact nrange_n E b w k (beq_eq_false_iff_ne.2 h1) (beq_eq_false_iff_ne.2 h5) (beq_eq_false_iff_ne.2 h6) (beq_eq_false_iff_ne.2 h7) (beq_eq_false_iff_ne.2 h8) (beq_eq_false_iff_ne.2 h9) (beq_eq_false_iff_ne.2 h10)
theorem impl_number (E : Co.Env) (hE : EnvS E) (b : Nat) (t : Co.T) (w : World) (g o : Nat) (hc : CkAt w b E) (ht : TreeAt w g o t) : Calls Tryd.prog 103 #[.pointer (some ⟨b, 0, none⟩), .pointer (some ⟨g, o, none⟩)] w fun e w' => e = .returned (.bool (Co.numOk E t.kind t.num)) ∧ Below w.heap.size w w' := by
  have HR := Lib.hid (impl_nrange E hE b w hc t.kind)
  rw [← num_in]
  obtain ⟨⟨e0, e1, e2, e3, e4⟩, v, e5, hk⟩ := tree_cells ht
  clear ht hk hc hE
  generalize nLo E t.kind = lo at HR ⊢
  generalize nHi E t.kind = hi at HR ⊢
  by_cases h1 : lo ≤ t.num
  · by_cases h2 : t.num ≤ hi
    · rw [show Co.inR t.num lo hi = true from decide_eq_true ⟨h1, h2⟩]
      go_enter Tryd.func103, Tryd.ntmps103
      go_wp2_with fail
      refine HR.out.mono ?_
      rintro e w1 ⟨rfl, b1⟩
      have B1 := Lib.hid b1
      have e0 := subw_below b1 _ _ _ e0
      have e2 := subw_below b1 _ _ _ e2
      clear b1
      go_wp2
      go_ret
      exact ⟨ret_vb2 (by first | rfl | exact decide_eq_true h2 | exact decide_eq_false (by omega)), B1.out⟩
    · rw [show Co.inR t.num lo hi = false from decide_eq_false (fun h => h2 h.2)]
      go_enter Tryd.func103, Tryd.ntmps103
      go_wp2_with fail
      refine HR.out.mono ?_
      rintro e w1 ⟨rfl, b1⟩
      have B1 := Lib.hid b1
      have e0 := subw_below b1 _ _ _ e0
      have e2 := subw_below b1 _ _ _ e2
      clear b1
      go_wp2
      go_ret
      exact ⟨ret_vb2 (by first | rfl | exact decide_eq_true h2 | exact decide_eq_false (by omega)), B1.out⟩
  · rw [show Co.inR t.num lo hi = false from decide_eq_false (fun h => h1 h.1)]
    go_enter Tryd.func103, Tryd.ntmps103
    go_wp2_with fail
    refine HR.out.mono ?_
    rintro e w1 ⟨rfl, b1⟩
    have B1 := Lib.hid b1
    have e0 := subw_below b1 _ _ _ e0
    have e2 := subw_below b1 _ _ _ e2
    clear b1
    go_wp2
    go_ret
    exact ⟨ret_vb2 (by first | rfl | exact decide_eq_true h2 | exact decide_eq_false (by omega)), B1.out⟩
end Go.Proofs.YtbadepiakkhabaaDoor.Cr
/- Appending a few bytes that are written out to bytes of the call's own: in a plain region, and at a step of one that draws its order. No conditions. -/
namespace Go.Proofs.YtbadepiakkhabaaDoor
open Go.RowKit
set_option linter.unusedVariables false

theorem new8s (w : World) (xs : List Value) (t : TypeId) : ∀ (j : Nat) (u : Value), xs[j]? = some u → (w.alloc (.cells xs.toArray t)).cell? ((⟨w.heap.size, 0, none⟩ : Addr).add j) = some u := by
  intro j u hj
  have e : (⟨w.heap.size, 0, none⟩ : Addr).add j = ⟨w.heap.size, j, none⟩ := by unfold Addr.add; split <;> simp_all
  rw [e, World.cell?_alloc_mark]
  simpa using hj
theorem max8b {n : Nat} (h : n ≤ 100000000) : n ≤ maxLen := by unfold maxLen; omega
theorem run_app8 (w : World) (base : Nat) (v : Value) (l news : List UInt8) (hown : Own8 w base v l) (hB : base ≤ w.heap.size) (n : Nat) (hn : n = news.length) (hl : l.length + n ≤ 100000000) (ty tc : TypeId) :
    ∃ v' w', (Builtin.append_ #[47, 47] ty #[v, .slice (some ⟨w.heap.size, 0, none⟩) n n]).run Tryd.prog (w.alloc (.cells (Lib.byteCells news).toArray tc)) = .ok v' w' ∧ Own8 w' base v' (l ++ news) ∧ Below base w w' := by
  subst hn
  obtain ⟨i0, hi, hz0, hz1, hz2⟩ := info_parts info8
  have hown2 := World.ownsRow.alloc hown (.cells (Lib.byteCells news).toArray tc)
  obtain ⟨v', w', hrun, h2, h3, _⟩ := run_append_own_at (P := Tryd.prog) (w.alloc (.cells (Lib.byteCells news).toArray tc)) base 47 ty 5 i0 (.int .u8 0) 1 1 Tryd.underlying47 hi hz0 hz1 hz2 rfl (by decide) v l.length (Lib.byteCells l) hown2
    ⟨w.heap.size, 0, none⟩ news.length news.length (Lib.byteCells news) (by rw [Lib.byteCells_length]; omega) (new8s _ _ _) (Lib.byteCells_one _) (max8b hl) (by omega) (by simp; omega)
  refine ⟨v', w', hrun, ?_, ?_⟩
  · unfold Own8; rw [cells8_app, List.length_append]; exact h2
  · exact ((Below.refl base w).alloc hB _).grown h3 (by simp; omega) (fun k hk => (hown2.lt k hk).1)
theorem wp_app8 {w : World} {o : Oper} {a : Act} {K : Act → World → Prop} {Q : Exit → Act → World → Prop} (s x : Operand)
    (ho : o.op = .call { callee := .builtin .append, args := #[s, x], argTypes := #[47, 47] })
    (base : Nat) (v : Value) (l news : List UInt8) (hs : a.eval s = v) (hown : Own8 w base v l) (hB : base ≤ w.heap.size) (n : Nat) (hn : n = news.length) (hx : a.eval x = .slice (some ⟨w.heap.size, 0, none⟩) n n) (hl : l.length + n ≤ 100000000)
    (cs : Array Value) (tc : TypeId) (hcs : cs = (Lib.byteCells news).toArray)
    (h : ∀ v' w', Hid (Own8 w' base v' (l ++ news)) → Hid (Below base w w') → K (a.put o.dst v') w') : o.wp Tryd.prog a (w.alloc (.cells cs tc)) K Q := by
  subst hcs
  obtain ⟨v', w', hrun, h2, h3⟩ := run_app8 w base v l news hown hB n hn hl o.type tc
  unfold Oper.wp execOp
  simp only [ho, resolve, invoke, builtin, Sem.run_bind, Sem.run_pure, Result.andThen_ok, List.map_toArray, List.map_cons, List.map_nil, hs, hx, hrun]
  exact h v' w' h2 h3
theorem wpList_app8 {w : World} {ops : Array Oper} {rest : List Oper} {o : Oper} {a : Act} {Q : Exit → Act → World → Prop} (hgd : o.guard = none) (s x : Operand)
    (ho : o.op = .call { callee := .builtin .append, args := #[s, x], argTypes := #[47, 47] })
    (base : Nat) (v : Value) (l news : List UInt8) (hs : a.eval s = v) (hown : Own8 w base v l) (hB : base ≤ w.heap.size) (n : Nat) (hn : n = news.length) (hx : a.eval x = .slice (some ⟨w.heap.size, 0, none⟩) n n) (hl : l.length + n ≤ 100000000)
    (cs : Array Value) (tc : TypeId) (hcs : cs = (Lib.byteCells news).toArray)
    (h : ∀ v' w', Hid (Own8 w' base v' (l ++ news)) → Hid (Below base w w') → wpList Tryd.prog ops Q rest (a.put o.dst v') w') : wpList Tryd.prog ops Q (o :: rest) a (w.alloc (.cells cs tc)) :=
  wpList_plain hgd fun _ hK => wp_app8 s x ho base v l news hs hown hB n hn hx hl cs tc hcs fun v' w' h2 h3 => hK _ _ (h v' w' h2 h3)
theorem step_app8 {w : World} {ops : Array Oper} {o : Oper} {a : Act} {K : Act → World → Prop} {Q : Exit → Act → World → Prop} {E : Prop} (hgd : o.guard = none) (s x : Operand)
    (ho : o.op = .call { callee := .builtin .append, args := #[s, x], argTypes := #[47, 47] })
    (base : Nat) (v : Value) (l news : List UInt8) (hs : a.eval s = v) (hown : Own8 w base v l) (hB : base ≤ w.heap.size) (n : Nat) (hn : n = news.length) (hx : a.eval x = .slice (some ⟨w.heap.size, 0, none⟩) n n) (hl : l.length + n ≤ 100000000)
    (cs : Array Value) (tc : TypeId) (hcs : cs = (Lib.byteCells news).toArray)
    (h : ∀ v' w', Hid (Own8 w' base v' (l ++ news)) → Hid (Below base w w') → K (a.put o.dst v') w') : if Region.wanted o (yielded ops a.tmps) = true then Oper.wp Tryd.prog o a (w.alloc (.cells cs tc)) K Q else E := by
  have hw : Region.wanted o (yielded ops a.tmps) = true := by simp [Region.wanted, hgd]
  rw [if_pos hw]
  exact wp_app8 s x ho base v l news hs hown hB n hn hx hl cs tc hcs h
/-- The same where the order has been drawn. -/
theorem step_app8d {w : World} {ops : Array Oper} {o : Oper} {a : Act} {K : Act → World → Prop} {Q : Exit → Act → World → Prop} {E : Prop} (hgd : o.guard = none) (s x : Operand)
    (ho : o.op = .call { callee := .builtin .append, args := #[s, x], argTypes := #[47, 47] })
    (base : Nat) (v : Value) (l news : List UInt8) (hs : a.eval s = v) (hown : Own8 w base v l) (hB : base ≤ w.heap.size) (n : Nat) (hn : n = news.length) (hx : a.eval x = .slice (some ⟨w.heap.size, 0, none⟩) n n) (hl : l.length + n ≤ 100000000)
    (cs : Array Value) (tc : TypeId) (hcs : cs = (Lib.byteCells news).toArray)
    (h : ∀ v' w', Hid (Own8 w' base v' (l ++ news)) → Hid (Below base w w') → K (a.put o.dst v') w') : if Region.wanted o (yielded ops a.tmps) = true then Oper.wp Tryd.prog o a (w.alloc (.cells cs tc)).drew K Q else E :=
  step_app8 (w := w.drew) hgd s x ho base v l news hs hown hB n hn hx hl cs tc hcs fun v' w' h2 h3 => h v' w' h2 (Lib.hid (Below.trans (Below.drew (Below.refl base w)) h3.out))
/-- The same where the memory made for the new bytes lies behind other memory. -/
theorem own8_lit (w : World) (base : Nat) (l : List UInt8) (n : Nat) (hB : base ≤ w.heap.size) (hn : l.length = n) (hm : n ≤ 100) : Own8 (w.alloc (.cells (Lib.byteCells l).toArray 5)) base (.slice (some ⟨w.heap.size, 0, none⟩) n n) l := by
  subst hn
  have h := World.ownsRow_lit (base := base) (e := 5) (size := 1) w (Lib.byteCells l).toArray l.length hB (by unfold maxLen; omega) (by rw [List.size_toArray, Lib.byteCells_length]; omega)
  simpa [Own8] using h
/-- The bytes of the call's own, and what lies below, in a later world. -/
theorem own8_at {w w1 : World} {base : Nat} {v : Value} {l : List UInt8} (h : Own8 w base v l) (hb : Below w.heap.size w w1) : Own8 w1 base v l := own8_below h hb
theorem own8_drewN {w : World} {base : Nat} {v : Value} {l : List UInt8} (h : Own8 w base v l) (n : Nat) : Own8 (w.drewN n) base v l := h
theorem drewN8 {B : Nat} {w wr : World} (h : Below B w wr) : ∀ n, Below B w (wr.drewN n)
  | 0 => h
  | n + 1 => ⟨h.1, h.2, h.3, h.4, h.5⟩
end Go.Proofs.YtbadepiakkhabaaDoor
/- The reference model's draws: a cursor over bytes, and numbers and texts that are drawn from it. -/
namespace Go.Proofs.YtbadepiakkhabaaDoor
open Go.RowKit
set_option linter.unusedVariables false

/-- Bytes that came in: below block B, each readable. -/
def Code (B : Nat) (w : World) (v : Value) (n : Nat) : Prop :=
  ((∃ a c, v = .slice a 0 c) ∧ n = 0) ∨ ∃ g off c, v = .slice (some ⟨g, off, none⟩) n c ∧ g < B ∧ n ≤ maxLen ∧ ∀ j, j < n → ∃ x : Int, w.cell? ⟨g, off + j, none⟩ = some (.int .u8 x) ∧ 0 ≤ x ∧ x ≤ 255

/-- A cursor over them, in a block of the call's own. -/
def IsCur (B : Nat) (w : World) (cb : Nat) : Prop :=
  ∃ (v : Value) (n i : Nat) (h : Int), B ≤ cb ∧ Code B w v n ∧ w.heap[cb]? = some (.cells #[v, .int .i64 i, .int .i64 h] 143 (0, 0))

theorem code_below {B : Nat} {w w1 : World} {v : Value} {n : Nat} (h : Code B w v n) (hb : Below B w w1) : Code B w1 v n := by
  rcases h with h | ⟨g, off, c, hv, hg, hm, hc⟩
  · exact .inl h
  · refine .inr ⟨g, off, c, hv, hg, hm, fun j hj => ?_⟩
    obtain ⟨x, hx, h0⟩ := hc j hj
    exact ⟨x, (hb.cell hg).trans hx, h0⟩
theorem cur_below {B : Nat} {w w1 : World} {cb : Nat} (h : IsCur B w cb) (hB : B ≤ w.heap.size) (hb : Below w.heap.size w w1) : IsCur B w1 cb := by
  obtain ⟨v, n, i, h, hcb, hc, hh⟩ := h
  exact ⟨v, n, i, h, hcb, code_below hc (hb.mono hB), by rw [hb.block cb (Array.getElem?_eq_some_iff.1 hh).1]; exact hh⟩

theorem heap_cell {w : World} {b : Nat} {cs : Array Value} {T : TypeId} {fr : Nat × Nat} (hb : w.heap[b]? = some (.cells cs T fr)) (j : Nat) : w.cell? ⟨b, j, none⟩ = cs[j]? := by
  simp [World.cell?, hb]
theorem heap_free {w : World} {b : Nat} {cs : Array Value} {T : TypeId} (hb : w.heap[b]? = some (.cells cs T (0, 0))) (j : Nat) : w.frozen? ⟨b, j, none⟩ = false := by
  simp [World.frozen?, hb]

theorem and255 (n : Int) : 0 ≤ bits .and .i64 n 255 ∧ bits .and .i64 n 255 ≤ 255 := by
  have h : bits .and .i64 n 255 = n % 256 := by
    have h127 : (BitVec.ofInt 64 255).toNat = 2 ^ 8 - 1 := by decide
    have key : (BitVec.ofInt 64 n &&& BitVec.ofInt 64 255).toNat = (n % ((2 ^ 64 : Nat) : Int)).toNat % 2 ^ 8 := by
      rw [BitVec.toNat_and, BitVec.toNat_ofInt, h127, Nat.and_two_pow_sub_one_eq_mod]
    show IntKind.i64.wrap ((BitVec.ofInt 64 n &&& BitVec.ofInt 64 255).toNat : Nat) = n % 256
    rw [key, IntKind.wrap_i64]
    omega
  rw [h]; omega

theorem heap_set {w : World} {b j : Nat} {cs : Array Value} {T : TypeId} {u : Value} (hb : w.heap[b]? = some (.cells cs T (0, 0))) : (w.setCell ⟨b, j, none⟩ u).heap[b]? = some (.cells (cs.setIfInBounds j u) T (0, 0)) := heap_setCell_same w b j cs T u hb

theorem drewN_heap (w : World) (n : Nat) : (w.drewN n).heap = w.heap := rfl

/-- Only block cb may have changed, and blocks may be new. -/
def Only (cb : Nat) (w w' : World) : Prop := w.grownBy w' (some cb)
theorem Only.refl (cb : Nat) (w : World) : Only cb w w := ⟨rfl, rfl, rfl, Nat.le_refl _, fun _ _ _ => rfl⟩
theorem Only.trans {cb : Nat} {w w1 w2 : World} (h : Only cb w w1) (k : Only cb w1 w2) : Only cb w w2 :=
  ⟨k.os.trans h.os, k.tape.trans h.tape, k.output.trans h.output, Nat.le_trans h.size k.size, fun i hi hne => (k.block i (Nat.lt_of_lt_of_le hi h.size) hne).trans (h.block i hi hne)⟩
theorem Only.setCell {cb : Nat} {w w1 : World} (h : Only cb w w1) (j : Nat) (v : Value) : Only cb w (w1.setCell ⟨cb, j, none⟩ v) :=
  h.trans ⟨rfl, rfl, rfl, by simp [World.setCell], fun k _ hk => Below.heap_setCell _ _ _ _ (fun e => hk (by simp [e]))⟩
theorem Only.drewN {cb : Nat} {w w1 : World} (h : Only cb w w1) (n : Nat) : Only cb w (w1.drewN n) := h.trans ⟨rfl, rfl, rfl, Nat.le_refl _, fun _ _ _ => rfl⟩
theorem Only.of_below {cb : Nat} {w w1 : World} (h : Below w.heap.size w w1) : Only cb w w1 := ⟨h.os, h.tape, h.output, h.size, fun k hk _ => h.block k hk⟩
theorem Only.below {cb B : Nat} {w w1 : World} (h : Only cb w w1) (h1 : B ≤ cb) (h2 : B ≤ w.heap.size) : Below B w w1 :=
  (Below.refl _ _).grown h h2 (fun k hk => by cases hk; exact h1)

/-- A cursor's parts. -/
def Cur (B : Nat) (w : World) (cb : Nat) (v : Value) (n i : Nat) (h : Int) : Prop := B ≤ cb ∧ Code B w v n ∧ w.heap[cb]? = some (.cells #[v, .int .i64 i, .int .i64 h] 143 (0, 0))
theorem cur_of {B : Nat} {w : World} {cb : Nat} {v : Value} {n i : Nat} {h : Int} (c : Cur B w cb v n i h) : IsCur B w cb := ⟨v, n, i, h, c.1, c.2.1, c.2.2⟩
theorem cur_set2 {B : Nat} {w : World} {cb : Nat} {v : Value} {n i : Nat} {h : Int} (c : Cur B w cb v n i h) (h2 : Int) : Cur B (w.setCell ⟨cb, 2, none⟩ (.int .i64 h2)) cb v n i h2 :=
  ⟨c.1, code_below c.2.1 ((Below.refl _ _).setCell c.1 _), by have := heap_set (j := 2) (u := .int .i64 h2) c.2.2; simpa using this⟩
theorem cur_set1 {B : Nat} {w : World} {cb : Nat} {v : Value} {n i : Nat} {h : Int} (c : Cur B w cb v n i h) (i2 : Nat) (x : Value) (hx : x = .int .i64 i2) : Cur B (w.setCell ⟨cb, 1, none⟩ x) cb v n i2 h := by
  subst hx
  exact ⟨c.1, code_below c.2.1 ((Below.refl _ _).setCell c.1 _), by have := heap_set (j := 1) (u := .int .i64 i2) c.2.2; simpa using this⟩
theorem cur_drewN {B : Nat} {w : World} {cb : Nat} {v : Value} {n i : Nat} {h : Int} (c : Cur B w cb v n i h) (k : Nat) : Cur B (w.drewN k) cb v n i h :=
  ⟨c.1, code_below c.2.1 (below_drewN (Below.refl _ _) _), c.2.2⟩

theorem cur_drewN' {B : Nat} {w : World} {cb : Nat} {v : Value} {n i : Nat} {h : Int} (c : Cur B w cb v n i h) (k : Nat) : Cur B (w.drewN k) cb v n i h := cur_drewN c k

set_option maxHeartbeats 400000 in
theorem draw_byte (B cb : Nat) (w : World) (hp : IsCur B w cb) :
    Calls Tryd.prog 77 #[.pointer (some ⟨cb, 0, none⟩)] w fun e w' => ∃ x : Int, e = .returned (.int .i64 x) ∧ 0 ≤ x ∧ x ≤ 255 ∧ IsCur B w' cb ∧ Only cb w w' := by
  obtain ⟨v, n, i, h, hcb, hc, hh⟩ := hp
  have HCur := Lib.hid (show Cur B w cb v n i h from ⟨hcb, hc, hh⟩)
  have c1 : w.cell? ⟨cb, 1, none⟩ = some (.int .i64 i) := by rw [heap_cell hh]; rfl
  have c2 : w.cell? ⟨cb, 2, none⟩ = some (.int .i64 h) := by rw [heap_cell hh]; rfl
  have f1 := heap_free hh 1
  have f2 := heap_free hh 2
  obtain ⟨a, c, rfl⟩ : ∃ a c, v = .slice a n c := by
    rcases hc with ⟨⟨a, c, rfl⟩, rfl⟩ | ⟨g, off, c, rfl, _⟩
    · exact ⟨_, _, rfl⟩
    · exact ⟨_, _, rfl⟩
  have c0 : w.cell? ⟨cb, 0, none⟩ = some (.slice a n c) := by rw [heap_cell hh]; rfl
  by_cases hlt : (i : Int) < n
  case neg =>
    clear hc hh
    go_enter Tryd.func77, Tryd.ntmps77
    go_wp2
    generalize wrap64 (wrap64 (h * 6364136223846793005) + 1442695040888963407) = h2
    go_quiet (fail)
    generalize hy : bits BinOp.and IntKind.i64 (bits BinOp.xor IntKind.i64 (h2 / 8589934592) (h2 / 35184372088832)) 255 = y
    obtain ⟨hy0, hy1⟩ : 0 ≤ y ∧ y ≤ 255 := by rw [← hy]; exact and255 _
    clear hy
    go_wp2
    go_quiet (fail)
    go_wp2
    go_ret
    exact ⟨y, rfl, hy0, hy1, cur_of (cur_drewN (cur_drewN (cur_set2 HCur.out h2) _) _), (((Only.refl _ _).setCell _ _).drewN _).drewN _⟩
  case pos =>
    obtain ⟨g, off, c', hv, hg, hm, hcc⟩ : ∃ g off c', Value.slice a n c = .slice (some ⟨g, off, none⟩) n c' ∧ g < B ∧ n ≤ maxLen ∧ ∀ j, j < n → ∃ x : Int, w.cell? ⟨g, off + j, none⟩ = some (.int .u8 x) ∧ 0 ≤ x ∧ x ≤ 255 := by
      rcases hc with ⟨_, h0⟩ | h
      · omega
      · exact h
    simp only [Value.slice.injEq, true_and] at hv
    obtain ⟨rfl, rfl⟩ := hv
    obtain ⟨x, hx, hx0, hx1⟩ := hcc i (by omega)
    have hne : ¬ g = cb := by omega
    have i0 : (0 : Int) ≤ i := by omega
    unfold maxLen at hm
    have hi1 : (i : Int) + 1 ≤ 9223372036854775807 := by omega
    clear hc hh hcc
    go_enter Tryd.func77, Tryd.ntmps77
    go_wp2
    generalize wrap64 (wrap64 (h * 6364136223846793005) + 1442695040888963407) = h2
    go_quiet (fail)
    generalize hy : bits BinOp.and IntKind.i64 (bits BinOp.xor IntKind.i64 (h2 / 8589934592) (h2 / 35184372088832)) 255 = y
    obtain ⟨hy0, hy1⟩ : 0 ≤ y ∧ y ≤ 255 := by rw [← hy]; exact and255 _
    clear hy
    go_wp2
    go_quiet (fail)
    go_wp2
    go_quiet (fail)
    generalize hz : bits BinOp.and IntKind.i64 (y + x) 255 = z
    obtain ⟨hz0, hz1⟩ : 0 ≤ z ∧ z ≤ 255 := by rw [← hz]; exact and255 _
    clear hz
    go_wp2
    go_ret
    exact ⟨z, rfl, hz0, hz1, cur_of (cur_drewN' (cur_set1 (cur_set2 HCur.out h2) (i + 1) _ (by go_num)) _), (((Only.refl _ _).setCell _ _).setCell _ _).drewN _⟩

/-- A number below n. -/
def DrawnBelow (B cb : Nat) (w : World) (n : Int) (e : Ending) (w' : World) : Prop := ∃ x : Int, e = .returned (.int .i64 x) ∧ 0 ≤ x ∧ x < n ∧ IsCur B w' cb ∧ Only cb w w'

set_option maxHeartbeats 400000 in
theorem draw_small (B cb : Nat) (n : Int) (w : World) (hp : IsCur B w cb) (h0 : 0 < n) (h1 : n ≤ 256) :
    Calls Tryd.prog 42 #[.pointer (some ⟨cb, 0, none⟩), .int .i64 n] w (DrawnBelow B cb w n) := by
  have HB := Lib.hid (draw_byte B cb w hp)
  clear hp
  go_enter Tryd.func42, Tryd.ntmps42
  go_wp2_with fail
  refine HB.out.mono ?_
  rintro e w1 ⟨x, rfl, hx0, hx1, hc, hb⟩
  have HC := Lib.hid hc
  have HW := Lib.hid hb
  clear hc hb
  have hm0 : 0 ≤ x % n := Int.emod_nonneg _ (by omega)
  have hm1 : x % n < n := Int.emod_lt_of_pos _ h0
  go_wp2
  go_ret
  exact ⟨x % n, rfl, hm0, hm1, HC.out, HW.out⟩

set_option maxHeartbeats 400000 in
theorem draw_great (B cb : Nat) (n : Int) (w : World) (hp : IsCur B w cb) (h0 : 256 < n) (h1 : n ≤ 2147483647) :
    Calls Tryd.prog 42 #[.pointer (some ⟨cb, 0, none⟩), .int .i64 n] w (DrawnBelow B cb w n) := by
  have HB := Lib.hid (draw_byte B cb w hp)
  clear hp
  go_enter Tryd.func42, Tryd.ntmps42
  go_wp2_with fail
  refine HB.out.mono ?_
  rintro e w1 ⟨x, rfl, hx0, hx1, hc, hb⟩
  have HB1 := Lib.hid (draw_byte B cb w1 hc)
  have HW := Lib.hid hb
  clear hc hb
  go_wp2_with fail
  refine HB1.out.mono ?_
  rintro e w2 ⟨y, rfl, hy0, hy1, hc, hb⟩
  have HB2 := Lib.hid (draw_byte B cb w2 hc)
  have HW2 := Lib.hid (HW.out.trans hb)
  clear hc hb
  go_wp2_with fail
  refine HB2.out.mono ?_
  rintro e w3 ⟨z, rfl, hz0, hz1, hc, hb⟩
  have HB3 := Lib.hid (draw_byte B cb w3 hc)
  have HW3 := Lib.hid (HW2.out.trans hb)
  clear hc hb
  go_wp2_with fail
  refine HB3.out.mono ?_
  rintro e w4 ⟨t, rfl, ht0, ht1, hc, hb⟩
  have HC := Lib.hid hc
  have HW4 := Lib.hid (HW3.out.trans hb)
  clear hc hb
  go_wp2
  go_ret
  exact ⟨_, rfl, Int.emod_nonneg _ (by omega), Int.emod_lt_of_pos _ (by omega), HC.out, HW4.out⟩

/-- A number below n is drawn, for every n above 0. -/
theorem draw_below (B cb : Nat) (n : Int) (w : World) (hp : IsCur B w cb) (h0 : 0 < n) (h1 : n ≤ 2147483647) :
    Calls Tryd.prog 42 #[.pointer (some ⟨cb, 0, none⟩), .int .i64 n] w (DrawnBelow B cb w n) := by
  by_cases h : n ≤ 256
  · exact draw_small B cb n w hp h0 h
  · exact draw_great B cb n w hp (by omega) h1
end Go.Proofs.YtbadepiakkhabaaDoor
/- The reference model's draws: a new cursor, and picks from a list. -/
namespace Go.Proofs.YtbadepiakkhabaaDoor
open Go.RowKit
set_option linter.unusedVariables false

theorem cur_new {w : World} {v : Value} {n : Nat} (hc : Code w.heap.size w v n) (x : Int) : IsCur w.heap.size (w.alloc (.cells #[v, .int .i64 0, .int .i64 x] 143)) w.heap.size :=
  ⟨v, n, 0, x, Nat.le_refl _, code_below hc ((Below.refl _ _).alloc (Nat.le_refl _) _), heap_alloc_new _ _⟩

set_option maxHeartbeats 400000 in
theorem draw_new (v : Value) (n : Nat) (w : World) (hc : Code w.heap.size w v n) (hn : (n : Int) ≤ 1048576) :
    Calls Tryd.prog 40 #[v] w fun e w' => ∃ cb, e = .returned (.pointer (some ⟨cb, 0, none⟩)) ∧ w.heap.size ≤ cb ∧ cb < w'.heap.size ∧ IsCur w.heap.size w' cb ∧ Below w.heap.size w w' := by
  obtain ⟨a, c, rfl⟩ : ∃ a c, v = .slice a n c := by
    rcases hc with ⟨⟨a, c, rfl⟩, rfl⟩ | ⟨g, off, c, rfl, _⟩
    · exact ⟨_, _, rfl⟩
    · exact ⟨_, _, rfl⟩
  have HC := Lib.hid hc
  clear hc
  go_enter Tryd.func40, Tryd.ntmps40
  go_wp2
  go_loop [3, 4] (fun h i => ∃ (k : Nat) (x : Int), i = .int .i64 k ∧ k ≤ n ∧ h = .int .i64 x) (fun _ i => n - (intOf i).toNat)
  case atStart => exact ⟨0, _, rfl, Nat.zero_le _, rfl⟩
  case round =>
    obtain ⟨k, x, rfl, hk, rfl⟩ := hrel
    by_cases hlt : (k : Int) < n
    · by_cases h4 : (k : Int) < 4000
      · obtain ⟨g, off, c', hv, hg, hm, hcc⟩ : ∃ g off c', Value.slice a n c = .slice (some ⟨g, off, none⟩) n c' ∧ g < w.heap.size ∧ n ≤ maxLen ∧ ∀ j, j < n → ∃ x : Int, w.cell? ⟨g, off + j, none⟩ = some (.int .u8 x) ∧ 0 ≤ x ∧ x ≤ 255 := by
          rcases HC.out with ⟨_, h0⟩ | h
          · omega
          · exact h
        simp only [Value.slice.injEq, true_and] at hv
        obtain ⟨rfl, rfl⟩ := hv
        obtain ⟨y, hy, hy0, hy1⟩ := hcc k (by omega)
        clear hcc
        have k0 : (0 : Int) ≤ k := by omega
        go_wp2
        go_round
        case rel => exact ⟨k + 1, _, by go_num, by omega, rfl⟩
        case measure => first | (simp [intOf]; done) | (simp [intOf]; omega)
      · go_wp2
        go_ret
        exact ⟨w.heap.size, rfl, Nat.le_refl _, by simp, cur_new HC.out x, (Below.refl _ _).alloc (Nat.le_refl _) _⟩
    · go_wp2
      go_ret
      exact ⟨w.heap.size, rfl, Nat.le_refl _, by simp, cur_new HC.out x, (Below.refl _ _).alloc (Nat.le_refl _) _⟩

/-- What a pick leaves: the cursor's block alone may have changed. -/
def Picked {α : Type} (mk : α → Value) (l : List α) (B cb : Nat) (w : World) (e : Ending) (w' : World) : Prop := ∃ x, x ∈ l ∧ e = .returned (mk x) ∧ IsCur B w' cb ∧ Only cb w w'

set_option maxHeartbeats 400000 in
theorem pick_int (B cb g cap : Nat) (l : List Int) (w : World) (hp : IsCur B w cb) (hl : 0 < l.length) (hl2 : (l.length : Int) ≤ 1048576) (hne : g ≠ cb)
    (hc : ∀ i, i < l.length → w.cell? ⟨g, i, none⟩ = some (.int .i64 (l.getD i 0))) :
    Calls Tryd.prog 106 #[.pointer (some ⟨cb, 0, none⟩), .slice (some ⟨g, 0, none⟩) l.length cap] w (Picked (Value.int .i64) l B cb w) := by
  have HB := Lib.hid (draw_below B cb l.length w hp (by omega) (by omega))
  have HC := Lib.hid hc
  clear hp hc
  go_enter Tryd.func106, Tryd.ntmps106
  go_wp2_with fail
  refine HB.out.mono ?_
  rintro e w1 ⟨x, rfl, hx0, hx1, hcur, ho⟩
  obtain ⟨k, rfl⟩ : ∃ k : Nat, x = k := ⟨x.toNat, by omega⟩
  have hk : k < l.length := by omega
  have h0 := HC.out k hk
  have h1 : w1.cell? ⟨g, k, none⟩ = some (.int .i64 (l.getD k 0)) := ho.cell h0 (fun e => hne (by simpa using e))
  have HCur := Lib.hid hcur
  have HO := Lib.hid ho
  have hmem : l.getD k 0 ∈ l := by simp [List.getD, List.getElem?_eq_getElem hk]
  have HM := Lib.hid hmem
  clear h0 hcur ho hmem
  generalize hv : l.getD k 0 = y at h1
  rw [hv] at HM
  clear hv
  go_wp2
  go_ret
  exact ⟨y, HM.out, rfl, HCur.out, HO.out⟩

set_option maxHeartbeats 400000 in
theorem pick_text (B cb g cap : Nat) (l : List ByteArray) (w : World) (hp : IsCur B w cb) (hl : 0 < l.length) (hl2 : (l.length : Int) ≤ 1048576) (hne : g ≠ cb)
    (hc : ∀ i, i < l.length → w.cell? ⟨g, i, none⟩ = some (.string (l.getD i ByteArray.empty))) :
    Calls Tryd.prog 105 #[.pointer (some ⟨cb, 0, none⟩), .slice (some ⟨g, 0, none⟩) l.length cap] w (Picked Value.string l B cb w) := by
  have HB := Lib.hid (draw_below B cb l.length w hp (by omega) (by omega))
  have HC := Lib.hid hc
  clear hp hc
  go_enter Tryd.func105, Tryd.ntmps105
  go_wp2_with fail
  refine HB.out.mono ?_
  rintro e w1 ⟨x, rfl, hx0, hx1, hcur, ho⟩
  obtain ⟨k, rfl⟩ : ∃ k : Nat, x = k := ⟨x.toNat, by omega⟩
  have hk : k < l.length := by omega
  have h0 := HC.out k hk
  have h1 : w1.cell? ⟨g, k, none⟩ = some (.string (l.getD k ByteArray.empty)) := ho.cell h0 (fun e => hne (by simpa using e))
  have HCur := Lib.hid hcur
  have HO := Lib.hid ho
  have hmem : l.getD k ByteArray.empty ∈ l := by simp [List.getD, List.getElem?_eq_getElem hk]
  have HM := Lib.hid hmem
  clear h0 hcur ho hmem
  generalize hv : l.getD k ByteArray.empty = y at h1
  rw [hv] at HM
  clear hv
  go_wp2
  go_ret
  exact ⟨y, HM.out, rfl, HCur.out, HO.out⟩
end Go.Proofs.YtbadepiakkhabaaDoor
