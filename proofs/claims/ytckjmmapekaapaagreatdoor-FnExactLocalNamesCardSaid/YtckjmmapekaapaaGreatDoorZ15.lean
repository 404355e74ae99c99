/- Joined texts: V1, T3, D1, D2. No conditions besides those that each states. -/
import Derived.Maps.AppendAt
import Derived.Deep.AppendLies
import Derived.RegionTactic
import Derived.Test.YtckjmmapekaapaaGreatDoorProg
import Derived.WalkKit
import Derived.ProofKit
import Derived.WalkLawsBesides
import Derived.WalkSpells
import Derived.Lib.Hide
import Derived.Deep.QuietTactic
import Derived.BigQuiet
import Derived.Test.YtckjmmapekaapaaGreatDoorZ7
import Derived.Test.YtckjmmapekaapaaGreatDoorZ14
/- Names: their first places in lists, what they mean, the faults of a unit. No conditions. -/
namespace Go.Proofs.YtckjmmapekaapaaGreatDoor
set_option linter.unusedVariables false

/-- The names of the functions. -/
def funL : List ByteArray := [⟨#[119, 114, 105, 116, 101]⟩, ⟨#[105, 109, 97, 103, 101]⟩, ⟨#[116, 121, 112, 101]⟩, ⟨#[105, 110, 116, 101, 103, 101, 114]⟩, ⟨#[115, 116, 114, 105, 110, 103]⟩, ⟨#[99, 115, 101, 116]⟩, ⟨#[108, 105, 115, 116]⟩, ⟨#[116, 97, 98, 108, 101]⟩, ⟨#[115, 101, 116]⟩, ⟨#[112, 117, 116]⟩, ⟨#[112, 117, 115, 104]⟩, ⟨#[103, 101, 116]⟩, ⟨#[112, 111, 112]⟩, ⟨#[112, 117, 108, 108]⟩, ⟨#[109, 101, 109, 98, 101, 114]⟩, ⟨#[105, 110, 115, 101, 114, 116]⟩, ⟨#[100, 101, 108, 101, 116, 101]⟩, ⟨#[107, 101, 121]⟩, ⟨#[115, 111, 114, 116]⟩, ⟨#[99, 111, 112, 121]⟩, ⟨#[102, 105, 110, 100]⟩, ⟨#[117, 112, 116, 111]⟩, ⟨#[109, 97, 110, 121]⟩, ⟨#[97, 110, 121]⟩, ⟨#[109, 97, 116, 99, 104]⟩, ⟨#[116, 97, 98]⟩, ⟨#[109, 111, 118, 101]⟩, ⟨#[112, 111, 115]⟩, ⟨#[114, 101, 112, 108]⟩, ⟨#[114, 101, 118, 101, 114, 115, 101]⟩, ⟨#[108, 101, 102, 116]⟩, ⟨#[114, 105, 103, 104, 116]⟩, ⟨#[99, 101, 110, 116, 101, 114]⟩, ⟨#[116, 114, 105, 109]⟩, ⟨#[109, 97, 112]⟩, ⟨#[111, 114, 100]⟩, ⟨#[99, 104, 97, 114]⟩, ⟨#[97, 98, 115]⟩, ⟨#[115, 101, 113]⟩, ⟨#[76, 101, 110]⟩, ⟨#[80, 111, 115]⟩, ⟨#[82, 80, 111, 115]⟩, ⟨#[84, 97, 98]⟩, ⟨#[82, 84, 97, 98]⟩, ⟨#[65, 110, 121]⟩, ⟨#[78, 111, 116, 65, 110, 121]⟩, ⟨#[83, 112, 97, 110]⟩, ⟨#[66, 114, 101, 97, 107]⟩, ⟨#[65, 114, 98]⟩, ⟨#[82, 101, 109]⟩, ⟨#[65, 114, 98, 110, 111]⟩, ⟨#[70, 101, 110, 99, 101]⟩, ⟨#[65, 98, 111, 114, 116]⟩, ⟨#[69, 109, 112, 116, 121]⟩, ⟨#[70, 97, 105, 108]⟩]
theorem funL_len : funL.length = 55 := rfl
/-- Are two names equal? -/
def eqN (x s : ByteArray) : Bool := x.toList == s.toList
theorem eqN_iff {x s : ByteArray} : eqN x s = true ↔ x = s := by
  unfold eqN
  rw [beq_iff_eq, ByteArray.toList_eq, ByteArray.toList_eq]
  constructor
  · intro h
    cases x; cases s
    exact congrArg ByteArray.mk (Array.toList_inj.1 h)
  · rintro rfl; rfl
theorem eqN_self (x : ByteArray) : eqN x x = true := eqN_iff.2 rfl
theorem eqN_ne {x s : ByteArray} (h : x ≠ s) : eqN x s = false := by
  cases e : eqN x s
  · rfl
  · exact absurd (eqN_iff.1 e) h
/-- The first place of a name. -/
def fx (l : List ByteArray) (s : ByteArray) : Option Nat := l.findIdx? fun x => eqN x s
def fxI (l : List ByteArray) (s : ByteArray) : Int := match fx l s with | some k => (k : Int) | none => -1
theorem fx_nil (s : ByteArray) : fx [] s = none := rfl
theorem fx_lt {l : List ByteArray} {s : ByteArray} {k : Nat} (h : fx l s = some k) : k < l.length := by
  unfold fx at h
  obtain ⟨h1, _⟩ := List.findIdx?_eq_some_iff_getElem.1 h
  exact h1
theorem fx_none {l : List ByteArray} {s : ByteArray} : fx l s = none ↔ ∀ x ∈ l, eqN x s = false := by
  unfold fx
  rw [List.findIdx?_eq_none_iff]
theorem fx_at {l : List ByteArray} {s : ByteArray} {k : Nat} (hk : k < l.length) (h1 : eqN l[k] s = true) (h2 : ∀ x ∈ l.take k, eqN x s = false) : fx l s = some k := by
  unfold fx
  rw [List.findIdx?_eq_some_iff_getElem]
  refine ⟨hk, h1, fun j hj => ?_⟩
  have := h2 l[j] (by rw [List.mem_take_iff_getElem]; exact ⟨j, by omega, rfl⟩)
  rw [this]; decide
theorem fx_snoc (l : List ByteArray) (x s : ByteArray) : fx (l ++ [x]) s = match fx l s with | some k => some k | none => if eqN x s then some l.length else none := by
  unfold fx
  rw [List.findIdx?_append]
  cases h : List.findIdx? (fun x => eqN x s) l with
  | some k => rfl
  | none =>
    simp only [Option.none_or]
    rw [List.findIdx?_cons]
    cases eqN x s <;> simp
theorem fxI_none {l : List ByteArray} {s : ByteArray} (h : fx l s = none) : fxI l s = -1 := by unfold fxI; rw [h]
theorem fxI_some {l : List ByteArray} {s : ByteArray} {k : Nat} (h : fx l s = some k) : fxI l s = k := by unfold fxI; rw [h]
theorem fxI_pos {l : List ByteArray} {s : ByteArray} : (0 ≤ fxI l s) ↔ (fx l s).isSome = true := by
  unfold fxI
  cases fx l s with
  | none => simp
  | some k => simp
theorem fxI_range (l : List ByteArray) (s : ByteArray) : -1 ≤ fxI l s ∧ fxI l s < l.length + 1 := by
  unfold fxI
  cases h : fx l s with
  | none => simp; omega
  | some k => have := fx_lt h; simp; omega
/-- What a name means outside a procedure: the sort and the number. -/
def outer (u : Un) (s : ByteArray) : Int × Int :=
  match fx (u.recs.map Rc.name) s with
  | some k => (5, k)
  | none => match fx u.globs s with
    | some k => (2, k)
    | none => match fx (u.procs.map Pc.name) s with
      | some k => (3, k)
      | none => match fx funL s with
        | some k => (4, k)
        | none => (0, 0)
/-- Is it a name that is new in a procedure? -/
def fresh (u : Un) (s : ByteArray) (acc : List ByteArray) : Bool := (outer u s).1 == 0 && (fx acc s).isNone
mutual
/-- The names that are met in a body, behind those that are there. -/
def coll (u : Un) : Ex.T → List ByteArray → List ByteArray
  | .node k t n l ks, acc => if k == 4 || k == 28 then (if fresh u t acc then acc ++ [t] else acc) else colls u ks acc
def colls (u : Un) : List Ex.T → List ByteArray → List ByteArray
  | [], acc => acc
  | x :: r, acc => colls u r (coll u x acc)
end
/-- The local names of a procedure. -/
def locs (u : Un) (p : Pc) : List ByteArray := coll u p.body (p.params ++ p.locals)
/-- What a name means in a procedure whose local names these are. -/
def means (u : Un) (L : List ByteArray) (s : ByteArray) : Int × Int := match fx L s with | some k => (1, k) | none => outer u s
mutual
/-- How many case expressions. -/
def csN : Ex.T → Nat
  | .node k t n l ks => (if k == 20 then 1 else 0) + csNs ks
def csNs : List Ex.T → Nat
  | [] => 0
  | x :: r => csN x + csNs r
end
/-- The fault of a node, whatever its kids have. -/
def flt (u : Un) (L : List ByteArray) (k : Int) (t : ByteArray) (loop made : Bool) : Int :=
  if ((k == 24 || k == 25) && !loop) || ((k == 21 || k == 22 || k == 23) && made) then 4
  else if k == 13 && !(u.recs.any fun r => (fx r.fields t).isSome) then 5
  else if k == 28 && ((fx L t).isNone && !((outer u t).1 == 2)) then 6
  else 0
/-- Is kid i of a node in a loop? -/
def kidL (k : Int) (loop : Bool) (i : Nat) : Bool := if k == 16 || k == 17 || k == 18 then i == 1 else if k == 19 then true else if k == 24 || k == 26 then false else loop
mutual
/-- The first fault of a tree: its code and its line. -/
def wlk (u : Un) (L : List ByteArray) : Ex.T → Bool → Bool → Int × Int
  | .node k t n l ks, loop, made => if flt u L k t loop made == 0 then wlks u L k ks 0 loop (made || k == 26) else (flt u L k t loop made, l)
def wlks (u : Un) (L : List ByteArray) (k : Int) : List Ex.T → Nat → Bool → Bool → Int × Int
  | [], i, loop, made => (0, 0)
  | x :: r, i, loop, made => if (wlk u L x (kidL k loop i) made).1 == 0 then wlks u L k r (i + 1) loop made else wlk u L x (kidL k loop i) made
end
/-- Does a name stand twice? -/
def twice (l : List ByteArray) : Bool := (List.range l.length).any fun i => (fx (l.take i) (l.getD i ByteArray.empty)).isSome
/-- The first fault of the declarations among themselves, by the names that are there. -/
def dupR (acc : List ByteArray) : List Rc → (Int × Int) ⊕ List ByteArray
  | [] => .inr acc
  | r :: l => if (fx acc r.name).isSome || twice r.fields then .inl (2, r.line) else dupR (acc ++ [r.name]) l
def dupG (acc : List ByteArray) : List ByteArray → (Int × Int) ⊕ List ByteArray
  | [] => .inr acc
  | s :: l => if (fx acc s).isSome then .inl (2, 0) else dupG (acc ++ [s]) l
def dupP (acc : List ByteArray) : List Pc → (Int × Int) ⊕ List ByteArray
  | [] => .inr acc
  | p :: l => if (fx acc p.name).isSome || twice (p.params ++ p.locals) then .inl (2, p.line) else dupP (acc ++ [p.name]) l
def dup (u : Un) : Int × Int :=
  match dupR funL u.recs with
  | .inl f => f
  | .inr a => match dupG a u.globs with
    | .inl f => f
    | .inr b => match dupP b u.procs with
      | .inl f => f
      | .inr _ => (0, 0)
def fltP (u : Un) (p : Pc) : Int × Int :=
  if (wlk u (locs u p) p.body false false).1 == 0 then (if 24 < (locs u p).length + csN p.body then (7, p.line) else (0, 0)) else wlk u (locs u p) p.body false false
def fltPs (u : Un) : List Pc → Int × Int
  | [] => (0, 0)
  | p :: l => if (fltP u p).1 == 0 then fltPs u l else fltP u p
def isMain (p : Pc) : Bool := eqN p.name ⟨#[109, 97, 105, 110]⟩ && p.params.length == 0
def fltU (u : Un) : Int × Int :=
  if (dup u).1 == 0 then (if (fltPs u u.procs).1 == 0 then (if u.procs.any isMain then (0, 0) else (3, 0)) else fltPs u u.procs) else dup u
end Go.Proofs.YtckjmmapekaapaaGreatDoor
/- Appending a few bytes that are written out to bytes of the call's own: in a plain region, and at a step of one that draws its order. No conditions. -/
namespace Go.Proofs.YtckjmmapekaapaaGreatDoor
open Go.RowKit
set_option linter.unusedVariables false

theorem new8s (w : World) (xs : List Value) (t : TypeId) : ∀ (j : Nat) (u : Value), xs[j]? = some u → (w.alloc (.cells xs.toArray t)).cell? ((⟨w.heap.size, 0, none⟩ : Addr).add j) = some u := by
  intro j u hj
  have e : (⟨w.heap.size, 0, none⟩ : Addr).add j = ⟨w.heap.size, j, none⟩ := by unfold Addr.add; split <;> simp_all
  rw [e, World.cell?_alloc_mark]
  simpa using hj
theorem max8b {n : Nat} (h : n ≤ 100000000) : n ≤ maxLen := by unfold maxLen; omega
theorem run_app8 (w : World) (base : Nat) (v : Value) (l news : List UInt8) (hown : Own8 w base v l) (hB : base ≤ w.heap.size) (n : Nat) (hn : n = news.length) (hl : l.length + n ≤ 100000000) (ty tc : TypeId) :
    ∃ v' w', (Builtin.append_ #[105, 105] ty #[v, .slice (some ⟨w.heap.size, 0, none⟩) n n]).run Tryz.prog (w.alloc (.cells (Lib.byteCells news).toArray tc)) = .ok v' w' ∧ Own8 w' base v' (l ++ news) ∧ Below base w w' := by
  subst hn
  obtain ⟨i0, hi, hz0, hz1, hz2⟩ := info_parts info8
  have hown2 := World.ownsRow.alloc hown (.cells (Lib.byteCells news).toArray tc)
  obtain ⟨v', w', hrun, h2, h3, _⟩ := run_append_own_at (P := Tryz.prog) (w.alloc (.cells (Lib.byteCells news).toArray tc)) base 105 ty 5 i0 (.int .u8 0) 1 1 Tryz.underlying105 hi hz0 hz1 hz2 rfl (by decide) v l.length (Lib.byteCells l) hown2
    ⟨w.heap.size, 0, none⟩ news.length news.length (Lib.byteCells news) (by rw [Lib.byteCells_length]; omega) (new8s _ _ _) (Lib.byteCells_one _) (max8b hl) (by omega) (by simp; omega)
  refine ⟨v', w', hrun, ?_, ?_⟩
  · unfold Own8; rw [cells8_app, List.length_append]; exact h2
  · exact ((Below.refl base w).alloc hB _).grown h3 (by simp; omega) (fun k hk => (hown2.lt k hk).1)
theorem wp_app8 {w : World} {o : Oper} {a : Act} {K : Act → World → Prop} {Q : Exit → Act → World → Prop} (s x : Operand)
    (ho : o.op = .call { callee := .builtin .append, args := #[s, x], argTypes := #[105, 105] })
    (base : Nat) (v : Value) (l news : List UInt8) (hs : a.eval s = v) (hown : Own8 w base v l) (hB : base ≤ w.heap.size) (n : Nat) (hn : n = news.length) (hx : a.eval x = .slice (some ⟨w.heap.size, 0, none⟩) n n) (hl : l.length + n ≤ 100000000)
    (cs : Array Value) (tc : TypeId) (hcs : cs = (Lib.byteCells news).toArray)
    (h : ∀ v' w', Hid (Own8 w' base v' (l ++ news)) → Hid (Below base w w') → K (a.put o.dst v') w') : o.wp Tryz.prog a (w.alloc (.cells cs tc)) K Q := by
  subst hcs
  obtain ⟨v', w', hrun, h2, h3⟩ := run_app8 w base v l news hown hB n hn hl o.type tc
  unfold Oper.wp execOp
  simp only [ho, resolve, invoke, builtin, Sem.run_bind, Sem.run_pure, Result.andThen_ok, List.map_toArray, List.map_cons, List.map_nil, hs, hx, hrun]
  exact h v' w' h2 h3
theorem wpList_app8 {w : World} {ops : Array Oper} {rest : List Oper} {o : Oper} {a : Act} {Q : Exit → Act → World → Prop} (hgd : o.guard = none) (s x : Operand)
    (ho : o.op = .call { callee := .builtin .append, args := #[s, x], argTypes := #[105, 105] })
    (base : Nat) (v : Value) (l news : List UInt8) (hs : a.eval s = v) (hown : Own8 w base v l) (hB : base ≤ w.heap.size) (n : Nat) (hn : n = news.length) (hx : a.eval x = .slice (some ⟨w.heap.size, 0, none⟩) n n) (hl : l.length + n ≤ 100000000)
    (cs : Array Value) (tc : TypeId) (hcs : cs = (Lib.byteCells news).toArray)
    (h : ∀ v' w', Hid (Own8 w' base v' (l ++ news)) → Hid (Below base w w') → wpList Tryz.prog ops Q rest (a.put o.dst v') w') : wpList Tryz.prog ops Q (o :: rest) a (w.alloc (.cells cs tc)) :=
  wpList_plain hgd fun _ hK => wp_app8 s x ho base v l news hs hown hB n hn hx hl cs tc hcs fun v' w' h2 h3 => hK _ _ (h v' w' h2 h3)
theorem step_app8 {w : World} {ops : Array Oper} {o : Oper} {a : Act} {K : Act → World → Prop} {Q : Exit → Act → World → Prop} {E : Prop} (hgd : o.guard = none) (s x : Operand)
    (ho : o.op = .call { callee := .builtin .append, args := #[s, x], argTypes := #[105, 105] })
    (base : Nat) (v : Value) (l news : List UInt8) (hs : a.eval s = v) (hown : Own8 w base v l) (hB : base ≤ w.heap.size) (n : Nat) (hn : n = news.length) (hx : a.eval x = .slice (some ⟨w.heap.size, 0, none⟩) n n) (hl : l.length + n ≤ 100000000)
    (cs : Array Value) (tc : TypeId) (hcs : cs = (Lib.byteCells news).toArray)
    (h : ∀ v' w', Hid (Own8 w' base v' (l ++ news)) → Hid (Below base w w') → K (a.put o.dst v') w') : if Region.wanted o (yielded ops a.tmps) = true then Oper.wp Tryz.prog o a (w.alloc (.cells cs tc)) K Q else E := by
  have hw : Region.wanted o (yielded ops a.tmps) = true := by simp [Region.wanted, hgd]
  rw [if_pos hw]
  exact wp_app8 s x ho base v l news hs hown hB n hn hx hl cs tc hcs h
/-- The same where the order has been drawn. -/
theorem step_app8d {w : World} {ops : Array Oper} {o : Oper} {a : Act} {K : Act → World → Prop} {Q : Exit → Act → World → Prop} {E : Prop} (hgd : o.guard = none) (s x : Operand)
    (ho : o.op = .call { callee := .builtin .append, args := #[s, x], argTypes := #[105, 105] })
    (base : Nat) (v : Value) (l news : List UInt8) (hs : a.eval s = v) (hown : Own8 w base v l) (hB : base ≤ w.heap.size) (n : Nat) (hn : n = news.length) (hx : a.eval x = .slice (some ⟨w.heap.size, 0, none⟩) n n) (hl : l.length + n ≤ 100000000)
    (cs : Array Value) (tc : TypeId) (hcs : cs = (Lib.byteCells news).toArray)
    (h : ∀ v' w', Hid (Own8 w' base v' (l ++ news)) → Hid (Below base w w') → K (a.put o.dst v') w') : if Region.wanted o (yielded ops a.tmps) = true then Oper.wp Tryz.prog o a (w.alloc (.cells cs tc)).drew K Q else E :=
  step_app8 (w := w.drew) hgd s x ho base v l news hs hown hB n hn hx hl cs tc hcs fun v' w' h2 h3 => h v' w' h2 (Lib.hid (Below.trans (Below.drew (Below.refl base w)) h3.out))
/-- The same where the memory made for the new bytes lies behind other memory. -/
theorem own8_lit (w : World) (base : Nat) (l : List UInt8) (n : Nat) (hB : base ≤ w.heap.size) (hn : l.length = n) (hm : n ≤ 100) : Own8 (w.alloc (.cells (Lib.byteCells l).toArray 5)) base (.slice (some ⟨w.heap.size, 0, none⟩) n n) l := by
  subst hn
  have h := World.ownsRow_lit (base := base) (e := 5) (size := 1) w (Lib.byteCells l).toArray l.length hB (by unfold maxLen; omega) (by rw [List.size_toArray, Lib.byteCells_length]; omega)
  simpa [Own8] using h
/-- The bytes of the call's own, and what lies below, in a later world. -/
theorem own8_at {w w1 : World} {base : Nat} {v : Value} {l : List UInt8} (h : Own8 w base v l) (hb : Below w.heap.size w w1) : Own8 w1 base v l := own8_below h hb
theorem own8_drewN {w : World} {base : Nat} {v : Value} {l : List UInt8} (h : Own8 w base v l) (n : Nat) : Own8 (w.drewN n) base v l := h
theorem drewN8 {B : Nat} {w wr : World} (h : Below B w wr) : ∀ n, Below B w (wr.drewN n)
  | 0 => h
  | n + 1 => ⟨h.1, h.2, h.3, h.4, h.5⟩
end Go.Proofs.YtckjmmapekaapaaGreatDoor
/- The reference model's draws: a cursor over bytes, and numbers and texts that are drawn from it. -/
namespace Go.Proofs.YtckjmmapekaapaaGreatDoor
open Go.RowKit
set_option linter.unusedVariables false

/-- Bytes that came in: below block B, each readable. -/
def Code (B : Nat) (w : World) (v : Value) (n : Nat) : Prop :=
  ((∃ a c, v = .slice a 0 c) ∧ n = 0) ∨ ∃ g off c, v = .slice (some ⟨g, off, none⟩) n c ∧ g < B ∧ n ≤ maxLen ∧ ∀ j, j < n → ∃ x : Int, w.cell? ⟨g, off + j, none⟩ = some (.int .u8 x) ∧ 0 ≤ x ∧ x ≤ 255

theorem code_below {B : Nat} {w w1 : World} {v : Value} {n : Nat} (h : Code B w v n) (hb : Below B w w1) : Code B w1 v n := by
  rcases h with h | ⟨g, off, c, hv, hg, hm, hc⟩
  · exact .inl h
  · refine .inr ⟨g, off, c, hv, hg, hm, fun j hj => ?_⟩
    obtain ⟨x, hx, h0⟩ := hc j hj
    exact ⟨x, (hb.cell hg).trans hx, h0⟩
theorem heap_cell {w : World} {b : Nat} {cs : Array Value} {T : TypeId} {fr : Nat × Nat} (hb : w.heap[b]? = some (.cells cs T fr)) (j : Nat) : w.cell? ⟨b, j, none⟩ = cs[j]? := by
  simp [World.cell?, hb]
theorem heap_free {w : World} {b : Nat} {cs : Array Value} {T : TypeId} (hb : w.heap[b]? = some (.cells cs T (0, 0))) (j : Nat) : w.frozen? ⟨b, j, none⟩ = false := by
  simp [World.frozen?, hb]

theorem and255 (n : Int) : 0 ≤ bits .and .i64 n 255 ∧ bits .and .i64 n 255 ≤ 255 := by
  have h : bits .and .i64 n 255 = n % 256 := by
    have h127 : (BitVec.ofInt 64 255).toNat = 2 ^ 8 - 1 := by decide
    have key : (BitVec.ofInt 64 n &&& BitVec.ofInt 64 255).toNat = (n % ((2 ^ 64 : Nat) : Int)).toNat % 2 ^ 8 := by
      rw [BitVec.toNat_and, BitVec.toNat_ofInt, h127, Nat.and_two_pow_sub_one_eq_mod]
    show IntKind.i64.wrap ((BitVec.ofInt 64 n &&& BitVec.ofInt 64 255).toNat : Nat) = n % 256
    rw [key, IntKind.wrap_i64]
    omega
  rw [h]; omega

theorem heap_set {w : World} {b j : Nat} {cs : Array Value} {T : TypeId} {u : Value} (hb : w.heap[b]? = some (.cells cs T (0, 0))) : (w.setCell ⟨b, j, none⟩ u).heap[b]? = some (.cells (cs.setIfInBounds j u) T (0, 0)) := heap_setCell_same w b j cs T u hb

theorem drewN_heap (w : World) (n : Nat) : (w.drewN n).heap = w.heap := rfl

/-- Only block cb may have changed, and blocks may be new. -/
def Only (cb : Nat) (w w' : World) : Prop := w.grownBy w' (some cb)
theorem Only.refl (cb : Nat) (w : World) : Only cb w w := ⟨rfl, rfl, rfl, Nat.le_refl _, fun _ _ _ => rfl⟩
theorem Only.trans {cb : Nat} {w w1 w2 : World} (h : Only cb w w1) (k : Only cb w1 w2) : Only cb w w2 :=
  ⟨k.os.trans h.os, k.tape.trans h.tape, k.output.trans h.output, Nat.le_trans h.size k.size, fun i hi hne => (k.block i (Nat.lt_of_lt_of_le hi h.size) hne).trans (h.block i hi hne)⟩
theorem Only.setCell {cb : Nat} {w w1 : World} (h : Only cb w w1) (j : Nat) (v : Value) : Only cb w (w1.setCell ⟨cb, j, none⟩ v) :=
  h.trans ⟨rfl, rfl, rfl, by simp [World.setCell], fun k _ hk => Below.heap_setCell _ _ _ _ (fun e => hk (by simp [e]))⟩
theorem Only.drewN {cb : Nat} {w w1 : World} (h : Only cb w w1) (n : Nat) : Only cb w (w1.drewN n) := h.trans ⟨rfl, rfl, rfl, Nat.le_refl _, fun _ _ _ => rfl⟩
theorem Only.of_below {cb : Nat} {w w1 : World} (h : Below w.heap.size w w1) : Only cb w w1 := ⟨h.os, h.tape, h.output, h.size, fun k hk _ => h.block k hk⟩
theorem Only.below {cb B : Nat} {w w1 : World} (h : Only cb w w1) (h1 : B ≤ cb) (h2 : B ≤ w.heap.size) : Below B w w1 :=
  (Below.refl _ _).grown h h2 (fun k hk => by cases hk; exact h1)

end Go.Proofs.YtckjmmapekaapaaGreatDoor
/- The reference model's draws: a new cursor, and picks from a list. -/
namespace Go.Proofs.YtckjmmapekaapaaGreatDoor
open Go.RowKit
set_option linter.unusedVariables false

end Go.Proofs.YtckjmmapekaapaaGreatDoor
