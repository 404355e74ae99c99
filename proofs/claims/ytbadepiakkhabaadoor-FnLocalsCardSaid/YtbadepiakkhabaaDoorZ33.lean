/- Joined texts: V40, V41, V37. No conditions besides those that each states. -/
import Derived.Test.YtbadepiakkhabaaDoorZ11
import Derived.Test.YtbadepiakkhabaaDoorZ21
import Derived.Test.YtbadepiakkhabaaDoorZ27
import Derived.Test.YtbadepiakkhabaaDoorZ29
import Derived.Test.YtbadepiakkhabaaDoorZ30
import Derived.Test.YtbadepiakkhabaaDoorZ31
import Derived.Test.YtbadepiakkhabaaDoorZ32
/- The reference model's first fault of a body. No conditions. -/
namespace Go.Proofs.YtbadepiakkhabaaDoor
open Go.RowKit
set_option linter.unusedVariables false

theorem spec_walk (u : Un) (hb : u.bulk ≤ 1048576) (w0 : World) (v1 v2 v3 vl : Value) (L : List ByteArray) (hu : UnIs w0 u v1 v2 v3) (hvl : Is w0 (strsD L) vl) (hL : (L.length : Int) ≤ 1048576) : ∀ (N : Nat) (t : Ex.T), t.count ≤ N → t.bulk ≤ 1048576 → WlkT u w0 v1 v2 v3 vl L t := by
  intro N
  induction N with
  | zero => intro t h _; have := Ex.count_pos t; omega
  | succ N ih =>
    intro t hN hbk
    have hI : ∀ x ∈ t.kids, WlkT u w0 v1 v2 v3 vl L x := fun x hx => ih x (by have := kids_count hx; omega) (by have := Ex.bulks_mem hx; have := bulk_eq t; omega)
    have hln : t.kids.length ≤ 1048576 := by have := bulk_eq t; omega
    by_cases h1 : t.kind ≤ 12
    · exact walk_lo u hb w0 v1 v2 v3 vl L hu hvl hL t hI hln h1
    by_cases h2 : t.kind ≤ 13
    · exact walk_13 u hb w0 v1 v2 v3 vl L hu hvl hL t hI hln ⟨by omega, h2⟩
    by_cases h3 : t.kind ≤ 15
    · exact walk_14 u hb w0 v1 v2 v3 vl L hu hvl hL t hI hln ⟨by omega, h3⟩
    by_cases h4 : t.kind ≤ 18
    · exact walk_16 u hb w0 v1 v2 v3 vl L hu hvl hL t hI hln ⟨by omega, h4⟩
    by_cases h5 : t.kind ≤ 19
    · exact walk_19 u hb w0 v1 v2 v3 vl L hu hvl hL t hI hln ⟨by omega, h5⟩
    by_cases h6 : t.kind ≤ 20
    · exact walk_20 u hb w0 v1 v2 v3 vl L hu hvl hL t hI hln ⟨by omega, h6⟩
    by_cases h7 : t.kind ≤ 23
    · exact walk_21 u hb w0 v1 v2 v3 vl L hu hvl hL t hI hln ⟨by omega, h7⟩
    by_cases h8 : t.kind ≤ 24
    · exact walk_24 u hb w0 v1 v2 v3 vl L hu hvl hL t hI hln ⟨by omega, h8⟩
    by_cases h9 : t.kind ≤ 25
    · exact walk_25 u hb w0 v1 v2 v3 vl L hu hvl hL t hI hln ⟨by omega, h9⟩
    by_cases h10 : t.kind ≤ 26
    · exact walk_26 u hb w0 v1 v2 v3 vl L hu hvl hL t hI hln ⟨by omega, h10⟩
    by_cases h11 : t.kind ≤ 27
    · exact walk_27 u hb w0 v1 v2 v3 vl L hu hvl hL t hI hln ⟨by omega, h11⟩
    by_cases h12 : t.kind ≤ 28
    · exact walk_28 u hb w0 v1 v2 v3 vl L hu hvl hL t hI hln ⟨by omega, h12⟩
    · exact walk_29 u hb w0 v1 v2 v3 vl L hu hvl hL t hI hln (by omega)
end Go.Proofs.YtbadepiakkhabaaDoor
/- The reference model's CheckUnit: words. No conditions. -/
namespace Go.Proofs.YtbadepiakkhabaaDoor
open Go.RowKit
set_option linter.unusedVariables false

theorem owns_funs (w : World) (B : Nat) (hB : B ≤ w.heap.size) : Owns (w.alloc (.cells (funL.map Value.string).toArray 9)) B (.slice (some ⟨w.heap.size, 0, none⟩) 55 55) funL :=
  ⟨rfl, .inr ⟨w.heap.size, 55, _, rfl, hB, World.alloc_heap_new w _, Nat.le_refl _, by unfold maxLen; omega, rfl, rfl⟩⟩
/-- The unit's variable, the names that are there. -/
def ChkS (w : World) (A : List Value) (v : Value) (l : List ByteArray) (W : World) : Prop := Var W w.heap.size A ∧ Owns W (w.heap.size + 1) v l ∧ Below w.heap.size w W ∧ w.heap.size + 1 ≤ W.heap.size
theorem ChkS.later {w W W' : World} {A : List Value} {v : Value} {l : List ByteArray} (h : ChkS w A v l W) (hb : Below W.heap.size W W') : ChkS w A v l W' :=
  ⟨h.1.keep (hb.block _ h.2.2.2), owns_later h.2.1 hb, below_then h.2.2.1 hb, Nat.le_trans h.2.2.2 hb.size⟩
theorem ChkS.push {w W W' : World} {A : List Value} {v v2 : Value} {l l2 : List ByteArray} (h : ChkS w A v l W) (ho : Owns W' (w.heap.size + 1) v2 l2) (hg : W.grownBy W' v.ownBlock) : ChkS w A v2 l2 W' :=
  ⟨h.1.keep (hg.block _ h.2.2.2 (fun e => by have := (owns_lt h.2.1 e.symm).1; omega)), ho, h.2.2.1.trans ((Below.refl w.heap.size W).grown hg (Nat.le_trans (Nat.le_succ _) h.2.2.2) (fun k e => by have := (owns_lt h.2.1 e).1; omega)), Nat.le_trans h.2.2.2 hg.size⟩
theorem ChkS.isN {w W : World} {A : List Value} {v : Value} {l : List ByteArray} (h : ChkS w A v l W) : Is W (strsD l) v := Is.strs_of_owns h.2.1
/-- append(list, more...) as a guarded step of a region. -/
theorem step_append_moreG {B : Nat} {w : World} {v x : Value} {l m : List ByteArray} {ops : Array Oper} {o : Oper} {a : Act} {K : Act → World → Prop} {Q : Exit → Act → World → Prop} {E : Prop} (hw : Region.wanted o (yielded ops a.tmps) = true) (s y : Operand)
    (ho : o.op = .call { callee := .builtin .append, args := #[s, y], argTypes := #[35, 35] }) (hs : a.eval s = v) (hy : a.eval y = x) (hown : Owns w B v l) (hx : Is w (strsD m) x) (hn : l.length + m.length ≤ 1048576) (hB : B ≤ w.heap.size)
    (h : ∀ v' w', Owns w' B v' (l ++ m) → w.grownBy w' v.ownBlock → Moves w v v' → K (a.put o.dst v') w') :
    if Region.wanted o (yielded ops a.tmps) = true then Oper.wp Tryd.prog o a w K Q else E := by
  rw [if_pos hw]
  obtain ⟨v', w', hr, h2, h3, h4⟩ := append_strs o.type hown hx hn hB
  unfold Oper.wp execOp
  simp only [ho, resolve, invoke, builtin, Sem.run_bind, Sem.run_pure, Result.andThen_ok, List.map_toArray, List.map_cons, List.map_nil, hs, hy, hr]
  exact h v' w' h2 h3 h4
theorem twice_at {l : List ByteArray} {b : Bool} (hb : twice l = b) (v : Value) (w : World) (h : Is w (strsD l) v) (hl : (l.length : Int) ≤ 1048576) : Calls Tryd.prog 29 #[v] w fun e w' => e = .returned (.bool b) ∧ w = w' := by
  rw [← hb]
  exact spec_twice v l w h hl
theorem mains_succ {u : Un} {k : Nat} (h : k < u.procs.length) : (u.procs.take (k + 1)).any isMain = ((u.procs.take k).any isMain || isMain u.procs[k]) := any_take_succ isMain u.procs k h
end Go.Proofs.YtbadepiakkhabaaDoor
/- The name main. No conditions. -/
namespace Go.Proofs.YtbadepiakkhabaaDoor

theorem main_eq (s : ByteArray) : eqN s ⟨#[109, 97, 105, 110]⟩ = (s.toList == [109, 97, 105, 110]) := by
  unfold eqN
  rw [show (⟨#[109, 97, 105, 110]⟩ : ByteArray).toList = [109, 97, 105, 110] from by rw [ByteArray.toList_eq]]
theorem main_at {s : ByteArray} {b : Bool} (h : eqN s ⟨#[109, 97, 105, 110]⟩ = b) : (s.toList == [109, 97, 105, 110]) = b := (main_eq s).symm.trans h
end Go.Proofs.YtbadepiakkhabaaDoor
