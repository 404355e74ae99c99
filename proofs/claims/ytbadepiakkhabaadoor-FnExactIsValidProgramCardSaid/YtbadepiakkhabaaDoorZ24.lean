/- Joined texts: V1, V2, V3, V33, A25. No conditions besides those that each states. -/
import Derived.Test.YtbadepiakkhabaaDoorZ7
import Derived.Test.YtbadepiakkhabaaDoorZ8
import Derived.Test.YtbadepiakkhabaaDoorZ12
import Derived.Test.YtbadepiakkhabaaDoorZ15
import Derived.Test.YtbadepiakkhabaaDoorZ19
import Derived.Test.YtbadepiakkhabaaDoorZ23
/- Names: their first places in lists, what they mean, the faults of a unit. No conditions. -/
namespace Go.Proofs.YtbadepiakkhabaaDoor
set_option linter.unusedVariables false

/-- The names of the functions. -/
def funL : List ByteArray := [⟨#[119, 114, 105, 116, 101]⟩, ⟨#[105, 109, 97, 103, 101]⟩, ⟨#[116, 121, 112, 101]⟩, ⟨#[105, 110, 116, 101, 103, 101, 114]⟩, ⟨#[115, 116, 114, 105, 110, 103]⟩, ⟨#[99, 115, 101, 116]⟩, ⟨#[108, 105, 115, 116]⟩, ⟨#[116, 97, 98, 108, 101]⟩, ⟨#[115, 101, 116]⟩, ⟨#[112, 117, 116]⟩, ⟨#[112, 117, 115, 104]⟩, ⟨#[103, 101, 116]⟩, ⟨#[112, 111, 112]⟩, ⟨#[112, 117, 108, 108]⟩, ⟨#[109, 101, 109, 98, 101, 114]⟩, ⟨#[105, 110, 115, 101, 114, 116]⟩, ⟨#[100, 101, 108, 101, 116, 101]⟩, ⟨#[107, 101, 121]⟩, ⟨#[115, 111, 114, 116]⟩, ⟨#[99, 111, 112, 121]⟩, ⟨#[102, 105, 110, 100]⟩, ⟨#[117, 112, 116, 111]⟩, ⟨#[109, 97, 110, 121]⟩, ⟨#[97, 110, 121]⟩, ⟨#[109, 97, 116, 99, 104]⟩, ⟨#[116, 97, 98]⟩, ⟨#[109, 111, 118, 101]⟩, ⟨#[112, 111, 115]⟩, ⟨#[114, 101, 112, 108]⟩, ⟨#[114, 101, 118, 101, 114, 115, 101]⟩, ⟨#[108, 101, 102, 116]⟩, ⟨#[114, 105, 103, 104, 116]⟩, ⟨#[99, 101, 110, 116, 101, 114]⟩, ⟨#[116, 114, 105, 109]⟩, ⟨#[109, 97, 112]⟩, ⟨#[111, 114, 100]⟩, ⟨#[99, 104, 97, 114]⟩, ⟨#[97, 98, 115]⟩, ⟨#[115, 101, 113]⟩, ⟨#[76, 101, 110]⟩, ⟨#[80, 111, 115]⟩, ⟨#[82, 80, 111, 115]⟩, ⟨#[84, 97, 98]⟩, ⟨#[82, 84, 97, 98]⟩, ⟨#[65, 110, 121]⟩, ⟨#[78, 111, 116, 65, 110, 121]⟩, ⟨#[83, 112, 97, 110]⟩, ⟨#[66, 114, 101, 97, 107]⟩, ⟨#[65, 114, 98]⟩, ⟨#[82, 101, 109]⟩, ⟨#[65, 114, 98, 110, 111]⟩, ⟨#[70, 101, 110, 99, 101]⟩, ⟨#[65, 98, 111, 114, 116]⟩, ⟨#[69, 109, 112, 116, 121]⟩, ⟨#[70, 97, 105, 108]⟩]
theorem funL_len : funL.length = 55 := rfl
/-- Are two names equal? -/
def eqN (x s : ByteArray) : Bool := x.toList == s.toList
theorem eqN_iff {x s : ByteArray} : eqN x s = true ↔ x = s := by
  unfold eqN
  rw [beq_iff_eq, ByteArray.toList_eq, ByteArray.toList_eq]
  constructor
  · intro h
    cases x; cases s
    exact congrArg ByteArray.mk (Array.toList_inj.1 h)
  · rintro rfl; rfl
theorem eqN_self (x : ByteArray) : eqN x x = true := eqN_iff.2 rfl
theorem eqN_ne {x s : ByteArray} (h : x ≠ s) : eqN x s = false := by
  cases e : eqN x s
  · rfl
  · exact absurd (eqN_iff.1 e) h
/-- The first place of a name. -/
def fx (l : List ByteArray) (s : ByteArray) : Option Nat := l.findIdx? fun x => eqN x s
def fxI (l : List ByteArray) (s : ByteArray) : Int := match fx l s with | some k => (k : Int) | none => -1
theorem fx_nil (s : ByteArray) : fx [] s = none := rfl
theorem fx_lt {l : List ByteArray} {s : ByteArray} {k : Nat} (h : fx l s = some k) : k < l.length := by
  unfold fx at h
  obtain ⟨h1, _⟩ := List.findIdx?_eq_some_iff_getElem.1 h
  exact h1
theorem fx_none {l : List ByteArray} {s : ByteArray} : fx l s = none ↔ ∀ x ∈ l, eqN x s = false := by
  unfold fx
  rw [List.findIdx?_eq_none_iff]
theorem fx_at {l : List ByteArray} {s : ByteArray} {k : Nat} (hk : k < l.length) (h1 : eqN l[k] s = true) (h2 : ∀ x ∈ l.take k, eqN x s = false) : fx l s = some k := by
  unfold fx
  rw [List.findIdx?_eq_some_iff_getElem]
  refine ⟨hk, h1, fun j hj => ?_⟩
  have := h2 l[j] (by rw [List.mem_take_iff_getElem]; exact ⟨j, by omega, rfl⟩)
  rw [this]; decide
theorem fx_snoc (l : List ByteArray) (x s : ByteArray) : fx (l ++ [x]) s = match fx l s with | some k => some k | none => if eqN x s then some l.length else none := by
  unfold fx
  rw [List.findIdx?_append]
  cases h : List.findIdx? (fun x => eqN x s) l with
  | some k => rfl
  | none =>
    simp only [Option.none_or]
    rw [List.findIdx?_cons]
    cases eqN x s <;> simp
theorem fxI_none {l : List ByteArray} {s : ByteArray} (h : fx l s = none) : fxI l s = -1 := by unfold fxI; rw [h]
theorem fxI_some {l : List ByteArray} {s : ByteArray} {k : Nat} (h : fx l s = some k) : fxI l s = k := by unfold fxI; rw [h]
theorem fxI_pos {l : List ByteArray} {s : ByteArray} : (0 ≤ fxI l s) ↔ (fx l s).isSome = true := by
  unfold fxI
  cases fx l s with
  | none => simp
  | some k => simp
theorem fxI_range (l : List ByteArray) (s : ByteArray) : -1 ≤ fxI l s ∧ fxI l s < l.length + 1 := by
  unfold fxI
  cases h : fx l s with
  | none => simp; omega
  | some k => have := fx_lt h; simp; omega
/-- What a name means outside a procedure: the sort and the number. -/
def outer (u : Un) (s : ByteArray) : Int × Int :=
  match fx (u.recs.map Rc.name) s with
  | some k => (5, k)
  | none => match fx u.globs s with
    | some k => (2, k)
    | none => match fx (u.procs.map Pc.name) s with
      | some k => (3, k)
      | none => match fx funL s with
        | some k => (4, k)
        | none => (0, 0)
/-- Is it a name that is new in a procedure? -/
def fresh (u : Un) (s : ByteArray) (acc : List ByteArray) : Bool := (outer u s).1 == 0 && (fx acc s).isNone
mutual
/-- The names that are met in a body, behind those that are there. -/
def coll (u : Un) : Ex.T → List ByteArray → List ByteArray
  | .node k t n l ks, acc => if k == 4 || k == 28 then (if fresh u t acc then acc ++ [t] else acc) else colls u ks acc
def colls (u : Un) : List Ex.T → List ByteArray → List ByteArray
  | [], acc => acc
  | x :: r, acc => colls u r (coll u x acc)
end
/-- The local names of a procedure. -/
def locs (u : Un) (p : Pc) : List ByteArray := coll u p.body (p.params ++ p.locals)
/-- What a name means in a procedure whose local names these are. -/
def means (u : Un) (L : List ByteArray) (s : ByteArray) : Int × Int := match fx L s with | some k => (1, k) | none => outer u s
mutual
/-- How many case expressions. -/
def csN : Ex.T → Nat
  | .node k t n l ks => (if k == 20 then 1 else 0) + csNs ks
def csNs : List Ex.T → Nat
  | [] => 0
  | x :: r => csN x + csNs r
end
/-- The fault of a node, whatever its kids have. -/
def flt (u : Un) (L : List ByteArray) (k : Int) (t : ByteArray) (loop made : Bool) : Int :=
  if ((k == 24 || k == 25) && !loop) || ((k == 21 || k == 22 || k == 23) && made) then 4
  else if k == 13 && !(u.recs.any fun r => (fx r.fields t).isSome) then 5
  else if k == 28 && ((fx L t).isNone && !((outer u t).1 == 2)) then 6
  else 0
/-- Is kid i of a node in a loop? -/
def kidL (k : Int) (loop : Bool) (i : Nat) : Bool := if k == 16 || k == 17 || k == 18 then i == 1 else if k == 19 then true else if k == 24 || k == 26 then false else loop
mutual
/-- The first fault of a tree: its code and its line. -/
def wlk (u : Un) (L : List ByteArray) : Ex.T → Bool → Bool → Int × Int
  | .node k t n l ks, loop, made => if flt u L k t loop made == 0 then wlks u L k ks 0 loop (made || k == 26) else (flt u L k t loop made, l)
def wlks (u : Un) (L : List ByteArray) (k : Int) : List Ex.T → Nat → Bool → Bool → Int × Int
  | [], i, loop, made => (0, 0)
  | x :: r, i, loop, made => if (wlk u L x (kidL k loop i) made).1 == 0 then wlks u L k r (i + 1) loop made else wlk u L x (kidL k loop i) made
end
/-- Does a name stand twice? -/
def twice (l : List ByteArray) : Bool := (List.range l.length).any fun i => (fx (l.take i) (l.getD i ByteArray.empty)).isSome
/-- The first fault of the declarations among themselves, by the names that are there. -/
def dupR (acc : List ByteArray) : List Rc → (Int × Int) ⊕ List ByteArray
  | [] => .inr acc
  | r :: l => if (fx acc r.name).isSome || twice r.fields then .inl (2, r.line) else dupR (acc ++ [r.name]) l
def dupG (acc : List ByteArray) : List ByteArray → (Int × Int) ⊕ List ByteArray
  | [] => .inr acc
  | s :: l => if (fx acc s).isSome then .inl (2, 0) else dupG (acc ++ [s]) l
def dupP (acc : List ByteArray) : List Pc → (Int × Int) ⊕ List ByteArray
  | [] => .inr acc
  | p :: l => if (fx acc p.name).isSome || twice (p.params ++ p.locals) then .inl (2, p.line) else dupP (acc ++ [p.name]) l
def dup (u : Un) : Int × Int :=
  match dupR funL u.recs with
  | .inl f => f
  | .inr a => match dupG a u.globs with
    | .inl f => f
    | .inr b => match dupP b u.procs with
      | .inl f => f
      | .inr _ => (0, 0)
def fltP (u : Un) (p : Pc) : Int × Int :=
  if (wlk u (locs u p) p.body false false).1 == 0 then (if 24 < (locs u p).length + csN p.body then (7, p.line) else (0, 0)) else wlk u (locs u p) p.body false false
def fltPs (u : Un) : List Pc → Int × Int
  | [] => (0, 0)
  | p :: l => if (fltP u p).1 == 0 then fltPs u l else fltP u p
def isMain (p : Pc) : Bool := eqN p.name ⟨#[109, 97, 105, 110]⟩ && p.params.length == 0
def fltU (u : Un) : Int × Int :=
  if (dup u).1 == 0 then (if (fltPs u u.procs).1 == 0 then (if u.procs.any isMain then (0, 0) else (3, 0)) else fltPs u u.procs) else dup u
end Go.Proofs.YtbadepiakkhabaaDoor
/- The reference model: the first place of a name, the names of the functions. No conditions. -/
namespace Go.Proofs.YtbadepiakkhabaaDoor
open Go.RowKit
set_option linter.unusedVariables false

theorem ret_in {a b : Int} (h : a = b) : Ending.returned (.int .i64 a) = .returned (.int .i64 b) := by rw [h]
/-- Up to place k the name was not met. -/
def NotYet (l : List ByteArray) (s : ByteArray) (k : Nat) : Prop := ∀ x ∈ l.take k, eqN x s = false
theorem notYet_zero (l : List ByteArray) (s : ByteArray) : NotYet l s 0 := fun x h => by simp at h
theorem notYet_succ {l : List ByteArray} {s : ByteArray} {k : Nat} (h : NotYet l s k) (hk : k < l.length) (hx : eqN l[k] s = false) : NotYet l s (k + 1) := fun x hm => by
  rw [List.take_succ_eq_append_getElem hk] at hm
  rcases List.mem_append.1 hm with hm | hm
  · exact h x hm
  · rw [List.mem_singleton] at hm; rw [hm]; exact hx
theorem notYet_all {l : List ByteArray} {s : ByteArray} (h : NotYet l s l.length) : fx l s = none := fx_none.2 fun x hx => h x (by rw [List.take_length]; exact hx)
set_option maxHeartbeats 800000 in
theorem spec_find (v : Value) (l : List ByteArray) (s : ByteArray) (w : World) (h : Is w (strsD l) v) (hl : (l.length : Int) ≤ 1048576) : Calls Tryd.prog 49 #[v, .string s] w fun e w' => e = .returned (.int .i64 (fxI l s)) ∧ w = w' := by
  obtain ⟨a, c, rfl⟩ := is_slice h
  have HK := Lib.hid h
  clear h
  go_enter Tryd.func49, Tryd.ntmps49
  go_wp2
  go_loop [5] (fun i => ∃ k : Nat, i = .int .i64 k ∧ k ≤ l.length ∧ NotYet l s k) (fun i => l.length - (intOf i).toNat)
  case atStart => exact ⟨0, rfl, Nat.zero_le _, notYet_zero l s⟩
  case round =>
    obtain ⟨k, rfl, hk, hn⟩ := hrel
    have HN := Lib.hid hn
    clear hn
    by_cases hlt : k < l.length
    · obtain ⟨g, o, rfl, d1⟩ := str_at HK.out k hlt
      cases he : eqN l[k] s
      case true =>
        have HX := Lib.hid (fxI_some (fx_at hlt he HN.out))
        have t1 : (l[k].toList == s.toList) = true := he
        clear he
        generalize l[k] = x at d1 t1
        go_wp2
        go_ret
        exact ⟨ret_in HX.out.symm, rfl⟩
      case false =>
        have HX := Lib.hid (notYet_succ HN.out hlt he)
        have t1 : (l[k].toList == s.toList) = false := he
        clear he
        generalize l[k] = x at d1 t1
        go_wp2
        go_round
        case rel => exact ⟨k + 1, by go_num, by omega, HX.out⟩
        case measure => first | (simp [intOf]; done) | (simp [intOf]; omega)
    · obtain rfl : k = l.length := by omega
      have HX := Lib.hid (fxI_none (notYet_all HN.out))
      go_wp2
      go_ret
      exact ⟨ret_in HX.out.symm, rfl⟩
theorem is_strs_new (w : World) (l : List ByteArray) (t : TypeId) (cs : Array Value) (hcs : cs = (l.map Value.string).toArray) : Is (w.alloc (.cells cs t)) (strsD l) (.slice (some ⟨w.heap.size, 0, none⟩) l.length l.length) := by
  subst hcs
  rw [Is]
  refine ⟨_, _, rfl, .inr ⟨Nat.le_refl _, w.heap.size, 0, rfl, isAll_of fun j d hj => ?_⟩⟩
  rw [List.getElem?_map] at hj
  obtain ⟨s, hs, rfl⟩ := Option.map_eq_some_iff.1 hj
  refine ⟨.string s, ?_, by rw [Is]⟩
  rw [Nat.zero_add, World.cell?_alloc_mark]
  simp [hs]
set_option maxRecDepth 100000 in
theorem spec_funs (w : World) : Calls Tryd.prog 48 #[] w fun e w' => e = .returned (.slice (some ⟨w.heap.size, 0, none⟩) 55 55) ∧ w.alloc (.cells (funL.map Value.string).toArray 9) = w' := by
  go_enter Tryd.func48, Tryd.ntmps48
  go_wp2
  go_ret
  exact ⟨rfl, rfl⟩
theorem spec_funs2 (w : World) : Calls Tryd.prog 48 #[] w fun e w' => e = .returned (.slice (some ⟨w.heap.size, 0, none⟩) 55 55) ∧ Is w' (strsD funL) (.slice (some ⟨w.heap.size, 0, none⟩) 55 55) ∧ w'.heap.size = w.heap.size + 1 ∧ Below w.heap.size w w' :=
  (spec_funs w).mono fun e w' ⟨he, hw⟩ => by
    subst hw
    exact ⟨he, is_strs_new w funL 9 _ rfl, World.size_alloc _ _, bl1 _ _⟩
end Go.Proofs.YtbadepiakkhabaaDoor
/- The reference model: what a name means outside of procedures. No conditions. -/
namespace Go.Proofs.YtbadepiakkhabaaDoor
open Go.RowKit
set_option linter.unusedVariables false

def RetII (w : World) (p : Int × Int) (e : Ending) (w' : World) : Prop := e = .returned (.tuple #[.int .i64 p.1, .int .i64 p.2]) ∧ Below w.heap.size w w'
theorem ret_ii {a b : Int} {p : Int × Int} (h : p = (a, b)) : Ending.returned (.tuple #[.int .i64 a, .int .i64 b]) = .returned (.tuple #[.int .i64 p.1, .int .i64 p.2]) := by rw [h]
theorem outer_rec {u : Un} {s : ByteArray} {k : Nat} (h : fx (u.recs.map Rc.name) s = some k) : outer u s = (5, (k : Int)) := by unfold outer; rw [h]
theorem outer_glob {u : Un} {s : ByteArray} {k : Nat} (h0 : fx (u.recs.map Rc.name) s = none) (h : fx u.globs s = some k) : outer u s = (2, (k : Int)) := by unfold outer; rw [h0, h]
theorem outer_proc {u : Un} {s : ByteArray} {k : Nat} (h0 : fx (u.recs.map Rc.name) s = none) (h1 : fx u.globs s = none) (h : fx (u.procs.map Pc.name) s = some k) : outer u s = (3, (k : Int)) := by unfold outer; rw [h0, h1, h]
theorem outer_fun {u : Un} {s : ByteArray} {k : Nat} (h0 : fx (u.recs.map Rc.name) s = none) (h1 : fx u.globs s = none) (h2 : fx (u.procs.map Pc.name) s = none) (h : fx funL s = some k) : outer u s = (4, (k : Int)) := by unfold outer; rw [h0, h1, h2, h]
theorem outer_none {u : Un} {s : ByteArray} (h0 : fx (u.recs.map Rc.name) s = none) (h1 : fx u.globs s = none) (h2 : fx (u.procs.map Pc.name) s = none) (h : fx funL s = none) : outer u s = (0, 0) := by unfold outer; rw [h0, h1, h2, h]
theorem un_lens {u : Un} (hb : u.bulk ≤ 1048576) : (u.recs.length : Int) ≤ 1048576 ∧ (u.globs.length : Int) ≤ 1048576 ∧ (u.procs.length : Int) ≤ 1048576 := by
  unfold Un.bulk recsB strsB procsB at hb
  omega
theorem recName (u : Un) (k : Nat) (h : k < u.recs.length) : (u.recs.map Rc.name)[k]'(by simpa using h) = u.recs[k].name := by simp
theorem procName (u : Un) (k : Nat) (h : k < u.procs.length) : (u.procs.map Pc.name)[k]'(by simpa using h) = u.procs[k].name := by simp
set_option maxRecDepth 100000 in
set_option maxHeartbeats 3200000 in
theorem spec_outer (u : Un) (hb : u.bulk ≤ 1048576) (s : ByteArray) (w : World) (v1 v2 v3 : Value) (h : UnIs w u v1 v2 v3) : Calls Tryd.prog 86 #[unV v1 v2 v3, .string s] w (RetII w (outer u s)) := by
  unfold RetII
  obtain ⟨l1, l2, l3⟩ := un_lens hb
  obtain ⟨h1, h2, h3⟩ := h
  obtain ⟨a1, c1, rfl⟩ := is_slice h1
  obtain ⟨a2, c2, rfl⟩ := is_slice h2
  obtain ⟨a3, c3, rfl⟩ := is_slice h3
  have B0 := Lib.hid (bl1 w (.cells #[.slice a1 u.recs.length c1, .slice a2 u.globs.length c2, .slice a3 u.procs.length c3] 51))
  have V0 := Lib.hid (Var.new w #[.slice a1 u.recs.length c1, .slice a2 u.globs.length c2, .slice a3 u.procs.length c3] 51)
  obtain ⟨w1, hw1⟩ : ∃ W, w.alloc (.cells #[.slice a1 u.recs.length c1, .slice a2 u.globs.length c2, .slice a3 u.procs.length c3] 51) = W := ⟨_, rfl⟩
  rw [hw1] at B0 V0
  have HW1 := Lib.hid hw1
  have H1 := Lib.hid (h1.later B0.out)
  have H2 := Lib.hid (h2.later B0.out)
  have H3 := Lib.hid (h3.later B0.out)
  have HG := Lib.hid (spec_find _ u.globs s w1 H2.out l2)
  clear h1 h2 h3 hb hw1
  go_enter Tryd.func86, Tryd.ntmps86
  go_wp2
  rw [HW1.out]
  have x0 := (V0.out 0 _ rfl).1
  have x1 := (V0.out 1 _ rfl).1
  have x2 := (V0.out 2 _ rfl).1
  go_loop [6] (fun i => ∃ k : Nat, i = .int .i64 k ∧ k ≤ u.recs.length ∧ NotYet (u.recs.map Rc.name) s k) (fun i => u.recs.length - (intOf i).toNat)
  case atStart => exact ⟨0, rfl, Nat.zero_le _, notYet_zero _ s⟩
  case round =>
    obtain ⟨k, rfl, hk, hn⟩ := hrel
    have HN := Lib.hid hn
    clear hn
    by_cases hlt : k < u.recs.length
    · obtain ⟨g, o, rfl, q0, _, _⟩ := rec_at H1.out k hlt
      have hlm : k < (u.recs.map Rc.name).length := by simpa using hlt
      have HE := Lib.hid (recName u k hlt)
      cases he : eqN u.recs[k].name s
      case true =>
        have HX := Lib.hid (outer_rec (fx_at hlm (by rw [HE.out]; exact he) HN.out))
        have t1 : (u.recs[k].name.toList == s.toList) = true := he
        clear he HE
        generalize u.recs[k] = x at q0 t1
        go_wp2
        go_ret2
        exact ⟨ret_ii HX.out, B0.out⟩
      case false =>
        have HX := Lib.hid (notYet_succ HN.out hlm (by rw [HE.out]; exact he))
        have t1 : (u.recs[k].name.toList == s.toList) = false := he
        clear he HE
        generalize u.recs[k] = x at q0 t1
        go_wp2
        go_round
        case rel => exact ⟨k + 1, by go_num, by omega, HX.out⟩
        case measure => first | (simp [intOf]; done) | (simp [intOf]; omega)
    · obtain rfl : k = u.recs.length := by omega
      have HR := Lib.hid (notYet_all (l := u.recs.map Rc.name) (by rw [List.length_map]; exact HN.out))
      clear HN
      rcases hg : fx u.globs s with _ | k
      · rw [fxI_none hg] at HG
        have HGN := Lib.hid hg
        clear hg
        go_wp2_with fail
        refine HG.out.mono ?_
        rintro e w2 ⟨rfl, rfl⟩
        go_wp2
        go_loop [8] (fun i => ∃ k : Nat, i = .int .i64 k ∧ k ≤ u.procs.length ∧ NotYet (u.procs.map Pc.name) s k) (fun i => u.procs.length - (intOf i).toNat)
        case atStart => exact ⟨0, rfl, Nat.zero_le _, notYet_zero _ s⟩
        case round =>
          obtain ⟨k, rfl, hk, hn⟩ := hrel
          have HN := Lib.hid hn
          clear hn
          by_cases hlt : k < u.procs.length
          · obtain ⟨g, o, rfl, q0, _⟩ := proc_at H3.out k hlt
            have hlm : k < (u.procs.map Pc.name).length := by simpa using hlt
            have HE := Lib.hid (procName u k hlt)
            cases he : eqN u.procs[k].name s
            case true =>
              have HX := Lib.hid (outer_proc HR.out HGN.out (fx_at hlm (by rw [HE.out]; exact he) HN.out))
              have t1 : (u.procs[k].name.toList == s.toList) = true := he
              clear he HE
              generalize u.procs[k] = x at q0 t1
              go_wp2
              go_ret2
              exact ⟨ret_ii HX.out, B0.out⟩
            case false =>
              have HX := Lib.hid (notYet_succ HN.out hlm (by rw [HE.out]; exact he))
              have t1 : (u.procs[k].name.toList == s.toList) = false := he
              clear he HE
              generalize u.procs[k] = x at q0 t1
              go_wp2
              go_round
              case rel => exact ⟨k + 1, by go_num, by omega, HX.out⟩
              case measure => first | (simp [intOf]; done) | (simp [intOf]; omega)
          · obtain rfl : k = u.procs.length := by omega
            have HP := Lib.hid (notYet_all (l := u.procs.map Pc.name) (by rw [List.length_map]; exact HN.out))
            have HF := Lib.hid (spec_funs2 w1)
            clear HN
            rcases hf : fx funL s with _ | k
            · have HX := Lib.hid (outer_none HR.out HGN.out HP.out hf)
              have HFI := Lib.hid (fxI_none hf)
              clear hf
              go_wp2_with fail
              refine HF.out.mono ?_
              rintro e w2 ⟨rfl, hi2, hz2, b2⟩
              have HC := Lib.hid (spec_find _ funL s w2 hi2 (by decide))
              rw [HFI.out] at HC
              have B2 := Lib.hid (below_then B0.out b2)
              clear hi2 hz2 b2
              go_wp2_with fail
              refine HC.out.mono ?_
              rintro e w3 ⟨rfl, rfl⟩
              go_wp2
              go_ret2
              exact ⟨ret_ii HX.out, B2.out⟩
            · have HX := Lib.hid (outer_fun HR.out HGN.out HP.out hf)
              have HFI := Lib.hid (fxI_some hf)
              clear hf
              go_wp2_with fail
              refine HF.out.mono ?_
              rintro e w2 ⟨rfl, hi2, hz2, b2⟩
              have HC := Lib.hid (spec_find _ funL s w2 hi2 (by decide))
              rw [HFI.out] at HC
              have B2 := Lib.hid (below_then B0.out b2)
              clear hi2 hz2 b2
              go_wp2_with fail
              refine HC.out.mono ?_
              rintro e w3 ⟨rfl, rfl⟩
              go_wp2
              go_ret2
              exact ⟨ret_ii HX.out, B2.out⟩
      · rw [fxI_some hg] at HG
        have HX := Lib.hid (outer_glob HR.out hg)
        clear hg
        go_wp2_with fail
        refine HG.out.mono ?_
        rintro e w2 ⟨rfl, rfl⟩
        go_wp2
        go_ret2
        exact ⟨ret_ii HX.out, B0.out⟩
end Go.Proofs.YtbadepiakkhabaaDoor
/- The reference model: does a name stand twice, how many case expressions. No conditions. -/
namespace Go.Proofs.YtbadepiakkhabaaDoor
open Go.RowKit
set_option linter.unusedVariables false

theorem getD_at (l : List ByteArray) (k : Nat) (hk : k < l.length) : l.getD k ByteArray.empty = l[k] := by rw [List.getD_eq_getElem?_getD, List.getElem?_eq_getElem hk]; rfl
/-- Up to place k no name stood before. -/
def NoTwin (l : List ByteArray) (k : Nat) : Prop := ∀ i, i < k → (fx (l.take i) (l.getD i ByteArray.empty)).isSome = false
theorem noTwin_zero (l : List ByteArray) : NoTwin l 0 := fun i h => by omega
theorem noTwin_succ {l : List ByteArray} {k : Nat} (h : NoTwin l k) (hk : k < l.length) (hn : fx (l.take k) l[k] = none) : NoTwin l (k + 1) := fun i hi => by
  by_cases e : i = k
  · subst e; rw [getD_at l i hk, hn]; rfl
  · exact h i (by omega)
theorem noTwin_all {l : List ByteArray} (h : NoTwin l l.length) : twice l = false := by
  unfold twice
  rw [List.any_eq_false]
  intro i hi
  rw [h i (List.mem_range.1 hi)]; decide
theorem twice_yes {l : List ByteArray} {k j : Nat} (hk : k < l.length) (h : fx (l.take k) l[k] = some j) : twice l = true := by
  unfold twice
  rw [List.any_eq_true]
  exact ⟨k, List.mem_range.2 hk, by rw [getD_at l k hk, h]; rfl⟩
theorem fx_app (a b : List ByteArray) (s : ByteArray) : fx (a ++ b) s = match fx a s with | some j => some j | none => (fx b s).map (· + a.length) := by
  unfold fx
  rw [List.findIdx?_append]
  cases List.findIdx? (fun x => eqN x s) a <;> simp
theorem fx_here {l : List ByteArray} {k : Nat} (hk : k < l.length) : fx l l[k] = match fx (l.take k) l[k] with | some j => some j | none => some k := by
  have e : l = l.take k ++ (l[k] :: l.drop (k + 1)) := by rw [← List.drop_eq_getElem_cons hk, List.take_append_drop]
  have h1 : fx l l[k] = fx (l.take k ++ (l[k] :: l.drop (k + 1))) l[k] := congrArg (fun z => fx z l[k]) e
  rw [h1, fx_app]
  have h2 : fx (l[k] :: l.drop (k + 1)) l[k] = some 0 := by unfold fx; rw [List.findIdx?_cons, eqN_self]; rfl
  rw [h2]
  cases fx (l.take k) l[k] with
  | some j => rfl
  | none => simp; omega
theorem ret_bb {a b : Bool} (h : a = b) : Ending.returned (.bool a) = .returned (.bool b) := by rw [h]
set_option maxHeartbeats 800000 in
theorem spec_twice (v : Value) (l : List ByteArray) (w : World) (h : Is w (strsD l) v) (hl : (l.length : Int) ≤ 1048576) : Calls Tryd.prog 29 #[v] w fun e w' => e = .returned (.bool (twice l)) ∧ w = w' := by
  have HF := Lib.hid (fun s => spec_find v l s w h hl)
  obtain ⟨a, c, rfl⟩ := is_slice h
  have HK := Lib.hid h
  clear h
  go_enter Tryd.func29, Tryd.ntmps29
  go_wp2
  go_loop [3] (fun i => ∃ k : Nat, i = .int .i64 k ∧ k ≤ l.length ∧ NoTwin l k) (fun i => l.length - (intOf i).toNat)
  case atStart => exact ⟨0, rfl, Nat.zero_le _, noTwin_zero l⟩
  case round =>
    obtain ⟨k, rfl, hk, hn⟩ := hrel
    have HN := Lib.hid hn
    clear hn
    by_cases hlt : k < l.length
    · obtain ⟨g, o, rfl, d1⟩ := str_at HK.out k hlt
      have HC := Lib.hid (HF.out l[k])
      have k0 : (0 : Int) ≤ (k : Int) := by omega
      have k1 : (k : Int) < l.length := by omega
      rcases hf : fx (l.take k) l[k] with _ | j
      · have e : fx l l[k] = some k := by rw [fx_here hlt, hf]
        rw [fxI_some e] at HC
        have HX := Lib.hid (noTwin_succ HN.out hlt hf)
        clear hf e
        generalize l[k] = x at d1 HC
        go_wp2_with fail
        refine HC.out.mono ?_
        rintro e w3 ⟨rfl, rfl⟩
        go_wp2
        go_round
        case rel => exact ⟨k + 1, by go_num, by omega, HX.out⟩
        case measure => first | (simp [intOf]; done) | (simp [intOf]; omega)
      · have e : fx l l[k] = some j := by rw [fx_here hlt, hf]
        have hj := fx_lt hf
        rw [List.length_take] at hj
        have hj2 : (j : Int) < (k : Int) := by omega
        rw [fxI_some e] at HC
        have HX := Lib.hid (twice_yes hlt hf)
        clear hf e hj
        generalize l[k] = x at d1 HC
        go_wp2_with fail
        refine HC.out.mono ?_
        rintro e w3 ⟨rfl, rfl⟩
        go_wp2
        go_ret
        exact ⟨ret_bb HX.out.symm, rfl⟩
    · obtain rfl : k = l.length := by omega
      have HX := Lib.hid (noTwin_all HN.out)
      go_wp2
      go_ret
      exact ⟨ret_bb HX.out.symm, rfl⟩
theorem csN_eq (t : Ex.T) : csN t = (if t.kind == 20 then 1 else 0) + csNs t.kids := by cases t; rw [csN]; rfl
mutual
theorem csN_le : ∀ t : Ex.T, csN t ≤ t.count
  | .node k t n l ks => by
    rw [csN, Ex.T.count]
    have := csNs_le ks
    split <;> omega
theorem csNs_le : ∀ ks : List Ex.T, csNs ks ≤ Ex.counts ks
  | [] => by rw [csNs, Ex.counts]; omega
  | x :: r => by
    rw [csNs, Ex.counts]
    have h1 := csN_le x
    have h2 := csNs_le r
    omega
end
theorem csNs_take (l : List Ex.T) (k : Nat) (h : k < l.length) : csNs (l.take (k + 1)) = csNs (l.take k) + csN l[k] := by
  have app : ∀ a b : List Ex.T, csNs (a ++ b) = csNs a + csNs b := by
    intro a b
    induction a with
    | nil => simp [csNs]
    | cons x r ih => rw [List.cons_append, csNs, csNs, ih]; omega
  rw [List.take_succ_eq_append_getElem h, app]
  simp [csNs]
def CasesT (t : Ex.T) : Prop := t.count ≤ 1048576 → ∀ (w : World) (v : Value), Kids w v t.kids → Calls Tryd.prog 51 #[exV t v] w fun e w' => e = .returned (.int .i64 (csN t : Int)) ∧ Below w.heap.size w w'
set_option maxRecDepth 100000 in
set_option maxHeartbeats 1600000 in
theorem spec_cases : ∀ (N : Nat) (t : Ex.T), t.count ≤ N → CasesT t := by
  intro N
  induction N with
  | zero => intro t h; have := Ex.count_pos t; omega
  | succ N ih =>
    intro t hN hct w v hk
    have HI := Lib.hid (fun (x : Ex.T) (hx : x ∈ t.kids) => ih x (by have := kids_count hx; omega) (by have := kids_count hx; omega))
    have HC := Lib.hid (csN_eq t)
    have HKX := Lib.hid hk
    have hln : t.kids.length ≤ 1048576 := by
      have h1 := count_eq t
      have h2 : t.kids.length ≤ Ex.counts t.kids := by
        have : ∀ l : List Ex.T, l.length ≤ Ex.counts l := by
          intro l
          induction l with
          | nil => simp [Ex.counts]
          | cons x r ih => rw [Ex.counts, List.length_cons]; have := Ex.count_pos x; omega
        exact this _
      omega
    obtain ⟨a, c, rfl⟩ := kids_len hk
    have B0 := Lib.hid (bl1 w (.cells #[.int .i64 t.kind, .string t.text, .int .i64 t.num, .int .i64 t.line, .slice a t.kids.length c] 105))
    have V0 := Lib.hid (Var.new w #[.int .i64 t.kind, .string t.text, .int .i64 t.num, .int .i64 t.line, .slice a t.kids.length c] 105)
    obtain ⟨w1, hw1⟩ : ∃ W, w.alloc (.cells #[.int .i64 t.kind, .string t.text, .int .i64 t.num, .int .i64 t.line, .slice a t.kids.length c] 105) = W := ⟨_, rfl⟩
    rw [hw1] at B0 V0
    have HW1 := Lib.hid hw1
    have HCT : Hid (csNs t.kids + 1 ≤ 1048576) := Lib.hid (by have h1 := csNs_le t.kids; have h2 := count_eq t; omega)
    clear ih hN hk hw1 hct
    have x0 := (V0.out 0 _ rfl).1
    cases hk20 : t.kind == 20
    · rw [show (if t.kind == 20 then (1 : Nat) else 0) = 0 by rw [hk20]; rfl] at HC
      go_enter Tryd.func51, Tryd.ntmps51
      go_wp2_with fail
      rw [HW1.out]
      go_wp2
      clear x0
      go_loopw [3, 4] (fun m i wr => ∃ k : Nat, i = .int .i64 k ∧ k ≤ t.kids.length ∧ m = .int .i64 ((0 + csNs (t.kids.take k) : Nat) : Int) ∧ Below w.heap.size w wr ∧ Var wr w.heap.size [.int .i64 t.kind, .string t.text, .int .i64 t.num, .int .i64 t.line, .slice a t.kids.length c]) (fun _ i _ => t.kids.length - (intOf i).toNat)
      case atStart => exact ⟨0, rfl, Nat.zero_le _, by rw [List.take_zero, csNs]; rfl, B0.out, V0.out⟩
      case round =>
        obtain ⟨k, rfl, hk, rfl, hb, hv⟩ := hrel
        have HB := Lib.hid hb
        have HV := Lib.hid hv
        have x4 := (hv 4 _ rfl).1
        by_cases hlt : k < t.kids.length
        · obtain ⟨gk, ok, rfl, ht⟩ := kids_at (HKX.out.later hb) k hlt
          obtain ⟨⟨q0, q1, q2, q3⟩, vx, q4, hkv⟩ := tree_cells ht
          have HA := Lib.hid (HI.out t.kids[k] (List.getElem_mem hlt) wr vx hkv)
          obtain ⟨a8, c8, rfl⟩ := kids_len hkv
          have HN := Lib.hid (csNs_take t.kids k hlt)
          have hm1 : csNs (t.kids.take k) + csN t.kids[k] + 1 ≤ 1048576 := by
            have e : t.kids = t.kids.take (k + 1) ++ t.kids.drop (k + 1) := (List.take_append_drop _ _).symm
            have h1 : csNs (t.kids.take (k + 1)) ≤ csNs t.kids := by
              have app : ∀ a b : List Ex.T, csNs (a ++ b) = csNs a + csNs b := by
                intro a b
                induction a with
                | nil => simp [csNs]
                | cons x r ih => rw [List.cons_append, csNs, csNs, ih]; omega
              have h2 := app (t.kids.take (k + 1)) (t.kids.drop (k + 1))
              rw [← e] at h2; omega
            have := HCT.out
            rw [HN.out] at h1; omega
          have HKL := Lib.hid hlt
          have k0 : (0 : Int) ≤ k := by omega
          have k1 : (k : Int) < t.kids.length := by omega
          clear hb hv ht hkv
          generalize t.kids[k] = y at q0 q1 q2 q3 q4 HA HN hm1
          clear hlt
          generalize hs : csNs (t.kids.take k) = s0 at HN hm1 ⊢
          clear hs
          generalize csN y = s1 at HA HN hm1
          rw [show ((0 + s0 : Nat) : Int) = (0 + (s0 : Int) : Int) by omega]
          have hs0 : (0 : Int) ≤ s0 := by omega
          have hs1 : (0 : Int) ≤ s1 := by omega
          have hs2 : (s0 : Int) + s1 + 1 ≤ 1048576 := by omega
          have HS2 := Lib.hid hs2
          clear hm1
          go_wp2_with ((with_reducible refine HA.out.mono ?_); rintro e w3 ⟨rfl, b3⟩; have HB3 := Lib.hid (below_then HB.out b3); have HV3 := Lib.hid (HV.out.later b3); clear b3)
          go_roundw
          case rel => exact ⟨k + 1, by go_num, by have := HKL.out; omega, by rw [HN.out]; congr 1; omega, HB3.out, HV3.out⟩
          case measure => have := HKL.out; first | (simp [intOf]; done) | (simp [intOf]; omega)
        · obtain rfl : k = t.kids.length := by omega
          rw [List.take_length, ← HC.out]
          clear hv
          go_wp2
          go_ret
          exact ⟨rfl, hb⟩
    · rw [show (if t.kind == 20 then (1 : Nat) else 0) = 1 by rw [hk20]; rfl] at HC
      go_enter Tryd.func51, Tryd.ntmps51
      go_wp2_with fail
      rw [HW1.out]
      go_wp2
      clear x0
      go_loopw [3, 4] (fun m i wr => ∃ k : Nat, i = .int .i64 k ∧ k ≤ t.kids.length ∧ m = .int .i64 ((1 + csNs (t.kids.take k) : Nat) : Int) ∧ Below w.heap.size w wr ∧ Var wr w.heap.size [.int .i64 t.kind, .string t.text, .int .i64 t.num, .int .i64 t.line, .slice a t.kids.length c]) (fun _ i _ => t.kids.length - (intOf i).toNat)
      case atStart => exact ⟨0, rfl, Nat.zero_le _, by rw [List.take_zero, csNs]; rfl, B0.out, V0.out⟩
      case round =>
        obtain ⟨k, rfl, hk, rfl, hb, hv⟩ := hrel
        have HB := Lib.hid hb
        have HV := Lib.hid hv
        have x4 := (hv 4 _ rfl).1
        by_cases hlt : k < t.kids.length
        · obtain ⟨gk, ok, rfl, ht⟩ := kids_at (HKX.out.later hb) k hlt
          obtain ⟨⟨q0, q1, q2, q3⟩, vx, q4, hkv⟩ := tree_cells ht
          have HA := Lib.hid (HI.out t.kids[k] (List.getElem_mem hlt) wr vx hkv)
          obtain ⟨a8, c8, rfl⟩ := kids_len hkv
          have HN := Lib.hid (csNs_take t.kids k hlt)
          have hm1 : csNs (t.kids.take k) + csN t.kids[k] + 1 ≤ 1048576 := by
            have e : t.kids = t.kids.take (k + 1) ++ t.kids.drop (k + 1) := (List.take_append_drop _ _).symm
            have h1 : csNs (t.kids.take (k + 1)) ≤ csNs t.kids := by
              have app : ∀ a b : List Ex.T, csNs (a ++ b) = csNs a + csNs b := by
                intro a b
                induction a with
                | nil => simp [csNs]
                | cons x r ih => rw [List.cons_append, csNs, csNs, ih]; omega
              have h2 := app (t.kids.take (k + 1)) (t.kids.drop (k + 1))
              rw [← e] at h2; omega
            have := HCT.out
            rw [HN.out] at h1; omega
          have HKL := Lib.hid hlt
          have k0 : (0 : Int) ≤ k := by omega
          have k1 : (k : Int) < t.kids.length := by omega
          clear hb hv ht hkv
          generalize t.kids[k] = y at q0 q1 q2 q3 q4 HA HN hm1
          clear hlt
          generalize hs : csNs (t.kids.take k) = s0 at HN hm1 ⊢
          clear hs
          generalize csN y = s1 at HA HN hm1
          rw [show ((1 + s0 : Nat) : Int) = (1 + (s0 : Int) : Int) by omega]
          have hs0 : (0 : Int) ≤ s0 := by omega
          have hs1 : (0 : Int) ≤ s1 := by omega
          have hs2 : (s0 : Int) + s1 + 1 ≤ 1048576 := by omega
          have HS2 := Lib.hid hs2
          clear hm1
          go_wp2_with ((with_reducible refine HA.out.mono ?_); rintro e w3 ⟨rfl, b3⟩; have HB3 := Lib.hid (below_then HB.out b3); have HV3 := Lib.hid (HV.out.later b3); clear b3)
          go_roundw
          case rel => exact ⟨k + 1, by go_num, by have := HKL.out; omega, by rw [HN.out]; congr 1; omega, HB3.out, HV3.out⟩
          case measure => have := HKL.out; first | (simp [intOf]; done) | (simp [intOf]; omega)
        · obtain rfl : k = t.kids.length := by omega
          rw [List.take_length, ← HC.out]
          clear hv
          go_wp2
          go_ret
          exact ⟨rfl, hb⟩
end Go.Proofs.YtbadepiakkhabaaDoor
/- Routines and programs as data; valid programs, plainly. No conditions. -/
namespace Go.Proofs.YtbadepiakkhabaaDoor
open Go.RowKit
set_option linter.unusedVariables false

structure Ro where
  name : ByteArray
  params : Int
  slots : List ByteArray
  body : Co.T
structure Pg where
  routs : List Ro
  recs : List Rc
  globs : List ByteArray
  main : Int
def Ro.ds (r : Ro) : List D := [.str r.name, .int r.params, strsD r.slots, .int r.body.kind, .int r.body.op, .int r.body.num, .int r.body.line, .str r.body.text, .cor r.body.kids]
abbrev routsD (l : List Ro) : D := .row l.length (l.flatMap Ro.ds)
theorem Ro.ds_len (r : Ro) : r.ds.length = 9 := rfl
abbrev roV (r : Ro) (v1 v2 : Value) : Value := .agg #[.string r.name, .int .i64 r.params, v1, .int .i64 r.body.kind, .int .i64 r.body.op, .int .i64 r.body.num, .int .i64 r.body.line, .string r.body.text, v2]
abbrev pgV (v1 v2 v3 : Value) (m : Int) : Value := .agg #[v1, v2, v3, .int .i64 m]
/-- The cells of a routine at a place. -/
def RoutAt (w : World) (g o : Nat) (r : Ro) : Prop := w.cell? ⟨g, o, none⟩ = some (.string r.name) ∧ w.cell? ⟨g, o + 1, none⟩ = some (.int .i64 r.params) ∧ (∃ v1, w.cell? ⟨g, o + 2, none⟩ = some v1 ∧ Is w (strsD r.slots) v1)
  ∧ (w.cell? ⟨g, o + 3, none⟩ = some (.int .i64 r.body.kind) ∧ w.cell? ⟨g, o + 4, none⟩ = some (.int .i64 r.body.op) ∧ w.cell? ⟨g, o + 5, none⟩ = some (.int .i64 r.body.num) ∧ w.cell? ⟨g, o + 6, none⟩ = some (.int .i64 r.body.line) ∧ w.cell? ⟨g, o + 7, none⟩ = some (.string r.body.text)) ∧ (∃ v2, w.cell? ⟨g, o + 8, none⟩ = some v2 ∧ Cr.Kids w v2 r.body.kids)
theorem is_cor {w : World} {ks : List Co.T} {v : Value} (h : Is w (.cor ks) v) : Cr.Kids w v ks := by rw [Is] at h; exact h
theorem rout_at {w : World} {a : Option Addr} {n c : Nat} {l : List Ro} (h : Is w (.row n (l.flatMap Ro.ds)) (.slice a n c)) (i : Nat) (hi : i < l.length) : ∃ g o, a = some ⟨g, o, none⟩ ∧ RoutAt w g (o + i * 9) l[i] := by
  obtain ⟨g, o, e, hc⟩ := is_nth Ro.ds Ro.ds_len (by decide) h i l[i] (List.getElem?_eq_getElem hi)
  obtain ⟨u0, c0, d0⟩ := hc 0 _ rfl
  obtain ⟨u1, c1, d1⟩ := hc 1 _ rfl
  obtain ⟨u2, c2, d2⟩ := hc 2 _ rfl
  obtain ⟨u3, c3, d3⟩ := hc 3 _ rfl
  obtain ⟨u4, c4, d4⟩ := hc 4 _ rfl
  obtain ⟨u5, c5, d5⟩ := hc 5 _ rfl
  obtain ⟨u6, c6, d6⟩ := hc 6 _ rfl
  obtain ⟨u7, c7, d7⟩ := hc 7 _ rfl
  obtain ⟨u8, c8, d8⟩ := hc 8 _ rfl
  obtain rfl := is_str d0
  obtain rfl := is_int d1
  obtain rfl := is_int d3
  obtain rfl := is_int d4
  obtain rfl := is_int d5
  obtain rfl := is_int d6
  obtain rfl := is_str d7
  exact ⟨g, o, e, c0, c1, ⟨u2, c2, d2⟩, ⟨c3, c4, c5, c6, c7⟩, ⟨u8, c8, is_cor d8⟩⟩
def Ro.bulk (r : Ro) : Nat := r.name.size + (strsB r.slots + r.body.bulk)
def routsB (l : List Ro) : Nat := l.length + wsum Ro.bulk l
def Pg.bulk (p : Pg) : Nat := routsB p.routs + (recsB p.recs + strsB p.globs)
def Ro.Ok (r : Ro) : Prop := r.name.size ≤ 9223372036854775807 ∧ (-9223372036854775808 ≤ r.params ∧ r.params ≤ 9223372036854775807) ∧ StrsOk r.slots ∧ r.body.Ok
def Pg.Ok (p : Pg) : Prop := (p.routs.length ≤ 9223372036854775807 ∧ ∀ r ∈ p.routs, r.Ok) ∧ (p.recs.length ≤ 9223372036854775807 ∧ ∀ r ∈ p.recs, r.Ok) ∧ StrsOk p.globs ∧ (-9223372036854775808 ≤ p.main ∧ p.main ≤ 9223372036854775807)
/-- A program by its three lists. -/
def PgIs (w : World) (p : Pg) (v1 v2 v3 : Value) : Prop := Is w (routsD p.routs) v1 ∧ Is w (recsD p.recs) v2 ∧ Is w (strsD p.globs) v3
theorem PgIs.later {w w' : World} {p : Pg} {v1 v2 v3 : Value} (h : PgIs w p v1 v2 v3) (hb : Below w.heap.size w w') : PgIs w' p v1 v2 v3 := ⟨h.1.later hb, h.2.1.later hb, h.2.2.later hb⟩
/-- A slot's name. -/
def slotB (s : ByteArray) : Bool := s.toList.isEmpty || nmB s
def Rc.fine (r : Rc) : Bool := nmB r.name && (nmOk r.fields 6 && (!twice r.fields && decide (0 ≤ r.line)))
def Pg.env (p : Pg) (r : Ro) : Co.Env := ⟨r.slots.length, p.globs.length, p.routs.length, p.recs.length⟩
def Ro.head (r : Ro) : Bool := nmB r.name && (decide (r.slots.length ≤ 24) && (Co.inR r.params 0 r.slots.length && r.slots.all slotB))
def Pg.ro (p : Pg) (r : Ro) : Bool := r.head && r.body.ok (p.env r) false false 1
/-- Main is a routine without parameters. -/
def Pg.mainB (p : Pg) : Bool := decide (0 ≤ p.main) && (match p.routs[p.main.toNat]? with | some r => decide (r.params = 0) | none => false)
def nodesN (l : List Ro) : Nat := wsum (fun r => r.body.count) l
def Pg.top (p : Pg) : Bool := decide (1 ≤ p.routs.length) && (decide (p.routs.length ≤ 12) && (decide (p.recs.length ≤ 8) && (nmOk p.globs 12 && p.mainB)))
def Pg.valid (p : Pg) : Bool := p.top && (p.recs.all Rc.fine && (p.routs.all p.ro && decide (nodesN p.routs ≤ 40000)))
end Go.Proofs.YtbadepiakkhabaaDoor
