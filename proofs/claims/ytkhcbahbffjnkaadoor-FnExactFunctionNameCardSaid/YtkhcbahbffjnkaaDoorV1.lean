/- Names: their first places in lists, what they mean, the faults of a unit. No conditions. -/
import Derived.Test.YtkhcbahbffjnkaaDoorU4
namespace Go.Proofs.YtkhcbahbffjnkaaDoor
set_option linter.unusedVariables false

/-- The names of the functions. -/
def funL : List ByteArray := [⟨#[119, 114, 105, 116, 101]⟩, ⟨#[105, 109, 97, 103, 101]⟩, ⟨#[116, 121, 112, 101]⟩, ⟨#[105, 110, 116, 101, 103, 101, 114]⟩, ⟨#[115, 116, 114, 105, 110, 103]⟩, ⟨#[99, 115, 101, 116]⟩, ⟨#[108, 105, 115, 116]⟩, ⟨#[116, 97, 98, 108, 101]⟩, ⟨#[115, 101, 116]⟩, ⟨#[112, 117, 116]⟩, ⟨#[112, 117, 115, 104]⟩, ⟨#[103, 101, 116]⟩, ⟨#[112, 111, 112]⟩, ⟨#[112, 117, 108, 108]⟩, ⟨#[109, 101, 109, 98, 101, 114]⟩, ⟨#[105, 110, 115, 101, 114, 116]⟩, ⟨#[100, 101, 108, 101, 116, 101]⟩, ⟨#[107, 101, 121]⟩, ⟨#[115, 111, 114, 116]⟩, ⟨#[99, 111, 112, 121]⟩, ⟨#[102, 105, 110, 100]⟩, ⟨#[117, 112, 116, 111]⟩, ⟨#[109, 97, 110, 121]⟩, ⟨#[97, 110, 121]⟩, ⟨#[109, 97, 116, 99, 104]⟩, ⟨#[116, 97, 98]⟩, ⟨#[109, 111, 118, 101]⟩, ⟨#[112, 111, 115]⟩, ⟨#[114, 101, 112, 108]⟩, ⟨#[114, 101, 118, 101, 114, 115, 101]⟩, ⟨#[108, 101, 102, 116]⟩, ⟨#[114, 105, 103, 104, 116]⟩, ⟨#[99, 101, 110, 116, 101, 114]⟩, ⟨#[116, 114, 105, 109]⟩, ⟨#[109, 97, 112]⟩, ⟨#[111, 114, 100]⟩, ⟨#[99, 104, 97, 114]⟩, ⟨#[97, 98, 115]⟩, ⟨#[115, 101, 113]⟩, ⟨#[76, 101, 110]⟩, ⟨#[80, 111, 115]⟩, ⟨#[82, 80, 111, 115]⟩, ⟨#[84, 97, 98]⟩, ⟨#[82, 84, 97, 98]⟩, ⟨#[65, 110, 121]⟩, ⟨#[78, 111, 116, 65, 110, 121]⟩, ⟨#[83, 112, 97, 110]⟩, ⟨#[66, 114, 101, 97, 107]⟩, ⟨#[65, 114, 98]⟩, ⟨#[82, 101, 109]⟩, ⟨#[65, 114, 98, 110, 111]⟩, ⟨#[70, 101, 110, 99, 101]⟩, ⟨#[65, 98, 111, 114, 116]⟩, ⟨#[69, 109, 112, 116, 121]⟩, ⟨#[70, 97, 105, 108]⟩]
theorem funL_len : funL.length = 55 := rfl
/-- Are two names equal? -/
def eqN (x s : ByteArray) : Bool := x.toList == s.toList
theorem eqN_iff {x s : ByteArray} : eqN x s = true ↔ x = s := by
  unfold eqN
  rw [beq_iff_eq, ByteArray.toList_eq, ByteArray.toList_eq]
  constructor
  · intro h
    cases x; cases s
    exact congrArg ByteArray.mk (Array.toList_inj.1 h)
  · rintro rfl; rfl
theorem eqN_self (x : ByteArray) : eqN x x = true := eqN_iff.2 rfl
theorem eqN_ne {x s : ByteArray} (h : x ≠ s) : eqN x s = false := by
  cases e : eqN x s
  · rfl
  · exact absurd (eqN_iff.1 e) h
/-- The first place of a name. -/
def fx (l : List ByteArray) (s : ByteArray) : Option Nat := l.findIdx? fun x => eqN x s
def fxI (l : List ByteArray) (s : ByteArray) : Int := match fx l s with | some k => (k : Int) | none => -1
theorem fx_nil (s : ByteArray) : fx [] s = none := rfl
theorem fx_lt {l : List ByteArray} {s : ByteArray} {k : Nat} (h : fx l s = some k) : k < l.length := by
  unfold fx at h
  obtain ⟨h1, _⟩ := List.findIdx?_eq_some_iff_getElem.1 h
  exact h1
theorem fx_none {l : List ByteArray} {s : ByteArray} : fx l s = none ↔ ∀ x ∈ l, eqN x s = false := by
  unfold fx
  rw [List.findIdx?_eq_none_iff]
theorem fx_at {l : List ByteArray} {s : ByteArray} {k : Nat} (hk : k < l.length) (h1 : eqN l[k] s = true) (h2 : ∀ x ∈ l.take k, eqN x s = false) : fx l s = some k := by
  unfold fx
  rw [List.findIdx?_eq_some_iff_getElem]
  refine ⟨hk, h1, fun j hj => ?_⟩
  have := h2 l[j] (by rw [List.mem_take_iff_getElem]; exact ⟨j, by omega, rfl⟩)
  rw [this]; decide
theorem fx_snoc (l : List ByteArray) (x s : ByteArray) : fx (l ++ [x]) s = match fx l s with | some k => some k | none => if eqN x s then some l.length else none := by
  unfold fx
  rw [List.findIdx?_append]
  cases h : List.findIdx? (fun x => eqN x s) l with
  | some k => rfl
  | none =>
    simp only [Option.none_or]
    rw [List.findIdx?_cons]
    cases eqN x s <;> simp
theorem fxI_none {l : List ByteArray} {s : ByteArray} (h : fx l s = none) : fxI l s = -1 := by unfold fxI; rw [h]
theorem fxI_some {l : List ByteArray} {s : ByteArray} {k : Nat} (h : fx l s = some k) : fxI l s = k := by unfold fxI; rw [h]
theorem fxI_pos {l : List ByteArray} {s : ByteArray} : (0 ≤ fxI l s) ↔ (fx l s).isSome = true := by
  unfold fxI
  cases fx l s with
  | none => simp
  | some k => simp
theorem fxI_range (l : List ByteArray) (s : ByteArray) : -1 ≤ fxI l s ∧ fxI l s < l.length + 1 := by
  unfold fxI
  cases h : fx l s with
  | none => simp; omega
  | some k => have := fx_lt h; simp; omega
/-- What a name means outside a procedure: the sort and the number. -/
def outer (u : Un) (s : ByteArray) : Int × Int :=
  match fx (u.recs.map Rc.name) s with
  | some k => (5, k)
  | none => match fx u.globs s with
    | some k => (2, k)
    | none => match fx (u.procs.map Pc.name) s with
      | some k => (3, k)
      | none => match fx funL s with
        | some k => (4, k)
        | none => (0, 0)
/-- Is it a name that is new in a procedure? -/
def fresh (u : Un) (s : ByteArray) (acc : List ByteArray) : Bool := (outer u s).1 == 0 && (fx acc s).isNone
mutual
/-- The names that are met in a body, behind those that are there. -/
def coll (u : Un) : Ex.T → List ByteArray → List ByteArray
  | .node k t n l ks, acc => if k == 4 || k == 28 then (if fresh u t acc then acc ++ [t] else acc) else colls u ks acc
def colls (u : Un) : List Ex.T → List ByteArray → List ByteArray
  | [], acc => acc
  | x :: r, acc => colls u r (coll u x acc)
end
/-- The local names of a procedure. -/
def locs (u : Un) (p : Pc) : List ByteArray := coll u p.body (p.params ++ p.locals)
/-- What a name means in a procedure whose local names these are. -/
def means (u : Un) (L : List ByteArray) (s : ByteArray) : Int × Int := match fx L s with | some k => (1, k) | none => outer u s
mutual
/-- How many case expressions. -/
def csN : Ex.T → Nat
  | .node k t n l ks => (if k == 20 then 1 else 0) + csNs ks
def csNs : List Ex.T → Nat
  | [] => 0
  | x :: r => csN x + csNs r
end
/-- The fault of a node, whatever its kids have. -/
def flt (u : Un) (L : List ByteArray) (k : Int) (t : ByteArray) (loop made : Bool) : Int :=
  if ((k == 24 || k == 25) && !loop) || ((k == 21 || k == 22 || k == 23) && made) then 4
  else if k == 13 && !(u.recs.any fun r => (fx r.fields t).isSome) then 5
  else if k == 28 && ((fx L t).isNone && !((outer u t).1 == 2)) then 6
  else 0
/-- Is kid i of a node in a loop? -/
def kidL (k : Int) (loop : Bool) (i : Nat) : Bool := if k == 16 || k == 17 || k == 18 then i == 1 else if k == 19 then true else if k == 24 || k == 26 then false else loop
mutual
/-- The first fault of a tree: its code and its line. -/
def wlk (u : Un) (L : List ByteArray) : Ex.T → Bool → Bool → Int × Int
  | .node k t n l ks, loop, made => if flt u L k t loop made == 0 then wlks u L k ks 0 loop (made || k == 26) else (flt u L k t loop made, l)
def wlks (u : Un) (L : List ByteArray) (k : Int) : List Ex.T → Nat → Bool → Bool → Int × Int
  | [], i, loop, made => (0, 0)
  | x :: r, i, loop, made => if (wlk u L x (kidL k loop i) made).1 == 0 then wlks u L k r (i + 1) loop made else wlk u L x (kidL k loop i) made
end
/-- Does a name stand twice? -/
def twice (l : List ByteArray) : Bool := match l with | [] => false | x :: r => (fx r x).isSome || twice r
/-- The first fault of the declarations among themselves, by the names that are there. -/
def dupR (acc : List ByteArray) : List Rc → (Int × Int) ⊕ List ByteArray
  | [] => .inr acc
  | r :: l => if (fx acc r.name).isSome || twice r.fields then .inl (2, r.line) else dupR (acc ++ [r.name]) l
def dupG (acc : List ByteArray) : List ByteArray → (Int × Int) ⊕ List ByteArray
  | [] => .inr acc
  | s :: l => if (fx acc s).isSome then .inl (2, 0) else dupG (acc ++ [s]) l
def dupP (acc : List ByteArray) : List Pc → (Int × Int) ⊕ List ByteArray
  | [] => .inr acc
  | p :: l => if (fx acc p.name).isSome || twice (p.params ++ p.locals) then .inl (2, p.line) else dupP (acc ++ [p.name]) l
def dup (u : Un) : Int × Int :=
  match dupR funL u.recs with
  | .inl f => f
  | .inr a => match dupG a u.globs with
    | .inl f => f
    | .inr b => match dupP b u.procs with
      | .inl f => f
      | .inr _ => (0, 0)
def fltP (u : Un) (p : Pc) : Int × Int :=
  if (wlk u (locs u p) p.body false false).1 == 0 then (if 24 < (locs u p).length + csN p.body then (7, p.line) else (0, 0)) else wlk u (locs u p) p.body false false
def fltPs (u : Un) : List Pc → Int × Int
  | [] => (0, 0)
  | p :: l => if (fltP u p).1 == 0 then fltPs u l else fltP u p
def isMain (p : Pc) : Bool := eqN p.name ⟨#[109, 97, 105, 110]⟩ && p.params.length == 0
def fltU (u : Un) : Int × Int :=
  if (dup u).1 == 0 then (if (fltPs u u.procs).1 == 0 then (if u.procs.any isMain then (0, 0) else (3, 0)) else fltPs u u.procs) else dup u
end Go.Proofs.YtkhcbahbffjnkaaDoor
