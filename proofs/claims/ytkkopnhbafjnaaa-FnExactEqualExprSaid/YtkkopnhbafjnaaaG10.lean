/- Whether trees are equal, in the reference model. No conditions. -/
import Derived.Test.YtkkopnhbafjnaaaG7
import Derived.StillTailTactics
import Derived.IntWalk
namespace Go.Proofs.Ytkkopnhbafjnaaa.Ex
set_option linter.unusedVariables false
mutual
/-- Are two trees equal in all fields? -/
def T.eqb : T → T → Bool
  | .node k t n l ks, b => (k == b.kind && t.data.toList == b.text.data.toList && n == b.num && l == b.line) && eqbs ks b.kids
def eqbs : List T → List T → Bool
  | [], [] => true
  | x :: r, y :: q => x.eqb y && eqbs r q
  | [], _ :: _ => false
  | _ :: _, [] => false
end
theorem eqb_eq (a b : T) : a.eqb b = ((a.kind == b.kind && a.text.data.toList == b.text.data.toList && a.num == b.num && a.line == b.line) && eqbs a.kids b.kids) := by cases a; rw [T.eqb]; rfl
theorem eqbs_len : ∀ {l q : List T}, l.length ≠ q.length → eqbs l q = false := by
  intro l
  induction l with
  | nil => intro q h; cases q with
    | nil => exact absurd rfl h
    | cons y q => rw [eqbs]
  | cons x l ih =>
    intro q h
    cases q with
    | nil => rw [eqbs]
    | cons y q =>
      rw [eqbs, ih (by simpa using h)]
      simp
/-- Where the comparison of two lists of one length stands. -/
def EqTo (l q : List T) (k : Nat) : Prop := eqbs l q = eqbs (l.drop k) (q.drop k)
theorem EqTo.start (l q : List T) : EqTo l q 0 := rfl
theorem EqTo.next {l q : List T} {k : Nat} (h : EqTo l q k) (h1 : k < l.length) (h2 : k < q.length) (he : l[k].eqb q[k] = true) : EqTo l q (k + 1) := by
  unfold EqTo at h ⊢
  rw [h, List.drop_eq_getElem_cons h1, List.drop_eq_getElem_cons h2, eqbs, he, Bool.true_and]
theorem EqTo.no {l q : List T} {k : Nat} (h : EqTo l q k) (h1 : k < l.length) (h2 : k < q.length) (he : l[k].eqb q[k] = false) : eqbs l q = false := by
  unfold EqTo at h
  rw [h, List.drop_eq_getElem_cons h1, List.drop_eq_getElem_cons h2, eqbs, he, Bool.false_and]
theorem EqTo.over {l q : List T} (h : EqTo l q l.length) (hl : l.length = q.length) : eqbs l q = true := by
  unfold EqTo at h
  rw [h, List.drop_length, hl, List.drop_length, eqbs]
end Go.Proofs.Ytkkopnhbafjnaaa.Ex
