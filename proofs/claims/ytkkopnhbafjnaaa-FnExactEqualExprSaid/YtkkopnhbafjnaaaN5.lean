/- EqualExpr of the program. No conditions. -/
import Derived.Test.YtkkopnhbafjnaaaG11
import Derived.Deep.QuietTactic
import Derived.BigQuiet
import Derived.OneCell
namespace Go.Proofs.Ytkkopnhbafjnaaa
open Go.RowKit
set_option linter.unusedVariables false

def EqpT (a : Ex.T) : Prop := a.bulk ≤ 1048576 → ∀ (b : Ex.T), b.bulk ≤ 1048576 → ∀ (w : World) (g1 o1 g2 o2 : Nat), TreeAt w g1 o1 a → TreeAt w g2 o2 b → Calls Try.prog 36 #[.pointer (some ⟨g1, o1, none⟩), .pointer (some ⟨g2, o2, none⟩)] w fun e w' => e = .returned (.bool (a.eqb b)) ∧ Below w.heap.size w w'
abbrev EqSays (a b : Ex.T) (r : Bool) (w : World) (g1 o1 g2 o2 : Nat) : Prop := Calls Try.prog 36 #[.pointer (some ⟨g1, o1, none⟩), .pointer (some ⟨g2, o2, none⟩)] w fun e w' => e = .returned (.bool r) ∧ Below w.heap.size w w'
set_option maxRecDepth 100000 in
set_option maxHeartbeats 1600000 in
theorem equal_no0 (a b : Ex.T) (w : World) (g1 o1 g2 o2 : Nat) (h1 : TreeAt w g1 o1 a) (h2 : TreeAt w g2 o2 b) (hl1 : a.kids.length ≤ 1048576) (hl2 : b.kids.length ≤ 1048576) (u1 : (a.kind != b.kind) = true) : EqSays a b false w g1 o1 g2 o2 := by
  obtain ⟨⟨q0, q1, q2, q3⟩, v1, q4, hk1⟩ := tree_cells h1
  obtain ⟨⟨p0, p1, p2, p3⟩, v2, p4, hk2⟩ := tree_cells h2
  obtain ⟨a1, c1, rfl⟩ := kids_len hk1
  obtain ⟨a2, c2, rfl⟩ := kids_len hk2
  clear h1 h2 hk1 hk2
  go_enter Try.func36, Try.ntmps36
  go_wp2_with fail
  go_quiet (fail)
  go_wp2
  go_ret
  exact ⟨rfl, below_drewN (Below.refl _ _) _⟩
set_option maxRecDepth 100000 in
set_option maxHeartbeats 1600000 in
theorem equal_no1 (a b : Ex.T) (w : World) (g1 o1 g2 o2 : Nat) (h1 : TreeAt w g1 o1 a) (h2 : TreeAt w g2 o2 b) (hl1 : a.kids.length ≤ 1048576) (hl2 : b.kids.length ≤ 1048576) (u1 : a.kind = b.kind) (u2 : (a.text.toList == b.text.toList) = false) : EqSays a b false w g1 o1 g2 o2 := by
  obtain ⟨⟨q0, q1, q2, q3⟩, v1, q4, hk1⟩ := tree_cells h1
  obtain ⟨⟨p0, p1, p2, p3⟩, v2, p4, hk2⟩ := tree_cells h2
  obtain ⟨a1, c1, rfl⟩ := kids_len hk1
  obtain ⟨a2, c2, rfl⟩ := kids_len hk2
  clear h1 h2 hk1 hk2
  have u2b : ¬ a.text.toList = b.text.toList := beq_eq_false_iff_ne.1 u2
  have u1b : (a.kind != b.kind) = false := by rw [u1]; simp
  clear u1
  go_enter Try.func36, Try.ntmps36
  go_wp2_with fail
  go_quiet (fail)
  go_wp2
  go_ret
  exact ⟨rfl, below_drewN (Below.refl _ _) _⟩
set_option maxRecDepth 100000 in
set_option maxHeartbeats 1600000 in
theorem equal_no2 (a b : Ex.T) (w : World) (g1 o1 g2 o2 : Nat) (h1 : TreeAt w g1 o1 a) (h2 : TreeAt w g2 o2 b) (hl1 : a.kids.length ≤ 1048576) (hl2 : b.kids.length ≤ 1048576) (u1 : a.kind = b.kind) (u2 : a.text.toList = b.text.toList) (u3 : (a.num != b.num) = true) : EqSays a b false w g1 o1 g2 o2 := by
  obtain ⟨⟨q0, q1, q2, q3⟩, v1, q4, hk1⟩ := tree_cells h1
  obtain ⟨⟨p0, p1, p2, p3⟩, v2, p4, hk2⟩ := tree_cells h2
  obtain ⟨a1, c1, rfl⟩ := kids_len hk1
  obtain ⟨a2, c2, rfl⟩ := kids_len hk2
  clear h1 h2 hk1 hk2
  have u2b : (a.text.toList == b.text.toList) = true := beq_iff_eq.2 u2
  have u1b : (a.kind != b.kind) = false := by rw [u1]; simp
  clear u1
  go_enter Try.func36, Try.ntmps36
  go_wp2_with fail
  go_quiet (fail)
  go_wp2
  go_ret
  exact ⟨rfl, below_drewN (Below.refl _ _) _⟩
set_option maxRecDepth 100000 in
set_option maxHeartbeats 1600000 in
theorem equal_no3 (a b : Ex.T) (w : World) (g1 o1 g2 o2 : Nat) (h1 : TreeAt w g1 o1 a) (h2 : TreeAt w g2 o2 b) (hl1 : a.kids.length ≤ 1048576) (hl2 : b.kids.length ≤ 1048576) (u1 : a.kind = b.kind) (u2 : a.text.toList = b.text.toList) (u3 : a.num = b.num) (u4 : (a.line != b.line) = true) : EqSays a b false w g1 o1 g2 o2 := by
  obtain ⟨⟨q0, q1, q2, q3⟩, v1, q4, hk1⟩ := tree_cells h1
  obtain ⟨⟨p0, p1, p2, p3⟩, v2, p4, hk2⟩ := tree_cells h2
  obtain ⟨a1, c1, rfl⟩ := kids_len hk1
  obtain ⟨a2, c2, rfl⟩ := kids_len hk2
  clear h1 h2 hk1 hk2
  have u2b : (a.text.toList == b.text.toList) = true := beq_iff_eq.2 u2
  have u1b : (a.kind != b.kind) = false := by rw [u1]; simp
  have u3b : (a.num != b.num) = false := by rw [u3]; simp
  clear u1
  clear u3
  go_enter Try.func36, Try.ntmps36
  go_wp2_with fail
  go_quiet (fail)
  go_wp2
  go_ret
  exact ⟨rfl, below_drewN (Below.refl _ _) _⟩
set_option maxRecDepth 100000 in
set_option maxHeartbeats 1600000 in
theorem equal_no4 (a b : Ex.T) (w : World) (g1 o1 g2 o2 : Nat) (h1 : TreeAt w g1 o1 a) (h2 : TreeAt w g2 o2 b) (hl1 : a.kids.length ≤ 1048576) (hl2 : b.kids.length ≤ 1048576) (u1 : a.kind = b.kind) (u2 : a.text.toList = b.text.toList) (u3 : a.num = b.num) (u4 : a.line = b.line) (u5 : ((a.kids.length : Int) != b.kids.length) = true) : EqSays a b false w g1 o1 g2 o2 := by
  obtain ⟨⟨q0, q1, q2, q3⟩, v1, q4, hk1⟩ := tree_cells h1
  obtain ⟨⟨p0, p1, p2, p3⟩, v2, p4, hk2⟩ := tree_cells h2
  obtain ⟨a1, c1, rfl⟩ := kids_len hk1
  obtain ⟨a2, c2, rfl⟩ := kids_len hk2
  clear h1 h2 hk1 hk2
  have u2b : (a.text.toList == b.text.toList) = true := beq_iff_eq.2 u2
  have u1b : (a.kind != b.kind) = false := by rw [u1]; simp
  have u3b : (a.num != b.num) = false := by rw [u3]; simp
  have u4b : (a.line != b.line) = false := by rw [u4]; simp
  clear u1
  clear u3
  clear u4
  go_enter Try.func36, Try.ntmps36
  go_wp2_with fail
  go_quiet (fail)
  go_wp2
  go_ret
  exact ⟨rfl, below_drewN (Below.refl _ _) _⟩
end Go.Proofs.Ytkkopnhbafjnaaa
