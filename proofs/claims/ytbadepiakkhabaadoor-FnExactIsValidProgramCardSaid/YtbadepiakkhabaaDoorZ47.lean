/- Joined texts: A39, A40. No conditions besides those that each states. -/
import Derived.BigQuiet
import Derived.Test.YtbadepiakkhabaaDoorZ15
import Derived.Test.YtbadepiakkhabaaDoorZ27
import Derived.Test.YtbadepiakkhabaaDoorZ46
/- The program: valid programs. The operators' table reads as the program's text lays it. -/
namespace Go.Proofs.YtbadepiakkhabaaDoor
open Go.RowKit
set_option linter.unusedVariables false

/-- What declarations a program may have. -/
def Pg.decl (p : Pg) : Bool := decide (p.routs.length ≤ 12) && (decide (p.recs.length ≤ 8) && (nmOk p.globs 12 && (p.recs.all Rc.fine && (p.routs.all Ro.head && p.mainB))))
theorem main_one {p : Pg} (h : p.mainB = true) : 1 ≤ p.routs.length := by
  unfold Pg.mainB at h
  rw [Bool.and_eq_true] at h
  cases hr : p.routs[p.main.toNat]? with
  | none => rw [hr] at h; exact absurd h.2 (by simp)
  | some r => have := (List.getElem?_eq_some_iff.1 hr).1; omega
theorem all_and {α : Type} (f g : α → Bool) (l : List α) : l.all (fun x => f x && g x) = (l.all f && l.all g) := by
  induction l with
  | nil => rfl
  | cons x r ih => rw [List.all_cons, List.all_cons, List.all_cons, ih]; cases f x <;> cases g x <;> cases r.all f <;> cases r.all g <;> rfl
/-- The bodies of a program. -/
def Pg.bodies (p : Pg) : Bool := p.routs.all fun r => r.body.ok (p.env r) false false 1
theorem valid_eq (p : Pg) : p.valid = (p.decl && (p.bodies && decide (nodesN p.routs ≤ 40000))) := by
  unfold Pg.valid Pg.top Pg.decl Pg.bodies
  have e : p.routs.all p.ro = (p.routs.all Ro.head && p.routs.all fun r => r.body.ok (p.env r) false false 1) := all_and Ro.head (fun r => r.body.ok (p.env r) false false 1) p.routs
  rw [e]
  cases hm : p.mainB
  · simp
  · rw [decide_eq_true (main_one hm), Bool.true_and]
    generalize decide (p.routs.length ≤ 12) = x1
    generalize decide (p.recs.length ≤ 8) = x2
    generalize nmOk p.globs 12 = x3
    generalize p.recs.all Rc.fine = x4
    generalize p.routs.all Ro.head = x5
    generalize (p.routs.all fun r => r.body.ok (p.env r) false false 1) = x6
    generalize decide (nodesN p.routs ≤ 40000) = x7
    cases x1 <;> cases x2 <;> cases x3 <;> cases x4 <;> cases x5 <;> cases x6 <;> cases x7 <;> rfl
set_option maxHeartbeats 1600000 in
theorem decl_1 (p : Pg) (hb : p.bulk ≤ 1048576) (w W0 : World) (bp : Nat) (a1 a2 a3 : Option Addr) (c1 c2 c3 : Nat) (hw : Below W0.heap.size W0 w) (h : PgIs W0 p (.slice a1 p.routs.length c1) (.slice a2 p.recs.length c2) (.slice a3 p.globs.length c3)) (hv : Var w bp [.slice a1 p.routs.length c1, .slice a2 p.recs.length c2, .slice a3 p.globs.length c3, .int .i64 p.main]) (n1 : 12 < p.routs.length) : Calls Tryd.prog 35 #[.pointer (some ⟨bp, 0, none⟩)] w fun e w' => e = .returned (.bool false) ∧ Below w.heap.size w w' := by
  have hbb := hb
  unfold Pg.bulk routsB recsB at hbb
  have HC3 := Lib.hid (fun W (hW : Below w.heap.size w W) => impl_names _ p.globs 12 W (h.2.2.later (below_then hw hW)) (by omega) (by decide))
  have HC1 := Lib.hid (fun W (hW : Below w.heap.size w W) => contains_type p.recs (fun x hx => by have := wsum_mem Rc.bulk hx; omega) (by omega) W _ (h.2.1.later (below_then hw hW)))
  have HC2 := Lib.hid (fun W (hW : Below w.heap.size w W) => contains_ro p.routs (fun x hx => by have := wsum_mem Ro.bulk hx; omega) (by omega) W _ (h.1.later (below_then hw hW)))
  have l1 : p.routs.length ≤ 1048576 := by omega
  have l2 : p.recs.length ≤ 1048576 := by omega
  have V0 := Lib.hid hv
  obtain ⟨f0, _⟩ := hv 0 _ rfl
  obtain ⟨f1, _⟩ := hv 1 _ rfl
  obtain ⟨f2, _⟩ := hv 2 _ rfl
  obtain ⟨f3, _⟩ := hv 3 _ rfl
  clear hbb hb hv
  clear h hw HC1 HC2 HC3
  go_enter Tryd.func35, Tryd.ntmps35
  go_wp2
  go_ret
  exact ⟨rfl, Below.refl _ _⟩
set_option maxHeartbeats 1600000 in
theorem decl_2 (p : Pg) (hb : p.bulk ≤ 1048576) (w W0 : World) (bp : Nat) (a1 a2 a3 : Option Addr) (c1 c2 c3 : Nat) (hw : Below W0.heap.size W0 w) (h : PgIs W0 p (.slice a1 p.routs.length c1) (.slice a2 p.recs.length c2) (.slice a3 p.globs.length c3)) (hv : Var w bp [.slice a1 p.routs.length c1, .slice a2 p.recs.length c2, .slice a3 p.globs.length c3, .int .i64 p.main]) (n1 : ¬ 12 < p.routs.length) (n2 : 8 < p.recs.length) : Calls Tryd.prog 35 #[.pointer (some ⟨bp, 0, none⟩)] w fun e w' => e = .returned (.bool false) ∧ Below w.heap.size w w' := by
  have hbb := hb
  unfold Pg.bulk routsB recsB at hbb
  have HC3 := Lib.hid (fun W (hW : Below w.heap.size w W) => impl_names _ p.globs 12 W (h.2.2.later (below_then hw hW)) (by omega) (by decide))
  have HC1 := Lib.hid (fun W (hW : Below w.heap.size w W) => contains_type p.recs (fun x hx => by have := wsum_mem Rc.bulk hx; omega) (by omega) W _ (h.2.1.later (below_then hw hW)))
  have HC2 := Lib.hid (fun W (hW : Below w.heap.size w W) => contains_ro p.routs (fun x hx => by have := wsum_mem Ro.bulk hx; omega) (by omega) W _ (h.1.later (below_then hw hW)))
  have l1 : p.routs.length ≤ 1048576 := by omega
  have l2 : p.recs.length ≤ 1048576 := by omega
  have V0 := Lib.hid hv
  obtain ⟨f0, _⟩ := hv 0 _ rfl
  obtain ⟨f1, _⟩ := hv 1 _ rfl
  obtain ⟨f2, _⟩ := hv 2 _ rfl
  obtain ⟨f3, _⟩ := hv 3 _ rfl
  clear hbb hb hv
  clear h hw HC1 HC2 HC3
  go_enter Tryd.func35, Tryd.ntmps35
  go_wp2
  go_ret
  exact ⟨rfl, Below.refl _ _⟩
set_option maxHeartbeats 1600000 in
theorem decl_3 (p : Pg) (hb : p.bulk ≤ 1048576) (w W0 : World) (bp : Nat) (a1 a2 a3 : Option Addr) (c1 c2 c3 : Nat) (hw : Below W0.heap.size W0 w) (h : PgIs W0 p (.slice a1 p.routs.length c1) (.slice a2 p.recs.length c2) (.slice a3 p.globs.length c3)) (hv : Var w bp [.slice a1 p.routs.length c1, .slice a2 p.recs.length c2, .slice a3 p.globs.length c3, .int .i64 p.main]) (n1 : ¬ 12 < p.routs.length) (n2 : ¬ 8 < p.recs.length) (n3 : nmOk p.globs 12 = false) : Calls Tryd.prog 35 #[.pointer (some ⟨bp, 0, none⟩)] w fun e w' => e = .returned (.bool false) ∧ Below w.heap.size w w' := by
  have hbb := hb
  unfold Pg.bulk routsB recsB at hbb
  have HC3 := Lib.hid (fun W (hW : Below w.heap.size w W) => impl_names _ p.globs 12 W (h.2.2.later (below_then hw hW)) (by omega) (by decide))
  have HC1 := Lib.hid (fun W (hW : Below w.heap.size w W) => contains_type p.recs (fun x hx => by have := wsum_mem Rc.bulk hx; omega) (by omega) W _ (h.2.1.later (below_then hw hW)))
  have HC2 := Lib.hid (fun W (hW : Below w.heap.size w W) => contains_ro p.routs (fun x hx => by have := wsum_mem Ro.bulk hx; omega) (by omega) W _ (h.1.later (below_then hw hW)))
  have l1 : p.routs.length ≤ 1048576 := by omega
  have l2 : p.recs.length ≤ 1048576 := by omega
  have V0 := Lib.hid hv
  obtain ⟨f0, _⟩ := hv 0 _ rfl
  obtain ⟨f1, _⟩ := hv 1 _ rfl
  obtain ⟨f2, _⟩ := hv 2 _ rfl
  obtain ⟨f3, _⟩ := hv 3 _ rfl
  clear hbb hb hv
  rw [n3] at HC3
  clear h hw HC1 HC2 n3
  go_enter Tryd.func35, Tryd.ntmps35
  go_wp2_with fail
  (refine (HC3.out _ (Below.refl _ _)).mono ?_)
  rintro e w1 ⟨rfl, b1⟩
  have B1 := Lib.hid b1
  have V1 := Lib.hid (V0.out.later b1)
  clear b1 f0 f1 f2 f3
  obtain ⟨f0, _⟩ := V1.out 0 _ rfl
  obtain ⟨f1, _⟩ := V1.out 1 _ rfl
  obtain ⟨f2, _⟩ := V1.out 2 _ rfl
  obtain ⟨f3, _⟩ := V1.out 3 _ rfl
  go_wp2
  go_ret
  exact ⟨rfl, B1.out⟩
set_option maxHeartbeats 1600000 in
theorem decl_4 (p : Pg) (hb : p.bulk ≤ 1048576) (w W0 : World) (bp : Nat) (a1 a2 a3 : Option Addr) (c1 c2 c3 : Nat) (hw : Below W0.heap.size W0 w) (h : PgIs W0 p (.slice a1 p.routs.length c1) (.slice a2 p.recs.length c2) (.slice a3 p.globs.length c3)) (hv : Var w bp [.slice a1 p.routs.length c1, .slice a2 p.recs.length c2, .slice a3 p.globs.length c3, .int .i64 p.main]) (n1 : ¬ 12 < p.routs.length) (n2 : ¬ 8 < p.recs.length) (n3 : nmOk p.globs 12 = true) (n4 : p.recs.all Rc.fine = false) : Calls Tryd.prog 35 #[.pointer (some ⟨bp, 0, none⟩)] w fun e w' => e = .returned (.bool false) ∧ Below w.heap.size w w' := by
  have hbb := hb
  unfold Pg.bulk routsB recsB at hbb
  have HC3 := Lib.hid (fun W (hW : Below w.heap.size w W) => impl_names _ p.globs 12 W (h.2.2.later (below_then hw hW)) (by omega) (by decide))
  have HC1 := Lib.hid (fun W (hW : Below w.heap.size w W) => contains_type p.recs (fun x hx => by have := wsum_mem Rc.bulk hx; omega) (by omega) W _ (h.2.1.later (below_then hw hW)))
  have HC2 := Lib.hid (fun W (hW : Below w.heap.size w W) => contains_ro p.routs (fun x hx => by have := wsum_mem Ro.bulk hx; omega) (by omega) W _ (h.1.later (below_then hw hW)))
  have l1 : p.routs.length ≤ 1048576 := by omega
  have l2 : p.recs.length ≤ 1048576 := by omega
  have V0 := Lib.hid hv
  obtain ⟨f0, _⟩ := hv 0 _ rfl
  obtain ⟨f1, _⟩ := hv 1 _ rfl
  obtain ⟨f2, _⟩ := hv 2 _ rfl
  obtain ⟨f3, _⟩ := hv 3 _ rfl
  clear hbb hb hv
  rw [n3] at HC3
  rw [n4] at HC1
  clear h hw HC2 n3 n4
  go_enter Tryd.func35, Tryd.ntmps35
  go_wp2_with fail
  (refine (HC3.out _ (Below.refl _ _)).mono ?_)
  rintro e w1 ⟨rfl, b1⟩
  have B1 := Lib.hid b1
  have V1 := Lib.hid (V0.out.later b1)
  clear b1 f0 f1 f2 f3
  obtain ⟨f0, _⟩ := V1.out 0 _ rfl
  obtain ⟨f1, _⟩ := V1.out 1 _ rfl
  obtain ⟨f2, _⟩ := V1.out 2 _ rfl
  obtain ⟨f3, _⟩ := V1.out 3 _ rfl
  go_wp2_with fail
  (with_reducible refine (HC1.out _ B1.out).mono ?_)
  rintro e w2 ⟨rfl, b2⟩
  have B2 := Lib.hid (below_then B1.out b2)
  have V2 := Lib.hid (V1.out.later b2)
  clear b2 f0 f1 f2 f3
  obtain ⟨f0, _⟩ := V2.out 0 _ rfl
  obtain ⟨f1, _⟩ := V2.out 1 _ rfl
  obtain ⟨f2, _⟩ := V2.out 2 _ rfl
  obtain ⟨f3, _⟩ := V2.out 3 _ rfl
  go_wp2
  go_ret
  exact ⟨rfl, B2.out⟩
set_option maxHeartbeats 1600000 in
theorem decl_5 (p : Pg) (hb : p.bulk ≤ 1048576) (w W0 : World) (bp : Nat) (a1 a2 a3 : Option Addr) (c1 c2 c3 : Nat) (hw : Below W0.heap.size W0 w) (h : PgIs W0 p (.slice a1 p.routs.length c1) (.slice a2 p.recs.length c2) (.slice a3 p.globs.length c3)) (hv : Var w bp [.slice a1 p.routs.length c1, .slice a2 p.recs.length c2, .slice a3 p.globs.length c3, .int .i64 p.main]) (n1 : ¬ 12 < p.routs.length) (n2 : ¬ 8 < p.recs.length) (n3 : nmOk p.globs 12 = true) (n4 : p.recs.all Rc.fine = true) (n5 : p.routs.all Ro.head = false) : Calls Tryd.prog 35 #[.pointer (some ⟨bp, 0, none⟩)] w fun e w' => e = .returned (.bool false) ∧ Below w.heap.size w w' := by
  have hbb := hb
  unfold Pg.bulk routsB recsB at hbb
  have HC3 := Lib.hid (fun W (hW : Below w.heap.size w W) => impl_names _ p.globs 12 W (h.2.2.later (below_then hw hW)) (by omega) (by decide))
  have HC1 := Lib.hid (fun W (hW : Below w.heap.size w W) => contains_type p.recs (fun x hx => by have := wsum_mem Rc.bulk hx; omega) (by omega) W _ (h.2.1.later (below_then hw hW)))
  have HC2 := Lib.hid (fun W (hW : Below w.heap.size w W) => contains_ro p.routs (fun x hx => by have := wsum_mem Ro.bulk hx; omega) (by omega) W _ (h.1.later (below_then hw hW)))
  have l1 : p.routs.length ≤ 1048576 := by omega
  have l2 : p.recs.length ≤ 1048576 := by omega
  have V0 := Lib.hid hv
  obtain ⟨f0, _⟩ := hv 0 _ rfl
  obtain ⟨f1, _⟩ := hv 1 _ rfl
  obtain ⟨f2, _⟩ := hv 2 _ rfl
  obtain ⟨f3, _⟩ := hv 3 _ rfl
  clear hbb hb hv
  rw [n3] at HC3
  rw [n4] at HC1
  rw [n5] at HC2
  clear h hw n3 n4 n5
  go_enter Tryd.func35, Tryd.ntmps35
  go_wp2_with fail
  (refine (HC3.out _ (Below.refl _ _)).mono ?_)
  rintro e w1 ⟨rfl, b1⟩
  have B1 := Lib.hid b1
  have V1 := Lib.hid (V0.out.later b1)
  clear b1 f0 f1 f2 f3
  obtain ⟨f0, _⟩ := V1.out 0 _ rfl
  obtain ⟨f1, _⟩ := V1.out 1 _ rfl
  obtain ⟨f2, _⟩ := V1.out 2 _ rfl
  obtain ⟨f3, _⟩ := V1.out 3 _ rfl
  go_wp2_with fail
  (with_reducible refine (HC1.out _ B1.out).mono ?_)
  rintro e w2 ⟨rfl, b2⟩
  have B2 := Lib.hid (below_then B1.out b2)
  have V2 := Lib.hid (V1.out.later b2)
  clear b2 f0 f1 f2 f3
  obtain ⟨f0, _⟩ := V2.out 0 _ rfl
  obtain ⟨f1, _⟩ := V2.out 1 _ rfl
  obtain ⟨f2, _⟩ := V2.out 2 _ rfl
  obtain ⟨f3, _⟩ := V2.out 3 _ rfl
  go_wp2_with fail
  (with_reducible refine (HC2.out _ B2.out).mono ?_)
  rintro e w3 ⟨rfl, b3⟩
  have B3 := Lib.hid (below_then B2.out b3)
  have V3 := Lib.hid (V2.out.later b3)
  clear b3 f0 f1 f2 f3
  obtain ⟨f0, _⟩ := V3.out 0 _ rfl
  obtain ⟨f1, _⟩ := V3.out 1 _ rfl
  obtain ⟨f2, _⟩ := V3.out 2 _ rfl
  obtain ⟨f3, _⟩ := V3.out 3 _ rfl
  go_wp2
  go_ret
  exact ⟨rfl, B3.out⟩
set_option maxHeartbeats 1600000 in
theorem decl_6 (p : Pg) (hb : p.bulk ≤ 1048576) (w W0 : World) (bp : Nat) (a1 a2 a3 : Option Addr) (c1 c2 c3 : Nat) (hw : Below W0.heap.size W0 w) (h : PgIs W0 p (.slice a1 p.routs.length c1) (.slice a2 p.recs.length c2) (.slice a3 p.globs.length c3)) (hv : Var w bp [.slice a1 p.routs.length c1, .slice a2 p.recs.length c2, .slice a3 p.globs.length c3, .int .i64 p.main]) (n1 : ¬ 12 < p.routs.length) (n2 : ¬ 8 < p.recs.length) (n3 : nmOk p.globs 12 = true) (n4 : p.recs.all Rc.fine = true) (n5 : p.routs.all Ro.head = true) (n6 : ¬ 0 ≤ p.main) : Calls Tryd.prog 35 #[.pointer (some ⟨bp, 0, none⟩)] w fun e w' => e = .returned (.bool false) ∧ Below w.heap.size w w' := by
  have hbb := hb
  unfold Pg.bulk routsB recsB at hbb
  have HC3 := Lib.hid (fun W (hW : Below w.heap.size w W) => impl_names _ p.globs 12 W (h.2.2.later (below_then hw hW)) (by omega) (by decide))
  have HC1 := Lib.hid (fun W (hW : Below w.heap.size w W) => contains_type p.recs (fun x hx => by have := wsum_mem Rc.bulk hx; omega) (by omega) W _ (h.2.1.later (below_then hw hW)))
  have HC2 := Lib.hid (fun W (hW : Below w.heap.size w W) => contains_ro p.routs (fun x hx => by have := wsum_mem Ro.bulk hx; omega) (by omega) W _ (h.1.later (below_then hw hW)))
  have l1 : p.routs.length ≤ 1048576 := by omega
  have l2 : p.recs.length ≤ 1048576 := by omega
  have V0 := Lib.hid hv
  obtain ⟨f0, _⟩ := hv 0 _ rfl
  obtain ⟨f1, _⟩ := hv 1 _ rfl
  obtain ⟨f2, _⟩ := hv 2 _ rfl
  obtain ⟨f3, _⟩ := hv 3 _ rfl
  clear hbb hb hv
  rw [n3] at HC3
  rw [n4] at HC1
  rw [n5] at HC2
  have t6 : decide (0 ≤ p.main) = false := decide_eq_false n6
  clear h hw n3 n4 n5 n6
  go_enter Tryd.func35, Tryd.ntmps35
  go_wp2_with fail
  (refine (HC3.out _ (Below.refl _ _)).mono ?_)
  rintro e w1 ⟨rfl, b1⟩
  have B1 := Lib.hid b1
  have V1 := Lib.hid (V0.out.later b1)
  clear b1 f0 f1 f2 f3
  obtain ⟨f0, _⟩ := V1.out 0 _ rfl
  obtain ⟨f1, _⟩ := V1.out 1 _ rfl
  obtain ⟨f2, _⟩ := V1.out 2 _ rfl
  obtain ⟨f3, _⟩ := V1.out 3 _ rfl
  go_wp2_with fail
  (with_reducible refine (HC1.out _ B1.out).mono ?_)
  rintro e w2 ⟨rfl, b2⟩
  have B2 := Lib.hid (below_then B1.out b2)
  have V2 := Lib.hid (V1.out.later b2)
  clear b2 f0 f1 f2 f3
  obtain ⟨f0, _⟩ := V2.out 0 _ rfl
  obtain ⟨f1, _⟩ := V2.out 1 _ rfl
  obtain ⟨f2, _⟩ := V2.out 2 _ rfl
  obtain ⟨f3, _⟩ := V2.out 3 _ rfl
  go_wp2_with fail
  (with_reducible refine (HC2.out _ B2.out).mono ?_)
  rintro e w3 ⟨rfl, b3⟩
  have B3 := Lib.hid (below_then B2.out b3)
  have V3 := Lib.hid (V2.out.later b3)
  clear b3 f0 f1 f2 f3
  obtain ⟨f0, _⟩ := V3.out 0 _ rfl
  obtain ⟨f1, _⟩ := V3.out 1 _ rfl
  obtain ⟨f2, _⟩ := V3.out 2 _ rfl
  obtain ⟨f3, _⟩ := V3.out 3 _ rfl
  go_wp2_with fail
  go_quiet (fail)
  go_wp2
  go_ret
  exact ⟨rfl, drewN_a B3.out _⟩
set_option maxHeartbeats 1600000 in
theorem decl_7 (p : Pg) (hb : p.bulk ≤ 1048576) (w W0 : World) (bp : Nat) (a1 a2 a3 : Option Addr) (c1 c2 c3 : Nat) (hw : Below W0.heap.size W0 w) (h : PgIs W0 p (.slice a1 p.routs.length c1) (.slice a2 p.recs.length c2) (.slice a3 p.globs.length c3)) (hv : Var w bp [.slice a1 p.routs.length c1, .slice a2 p.recs.length c2, .slice a3 p.globs.length c3, .int .i64 p.main]) (n1 : ¬ 12 < p.routs.length) (n2 : ¬ 8 < p.recs.length) (n3 : nmOk p.globs 12 = true) (n4 : p.recs.all Rc.fine = true) (n5 : p.routs.all Ro.head = true) (n6 : 0 ≤ p.main) (n7 : ¬ p.main < (p.routs.length : Int)) : Calls Tryd.prog 35 #[.pointer (some ⟨bp, 0, none⟩)] w fun e w' => e = .returned (.bool false) ∧ Below w.heap.size w w' := by
  have hbb := hb
  unfold Pg.bulk routsB recsB at hbb
  have HC3 := Lib.hid (fun W (hW : Below w.heap.size w W) => impl_names _ p.globs 12 W (h.2.2.later (below_then hw hW)) (by omega) (by decide))
  have HC1 := Lib.hid (fun W (hW : Below w.heap.size w W) => contains_type p.recs (fun x hx => by have := wsum_mem Rc.bulk hx; omega) (by omega) W _ (h.2.1.later (below_then hw hW)))
  have HC2 := Lib.hid (fun W (hW : Below w.heap.size w W) => contains_ro p.routs (fun x hx => by have := wsum_mem Ro.bulk hx; omega) (by omega) W _ (h.1.later (below_then hw hW)))
  have l1 : p.routs.length ≤ 1048576 := by omega
  have l2 : p.recs.length ≤ 1048576 := by omega
  have V0 := Lib.hid hv
  obtain ⟨f0, _⟩ := hv 0 _ rfl
  obtain ⟨f1, _⟩ := hv 1 _ rfl
  obtain ⟨f2, _⟩ := hv 2 _ rfl
  obtain ⟨f3, _⟩ := hv 3 _ rfl
  clear hbb hb hv
  rw [n3] at HC3
  rw [n4] at HC1
  rw [n5] at HC2
  have t6 : decide (0 ≤ p.main) = true := decide_eq_true n6
  have t7 : decide (p.main < (p.routs.length : Int)) = false := decide_eq_false n7
  clear h hw n3 n4 n5 n6 n7
  go_enter Tryd.func35, Tryd.ntmps35
  go_wp2_with fail
  (refine (HC3.out _ (Below.refl _ _)).mono ?_)
  rintro e w1 ⟨rfl, b1⟩
  have B1 := Lib.hid b1
  have V1 := Lib.hid (V0.out.later b1)
  clear b1 f0 f1 f2 f3
  obtain ⟨f0, _⟩ := V1.out 0 _ rfl
  obtain ⟨f1, _⟩ := V1.out 1 _ rfl
  obtain ⟨f2, _⟩ := V1.out 2 _ rfl
  obtain ⟨f3, _⟩ := V1.out 3 _ rfl
  go_wp2_with fail
  (with_reducible refine (HC1.out _ B1.out).mono ?_)
  rintro e w2 ⟨rfl, b2⟩
  have B2 := Lib.hid (below_then B1.out b2)
  have V2 := Lib.hid (V1.out.later b2)
  clear b2 f0 f1 f2 f3
  obtain ⟨f0, _⟩ := V2.out 0 _ rfl
  obtain ⟨f1, _⟩ := V2.out 1 _ rfl
  obtain ⟨f2, _⟩ := V2.out 2 _ rfl
  obtain ⟨f3, _⟩ := V2.out 3 _ rfl
  go_wp2_with fail
  (with_reducible refine (HC2.out _ B2.out).mono ?_)
  rintro e w3 ⟨rfl, b3⟩
  have B3 := Lib.hid (below_then B2.out b3)
  have V3 := Lib.hid (V2.out.later b3)
  clear b3 f0 f1 f2 f3
  obtain ⟨f0, _⟩ := V3.out 0 _ rfl
  obtain ⟨f1, _⟩ := V3.out 1 _ rfl
  obtain ⟨f2, _⟩ := V3.out 2 _ rfl
  obtain ⟨f3, _⟩ := V3.out 3 _ rfl
  go_wp2_with fail
  go_quiet (fail)
  go_wp2
  go_ret
  exact ⟨rfl, drewN_a B3.out _⟩
set_option maxHeartbeats 1600000 in
theorem decl_8 (p : Pg) (hb : p.bulk ≤ 1048576) (w W0 : World) (bp : Nat) (a1 a2 a3 : Option Addr) (c1 c2 c3 : Nat) (hw : Below W0.heap.size W0 w) (h : PgIs W0 p (.slice a1 p.routs.length c1) (.slice a2 p.recs.length c2) (.slice a3 p.globs.length c3)) (hv : Var w bp [.slice a1 p.routs.length c1, .slice a2 p.recs.length c2, .slice a3 p.globs.length c3, .int .i64 p.main]) (n1 : ¬ 12 < p.routs.length) (n2 : ¬ 8 < p.recs.length) (n3 : nmOk p.globs 12 = true) (n4 : p.recs.all Rc.fine = true) (n5 : p.routs.all Ro.head = true) (m : Nat) (hm : p.main = (m : Int)) (hlt : m < p.routs.length) : Calls Tryd.prog 35 #[.pointer (some ⟨bp, 0, none⟩)] w fun e w' => e = .returned (.bool (decide (p.routs[m].params = 0))) ∧ Below w.heap.size w w' := by
  have hbb := hb
  unfold Pg.bulk routsB recsB at hbb
  have HC3 := Lib.hid (fun W (hW : Below w.heap.size w W) => impl_names _ p.globs 12 W (h.2.2.later (below_then hw hW)) (by omega) (by decide))
  have HC1 := Lib.hid (fun W (hW : Below w.heap.size w W) => contains_type p.recs (fun x hx => by have := wsum_mem Rc.bulk hx; omega) (by omega) W _ (h.2.1.later (below_then hw hW)))
  have HC2 := Lib.hid (fun W (hW : Below w.heap.size w W) => contains_ro p.routs (fun x hx => by have := wsum_mem Ro.bulk hx; omega) (by omega) W _ (h.1.later (below_then hw hW)))
  have l1 : p.routs.length ≤ 1048576 := by omega
  have l2 : p.recs.length ≤ 1048576 := by omega
  have V0 := Lib.hid hv
  obtain ⟨f0, _⟩ := hv 0 _ rfl
  obtain ⟨f1, _⟩ := hv 1 _ rfl
  obtain ⟨f2, _⟩ := hv 2 _ rfl
  obtain ⟨f3, _⟩ := hv 3 _ rfl
  clear hbb hb hv
  rw [n3] at HC3
  rw [n4] at HC1
  rw [n5] at HC2
  obtain ⟨g, o, rfl, hr⟩ := rout_at h.1 m hlt
  have HR : Hid (∀ W, Below w.heap.size w W → W.cell? ⟨g, o + m * 9 + 1, none⟩ = some (.int .i64 p.routs[m].params)) := Lib.hid (fun W hW => subw_below (below_then hw hW) _ _ _ hr.2.1)
  have n6 : (0 : Int) ≤ m := by omega
  have n7 : (m : Int) < p.routs.length := by omega
  rw [hm] at V0 f3
  generalize p.routs[m].params = q at HR ⊢
  clear h hw n3 n4 n5 hr hlt hm
  go_enter Tryd.func35, Tryd.ntmps35
  go_wp2_with fail
  (refine (HC3.out _ (Below.refl _ _)).mono ?_)
  rintro e w1 ⟨rfl, b1⟩
  have B1 := Lib.hid b1
  have V1 := Lib.hid (V0.out.later b1)
  clear b1 f0 f1 f2 f3
  obtain ⟨f0, _⟩ := V1.out 0 _ rfl
  obtain ⟨f1, _⟩ := V1.out 1 _ rfl
  obtain ⟨f2, _⟩ := V1.out 2 _ rfl
  obtain ⟨f3, _⟩ := V1.out 3 _ rfl
  go_wp2_with fail
  (with_reducible refine (HC1.out _ B1.out).mono ?_)
  rintro e w2 ⟨rfl, b2⟩
  have B2 := Lib.hid (below_then B1.out b2)
  have V2 := Lib.hid (V1.out.later b2)
  clear b2 f0 f1 f2 f3
  obtain ⟨f0, _⟩ := V2.out 0 _ rfl
  obtain ⟨f1, _⟩ := V2.out 1 _ rfl
  obtain ⟨f2, _⟩ := V2.out 2 _ rfl
  obtain ⟨f3, _⟩ := V2.out 3 _ rfl
  go_wp2_with fail
  (with_reducible refine (HC2.out _ B2.out).mono ?_)
  rintro e w3 ⟨rfl, b3⟩
  have B3 := Lib.hid (below_then B2.out b3)
  have V3 := Lib.hid (V2.out.later b3)
  clear b3 f0 f1 f2 f3
  obtain ⟨f0, _⟩ := V3.out 0 _ rfl
  obtain ⟨f1, _⟩ := V3.out 1 _ rfl
  obtain ⟨f2, _⟩ := V3.out 2 _ rfl
  obtain ⟨f3, _⟩ := V3.out 3 _ rfl
  have r1 := HR.out _ B3.out
  go_wp2_with fail
  go_quiet (fail)
  go_wp2
  go_ret
  exact ⟨ret_eb (by first | rfl | (rw [Bool.eq_iff_iff]; simp)), drewN_a B3.out _⟩
theorem impl_decl (p : Pg) (hb : p.bulk ≤ 1048576) (w W0 : World) (bp : Nat) (a1 a2 a3 : Option Addr) (c1 c2 c3 : Nat) (hw : Below W0.heap.size W0 w) (h : PgIs W0 p (.slice a1 p.routs.length c1) (.slice a2 p.recs.length c2) (.slice a3 p.globs.length c3)) (hv : Var w bp [.slice a1 p.routs.length c1, .slice a2 p.recs.length c2, .slice a3 p.globs.length c3, .int .i64 p.main]) : Calls Tryd.prog 35 #[.pointer (some ⟨bp, 0, none⟩)] w fun e w' => e = .returned (.bool p.decl) ∧ Below w.heap.size w w' := by
  by_cases n1 : 12 < p.routs.length
  · rw [show p.decl = false by unfold Pg.decl; rw [decide_eq_false (by omega)]; rfl]
    exact decl_1 p hb w W0 bp a1 a2 a3 c1 c2 c3 hw h hv n1
  by_cases n2 : 8 < p.recs.length
  · rw [show p.decl = false by unfold Pg.decl; rw [decide_eq_false (p := p.recs.length ≤ 8) (by omega)]; simp]
    exact decl_2 p hb w W0 bp a1 a2 a3 c1 c2 c3 hw h hv n1 n2
  cases n3 : nmOk p.globs 12
  · rw [show p.decl = false by unfold Pg.decl; rw [n3]; simp]
    exact decl_3 p hb w W0 bp a1 a2 a3 c1 c2 c3 hw h hv n1 n2 n3
  cases n4 : p.recs.all Rc.fine
  · rw [show p.decl = false by unfold Pg.decl; rw [n4]; simp]
    exact decl_4 p hb w W0 bp a1 a2 a3 c1 c2 c3 hw h hv n1 n2 n3 n4
  cases n5 : p.routs.all Ro.head
  · rw [show p.decl = false by unfold Pg.decl; rw [n5]; simp]
    exact decl_5 p hb w W0 bp a1 a2 a3 c1 c2 c3 hw h hv n1 n2 n3 n4 n5
  rw [show p.decl = p.mainB by unfold Pg.decl; rw [n3, n4, n5, decide_eq_true (by omega), decide_eq_true (by omega)]; rfl]
  by_cases n6 : 0 ≤ p.main
  · by_cases n7 : p.main < (p.routs.length : Int)
    · obtain ⟨m, hm⟩ : ∃ m : Nat, p.main = (m : Int) := ⟨p.main.toNat, by omega⟩
      rw [main_at2 hm (by omega)]
      exact decl_8 p hb w W0 bp a1 a2 a3 c1 c2 c3 hw h hv n1 n2 n3 n4 n5 m hm (by omega)
    · rw [main_no (by exact decide_eq_false (by omega))]
      exact decl_7 p hb w W0 bp a1 a2 a3 c1 c2 c3 hw h hv n1 n2 n3 n4 n5 n6 n7
  · rw [main_no (by exact decide_eq_false (by omega))]
    exact decl_6 p hb w W0 bp a1 a2 a3 c1 c2 c3 hw h hv n1 n2 n3 n4 n5 n6
end Go.Proofs.YtbadepiakkhabaaDoor
/- The program: IsValidProgram. The operators' table reads as the program's text lays it. -/
namespace Go.Proofs.YtbadepiakkhabaaDoor
open Go.RowKit Go.Lib
set_option linter.unusedVariables false

theorem rout_tree {w : World} {g o : Nat} {r : Ro} (h : RoutAt w g o r) : Cr.TreeAt w g (o + 3) r.body := by
  obtain ⟨_, _, _, ⟨h3, h4, h5, h6, h7⟩, v2, h8, hk⟩ := h
  exact Cr.tree_of ⟨h3, h4, h5, h6, h7⟩ h8 hk
def bodyB (p : Pg) (r : Ro) : Bool := r.body.ok (p.env r) false false 1
theorem bodies_eq (p : Pg) : p.bodies = p.routs.all (bodyB p) := rfl
/-- Where the loop over a program's routines stands. -/
def PvAt (w : World) (bc : Nat) (p : Pg) (A : List Value) (n : Int) (W : World) : Prop := Below w.heap.size w W ∧ Var W w.heap.size A ∧ ∃ s : Int, Var W bc [.int .i64 s, .int .i64 (p.globs.length : Int), .int .i64 (p.routs.length : Int), .int .i64 (p.recs.length : Int), .int .i64 n]
theorem PvAt.set {w W : World} {bc : Nat} {p : Pg} {A : List Value} {n : Int} (h : PvAt w bc p A n W) (hlt : w.heap.size < bc) (r : Ro) : Below w.heap.size w (W.setCell ⟨bc, 0, none⟩ (.int .i64 (r.slots.length : Int))) ∧ Var (W.setCell ⟨bc, 0, none⟩ (.int .i64 (r.slots.length : Int))) w.heap.size A ∧ Var (W.setCell ⟨bc, 0, none⟩ (.int .i64 (r.slots.length : Int))) bc (Cr.ckL (p.env r) n) := by
  obtain ⟨h1, h2, s, h3⟩ := h
  exact ⟨h1.setCell (p := ⟨bc, 0, none⟩) (by show w.heap.size ≤ bc; omega) _, h2.oth bc 0 (by omega) _, h3.set 0 _⟩
theorem PvAt.turn {w W W' : World} {bc : Nat} {p : Pg} {A : List Value} {m : Int} {r : Ro} {u : Value} {us : List Value} (hA : A = u :: us) (h1 : Below w.heap.size w W) (h2 : Var W w.heap.size A) (hlt : w.heap.size < bc) (hg : W.grownBy W' (some bc)) (hv : Var W' bc (Cr.ckL (p.env r) m)) : PvAt w bc p A m W' := by
  subst hA
  exact ⟨Cr.below_grown h1 hg (by omega) h1.size, h2.keep (hg.block _ h2.lt (fun e => by have := Option.some.inj e; omega)), _, hv⟩
set_option maxRecDepth 100000 in
set_option maxHeartbeats 3200000 in
theorem impl_validprog (p : Pg) (hok : p.Ok) (hb : p.bulk ≤ 1048576) (w : World) (v1 v2 v3 : Value) (h : PgIs w p v1 v2 v3) (hT : OpsAt w) : Calls Tryd.prog 13 #[pgV v1 v2 v3 p.main] w fun e w' => e = .returned (.bool p.valid) ∧ Below w.heap.size w w' := by
  have hbb := hb
  unfold Pg.bulk routsB recsB at hbb
  have h1 := h.1
  have h2 := h.2.1
  have h3 := h.2.2
  obtain ⟨a1, c1, rfl⟩ := is_slice h1
  obtain ⟨a2, c2, rfl⟩ := is_slice h2
  obtain ⟨a3, c3, rfl⟩ := is_slice h3
  have VA := Lib.hid (Var.new w #[.slice a1 p.routs.length c1, .slice a2 p.recs.length c2, .slice a3 p.globs.length c3, .int .i64 p.main] 43)
  have BA := Lib.hid (bl1 w (.cells #[.slice a1 p.routs.length c1, .slice a2 p.recs.length c2, .slice a3 p.globs.length c3, .int .i64 p.main] 43))
  have HD := Lib.hid (impl_decl p hb (w.alloc (.cells #[.slice a1 p.routs.length c1, .slice a2 p.recs.length c2, .slice a3 p.globs.length c3, .int .i64 p.main] 43)) w w.heap.size a1 a2 a3 c1 c2 c3 BA.out h VA.out)
  have HV := Lib.hid (valid_eq p)
  cases hd : p.decl
  · have HN : Hid (p.valid = false) := Lib.hid (by rw [HV.out, hd]; rfl)
    rw [hd] at HD
    clear hbb hb h1 h2 h3 h hT hok hd
    go_enter Tryd.func13, Tryd.ntmps13
    go_wp2_with fail
    (with_reducible refine HD.out.mono ?_)
    rintro e w1 ⟨rfl, b1⟩
    have B1 := Lib.hid (below_then BA.out b1)
    clear b1
    go_wp2
    go_ret
    exact ⟨ret_eb HN.out, B1.out⟩
  rw [hd] at HD
  have HVV : Hid (p.valid = (p.routs.all (bodyB p) && decide (nodesN p.routs ≤ 40000))) := Lib.hid (by rw [HV.out, hd, bodies_eq]; rfl)
  have HRB : Hid (∀ k (hk : k < p.routs.length), p.routs[k].body.bulk ≤ 1048576 ∧ p.routs[k].body.Ok ∧ p.routs[k].slots.length ≤ 1048576) := Lib.hid (fun k hk => by
    have hm := List.getElem_mem hk
    have h4 := wsum_mem Ro.bulk hm
    have h5 : Ro.bulk p.routs[k] = p.routs[k].name.size + (strsB p.routs[k].slots + p.routs[k].body.bulk) := rfl
    have h6 : p.routs[k].slots.length ≤ strsB p.routs[k].slots := by unfold strsB; omega
    exact ⟨by omega, (hok.1.2 _ hm).2.2.2, by omega⟩)
  have g1 : p.globs.length ≤ 1048576 := by unfold strsB at hbb; omega
  have g2 : p.routs.length ≤ 1048576 := by omega
  have g3 : p.recs.length ≤ 1048576 := by omega
  have HT := Lib.hid hT
  have HK1 := Lib.hid h1
  clear HV hbb hb h1 h2 h3 h hT hok hd
  go_enter Tryd.func13, Tryd.ntmps13
  go_wp2_with fail
  (with_reducible refine HD.out.mono ?_)
  rintro e w1 ⟨rfl, b1⟩
  have B1 := Lib.hid (below_then BA.out b1)
  have V1 := Lib.hid (VA.out.later b1)
  clear b1
  obtain ⟨f0, _⟩ := V1.out 0 _ rfl
  obtain ⟨f1, _⟩ := V1.out 1 _ rfl
  obtain ⟨f2, _⟩ := V1.out 2 _ rfl
  obtain ⟨f3, _⟩ := V1.out 3 _ rfl
  have V2 := Lib.hid (V1.out.later (bl1 w1 (.cells #[.int .i64 0, .int .i64 (p.globs.length : Int), .int .i64 (p.routs.length : Int), .int .i64 (p.recs.length : Int), .int .i64 0] 83)))
  obtain ⟨d0, _⟩ := V2.out 0 _ rfl
  have HPV : Hid (PvAt w w1.heap.size p [.slice a1 p.routs.length c1, .slice a2 p.recs.length c2, .slice a3 p.globs.length c3, .int .i64 p.main] 0 (w1.alloc (.cells #[.int .i64 0, .int .i64 (p.globs.length : Int), .int .i64 (p.routs.length : Int), .int .i64 (p.recs.length : Int), .int .i64 0] 83))) :=
    Lib.hid ⟨below_then B1.out (bl1 _ _), V2.out, 0, Var.new w1 #[.int .i64 0, .int .i64 (p.globs.length : Int), .int .i64 (p.routs.length : Int), .int .i64 (p.recs.length : Int), .int .i64 0] 83⟩
  have HLT : Hid (w.heap.size < w1.heap.size) := Lib.hid V1.out.lt
  go_wp2
  clear f0 f1 f2 f3 V1 V2 B1 VA BA HD
  go_loopw [20, 4] (fun i il wr => ∃ k : Nat, i = .int .i64 k ∧ k ≤ p.routs.length ∧ (p.routs.take k).all (bodyB p) = true ∧ nodesN (p.routs.take k) ≤ 40000 ∧ PvAt w w1.heap.size p [.slice a1 p.routs.length c1, .slice a2 p.recs.length c2, .slice a3 p.globs.length c3, .int .i64 p.main] (nodesN (p.routs.take k) : Nat) wr) (fun i _ _ => p.routs.length - (intOf i).toNat)
  case atStart => exact ⟨0, rfl, Nat.zero_le _, rfl, by simp [nodesN, wsum], HPV.out⟩
  case round =>
    clear d0 HPV
    obtain ⟨k, rfl, hk, hall, hnn, hpv⟩ := hrel
    have HA := Lib.hid hall
    have HNN := Lib.hid hnn
    have HP := Lib.hid hpv
    obtain ⟨f0, _⟩ := hpv.2.1 0 _ rfl
    clear hall hnn hpv
    by_cases hlt : k < p.routs.length
    · obtain ⟨g, o, rfl, hro⟩ := rout_at HK1.out k hlt
      obtain ⟨y1, q2, k1⟩ := hro.2.2.1
      obtain ⟨e1, d1, rfl⟩ := is_slice k1
      have q2' := subw_below HP.out.1 _ _ _ q2
      obtain ⟨hb1, hb2, hb3⟩ := HRB.out k hlt
      have HS := Lib.hid (HP.out.set HLT.out p.routs[k])
      obtain ⟨r, hr⟩ : ∃ r, (p.routs[k].body.ok (p.env p.routs[k]) false false 1 && decide (((nodesN (p.routs.take k) : Nat) : Int) + (p.routs[k].body.count : Nat) ≤ 40000)) = r := ⟨_, rfl⟩
      have hE : Cr.EnvS (p.env p.routs[k]) := ⟨by show (0 : Int) ≤ (p.routs[k].slots.length : Int); omega, by show (p.routs[k].slots.length : Int) ≤ 1048576; omega, by show (0 : Int) ≤ (p.globs.length : Int); omega, by show (p.globs.length : Int) ≤ 1048576; omega, by show (0 : Int) ≤ (p.routs.length : Int); omega, by show (p.routs.length : Int) ≤ 1048576; omega, by show (0 : Int) ≤ (p.recs.length : Int); omega, by show (p.recs.length : Int) ≤ 1048576; omega⟩
      have HC : Hid (Calls Tryd.prog 36 #[.pointer (some ⟨w1.heap.size, 0, none⟩), .pointer (some ⟨g, o + k * 9 + 3, none⟩), .int .i64 1, .agg #[.bool false, .bool false]] (wr.setCell ⟨w1.heap.size, 0, none⟩ (.int .i64 (p.routs[k].slots.length : Int))) (Cr.RetVld (wr.setCell ⟨w1.heap.size, 0, none⟩ (.int .i64 (p.routs[k].slots.length : Int))) w1.heap.size (p.env p.routs[k]) (nodesN (p.routs.take k) : Nat) p.routs[k].body r)) := Lib.hid (by
        have hc := Cr.impl_vld (p.env p.routs[k]) hE _ p.routs[k].body (Nat.le_refl _) hb1 hb2 w _ w1.heap.size g (o + k * 9 + 3) 1 (nodesN (p.routs.take k) : Nat) false false (rout_tree hro) HT.out HS.out.1 (by have := HLT.out; omega) HS.out.2.2 (by omega) (by have := HNN.out; omega) (by omega)
        rw [show ((1 : Nat) : Int) = 1 from rfl, hr] at hc
        exact hc)
      have HNO : Hid (r = false → p.valid = false) := Lib.hid (fun he => by
        subst he
        rw [HVV.out, Bool.and_eq_false_iff]
        rw [Bool.and_eq_false_iff] at hr
        rcases hr with hr | hr
        · left; exact all_no (bodyB p) p.routs k hlt hr
        · right
          rw [decide_eq_false_iff_not] at hr ⊢
          have h5 := wsum_take (fun x : Ro => x.body.count) p.routs k hlt
          have h6 := nodes_take (l := p.routs) (k + 1)
          unfold nodesN at hr h6 ⊢
          omega)
      have HYES : Hid (r = true → (p.routs.take (k + 1)).all (bodyB p) = true ∧ nodesN (p.routs.take (k + 1)) ≤ 40000 ∧ ((nodesN (p.routs.take k) : Nat) : Int) + (p.routs[k].body.count : Nat) = (nodesN (p.routs.take (k + 1)) : Nat)) := Lib.hid (fun he => by
        subst he
        rw [Bool.and_eq_true, decide_eq_true_iff] at hr
        have h5 := wsum_take (fun x : Ro => x.body.count) p.routs k hlt
        have h7 := hr.2
        refine ⟨all_take (bodyB p) p.routs k hlt HA.out hr.1, ?_, ?_⟩
        · unfold nodesN at h7 ⊢; omega
        · unfold nodesN; omega)
      have k0 : (0 : Int) ≤ k := by omega
      have k1' : (k : Int) < p.routs.length := by omega
      have hw2 : IntKind.i64.wrap ((k : Int) + 1) = (k : Int) + 1 := by rw [IntKind.wrap_i64]; omega
      obtain ⟨s0, hs0⟩ := HP.out.2.2
      obtain ⟨z0, zf⟩ := hs0 0 _ rfl
      have hx : ¬ w.heap.size = w1.heap.size := by have := HLT.out; omega
      have hy : ¬ w1.heap.size = w.heap.size := by have := HLT.out; omega
      clear hr hE hro k1 q2 hb1 hb2 hb3 hs0
      generalize p.routs[k] = x at HS HC q2' HYES
      go_wp2_with fail
      (with_reducible refine HC.out.mono ?_)
      rintro e w9 ⟨rfl, hg9, m9, hv9, hm9⟩
      have HP9 := Lib.hid (PvAt.turn rfl HS.out.1 HS.out.2.1 HLT.out hg9 hv9)
      have M9 := Lib.hid hm9
      clear hg9 hv9 hm9 HC f0 q2' z0 zf
      cases r
      case false =>
        have HN := Lib.hid (HNO.out rfl)
        go_wp2
        go_ret
        exact ⟨ret_eb HN.out, HP9.out.1⟩
      case true =>
        obtain ⟨hy1, hy2, hy3⟩ := HYES.out rfl
        have HY1 := Lib.hid hy1
        have HY2 := Lib.hid hy2
        have HM : Hid (m9 = (nodesN (p.routs.take (k + 1)) : Nat)) := Lib.hid ((M9.out rfl).trans hy3)
        clear hy1 hy2 hy3
        go_wp2
        go_roundw
        case rel => exact ⟨k + 1, by go_num, by omega, HY1.out, HY2.out, by have h := HP9.out; rw [HM.out] at h; exact h⟩
        case measure => first | (simp [intOf]; done) | (simp [intOf]; omega)
    · obtain rfl : k = p.routs.length := by omega
      have HR : Hid (p.valid = true) := Lib.hid (by
        have e1 := HA.out
        have e2 := HNN.out
        rw [List.take_length] at e1 e2
        rw [HVV.out, e1, decide_eq_true e2]
        rfl)
      clear HA HNN
      go_wp2
      go_ret
      exact ⟨ret_eb HR.out, HP.out.1⟩
end Go.Proofs.YtbadepiakkhabaaDoor
