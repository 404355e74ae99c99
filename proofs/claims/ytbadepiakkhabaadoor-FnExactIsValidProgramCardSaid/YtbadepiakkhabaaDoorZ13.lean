/- Joined texts: A33, A34, A35. No conditions besides those that each states. -/
import Derived.Test.YtbadepiakkhabaaDoorZ8
import Derived.Test.YtbadepiakkhabaaDoorZ11
import Derived.Test.YtbadepiakkhabaaDoorZ12
/- The program: kids of core nodes. The operators' table reads as the program's text lays it. -/
namespace Go.Proofs.YtbadepiakkhabaaDoor.Cr
open Go.RowKit
set_option linter.unusedVariables false

theorem op_79' {k p : Int} {ks : List Co.T} (hk : k = 11) (hp : p = 79) (hi : 1 < ks.length) : Co.opOk k p ks = (decide (ks[1].kind = 2) && Tk.isName ks[1].text.data.toList) := by
  unfold Co.opOk
  rw [if_pos ⟨hk, hp⟩, List.getElem?_eq_getElem hi]
theorem op_81' {k p : Int} {ks : List Co.T} (hk : k = 11) (hp : p = 81) (hi : 0 < ks.length) : Co.opOk k p ks = decide (ks[0].kind = 5 ∨ ks[0].kind = 6) := by
  unfold Co.opOk
  rw [if_neg (by omega), if_pos ⟨hk, hp⟩, List.getElem?_eq_getElem hi]
theorem op_x' {k p : Int} {ks : List Co.T} (h1 : ¬ p = 79) (h2 : ¬ p = 81) : Co.opOk k p ks = true := by
  unfold Co.opOk
  rw [if_neg (fun h => h1 h.2), if_neg (fun h => h2 h.2)]
/-- A node whose kids are as its kind asks. -/
def kidsOk (t : Co.T) : Bool := decide (kLo t.kind t.op ≤ t.kids.length) && (decide ((t.kids.length : Int) ≤ kHi t.kind t.op) && Co.opOk t.kind t.op t.kids)

set_option maxHeartbeats 800000 in
theorem ckids_lo (t : Co.T) (w : World) (g o : Nat) (ht : TreeAt w g o t) (hT : OpsAt w) (p0 : -9223372036854775808 ≤ t.op) (p1 : t.op ≤ 9223372036854775807) (hz : t.kids.length ≤ 1048576) (hl : (t.kids.length : Int) < kLo t.kind t.op) : Calls Tryd.prog 101 #[.pointer (some ⟨g, o, none⟩)] w fun e w' => e = .returned (.bool false) ∧ Below w.heap.size w w' := by
  have HR := Lib.hid (impl_range t w g o ht hT p0 p1)
  obtain ⟨⟨e0, e1, e2, e3, e4⟩, v, e5, hk⟩ := tree_cells ht
  obtain ⟨a, c, rfl⟩ := kids_len hk
  have HE1 := Lib.hid (fun W hW => subw_below (w := w) (w' := W) hW _ _ _ e1)
  have HE5 := Lib.hid (fun W hW => subw_below (w := w) (w' := W) hW _ _ _ e5)
  generalize kLo t.kind t.op = lo at HR hl
  generalize kHi t.kind t.op = hi at HR
  clear ht hk hT p0 p1 e0 e1 e2 e3 e4 e5
  go_enter Tryd.func101, Tryd.ntmps101
  go_wp2_with fail
  refine HR.out.mono ?_
  rintro e w1 ⟨rfl, b1⟩
  have B1 := Lib.hid b1
  have f1 := HE1.out w1 b1
  have f5 := HE5.out w1 b1
  clear b1
  go_wp2
  go_ret
  exact ⟨rfl, B1.out⟩
set_option maxHeartbeats 800000 in
theorem ckids_hi (t : Co.T) (w : World) (g o : Nat) (ht : TreeAt w g o t) (hT : OpsAt w) (p0 : -9223372036854775808 ≤ t.op) (p1 : t.op ≤ 9223372036854775807) (hz : t.kids.length ≤ 1048576) (hl : kLo t.kind t.op ≤ (t.kids.length : Int)) (hh : kHi t.kind t.op < (t.kids.length : Int)) : Calls Tryd.prog 101 #[.pointer (some ⟨g, o, none⟩)] w fun e w' => e = .returned (.bool false) ∧ Below w.heap.size w w' := by
  have HR := Lib.hid (impl_range t w g o ht hT p0 p1)
  obtain ⟨⟨e0, e1, e2, e3, e4⟩, v, e5, hk⟩ := tree_cells ht
  obtain ⟨a, c, rfl⟩ := kids_len hk
  have HE1 := Lib.hid (fun W hW => subw_below (w := w) (w' := W) hW _ _ _ e1)
  have HE5 := Lib.hid (fun W hW => subw_below (w := w) (w' := W) hW _ _ _ e5)
  generalize kLo t.kind t.op = lo at HR hl
  generalize kHi t.kind t.op = hi at HR hh
  clear ht hk hT p0 p1 e0 e1 e2 e3 e4 e5
  go_enter Tryd.func101, Tryd.ntmps101
  go_wp2_with fail
  refine HR.out.mono ?_
  rintro e w1 ⟨rfl, b1⟩
  have B1 := Lib.hid b1
  have f1 := HE1.out w1 b1
  have f5 := HE5.out w1 b1
  clear b1
  go_wp2
  go_ret
  exact ⟨rfl, B1.out⟩
set_option maxHeartbeats 800000 in
theorem ckids_x (t : Co.T) (w : World) (g o : Nat) (ht : TreeAt w g o t) (hT : OpsAt w) (p0 : -9223372036854775808 ≤ t.op) (p1 : t.op ≤ 9223372036854775807) (hz : t.kids.length ≤ 1048576) (hl : kLo t.kind t.op ≤ (t.kids.length : Int)) (hh : (t.kids.length : Int) ≤ kHi t.kind t.op) (m79 : (t.op == 79) = false) (m81 : (t.op == 81) = false) : Calls Tryd.prog 101 #[.pointer (some ⟨g, o, none⟩)] w fun e w' => e = .returned (.bool true) ∧ Below w.heap.size w w' := by
  have HR := Lib.hid (impl_range t w g o ht hT p0 p1)
  obtain ⟨⟨e0, e1, e2, e3, e4⟩, v, e5, hk⟩ := tree_cells ht
  obtain ⟨a, c, rfl⟩ := kids_len hk
  have HE1 := Lib.hid (fun W hW => subw_below (w := w) (w' := W) hW _ _ _ e1)
  have HE5 := Lib.hid (fun W hW => subw_below (w := w) (w' := W) hW _ _ _ e5)
  generalize kLo t.kind t.op = lo at HR hl
  generalize kHi t.kind t.op = hi at HR hh
  clear ht hk hT p0 p1 e0 e1 e2 e3 e4 e5
  go_enter Tryd.func101, Tryd.ntmps101
  go_wp2_with fail
  refine HR.out.mono ?_
  rintro e w1 ⟨rfl, b1⟩
  have B1 := Lib.hid b1
  have f1 := HE1.out w1 b1
  have f5 := HE5.out w1 b1
  clear b1
  go_wp2
  go_ret
  exact ⟨rfl, B1.out⟩
set_option maxHeartbeats 800000 in
theorem ckids_79a (t : Co.T) (w : World) (g o : Nat) (ht : TreeAt w g o t) (hT : OpsAt w) (p0 : -9223372036854775808 ≤ t.op) (p1 : t.op ≤ 9223372036854775807) (hz : t.kids.length ≤ 1048576) (hl : kLo t.kind t.op ≤ (t.kids.length : Int)) (hh : (t.kids.length : Int) ≤ kHi t.kind t.op) (h79 : t.op = 79) (hix : 1 < t.kids.length) (hy : (t.kids[1].kind == 2) = false) : Calls Tryd.prog 101 #[.pointer (some ⟨g, o, none⟩)] w fun e w' => e = .returned (.bool false) ∧ Below w.heap.size w w' := by
  have HR := Lib.hid (impl_range t w g o ht hT p0 p1)
  obtain ⟨⟨e0, e1, e2, e3, e4⟩, v, e5, hk⟩ := tree_cells ht
  obtain ⟨a, c, rfl⟩ := kids_len hk
  have HE1 := Lib.hid (fun W hW => subw_below (w := w) (w' := W) hW _ _ _ e1)
  have HE5 := Lib.hid (fun W hW => subw_below (w := w) (w' := W) hW _ _ _ e5)
  obtain ⟨g1, o1, ha, hti⟩ := kids_at hk 1 hix
  obtain ⟨⟨r0, r1, r2, r3, r4⟩, vi, r5, hki⟩ := tree_cells hti
  have HX : Hid (∀ W, Below w.heap.size w W → W.cell? ⟨g1, o1 + 6, none⟩ = some (.int .i64 t.kids[1].kind) ∧ W.cell? ⟨g1, o1 + 6 + 4, none⟩ = some (.string t.kids[1].text)) := Lib.hid (fun W hW => ⟨subw_below hW _ _ _ (by simpa using r0), subw_below hW _ _ _ (by simpa using r4)⟩)
  have hiz : (1 : Int) < t.kids.length := by omega
  have HA := Lib.hid ha
  clear hti hki r0 r1 r2 r3 r4 r5 ha
  rw [h79] at HE1
  generalize t.kids[1] = y at HX hy
  generalize kLo t.kind t.op = lo at HR hl
  generalize kHi t.kind t.op = hi at HR hh
  clear ht hk hT p0 p1 e0 e1 e2 e3 e4 e5 hix h79
  go_enter Tryd.func101, Tryd.ntmps101
  go_wp2_with fail
  refine HR.out.mono ?_
  rintro e w1 ⟨rfl, b1⟩
  have B1 := Lib.hid b1
  have f1 := HE1.out w1 b1
  have f5 := HE5.out w1 b1
  clear b1
  have ha := HA.out
  subst ha
  obtain ⟨r0, r4⟩ := HX.out _ B1.out
  go_wp2
  go_ret
  exact ⟨rfl, B1.out⟩
set_option maxHeartbeats 800000 in
theorem ckids_79b (t : Co.T) (w : World) (g o : Nat) (ht : TreeAt w g o t) (hT : OpsAt w) (p0 : -9223372036854775808 ≤ t.op) (p1 : t.op ≤ 9223372036854775807) (hz : t.kids.length ≤ 1048576) (hl : kLo t.kind t.op ≤ (t.kids.length : Int)) (hh : (t.kids.length : Int) ≤ kHi t.kind t.op) (h79 : t.op = 79) (hix : 1 < t.kids.length) (hy : (t.kids[1].kind == 2) = true) (hys : (t.kids[1].text.size : Int) ≤ 1048576) : Calls Tryd.prog 101 #[.pointer (some ⟨g, o, none⟩)] w fun e w' => e = .returned (.bool (Tk.isName t.kids[1].text.data.toList)) ∧ Below w.heap.size w w' := by
  have HR := Lib.hid (impl_range t w g o ht hT p0 p1)
  obtain ⟨⟨e0, e1, e2, e3, e4⟩, v, e5, hk⟩ := tree_cells ht
  obtain ⟨a, c, rfl⟩ := kids_len hk
  have HE1 := Lib.hid (fun W hW => subw_below (w := w) (w' := W) hW _ _ _ e1)
  have HE5 := Lib.hid (fun W hW => subw_below (w := w) (w' := W) hW _ _ _ e5)
  obtain ⟨g1, o1, ha, hti⟩ := kids_at hk 1 hix
  obtain ⟨⟨r0, r1, r2, r3, r4⟩, vi, r5, hki⟩ := tree_cells hti
  have HX : Hid (∀ W, Below w.heap.size w W → W.cell? ⟨g1, o1 + 6, none⟩ = some (.int .i64 t.kids[1].kind) ∧ W.cell? ⟨g1, o1 + 6 + 4, none⟩ = some (.string t.kids[1].text)) := Lib.hid (fun W hW => ⟨subw_below hW _ _ _ (by simpa using r0), subw_below hW _ _ _ (by simpa using r4)⟩)
  have hiz : (1 : Int) < t.kids.length := by omega
  have HA := Lib.hid ha
  clear hti hki r0 r1 r2 r3 r4 r5 ha
  rw [h79] at HE1
  have HNM := Lib.hid (fun W => impl_name t.kids[1].text W hys)
  generalize t.kids[1] = y at HX hy hys HNM ⊢
  generalize kLo t.kind t.op = lo at HR hl
  generalize kHi t.kind t.op = hi at HR hh
  clear ht hk hT p0 p1 e0 e1 e2 e3 e4 e5 hix h79
  go_enter Tryd.func101, Tryd.ntmps101
  go_wp2_with fail
  refine HR.out.mono ?_
  rintro e w1 ⟨rfl, b1⟩
  have B1 := Lib.hid b1
  have f1 := HE1.out w1 b1
  have f5 := HE5.out w1 b1
  clear b1
  have ha := HA.out
  subst ha
  obtain ⟨r0, r4⟩ := HX.out _ B1.out
  go_wp2_with fail
  refine (HNM.out _).mono ?_
  rintro e w2 ⟨rfl, b2⟩
  have B2 := Lib.hid (below_then B1.out b2)
  clear b2
  go_wp2
  go_ret
  exact ⟨rfl, B2.out⟩
set_option maxHeartbeats 800000 in
theorem ckids_81a (t : Co.T) (w : World) (g o : Nat) (ht : TreeAt w g o t) (hT : OpsAt w) (p0 : -9223372036854775808 ≤ t.op) (p1 : t.op ≤ 9223372036854775807) (hz : t.kids.length ≤ 1048576) (hl : kLo t.kind t.op ≤ (t.kids.length : Int)) (hh : (t.kids.length : Int) ≤ kHi t.kind t.op) (h81 : t.op = 81) (hix : 0 < t.kids.length) (hy5 : (t.kids[0].kind == 5) = true) : Calls Tryd.prog 101 #[.pointer (some ⟨g, o, none⟩)] w fun e w' => e = .returned (.bool true) ∧ Below w.heap.size w w' := by
  have HR := Lib.hid (impl_range t w g o ht hT p0 p1)
  obtain ⟨⟨e0, e1, e2, e3, e4⟩, v, e5, hk⟩ := tree_cells ht
  obtain ⟨a, c, rfl⟩ := kids_len hk
  have HE1 := Lib.hid (fun W hW => subw_below (w := w) (w' := W) hW _ _ _ e1)
  have HE5 := Lib.hid (fun W hW => subw_below (w := w) (w' := W) hW _ _ _ e5)
  obtain ⟨g1, o1, ha, hti⟩ := kids_at hk 0 hix
  obtain ⟨⟨r0, r1, r2, r3, r4⟩, vi, r5, hki⟩ := tree_cells hti
  have HX : Hid (∀ W, Below w.heap.size w W → W.cell? ⟨g1, o1, none⟩ = some (.int .i64 t.kids[0].kind) ∧ W.cell? ⟨g1, o1 + 4, none⟩ = some (.string t.kids[0].text)) := Lib.hid (fun W hW => ⟨subw_below hW _ _ _ (by simpa using r0), subw_below hW _ _ _ (by simpa using r4)⟩)
  have hiz : (0 : Int) < t.kids.length := by omega
  have HA := Lib.hid ha
  clear hti hki r0 r1 r2 r3 r4 r5 ha
  rw [h81] at HE1
  generalize t.kids[0] = y at HX hy5
  generalize kLo t.kind t.op = lo at HR hl
  generalize kHi t.kind t.op = hi at HR hh
  clear ht hk hT p0 p1 e0 e1 e2 e3 e4 e5 hix h81
  go_enter Tryd.func101, Tryd.ntmps101
  go_wp2_with fail
  refine HR.out.mono ?_
  rintro e w1 ⟨rfl, b1⟩
  have B1 := Lib.hid b1
  have f1 := HE1.out w1 b1
  have f5 := HE5.out w1 b1
  clear b1
  have ha := HA.out
  subst ha
  obtain ⟨r0, r4⟩ := HX.out _ B1.out
  go_wp2
  go_ret
  exact ⟨rfl, B1.out⟩
set_option maxHeartbeats 800000 in
theorem ckids_81b (t : Co.T) (w : World) (g o : Nat) (ht : TreeAt w g o t) (hT : OpsAt w) (p0 : -9223372036854775808 ≤ t.op) (p1 : t.op ≤ 9223372036854775807) (hz : t.kids.length ≤ 1048576) (hl : kLo t.kind t.op ≤ (t.kids.length : Int)) (hh : (t.kids.length : Int) ≤ kHi t.kind t.op) (h81 : t.op = 81) (hix : 0 < t.kids.length) (hy5 : (t.kids[0].kind == 5) = false) (hy6 : (t.kids[0].kind == 6) = true) : Calls Tryd.prog 101 #[.pointer (some ⟨g, o, none⟩)] w fun e w' => e = .returned (.bool true) ∧ Below w.heap.size w w' := by
  have HR := Lib.hid (impl_range t w g o ht hT p0 p1)
  obtain ⟨⟨e0, e1, e2, e3, e4⟩, v, e5, hk⟩ := tree_cells ht
  obtain ⟨a, c, rfl⟩ := kids_len hk
  have HE1 := Lib.hid (fun W hW => subw_below (w := w) (w' := W) hW _ _ _ e1)
  have HE5 := Lib.hid (fun W hW => subw_below (w := w) (w' := W) hW _ _ _ e5)
  obtain ⟨g1, o1, ha, hti⟩ := kids_at hk 0 hix
  obtain ⟨⟨r0, r1, r2, r3, r4⟩, vi, r5, hki⟩ := tree_cells hti
  have HX : Hid (∀ W, Below w.heap.size w W → W.cell? ⟨g1, o1, none⟩ = some (.int .i64 t.kids[0].kind) ∧ W.cell? ⟨g1, o1 + 4, none⟩ = some (.string t.kids[0].text)) := Lib.hid (fun W hW => ⟨subw_below hW _ _ _ (by simpa using r0), subw_below hW _ _ _ (by simpa using r4)⟩)
  have hiz : (0 : Int) < t.kids.length := by omega
  have HA := Lib.hid ha
  clear hti hki r0 r1 r2 r3 r4 r5 ha
  rw [h81] at HE1
  generalize t.kids[0] = y at HX hy5 hy6
  generalize kLo t.kind t.op = lo at HR hl
  generalize kHi t.kind t.op = hi at HR hh
  clear ht hk hT p0 p1 e0 e1 e2 e3 e4 e5 hix h81
  go_enter Tryd.func101, Tryd.ntmps101
  go_wp2_with fail
  refine HR.out.mono ?_
  rintro e w1 ⟨rfl, b1⟩
  have B1 := Lib.hid b1
  have f1 := HE1.out w1 b1
  have f5 := HE5.out w1 b1
  clear b1
  have ha := HA.out
  subst ha
  obtain ⟨r0, r4⟩ := HX.out _ B1.out
  go_wp2
  go_ret
  exact ⟨rfl, B1.out⟩
set_option maxHeartbeats 800000 in
theorem ckids_81c (t : Co.T) (w : World) (g o : Nat) (ht : TreeAt w g o t) (hT : OpsAt w) (p0 : -9223372036854775808 ≤ t.op) (p1 : t.op ≤ 9223372036854775807) (hz : t.kids.length ≤ 1048576) (hl : kLo t.kind t.op ≤ (t.kids.length : Int)) (hh : (t.kids.length : Int) ≤ kHi t.kind t.op) (h81 : t.op = 81) (hix : 0 < t.kids.length) (hy5 : (t.kids[0].kind == 5) = false) (hy6 : (t.kids[0].kind == 6) = false) : Calls Tryd.prog 101 #[.pointer (some ⟨g, o, none⟩)] w fun e w' => e = .returned (.bool false) ∧ Below w.heap.size w w' := by
  have HR := Lib.hid (impl_range t w g o ht hT p0 p1)
  obtain ⟨⟨e0, e1, e2, e3, e4⟩, v, e5, hk⟩ := tree_cells ht
  obtain ⟨a, c, rfl⟩ := kids_len hk
  have HE1 := Lib.hid (fun W hW => subw_below (w := w) (w' := W) hW _ _ _ e1)
  have HE5 := Lib.hid (fun W hW => subw_below (w := w) (w' := W) hW _ _ _ e5)
  obtain ⟨g1, o1, ha, hti⟩ := kids_at hk 0 hix
  obtain ⟨⟨r0, r1, r2, r3, r4⟩, vi, r5, hki⟩ := tree_cells hti
  have HX : Hid (∀ W, Below w.heap.size w W → W.cell? ⟨g1, o1, none⟩ = some (.int .i64 t.kids[0].kind) ∧ W.cell? ⟨g1, o1 + 4, none⟩ = some (.string t.kids[0].text)) := Lib.hid (fun W hW => ⟨subw_below hW _ _ _ (by simpa using r0), subw_below hW _ _ _ (by simpa using r4)⟩)
  have hiz : (0 : Int) < t.kids.length := by omega
  have HA := Lib.hid ha
  clear hti hki r0 r1 r2 r3 r4 r5 ha
  rw [h81] at HE1
  generalize t.kids[0] = y at HX hy5 hy6
  generalize kLo t.kind t.op = lo at HR hl
  generalize kHi t.kind t.op = hi at HR hh
  clear ht hk hT p0 p1 e0 e1 e2 e3 e4 e5 hix h81
  go_enter Tryd.func101, Tryd.ntmps101
  go_wp2_with fail
  refine HR.out.mono ?_
  rintro e w1 ⟨rfl, b1⟩
  have B1 := Lib.hid b1
  have f1 := HE1.out w1 b1
  have f5 := HE5.out w1 b1
  clear b1
  have ha := HA.out
  subst ha
  obtain ⟨r0, r4⟩ := HX.out _ B1.out
  go_wp2
  go_ret
  exact ⟨rfl, B1.out⟩
end Go.Proofs.YtbadepiakkhabaaDoor.Cr
/- The program: kids of core nodes, a core node. The operators' table reads as the program's text lays it. -/
namespace Go.Proofs.YtbadepiakkhabaaDoor.Cr
open Go.RowKit
set_option linter.unusedVariables false

theorem kids_no1 {t : Co.T} (h : (t.kids.length : Int) < kLo t.kind t.op) : kidsOk t = false := by
  unfold kidsOk
  rw [decide_eq_false (by omega), Bool.false_and]
theorem kids_no2 {t : Co.T} (h : kHi t.kind t.op < (t.kids.length : Int)) : kidsOk t = false := by
  unfold kidsOk
  rw [decide_eq_false (p := (t.kids.length : Int) ≤ kHi t.kind t.op) (by omega), Bool.false_and, Bool.and_false]
theorem kids_eq {t : Co.T} (h1 : kLo t.kind t.op ≤ (t.kids.length : Int)) (h2 : (t.kids.length : Int) ≤ kHi t.kind t.op) : kidsOk t = Co.opOk t.kind t.op t.kids := by
  unfold kidsOk
  rw [decide_eq_true h1, decide_eq_true h2, Bool.true_and, Bool.true_and]
theorem impl_ckids (t : Co.T) (w : World) (g o : Nat) (ht : TreeAt w g o t) (hT : OpsAt w) (p0 : -9223372036854775808 ≤ t.op) (p1 : t.op ≤ 9223372036854775807) (hz : t.kids.length ≤ 1048576) (hx : ∀ (i : Nat) (h : i < t.kids.length), (t.kids[i].text.size : Int) ≤ 1048576) (hop : t.op = 0 ∨ t.kind = 11) : Calls Tryd.prog 101 #[.pointer (some ⟨g, o, none⟩)] w fun e w' => e = .returned (.bool (kidsOk t)) ∧ Below w.heap.size w w' := by
  by_cases h1 : (t.kids.length : Int) < kLo t.kind t.op
  · rw [kids_no1 h1]
    exact ckids_lo t w g o ht hT p0 p1 hz h1
  by_cases h2 : kHi t.kind t.op < (t.kids.length : Int)
  · rw [kids_no2 h2]
    exact ckids_hi t w g o ht hT p0 p1 hz (by omega) h2
  rw [kids_eq (by omega) (by omega)]
  by_cases h79 : t.op = 79
  · have hk : t.kind = 11 := by omega
    have hlo : kLo t.kind t.op = 2 := by rw [hk, h79]; rfl
    have hlen : 1 < t.kids.length := by omega
    rw [op_79' hk h79 hlen]
    by_cases hy : t.kids[1].kind = 2
    · rw [decide_eq_true hy, Bool.true_and]
      exact ckids_79b t w g o ht hT p0 p1 hz (by omega) (by omega) h79 hlen (beq_iff_eq.2 hy) (hx 1 hlen)
    · rw [decide_eq_false hy, Bool.false_and]
      exact ckids_79a t w g o ht hT p0 p1 hz (by omega) (by omega) h79 hlen (beq_eq_false_iff_ne.2 hy)
  by_cases h81 : t.op = 81
  · have hk : t.kind = 11 := by omega
    have hlo : kLo t.kind t.op = 1 := by rw [hk, h81]; rfl
    have hlen : 0 < t.kids.length := by omega
    rw [op_81' hk h81 hlen]
    by_cases hy5 : t.kids[0].kind = 5
    · rw [decide_eq_true (.inl hy5)]
      exact ckids_81a t w g o ht hT p0 p1 hz (by omega) (by omega) h81 hlen (beq_iff_eq.2 hy5)
    by_cases hy6 : t.kids[0].kind = 6
    · rw [decide_eq_true (.inr hy6)]
      exact ckids_81b t w g o ht hT p0 p1 hz (by omega) (by omega) h81 hlen (beq_eq_false_iff_ne.2 hy5) (beq_iff_eq.2 hy6)
    rw [decide_eq_false (by omega)]
    exact ckids_81c t w g o ht hT p0 p1 hz (by omega) (by omega) h81 hlen (beq_eq_false_iff_ne.2 hy5) (beq_eq_false_iff_ne.2 hy6)
  rw [op_x' h79 h81]
  exact ckids_x t w g o ht hT p0 p1 hz (by omega) (by omega) (beq_eq_false_iff_ne.2 h79) (beq_eq_false_iff_ne.2 h81)

/-- A node that is as its kind asks, wherever it is. -/
def nodeOk (E : Co.Env) (t : Co.T) : Bool := decide (0 ≤ t.line) && ((decide (t.kind = 11) || decide (t.op = 0)) && (kidsOk t && (Co.txtOk t.kind t.text && Co.numOk E t.kind t.num)))
theorem k_range {t : Co.T} : (decide (kLo t.kind t.op ≤ t.kids.length) && decide ((t.kids.length : Int) ≤ kHi t.kind t.op)) = (decide (1 ≤ t.kind) && (decide (t.kind ≤ 28) && (decide (Co.cLo t.kind t.op ≤ t.kids.length) && decide ((t.kids.length : Int) ≤ Co.cHi t.kind t.op)))) := by
  unfold kLo kHi
  by_cases h : 1 ≤ t.kind ∧ t.kind ≤ 28
  · rw [if_pos h, if_pos h, decide_eq_true h.1, decide_eq_true h.2, Bool.true_and, Bool.true_and]
  · rw [if_neg h, if_neg h, decide_eq_false (p := (t.kids.length : Int) ≤ -1) (by omega), Bool.and_false]
    by_cases h1 : 1 ≤ t.kind
    · rw [decide_eq_false (p := t.kind ≤ 28) (by omega), Bool.false_and, Bool.and_false]
    · rw [decide_eq_false h1, Bool.false_and]
theorem head_eq (E : Co.Env) (t : Co.T) (loop made : Bool) (d : Int) : Co.headB E t.kind t.op t.num t.line t.text t.kids loop made d = (decide (d ≤ 400) && (nodeOk E t && Co.admit t.kind loop made)) := by
  unfold Co.headB nodeOk kidsOk
  have h := k_range (t := t)
  generalize decide (kLo t.kind t.op ≤ t.kids.length) = a at h ⊢
  generalize decide ((t.kids.length : Int) ≤ kHi t.kind t.op) = b at h ⊢
  generalize decide (1 ≤ t.kind) = c1 at h ⊢
  generalize decide (t.kind ≤ 28) = c2 at h ⊢
  generalize decide (Co.cLo t.kind t.op ≤ t.kids.length) = c3 at h ⊢
  generalize decide ((t.kids.length : Int) ≤ Co.cHi t.kind t.op) = c4 at h ⊢
  generalize decide (d ≤ 400) = x1
  generalize decide (0 ≤ t.line) = x2
  generalize Co.numOk E t.kind t.num = x3
  generalize (decide (t.kind = 11) || decide (t.op = 0)) = x4
  generalize Co.txtOk t.kind t.text = x5
  generalize Co.admit t.kind loop made = x6
  generalize Co.opOk t.kind t.op t.kids = x7
  have e : (a && (b && x7)) = ((c1 && (c2 && (c3 && c4))) && x7) := by rw [← Bool.and_assoc, h]
  rw [e]
  ac_rfl
end Go.Proofs.YtbadepiakkhabaaDoor.Cr
/- The program: a core node. The operators' table reads as the program's text lays it. -/
namespace Go.Proofs.YtbadepiakkhabaaDoor.Cr
open Go.RowKit
set_option linter.unusedVariables false

theorem CkAt.later {w w' : World} {b : Nat} {E : Co.Env} (h : CkAt w b E) (hb : Below w.heap.size w w') : CkAt w' b E :=
  ⟨subw_below hb _ _ _ h.1, subw_below hb _ _ _ h.2.1, subw_below hb _ _ _ h.2.2.1, subw_below hb _ _ _ h.2.2.2⟩
theorem kid_bulk {t : Co.T} (i : Nat) (h : i < t.kids.length) : t.kids[i].bulk ≤ Co.bulks t.kids := Co.bulks_mem (List.getElem_mem h)
theorem text_bulk (t : Co.T) : t.text.size ≤ t.bulk := by rw [bulk_eq]; omega
theorem kids_text {t : Co.T} (hb : t.bulk ≤ 1048576) (i : Nat) (h : i < t.kids.length) : (t.kids[i].text.size : Int) ≤ 1048576 := by
  have h1 := kid_bulk i h
  have h2 := text_bulk t.kids[i]
  have h3 := bulk_eq t
  omega
theorem node_line {E : Co.Env} {t : Co.T} (h : t.line < 0) : nodeOk E t = false := by unfold nodeOk; rw [decide_eq_false (by omega)]; rfl
theorem node_op {E : Co.Env} {t : Co.T} (h1 : ¬ t.op = 0) (h2 : ¬ t.kind = 11) : nodeOk E t = false := by unfold nodeOk; rw [decide_eq_false h1, decide_eq_false h2]; simp
theorem node_rest {E : Co.Env} {t : Co.T} (h : ¬ t.line < 0) (h1 : t.op = 0 ∨ t.kind = 11) : nodeOk E t = (kidsOk t && (Co.txtOk t.kind t.text && Co.numOk E t.kind t.num)) := by
  unfold nodeOk
  rw [decide_eq_true (by omega), Bool.true_and]
  rcases h1 with h1 | h1
  · rw [decide_eq_true h1, Bool.or_true, Bool.true_and]
  · rw [decide_eq_true h1, Bool.true_or, Bool.true_and]

theorem vnode_line (b : Nat) (t : Co.T) (w : World) (g o : Nat) (ht : TreeAt w g o t) (h : t.line < 0) : Calls Tryd.prog 69 #[.pointer (some ⟨b, 0, none⟩), .pointer (some ⟨g, o, none⟩)] w fun e w' => e = .returned (.bool false) ∧ Below w.heap.size w w' := by
  obtain ⟨⟨e0, e1, e2, e3, e4⟩, v, e5, hk⟩ := tree_cells ht
  clear ht hk
  go_enter Tryd.func69, Tryd.ntmps69
  go_wp2
  go_ret
  exact ⟨rfl, Below.refl _ _⟩
theorem vnode_op (b : Nat) (t : Co.T) (w : World) (g o : Nat) (ht : TreeAt w g o t) (h : ¬ t.line < 0) (h1 : (t.op != 0) = true) (h2 : (t.kind != 11) = true) : Calls Tryd.prog 69 #[.pointer (some ⟨b, 0, none⟩), .pointer (some ⟨g, o, none⟩)] w fun e w' => e = .returned (.bool false) ∧ Below w.heap.size w w' := by
  obtain ⟨⟨e0, e1, e2, e3, e4⟩, v, e5, hk⟩ := tree_cells ht
  clear ht hk
  go_enter Tryd.func69, Tryd.ntmps69
  go_wp2
  go_ret
  exact ⟨rfl, Below.refl _ _⟩

theorem vnode_z (E : Co.Env) (hE : EnvS E) (b : Nat) (t : Co.T) (w : World) (g o : Nat) (hc : CkAt w b E) (ht : TreeAt w g o t) (hT : OpsAt w) (p0 : -9223372036854775808 ≤ t.op) (p1 : t.op ≤ 9223372036854775807) (hb : t.bulk ≤ 1048576) (h : ¬ t.line < 0) (h1 : (t.op != 0) = false) : Calls Tryd.prog 69 #[.pointer (some ⟨b, 0, none⟩), .pointer (some ⟨g, o, none⟩)] w fun e w' => e = .returned (.bool (kidsOk t && (Co.txtOk t.kind t.text && Co.numOk E t.kind t.num))) ∧ Below w.heap.size w w' := by
  have HK := Lib.hid (impl_ckids t w g o ht hT p0 p1 (by have := bulk_eq t; omega) (kids_text hb) (.inl (by simpa using h1)))
  have HX := Lib.hid (fun W (hW : Below w.heap.size w W) => impl_ctext t W g o (ht.later hW) (by have := text_bulk t; omega))
  have HN := Lib.hid (fun W (hW : Below w.heap.size w W) => impl_number E hE b t W g o (hc.later hW) (ht.later hW))
  obtain ⟨⟨e0, e1, e2, e3, e4⟩, v, e5, hk⟩ := tree_cells ht
  clear ht hk hT p0 p1 hb hc hE
  generalize kidsOk t = x1 at HK ⊢
  generalize Co.txtOk t.kind t.text = x2 at HX ⊢
  generalize Co.numOk E t.kind t.num = x3 at HN ⊢
  cases x1
  · skip
    go_enter Tryd.func69, Tryd.ntmps69
    go_wp2_with fail
    (with_reducible refine HK.out.mono ?_)
    rintro e w1 ⟨rfl, b1⟩
    have B1 := Lib.hid b1
    clear b1
    go_wp2
    go_ret
    exact ⟨rfl, B1.out⟩
  cases x2
  · skip
    go_enter Tryd.func69, Tryd.ntmps69
    go_wp2_with fail
    (with_reducible refine HK.out.mono ?_)
    rintro e w1 ⟨rfl, b1⟩
    have B1 := Lib.hid b1
    clear b1
    go_wp2_with fail
    (with_reducible refine (HX.out _ B1.out).mono ?_)
    rintro e w2 ⟨rfl, b2⟩
    have B2 := Lib.hid (below_then B1.out b2)
    clear b2
    go_wp2
    go_ret
    exact ⟨rfl, B2.out⟩
  · skip
    go_enter Tryd.func69, Tryd.ntmps69
    go_wp2_with fail
    (with_reducible refine HK.out.mono ?_)
    rintro e w1 ⟨rfl, b1⟩
    have B1 := Lib.hid b1
    clear b1
    go_wp2_with fail
    (with_reducible refine (HX.out _ B1.out).mono ?_)
    rintro e w2 ⟨rfl, b2⟩
    have B2 := Lib.hid (below_then B1.out b2)
    clear b2
    go_wp2_with fail
    (with_reducible refine (HN.out _ B2.out).mono ?_)
    rintro e w3 ⟨rfl, b3⟩
    have B3 := Lib.hid (below_then B2.out b3)
    clear b3
    go_wp2
    go_ret
    exact ⟨rfl, B3.out⟩

theorem vnode_k (E : Co.Env) (hE : EnvS E) (b : Nat) (t : Co.T) (w : World) (g o : Nat) (hc : CkAt w b E) (ht : TreeAt w g o t) (hT : OpsAt w) (p0 : -9223372036854775808 ≤ t.op) (p1 : t.op ≤ 9223372036854775807) (hb : t.bulk ≤ 1048576) (h : ¬ t.line < 0) (h1 : (t.op != 0) = true) (h2 : (t.kind != 11) = false) : Calls Tryd.prog 69 #[.pointer (some ⟨b, 0, none⟩), .pointer (some ⟨g, o, none⟩)] w fun e w' => e = .returned (.bool (kidsOk t && (Co.txtOk t.kind t.text && Co.numOk E t.kind t.num))) ∧ Below w.heap.size w w' := by
  have HK := Lib.hid (impl_ckids t w g o ht hT p0 p1 (by have := bulk_eq t; omega) (kids_text hb) (.inr (by simpa using h2)))
  have HX := Lib.hid (fun W (hW : Below w.heap.size w W) => impl_ctext t W g o (ht.later hW) (by have := text_bulk t; omega))
  have HN := Lib.hid (fun W (hW : Below w.heap.size w W) => impl_number E hE b t W g o (hc.later hW) (ht.later hW))
  obtain ⟨⟨e0, e1, e2, e3, e4⟩, v, e5, hk⟩ := tree_cells ht
  clear ht hk hT p0 p1 hb hc hE
  generalize kidsOk t = x1 at HK ⊢
  generalize Co.txtOk t.kind t.text = x2 at HX ⊢
  generalize Co.numOk E t.kind t.num = x3 at HN ⊢
  cases x1
  · skip
    go_enter Tryd.func69, Tryd.ntmps69
    go_wp2_with fail
    (with_reducible refine HK.out.mono ?_)
    rintro e w1 ⟨rfl, b1⟩
    have B1 := Lib.hid b1
    clear b1
    go_wp2
    go_ret
    exact ⟨rfl, B1.out⟩
  cases x2
  · skip
    go_enter Tryd.func69, Tryd.ntmps69
    go_wp2_with fail
    (with_reducible refine HK.out.mono ?_)
    rintro e w1 ⟨rfl, b1⟩
    have B1 := Lib.hid b1
    clear b1
    go_wp2_with fail
    (with_reducible refine (HX.out _ B1.out).mono ?_)
    rintro e w2 ⟨rfl, b2⟩
    have B2 := Lib.hid (below_then B1.out b2)
    clear b2
    go_wp2
    go_ret
    exact ⟨rfl, B2.out⟩
  · skip
    go_enter Tryd.func69, Tryd.ntmps69
    go_wp2_with fail
    (with_reducible refine HK.out.mono ?_)
    rintro e w1 ⟨rfl, b1⟩
    have B1 := Lib.hid b1
    clear b1
    go_wp2_with fail
    (with_reducible refine (HX.out _ B1.out).mono ?_)
    rintro e w2 ⟨rfl, b2⟩
    have B2 := Lib.hid (below_then B1.out b2)
    clear b2
    go_wp2_with fail
    (with_reducible refine (HN.out _ B2.out).mono ?_)
    rintro e w3 ⟨rfl, b3⟩
    have B3 := Lib.hid (below_then B2.out b3)
    clear b3
    go_wp2
    go_ret
    exact ⟨rfl, B3.out⟩

theorem impl_vnode (E : Co.Env) (hE : EnvS E) (b : Nat) (t : Co.T) (w : World) (g o : Nat) (hc : CkAt w b E) (ht : TreeAt w g o t) (hT : OpsAt w) (p0 : -9223372036854775808 ≤ t.op) (p1 : t.op ≤ 9223372036854775807) (hb : t.bulk ≤ 1048576) : Calls Tryd.prog 69 #[.pointer (some ⟨b, 0, none⟩), .pointer (some ⟨g, o, none⟩)] w fun e w' => e = .returned (.bool (nodeOk E t)) ∧ Below w.heap.size w w' := by
  by_cases h : t.line < 0
  · rw [node_line h]
    exact vnode_line b t w g o ht h
  by_cases h1 : t.op = 0
  · rw [node_rest h (.inl h1)]
    exact vnode_z E hE b t w g o hc ht hT p0 p1 hb h (by simp [h1])
  by_cases h2 : t.kind = 11
  · rw [node_rest h (.inr h2)]
    exact vnode_k E hE b t w g o hc ht hT p0 p1 hb h (by simp [h1]) (by simp [h2])
  rw [node_op h1 h2]
  exact vnode_op b t w g o ht h (by simp [h1]) (by simp [h2])
end Go.Proofs.YtbadepiakkhabaaDoor.Cr
