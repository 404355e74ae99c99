/- The nodes of a tree, each before its kids, with their depths; what the program's walk of a tree hands to a round. No conditions. -/
import Derived.Test.YtkhcbahbffjnkaaDoorG7
import Derived.IntWalk
import Derived.RangeFuncNested
import Derived.RangeFuncBound
import Derived.RangeFuncCalls
import Derived.RangeFuncLeaves
import Derived.Shelf.Abstract
import Derived.Shelf.RegionOpen
import Derived.WalkKit
import Derived.OwnWalkIn
import Derived.TacticsInMore
import Derived.LoopNIn
import Derived.LoopIn
namespace Go.Proofs.YtkhcbahbffjnkaaDoor
open Go.RowKit Go.Shelf
set_option linter.unusedVariables false
attribute [local go_sem] Oper.semAt_some

mutual
/-- The nodes of a tree, each before its kids, with their depths. -/
def Ex.T.pre : Ex.T → Nat → List (Ex.T × Nat)
  | .node k t n l ks, d => (.node k t n l ks, d) :: Ex.pres ks (d + 1)
def Ex.pres : List Ex.T → Nat → List (Ex.T × Nat)
  | [], _ => []
  | x :: r, d => x.pre d ++ Ex.pres r d
end
theorem Ex.pre_eq (t : Ex.T) (d : Nat) : t.pre d = (t, d) :: Ex.pres t.kids (d + 1) := by cases t; rw [Ex.T.pre]; rfl
theorem Ex.pres_app (a b : List Ex.T) (d : Nat) : Ex.pres (a ++ b) d = Ex.pres a d ++ Ex.pres b d := by
  induction a with
  | nil => simp [Ex.pres]
  | cons x r ih => simp [Ex.pres, ih]
theorem Ex.pres_take (l : List Ex.T) (k : Nat) (h : k < l.length) (d : Nat) : Ex.pres (l.take (k + 1)) d = Ex.pres (l.take k) d ++ l[k].pre d := by
  rw [List.take_succ_eq_append_getElem h, Ex.pres_app]
  simp [Ex.pres]
mutual
theorem Ex.pre_len : ∀ (t : Ex.T) (d : Nat), (t.pre d).length = t.count
  | .node k t n l ks, d => by rw [Ex.T.pre, Ex.T.count, List.length_cons, Ex.pres_len ks]; omega
theorem Ex.pres_len : ∀ (l : List Ex.T) (d : Nat), (Ex.pres l d).length = Ex.counts l
  | [], d => by simp [Ex.pres, Ex.counts]
  | x :: r, d => by rw [Ex.pres, Ex.counts, List.length_append, Ex.pre_len x, Ex.pres_len r]
end
theorem deeps_mem : ∀ {l : List Ex.T} {x : Ex.T}, x ∈ l → x.deep ≤ Ex.deeps l := by
  intro l
  induction l with
  | nil => intro x h; cases h
  | cons y l ih =>
    intro x h
    rw [Ex.deeps]
    rcases List.mem_cons.1 h with rfl | h
    · omega
    · have := ih h; omega
theorem Ex.pres_pref (l : List Ex.T) (k : Nat) (h : k < l.length) (d : Nat) (q : List (Ex.T × Nat)) (hq : q <+: l[k].pre d) : Ex.pres (l.take k) d ++ q <+: Ex.pres l d := by
  have e : l = l.take k ++ (l[k] :: l.drop (k + 1)) := by rw [← List.drop_eq_getElem_cons h, List.take_append_drop]
  obtain ⟨r, hr⟩ := hq
  refine ⟨r ++ Ex.pres (l.drop (k + 1)) d, ?_⟩
  conv => rhs; rw [e]
  rw [Ex.pres_app, Ex.pres, ← hr]
  simp
/-- A node in memory, as a round is handed it: its place, its tree, its depth. -/
abbrev Nd (w0 : World) := { x : (Nat × Nat) × (Ex.T × Nat) // TreeAt w0 x.1.1 x.1.2 x.2.1 ∧ x.2.1.bulk ≤ 1048576 ∧ x.2.2 ≤ 2097152 }
def Nd.dat {w0 : World} (x : Nd w0) : Ex.T × Nat := x.1.2
abbrev ndV {w0 : World} (x : Nd w0) : Array Value := #[.pointer (some ⟨x.1.1.1, x.1.1.2, none⟩), .int .i64 (x.1.2.2 : Int)]
def VisT (F : Fence) (l : Nat) (w0 : World) (N : Nat) (J Jx : List (Nd w0) → World → Prop) (t : Ex.T) : Prop :=
  ∀ (n g o d : Nat) (pre : List (Nd w0)) (W : World), t.bulk ≤ 1048576 → d + t.deep ≤ 2097152 → TreeAt w0 g o t → Below w0.heap.size w0 W → J pre W → pre.length + t.count ≤ N →
    CallsIn F n Tryd.prog 79 #[.pointer (some ⟨g, o, none⟩), .int .i64 (d : Int), .func (.yield l) #[] #[]] W fun e W' =>
      (e = .returned (.bool true) ∧ (∃ q : List (Nd w0), q.map Nd.dat = t.pre d ∧ J (pre ++ q) W') ∧ Below w0.heap.size w0 W') ∨
      (e = .returned (.bool false) ∧ ∃ q : List (Nd w0), q.map Nd.dat <+: t.pre d ∧ Jx (pre ++ q) W')
theorem room_none {F : Fence} (hd : F.depth = none) (k : Nat) : F.room k := fun d h => by rw [hd] at h; cases h
theorem RoundIn.any {F : Fence} (hd : F.depth = none) {m m' : Nat} {P : Program} {l : Nat} {f : FuncId} {tmps : Array Value} {assign body : Go.Code} {w : World} {R : Ending → World → Prop}
    (h : RoundIn F m P l f tmps assign body w R) : RoundIn F m' P l f tmps assign body w R := ⟨h.1, fun c cs _ => h.2 c cs (room_none hd _)⟩
theorem YieldAt.any {F : Fence} (hd : F.depth = none) {m : Nat} (m' : Nat) {P : Program} {l : Nat} {args : Array Value} {W : World} {R : Ending → World → Prop} (h : YieldAt F m P l args W R) : YieldAt F m' P l args W R := by
  obtain ⟨fn, tmps, assign, body, hy, hR⟩ := h
  exact ⟨fn, tmps, assign, body, hy, RoundIn.any hd hR⟩

set_option maxRecDepth 100000 in
set_option maxHeartbeats 2000000 in
theorem visit_tree (F : Fence) (hd : F.depth = none) (hF : F.fn 79) (hro : F.round = none) (l : Nat) (w0 : World) (N : Nat) (J Jx : List (Nd w0) → World → Prop)
    (hY : ∀ m pre x W, J pre W → pre.length < N → YieldAt F m Tryd.prog l (ndV x) W fun e W' =>
      (e = .returned (.bool true) ∧ J (pre ++ [x]) W' ∧ Below w0.heap.size W W') ∨ (e = .returned (.bool false) ∧ Jx (pre ++ [x]) W')) :
    ∀ (M : Nat) (t : Ex.T), t.count ≤ M → VisT F l w0 N J Jx t := by
  intro M
  induction M with
  | zero => intro t h; have := Ex.count_pos t; omega
  | succ M ih =>
    intro t hM n g o d pre W hb hdd ht hW hJ hN
    have hpf : TreeAt w0 g o t ∧ t.bulk ≤ 1048576 ∧ d ≤ 2097152 := ⟨ht, hb, by omega⟩
    obtain ⟨fn, tmps, assign, body, hy, hR⟩ := hY (n - 1) pre ⟨((g, o), (t, d)), hpf⟩ W hJ (by have := Ex.count_pos t; omega)
    dsimp only [ndV] at hy
    have hdk : ∀ k : Nat, (F.depth.isSome = true → 1 ≤ k) := fun k h => by rw [hd] at h; cases h
    refine callsIn_of_wp Tryd.func79 rfl hF ?_ hro
    simp only [Tryd.ntmps79, List.size_toArray, List.length_cons, List.length_nil, Nat.reduceAdd, Nat.reduceSub, Array.replicate_succ, Array.replicate_zero, List.push_toArray, List.append_toArray, List.nil_append, List.cons_append]
    have HI := Lib.hid (fun (x : Ex.T) (hx : x ∈ t.kids) => ih x (by have := kids_count hx; omega))
    have HY := Lib.hid hY
    have HT := Lib.hid ht
    have HN := Lib.hid hN
    have hbe := bulk_eq t
    have hce := count_eq t
    have hde := deep_eq t
    have HP := Lib.hid (Ex.pre_eq t d)
    have HM : Hid (∀ x ∈ t.kids, x.bulk ≤ 1048576 ∧ d + 1 + x.deep ≤ 2097152) := Lib.hid (fun x hx => ⟨by have := Ex.bulks_mem hx; omega, by have := deeps_mem hx; omega⟩)
    have hln : t.kids.length ≤ 1048576 := by omega
    clear ih hY hN hM hbe hde hb
    gi_wp2
    refine hR.mono ?_
    clear hR hy
    rintro e W1 (⟨rfl, hJ1, hk1⟩ | ⟨rfl, hx1⟩)
    · have HW1 := Lib.hid (hW.trans hk1)
      have HJ1 := Lib.hid hJ1
      obtain ⟨⟨c0, c1, c2, c3⟩, v, c4, hkv⟩ := tree_cells (TreeAt.mono (subw_below HW1.out) t ht)
      obtain ⟨v0, c40, hkv0⟩ := (tree_cells ht).2
      have HC4 := Lib.hid (fun wr (hh : Below w0.heap.size w0 wr) => subw_below hh _ _ _ c40)
      obtain rfl : v = v0 := Option.some.inj (c4.symm.trans (HC4.out _ HW1.out))
      have HK := Lib.hid hkv0
      obtain ⟨a, c, rfl⟩ := kids_len hkv
      clear c0 c1 c2 c3 hkv hkv0 c40 hJ hJ1 hW ht hk1
      gi_wp2
      gi_loopw [7, 18] (fun _ i wr => ∃ (k : Nat) (q : List (Nd w0)), i = .int .i64 k ∧ k ≤ t.kids.length ∧ q.map Nd.dat = (t, d) :: Ex.pres (t.kids.take k) (d + 1) ∧ J (pre ++ q) wr ∧ Below w0.heap.size w0 wr) (fun _ i _ => t.kids.length - (intOf i).toNat)
      case atStart => exact ⟨0, _, rfl, Nat.zero_le _, by simp [Ex.pres, Nd.dat], HJ1.out, HW1.out⟩
      case round =>
        clear HJ1 HW1 c4
        obtain ⟨k, q, rfl, hk, hq, hJ, hW⟩ := hrel
        have c4 := HC4.out wr hW
        have HW := Lib.hid hW
        have HJ := Lib.hid hJ
        have HQ := Lib.hid hq
        clear hW hJ hq
        by_cases hlt : k < t.kids.length
        · obtain ⟨g2, o2, rfl, ht2⟩ := kids_at HK.out k hlt
          have hm := HM.out _ (List.getElem_mem hlt)
          have HR := Lib.hid (HI.out t.kids[k] (List.getElem_mem hlt) (n - 1) g2 (o2 + k * 5) (d + 1) (pre ++ q) wr hm.1 (by have := hm.2; omega) ht2 HW.out HJ.out (by
            have h1 := congrArg List.length HQ.out
            rw [List.length_map, List.length_cons, Ex.pres_len] at h1
            have h2 := Ex.counts_take t.kids k hlt
            have h3 := Ex.counts_take_le t.kids (k + 1)
            have h4 := HN.out
            rw [List.length_append]; omega))
          have HT2 := Lib.hid (Ex.pres_take t.kids k hlt (d + 1))
          have HT3 := Lib.hid (fun q hq => Ex.pres_pref t.kids k hlt (d + 1) q hq)
          rw [show ((d + 1 : Nat) : Int) = (d : Int) + 1 by omega] at HR
          have e1 : IntKind.i64.wrap ((d : Int) + 1) = (d : Int) + 1 := IntWalk.i64_in _ (by omega)
          have k0 : (0 : Int) ≤ k := by omega
          have k1 : (k : Int) < t.kids.length := by omega
          clear ht2 hm HJ
          generalize t.kids[k] = x at HR HT2 HT3
          gi_wp2
          refine HR.out.mono ?_
          clear HR
          rintro e W2 (⟨rfl, ⟨q2, hq2, hJ2⟩, hW2⟩ | ⟨rfl, q2, hq2, hx2⟩)
          · have HJ2 := Lib.hid hJ2
            have HW2 := Lib.hid hW2
            have HQ2 := Lib.hid hq2
            clear hJ2 hW2 hq2
            gi_wp2
            go_roundw
            case rel => exact ⟨k + 1, q ++ q2, by go_num, by omega, by rw [List.map_append, HQ.out, HQ2.out, HT2.out]; simp, by rw [← List.append_assoc]; exact HJ2.out, HW2.out⟩
            case measure => first | (simp [intOf]; done) | (simp [intOf]; omega)
          · have HX2 := Lib.hid hx2
            have HQ2 := Lib.hid hq2
            clear hx2 hq2
            gi_wp2
            go_ret
            refine .inr ⟨rfl, q ++ q2, ?_, by rw [← List.append_assoc]; exact HX2.out⟩
            rw [List.map_append, HQ.out, HP.out, List.cons_append]
            obtain ⟨r, hr⟩ := HT3.out _ HQ2.out
            exact ⟨r, by rw [List.cons_append, hr]⟩
        · obtain rfl : k = t.kids.length := by omega
          gi_wp2
          go_ret
          refine .inl ⟨rfl, ⟨q, ?_, HJ.out⟩, HW.out⟩
          rw [HP.out, HQ.out, List.take_length]
    · gi_wp2
      go_ret
      refine .inr ⟨rfl, _, ?_, hx1⟩
      rw [HP.out]
      exact ⟨Ex.pres t.kids (d + 1), by simp [Nd.dat]⟩
end Go.Proofs.YtkhcbahbffjnkaaDoor
