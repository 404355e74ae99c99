/- Joined texts: N21, G7, N2, N22, N23, N24, N3, N25, W1, W2, W6, W8, N29, H2, H3. No conditions besides those that each states. -/
import Derived.Lib.SliceRun
import Derived.IntWalk
import Derived.RangeFuncNested
import Derived.RangeFuncBound
import Derived.RangeFuncCalls
import Derived.RangeFuncLeaves
import Derived.Shelf.Abstract
import Derived.Shelf.RegionOpen
import Derived.WalkKit
import Derived.OwnWalkIn
import Derived.TacticsInMore
import Derived.LoopNIn
import Derived.LoopIn
import Derived.OneCell
import Derived.Test.YtbadepiakkhabaaDoorProg
import Derived.ProofKit
import Derived.WalkLawsBesides
import Derived.WalkSpells
import Derived.Lib.Hide
import Derived.Laws.BytesArg
import Derived.Deep.QuietTactic
import Derived.BigQuiet
import Derived.Deep.RegionHeld3
import Derived.Test.YtbadepiakkhabaaDoorZ1
import Derived.Test.YtbadepiakkhabaaDoorZ3
/- slices.Clone of a list of kids. No conditions. -/
namespace Go.Proofs.YtbadepiakkhabaaDoor
open Go.RowKit
set_option linter.unusedVariables false

/-- A list of kids whose trees' cells are known; their own lists lie elsewhere. -/
def ShalK (B : Nat) (w : World) (v : Value) (l : List El) : Prop := (l = [] ∧ ∃ a c, v = .slice a 0 c) ∨ (l ≠ [] ∧ ∃ g c, v = .slice (some ⟨g, 0, none⟩) l.length c ∧ B ≤ g ∧ RowE w g l.length c (rowV l))
theorem rowE_base {w : World} {B g n cap : Nat} {xs : List Value} (h : w.ownsRow B 105 5 (.slice (some ⟨g, 0, none⟩) n cap) n xs) : RowE w g n cap xs := by
  refine ⟨h.1, ?_⟩
  rcases h.2 with hn | ⟨g2, cap2, cur, hv, hg, r⟩
  · exact .inl hn
  · exact .inr ⟨g2, cap2, cur, hv, Nat.zero_le _, r⟩
theorem rowCells_get {w : World} {g o : Nat} {l : List El} (h : RowCells w g o l) (j : Nat) (u : Value) (hj : (rowV l)[j]? = some u) : w.cell? ((⟨g, o, none⟩ : Addr).add j) = some u := by
  have hlt : j < l.length * 5 := by
    rw [← rowV_len]
    exact (List.getElem?_eq_some_iff.1 hj).1
  have e : (⟨g, o, none⟩ : Addr).add j = ⟨g, o + j, none⟩ := by unfold Addr.add; split <;> simp_all
  rw [e, h j hlt, hj]
theorem RowCells.later {w w' : World} {g o : Nat} {l : List El} (h : RowCells w g o l) (hb : Below w.heap.size w w') : RowCells w' g o l := fun j hj => by
  have h1 := h j hj
  rw [List.getElem?_eq_getElem (by rw [rowV_len]; exact hj)] at h1 ⊢
  exact subw_below hb _ _ _ h1
theorem own_zero {w : World} {B : Nat} {v : Value} (h : w.ownsRow B 105 5 v 0 []) : ∃ a c, v = .slice a 0 c := by
  rcases h.2 with ⟨rfl, _⟩ | ⟨g, cap, cur, rfl, _⟩
  · exact ⟨_, _, rfl⟩
  · exact ⟨_, _, rfl⟩
theorem own_some {w : World} {B n : Nat} {v : Value} {xs : List Value} (hn : n ≠ 0) (h : w.ownsRow B 105 5 v n xs) : ∃ g c, v = .slice (some ⟨g, 0, none⟩) n c ∧ B ≤ g ∧ RowE w g n c xs := by
  have h2 := h
  rcases h.2 with ⟨_, hz⟩ | ⟨g, cap, cur, rfl, hg, _⟩
  · exact absurd hz hn
  · exact ⟨g, cap, rfl, hg, rowE_base h2⟩
end Go.Proofs.YtbadepiakkhabaaDoor
/- Numbers of nodes and depths in the reference model. No conditions. -/
namespace Go.Proofs.YtbadepiakkhabaaDoor
open Go.RowKit
set_option linter.unusedVariables false

theorem count_eq (t : Ex.T) : t.count = 1 + Ex.counts t.kids := by cases t; rw [Ex.T.count]; rfl
theorem deep_eq (t : Ex.T) : t.deep = Ex.deeps t.kids + 1 := by cases t; rw [Ex.T.deep]; rfl
theorem small_count {t : Ex.T} (h : t.bulk ≤ 1048576) : t.count ≤ 1048577 := by have := Ex.count_bulk _ t (Nat.le_refl _); omega
theorem small_deep {t : Ex.T} (h : t.bulk ≤ 1048576) : t.deep ≤ 1048577 := by have h1 := Ex.deep_count _ t (Nat.le_refl _); have := small_count h; omega
/-- Where a count stands. -/
def CntAt (ks : List Ex.T) (k m : Nat) : Prop := m = 1 + Ex.counts (ks.take k)
theorem CntAt.next {ks : List Ex.T} {k m : Nat} (h : CntAt ks k m) (hk : k < ks.length) : CntAt ks (k + 1) (m + ks[k].count) := by
  unfold CntAt at h ⊢
  rw [Ex.counts_take ks k hk]; omega
theorem CntAt.le {ks : List Ex.T} {k m : Nat} (h : CntAt ks k m) : m ≤ 1 + Ex.counts ks := by
  unfold CntAt at h
  have := Ex.counts_take_le ks k; omega
theorem CntAt.over {ks : List Ex.T} {m : Nat} (h : CntAt ks ks.length m) : m = 1 + Ex.counts ks := by
  unfold CntAt at h
  rw [List.take_length] at h; exact h
/-- Where a depth stands. -/
def DepAt (ks : List Ex.T) (k m : Nat) : Prop := m = Ex.deeps (ks.take k)
theorem DepAt.next {ks : List Ex.T} {k m : Nat} (h : DepAt ks k m) (hk : k < ks.length) : DepAt ks (k + 1) (max m ks[k].deep) := by
  unfold DepAt at h ⊢
  rw [Ex.deeps_take ks k hk, h]
theorem deeps_take_le (l : List Ex.T) (k : Nat) : Ex.deeps (l.take k) ≤ Ex.deeps l := by
  induction l generalizing k with
  | nil => simp [Ex.deeps]
  | cons y l ih =>
    cases k with
    | zero => simp [Ex.deeps]
    | succ k => rw [List.take_succ_cons, Ex.deeps, Ex.deeps]; have := ih k; omega
theorem DepAt.le {ks : List Ex.T} {k m : Nat} (h : DepAt ks k m) : m ≤ Ex.deeps ks := by
  unfold DepAt at h
  have := deeps_take_le ks k; omega
theorem DepAt.over {ks : List Ex.T} {m : Nat} (h : DepAt ks ks.length m) : m = Ex.deeps ks := by
  unfold DepAt at h
  rw [List.take_length] at h; exact h
end Go.Proofs.YtbadepiakkhabaaDoor
/- The nodes of a tree, each before its kids, with their depths; what the program's walk of a tree hands to a round. No conditions. -/
namespace Go.Proofs.YtbadepiakkhabaaDoor
open Go.RowKit Go.Shelf
set_option linter.unusedVariables false
attribute [local go_sem] Oper.semAt_some

mutual
/-- The nodes of a tree, each before its kids, with their depths. -/
def Ex.T.pre : Ex.T → Nat → List (Ex.T × Nat)
  | .node k t n l ks, d => (.node k t n l ks, d) :: Ex.pres ks (d + 1)
def Ex.pres : List Ex.T → Nat → List (Ex.T × Nat)
  | [], _ => []
  | x :: r, d => x.pre d ++ Ex.pres r d
end
theorem Ex.pre_eq (t : Ex.T) (d : Nat) : t.pre d = (t, d) :: Ex.pres t.kids (d + 1) := by cases t; rw [Ex.T.pre]; rfl
theorem Ex.pres_app (a b : List Ex.T) (d : Nat) : Ex.pres (a ++ b) d = Ex.pres a d ++ Ex.pres b d := by
  induction a with
  | nil => simp [Ex.pres]
  | cons x r ih => simp [Ex.pres, ih]
theorem Ex.pres_take (l : List Ex.T) (k : Nat) (h : k < l.length) (d : Nat) : Ex.pres (l.take (k + 1)) d = Ex.pres (l.take k) d ++ l[k].pre d := by
  rw [List.take_succ_eq_append_getElem h, Ex.pres_app]
  simp [Ex.pres]
mutual
theorem Ex.pre_len : ∀ (t : Ex.T) (d : Nat), (t.pre d).length = t.count
  | .node k t n l ks, d => by rw [Ex.T.pre, Ex.T.count, List.length_cons, Ex.pres_len ks]; omega
theorem Ex.pres_len : ∀ (l : List Ex.T) (d : Nat), (Ex.pres l d).length = Ex.counts l
  | [], d => by simp [Ex.pres, Ex.counts]
  | x :: r, d => by rw [Ex.pres, Ex.counts, List.length_append, Ex.pre_len x, Ex.pres_len r]
end
theorem deeps_mem : ∀ {l : List Ex.T} {x : Ex.T}, x ∈ l → x.deep ≤ Ex.deeps l := by
  intro l
  induction l with
  | nil => intro x h; cases h
  | cons y l ih =>
    intro x h
    rw [Ex.deeps]
    rcases List.mem_cons.1 h with rfl | h
    · omega
    · have := ih h; omega
theorem Ex.pres_pref (l : List Ex.T) (k : Nat) (h : k < l.length) (d : Nat) (q : List (Ex.T × Nat)) (hq : q <+: l[k].pre d) : Ex.pres (l.take k) d ++ q <+: Ex.pres l d := by
  have e : l = l.take k ++ (l[k] :: l.drop (k + 1)) := by rw [← List.drop_eq_getElem_cons h, List.take_append_drop]
  obtain ⟨r, hr⟩ := hq
  refine ⟨r ++ Ex.pres (l.drop (k + 1)) d, ?_⟩
  conv => rhs; rw [e]
  rw [Ex.pres_app, Ex.pres, ← hr]
  simp
/-- A node in memory, as a round is handed it: its place, its tree, its depth. -/
abbrev Nd (w0 : World) := { x : (Nat × Nat) × (Ex.T × Nat) // TreeAt w0 x.1.1 x.1.2 x.2.1 ∧ x.2.1.bulk ≤ 1048576 ∧ x.2.2 ≤ 2097152 }
def Nd.dat {w0 : World} (x : Nd w0) : Ex.T × Nat := x.1.2
abbrev ndV {w0 : World} (x : Nd w0) : Array Value := #[.pointer (some ⟨x.1.1.1, x.1.1.2, none⟩), .int .i64 (x.1.2.2 : Int)]
def VisT (F : Fence) (l : Nat) (w0 : World) (N : Nat) (J Jx : List (Nd w0) → World → Prop) (t : Ex.T) : Prop :=
  ∀ (n g o d : Nat) (pre : List (Nd w0)) (W : World), t.bulk ≤ 1048576 → d + t.deep ≤ 2097152 → TreeAt w0 g o t → Below w0.heap.size w0 W → J pre W → pre.length + t.count ≤ N →
    CallsIn F n Tryd.prog 116 #[.pointer (some ⟨g, o, none⟩), .int .i64 (d : Int), .func (.yield l) #[] #[]] W fun e W' =>
      (e = .returned (.bool true) ∧ (∃ q : List (Nd w0), q.map Nd.dat = t.pre d ∧ J (pre ++ q) W') ∧ Below w0.heap.size w0 W') ∨
      (e = .returned (.bool false) ∧ ∃ q : List (Nd w0), q.map Nd.dat <+: t.pre d ∧ Jx (pre ++ q) W')
theorem room_none {F : Fence} (hd : F.depth = none) (k : Nat) : F.room k := fun d h => by rw [hd] at h; cases h
theorem RoundIn.any {F : Fence} (hd : F.depth = none) {m m' : Nat} {P : Program} {l : Nat} {f : FuncId} {tmps : Array Value} {assign body : Go.Code} {w : World} {R : Ending → World → Prop}
    (h : RoundIn F m P l f tmps assign body w R) : RoundIn F m' P l f tmps assign body w R := ⟨h.1, fun c cs _ => h.2 c cs (room_none hd _)⟩
theorem YieldAt.any {F : Fence} (hd : F.depth = none) {m : Nat} (m' : Nat) {P : Program} {l : Nat} {args : Array Value} {W : World} {R : Ending → World → Prop} (h : YieldAt F m P l args W R) : YieldAt F m' P l args W R := by
  obtain ⟨fn, tmps, assign, body, hy, hR⟩ := h
  exact ⟨fn, tmps, assign, body, hy, RoundIn.any hd hR⟩

set_option maxRecDepth 100000 in
set_option maxHeartbeats 2000000 in
theorem visit_tree (F : Fence) (hd : F.depth = none) (hF : F.fn 116) (hro : F.round = none) (l : Nat) (w0 : World) (N : Nat) (J Jx : List (Nd w0) → World → Prop)
    (hY : ∀ m pre x W, J pre W → pre.length < N → YieldAt F m Tryd.prog l (ndV x) W fun e W' =>
      (e = .returned (.bool true) ∧ J (pre ++ [x]) W' ∧ Below w0.heap.size W W') ∨ (e = .returned (.bool false) ∧ Jx (pre ++ [x]) W')) :
    ∀ (M : Nat) (t : Ex.T), t.count ≤ M → VisT F l w0 N J Jx t := by
  intro M
  induction M with
  | zero => intro t h; have := Ex.count_pos t; omega
  | succ M ih =>
    intro t hM n g o d pre W hb hdd ht hW hJ hN
    have hpf : TreeAt w0 g o t ∧ t.bulk ≤ 1048576 ∧ d ≤ 2097152 := ⟨ht, hb, by omega⟩
    obtain ⟨fn, tmps, assign, body, hy, hR⟩ := hY (n - 1) pre ⟨((g, o), (t, d)), hpf⟩ W hJ (by have := Ex.count_pos t; omega)
    dsimp only [ndV] at hy
    have hdk : ∀ k : Nat, (F.depth.isSome = true → 1 ≤ k) := fun k h => by rw [hd] at h; cases h
    refine callsIn_of_wp Tryd.func116 rfl hF ?_ hro
    simp only [Tryd.ntmps116, List.size_toArray, List.length_cons, List.length_nil, Nat.reduceAdd, Nat.reduceSub, Array.replicate_succ, Array.replicate_zero, List.push_toArray, List.append_toArray, List.nil_append, List.cons_append]
    have HI := Lib.hid (fun (x : Ex.T) (hx : x ∈ t.kids) => ih x (by have := kids_count hx; omega))
    have HY := Lib.hid hY
    have HT := Lib.hid ht
    have HN := Lib.hid hN
    have hbe := bulk_eq t
    have hce := count_eq t
    have hde := deep_eq t
    have HP := Lib.hid (Ex.pre_eq t d)
    have HM : Hid (∀ x ∈ t.kids, x.bulk ≤ 1048576 ∧ d + 1 + x.deep ≤ 2097152) := Lib.hid (fun x hx => ⟨by have := Ex.bulks_mem hx; omega, by have := deeps_mem hx; omega⟩)
    have hln : t.kids.length ≤ 1048576 := by omega
    clear ih hY hN hM hbe hde hb
    gi_wp2
    refine hR.mono ?_
    clear hR hy
    rintro e W1 (⟨rfl, hJ1, hk1⟩ | ⟨rfl, hx1⟩)
    · have HW1 := Lib.hid (hW.trans hk1)
      have HJ1 := Lib.hid hJ1
      obtain ⟨⟨c0, c1, c2, c3⟩, v, c4, hkv⟩ := tree_cells (TreeAt.mono (subw_below HW1.out) t ht)
      obtain ⟨v0, c40, hkv0⟩ := (tree_cells ht).2
      have HC4 := Lib.hid (fun wr (hh : Below w0.heap.size w0 wr) => subw_below hh _ _ _ c40)
      obtain rfl : v = v0 := Option.some.inj (c4.symm.trans (HC4.out _ HW1.out))
      have HK := Lib.hid hkv0
      obtain ⟨a, c, rfl⟩ := kids_len hkv
      clear c0 c1 c2 c3 hkv hkv0 c40 hJ hJ1 hW ht hk1
      gi_wp2
      gi_loopw [7, 18] (fun _ i wr => ∃ (k : Nat) (q : List (Nd w0)), i = .int .i64 k ∧ k ≤ t.kids.length ∧ q.map Nd.dat = (t, d) :: Ex.pres (t.kids.take k) (d + 1) ∧ J (pre ++ q) wr ∧ Below w0.heap.size w0 wr) (fun _ i _ => t.kids.length - (intOf i).toNat)
      case atStart => exact ⟨0, _, rfl, Nat.zero_le _, by simp [Ex.pres, Nd.dat], HJ1.out, HW1.out⟩
      case round =>
        clear HJ1 HW1 c4
        obtain ⟨k, q, rfl, hk, hq, hJ, hW⟩ := hrel
        have c4 := HC4.out wr hW
        have HW := Lib.hid hW
        have HJ := Lib.hid hJ
        have HQ := Lib.hid hq
        clear hW hJ hq
        by_cases hlt : k < t.kids.length
        · obtain ⟨g2, o2, rfl, ht2⟩ := kids_at HK.out k hlt
          have hm := HM.out _ (List.getElem_mem hlt)
          have HR := Lib.hid (HI.out t.kids[k] (List.getElem_mem hlt) (n - 1) g2 (o2 + k * 5) (d + 1) (pre ++ q) wr hm.1 (by have := hm.2; omega) ht2 HW.out HJ.out (by
            have h1 := congrArg List.length HQ.out
            rw [List.length_map, List.length_cons, Ex.pres_len] at h1
            have h2 := Ex.counts_take t.kids k hlt
            have h3 := Ex.counts_take_le t.kids (k + 1)
            have h4 := HN.out
            rw [List.length_append]; omega))
          have HT2 := Lib.hid (Ex.pres_take t.kids k hlt (d + 1))
          have HT3 := Lib.hid (fun q hq => Ex.pres_pref t.kids k hlt (d + 1) q hq)
          rw [show ((d + 1 : Nat) : Int) = (d : Int) + 1 by omega] at HR
          have e1 : IntKind.i64.wrap ((d : Int) + 1) = (d : Int) + 1 := IntWalk.i64_in _ (by omega)
          have k0 : (0 : Int) ≤ k := by omega
          have k1 : (k : Int) < t.kids.length := by omega
          clear ht2 hm HJ
          generalize t.kids[k] = x at HR HT2 HT3
          gi_wp2
          refine HR.out.mono ?_
          clear HR
          rintro e W2 (⟨rfl, ⟨q2, hq2, hJ2⟩, hW2⟩ | ⟨rfl, q2, hq2, hx2⟩)
          · have HJ2 := Lib.hid hJ2
            have HW2 := Lib.hid hW2
            have HQ2 := Lib.hid hq2
            clear hJ2 hW2 hq2
            gi_wp2
            go_roundw
            case rel => exact ⟨k + 1, q ++ q2, by go_num, by omega, by rw [List.map_append, HQ.out, HQ2.out, HT2.out]; simp, by rw [← List.append_assoc]; exact HJ2.out, HW2.out⟩
            case measure => first | (simp [intOf]; done) | (simp [intOf]; omega)
          · have HX2 := Lib.hid hx2
            have HQ2 := Lib.hid hq2
            clear hx2 hq2
            gi_wp2
            go_ret
            refine .inr ⟨rfl, q ++ q2, ?_, by rw [← List.append_assoc]; exact HX2.out⟩
            rw [List.map_append, HQ.out, HP.out, List.cons_append]
            obtain ⟨r, hr⟩ := HT3.out _ HQ2.out
            exact ⟨r, by rw [List.cons_append, hr]⟩
        · obtain rfl : k = t.kids.length := by omega
          gi_wp2
          go_ret
          refine .inl ⟨rfl, ⟨q, ?_, HJ.out⟩, HW.out⟩
          rw [HP.out, HQ.out, List.take_length]
    · gi_wp2
      go_ret
      refine .inr ⟨rfl, _, ?_, hx1⟩
      rw [HP.out]
      exact ⟨Ex.pres t.kids (d + 1), by simp [Nd.dat]⟩
end Go.Proofs.YtbadepiakkhabaaDoor
/- A range over a function whose body never leaves, its rounds told by one relation. No conditions. -/
namespace Go.Proofs.YtbadepiakkhabaaDoor
open Go.RowKit Go.Shelf
set_option linter.unusedVariables false

variable {F : Fence} {n : Nat} {P : Program}
end Go.Proofs.YtbadepiakkhabaaDoor
/- The program's walk of a tree that erases lines: each node is turned, its list anew. No conditions. -/
namespace Go.Proofs.YtbadepiakkhabaaDoor
open Go.RowKit Go.Shelf
set_option linter.unusedVariables false
attribute [local go_sem] Oper.semAt_some

/-- Nothing that lay is turned but block g. -/
def Oth (g : Nat) (W W' : World) : Prop := Below 0 W W' ∧ ∀ b, b ≠ g → b < W.heap.size → W'.heap[b]? = W.heap[b]?
theorem Oth.refl (g : Nat) (W : World) : Oth g W W := ⟨Below.refl _ _, fun _ _ _ => rfl⟩
theorem Oth.size {g : Nat} {W W' : World} (h : Oth g W W') : W.heap.size ≤ W'.heap.size := h.1.size
theorem Oth.trans {g : Nat} {A B C : World} (h : Oth g A B) (k : Oth g B C) : Oth g A C := ⟨h.1.trans k.1, fun b h1 h2 => (k.2 b h1 (Nat.lt_of_lt_of_le h2 h.size)).trans (h.2 b h1 h2)⟩
theorem Oth.later {g : Nat} {A B C : World} (h : Oth g A B) (k : Below B.heap.size B C) : Oth g A C :=
  ⟨h.1.trans (k.mono (Nat.zero_le _)), fun b h1 h2 => (k.block b (Nat.lt_of_lt_of_le h2 h.size)).trans (h.2 b h1 h2)⟩
theorem Oth.set {g : Nat} {A B : World} (h : Oth g A B) (o : Nat) (v : Value) : Oth g A (B.setCell ⟨g, o, none⟩ v) :=
  ⟨h.1.setCell (p := ⟨g, o, none⟩) (Nat.zero_le _) v, fun b h1 h2 => (Below.heap_setCell B ⟨g, o, none⟩ v b h1).trans (h.2 b h1 h2)⟩
/-- What lay below, and a new block turned: nothing that lay is turned. -/
theorem Oth.new {g g2 : Nat} {A B C : World} (h : Oth g A B) (k : Oth g2 B C) (hg : A.heap.size ≤ g2) : Oth g A C :=
  ⟨h.1.trans k.1, fun b h1 h2 => (k.2 b (by omega) (Nat.lt_of_lt_of_le h2 h.size)).trans (h.2 b h1 h2)⟩
theorem Oth.below {g m : Nat} {A B : World} (h : Oth g A B) (hm : m ≤ g) (hs : m ≤ A.heap.size) : Below m A B := ⟨h.1.os, h.1.tape, h.1.output, h.1.size, fun b hb => h.2 b (by omega) (by omega)⟩
theorem Oth.put {g L : Nat} {W W3 : World} {o o' : Obj} (hl : W.heap[L]? = some o) (h : Oth g (W.putObj L o') W3) : Oth g W (W3.putObj L o) := by
  have hlt : L < W.heap.size := (Array.getElem?_eq_some_iff.1 hl).1
  have hs := h.1.size
  rw [World.putObj_size] at hs
  refine ⟨⟨h.1.os, h.1.tape, h.1.output, by rw [World.putObj_size]; exact hs, fun b hb => by omega⟩, fun b h1 h2 => ?_⟩
  by_cases hb : b = L
  · subst hb
    rw [World.putObj_heap_same (by omega), hl]
  · rw [World.putObj_heap_other hb, h.2 b h1 (by rw [World.putObj_size]; exact h2), World.putObj_heap_other hb]
theorem ShalK.keep {B : Nat} {w w' : World} {v : Value} {l : List El} (h : ShalK B w v l) (hb : ∀ b, B ≤ b → w'.heap[b]? = w.heap[b]?) : ShalK B w' v l := by
  rcases h with h | ⟨h0, g, c, e, hg, hr⟩
  · exact .inl h
  · exact .inr ⟨h0, g, c, e, hg, hr.keep (hb g hg)⟩
/-- What the walk leaves of a node in a row. -/
def EraseAt (g i cap : Nat) (l : List El) (t : Ex.T) (W W' : World) : Prop := ∃ v F, RowE W' g l.length cap (rowV (l.set i (t.erase, v, F))) ∧ Oth g W W' ∧ OwnK W' v (Ex.erases t.kids) F ∧ Foot W.heap.size W' F
/-- Where the walk of a list stands. -/
def ErasD (lk : List El) (g c : Nat) (W1 : World) (k : Nat) (wr : World) (ld : List El) : Prop := ld.length = k ∧ RowE wr g lk.length c (rowV (ld ++ lk.drop k)) ∧ ld.map Prod.fst = (lk.take k).map (fun p => p.1.erase) ∧ Els wr ld ∧ Foot W1.heap.size wr (elsF ld) ∧ Oth g W1 wr
def ErasL (lk : List El) (g c : Nat) (W1 : World) (k : Nat) (wr : World) : Prop := ∃ ld : List El, ErasD lk g c W1 k wr ld
theorem ErasD.len {lk : List El} {g c : Nat} {W1 wr : World} {k : Nat} {ld : List El} (h : ErasD lk g c W1 k wr ld) (hk : k ≤ lk.length) : (ld ++ lk.drop k).length = lk.length := by
  have h1 := h.1
  rw [List.length_append, List.length_drop]; omega
theorem ErasD.row {lk : List El} {g c : Nat} {W1 wr : World} {k : Nat} {ld : List El} (h : ErasD lk g c W1 k wr ld) (hk : k ≤ lk.length) : RowE wr g (ld ++ lk.drop k).length c (rowV (ld ++ lk.drop k)) := by
  rw [h.len hk]; exact h.2.1
theorem ErasD.at {lk : List El} {g c : Nat} {W1 wr : World} {k : Nat} {ld : List El} (h : ErasD lk g c W1 k wr ld) (hk : k < lk.length) : (ld ++ lk.drop k)[k]? = some lk[k] := by
  rw [List.getElem?_append_right (by have := h.1; omega), h.1, Nat.sub_self, List.drop_eq_getElem_cons hk]; rfl
theorem ErasL.start {lk : List El} {g c : Nat} {W1 : World} (h : RowE W1 g lk.length c (rowV lk)) : ErasL lk g c W1 0 W1 :=
  ⟨[], rfl, by simpa using h, by simp, Els.nil _, (fun b hb => by cases hb), Oth.refl _ _⟩
theorem ErasD.next {lk : List El} {g c : Nat} {W1 wr W2 : World} {k : Nat} {ld : List El} (h : ErasD lk g c W1 k wr ld) (hg : g < W1.heap.size) (hk : k < lk.length) (hn : EraseAt g k c (ld ++ lk.drop k) lk[k].1 wr W2) : ErasL lk g c W1 (k + 1) W2 := by
  obtain ⟨h1, h2, h3, h4, h5, h6⟩ := h
  obtain ⟨v, F, r1, r2, r3, r4⟩ := hn
  have hlen : (ld ++ lk.drop k).length = lk.length := by rw [List.length_append, List.length_drop]; omega
  have e : (ld ++ lk.drop k).set k (lk[k].1.erase, v, F) = (ld ++ [(lk[k].1.erase, v, F)]) ++ lk.drop (k + 1) := by
    rw [List.set_append_right _ _ (by omega), h1, Nat.sub_self, List.drop_eq_getElem_cons hk, List.append_assoc]
    rfl
  rw [e, hlen] at r1
  have hs := h6.size
  refine ⟨ld ++ [(lk[k].1.erase, v, F)], by simp [h1], r1, ?_, ?_, ?_, h6.trans r2⟩
  · rw [List.map_append, h3, List.take_succ_eq_append_getElem hk, List.map_append]; rfl
  · refine (h4.keep fun b hb => ?_).snoc (p := (lk[k].1.erase, v, F)) ?_ fun b hb hb2 => ?_
    · have := h5 b hb
      exact r2.2 b (by omega) (by omega)
    · show OwnK W2 v (lk[k].1.erase).kids F
      rw [Ex.erase_kids]; exact r3
    · have h7 := h5 b hb
      have h8 := r4 b hb2
      omega
  · intro b hb
    rw [elsF_snoc] at hb
    have := r2.size
    rcases List.mem_append.1 hb with hb | hb
    · have := h5 b hb; omega
    · have := r4 b hb; omega
theorem ErasL.done {lk : List El} {g c : Nat} {W1 wr : World} (h : ErasL lk g c W1 lk.length wr) (hg : g < W1.heap.size) : ∃ F, OwnK wr (.slice (some ⟨g, 0, none⟩) lk.length c) (Ex.erases (lk.map Prod.fst)) F ∧ Oth g W1 wr ∧ ∀ b ∈ F, (b = g ∨ W1.heap.size ≤ b) ∧ b < wr.heap.size := by
  obtain ⟨ld, h1, h2, h3, h4, h5, h6⟩ := h
  rw [List.drop_length, List.append_nil] at h2
  rw [List.take_length] at h3
  have e : Ex.erases (lk.map Prod.fst) = ld.map Prod.fst := by rw [Ex.erases_map, h3, List.map_map]; rfl
  have hr : RowE wr g ld.length c (rowV ld) := by rw [h1]; exact h2
  have hK := ownK_els hr h4 (fun hm => by have := (h5 g hm).1; omega)
  rw [h1] at hK
  rw [e]
  refine ⟨_, hK, h6, fun b hb => ?_⟩
  have hs := h6.size
  split at hb
  · cases hb
  · rcases List.mem_cons.1 hb with rfl | hb
    · exact ⟨.inl rfl, by omega⟩
    · have := h5 b hb; exact ⟨.inr this.1, this.2⟩
end Go.Proofs.YtbadepiakkhabaaDoor
/- The program's walk of a tree that erases lines: every tree. No conditions. -/
namespace Go.Proofs.YtbadepiakkhabaaDoor
open Go.RowKit Go.Shelf
set_option linter.unusedVariables false
attribute [local go_sem] Oper.semAt_some

end Go.Proofs.YtbadepiakkhabaaDoor
/- The program's iterator over the nodes of a tree; its numbers of nodes and depths. No conditions. -/
namespace Go.Proofs.YtbadepiakkhabaaDoor
open Go.RowKit Go.Shelf
set_option linter.unusedVariables false
attribute [local go_sem] Oper.semAt_some

theorem nodes_of (F : Fence) (n : Nat) (hF : F.fn 84) (hro : F.round = none) (p : Option Addr) (w : World) :
    CallsIn F n Tryd.prog 84 #[.pointer p] w fun e w' => e = .returned (.func (.func 115) #[] #[.pointer (some ⟨w.heap.size, 0, none⟩)]) ∧ w' = w.alloc (.cells #[.pointer p] 155) := by
  refine callsIn_of_wp Tryd.func84 rfl hF ?_ hro
  simp only [Tryd.ntmps84, List.size_toArray, List.length_cons, List.length_nil, Nat.reduceAdd, Nat.reduceSub, Array.replicate_succ, Array.replicate_zero, List.push_toArray, List.append_toArray, List.nil_append, List.cons_append]
  gi_wp2
  go_ret
  exact ⟨rfl, rfl⟩
set_option maxHeartbeats 1000000 in
theorem nodes_stop (F : Fence) (hd : F.depth = none) (n : Nat) (h1 : F.fn 115) (h2 : F.fn 116) (hro : F.round = none) (w0 : World) (g o Bt : Nat) (t : Ex.T) (w : World) (hBt : Bt < w.heap.size) (hw : Below w0.heap.size w0 w)
    (hc : w.cell? ⟨Bt, 0, none⟩ = some (.pointer (some ⟨g, o, none⟩))) (ht : TreeAt w0 g o t) (hb : t.bulk ≤ 1048576) :
    SeqStopsK F n Tryd.prog 115 #[.pointer (some ⟨Bt, 0, none⟩)] (fun x : Nd w0 => ndV x) (Below w0.heap.size) (fun ys => ys.map Nd.dat = t.pre 1) (fun pre => pre.map Nd.dat <+: t.pre 1) t.count w := by
  intro l J Jx W hW _ _ hY h0
  have hdk : ∀ k : Nat, (F.depth.isSome = true → 1 ≤ k) := fun k h => by rw [hd] at h; cases h
  have hds := small_deep hb
  have hp := visit_tree F hd h2 hro l w0 t.count J Jx (fun m pre x W hj hl => YieldAt.any hd m (hY pre x W hj hl)) t.count t (Nat.le_refl _) (n - 1) g o 1 [] W hb (by omega) ht (hw.trans (hW.mono hw.size)) h0 (by simp)
  have hc2 := (hW.cell (p := ⟨Bt, 0, none⟩) hBt).trans hc
  refine callsIn_of_wp Tryd.func115 rfl h1 ?_ hro
  simp only [Tryd.ntmps115, List.size_toArray, List.length_cons, List.length_nil, Nat.reduceAdd, Nat.reduceSub, Array.replicate_succ, Array.replicate_zero, List.push_toArray, List.append_toArray, List.nil_append, List.cons_append]
  clear hY
  gi_wp2
  refine hp.mono ?_
  clear hp
  rintro e W1 (⟨rfl, ⟨q, hq, hJ⟩, _⟩ | ⟨rfl, q, hq, hx⟩)
  · gi_wp2
    go_end0
    exact ⟨⟨_, rfl⟩, .inl ⟨q, hq, hJ⟩⟩
  · gi_wp2
    go_end0
    exact ⟨⟨_, rfl⟩, .inr ⟨q, hq, hx⟩⟩

theorem cell_one (W : World) (v : Value) (t : TypeId) : (W.alloc (.cells #[v] t)).cell? ⟨W.heap.size, 0, none⟩ = some v ∧ (W.alloc (.cells #[v] t)).frozen? ⟨W.heap.size, 0, none⟩ = false :=
  ⟨cell_of_one (World.alloc_heap_new W _), free_of_one (World.alloc_heap_new W _)⟩
theorem cell_alloc {W : World} {a : Addr} {v : Value} (o : Obj) (h : W.cell? a = some v) : (W.alloc o).cell? a = some v := cell_kept h (World.grownBy_alloc W o none) (fun r e => by cases e)
theorem frozen_alloc {W : World} {a : Addr} {v : Value} (o : Obj) (h : W.cell? a = some v) (hf : W.frozen? a = false) : (W.alloc o).frozen? a = false := (frozen_kept h (World.grownBy_alloc W o none) (fun r e => by cases e)).trans hf
/-- A tree that is a variable of the call's own. -/
theorem box_tree {w : World} {t : Ex.T} {v : Value} (hk : Kids w v t.kids) : TreeAt (w.alloc (.cells #[.int .i64 t.kind, .string t.text, .int .i64 t.num, .int .i64 t.line, v] 105)) w.heap.size 0 t := by
  obtain ⟨a0, a1, a2, a3, a4⟩ := CellsE.new w t v 105
  exact tree_of ⟨a0, a1, a2, a3⟩ a4 (hk.later (bl1 _ _))
end Go.Proofs.YtbadepiakkhabaaDoor
/- EraseLines of the program: its body, its end. No conditions. -/
namespace Go.Proofs.YtbadepiakkhabaaDoor
open Go.RowKit Go.Shelf
set_option linter.unusedVariables false
attribute [local go_sem] Oper.semAt_some

theorem ShalK.mono {B B' : Nat} {w : World} {v : Value} {l : List El} (h : ShalK B w v l) (hB : B' ≤ B) : ShalK B' w v l := by
  rcases h with h | ⟨h0, g, c, e, hg, hr⟩
  · exact .inl h
  · exact .inr ⟨h0, g, c, e, Nat.le_trans hB hg, hr⟩
theorem ShalK.set {B g : Nat} {w : World} {v : Value} {l : List El} (h : ShalK B w v l) (hg : g < B) (o : Nat) (u : Value) : ShalK B (w.setCell ⟨g, o, none⟩ u) v l :=
  h.keep fun b hb => Below.heap_setCell w ⟨g, o, none⟩ u b (show b ≠ g by omega)
end Go.Proofs.YtbadepiakkhabaaDoor
/- The reference model's FormatInt returns the decimal form, at every integer. No conditions. -/
namespace Go.Proofs.YtbadepiakkhabaaDoor
open Go.RowKit

end Go.Proofs.YtbadepiakkhabaaDoor
/- The program's FormatInt returns the decimal form, at every integer. No conditions. -/
namespace Go.Proofs.YtbadepiakkhabaaDoor
open Go.RowKit

end Go.Proofs.YtbadepiakkhabaaDoor
/- The reference model's SplitByte returns the parts of a string, in memory of its own. -/
namespace Go.Proofs.YtbadepiakkhabaaDoor
open Go.RowKit
set_option linter.unusedVariables false

theorem info_string : (Tryd.prog.info? 9).map (fun i => (i.zero, i.size, i.bytes)) = some (some (.string ByteArray.empty), 1, 16) := by kernel_rfl

/-- Strings of the call's own: a slice whose elements are l, in a block from base on. -/
def Owns (w : World) (base : Nat) (v : Value) (l : List ByteArray) : Prop := w.ownsRow base 9 1 v l.length (l.map Value.string)

theorem map_snoc (l : List ByteArray) (x : ByteArray) : (l ++ [x]).map Value.string = l.map Value.string ++ [Value.string x] := by simp

theorem owns_app {w1 : World} {base : Nat} {v' : Value} {l : List ByteArray} {x : ByteArray} (h : w1.ownsRow base 9 1 v' (l.length + 1) (l.map Value.string ++ [Value.string x])) : Owns w1 base v' (l ++ [x]) := by
  unfold Owns; rw [map_snoc, List.length_append]; exact h

theorem new_cell (w : World) (x : Value) (t : TypeId) : ∀ (j : Nat) (u : Value), [x][j]? = some u → (w.alloc (.cells #[x] t)).cell? ((⟨w.heap.size, 0, none⟩ : Addr).add j) = some u := by
  intro j u hj
  match j, hj with
  | 0, hj => simp at hj; subst hj; simp [Addr.add]

theorem one_string (x : ByteArray) : ∀ u ∈ [Value.string x], u.oneCell' = true := by
  intro u hu; simp at hu; subst hu; rfl

end Go.Proofs.YtbadepiakkhabaaDoor
/- The laws' own helpers over slices of strings: comparing them, and comparing them again after a draw. No conditions. -/
namespace Go.Proofs.YtbadepiakkhabaaDoor
open Go.RowKit
set_option linter.unusedVariables false

theorem add_lit (g o i : Nat) : (⟨g, o, none⟩ : Addr).add i = ⟨g, o + i, none⟩ := by
  unfold Addr.add; split <;> simp_all

/-- The letters that the laws write into a slice's places. -/
def mark (k : Nat) : ByteArray := ⟨(109 :: Dec.digs k).toArray⟩

end Go.Proofs.YtbadepiakkhabaaDoor
/- What the laws write into a list of trees. No conditions. -/
namespace Go.Proofs.YtbadepiakkhabaaDoor
open Go.RowKit
set_option linter.unusedVariables false

mutual
/-- The tree that the laws write, from the letter k on. -/
def Ex.T.mrk : Ex.T → Nat → Ex.T
  | .node _ _ _ _ ks, k => .node (k : Int) (mark (k + 1)) ((k : Int) + 1 + 1) ((k : Int) + 1 + 1 + 1) (Ex.mrks ks (k + 4))
def Ex.mrks : List Ex.T → Nat → List Ex.T
  | [], _ => []
  | x :: r, k => x.mrk k :: Ex.mrks r (k + 4 * x.count)
end
theorem Ex.mrks_len : ∀ (l : List Ex.T) (k : Nat), (Ex.mrks l k).length = l.length := by
  intro l
  induction l with
  | nil => intro k; rw [Ex.mrks]
  | cons x r ih => intro k; rw [Ex.mrks, List.length_cons, ih, List.length_cons]
/-- Nothing that lay is turned but the blocks F. -/
def OnlyF (F : List Nat) (w w' : World) : Prop := Below 0 w w' ∧ ∀ b, b ∉ F → b < w.heap.size → w'.heap[b]? = w.heap[b]?
theorem OnlyF.refl (F : List Nat) (w : World) : OnlyF F w w := ⟨Below.refl _ _, fun _ _ _ => rfl⟩
theorem OnlyF.trans {F G : List Nat} {A B C : World} (h : OnlyF F A B) (k : OnlyF G B C) (hG : ∀ b ∈ G, b ∈ F) : OnlyF F A C :=
  ⟨h.1.trans k.1, fun b h1 h2 => (k.2 b (fun e => h1 (hG b e)) (Nat.lt_of_lt_of_le h2 h.1.size)).trans (h.2 b h1 h2)⟩
theorem OnlyF.later {F : List Nat} {A B C : World} (h : OnlyF F A B) (k : Below B.heap.size B C) : OnlyF F A C :=
  ⟨h.1.trans (k.mono (Nat.zero_le _)), fun b h1 h2 => (k.block b (Nat.lt_of_lt_of_le h2 h.1.size)).trans (h.2 b h1 h2)⟩
theorem OnlyF.set {F : List Nat} {A B : World} {g : Nat} (h : OnlyF F A B) (hg : g ∈ F) (o : Nat) (u : Value) : OnlyF F A (B.setCell ⟨g, o, none⟩ u) :=
  ⟨h.1.setCell (p := ⟨g, o, none⟩) (Nat.zero_le _) u, fun b h1 h2 => (Below.heap_setCell B ⟨g, o, none⟩ u b (fun e => h1 (e ▸ hg))).trans (h.2 b h1 h2)⟩
theorem OnlyF.below {F : List Nat} {A B : World} {m : Nat} (h : OnlyF F A B) (hF : ∀ b ∈ F, m ≤ b) (hm : m ≤ A.heap.size) : Below m A B :=
  ⟨h.1.os, h.1.tape, h.1.output, h.1.size, fun b hb => h.2 b (fun e => by have := hF b e; omega) (by omega)⟩
/-- Where the writing of a list stands. -/
def MkAt (w : World) (g c : Nat) (l : List El) (ks : List Ex.T) (k0 i : Nat) (wr : World) : Prop := ∃ le : List El, le.map Prod.snd = l.map Prod.snd ∧ le.map Prod.fst = Ex.mrks (ks.take i) k0 ++ ks.drop i ∧ RowE wr g ks.length c (rowV le) ∧ Els wr le ∧ OnlyF (g :: elsF l) w wr
theorem elsF_snd {l m : List El} (h : l.map Prod.snd = m.map Prod.snd) : elsF l = elsF m := by
  have e : ∀ l : List El, elsF l = (l.map Prod.snd).flatMap Prod.snd := fun l => by simp [elsF, List.flatMap_map]
  rw [e, e, h]
theorem MkAt.start {w : World} {g c k0 : Nat} {l : List El} {ks : List Ex.T} (hl : l.map Prod.fst = ks) (hr : RowE w g ks.length c (rowV l)) (he : Els w l) : MkAt w g c l ks k0 0 w :=
  ⟨l, rfl, by rw [List.take_zero, Ex.mrks, List.drop_zero]; exact hl, hr, he, OnlyF.refl _ _⟩
end Go.Proofs.YtbadepiakkhabaaDoor
/- Expression trees in memory. No conditions. -/
namespace Go.Proofs.YtbadepiakkhabaaDoor.Cr
open Go.RowKit
set_option linter.unusedVariables false

mutual
/-- Where a tree's six cells lie, and all below them. -/
def TreeAt (w : World) (g : Nat) : Nat → Co.T → Prop
  | o, .node k p n l t ks => (w.cell? ⟨g, o, none⟩ = some (.int .i64 k) ∧ w.cell? ⟨g, o + 1, none⟩ = some (.int .i64 p) ∧ w.cell? ⟨g, o + 2, none⟩ = some (.int .i64 n) ∧ w.cell? ⟨g, o + 3, none⟩ = some (.int .i64 l) ∧ w.cell? ⟨g, o + 4, none⟩ = some (.string t)) ∧ ∃ v, w.cell? ⟨g, o + 5, none⟩ = some v ∧ Kids w v ks
/-- A list of kids. -/
def Kids (w : World) : Value → List Co.T → Prop
  | v, [] => ∃ a c, v = .slice a 0 c
  | v, x :: r => ∃ g o c, v = .slice (some ⟨g, o, none⟩) (r.length + 1) c ∧ r.length + 1 ≤ c ∧ TreeAt w g o x ∧ RowAt w g (o + 6) r
/-- Trees in a row. -/
def RowAt (w : World) (g : Nat) : Nat → List Co.T → Prop
  | _, [] => True
  | o, x :: r => TreeAt w g o x ∧ RowAt w g (o + 6) r
end
mutual
theorem TreeAt.mono {w w' : World} (h : Subw w w') : ∀ {g o : Nat} (t : Co.T), TreeAt w g o t → TreeAt w' g o t
  | g, o, .node k p n l t ks, hx => by
    rw [TreeAt] at hx ⊢
    obtain ⟨⟨a, b, c, d, e⟩, v, hv, hk⟩ := hx
    exact ⟨⟨h _ _ _ a, h _ _ _ b, h _ _ _ c, h _ _ _ d, h _ _ _ e⟩, v, h _ _ _ hv, Kids.mono h ks hk⟩
theorem Kids.mono {w w' : World} (h : Subw w w') : ∀ {v : Value} (l : List Co.T), Kids w v l → Kids w' v l
  | v, [], hx => by rw [Kids] at hx ⊢; exact hx
  | v, x :: r, hx => by
    rw [Kids] at hx ⊢
    obtain ⟨g, o, c, e, hcp, hx, hr⟩ := hx
    exact ⟨g, o, c, e, hcp, TreeAt.mono h x hx, RowAt.mono h r hr⟩
theorem RowAt.mono {w w' : World} (h : Subw w w') : ∀ {g o : Nat} (l : List Co.T), RowAt w g o l → RowAt w' g o l
  | g, o, [], hx => by rw [RowAt]; trivial
  | g, o, x :: r, hx => by
    rw [RowAt] at hx ⊢
    exact ⟨TreeAt.mono h x hx.1, RowAt.mono h r hx.2⟩
end
theorem row_at {w : World} {g : Nat} : ∀ {l : List Co.T} {o : Nat}, RowAt w g o l → ∀ (i : Nat) (h : i < l.length), TreeAt w g (o + i * 6) l[i] := by
  intro l
  induction l with
  | nil => intro o _ i h; simp at h
  | cons x r ih =>
    intro o hr i h
    rw [RowAt] at hr
    match i with
    | 0 => simpa using hr.1
    | i + 1 =>
      have h2 := ih hr.2 i (by simpa using h)
      have e : o + 6 + i * 6 = o + (i + 1) * 6 := by omega
      rw [e] at h2; simpa using h2
theorem kids_len {w : World} {v : Value} {l : List Co.T} (h : Kids w v l) : ∃ a c, v = .slice a l.length c := by
  cases l with
  | nil => rw [Kids] at h; exact h
  | cons x r => rw [Kids] at h; obtain ⟨g, o, c, e, _⟩ := h; exact ⟨_, c, e⟩
theorem kids_at {w : World} {a : Option Addr} {n c : Nat} {l : List Co.T} (h : Kids w (.slice a n c) l) (i : Nat) (hi : i < l.length) : ∃ g o, a = some ⟨g, o, none⟩ ∧ TreeAt w g (o + i * 6) l[i] := by
  cases l with
  | nil => simp at hi
  | cons x r =>
    rw [Kids] at h
    obtain ⟨g, o, c2, e, _, hx, hr⟩ := h
    injection e with e1 e2 e3
    exact ⟨g, o, e1, row_at (l := x :: r) (by rw [RowAt]; exact ⟨hx, hr⟩) i hi⟩
/-- The five cells of a tree at a place. -/
theorem tree_cells {w : World} {g o : Nat} {t : Co.T} (h : TreeAt w g o t) : (w.cell? ⟨g, o, none⟩ = some (.int .i64 t.kind) ∧ w.cell? ⟨g, o + 1, none⟩ = some (.int .i64 t.op) ∧ w.cell? ⟨g, o + 2, none⟩ = some (.int .i64 t.num) ∧ w.cell? ⟨g, o + 3, none⟩ = some (.int .i64 t.line) ∧ w.cell? ⟨g, o + 4, none⟩ = some (.string t.text)) ∧ ∃ v, w.cell? ⟨g, o + 5, none⟩ = some v ∧ Kids w v t.kids := by
  cases t; rw [TreeAt] at h; exact h
theorem tree_of {w : World} {g o : Nat} {t : Co.T} {v : Value} (h : w.cell? ⟨g, o, none⟩ = some (.int .i64 t.kind) ∧ w.cell? ⟨g, o + 1, none⟩ = some (.int .i64 t.op) ∧ w.cell? ⟨g, o + 2, none⟩ = some (.int .i64 t.num) ∧ w.cell? ⟨g, o + 3, none⟩ = some (.int .i64 t.line) ∧ w.cell? ⟨g, o + 4, none⟩ = some (.string t.text)) (hv : w.cell? ⟨g, o + 5, none⟩ = some v) (hk : Kids w v t.kids) : TreeAt w g o t := by
  cases t; rw [TreeAt]; exact ⟨h, v, hv, hk⟩
/-- A tree by value: its five cells. -/
abbrev exV (t : Co.T) (v : Value) : Value := .agg #[.int .i64 t.kind, .int .i64 t.op, .int .i64 t.num, .int .i64 t.line, .string t.text, v]
/-- Five cells of a variable of the call's own. -/
def CellsE (w : World) (b : Nat) (t : Co.T) (v : Value) : Prop := w.cell? ⟨b, 0, none⟩ = some (.int .i64 t.kind) ∧ w.cell? ⟨b, 1, none⟩ = some (.int .i64 t.op) ∧ w.cell? ⟨b, 2, none⟩ = some (.int .i64 t.num) ∧ w.cell? ⟨b, 3, none⟩ = some (.int .i64 t.line) ∧ w.cell? ⟨b, 4, none⟩ = some (.string t.text) ∧ w.cell? ⟨b, 5, none⟩ = some v
theorem CellsE.later {w w' : World} {b : Nat} {t : Co.T} {v : Value} (h : CellsE w b t v) (hb : Below w.heap.size w w') : CellsE w' b t v :=
  ⟨subw_below hb _ _ _ h.1, subw_below hb _ _ _ h.2.1, subw_below hb _ _ _ h.2.2.1, subw_below hb _ _ _ h.2.2.2.1, subw_below hb _ _ _ h.2.2.2.2.1, subw_below hb _ _ _ h.2.2.2.2.2⟩
theorem CellsE.new (W : World) (t : Co.T) (v : Value) (T : TypeId) : CellsE (W.alloc (.cells #[.int .i64 t.kind, .int .i64 t.op, .int .i64 t.num, .int .i64 t.line, .string t.text, v] T)) W.heap.size t v := by
  refine ⟨?_, ?_, ?_, ?_, ?_, ?_⟩ <;> go_simp
theorem Kids.later {w w' : World} {v : Value} {l : List Co.T} (h : Kids w v l) (hb : Below w.heap.size w w') : Kids w' v l := Kids.mono (subw_below hb) l h
theorem TreeAt.later {w w' : World} {g o : Nat} {t : Co.T} (h : TreeAt w g o t) (hb : Below w.heap.size w w') : TreeAt w' g o t := TreeAt.mono (subw_below hb) t h
/-- A variable of five cells, that may be written. -/
def FreeE (w : World) (b : Nat) (k p n l : Int) (t : ByteArray) (v : Value) : Prop := (w.cell? ⟨b, 0, none⟩ = some (.int .i64 k) ∧ w.cell? ⟨b, 1, none⟩ = some (.int .i64 p) ∧ w.cell? ⟨b, 2, none⟩ = some (.int .i64 n) ∧ w.cell? ⟨b, 3, none⟩ = some (.int .i64 l) ∧ w.cell? ⟨b, 4, none⟩ = some (.string t) ∧ w.cell? ⟨b, 5, none⟩ = some v)
  ∧ w.frozen? ⟨b, 0, none⟩ = false ∧ w.frozen? ⟨b, 1, none⟩ = false ∧ w.frozen? ⟨b, 2, none⟩ = false ∧ w.frozen? ⟨b, 3, none⟩ = false ∧ w.frozen? ⟨b, 4, none⟩ = false ∧ w.frozen? ⟨b, 5, none⟩ = false
theorem FreeE.lt {w : World} {b : Nat} {k p n l : Int} {t : ByteArray} {v : Value} (h : FreeE w b k p n l t v) : b < w.heap.size := World.block_lt_of_cell? w _ h.1.1
theorem FreeE.later {w w' : World} {b : Nat} {k p n l : Int} {t : ByteArray} {v : Value} (h : FreeE w b k p n l t v) (hb : Below w.heap.size w w') : FreeE w' b k p n l t v := by
  have hl := h.lt
  obtain ⟨⟨a0, a1, a2, a3, a4, a5⟩, f0, f1, f2, f3, f4, f5⟩ := h
  exact ⟨⟨subw_below hb _ _ _ a0, subw_below hb _ _ _ a1, subw_below hb _ _ _ a2, subw_below hb _ _ _ a3, subw_below hb _ _ _ a4, subw_below hb _ _ _ a5⟩,
    (hb.frozen (p := ⟨b, 0, none⟩) hl).trans f0, (hb.frozen (p := ⟨b, 1, none⟩) hl).trans f1, (hb.frozen (p := ⟨b, 2, none⟩) hl).trans f2, (hb.frozen (p := ⟨b, 3, none⟩) hl).trans f3, (hb.frozen (p := ⟨b, 4, none⟩) hl).trans f4, (hb.frozen (p := ⟨b, 5, none⟩) hl).trans f5⟩
theorem FreeE.new (W : World) (k p n l : Int) (t : ByteArray) (v : Value) (T : TypeId) : FreeE (W.alloc (.cells #[.int .i64 k, .int .i64 p, .int .i64 n, .int .i64 l, .string t, v] T)) W.heap.size k p n l t v := by
  refine ⟨⟨?_, ?_, ?_, ?_, ?_, ?_⟩, ?_, ?_, ?_, ?_, ?_, ?_⟩ <;> go_simp
end Go.Proofs.YtbadepiakkhabaaDoor.Cr
/- The laws' measure of a tree. No conditions. -/
namespace Go.Proofs.YtbadepiakkhabaaDoor.Cr
open Go.RowKit
set_option linter.unusedVariables false

/-- Where the measure of a list stands. -/
def SzAt (ks : List Co.T) (left k m : Nat) : Prop := m + (ks.length + Co.bulks (ks.take k)) = left
theorem SzAt.start {ks : List Co.T} {left : Nat} (h : ks.length ≤ left) : SzAt ks left 0 (left - ks.length) := by unfold SzAt; simp [Co.bulks]; omega
theorem SzAt.next {ks : List Co.T} {left k m : Nat} (h : SzAt ks left k m) (hk : k < ks.length) (hb : ks[k].bulk ≤ m) : SzAt ks left (k + 1) (m - ks[k].bulk) := by
  unfold SzAt at h ⊢
  rw [Co.bulks_take ks k hk]; omega
theorem SzAt.bad {ks : List Co.T} {left k m : Nat} (h : SzAt ks left k m) (hk : k < ks.length) (hb : ¬ ks[k].bulk ≤ m) : szR left (ks.length + Co.bulks ks) = -1 := by
  unfold SzAt at h
  have h2 := Co.bulks_take ks k hk
  have h3 := Co.bulks_take_le ks (k + 1)
  exact szR_no (by omega)
theorem SzAt.over {ks : List Co.T} {left m : Nat} (h : SzAt ks left ks.length m) : szR left (ks.length + Co.bulks ks) = (m : Int) := by
  unfold SzAt at h
  rw [List.take_length] at h
  rw [szR_yes (by omega)]; congr 1; omega
theorem bulk_eq (t : Co.T) : t.bulk = t.text.size + (t.kids.length + Co.bulks t.kids) := by cases t; rw [Co.T.bulk]; rfl
theorem kids_count {t x : Co.T} (h : x ∈ t.kids) : x.count < t.count := by
  cases t with
  | node k p n l s ks =>
    rw [Co.T.count]
    have := Co.counts_mem (l := ks) h
    omega
end Go.Proofs.YtbadepiakkhabaaDoor.Cr
