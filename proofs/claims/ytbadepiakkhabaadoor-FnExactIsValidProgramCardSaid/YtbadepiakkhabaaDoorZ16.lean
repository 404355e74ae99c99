/- Joined texts: N2, N22, N23, N24, N3. No conditions besides those that each states. -/
import Derived.IntWalk
import Derived.RangeFuncNested
import Derived.RangeFuncBound
import Derived.RangeFuncCalls
import Derived.RangeFuncLeaves
import Derived.Shelf.Abstract
import Derived.Shelf.RegionOpen
import Derived.WalkKit
import Derived.OwnWalkIn
import Derived.TacticsInMore
import Derived.LoopNIn
import Derived.LoopIn
import Derived.OneCell
import Derived.Test.YtbadepiakkhabaaDoorZ15
/- The nodes of a tree, each before its kids, with their depths; what the program's walk of a tree hands to a round. No conditions. -/
namespace Go.Proofs.YtbadepiakkhabaaDoor
open Go.RowKit Go.Shelf
set_option linter.unusedVariables false
attribute [local go_sem] Oper.semAt_some

mutual
/-- The nodes of a tree, each before its kids, with their depths. -/
def Ex.T.pre : Ex.T → Nat → List (Ex.T × Nat)
  | .node k t n l ks, d => (.node k t n l ks, d) :: Ex.pres ks (d + 1)
def Ex.pres : List Ex.T → Nat → List (Ex.T × Nat)
  | [], _ => []
  | x :: r, d => x.pre d ++ Ex.pres r d
end
theorem Ex.pre_eq (t : Ex.T) (d : Nat) : t.pre d = (t, d) :: Ex.pres t.kids (d + 1) := by cases t; rw [Ex.T.pre]; rfl
theorem Ex.pres_app (a b : List Ex.T) (d : Nat) : Ex.pres (a ++ b) d = Ex.pres a d ++ Ex.pres b d := by
  induction a with
  | nil => simp [Ex.pres]
  | cons x r ih => simp [Ex.pres, ih]
theorem Ex.pres_take (l : List Ex.T) (k : Nat) (h : k < l.length) (d : Nat) : Ex.pres (l.take (k + 1)) d = Ex.pres (l.take k) d ++ l[k].pre d := by
  rw [List.take_succ_eq_append_getElem h, Ex.pres_app]
  simp [Ex.pres]
mutual
theorem Ex.pre_len : ∀ (t : Ex.T) (d : Nat), (t.pre d).length = t.count
  | .node k t n l ks, d => by rw [Ex.T.pre, Ex.T.count, List.length_cons, Ex.pres_len ks]; omega
theorem Ex.pres_len : ∀ (l : List Ex.T) (d : Nat), (Ex.pres l d).length = Ex.counts l
  | [], d => by simp [Ex.pres, Ex.counts]
  | x :: r, d => by rw [Ex.pres, Ex.counts, List.length_append, Ex.pre_len x, Ex.pres_len r]
end
theorem deeps_mem : ∀ {l : List Ex.T} {x : Ex.T}, x ∈ l → x.deep ≤ Ex.deeps l := by
  intro l
  induction l with
  | nil => intro x h; cases h
  | cons y l ih =>
    intro x h
    rw [Ex.deeps]
    rcases List.mem_cons.1 h with rfl | h
    · omega
    · have := ih h; omega
theorem Ex.pres_pref (l : List Ex.T) (k : Nat) (h : k < l.length) (d : Nat) (q : List (Ex.T × Nat)) (hq : q <+: l[k].pre d) : Ex.pres (l.take k) d ++ q <+: Ex.pres l d := by
  have e : l = l.take k ++ (l[k] :: l.drop (k + 1)) := by rw [← List.drop_eq_getElem_cons h, List.take_append_drop]
  obtain ⟨r, hr⟩ := hq
  refine ⟨r ++ Ex.pres (l.drop (k + 1)) d, ?_⟩
  conv => rhs; rw [e]
  rw [Ex.pres_app, Ex.pres, ← hr]
  simp
/-- A node in memory, as a round is handed it: its place, its tree, its depth. -/
abbrev Nd (w0 : World) := { x : (Nat × Nat) × (Ex.T × Nat) // TreeAt w0 x.1.1 x.1.2 x.2.1 ∧ x.2.1.bulk ≤ 1048576 ∧ x.2.2 ≤ 2097152 }
def Nd.dat {w0 : World} (x : Nd w0) : Ex.T × Nat := x.1.2
abbrev ndV {w0 : World} (x : Nd w0) : Array Value := #[.pointer (some ⟨x.1.1.1, x.1.1.2, none⟩), .int .i64 (x.1.2.2 : Int)]
def VisT (F : Fence) (l : Nat) (w0 : World) (N : Nat) (J Jx : List (Nd w0) → World → Prop) (t : Ex.T) : Prop :=
  ∀ (n g o d : Nat) (pre : List (Nd w0)) (W : World), t.bulk ≤ 1048576 → d + t.deep ≤ 2097152 → TreeAt w0 g o t → Below w0.heap.size w0 W → J pre W → pre.length + t.count ≤ N →
    CallsIn F n Tryd.prog 116 #[.pointer (some ⟨g, o, none⟩), .int .i64 (d : Int), .func (.yield l) #[] #[]] W fun e W' =>
      (e = .returned (.bool true) ∧ (∃ q : List (Nd w0), q.map Nd.dat = t.pre d ∧ J (pre ++ q) W') ∧ Below w0.heap.size w0 W') ∨
      (e = .returned (.bool false) ∧ ∃ q : List (Nd w0), q.map Nd.dat <+: t.pre d ∧ Jx (pre ++ q) W')
theorem room_none {F : Fence} (hd : F.depth = none) (k : Nat) : F.room k := fun d h => by rw [hd] at h; cases h
theorem RoundIn.any {F : Fence} (hd : F.depth = none) {m m' : Nat} {P : Program} {l : Nat} {f : FuncId} {tmps : Array Value} {assign body : Go.Code} {w : World} {R : Ending → World → Prop}
    (h : RoundIn F m P l f tmps assign body w R) : RoundIn F m' P l f tmps assign body w R := ⟨h.1, fun c cs _ => h.2 c cs (room_none hd _)⟩
theorem YieldAt.any {F : Fence} (hd : F.depth = none) {m : Nat} (m' : Nat) {P : Program} {l : Nat} {args : Array Value} {W : World} {R : Ending → World → Prop} (h : YieldAt F m P l args W R) : YieldAt F m' P l args W R := by
  obtain ⟨fn, tmps, assign, body, hy, hR⟩ := h
  exact ⟨fn, tmps, assign, body, hy, RoundIn.any hd hR⟩

set_option maxRecDepth 100000 in
set_option maxHeartbeats 2000000 in
theorem visit_tree (F : Fence) (hd : F.depth = none) (hF : F.fn 116) (hro : F.round = none) (l : Nat) (w0 : World) (N : Nat) (J Jx : List (Nd w0) → World → Prop)
    (hY : ∀ m pre x W, J pre W → pre.length < N → YieldAt F m Tryd.prog l (ndV x) W fun e W' =>
      (e = .returned (.bool true) ∧ J (pre ++ [x]) W' ∧ Below w0.heap.size W W') ∨ (e = .returned (.bool false) ∧ Jx (pre ++ [x]) W')) :
    ∀ (M : Nat) (t : Ex.T), t.count ≤ M → VisT F l w0 N J Jx t := by
  intro M
  induction M with
  | zero => intro t h; have := Ex.count_pos t; omega
  | succ M ih =>
    intro t hM n g o d pre W hb hdd ht hW hJ hN
    have hpf : TreeAt w0 g o t ∧ t.bulk ≤ 1048576 ∧ d ≤ 2097152 := ⟨ht, hb, by omega⟩
    obtain ⟨fn, tmps, assign, body, hy, hR⟩ := hY (n - 1) pre ⟨((g, o), (t, d)), hpf⟩ W hJ (by have := Ex.count_pos t; omega)
    dsimp only [ndV] at hy
    have hdk : ∀ k : Nat, (F.depth.isSome = true → 1 ≤ k) := fun k h => by rw [hd] at h; cases h
    refine callsIn_of_wp Tryd.func116 rfl hF ?_ hro
    simp only [Tryd.ntmps116, List.size_toArray, List.length_cons, List.length_nil, Nat.reduceAdd, Nat.reduceSub, Array.replicate_succ, Array.replicate_zero, List.push_toArray, List.append_toArray, List.nil_append, List.cons_append]
    have HI := Lib.hid (fun (x : Ex.T) (hx : x ∈ t.kids) => ih x (by have := kids_count hx; omega))
    have HY := Lib.hid hY
    have HT := Lib.hid ht
    have HN := Lib.hid hN
    have hbe := bulk_eq t
    have hce := count_eq t
    have hde := deep_eq t
    have HP := Lib.hid (Ex.pre_eq t d)
    have HM : Hid (∀ x ∈ t.kids, x.bulk ≤ 1048576 ∧ d + 1 + x.deep ≤ 2097152) := Lib.hid (fun x hx => ⟨by have := Ex.bulks_mem hx; omega, by have := deeps_mem hx; omega⟩)
    have hln : t.kids.length ≤ 1048576 := by omega
    clear ih hY hN hM hbe hde hb
    gi_wp2
    refine hR.mono ?_
    clear hR hy
    rintro e W1 (⟨rfl, hJ1, hk1⟩ | ⟨rfl, hx1⟩)
    · have HW1 := Lib.hid (hW.trans hk1)
      have HJ1 := Lib.hid hJ1
      obtain ⟨⟨c0, c1, c2, c3⟩, v, c4, hkv⟩ := tree_cells (TreeAt.mono (subw_below HW1.out) t ht)
      obtain ⟨v0, c40, hkv0⟩ := (tree_cells ht).2
      have HC4 := Lib.hid (fun wr (hh : Below w0.heap.size w0 wr) => subw_below hh _ _ _ c40)
      obtain rfl : v = v0 := Option.some.inj (c4.symm.trans (HC4.out _ HW1.out))
      have HK := Lib.hid hkv0
      obtain ⟨a, c, rfl⟩ := kids_len hkv
      clear c0 c1 c2 c3 hkv hkv0 c40 hJ hJ1 hW ht hk1
      gi_wp2
      gi_loopw [7, 18] (fun _ i wr => ∃ (k : Nat) (q : List (Nd w0)), i = .int .i64 k ∧ k ≤ t.kids.length ∧ q.map Nd.dat = (t, d) :: Ex.pres (t.kids.take k) (d + 1) ∧ J (pre ++ q) wr ∧ Below w0.heap.size w0 wr) (fun _ i _ => t.kids.length - (intOf i).toNat)
      case atStart => exact ⟨0, _, rfl, Nat.zero_le _, by simp [Ex.pres, Nd.dat], HJ1.out, HW1.out⟩
      case round =>
        clear HJ1 HW1 c4
        obtain ⟨k, q, rfl, hk, hq, hJ, hW⟩ := hrel
        have c4 := HC4.out wr hW
        have HW := Lib.hid hW
        have HJ := Lib.hid hJ
        have HQ := Lib.hid hq
        clear hW hJ hq
        by_cases hlt : k < t.kids.length
        · obtain ⟨g2, o2, rfl, ht2⟩ := kids_at HK.out k hlt
          have hm := HM.out _ (List.getElem_mem hlt)
          have HR := Lib.hid (HI.out t.kids[k] (List.getElem_mem hlt) (n - 1) g2 (o2 + k * 5) (d + 1) (pre ++ q) wr hm.1 (by have := hm.2; omega) ht2 HW.out HJ.out (by
            have h1 := congrArg List.length HQ.out
            rw [List.length_map, List.length_cons, Ex.pres_len] at h1
            have h2 := Ex.counts_take t.kids k hlt
            have h3 := Ex.counts_take_le t.kids (k + 1)
            have h4 := HN.out
            rw [List.length_append]; omega))
          have HT2 := Lib.hid (Ex.pres_take t.kids k hlt (d + 1))
          have HT3 := Lib.hid (fun q hq => Ex.pres_pref t.kids k hlt (d + 1) q hq)
          rw [show ((d + 1 : Nat) : Int) = (d : Int) + 1 by omega] at HR
          have e1 : IntKind.i64.wrap ((d : Int) + 1) = (d : Int) + 1 := IntWalk.i64_in _ (by omega)
          have k0 : (0 : Int) ≤ k := by omega
          have k1 : (k : Int) < t.kids.length := by omega
          clear ht2 hm HJ
          generalize t.kids[k] = x at HR HT2 HT3
          gi_wp2
          refine HR.out.mono ?_
          clear HR
          rintro e W2 (⟨rfl, ⟨q2, hq2, hJ2⟩, hW2⟩ | ⟨rfl, q2, hq2, hx2⟩)
          · have HJ2 := Lib.hid hJ2
            have HW2 := Lib.hid hW2
            have HQ2 := Lib.hid hq2
            clear hJ2 hW2 hq2
            gi_wp2
            go_roundw
            case rel => exact ⟨k + 1, q ++ q2, by go_num, by omega, by rw [List.map_append, HQ.out, HQ2.out, HT2.out]; simp, by rw [← List.append_assoc]; exact HJ2.out, HW2.out⟩
            case measure => first | (simp [intOf]; done) | (simp [intOf]; omega)
          · have HX2 := Lib.hid hx2
            have HQ2 := Lib.hid hq2
            clear hx2 hq2
            gi_wp2
            go_ret
            refine .inr ⟨rfl, q ++ q2, ?_, by rw [← List.append_assoc]; exact HX2.out⟩
            rw [List.map_append, HQ.out, HP.out, List.cons_append]
            obtain ⟨r, hr⟩ := HT3.out _ HQ2.out
            exact ⟨r, by rw [List.cons_append, hr]⟩
        · obtain rfl : k = t.kids.length := by omega
          gi_wp2
          go_ret
          refine .inl ⟨rfl, ⟨q, ?_, HJ.out⟩, HW.out⟩
          rw [HP.out, HQ.out, List.take_length]
    · gi_wp2
      go_ret
      refine .inr ⟨rfl, _, ?_, hx1⟩
      rw [HP.out]
      exact ⟨Ex.pres t.kids (d + 1), by simp [Nd.dat]⟩
end Go.Proofs.YtbadepiakkhabaaDoor
/- A range over a function whose body never leaves, its rounds told by one relation. No conditions. -/
namespace Go.Proofs.YtbadepiakkhabaaDoor
open Go.RowKit Go.Shelf
set_option linter.unusedVariables false

variable {F : Fence} {n : Nat} {P : Program}
theorem range_all {X : Type} {g : Operand} {ps : Array Tmp} {assign body : Go.Code} {Q : Exit → Act → World → Prop} {a : Act} {w : World}
    (hro : F.round = none) (h1 : 1 ≤ n) {gf : Nat} {lb : Array Value} (hg : a.eval g = .func (.func gf) #[] lb) (hFg : F.fn gf) (eg : ∀ args w, (callFunc gf args).run P w = .ok (.enter gf args) w)
    {encs : X → Array Value} (hps : ∀ x, (encs x).size = ps.size) (Pre : X → World → Prop) (Rel : X → World → World → Prop) (Done : World → World → Prop)
    (hPre : ∀ x W o, Pre x W → Pre x (W.putObj (w.heap.size + 1) o))
    (hRel : ∀ x W W3 o o', W.heap[w.heap.size + 1]? = some o → Pre x W → Rel x (W.putObj (w.heap.size + 1) o') W3 → Rel x W (W3.putObj (w.heap.size + 1) o))
    (hKeep : ∀ x W W3 (o : Obj), Pre x W → Rel x W W3 → W.heap[w.heap.size + 1]? = some o → o.isCells = false → W3.heap[w.heap.size + 1]? = some o)
    (a₁ : X → Act)
    (hassign : ∀ (x : X) (W : World) (K : Act → World → Prop), K (a₁ x) W →
      assign.wpIn (F.inRound (w.heap.size + 1)) (n - 1 - 1) P (Exit.then K (fun _ _ _ => False)) { tmps := (ps.zip (encs x)).foldl (fun t (p, v) => t.setIfInBounds p v) a.tmps, defers := [] } W)
    (hbody : ∀ (x : X) (W : World), Pre x W → body.wpIn (F.inRound (w.heap.size + 1)) (n - 1 - 1) P (fun e _ W' => e = .normal ∧ Rel x W W') (a₁ x) W)
    (hcall : ∀ (o : Obj), o.isCells = false → (∀ x W, Pre x W → W.heap[w.heap.size + 1]? = some o → YieldAt F (n - 1 - 1) P (w.heap.size + 1) (encs x) W fun e W' => e = .returned (.bool true) ∧ Rel x W W') →
      CallsIn F (n - 1) P gf (#[.func (.yield (w.heap.size + 1)) #[] #[]] ++ lb) ((w.alloc (.deferred (some []))).alloc o) fun e W2 => (∃ v, e = .returned v) ∧ Done ((w.alloc (.deferred (some []))).alloc o) W2 ∧ W2.heap[w.heap.size + 1]? = some o)
    (hdone : ∀ (o o' : Obj) (W2 : World), Done ((w.alloc (.deferred (some []))).alloc o) W2 → W2.heap[w.heap.size + 1]? = some o → Q .normal { a with defers := { target := .collected w.heap.size, args := #[] } :: a.defers } (W2.putObj (w.heap.size + 1) o')) :
    (Go.Code.rangeFunc g ps assign body).wpIn F n P Q a w := by
  refine wpIn_rangeFunc fun fn hfn => ?_
  rw [hro]
  obtain ⟨rec, hrec⟩ : ∃ rec : LoopState → Option Go.Code → Loop, rec = fun st pe => { state := st, pending := pe, fn, tmps := a.tmps, params := ps, assign, body, defers := w.heap.size } := ⟨_, rfl⟩
  have hc := hcall (.loop (rec .ready none)) rfl (fun x W hp hl => by
    have hlt : w.heap.size + 1 < W.heap.size := (Array.getElem?_eq_some_iff.1 hl).1
    have hy := run_yield (P := P) (args := encs x) hl (by rw [hrec]; exact hps x)
    rw [hrec] at hy
    refine ⟨fn, _, assign, body, hy, roundIn_of_wpIn hfn (hassign x W _ ⟨_, run_beginRound hl (by rw [hrec]), ?_⟩)⟩
    refine wpIn_mono (hbody x _ (hPre x W _ hp)) ?_
    rintro e a3 W3 ⟨rfl, hr⟩
    have hl2 : (W.putObj (w.heap.size + 1) (.loop { rec .ready none with state := .busy })).heap[w.heap.size + 1]? = some (.loop { rec .ready none with state := .busy }) := World.putObj_heap_same hlt
    have hl3 := hKeep x _ W3 _ (hPre x W _ hp) hr hl2 rfl
    have he := run_endRound (P := P) none hl3
    refine ⟨_, _, he, rfl, ?_⟩
    have e2 : (Obj.loop { ({ rec .ready none with state := .busy } : Loop) with state := if (none : Option Go.Code).isNone then .ready else .done, pending := none }) = Obj.loop (rec .ready none) := by rw [hrec]; rfl
    rw [e2]
    exact hRel x W W3 _ _ hl hp hr)
  refine ⟨w.heap.size + 1, [{ target := .collected w.heap.size, args := #[] }], (w.alloc (.deferred (some []))).alloc (.loop (rec .ready none)), { target := .fn (.func gf) lb, args := #[.func (.yield (w.heap.size + 1)) #[] #[]] }, (w.alloc (.deferred (some []))).alloc (.loop (rec .ready none)), gf,
    #[.func (.yield (w.heap.size + 1)) #[] #[]] ++ lb, (w.alloc (.deferred (some []))).alloc (.loop (rec .ready none)), ?_, ?_, ?_, ?_, fun _ => h1, ?_⟩
  · rw [hrec]; exact run_enterLoop_outer _ _ _ _ _
  · simp only [resolve, hg]
    simp [go_sem]
  · intro f' hf'; simp [Target.leads] at hf'; subst hf'; exact hFg
  · simp [invoke, go_sem, eg]
  · refine hc.mono ?_
    rintro e W2 ⟨⟨v, rfl⟩, hd, hl⟩
    exact ⟨none, _, by have := run_endLoop (P := P) hl (by rw [hrec]; simp); rw [hrec] at this; exact this, hdone _ _ W2 hd hl⟩
end Go.Proofs.YtbadepiakkhabaaDoor
/- The program's walk of a tree that erases lines: each node is turned, its list anew. No conditions. -/
namespace Go.Proofs.YtbadepiakkhabaaDoor
open Go.RowKit Go.Shelf
set_option linter.unusedVariables false
attribute [local go_sem] Oper.semAt_some

/-- Nothing that lay is turned but block g. -/
def Oth (g : Nat) (W W' : World) : Prop := Below 0 W W' ∧ ∀ b, b ≠ g → b < W.heap.size → W'.heap[b]? = W.heap[b]?
theorem Oth.refl (g : Nat) (W : World) : Oth g W W := ⟨Below.refl _ _, fun _ _ _ => rfl⟩
theorem Oth.size {g : Nat} {W W' : World} (h : Oth g W W') : W.heap.size ≤ W'.heap.size := h.1.size
theorem Oth.trans {g : Nat} {A B C : World} (h : Oth g A B) (k : Oth g B C) : Oth g A C := ⟨h.1.trans k.1, fun b h1 h2 => (k.2 b h1 (Nat.lt_of_lt_of_le h2 h.size)).trans (h.2 b h1 h2)⟩
theorem Oth.later {g : Nat} {A B C : World} (h : Oth g A B) (k : Below B.heap.size B C) : Oth g A C :=
  ⟨h.1.trans (k.mono (Nat.zero_le _)), fun b h1 h2 => (k.block b (Nat.lt_of_lt_of_le h2 h.size)).trans (h.2 b h1 h2)⟩
theorem Oth.set {g : Nat} {A B : World} (h : Oth g A B) (o : Nat) (v : Value) : Oth g A (B.setCell ⟨g, o, none⟩ v) :=
  ⟨h.1.setCell (p := ⟨g, o, none⟩) (Nat.zero_le _) v, fun b h1 h2 => (Below.heap_setCell B ⟨g, o, none⟩ v b h1).trans (h.2 b h1 h2)⟩
/-- What lay below, and a new block turned: nothing that lay is turned. -/
theorem Oth.new {g g2 : Nat} {A B C : World} (h : Oth g A B) (k : Oth g2 B C) (hg : A.heap.size ≤ g2) : Oth g A C :=
  ⟨h.1.trans k.1, fun b h1 h2 => (k.2 b (by omega) (Nat.lt_of_lt_of_le h2 h.size)).trans (h.2 b h1 h2)⟩
theorem Oth.below {g m : Nat} {A B : World} (h : Oth g A B) (hm : m ≤ g) (hs : m ≤ A.heap.size) : Below m A B := ⟨h.1.os, h.1.tape, h.1.output, h.1.size, fun b hb => h.2 b (by omega) (by omega)⟩
theorem Oth.put {g L : Nat} {W W3 : World} {o o' : Obj} (hl : W.heap[L]? = some o) (h : Oth g (W.putObj L o') W3) : Oth g W (W3.putObj L o) := by
  have hlt : L < W.heap.size := (Array.getElem?_eq_some_iff.1 hl).1
  have hs := h.1.size
  rw [World.putObj_size] at hs
  refine ⟨⟨h.1.os, h.1.tape, h.1.output, by rw [World.putObj_size]; exact hs, fun b hb => by omega⟩, fun b h1 h2 => ?_⟩
  by_cases hb : b = L
  · subst hb
    rw [World.putObj_heap_same (by omega), hl]
  · rw [World.putObj_heap_other hb, h.2 b h1 (by rw [World.putObj_size]; exact h2), World.putObj_heap_other hb]
/-- A node's list: what the copy reads. -/
def KidOk (w0 : World) (p : El) (lk : List El) : Prop := p.1.kids = lk.map Prod.fst ∧ Kids w0 p.2.1 (lk.map Prod.fst) ∧ (∀ g o n c, p.2.1 = .slice (some ⟨g, o, none⟩) n c → RowCells w0 g o lk) ∧ (∀ q ∈ lk, q.2.2 = [] ∧ Kids w0 q.2.1 q.1.kids)
theorem kid_ok {w0 : World} {p : El} (h : Kids w0 p.2.1 p.1.kids) : ∃ lk, KidOk w0 p lk := by
  obtain ⟨a, c, e⟩ := kids_len h
  have h2 := h
  rw [e] at h2
  obtain ⟨lk, h3, h4, h5⟩ := kids_els h2
  refine ⟨lk, h3.symm, by rw [h3]; exact h, fun g o n c2 e2 => ?_, h4⟩
  rw [e] at e2
  injection e2 with e3
  exact h5 g o e3
/-- A node in a row, as a round is handed it. -/
structure XN where
  g : Nat
  i : Nat
  d : Nat
  cap : Nat
  l : List El
  p : El
  lk : List El
abbrev xnV (x : XN) : Array Value := #[.pointer (some ⟨x.g, x.i * 5, none⟩), .int .i64 (x.d : Int)]
def XPre (w0 : World) (L : Nat) (x : XN) (W : World) : Prop := (x.l[x.i]? = some x.p ∧ RowE W x.g x.l.length x.cap (rowV x.l)) ∧ (w0.heap.size ≤ x.g ∧ x.g ≠ L) ∧ Below w0.heap.size w0 W ∧ KidOk w0 x.p x.lk ∧ (x.lk.length ≤ 1048576 ∧ x.p.1.text.size ≤ 1048576)
def XRel (x : XN) (W W' : World) : Prop := ∃ v, RowE W' x.g x.l.length x.cap (rowV (x.l.set x.i (x.p.1.erase, v, []))) ∧ Oth x.g W W' ∧ ShalK W.heap.size W' v x.lk
theorem xpre_put {w0 : World} {L : Nat} (hL : w0.heap.size ≤ L) {x : XN} {W : World} (o : Obj) (h : XPre w0 L x W) : XPre w0 L x (W.putObj L o) :=
  ⟨⟨h.1.1, h.1.2.keep (World.putObj_heap_other h.2.1.2)⟩, h.2.1, h.2.2.1.grown (grownBy_putObj' W L o) h.2.2.1.size (fun k e => by cases e; exact hL), h.2.2.2⟩
theorem ShalK.keep {B : Nat} {w w' : World} {v : Value} {l : List El} (h : ShalK B w v l) (hb : ∀ b, B ≤ b → w'.heap[b]? = w.heap[b]?) : ShalK B w' v l := by
  rcases h with h | ⟨h0, g, c, e, hg, hr⟩
  · exact .inl h
  · exact .inr ⟨h0, g, c, e, hg, hr.keep (hb g hg)⟩
theorem xrel_put {w0 : World} {L : Nat} {x : XN} {W W3 : World} {o o' : Obj} (hl : W.heap[L]? = some o) (hp : XPre w0 L x W) (h : XRel x (W.putObj L o') W3) : XRel x W (W3.putObj L o) := by
  have hlt : L < W.heap.size := (Array.getElem?_eq_some_iff.1 hl).1
  obtain ⟨v, h1, h2, h3⟩ := h
  refine ⟨v, h1.keep (World.putObj_heap_other hp.2.1.2), h2.put hl, ?_⟩
  rw [World.putObj_size] at h3
  exact h3.keep fun b hb => World.putObj_heap_other (by omega)
theorem xrel_keep {w0 : World} {L : Nat} {x : XN} {W W3 : World} {o : Obj} (hp : XPre w0 L x W) (h : XRel x W W3) (hl : W.heap[L]? = some o) : W3.heap[L]? = some o := by
  obtain ⟨v, h1, h2, h3⟩ := h
  exact (h2.2 L (fun e => hp.2.1.2 e.symm) (Array.getElem?_eq_some_iff.1 hl).1).trans hl
/-- What the walk leaves of a node in a row. -/
def EraseAt (g i cap : Nat) (l : List El) (t : Ex.T) (W W' : World) : Prop := ∃ v F, RowE W' g l.length cap (rowV (l.set i (t.erase, v, F))) ∧ Oth g W W' ∧ OwnK W' v (Ex.erases t.kids) F ∧ Foot W.heap.size W' F
def EraT (F : Fence) (w0 : World) (L : Nat) (ob : Obj) (t : Ex.T) : Prop :=
  ∀ (n g i d cap : Nat) (l : List El) (W : World) (p : El), l[i]? = some p → p.1 = t → t.bulk ≤ 1048576 → d + t.deep ≤ 2097152 → RowE W g l.length cap (rowV l) → w0.heap.size ≤ g → g ≠ L → Below w0.heap.size w0 W → W.heap[L]? = some ob → Kids w0 p.2.1 t.kids →
    CallsIn F n Tryd.prog 116 #[.pointer (some ⟨g, i * 5, none⟩), .int .i64 (d : Int), .func (.yield L) #[] #[]] W fun e W' => e = .returned (.bool true) ∧ EraseAt g i cap l t W W'
theorem row_node {w : World} {g cap i : Nat} {l : List El} {p : El} (h : RowE w g l.length cap (rowV l)) (hp : l[i]? = some p) : w.cell? ⟨g, i * 5 + 4, none⟩ = some p.2.1 := by
  obtain ⟨hi, rfl⟩ := List.getElem?_eq_some_iff.1 hp
  have h2 := (RowCells.node (rowE_cells rfl h) i hi).2
  rw [Nat.zero_add] at h2; exact h2
/-- Where the walk of a list stands. -/
def ErasD (lk : List El) (g c : Nat) (W1 : World) (k : Nat) (wr : World) (ld : List El) : Prop := ld.length = k ∧ RowE wr g lk.length c (rowV (ld ++ lk.drop k)) ∧ ld.map Prod.fst = (lk.take k).map (fun p => p.1.erase) ∧ Els wr ld ∧ Foot W1.heap.size wr (elsF ld) ∧ Oth g W1 wr
def ErasL (lk : List El) (g c : Nat) (W1 : World) (k : Nat) (wr : World) : Prop := ∃ ld : List El, ErasD lk g c W1 k wr ld
theorem ErasD.len {lk : List El} {g c : Nat} {W1 wr : World} {k : Nat} {ld : List El} (h : ErasD lk g c W1 k wr ld) (hk : k ≤ lk.length) : (ld ++ lk.drop k).length = lk.length := by
  have h1 := h.1
  rw [List.length_append, List.length_drop]; omega
theorem ErasD.row {lk : List El} {g c : Nat} {W1 wr : World} {k : Nat} {ld : List El} (h : ErasD lk g c W1 k wr ld) (hk : k ≤ lk.length) : RowE wr g (ld ++ lk.drop k).length c (rowV (ld ++ lk.drop k)) := by
  rw [h.len hk]; exact h.2.1
theorem ErasD.at {lk : List El} {g c : Nat} {W1 wr : World} {k : Nat} {ld : List El} (h : ErasD lk g c W1 k wr ld) (hk : k < lk.length) : (ld ++ lk.drop k)[k]? = some lk[k] := by
  rw [List.getElem?_append_right (by have := h.1; omega), h.1, Nat.sub_self, List.drop_eq_getElem_cons hk]; rfl
theorem ErasL.start {lk : List El} {g c : Nat} {W1 : World} (h : RowE W1 g lk.length c (rowV lk)) : ErasL lk g c W1 0 W1 :=
  ⟨[], rfl, by simpa using h, by simp, Els.nil _, (fun b hb => by cases hb), Oth.refl _ _⟩
theorem ErasD.next {lk : List El} {g c : Nat} {W1 wr W2 : World} {k : Nat} {ld : List El} (h : ErasD lk g c W1 k wr ld) (hg : g < W1.heap.size) (hk : k < lk.length) (hn : EraseAt g k c (ld ++ lk.drop k) lk[k].1 wr W2) : ErasL lk g c W1 (k + 1) W2 := by
  obtain ⟨h1, h2, h3, h4, h5, h6⟩ := h
  obtain ⟨v, F, r1, r2, r3, r4⟩ := hn
  have hlen : (ld ++ lk.drop k).length = lk.length := by rw [List.length_append, List.length_drop]; omega
  have e : (ld ++ lk.drop k).set k (lk[k].1.erase, v, F) = (ld ++ [(lk[k].1.erase, v, F)]) ++ lk.drop (k + 1) := by
    rw [List.set_append_right _ _ (by omega), h1, Nat.sub_self, List.drop_eq_getElem_cons hk, List.append_assoc]
    rfl
  rw [e, hlen] at r1
  have hs := h6.size
  refine ⟨ld ++ [(lk[k].1.erase, v, F)], by simp [h1], r1, ?_, ?_, ?_, h6.trans r2⟩
  · rw [List.map_append, h3, List.take_succ_eq_append_getElem hk, List.map_append]; rfl
  · refine (h4.keep fun b hb => ?_).snoc (p := (lk[k].1.erase, v, F)) ?_ fun b hb hb2 => ?_
    · have := h5 b hb
      exact r2.2 b (by omega) (by omega)
    · show OwnK W2 v (lk[k].1.erase).kids F
      rw [Ex.erase_kids]; exact r3
    · have h7 := h5 b hb
      have h8 := r4 b hb2
      omega
  · intro b hb
    rw [elsF_snoc] at hb
    have := r2.size
    rcases List.mem_append.1 hb with hb | hb
    · have := h5 b hb; omega
    · have := r4 b hb; omega
theorem ErasL.done {lk : List El} {g c : Nat} {W1 wr : World} (h : ErasL lk g c W1 lk.length wr) (hg : g < W1.heap.size) : ∃ F, OwnK wr (.slice (some ⟨g, 0, none⟩) lk.length c) (Ex.erases (lk.map Prod.fst)) F ∧ Oth g W1 wr ∧ ∀ b ∈ F, (b = g ∨ W1.heap.size ≤ b) ∧ b < wr.heap.size := by
  obtain ⟨ld, h1, h2, h3, h4, h5, h6⟩ := h
  rw [List.drop_length, List.append_nil] at h2
  rw [List.take_length] at h3
  have e : Ex.erases (lk.map Prod.fst) = ld.map Prod.fst := by rw [Ex.erases_map, h3, List.map_map]; rfl
  have hr : RowE wr g ld.length c (rowV ld) := by rw [h1]; exact h2
  have hK := ownK_els hr h4 (fun hm => by have := (h5 g hm).1; omega)
  rw [h1] at hK
  rw [e]
  refine ⟨_, hK, h6, fun b hb => ?_⟩
  have hs := h6.size
  split at hb
  · cases hb
  · rcases List.mem_cons.1 hb with rfl | hb
    · exact ⟨.inl rfl, by omega⟩
    · have := h5 b hb; exact ⟨.inr this.1, this.2⟩
theorem rowV_foot {l : List El} {i : Nat} (hi : i < l.length) (t : Ex.T) (v : Value) (F G : List Nat) : rowV (l.set i (t, v, F)) = rowV (l.set i (t, v, G)) := by
  rw [← rowV_set (t, v, F) l i hi, ← rowV_set (t, v, G) l i hi]
end Go.Proofs.YtbadepiakkhabaaDoor
/- The program's walk of a tree that erases lines: every tree. No conditions. -/
namespace Go.Proofs.YtbadepiakkhabaaDoor
open Go.RowKit Go.Shelf
set_option linter.unusedVariables false
attribute [local go_sem] Oper.semAt_some

set_option maxRecDepth 100000 in
set_option maxHeartbeats 2000000 in
theorem erase_visit (F : Fence) (hd : F.depth = none) (hF : F.fn 116) (hro : F.round = none) (w0 : World) (L : Nat) (ob : Obj) (hob : ob.isCells = false)
    (hY : ∀ m (x : XN) (W : World), XPre w0 L x W → W.heap[L]? = some ob → YieldAt F m Tryd.prog L (xnV x) W fun e W' => e = .returned (.bool true) ∧ XRel x W W') :
    ∀ (M : Nat) (t : Ex.T), t.count ≤ M → EraT F w0 L ob t := by
  intro M
  induction M with
  | zero => intro t h; have := Ex.count_pos t; omega
  | succ M ih =>
    intro t hM n g i d cap l W p hp hpt hb hdd hrow hg hgL hW hL hkp
    subst hpt
    obtain ⟨lk, hlk⟩ := kid_ok hkp
    have hbe := bulk_eq p.1
    have hde := deep_eq p.1
    have hkl : p.1.kids.length = lk.length := by rw [hlk.1, List.length_map]
    have hlL : L < W.heap.size := (Array.getElem?_eq_some_iff.1 hL).1
    obtain ⟨fn, tmps, assign, body, hy, hR⟩ := hY (n - 1) ⟨g, i, d, cap, l, p, lk⟩ W ⟨⟨hp, hrow⟩, ⟨hg, hgL⟩, hW, hlk, ⟨by show lk.length ≤ 1048576; omega, by show p.1.text.size ≤ 1048576; omega⟩⟩ hL
    dsimp only [xnV] at hy
    unfold XRel at hR
    dsimp only at hR
    have hdk : ∀ k : Nat, (F.depth.isSome = true → 1 ≤ k) := fun k h => by rw [hd] at h; cases h
    have HI := Lib.hid (fun (x : Ex.T) (hx : x ∈ p.1.kids) => ih x (by have := kids_count hx; omega))
    have HM : Hid (∀ x ∈ p.1.kids, x.bulk ≤ 1048576 ∧ d + 1 + x.deep ≤ 2097152) := Lib.hid (fun x hx => ⟨by have := Ex.bulks_mem hx; omega, by have := deeps_mem hx; omega⟩)
    have hln : lk.length ≤ 1048576 := by omega
    have HP := Lib.hid hp
    have HGW := Lib.hid hrow.lt
    have HGL := Lib.hid hgL
    have HG := Lib.hid hg
    have HW := Lib.hid hW
    have HLL := Lib.hid hlL
    have HL := Lib.hid hL
    have HK := Lib.hid hlk
    clear ih hY hM hbe hde hb hp hg hgL hW hlL hL hlk hrow hkp hkl
    refine callsIn_of_wp Tryd.func116 rfl hF ?_ hro
    simp only [Tryd.ntmps116, List.size_toArray, List.length_cons, List.length_nil, Nat.reduceAdd, Nat.reduceSub, Array.replicate_succ, Array.replicate_zero, List.push_toArray, List.append_toArray, List.nil_append, List.cons_append]
    gi_wp2
    refine hR.mono ?_
    clear hR hy
    rintro e W1 ⟨rfl, v, hr1, ho1, hs1⟩
    have hr1l : RowE W1 g (l.set i (p.1.erase, v, [])).length cap (rowV (l.set i (p.1.erase, v, []))) := by rw [List.length_set]; exact hr1
    have hi := (List.getElem?_eq_some_iff.1 HP.out).1
    have c4 := row_node hr1l (p := (p.1.erase, v, [])) (List.getElem?_set_self hi)
    have HR1 := Lib.hid hr1
    have HO1 := Lib.hid ho1
    clear hr1 ho1 hr1l
    rcases hs1 with ⟨rfl, a, c, rfl⟩ | ⟨h0, g2, c, rfl, hg2, hr2⟩
    · have HE : Hid (EraseAt g i cap l p.1 W W1) := Lib.hid ⟨_, [], HR1.out, HO1.out, by rw [HK.out.1, List.map_nil, Ex.erases, OwnK]; exact ⟨rfl, _, _, rfl⟩, (fun b hb => by cases hb)⟩
      clear HR1 HO1
      gi_wp2
      gi_loopw [7, 18] (fun _ i wr => i = .int .i64 0 ∧ W1 = wr) (fun _ _ _ => 0)
      case atStart => exact ⟨rfl, rfl⟩
      case round =>
        obtain ⟨rfl, rfl⟩ := hrel
        gi_wp2
        go_ret
        exact ⟨rfl, HE.out⟩
    · have hg2l := hr2.lt
      have HG2 := Lib.hid hg2
      have hgw := HGW.out
      have hll := HLL.out
      have hgg : g ≠ g2 := by omega
      have hLg : g2 ≠ L := by omega
      have HGG := Lib.hid hgg
      have c4a : W1.cell? ⟨g, i * 5 + 4, none⟩ = some (.slice (some ⟨g2, 0, none⟩) lk.length c) := c4
      have hg1 : g < W1.heap.size := by have := HO1.out.size; omega
      have HC4 := Lib.hid (fun wr (hh : Oth g2 W1 wr) => (cell_keep (hh.2 g hgg hg1) (i * 5 + 4)).trans c4a)
      have HST := Lib.hid (ErasL.start hr2)
      have hL1 : W1.heap[L]? = some ob := (HO1.out.2 L (fun e => HGL.out e.symm) hll).trans HL.out
      have hll1 : L < W1.heap.size := (Array.getElem?_eq_some_iff.1 hL1).1
      have HL1 := Lib.hid (fun wr (hh : Oth g2 W1 wr) => (hh.2 L (fun e => hLg e.symm) hll1).trans hL1)
      have hW1 : Below w0.heap.size w0 W1 := HW.out.trans (HO1.out.below HG.out HW.out.size)
      have HW1 := Lib.hid (fun wr (hh : Oth g2 W1 wr) => hW1.trans (hh.below (by have := HW.out.size; omega) hW1.size))
      have hw0g : w0.heap.size ≤ g2 := by have := HW.out.size; omega
      clear c4 hr2 hgw hll hgg hg1 hL1 hll1 hW1
      gi_wp2
      gi_loopw [7, 18] (fun _ i wr => ∃ k : Nat, i = .int .i64 k ∧ k ≤ lk.length ∧ ErasL lk g2 c W1 k wr) (fun _ i _ => lk.length - (intOf i).toNat)
      case atStart => exact ⟨0, rfl, Nat.zero_le _, HST.out⟩
      case round =>
        clear HST c4a
        obtain ⟨k, rfl, hk, ld, hat⟩ := hrel
        have HAT := Lib.hid hat
        have ho : Oth g2 W1 wr := hat.2.2.2.2.2
        have c4 := HC4.out wr ho
        by_cases hlt : k < lk.length
        · have hm := HM.out lk[k].1 (by rw [HK.out.1]; exact List.mem_map.2 ⟨lk[k], List.getElem_mem hlt, rfl⟩)
          have HR := Lib.hid (HI.out lk[k].1 (by rw [HK.out.1]; exact List.mem_map.2 ⟨lk[k], List.getElem_mem hlt, rfl⟩) (n - 1) g2 k (d + 1) c (ld ++ lk.drop k) wr lk[k] (hat.at hlt) rfl hm.1 (by have := hm.2; omega) (hat.row (by omega)) hw0g hLg (HW1.out _ ho) (HL1.out _ ho) (HK.out.2.2.2 lk[k] (List.getElem_mem hlt)).2)
          rw [show ((d + 1 : Nat) : Int) = (d : Int) + 1 by omega] at HR
          have e1 : IntKind.i64.wrap ((d : Int) + 1) = (d : Int) + 1 := IntWalk.i64_in _ (by have := hm.2; omega)
          have k0 : (0 : Int) ≤ k := by omega
          have k1 : (k : Int) < lk.length := by omega
          have HNX := Lib.hid (fun W2 he => HAT.out.next (W2 := W2) hg2l hlt he)
          clear hm hat ho
          gi_wp2
          refine HR.out.mono ?_
          clear HR
          rintro e W2 ⟨rfl, he⟩
          have HE := Lib.hid (HNX.out W2 he)
          clear he
          gi_wp2
          go_roundw
          case rel => exact ⟨k + 1, by go_num, by omega, HE.out⟩
          case measure => first | (simp [intOf]; done) | (simp [intOf]; omega)
        · obtain rfl : k = lk.length := by omega
          have HD := Lib.hid (ErasL.done ⟨ld, HAT.out⟩ hg2l)
          clear hat ho
          gi_wp2
          go_ret
          refine ⟨rfl, ?_⟩
          obtain ⟨G, d1, d2, d3⟩ := HD.out
          rw [← HK.out.1] at d1
          refine ⟨_, G, ?_, HO1.out.new d2 HG2.out, d1, fun b hb => ?_⟩
          · rw [rowV_foot hi _ _ G []]
            exact HR1.out.keep (d2.2 g HGG.out HR1.out.lt)
          · have h1 := d3 b hb
            have h2 := HO1.out.size
            have h3 := HG2.out
            refine ⟨?_, h1.2⟩
            rcases h1.1 with h | h <;> omega
end Go.Proofs.YtbadepiakkhabaaDoor
/- The program's iterator over the nodes of a tree; its numbers of nodes and depths. No conditions. -/
namespace Go.Proofs.YtbadepiakkhabaaDoor
open Go.RowKit Go.Shelf
set_option linter.unusedVariables false
attribute [local go_sem] Oper.semAt_some

theorem nodes_of (F : Fence) (n : Nat) (hF : F.fn 84) (hro : F.round = none) (p : Option Addr) (w : World) :
    CallsIn F n Tryd.prog 84 #[.pointer p] w fun e w' => e = .returned (.func (.func 115) #[] #[.pointer (some ⟨w.heap.size, 0, none⟩)]) ∧ w' = w.alloc (.cells #[.pointer p] 155) := by
  refine callsIn_of_wp Tryd.func84 rfl hF ?_ hro
  simp only [Tryd.ntmps84, List.size_toArray, List.length_cons, List.length_nil, Nat.reduceAdd, Nat.reduceSub, Array.replicate_succ, Array.replicate_zero, List.push_toArray, List.append_toArray, List.nil_append, List.cons_append]
  gi_wp2
  go_ret
  exact ⟨rfl, rfl⟩
set_option maxHeartbeats 1000000 in
theorem nodes_stop (F : Fence) (hd : F.depth = none) (n : Nat) (h1 : F.fn 115) (h2 : F.fn 116) (hro : F.round = none) (w0 : World) (g o Bt : Nat) (t : Ex.T) (w : World) (hBt : Bt < w.heap.size) (hw : Below w0.heap.size w0 w)
    (hc : w.cell? ⟨Bt, 0, none⟩ = some (.pointer (some ⟨g, o, none⟩))) (ht : TreeAt w0 g o t) (hb : t.bulk ≤ 1048576) :
    SeqStopsK F n Tryd.prog 115 #[.pointer (some ⟨Bt, 0, none⟩)] (fun x : Nd w0 => ndV x) (Below w0.heap.size) (fun ys => ys.map Nd.dat = t.pre 1) (fun pre => pre.map Nd.dat <+: t.pre 1) t.count w := by
  intro l J Jx W hW _ _ hY h0
  have hdk : ∀ k : Nat, (F.depth.isSome = true → 1 ≤ k) := fun k h => by rw [hd] at h; cases h
  have hds := small_deep hb
  have hp := visit_tree F hd h2 hro l w0 t.count J Jx (fun m pre x W hj hl => YieldAt.any hd m (hY pre x W hj hl)) t.count t (Nat.le_refl _) (n - 1) g o 1 [] W hb (by omega) ht (hw.trans (hW.mono hw.size)) h0 (by simp)
  have hc2 := (hW.cell (p := ⟨Bt, 0, none⟩) hBt).trans hc
  refine callsIn_of_wp Tryd.func115 rfl h1 ?_ hro
  simp only [Tryd.ntmps115, List.size_toArray, List.length_cons, List.length_nil, Nat.reduceAdd, Nat.reduceSub, Array.replicate_succ, Array.replicate_zero, List.push_toArray, List.append_toArray, List.nil_append, List.cons_append]
  clear hY
  gi_wp2
  refine hp.mono ?_
  clear hp
  rintro e W1 (⟨rfl, ⟨q, hq, hJ⟩, _⟩ | ⟨rfl, q, hq, hx⟩)
  · gi_wp2
    go_end0
    exact ⟨⟨_, rfl⟩, .inl ⟨q, hq, hJ⟩⟩
  · gi_wp2
    go_end0
    exact ⟨⟨_, rfl⟩, .inr ⟨q, hq, hx⟩⟩

theorem cell_one (W : World) (v : Value) (t : TypeId) : (W.alloc (.cells #[v] t)).cell? ⟨W.heap.size, 0, none⟩ = some v ∧ (W.alloc (.cells #[v] t)).frozen? ⟨W.heap.size, 0, none⟩ = false :=
  ⟨cell_of_one (World.alloc_heap_new W _), free_of_one (World.alloc_heap_new W _)⟩
theorem cell_alloc {W : World} {a : Addr} {v : Value} (o : Obj) (h : W.cell? a = some v) : (W.alloc o).cell? a = some v := cell_kept h (World.grownBy_alloc W o none) (fun r e => by cases e)
theorem frozen_alloc {W : World} {a : Addr} {v : Value} (o : Obj) (h : W.cell? a = some v) (hf : W.frozen? a = false) : (W.alloc o).frozen? a = false := (frozen_kept h (World.grownBy_alloc W o none) (fun r e => by cases e)).trans hf
/-- A tree that is a variable of the call's own. -/
theorem box_tree {w : World} {t : Ex.T} {v : Value} (hk : Kids w v t.kids) : TreeAt (w.alloc (.cells #[.int .i64 t.kind, .string t.text, .int .i64 t.num, .int .i64 t.line, v] 105)) w.heap.size 0 t := by
  obtain ⟨a0, a1, a2, a3, a4⟩ := CellsE.new w t v 105
  exact tree_of ⟨a0, a1, a2, a3⟩ a4 (hk.later (bl1 _ _))
/-- The greatest depth among what has come. -/
def maxD (l : List (Ex.T × Nat)) : Nat := l.foldl (fun m x => max m x.2) 0
theorem maxD_snoc (l : List (Ex.T × Nat)) (x : Ex.T × Nat) : maxD (l ++ [x]) = max (maxD l) x.2 := by simp [maxD]
theorem foldl_max (l : List (Ex.T × Nat)) (m : Nat) : l.foldl (fun m x => max m x.2) m = max m (maxD l) := by
  unfold maxD
  induction l generalizing m with
  | nil => simp
  | cons x r ih => rw [List.foldl_cons, List.foldl_cons, ih, ih (max 0 x.2)]; omega
theorem maxD_app (a b : List (Ex.T × Nat)) : maxD (a ++ b) = max (maxD a) (maxD b) := by
  conv => lhs; unfold maxD
  rw [List.foldl_append, foldl_max]; rfl
mutual
theorem maxD_pre : ∀ (t : Ex.T) (d : Nat), maxD (t.pre d) + 1 = d + t.deep
  | .node k t n l ks, d => by
    rw [Ex.T.pre, Ex.T.deep]
    have h := maxD_pres ks (d + 1)
    rw [show ((Ex.T.node k t n l ks, d) :: Ex.pres ks (d + 1)) = [(Ex.T.node k t n l ks, d)] ++ Ex.pres ks (d + 1) from rfl, maxD_app]
    have e : maxD [(Ex.T.node k t n l ks, d)] = d := by simp [maxD]
    rw [e]
    rcases h with ⟨h1, h2⟩ | h
    · rw [h1, h2]; simp [maxD]
    · omega
theorem maxD_pres : ∀ (l : List Ex.T) (d : Nat), (Ex.deeps l = 0 ∧ Ex.pres l d = []) ∨ (maxD (Ex.pres l d) + 1 = d + Ex.deeps l ∧ 1 ≤ Ex.deeps l)
  | [], d => .inl ⟨by rw [Ex.deeps], by rw [Ex.pres]⟩
  | x :: r, d => by
    right
    rw [Ex.pres, Ex.deeps, maxD_app]
    have h1 := maxD_pre x d
    have h3 := Ex.deep_pos x
    have h0 : maxD [] = 0 := rfl
    rcases maxD_pres r d with ⟨h, h2⟩ | h
    · rw [h2, h]; omega
    · omega
end
end Go.Proofs.YtbadepiakkhabaaDoor
