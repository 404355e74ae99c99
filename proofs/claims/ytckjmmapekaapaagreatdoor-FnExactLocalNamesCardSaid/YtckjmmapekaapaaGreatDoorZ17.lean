/- Joined texts: V24, V25, V3. No conditions besides those that each states. -/
import Derived.Maps.OwnSet
import Derived.Maps.Views
import Derived.Test.YtckjmmapekaapaaGreatDoorZ16
/- Maps from names to what they mean: what is in them, behind a store, at a look-up. No conditions. -/
namespace Go.Proofs.YtckjmmapekaapaaGreatDoor
open Go.RowKit
set_option linter.unusedVariables false

abbrev meanV (p : Int × Int) : Value := .agg #[.int .i64 p.1, .int .i64 p.2]
def meanD (p : Int × Int) : DataW Unit := .agg [.lit (.int .i64 p.1), .lit (.int .i64 p.2)]
/-- How a meaning reads. -/
def meanE : Value → Option (DataW Unit × List MemPlace)
  | .agg cs => match cs.toList with
    | [.int .i64 a, .int .i64 b] => some (meanD (a, b), [])
    | _ => none
  | _ => none
theorem meanE_mk (p : Int × Int) : meanE (meanV p) = some (meanD p, []) := rfl
theorem meanE_inv {v : Value} {p : Int × Int} {ps : List MemPlace} (h : meanE v = some (meanD p, ps)) : v = meanV p := by
  unfold meanE at h
  split at h
  · rename_i cs
    split at h
    · rename_i a b hl
      simp only [Option.some.injEq, Prod.mk.injEq, meanD, DataW.agg.injEq, List.cons.injEq, DataW.lit.injEq, Lit.int.injEq, true_and, and_true] at h
      obtain ⟨⟨h1, h2⟩, _⟩ := h
      obtain rfl : cs = #[.int .i64 a, .int .i64 b] := Array.toList_inj.1 hl
      rw [h1, h2]
    · cases h
  · cases h
abbrev keyL (s : ByteArray) : Lit := .string s.data.toList
theorem keyL_inj {s x : ByteArray} (h : keyL s = keyL x) : s = x := by
  injection h with h
  cases s; cases x
  exact congrArg ByteArray.mk (Array.toList_inj.1 h)
theorem keyL_is (s : ByteArray) : WideAt.IsKeyLit (keyL s) := trivial
theorem key_law : Maps.Keyed Tryz.prog 9 := Maps.string_keyed Tryz.underlying9
/-- Block b is a map of at most n names that says f. -/
def MapM (w : World) (b n : Nat) (f : ByteArray → Option (Int × Int)) : Prop := ∃ D : DataW Unit, w.ownsMap Tryz.prog 9 meanE b n D ∧ ∀ s : ByteArray, Maps.has D (keyL s) = (f s).isSome ∧ ∀ p, f s = some p → D.atKey (keyL s) (meanD (0, 0)) = meanD p
theorem MapM.lt {w : World} {b n : Nat} {f : ByteArray → Option (Int × Int)} (h : MapM w b n f) : b < w.heap.size := by obtain ⟨D, h, _⟩ := h; exact h.lt
theorem MapM.obj {w : World} {b n : Nat} {f : ByteArray → Option (Int × Int)} (h : MapM w b n f) : ∃ o : Obj, w.heap[b]? = some o ∧ o.isCells = false := by
  obtain ⟨D, ⟨es, clock, hb, _⟩, _⟩ := h
  exact ⟨_, hb, rfl⟩
theorem MapM.keep {w w' : World} {b n : Nat} {f : ByteArray → Option (Int × Int)} (h : MapM w b n f) (hb : w'.heap[b]? = w.heap[b]?) : MapM w' b n f := by
  obtain ⟨D, ⟨es, clock, h1, h2⟩, h3⟩ := h
  exact ⟨D, ⟨es, clock, hb.trans h1, h2⟩, h3⟩
theorem MapM.later {w w' : World} {b n : Nat} {f : ByteArray → Option (Int × Int)} (h : MapM w b n f) (hb : Below w.heap.size w w') : MapM w' b n f := h.keep (hb.block _ h.lt)
theorem MapM.made (w : World) : MapM (w.alloc (.map #[] 0)) w.heap.size 0 fun _ => none :=
  ⟨_, World.ownsMap_made w Tryz.prog 9 meanE, fun s => ⟨rfl, fun p h => by cases h⟩⟩
theorem MapM.congr {w : World} {b n : Nat} {f g : ByteArray → Option (Int × Int)} (h : MapM w b n f) (hg : ∀ s, g s = f s) : MapM w b n g := by
  obtain rfl : g = f := funext hg
  exact h
theorem MapM.mono {w : World} {b n m : Nat} {f : ByteArray → Option (Int × Int)} (h : MapM w b n f) (hn : n ≤ m) : MapM w b m f := by
  obtain ⟨D, h1, h2⟩ := h
  exact ⟨D, h1.mono hn, h2⟩
theorem zero_mean (w : World) : (zeroValue 100).run Tryz.prog w = .ok (.agg #[.int .i64 0, .int .i64 0]) w := by kernel_rfl
/-- What a look-up answers. -/
def lookV (f : ByteArray → Option (Int × Int)) (s : ByteArray) : Int × Int := match f s with | some p => p | none => (0, 0)
theorem MapM.look {w : World} {b n : Nat} {f : ByteArray → Option (Int × Int)} (h : MapM w b n f) {s : ByteArray} (hs : s.size ≤ maxLen) : (Instr.lookup 56 (.map (some b)) (.string s) true).run Tryz.prog w = .ok (.tuple #[meanV (lookV f s), .bool (f s).isSome]) w := by
  obtain ⟨D, h1, h2⟩ := h
  obtain ⟨v, ps, hr, hv⟩ := h1.look_ok key_law Tryz.underlying56 (zero_mean w) (meanE_mk (0, 0)) (WideMaps.keyOf_string_mk Tryz.underlying9 hs)
  rw [hr, (h2 s).1]
  have e : v = meanV (lookV f s) := by
    refine meanE_inv (ps := ps) (hv.trans ?_)
    unfold lookV
    cases hf : f s with
    | some p => rw [(h2 s).2 p hf]
    | none =>
      have hh := (h2 s).1
      rw [hf] at hh
      rw [Maps.atKey_of_not_has (by simpa using hh)]
  rw [e]
theorem wpList_look {w : World} {b n : Nat} {f : ByteArray → Option (Int × Int)} {s : ByteArray} {ops : Array Oper} {rest : List Oper} {o : Oper} {a : Act} {Q : Exit → Act → World → Prop} (hgd : o.guard = none) (m x : Operand) (hop : o.op = Op.lookup 56 m x true)
    (hm : a.eval m = .map (some b)) (hx : a.eval x = .string s) (h : MapM w b n f) (hs : s.size ≤ maxLen) (hK : wpList Tryz.prog ops Q rest (a.put o.dst (.tuple #[meanV (lookV f s), .bool (f s).isSome])) w) : wpList Tryz.prog ops Q (o :: rest) a w := by
  refine wpList_plain hgd fun K' hK' => ?_
  have hr := h.look hs
  unfold Oper.wp
  simp [execOp, hop, hm, hx, hr, Result.andThen]
  exact hK' _ _ hK
/-- What a name means once it has been given a meaning unless it had one. -/
def decl (f : ByteArray → Option (Int × Int)) (s : ByteArray) (p : Int × Int) : ByteArray → Option (Int × Int) := fun x => match f x with | some q => some q | none => if eqN s x then some p else none
theorem decl_old {f : ByteArray → Option (Int × Int)} {s : ByteArray} {p : Int × Int} (h : (f s).isSome = true) (x : ByteArray) : decl f s p x = f x := by
  unfold decl
  cases hx : f x with
  | some q => rfl
  | none =>
    simp only
    rw [if_neg]
    intro he
    rw [eqN_iff.1 he, hx] at h
    cases h
theorem MapM.put {w : World} {b n : Nat} {f : ByteArray → Option (Int × Int)} (h : MapM w b n f) {s : ByteArray} (hs : s.size ≤ maxLen) (hn : n < maxLen) (hf : f s = none) (p : Int × Int) : ∃ w', (Instr.mapUpdate 56 (.map (some b)) (.string s) (meanV p)).run Tryz.prog w = .ok () w' ∧ MapM w' b (n + 1) (decl f s p) ∧ w.grownBy w' (some b) := by
  obtain ⟨D, h1, h2⟩ := h
  obtain ⟨w', hr, h3, h4⟩ := h1.update key_law Tryz.underlying56 hn (WideMaps.keyOf_string_mk Tryz.underlying9 hs) (meanE_mk p)
  have hM := h1.isMap
  refine ⟨w', hr, ⟨_, h3, fun x => ?_⟩, h4⟩
  by_cases hx : x = s
  · subst hx
    rw [Maps.has_put_same hM (keyL_is x)]
    unfold decl
    rw [hf, eqN_self]
    refine ⟨rfl, fun q hq => ?_⟩
    obtain rfl : p = q := by simpa using hq
    exact Maps.atKey_put_same hM (keyL_is x) _ _
  · have hne : keyL x ≠ keyL s := fun e => hx (keyL_inj e)
    rw [Maps.has_put_other hne, (h2 x).1]
    have e : decl f s p x = f x := by
      unfold decl
      rw [eqN_ne (fun e => hx e.symm)]
      cases f x <;> rfl
    rw [e]
    refine ⟨rfl, fun q hq => ?_⟩
    rw [Maps.atKey_put_other hne]
    exact (h2 x).2 q hq
theorem wpList_put {w : World} {b n : Nat} {f : ByteArray → Option (Int × Int)} {s : ByteArray} {p : Int × Int} {ops : Array Oper} {rest : List Oper} {o : Oper} {a : Act} {Q : Exit → Act → World → Prop} (hgd : o.guard = none) (m x y : Operand) (hop : o.op = Op.mapUpdate 56 m x y)
    (hm : a.eval m = .map (some b)) (hx : a.eval x = .string s) (hy : a.eval y = meanV p) (h : MapM w b n f) (hs : s.size ≤ maxLen) (hn : n < maxLen) (hf : f s = none) (hK : ∀ w', MapM w' b (n + 1) (decl f s p) → w.grownBy w' (some b) → wpList Tryz.prog ops Q rest (a.put o.dst undef) w') : wpList Tryz.prog ops Q (o :: rest) a w := by
  refine wpList_plain hgd fun K' hK' => ?_
  obtain ⟨w', hr, h1, h2⟩ := h.put hs hn hf p
  unfold Oper.wp
  simp [execOp, hop, hm, hx, hy, hr, Result.andThen]
  exact hK' _ _ (hK w' h1 h2)
end Go.Proofs.YtckjmmapekaapaaGreatDoor
/- The program's meanings: declaring a name, asking for one. The table reads as the program's text lays it. -/
namespace Go.Proofs.YtckjmmapekaapaaGreatDoor
open Go.RowKit
set_option linter.unusedVariables false

def DeclR (b n : Nat) (f : ByteArray → Option (Int × Int)) (w : World) (e : Ending) (w' : World) : Prop := e = .returned (.tuple #[]) ∧ MapM w' b n f ∧ w.grownBy w' (some b)
theorem grown_alloc (w : World) (o : Obj) (r : Option Nat) : w.grownBy (w.alloc o) r := World.grownBy_alloc w o r
theorem grownr_trans {w w1 w2 : World} {r : Option Nat} (h1 : w.grownBy w1 r) (h2 : w1.grownBy w2 r) : w.grownBy w2 r :=
  ⟨h2.os.trans h1.os, h2.tape.trans h1.tape, h2.output.trans h1.output, Nat.le_trans h1.size h2.size, fun b hb hne => (h2.block b (Nat.lt_of_lt_of_le hb h1.size) hne).trans (h1.block b hb hne)⟩
set_option maxHeartbeats 800000 in
theorem impl_declare (b n : Nat) (f : ByteArray → Option (Int × Int)) (s : ByteArray) (k1 k2 : Int) (w : World) (h : MapM w b n f) (hs : s.size ≤ maxLen) (hn : n < maxLen) : Calls Tryz.prog 75 #[.map (some b), .string s, .int .i64 k1, .int .i64 k2] w (DeclR b (n + 1) (decl f s (k1, k2)) w) := by
  unfold DeclR
  have HM := Lib.hid h
  have HS := Lib.hid hs
  have HN := Lib.hid hn
  obtain ⟨p, hp⟩ : ∃ p, lookV f s = p := ⟨_, rfl⟩
  have hl := h.look hs
  rw [hp] at hl
  rcases hf : f s with _ | q
  · have h1 : (f s).isSome = false := by rw [hf]; rfl
    rw [h1] at hl
    have HF := Lib.hid hf
    have hm2 := h.later (bl1 w (.cells #[.int .i64 p.1, .int .i64 p.2] 100))
    have HM2 := Lib.hid hm2
    have HL := Lib.hid hl
    clear h hs hn hf h1 hm2 hp hl
    go_enter Tryz.func75, Tryz.ntmps75
    have hl := HL.out
    go_wp2_with (at_mapUpdate; refine wpList_put (p := (k1, k2)) rfl _ _ _ rfl rfl rfl rfl HM2.out HS.out HN.out HF.out ?_; intro w2 hm2 hg2)
    go_end0
    exact ⟨rfl, hm2, grownr_trans (grown_alloc _ _ _) hg2⟩
  · have h1 : (f s).isSome = true := by rw [hf]; rfl
    have HX := Lib.hid (decl_old (p := (k1, k2)) h1)
    rw [h1] at hl
    have hm2 := h.later (bl1 w (.cells #[.int .i64 p.1, .int .i64 p.2] 100))
    have HM2 := Lib.hid hm2
    have HL := Lib.hid hl
    clear h hs hn hf h1 hm2 hp hl
    go_enter Tryz.func75, Tryz.ntmps75
    have hl := HL.out
    go_wp2
    go_end0
    exact ⟨rfl, (HM2.out.congr HX.out).mono (Nat.le_succ _), grown_alloc _ _ _⟩
/-- What a name means, functions included. -/
def meanOf (f : ByteArray → Option (Int × Int)) (s : ByteArray) : Int × Int := match f s with | some p => p | none => (match fx funL s with | some k => (4, k) | none => (0, 0))
def RetM (w : World) (p : Int × Int) (e : Ending) (w' : World) : Prop := e = .returned (meanV p) ∧ Below w.heap.size w w'
set_option maxHeartbeats 1600000 in
theorem impl_of (b n : Nat) (f : ByteArray → Option (Int × Int)) (s : ByteArray) (w : World) (h : MapM w b n f) (hN : NamesAt w) (hs : s.size ≤ maxLen) : Calls Tryz.prog 53 #[.map (some b), .string s] w (RetM w (meanOf f s)) := by
  unfold RetM
  have HM := Lib.hid h
  have HS := Lib.hid hs
  have HN := Lib.hid (fun W (hW : Below w.heap.size w W) => impl_fnumber s W (hN.later hW))
  rcases hf : f s with _ | q
  · have hl : (Instr.lookup 56 (.map (some b)) (.string s) true).run Tryz.prog (w.alloc (.cells #[.int .i64 0, .int .i64 0] 100)) = .ok (.tuple #[.agg #[.int .i64 0, .int .i64 0], .bool false]) (w.alloc (.cells #[.int .i64 0, .int .i64 0] 100)) := by
      rw [(h.later (bl1 w _)).look hs]
      unfold lookV
      rw [hf]; rfl
    have HB := Lib.hid (bl2 w (.cells #[.int .i64 0, .int .i64 0] 100) (.cells #[.int .i64 0, .int .i64 0] 100))
    have HC := Lib.hid (HN.out _ HB.out)
    rcases hg : fx funL s with _ | k
    · have HX : Hid (meanOf f s = (0, 0)) := Lib.hid (by unfold meanOf; rw [hf]; simp only; rw [hg])
      rw [fxI_none hg] at HC
      rw [HX.out]
      clear h hs hN hf hg HX HN
      go_enter Tryz.func53, Tryz.ntmps53
      go_wp2_with (go_at_call 78; (with_reducible refine HC.out.mono ?_); rintro e w3 ⟨rfl, rfl⟩)
      exact bodyPost_ret (v := meanV (0, 0)) (by simp [results, Tryz.results53, go_sem]) rfl ⟨rfl, bl2 _ _ _⟩
    · have HX : Hid (meanOf f s = (4, (k : Int))) := Lib.hid (by unfold meanOf; rw [hf]; simp only; rw [hg])
      rw [fxI_some hg] at HC
      rw [HX.out]
      clear h hs hN hf hg HX HN
      go_enter Tryz.func53, Tryz.ntmps53
      go_wp2_with (go_at_call 78; (with_reducible refine HC.out.mono ?_); rintro e w3 ⟨rfl, rfl⟩)
      exact bodyPost_ret (v := meanV (4, (k : Int))) (by simp [results, Tryz.results53, go_sem]) rfl ⟨rfl, bl2 _ _ _⟩
  · have hl : (Instr.lookup 56 (.map (some b)) (.string s) true).run Tryz.prog (w.alloc (.cells #[.int .i64 0, .int .i64 0] 100)) = .ok (.tuple #[.agg #[.int .i64 q.1, .int .i64 q.2], .bool true]) (w.alloc (.cells #[.int .i64 0, .int .i64 0] 100)) := by
      rw [(h.later (bl1 w _)).look hs]
      unfold lookV
      rw [hf]; rfl
    have HB := Lib.hid (bl2 w (.cells #[.int .i64 0, .int .i64 0] 100) (.cells #[.int .i64 q.1, .int .i64 q.2] 100))
    have HX : Hid (meanOf f s = q) := Lib.hid (by unfold meanOf; rw [hf])
    rw [HX.out]
    clear h hs hN hf HX HN
    go_enter Tryz.func53, Tryz.ntmps53
    go_wp2
    exact bodyPost_ret (v := meanV q) (by simp [results, Tryz.results53, go_sem]) rfl ⟨rfl, bl2 _ _ _⟩
end Go.Proofs.YtckjmmapekaapaaGreatDoor
/- The reference model: what a name means outside of procedures. No conditions. -/
namespace Go.Proofs.YtckjmmapekaapaaGreatDoor
open Go.RowKit
set_option linter.unusedVariables false

def RetII (w : World) (p : Int × Int) (e : Ending) (w' : World) : Prop := e = .returned (.tuple #[.int .i64 p.1, .int .i64 p.2]) ∧ Below w.heap.size w w'
theorem ret_ii {a b : Int} {p : Int × Int} (h : p = (a, b)) : Ending.returned (.tuple #[.int .i64 a, .int .i64 b]) = .returned (.tuple #[.int .i64 p.1, .int .i64 p.2]) := by rw [h]
theorem outer_rec {u : Un} {s : ByteArray} {k : Nat} (h : fx (u.recs.map Rc.name) s = some k) : outer u s = (5, (k : Int)) := by unfold outer; rw [h]
theorem outer_glob {u : Un} {s : ByteArray} {k : Nat} (h0 : fx (u.recs.map Rc.name) s = none) (h : fx u.globs s = some k) : outer u s = (2, (k : Int)) := by unfold outer; rw [h0, h]
theorem outer_proc {u : Un} {s : ByteArray} {k : Nat} (h0 : fx (u.recs.map Rc.name) s = none) (h1 : fx u.globs s = none) (h : fx (u.procs.map Pc.name) s = some k) : outer u s = (3, (k : Int)) := by unfold outer; rw [h0, h1, h]
theorem outer_fun {u : Un} {s : ByteArray} {k : Nat} (h0 : fx (u.recs.map Rc.name) s = none) (h1 : fx u.globs s = none) (h2 : fx (u.procs.map Pc.name) s = none) (h : fx funL s = some k) : outer u s = (4, (k : Int)) := by unfold outer; rw [h0, h1, h2, h]
theorem outer_none {u : Un} {s : ByteArray} (h0 : fx (u.recs.map Rc.name) s = none) (h1 : fx u.globs s = none) (h2 : fx (u.procs.map Pc.name) s = none) (h : fx funL s = none) : outer u s = (0, 0) := by unfold outer; rw [h0, h1, h2, h]
theorem un_lens {u : Un} (hb : u.bulk ≤ 1048576) : (u.recs.length : Int) ≤ 1048576 ∧ (u.globs.length : Int) ≤ 1048576 ∧ (u.procs.length : Int) ≤ 1048576 := by
  unfold Un.bulk recsB strsB procsB at hb
  omega
theorem recName (u : Un) (k : Nat) (h : k < u.recs.length) : (u.recs.map Rc.name)[k]'(by simpa using h) = u.recs[k].name := by simp
theorem procName (u : Un) (k : Nat) (h : k < u.procs.length) : (u.procs.map Pc.name)[k]'(by simpa using h) = u.procs[k].name := by simp
set_option maxRecDepth 100000 in
set_option maxHeartbeats 3200000 in
theorem spec_outer (u : Un) (hb : u.bulk ≤ 1048576) (s : ByteArray) (w : World) (v1 v2 v3 : Value) (h : UnIs w u v1 v2 v3) : Calls Tryz.prog 44 #[unV v1 v2 v3, .string s] w (RetII w (outer u s)) := by
  unfold RetII
  obtain ⟨l1, l2, l3⟩ := un_lens hb
  obtain ⟨h1, h2, h3⟩ := h
  obtain ⟨a1, c1, rfl⟩ := is_slice h1
  obtain ⟨a2, c2, rfl⟩ := is_slice h2
  obtain ⟨a3, c3, rfl⟩ := is_slice h3
  have B0 := Lib.hid (bl1 w (.cells #[.slice a1 u.recs.length c1, .slice a2 u.globs.length c2, .slice a3 u.procs.length c3] 32))
  have V0 := Lib.hid (Var.new w #[.slice a1 u.recs.length c1, .slice a2 u.globs.length c2, .slice a3 u.procs.length c3] 32)
  obtain ⟨w1, hw1⟩ : ∃ W, w.alloc (.cells #[.slice a1 u.recs.length c1, .slice a2 u.globs.length c2, .slice a3 u.procs.length c3] 32) = W := ⟨_, rfl⟩
  rw [hw1] at B0 V0
  have HW1 := Lib.hid hw1
  have H1 := Lib.hid (h1.later B0.out)
  have H2 := Lib.hid (h2.later B0.out)
  have H3 := Lib.hid (h3.later B0.out)
  have HG := Lib.hid (spec_find _ u.globs s w1 H2.out l2)
  clear h1 h2 h3 hb hw1
  go_enter Tryz.func44, Tryz.ntmps44
  go_wp2
  rw [HW1.out]
  have x0 := (V0.out 0 _ rfl).1
  have x1 := (V0.out 1 _ rfl).1
  have x2 := (V0.out 2 _ rfl).1
  go_loop [6] (fun i => ∃ k : Nat, i = .int .i64 k ∧ k ≤ u.recs.length ∧ NotYet (u.recs.map Rc.name) s k) (fun i => u.recs.length - (intOf i).toNat)
  case atStart => exact ⟨0, rfl, Nat.zero_le _, notYet_zero _ s⟩
  case round =>
    obtain ⟨k, rfl, hk, hn⟩ := hrel
    have HN := Lib.hid hn
    clear hn
    by_cases hlt : k < u.recs.length
    · obtain ⟨g, o, rfl, q0, _, _⟩ := rec_at H1.out k hlt
      have hlm : k < (u.recs.map Rc.name).length := by simpa using hlt
      have HE := Lib.hid (recName u k hlt)
      cases he : eqN u.recs[k].name s
      case true =>
        have HX := Lib.hid (outer_rec (fx_at hlm (by rw [HE.out]; exact he) HN.out))
        have t1 : (u.recs[k].name.toList == s.toList) = true := he
        clear he HE
        generalize u.recs[k] = x at q0 t1
        go_wp2
        go_ret2
        exact ⟨ret_ii HX.out, B0.out⟩
      case false =>
        have HX := Lib.hid (notYet_succ HN.out hlm (by rw [HE.out]; exact he))
        have t1 : (u.recs[k].name.toList == s.toList) = false := he
        clear he HE
        generalize u.recs[k] = x at q0 t1
        go_wp2
        go_round
        case rel => exact ⟨k + 1, by go_num, by omega, HX.out⟩
        case measure => first | (simp [intOf]; done) | (simp [intOf]; omega)
    · obtain rfl : k = u.recs.length := by omega
      have HR := Lib.hid (notYet_all (l := u.recs.map Rc.name) (by rw [List.length_map]; exact HN.out))
      clear HN
      rcases hg : fx u.globs s with _ | k
      · rw [fxI_none hg] at HG
        have HGN := Lib.hid hg
        clear hg
        go_wp2_with fail
        refine HG.out.mono ?_
        rintro e w2 ⟨rfl, rfl⟩
        go_wp2
        go_loop [8] (fun i => ∃ k : Nat, i = .int .i64 k ∧ k ≤ u.procs.length ∧ NotYet (u.procs.map Pc.name) s k) (fun i => u.procs.length - (intOf i).toNat)
        case atStart => exact ⟨0, rfl, Nat.zero_le _, notYet_zero _ s⟩
        case round =>
          obtain ⟨k, rfl, hk, hn⟩ := hrel
          have HN := Lib.hid hn
          clear hn
          by_cases hlt : k < u.procs.length
          · obtain ⟨g, o, rfl, q0, _⟩ := proc_at H3.out k hlt
            have hlm : k < (u.procs.map Pc.name).length := by simpa using hlt
            have HE := Lib.hid (procName u k hlt)
            cases he : eqN u.procs[k].name s
            case true =>
              have HX := Lib.hid (outer_proc HR.out HGN.out (fx_at hlm (by rw [HE.out]; exact he) HN.out))
              have t1 : (u.procs[k].name.toList == s.toList) = true := he
              clear he HE
              generalize u.procs[k] = x at q0 t1
              go_wp2
              go_ret2
              exact ⟨ret_ii HX.out, B0.out⟩
            case false =>
              have HX := Lib.hid (notYet_succ HN.out hlm (by rw [HE.out]; exact he))
              have t1 : (u.procs[k].name.toList == s.toList) = false := he
              clear he HE
              generalize u.procs[k] = x at q0 t1
              go_wp2
              go_round
              case rel => exact ⟨k + 1, by go_num, by omega, HX.out⟩
              case measure => first | (simp [intOf]; done) | (simp [intOf]; omega)
          · obtain rfl : k = u.procs.length := by omega
            have HP := Lib.hid (notYet_all (l := u.procs.map Pc.name) (by rw [List.length_map]; exact HN.out))
            have HF := Lib.hid (spec_funs2 w1)
            clear HN
            rcases hf : fx funL s with _ | k
            · have HX := Lib.hid (outer_none HR.out HGN.out HP.out hf)
              have HFI := Lib.hid (fxI_none hf)
              clear hf
              go_wp2_with fail
              refine HF.out.mono ?_
              rintro e w2 ⟨rfl, hi2, hz2, b2⟩
              have HC := Lib.hid (spec_find _ funL s w2 hi2 (by decide))
              rw [HFI.out] at HC
              have B2 := Lib.hid (below_then B0.out b2)
              clear hi2 hz2 b2
              go_wp2_with fail
              refine HC.out.mono ?_
              rintro e w3 ⟨rfl, rfl⟩
              go_wp2
              go_ret2
              exact ⟨ret_ii HX.out, B2.out⟩
            · have HX := Lib.hid (outer_fun HR.out HGN.out HP.out hf)
              have HFI := Lib.hid (fxI_some hf)
              clear hf
              go_wp2_with fail
              refine HF.out.mono ?_
              rintro e w2 ⟨rfl, hi2, hz2, b2⟩
              have HC := Lib.hid (spec_find _ funL s w2 hi2 (by decide))
              rw [HFI.out] at HC
              have B2 := Lib.hid (below_then B0.out b2)
              clear hi2 hz2 b2
              go_wp2_with fail
              refine HC.out.mono ?_
              rintro e w3 ⟨rfl, rfl⟩
              go_wp2
              go_ret2
              exact ⟨ret_ii HX.out, B2.out⟩
      · rw [fxI_some hg] at HG
        have HX := Lib.hid (outer_glob HR.out hg)
        clear hg
        go_wp2_with fail
        refine HG.out.mono ?_
        rintro e w2 ⟨rfl, rfl⟩
        go_wp2
        go_ret2
        exact ⟨ret_ii HX.out, B0.out⟩
end Go.Proofs.YtckjmmapekaapaaGreatDoor
