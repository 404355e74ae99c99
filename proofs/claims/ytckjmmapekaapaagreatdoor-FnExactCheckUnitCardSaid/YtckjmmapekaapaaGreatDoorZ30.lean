/- Joined texts: V33, V36, V34. No conditions besides those that each states. -/
import Derived.StillTailTactics
import Derived.BigQuiet
import Derived.Deep.RegionHeld3
import Derived.Test.YtckjmmapekaapaaGreatDoorZ9
import Derived.Test.YtckjmmapekaapaaGreatDoorZ15
import Derived.Test.YtckjmmapekaapaaGreatDoorZ17
import Derived.Test.YtckjmmapekaapaaGreatDoorZ28
import Derived.Test.YtckjmmapekaapaaGreatDoorZ29
/- The reference model: does a name stand twice, how many case expressions. No conditions. -/
namespace Go.Proofs.YtckjmmapekaapaaGreatDoor
open Go.RowKit
set_option linter.unusedVariables false

theorem getD_at (l : List ByteArray) (k : Nat) (hk : k < l.length) : l.getD k ByteArray.empty = l[k] := by rw [List.getD_eq_getElem?_getD, List.getElem?_eq_getElem hk]; rfl
/-- Up to place k no name stood before. -/
def NoTwin (l : List ByteArray) (k : Nat) : Prop := ∀ i, i < k → (fx (l.take i) (l.getD i ByteArray.empty)).isSome = false
theorem noTwin_zero (l : List ByteArray) : NoTwin l 0 := fun i h => by omega
theorem noTwin_succ {l : List ByteArray} {k : Nat} (h : NoTwin l k) (hk : k < l.length) (hn : fx (l.take k) l[k] = none) : NoTwin l (k + 1) := fun i hi => by
  by_cases e : i = k
  · subst e; rw [getD_at l i hk, hn]; rfl
  · exact h i (by omega)
theorem noTwin_all {l : List ByteArray} (h : NoTwin l l.length) : twice l = false := by
  unfold twice
  rw [List.any_eq_false]
  intro i hi
  rw [h i (List.mem_range.1 hi)]; decide
theorem twice_yes {l : List ByteArray} {k j : Nat} (hk : k < l.length) (h : fx (l.take k) l[k] = some j) : twice l = true := by
  unfold twice
  rw [List.any_eq_true]
  exact ⟨k, List.mem_range.2 hk, by rw [getD_at l k hk, h]; rfl⟩
theorem fx_app (a b : List ByteArray) (s : ByteArray) : fx (a ++ b) s = match fx a s with | some j => some j | none => (fx b s).map (· + a.length) := by
  unfold fx
  rw [List.findIdx?_append]
  cases List.findIdx? (fun x => eqN x s) a <;> simp
theorem fx_here {l : List ByteArray} {k : Nat} (hk : k < l.length) : fx l l[k] = match fx (l.take k) l[k] with | some j => some j | none => some k := by
  have e : l = l.take k ++ (l[k] :: l.drop (k + 1)) := by rw [← List.drop_eq_getElem_cons hk, List.take_append_drop]
  have h1 : fx l l[k] = fx (l.take k ++ (l[k] :: l.drop (k + 1))) l[k] := congrArg (fun z => fx z l[k]) e
  rw [h1, fx_app]
  have h2 : fx (l[k] :: l.drop (k + 1)) l[k] = some 0 := by unfold fx; rw [List.findIdx?_cons, eqN_self]; rfl
  rw [h2]
  cases fx (l.take k) l[k] with
  | some j => rfl
  | none => simp; omega
theorem ret_bb {a b : Bool} (h : a = b) : Ending.returned (.bool a) = .returned (.bool b) := by rw [h]
set_option maxHeartbeats 800000 in
theorem spec_twice (v : Value) (l : List ByteArray) (w : World) (h : Is w (strsD l) v) (hl : (l.length : Int) ≤ 1048576) : Calls Tryz.prog 34 #[v] w fun e w' => e = .returned (.bool (twice l)) ∧ w = w' := by
  have HF := Lib.hid (fun s => spec_find v l s w h hl)
  obtain ⟨a, c, rfl⟩ := is_slice h
  have HK := Lib.hid h
  clear h
  go_enter Tryz.func34, Tryz.ntmps34
  go_wp2
  go_loop [3] (fun i => ∃ k : Nat, i = .int .i64 k ∧ k ≤ l.length ∧ NoTwin l k) (fun i => l.length - (intOf i).toNat)
  case atStart => exact ⟨0, rfl, Nat.zero_le _, noTwin_zero l⟩
  case round =>
    obtain ⟨k, rfl, hk, hn⟩ := hrel
    have HN := Lib.hid hn
    clear hn
    by_cases hlt : k < l.length
    · obtain ⟨g, o, rfl, d1⟩ := str_at HK.out k hlt
      have HC := Lib.hid (HF.out l[k])
      have k0 : (0 : Int) ≤ (k : Int) := by omega
      have k1 : (k : Int) < l.length := by omega
      rcases hf : fx (l.take k) l[k] with _ | j
      · have e : fx l l[k] = some k := by rw [fx_here hlt, hf]
        rw [fxI_some e] at HC
        have HX := Lib.hid (noTwin_succ HN.out hlt hf)
        clear hf e
        generalize l[k] = x at d1 HC
        go_wp2_with fail
        refine HC.out.mono ?_
        rintro e w3 ⟨rfl, rfl⟩
        go_wp2
        go_round
        case rel => exact ⟨k + 1, by go_num, by omega, HX.out⟩
        case measure => first | (simp [intOf]; done) | (simp [intOf]; omega)
      · have e : fx l l[k] = some j := by rw [fx_here hlt, hf]
        have hj := fx_lt hf
        rw [List.length_take] at hj
        have hj2 : (j : Int) < (k : Int) := by omega
        rw [fxI_some e] at HC
        have HX := Lib.hid (twice_yes hlt hf)
        clear hf e hj
        generalize l[k] = x at d1 HC
        go_wp2_with fail
        refine HC.out.mono ?_
        rintro e w3 ⟨rfl, rfl⟩
        go_wp2
        go_ret
        exact ⟨ret_bb HX.out.symm, rfl⟩
    · obtain rfl : k = l.length := by omega
      have HX := Lib.hid (noTwin_all HN.out)
      go_wp2
      go_ret
      exact ⟨ret_bb HX.out.symm, rfl⟩
theorem csN_eq (t : Ex.T) : csN t = (if t.kind == 20 then 1 else 0) + csNs t.kids := by cases t; rw [csN]; rfl
mutual
theorem csN_le : ∀ t : Ex.T, csN t ≤ t.count
  | .node k t n l ks => by
    rw [csN, Ex.T.count]
    have := csNs_le ks
    split <;> omega
theorem csNs_le : ∀ ks : List Ex.T, csNs ks ≤ Ex.counts ks
  | [] => by rw [csNs, Ex.counts]; omega
  | x :: r => by
    rw [csNs, Ex.counts]
    have h1 := csN_le x
    have h2 := csNs_le r
    omega
end
theorem csNs_take (l : List Ex.T) (k : Nat) (h : k < l.length) : csNs (l.take (k + 1)) = csNs (l.take k) + csN l[k] := by
  have app : ∀ a b : List Ex.T, csNs (a ++ b) = csNs a + csNs b := by
    intro a b
    induction a with
    | nil => simp [csNs]
    | cons x r ih => rw [List.cons_append, csNs, csNs, ih]; omega
  rw [List.take_succ_eq_append_getElem h, app]
  simp [csNs]
def CasesT (t : Ex.T) : Prop := t.count ≤ 1048576 → ∀ (w : World) (v : Value), Kids w v t.kids → Calls Tryz.prog 36 #[exV t v] w fun e w' => e = .returned (.int .i64 (csN t : Int)) ∧ Below w.heap.size w w'
set_option maxRecDepth 100000 in
set_option maxHeartbeats 1600000 in
theorem spec_cases : ∀ (N : Nat) (t : Ex.T), t.count ≤ N → CasesT t := by
  intro N
  induction N with
  | zero => intro t h; have := Ex.count_pos t; omega
  | succ N ih =>
    intro t hN hct w v hk
    have HI := Lib.hid (fun (x : Ex.T) (hx : x ∈ t.kids) => ih x (by have := kids_count hx; omega) (by have := kids_count hx; omega))
    have HC := Lib.hid (csN_eq t)
    have HKX := Lib.hid hk
    have hln : t.kids.length ≤ 1048576 := by
      have h1 := count_eq t
      have h2 : t.kids.length ≤ Ex.counts t.kids := by
        have : ∀ l : List Ex.T, l.length ≤ Ex.counts l := by
          intro l
          induction l with
          | nil => simp [Ex.counts]
          | cons x r ih => rw [Ex.counts, List.length_cons]; have := Ex.count_pos x; omega
        exact this _
      omega
    obtain ⟨a, c, rfl⟩ := kids_len hk
    have B0 := Lib.hid (bl1 w (.cells #[.int .i64 t.kind, .string t.text, .int .i64 t.num, .int .i64 t.line, .slice a t.kids.length c] 47))
    have V0 := Lib.hid (Var.new w #[.int .i64 t.kind, .string t.text, .int .i64 t.num, .int .i64 t.line, .slice a t.kids.length c] 47)
    obtain ⟨w1, hw1⟩ : ∃ W, w.alloc (.cells #[.int .i64 t.kind, .string t.text, .int .i64 t.num, .int .i64 t.line, .slice a t.kids.length c] 47) = W := ⟨_, rfl⟩
    rw [hw1] at B0 V0
    have HW1 := Lib.hid hw1
    have HCT : Hid (csNs t.kids + 1 ≤ 1048576) := Lib.hid (by have h1 := csNs_le t.kids; have h2 := count_eq t; omega)
    clear ih hN hk hw1 hct
    have x0 := (V0.out 0 _ rfl).1
    cases hk20 : t.kind == 20
    · rw [show (if t.kind == 20 then (1 : Nat) else 0) = 0 by rw [hk20]; rfl] at HC
      go_enter Tryz.func36, Tryz.ntmps36
      go_wp2_with fail
      rw [HW1.out]
      go_wp2
      clear x0
      go_loopw [3, 4] (fun m i wr => ∃ k : Nat, i = .int .i64 k ∧ k ≤ t.kids.length ∧ m = .int .i64 ((0 + csNs (t.kids.take k) : Nat) : Int) ∧ Below w.heap.size w wr ∧ Var wr w.heap.size [.int .i64 t.kind, .string t.text, .int .i64 t.num, .int .i64 t.line, .slice a t.kids.length c]) (fun _ i _ => t.kids.length - (intOf i).toNat)
      case atStart => exact ⟨0, rfl, Nat.zero_le _, by rw [List.take_zero, csNs]; rfl, B0.out, V0.out⟩
      case round =>
        obtain ⟨k, rfl, hk, rfl, hb, hv⟩ := hrel
        have HB := Lib.hid hb
        have HV := Lib.hid hv
        have x4 := (hv 4 _ rfl).1
        by_cases hlt : k < t.kids.length
        · obtain ⟨gk, ok, rfl, ht⟩ := kids_at (HKX.out.later hb) k hlt
          obtain ⟨⟨q0, q1, q2, q3⟩, vx, q4, hkv⟩ := tree_cells ht
          have HA := Lib.hid (HI.out t.kids[k] (List.getElem_mem hlt) wr vx hkv)
          obtain ⟨a8, c8, rfl⟩ := kids_len hkv
          have HN := Lib.hid (csNs_take t.kids k hlt)
          have hm1 : csNs (t.kids.take k) + csN t.kids[k] + 1 ≤ 1048576 := by
            have e : t.kids = t.kids.take (k + 1) ++ t.kids.drop (k + 1) := (List.take_append_drop _ _).symm
            have h1 : csNs (t.kids.take (k + 1)) ≤ csNs t.kids := by
              have app : ∀ a b : List Ex.T, csNs (a ++ b) = csNs a + csNs b := by
                intro a b
                induction a with
                | nil => simp [csNs]
                | cons x r ih => rw [List.cons_append, csNs, csNs, ih]; omega
              have h2 := app (t.kids.take (k + 1)) (t.kids.drop (k + 1))
              rw [← e] at h2; omega
            have := HCT.out
            rw [HN.out] at h1; omega
          have HKL := Lib.hid hlt
          have k0 : (0 : Int) ≤ k := by omega
          have k1 : (k : Int) < t.kids.length := by omega
          clear hb hv ht hkv
          generalize t.kids[k] = y at q0 q1 q2 q3 q4 HA HN hm1
          clear hlt
          generalize hs : csNs (t.kids.take k) = s0 at HN hm1 ⊢
          clear hs
          generalize csN y = s1 at HA HN hm1
          rw [show ((0 + s0 : Nat) : Int) = (0 + (s0 : Int) : Int) by omega]
          have hs0 : (0 : Int) ≤ s0 := by omega
          have hs1 : (0 : Int) ≤ s1 := by omega
          have hs2 : (s0 : Int) + s1 + 1 ≤ 1048576 := by omega
          have HS2 := Lib.hid hs2
          clear hm1
          go_wp2_with ((with_reducible refine HA.out.mono ?_); rintro e w3 ⟨rfl, b3⟩; have HB3 := Lib.hid (below_then HB.out b3); have HV3 := Lib.hid (HV.out.later b3); clear b3)
          go_roundw
          case rel => exact ⟨k + 1, by go_num, by have := HKL.out; omega, by rw [HN.out]; congr 1; omega, HB3.out, HV3.out⟩
          case measure => have := HKL.out; first | (simp [intOf]; done) | (simp [intOf]; omega)
        · obtain rfl : k = t.kids.length := by omega
          rw [List.take_length, ← HC.out]
          clear hv
          go_wp2
          go_ret
          exact ⟨rfl, hb⟩
    · rw [show (if t.kind == 20 then (1 : Nat) else 0) = 1 by rw [hk20]; rfl] at HC
      go_enter Tryz.func36, Tryz.ntmps36
      go_wp2_with fail
      rw [HW1.out]
      go_wp2
      clear x0
      go_loopw [3, 4] (fun m i wr => ∃ k : Nat, i = .int .i64 k ∧ k ≤ t.kids.length ∧ m = .int .i64 ((1 + csNs (t.kids.take k) : Nat) : Int) ∧ Below w.heap.size w wr ∧ Var wr w.heap.size [.int .i64 t.kind, .string t.text, .int .i64 t.num, .int .i64 t.line, .slice a t.kids.length c]) (fun _ i _ => t.kids.length - (intOf i).toNat)
      case atStart => exact ⟨0, rfl, Nat.zero_le _, by rw [List.take_zero, csNs]; rfl, B0.out, V0.out⟩
      case round =>
        obtain ⟨k, rfl, hk, rfl, hb, hv⟩ := hrel
        have HB := Lib.hid hb
        have HV := Lib.hid hv
        have x4 := (hv 4 _ rfl).1
        by_cases hlt : k < t.kids.length
        · obtain ⟨gk, ok, rfl, ht⟩ := kids_at (HKX.out.later hb) k hlt
          obtain ⟨⟨q0, q1, q2, q3⟩, vx, q4, hkv⟩ := tree_cells ht
          have HA := Lib.hid (HI.out t.kids[k] (List.getElem_mem hlt) wr vx hkv)
          obtain ⟨a8, c8, rfl⟩ := kids_len hkv
          have HN := Lib.hid (csNs_take t.kids k hlt)
          have hm1 : csNs (t.kids.take k) + csN t.kids[k] + 1 ≤ 1048576 := by
            have e : t.kids = t.kids.take (k + 1) ++ t.kids.drop (k + 1) := (List.take_append_drop _ _).symm
            have h1 : csNs (t.kids.take (k + 1)) ≤ csNs t.kids := by
              have app : ∀ a b : List Ex.T, csNs (a ++ b) = csNs a + csNs b := by
                intro a b
                induction a with
                | nil => simp [csNs]
                | cons x r ih => rw [List.cons_append, csNs, csNs, ih]; omega
              have h2 := app (t.kids.take (k + 1)) (t.kids.drop (k + 1))
              rw [← e] at h2; omega
            have := HCT.out
            rw [HN.out] at h1; omega
          have HKL := Lib.hid hlt
          have k0 : (0 : Int) ≤ k := by omega
          have k1 : (k : Int) < t.kids.length := by omega
          clear hb hv ht hkv
          generalize t.kids[k] = y at q0 q1 q2 q3 q4 HA HN hm1
          clear hlt
          generalize hs : csNs (t.kids.take k) = s0 at HN hm1 ⊢
          clear hs
          generalize csN y = s1 at HA HN hm1
          rw [show ((1 + s0 : Nat) : Int) = (1 + (s0 : Int) : Int) by omega]
          have hs0 : (0 : Int) ≤ s0 := by omega
          have hs1 : (0 : Int) ≤ s1 := by omega
          have hs2 : (s0 : Int) + s1 + 1 ≤ 1048576 := by omega
          have HS2 := Lib.hid hs2
          clear hm1
          go_wp2_with ((with_reducible refine HA.out.mono ?_); rintro e w3 ⟨rfl, b3⟩; have HB3 := Lib.hid (below_then HB.out b3); have HV3 := Lib.hid (HV.out.later b3); clear b3)
          go_roundw
          case rel => exact ⟨k + 1, by go_num, by have := HKL.out; omega, by rw [HN.out]; congr 1; omega, HB3.out, HV3.out⟩
          case measure => have := HKL.out; first | (simp [intOf]; done) | (simp [intOf]; omega)
        · obtain rfl : k = t.kids.length := by omega
          rw [List.take_length, ← HC.out]
          clear hv
          go_wp2
          go_ret
          exact ⟨rfl, hb⟩
end Go.Proofs.YtckjmmapekaapaaGreatDoor
/- The faults of a unit in steps: its declarations, its procedures. No conditions. -/
namespace Go.Proofs.YtckjmmapekaapaaGreatDoor
set_option linter.unusedVariables false

def dup3 (acc : List ByteArray) (l : List Pc) : Int × Int := match dupP acc l with | .inl f => f | .inr _ => (0, 0)
def dup2 (u : Un) (acc : List ByteArray) (l : List ByteArray) : Int × Int := match dupG acc l with | .inl f => f | .inr a => dup3 a u.procs
def dup1 (u : Un) (acc : List ByteArray) (l : List Rc) : Int × Int := match dupR acc l with | .inl f => f | .inr a => dup2 u a u.globs
theorem dup_eq (u : Un) : dup u = dup1 u funL u.recs := by
  unfold dup dup1
  cases dupR funL u.recs with
  | inl f => rfl
  | inr a =>
    simp only
    unfold dup2
    cases dupG a u.globs with
    | inl f => rfl
    | inr b => rfl
theorem dup1_bad {u : Un} {acc : List ByteArray} {r : Rc} {l : List Rc} (h : ((fx acc r.name).isSome || twice r.fields) = true) : dup1 u acc (r :: l) = (2, r.line) := by
  unfold dup1; rw [dupR, if_pos h]
theorem dup1_ok {u : Un} {acc : List ByteArray} {r : Rc} {l : List Rc} (h : ((fx acc r.name).isSome || twice r.fields) = false) : dup1 u acc (r :: l) = dup1 u (acc ++ [r.name]) l := by
  unfold dup1; rw [dupR, if_neg (by rw [h]; decide)]
theorem dup1_nil {u : Un} {acc : List ByteArray} : dup1 u acc [] = dup2 u acc u.globs := rfl
theorem dup2_bad {u : Un} {acc : List ByteArray} {s : ByteArray} {l : List ByteArray} (h : (fx acc s).isSome = true) : dup2 u acc (s :: l) = (2, 0) := by
  unfold dup2; rw [dupG, if_pos h]
theorem dup2_ok {u : Un} {acc : List ByteArray} {s : ByteArray} {l : List ByteArray} (h : (fx acc s).isSome = false) : dup2 u acc (s :: l) = dup2 u (acc ++ [s]) l := by
  unfold dup2; rw [dupG, if_neg (by rw [h]; decide)]
theorem dup2_nil {u : Un} {acc : List ByteArray} : dup2 u acc [] = dup3 acc u.procs := rfl
theorem dup3_bad {acc : List ByteArray} {p : Pc} {l : List Pc} (h : ((fx acc p.name).isSome || twice (p.params ++ p.locals)) = true) : dup3 acc (p :: l) = (2, p.line) := by
  unfold dup3; rw [dupP, if_pos h]
theorem dup3_ok {acc : List ByteArray} {p : Pc} {l : List Pc} (h : ((fx acc p.name).isSome || twice (p.params ++ p.locals)) = false) : dup3 acc (p :: l) = dup3 (acc ++ [p.name]) l := by
  unfold dup3; rw [dupP, if_neg (by rw [h]; decide)]
theorem dup3_nil {acc : List ByteArray} : dup3 acc [] = (0, 0) := rfl
/-- The names that are there ahead of a declaration. -/
def accR (u : Un) (k : Nat) : List ByteArray := funL ++ (u.recs.map Rc.name).take k
def accG (u : Un) (k : Nat) : List ByteArray := funL ++ (u.recs.map Rc.name ++ u.globs.take k)
def accP (u : Un) (k : Nat) : List ByteArray := funL ++ (u.recs.map Rc.name ++ (u.globs ++ (u.procs.map Pc.name).take k))
theorem accR_zero (u : Un) : accR u 0 = funL := by unfold accR; rw [List.take_zero, List.append_nil]
theorem accR_succ {u : Un} {k : Nat} (h : k < u.recs.length) : accR u (k + 1) = accR u k ++ [u.recs[k].name] := by
  unfold accR
  rw [List.take_succ_eq_append_getElem (by simpa using h), List.append_assoc]; simp
theorem accG_zero (u : Un) : accG u 0 = accR u u.recs.length := by
  unfold accG accR
  rw [List.take_zero, List.append_nil, List.take_of_length_le (by simp)]
theorem accG_succ {u : Un} {k : Nat} (h : k < u.globs.length) : accG u (k + 1) = accG u k ++ [u.globs[k]] := by
  unfold accG
  rw [List.take_succ_eq_append_getElem h, List.append_assoc, List.append_assoc]
theorem accP_zero (u : Un) : accP u 0 = accG u u.globs.length := by
  unfold accP accG
  rw [List.take_zero, List.append_nil, List.take_length]
theorem accP_succ {u : Un} {k : Nat} (h : k < u.procs.length) : accP u (k + 1) = accP u k ++ [u.procs[k].name] := by
  unfold accP
  rw [List.take_succ_eq_append_getElem (by simpa using h)]; simp
theorem accR_len (u : Un) {k : Nat} (h : k ≤ u.recs.length) : (accR u k).length = 55 + k := by unfold accR; simp [funL_len]; omega
theorem accG_len (u : Un) {k : Nat} (h : k ≤ u.globs.length) : (accG u k).length = 55 + u.recs.length + k := by unfold accG; simp [funL_len]; omega
theorem accP_len (u : Un) {k : Nat} (h : k ≤ u.procs.length) : (accP u k).length = 55 + u.recs.length + u.globs.length + k := by unfold accP; simp [funL_len]; omega
def DupR (u : Un) (k : Nat) : Prop := dup u = dup1 u (accR u k) (u.recs.drop k)
def DupG (u : Un) (k : Nat) : Prop := dup u = dup2 u (accG u k) (u.globs.drop k)
def DupP (u : Un) (k : Nat) : Prop := dup u = dup3 (accP u k) (u.procs.drop k)
theorem dupR_zero (u : Un) : DupR u 0 := by unfold DupR; rw [accR_zero, List.drop_zero]; exact dup_eq u
theorem DupR.next {u : Un} {k : Nat} (h : DupR u k) (hk : k < u.recs.length) (h1 : (fx (accR u k) u.recs[k].name).isSome = false) (h2 : twice u.recs[k].fields = false) : DupR u (k + 1) := by
  unfold DupR at h ⊢
  rw [h, List.drop_eq_getElem_cons hk, dup1_ok (by rw [h1, h2]; rfl), accR_succ hk]
theorem DupR.bad {u : Un} {k : Nat} (h : DupR u k) (hk : k < u.recs.length) (h1 : ((fx (accR u k) u.recs[k].name).isSome || twice u.recs[k].fields) = true) : dup u = (2, u.recs[k].line) := by
  unfold DupR at h
  rw [h, List.drop_eq_getElem_cons hk, dup1_bad h1]
theorem DupR.over {u : Un} (h : DupR u u.recs.length) : DupG u 0 := by
  unfold DupR at h
  unfold DupG
  rw [h, List.drop_length, dup1_nil, accG_zero, List.drop_zero]
theorem DupG.next {u : Un} {k : Nat} (h : DupG u k) (hk : k < u.globs.length) (h1 : (fx (accG u k) u.globs[k]).isSome = false) : DupG u (k + 1) := by
  unfold DupG at h ⊢
  rw [h, List.drop_eq_getElem_cons hk, dup2_ok h1, accG_succ hk]
theorem DupG.bad {u : Un} {k : Nat} (h : DupG u k) (hk : k < u.globs.length) (h1 : (fx (accG u k) u.globs[k]).isSome = true) : dup u = (2, 0) := by
  unfold DupG at h
  rw [h, List.drop_eq_getElem_cons hk, dup2_bad h1]
theorem DupG.over {u : Un} (h : DupG u u.globs.length) : DupP u 0 := by
  unfold DupG at h
  unfold DupP
  rw [h, List.drop_length, dup2_nil, accP_zero, List.drop_zero]
theorem DupP.next {u : Un} {k : Nat} (h : DupP u k) (hk : k < u.procs.length) (h1 : (fx (accP u k) u.procs[k].name).isSome = false) (h2 : twice (u.procs[k].params ++ u.procs[k].locals) = false) : DupP u (k + 1) := by
  unfold DupP at h ⊢
  rw [h, List.drop_eq_getElem_cons hk, dup3_ok (by rw [h1, h2]; rfl), accP_succ hk]
theorem DupP.bad {u : Un} {k : Nat} (h : DupP u k) (hk : k < u.procs.length) (h1 : ((fx (accP u k) u.procs[k].name).isSome || twice (u.procs[k].params ++ u.procs[k].locals)) = true) : dup u = (2, u.procs[k].line) := by
  unfold DupP at h
  rw [h, List.drop_eq_getElem_cons hk, dup3_bad h1]
theorem DupP.over {u : Un} (h : DupP u u.procs.length) : dup u = (0, 0) := by
  unfold DupP at h
  rw [h, List.drop_length, dup3_nil]
/-- Where the walk of the procedures stands. -/
def PrAt (u : Un) (k : Nat) : Prop := fltPs u u.procs = fltPs u (u.procs.drop k)
theorem prAt_zero (u : Un) : PrAt u 0 := by unfold PrAt; rw [List.drop_zero]
theorem PrAt.next {u : Un} {k : Nat} (h : PrAt u k) (hk : k < u.procs.length) (h1 : (fltP u u.procs[k]).1 = 0) : PrAt u (k + 1) := by
  unfold PrAt at h ⊢
  rw [h, List.drop_eq_getElem_cons hk, fltPs, h1]; rfl
theorem PrAt.bad {u : Un} {k : Nat} (h : PrAt u k) (hk : k < u.procs.length) (h1 : (fltP u u.procs[k]).1 ≠ 0) : fltPs u u.procs = fltP u u.procs[k] := by
  unfold PrAt at h
  rw [h, List.drop_eq_getElem_cons hk, fltPs, if_neg (by simp [h1])]
theorem PrAt.over {u : Un} (h : PrAt u u.procs.length) : fltPs u u.procs = (0, 0) := by
  unfold PrAt at h
  rw [h, List.drop_length, fltPs]
theorem fltP_walk {u : Un} {p : Pc} (h : (wlk u (locs u p) p.body false false).1 ≠ 0) : fltP u p = wlk u (locs u p) p.body false false := by
  unfold fltP; rw [if_neg (by simp [h])]
theorem fltP_slots {u : Un} {p : Pc} (h : (wlk u (locs u p) p.body false false).1 = 0) (h2 : 24 < (locs u p).length + csN p.body) : fltP u p = (7, p.line) := by
  unfold fltP; rw [h, if_pos (by rfl), if_pos h2]
theorem fltP_fine {u : Un} {p : Pc} (h : (wlk u (locs u p) p.body false false).1 = 0) (h2 : (locs u p).length + csN p.body ≤ 24) : fltP u p = (0, 0) := by
  unfold fltP; rw [h, if_pos (by rfl), if_neg (by omega)]
/-- What the check of a unit says. -/
def chk (u : Un) : Int × Int := if u.valid then fltU u else (1, 0)
theorem chk_bad {u : Un} (h : u.valid = false) : chk u = (1, 0) := by unfold chk; rw [h]; rfl
theorem chk_ok {u : Un} (h : u.valid = true) : chk u = fltU u := by unfold chk; rw [h]; rfl
theorem fltU_dup {u : Un} (h : (dup u).1 ≠ 0) : fltU u = dup u := by unfold fltU; rw [if_neg (by simp [h])]
theorem fltU_proc {u : Un} (h : dup u = (0, 0)) (h2 : (fltPs u u.procs).1 ≠ 0) : fltU u = fltPs u u.procs := by
  unfold fltU; rw [h, if_pos (by rfl), if_neg (by simp [h2])]
theorem fltU_main {u : Un} (h : dup u = (0, 0)) (h2 : fltPs u u.procs = (0, 0)) (h3 : u.procs.any isMain = true) : fltU u = (0, 0) := by
  unfold fltU; rw [h, h2, if_pos (by rfl), if_pos (by rfl), if_pos h3]
theorem fltU_none {u : Un} (h : dup u = (0, 0)) (h2 : fltPs u u.procs = (0, 0)) (h3 : u.procs.any isMain = false) : fltU u = (3, 0) := by
  unfold fltU; rw [h, h2, if_pos (by rfl), if_pos (by rfl), if_neg (by rw [h3]; decide)]
theorem any_take_succ {α : Type} (f : α → Bool) (l : List α) (k : Nat) (hk : k < l.length) : (l.take (k + 1)).any f = ((l.take k).any f || f l[k]) := by
  rw [List.take_succ_eq_append_getElem hk, List.any_append]; simp
end Go.Proofs.YtckjmmapekaapaaGreatDoor
/- The reference model's faults of a body: words. No conditions. -/
namespace Go.Proofs.YtckjmmapekaapaaGreatDoor
open Go.RowKit
set_option linter.unusedVariables false

theorem wlk_eq (u : Un) (L : List ByteArray) (t : Ex.T) (loop made : Bool) : wlk u L t loop made = if flt u L t.kind t.text loop made == 0 then wlks u L t.kind t.kids 0 loop (made || t.kind == 26) else (flt u L t.kind t.text loop made, t.line) := by cases t; rw [wlk]; rfl
theorem wlk_stop {u : Un} {L : List ByteArray} {t : Ex.T} {loop made : Bool} {n : Int} (h : flt u L t.kind t.text loop made = n) (hn : n ≠ 0) : wlk u L t loop made = (n, t.line) := by
  rw [wlk_eq, h, if_neg (by simp [hn])]
theorem wlk_go {u : Un} {L : List ByteArray} {t : Ex.T} {loop made : Bool} (h : flt u L t.kind t.text loop made = 0) : wlk u L t loop made = wlks u L t.kind t.kids 0 loop (made || t.kind == 26) := by
  rw [wlk_eq, h]; rfl
/-- Where the walk of the kids stands. -/
def WkAt (u : Un) (L : List ByteArray) (t : Ex.T) (loop made : Bool) (k : Nat) : Prop := wlk u L t loop made = wlks u L t.kind (t.kids.drop k) k loop (made || t.kind == 26)
theorem WkAt.next {u : Un} {L : List ByteArray} {t : Ex.T} {loop made : Bool} {k : Nat} (h : WkAt u L t loop made k) (hk : k < t.kids.length) (hz : (wlk u L t.kids[k] (kidL t.kind loop k) (made || t.kind == 26)).1 = 0) : WkAt u L t loop made (k + 1) := by
  unfold WkAt at h ⊢
  rw [h, List.drop_eq_getElem_cons hk, wlks, hz]; rfl
theorem WkAt.no {u : Un} {L : List ByteArray} {t : Ex.T} {loop made : Bool} {k : Nat} (h : WkAt u L t loop made k) (hk : k < t.kids.length) (hz : (wlk u L t.kids[k] (kidL t.kind loop k) (made || t.kind == 26)).1 ≠ 0) : wlk u L t loop made = wlk u L t.kids[k] (kidL t.kind loop k) (made || t.kind == 26) := by
  unfold WkAt at h
  rw [h, List.drop_eq_getElem_cons hk, wlks, if_neg (by simp [hz])]
theorem WkAt.over {u : Un} {L : List ByteArray} {t : Ex.T} {loop made : Bool} (h : WkAt u L t loop made t.kids.length) : wlk u L t loop made = (0, 0) := by
  unfold WkAt at h
  rw [h, List.drop_length, wlks]
theorem kidL_lp {k : Int} (h1 : 16 ≤ k) (h2 : k ≤ 18) (loop : Bool) (i : Nat) : kidL k loop i = (i == 1) := by
  unfold kidL
  rw [if_pos (by rcases (show k = 16 ∨ k = 17 ∨ k = 18 by omega) with h | h | h <;> simp [h])]
theorem kidL_rep {k : Int} (h : k = 19) (loop : Bool) (i : Nat) : kidL k loop i = true := by subst h; rfl
theorem kidL_off {k : Int} (h : k = 24 ∨ k = 26) (loop : Bool) (i : Nat) : kidL k loop i = false := by rcases h with h | h <;> subst h <;> rfl
theorem kidL_same {k : Int} (h : k < 16 ∨ 19 < k) (h4 : k ≠ 24) (h6 : k ≠ 26) (loop : Bool) (i : Nat) : kidL k loop i = loop := by
  unfold kidL
  rw [if_neg (by simp; omega), if_neg (by simp; omega), if_neg (by simp; omega)]
theorem flt_zero {u : Un} {L : List ByteArray} {k : Int} {s : ByteArray} {loop made : Bool} (h1 : (k = 24 ∨ k = 25) → loop = true) (h2 : (k = 21 ∨ k = 22 ∨ k = 23) → made = false) (h3 : k = 13 → (u.recs.any fun r => (fx r.fields s).isSome) = true) (h4 : k = 28 → (fx L s).isNone = true → (outer u s).1 = 2) : flt u L k s loop made = 0 := by
  unfold flt
  rw [if_neg, if_neg, if_neg]
  · intro h
    simp only [Bool.and_eq_true, beq_iff_eq, Bool.not_eq_true', beq_eq_false_iff_ne] at h
    exact h.2.2 (h4 h.1 h.2.1)
  · intro h
    simp only [Bool.and_eq_true, beq_iff_eq, Bool.not_eq_true'] at h
    rw [h3 h.1] at h
    exact absurd h.2 (by decide)
  · intro h
    simp only [Bool.or_eq_true, Bool.and_eq_true, beq_iff_eq, Bool.not_eq_true'] at h
    rcases h with ⟨h, e⟩ | ⟨h, e⟩
    · rw [h1 h] at e; cases e
    · rw [h2 (by omega)] at e; cases e
theorem flt_loop {u : Un} {L : List ByteArray} {k : Int} {s : ByteArray} {made : Bool} (h : k = 24 ∨ k = 25) : flt u L k s false made = 4 := by
  unfold flt; rw [if_pos (by rcases h with h | h <;> simp [h])]
theorem flt_made {u : Un} {L : List ByteArray} {k : Int} {s : ByteArray} {loop : Bool} (h : k = 21 ∨ k = 22 ∨ k = 23) : flt u L k s loop true = 4 := by
  unfold flt; rw [if_pos (by rcases h with h | h | h <;> simp [h])]
theorem flt_field {u : Un} {L : List ByteArray} {k : Int} {s : ByteArray} {loop made : Bool} (h : k = 13) (hn : (u.recs.any fun r => (fx r.fields s).isSome) = false) : flt u L k s loop made = 5 := by
  subst h
  unfold flt
  rw [if_neg (by simp), if_pos (by rw [hn]; rfl)]
theorem flt_defer {u : Un} {L : List ByteArray} {k : Int} {s : ByteArray} {loop made : Bool} (h : k = 28) (h1 : fx L s = none) (h2 : (outer u s).1 ≠ 2) : flt u L k s loop made = 6 := by
  subst h
  unfold flt
  rw [if_neg (by simp), if_neg (by simp), if_pos (by rw [h1]; simp [h2])]
/-- A load that is not wanted in a create. -/
def opK : Oper := { dst := some 140, op := Op.load 3 (.tmp 139), type := 3, pos := "l09_scopes.go:117", after := #[{ on := 10, ground := .data }, { on := 9, ground := .guard }], guard := some (9, false) }
def opJ : Oper := { dst := some 139, op := Op.fieldAddr 47 (.tmp 7) 0, type := 0, pos := "l09_scopes.go:117", after := #[{ on := 9, ground := .guard }], guard := some (9, false) }
def opL : Oper := { dst := some 141, op := Op.binOp BinOp.eql 3 (.tmp 140) (.const (.int .i64 26)) 3, type := 4, pos := "l09_scopes.go:117", after := #[{ on := 11, ground := .data }, { on := 9, ground := .guard }], guard := some (9, false) }
/-- A truth value that is known. -/
def IsT (b : Bool) : Prop := b = b
def WlkT (u : Un) (w0 : World) (v1 v2 v3 vl : Value) (L : List ByteArray) (t : Ex.T) : Prop := ∀ (loop made : Bool) (w : World) (x : Value), Kids w0 x t.kids → Below w0.heap.size w0 w →
  Calls Tryz.prog 35 #[unV v1 v2 v3, vl, exV t x, .bool loop, .bool made] w (RetII w (wlk u L t loop made))
theorem find_quiet {v : Value} {l : List ByteArray} {s : ByteArray} {w : World} (h : Is w (strsD l) v) (hl : (l.length : Int) ≤ 1048576) : Calls Tryz.prog 33 #[v, .string s] w fun e w' => e = .returned (.int .i64 (fxI l s)) ∧ w' = w :=
  (spec_find v l s w h hl).mono fun _ _ h => ⟨h.1, h.2.symm⟩
theorem ret_ii2 {p q : Int × Int} (h : q = p) : Ending.returned (.tuple #[.int .i64 p.1, .int .i64 p.2]) = .returned (.tuple #[.int .i64 q.1, .int .i64 q.2]) := by rw [h]
end Go.Proofs.YtckjmmapekaapaaGreatDoor
