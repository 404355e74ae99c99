/- Joined texts: G16, L2. No conditions besides those that each states. -/
import Derived.IntWalk
import Derived.Deep.RegionLaw
import Derived.Test.YtiiogpafgoeblaaZ2
import Derived.Test.YtiiogpafgoeblaaZ8
import Derived.Test.YtiiogpafgoeblaaZ13
/- Trees that are valid, in the reference model: kids. No conditions. -/
namespace Go.Proofs.Ytiiogpafgoeblaa
open Go.RowKit
set_option linter.unusedVariables false

/-- What a node must be, its kids apart. -/
def Ex.headB (k : Int) (s : ByteArray) (n l : Int) (z : Nat) (d : Int) : Bool :=
  (decide (d ≤ 40) && decide (1 ≤ k) && decide (k ≤ 29) && decide (0 ≤ l) && decide ((Ex.kidsOf k).1 ≤ z) && decide ((z : Int) ≤ (Ex.kidsOf k).2) && Ex.words k s) &&
  (if k = 1 then decide (0 ≤ n) && decide (n ≤ 999999999999) else if k = 20 then decide (0 ≤ n) && decide (n ≤ 1) && decide (((z : Int) - 1 - n).tmod 2 = 0) && decide (1 + n ≤ z) else n == 0)
mutual
/-- A tree that is valid, at a depth. -/
def Ex.T.valid : Ex.T → Int → Bool
  | .node k s n l ks, d => Ex.headB k s n l ks.length d && Ex.valids ks (d + 1)
def Ex.valids : List Ex.T → Int → Bool
  | [], _ => true
  | x :: r, d => x.valid d && Ex.valids r d
end
theorem Ex.valid_eq (t : Ex.T) (d : Int) : t.valid d = (Ex.headB t.kind t.text t.num t.line t.kids.length d && Ex.valids t.kids (d + 1)) := by cases t; rw [Ex.T.valid]; rfl
theorem Ex.valids_app (a b : List Ex.T) (d : Int) : Ex.valids (a ++ b) d = (Ex.valids a d && Ex.valids b d) := by
  induction a with
  | nil => simp [Ex.valids]
  | cons x r ih => simp [Ex.valids, ih, Bool.and_assoc]
def ValAt (ks : List Ex.T) (d : Int) (k : Nat) : Prop := Ex.valids (ks.take k) d = true
theorem ValAt.start (ks : List Ex.T) (d : Int) : ValAt ks d 0 := by simp [ValAt, Ex.valids]
theorem ValAt.next {ks : List Ex.T} {d : Int} {k : Nat} (h : ValAt ks d k) (hk : k < ks.length) (hx : ks[k].valid d = true) : ValAt ks d (k + 1) := by
  unfold ValAt at h ⊢
  rw [List.take_succ_eq_append_getElem hk, Ex.valids_app, h, Ex.valids, Ex.valids, hx]; rfl
theorem ValAt.over {ks : List Ex.T} {d : Int} (h : ValAt ks d ks.length) : Ex.valids ks d = true := by
  unfold ValAt at h
  rw [List.take_length] at h; exact h
theorem valids_bad {ks : List Ex.T} {d : Int} {k : Nat} (hk : k < ks.length) (hx : ks[k].valid d = false) : Ex.valids ks d = false := by
  have e : ks = ks.take k ++ (ks[k] :: ks.drop (k + 1)) := by rw [← List.drop_eq_getElem_cons hk, List.take_append_drop]
  rw [e, Ex.valids_app, Ex.valids, hx, Bool.false_and, Bool.and_false]
def KidsC (t : Ex.T) (d : Int) : Prop := ∀ x ∈ t.kids, ∀ (w : World) (v : Value), Kids w v x.kids → Calls Try.prog 60 #[exV x v, .int .i64 d] w fun e w' => e = .returned (.bool (x.valid d)) ∧ Below w.heap.size w w'
set_option maxHeartbeats 1600000 in
theorem valid_n20c (t : Ex.T) (a : Option Addr) (c : Nat) (w : World) (d lo hi : Int) (hln : t.kids.length ≤ 1048576) (d0 : 0 ≤ d) (d1 : d ≤ 1000) (HC : Hid (CountsC t (.slice a t.kids.length c) lo hi)) (HW : Hid (WordsC t (.slice a t.kids.length c) true)) (q0 : d ≤ 40) (q1 : 1 ≤ t.kind) (q2 : t.kind ≤ 29) (q3 : 0 ≤ t.line) (q4 : lo ≤ t.kids.length) (q5 : (t.kids.length : Int) ≤ hi) (k1 : (t.kind == 1) = false) (k20 : (t.kind == 20) = true) (n0 : 0 ≤ t.num) (n1 : t.num ≤ 1) (p : ¬ ((t.kids.length : Int) - 1 - t.num).tmod 2 = 0) : Calls Try.prog 60 #[exV t (.slice a t.kids.length c), .int .i64 d] w (RetV w false) := by
  have HE := Lib.hid (CellsE.new w t (.slice a t.kids.length c) 45)
  go_enter Try.func60, Try.ntmps60
  go_wp2_with fail
  refine (HC.out _).mono ?_
  rintro e w1 ⟨rfl, b1⟩
  have B1 := Lib.hid (below_then (bl1 _ _) b1)
  have E1 := Lib.hid (HE.out.later b1)
  obtain ⟨e0, e1, e2, e3, e4⟩ := E1.out
  clear b1 HE
  go_wp2_with fail
  refine (HW.out _).mono ?_
  rintro e w2 ⟨rfl, b2⟩
  have B2 := Lib.hid (below_then B1.out b2)
  have E2 := Lib.hid (E1.out.later b2)
  clear b2 e0 e1 e2 e3 e4 E1
  obtain ⟨e0, e1, e2, e3, e4⟩ := E2.out
  go_wp2
  all_goals first | (go_ret; exact ⟨rfl, B2.out⟩) | (exfalso; omega)
set_option maxHeartbeats 1600000 in
theorem valid_n20d (t : Ex.T) (a : Option Addr) (c : Nat) (w : World) (d lo hi : Int) (hln : t.kids.length ≤ 1048576) (d0 : 0 ≤ d) (d1 : d ≤ 1000) (HC : Hid (CountsC t (.slice a t.kids.length c) lo hi)) (HW : Hid (WordsC t (.slice a t.kids.length c) true)) (q0 : d ≤ 40) (q1 : 1 ≤ t.kind) (q2 : t.kind ≤ 29) (q3 : 0 ≤ t.line) (q4 : lo ≤ t.kids.length) (q5 : (t.kids.length : Int) ≤ hi) (k1 : (t.kind == 1) = false) (k20 : (t.kind == 20) = true) (n0 : 0 ≤ t.num) (n1 : t.num ≤ 1) (p : ((t.kids.length : Int) - 1 - t.num).tmod 2 = 0) (m : (t.kids.length : Int) < 1 + t.num) : Calls Try.prog 60 #[exV t (.slice a t.kids.length c), .int .i64 d] w (RetV w false) := by
  have HE := Lib.hid (CellsE.new w t (.slice a t.kids.length c) 45)
  go_enter Try.func60, Try.ntmps60
  go_wp2_with fail
  refine (HC.out _).mono ?_
  rintro e w1 ⟨rfl, b1⟩
  have B1 := Lib.hid (below_then (bl1 _ _) b1)
  have E1 := Lib.hid (HE.out.later b1)
  obtain ⟨e0, e1, e2, e3, e4⟩ := E1.out
  clear b1 HE
  go_wp2_with fail
  refine (HW.out _).mono ?_
  rintro e w2 ⟨rfl, b2⟩
  have B2 := Lib.hid (below_then B1.out b2)
  have E2 := Lib.hid (E1.out.later b2)
  clear b2 e0 e1 e2 e3 e4 E1
  obtain ⟨e0, e1, e2, e3, e4⟩ := E2.out
  go_wp2
  all_goals first | (go_ret; exact ⟨rfl, B2.out⟩) | (exfalso; omega)
set_option maxHeartbeats 1600000 in
theorem valid_px (t : Ex.T) (a : Option Addr) (c : Nat) (w : World) (d lo hi : Int) (hln : t.kids.length ≤ 1048576) (d0 : 0 ≤ d) (d1 : d ≤ 1000) (HC : Hid (CountsC t (.slice a t.kids.length c) lo hi)) (HW : Hid (WordsC t (.slice a t.kids.length c) true)) (q0 : d ≤ 40) (q1 : 1 ≤ t.kind) (q2 : t.kind ≤ 29) (q3 : 0 ≤ t.line) (q4 : lo ≤ t.kids.length) (q5 : (t.kids.length : Int) ≤ hi) (k1 : (t.kind == 1) = false) (k20 : (t.kind == 20) = false) (n0 : (t.num != 0) = false) (HK : Hid (Kids w (.slice a t.kids.length c) t.kids)) (HI : Hid (KidsC t (d + 1))) : Calls Try.prog 60 #[exV t (.slice a t.kids.length c), .int .i64 d] w (RetV w (Ex.valids t.kids (d + 1))) := by
  have HE := Lib.hid (CellsE.new w t (.slice a t.kids.length c) 45)
  go_enter Try.func60, Try.ntmps60
  go_wp2_with fail
  refine (HC.out _).mono ?_
  rintro e w1 ⟨rfl, b1⟩
  have B1 := Lib.hid (below_then (bl1 _ _) b1)
  have E1 := Lib.hid (HE.out.later b1)
  obtain ⟨e0, e1, e2, e3, e4⟩ := E1.out
  clear b1 HE
  go_wp2_with fail
  refine (HW.out _).mono ?_
  rintro e w2 ⟨rfl, b2⟩
  have B2 := Lib.hid (below_then B1.out b2)
  have E2 := Lib.hid (E1.out.later b2)
  clear b2 e0 e1 e2 e3 e4 E1
  obtain ⟨e0, e1, e2, e3, e4⟩ := E2.out
  go_wp2_with fail
  go_loopw [4, 7] (fun r i wr => ∃ k : Nat, r = .bool false ∧ i = .int .i64 k ∧ k ≤ t.kids.length ∧ ValAt t.kids (d + 1) k ∧ CellsE wr w.heap.size t (.slice a t.kids.length c) ∧ Below w.heap.size w wr) (fun _ i _ => t.kids.length - (intOf i).toNat)
  case atStart => exact ⟨0, rfl, rfl, by omega, ValAt.start _ _, E2.out, B2.out⟩
  case round =>
    obtain ⟨k, rfl, rfl, hkk, hat, hce, hb⟩ := hrel
    have HAT := Lib.hid hat
    have HB := Lib.hid hb
    have HE := Lib.hid hce
    have HK2 := Lib.hid (HK.out.later hb)
    obtain ⟨f0, f1, f2, f3, f4⟩ := hce
    clear hat hb f0 f1 f2 f3
    by_cases hlt : k < t.kids.length
    · obtain ⟨g, o, rfl, ht⟩ := kids_at HK2.out k hlt
      obtain ⟨⟨x0, x1, x2, x3⟩, v, x4, hkv⟩ := tree_cells ht
      have HR := Lib.hid (HI.out t.kids[k] (List.getElem_mem hlt) wr v hkv)
      have k0 : (0 : Int) ≤ k := by omega
      have k2 : (k : Int) < t.kids.length := by omega
      by_cases hv : t.kids[k].valid (d + 1) = true
      · have HN := Lib.hid (HAT.out.next hlt hv)
        rw [hv] at HR
        clear ht hkv HAT hv
        generalize t.kids[k] = x at x0 x1 x2 x3 HR
        go_wp2_with (go_at_call 60; refine HR.out.mono ?_; rintro e w3 ⟨rfl, b3⟩; have B3 := Lib.hid (below_then HB.out b3); have E3 := Lib.hid (HE.out.later b3); clear b3)
        go_roundw
        case rel => exact ⟨k + 1, rfl, by go_num, by omega, HN.out, E3.out, B3.out⟩
        case measure => first | (simp [intOf]; done) | (simp [intOf]; omega)
      · rw [Bool.not_eq_true] at hv
        have HN := Lib.hid (valids_bad hlt hv)
        rw [hv] at HR
        clear ht hkv HAT hv
        generalize t.kids[k] = x at x0 x1 x2 x3 HR
        go_wp2_with (go_at_call 60; refine HR.out.mono ?_; rintro e w3 ⟨rfl, b3⟩; have B3 := Lib.hid (below_then HB.out b3); clear b3)
        go_ret
        exact ⟨by rw [HN.out]; rfl, B3.out⟩
    · obtain rfl : k = t.kids.length := by omega
      have HN := Lib.hid HAT.out.over
      go_wp2
      go_ret
      exact ⟨by rw [HN.out]; rfl, HB.out⟩
set_option maxHeartbeats 1600000 in
theorem valid_p1 (t : Ex.T) (a : Option Addr) (c : Nat) (w : World) (d lo hi : Int) (hln : t.kids.length ≤ 1048576) (d0 : 0 ≤ d) (d1 : d ≤ 1000) (HC : Hid (CountsC t (.slice a t.kids.length c) lo hi)) (HW : Hid (WordsC t (.slice a t.kids.length c) true)) (q0 : d ≤ 40) (q1 : 1 ≤ t.kind) (q2 : t.kind ≤ 29) (q3 : 0 ≤ t.line) (q4 : lo ≤ t.kids.length) (q5 : (t.kids.length : Int) ≤ hi) (k1 : (t.kind == 1) = true) (n0 : 0 ≤ t.num) (n1 : t.num ≤ 999999999999) (HK : Hid (Kids w (.slice a t.kids.length c) t.kids)) (HI : Hid (KidsC t (d + 1))) : Calls Try.prog 60 #[exV t (.slice a t.kids.length c), .int .i64 d] w (RetV w (Ex.valids t.kids (d + 1))) := by
  have HE := Lib.hid (CellsE.new w t (.slice a t.kids.length c) 45)
  go_enter Try.func60, Try.ntmps60
  go_wp2_with fail
  refine (HC.out _).mono ?_
  rintro e w1 ⟨rfl, b1⟩
  have B1 := Lib.hid (below_then (bl1 _ _) b1)
  have E1 := Lib.hid (HE.out.later b1)
  obtain ⟨e0, e1, e2, e3, e4⟩ := E1.out
  clear b1 HE
  go_wp2_with fail
  refine (HW.out _).mono ?_
  rintro e w2 ⟨rfl, b2⟩
  have B2 := Lib.hid (below_then B1.out b2)
  have E2 := Lib.hid (E1.out.later b2)
  clear b2 e0 e1 e2 e3 e4 E1
  obtain ⟨e0, e1, e2, e3, e4⟩ := E2.out
  go_wp2_with fail
  go_loopw [4, 7] (fun r i wr => ∃ k : Nat, r = .bool false ∧ i = .int .i64 k ∧ k ≤ t.kids.length ∧ ValAt t.kids (d + 1) k ∧ CellsE wr w.heap.size t (.slice a t.kids.length c) ∧ Below w.heap.size w wr) (fun _ i _ => t.kids.length - (intOf i).toNat)
  case atStart => exact ⟨0, rfl, rfl, by omega, ValAt.start _ _, E2.out, B2.out⟩
  case round =>
    obtain ⟨k, rfl, rfl, hkk, hat, hce, hb⟩ := hrel
    have HAT := Lib.hid hat
    have HB := Lib.hid hb
    have HE := Lib.hid hce
    have HK2 := Lib.hid (HK.out.later hb)
    obtain ⟨f0, f1, f2, f3, f4⟩ := hce
    clear hat hb f0 f1 f2 f3
    by_cases hlt : k < t.kids.length
    · obtain ⟨g, o, rfl, ht⟩ := kids_at HK2.out k hlt
      obtain ⟨⟨x0, x1, x2, x3⟩, v, x4, hkv⟩ := tree_cells ht
      have HR := Lib.hid (HI.out t.kids[k] (List.getElem_mem hlt) wr v hkv)
      have k0 : (0 : Int) ≤ k := by omega
      have k2 : (k : Int) < t.kids.length := by omega
      by_cases hv : t.kids[k].valid (d + 1) = true
      · have HN := Lib.hid (HAT.out.next hlt hv)
        rw [hv] at HR
        clear ht hkv HAT hv
        generalize t.kids[k] = x at x0 x1 x2 x3 HR
        go_wp2_with (go_at_call 60; refine HR.out.mono ?_; rintro e w3 ⟨rfl, b3⟩; have B3 := Lib.hid (below_then HB.out b3); have E3 := Lib.hid (HE.out.later b3); clear b3)
        go_roundw
        case rel => exact ⟨k + 1, rfl, by go_num, by omega, HN.out, E3.out, B3.out⟩
        case measure => first | (simp [intOf]; done) | (simp [intOf]; omega)
      · rw [Bool.not_eq_true] at hv
        have HN := Lib.hid (valids_bad hlt hv)
        rw [hv] at HR
        clear ht hkv HAT hv
        generalize t.kids[k] = x at x0 x1 x2 x3 HR
        go_wp2_with (go_at_call 60; refine HR.out.mono ?_; rintro e w3 ⟨rfl, b3⟩; have B3 := Lib.hid (below_then HB.out b3); clear b3)
        go_ret
        exact ⟨by rw [HN.out]; rfl, B3.out⟩
    · obtain rfl : k = t.kids.length := by omega
      have HN := Lib.hid HAT.out.over
      go_wp2
      go_ret
      exact ⟨by rw [HN.out]; rfl, HB.out⟩
set_option maxHeartbeats 1600000 in
theorem valid_p20 (t : Ex.T) (a : Option Addr) (c : Nat) (w : World) (d lo hi : Int) (hln : t.kids.length ≤ 1048576) (d0 : 0 ≤ d) (d1 : d ≤ 1000) (HC : Hid (CountsC t (.slice a t.kids.length c) lo hi)) (HW : Hid (WordsC t (.slice a t.kids.length c) true)) (q0 : d ≤ 40) (q1 : 1 ≤ t.kind) (q2 : t.kind ≤ 29) (q3 : 0 ≤ t.line) (q4 : lo ≤ t.kids.length) (q5 : (t.kids.length : Int) ≤ hi) (k1 : (t.kind == 1) = false) (k20 : (t.kind == 20) = true) (n0 : 0 ≤ t.num) (n1 : t.num ≤ 1) (p : ((t.kids.length : Int) - 1 - t.num).tmod 2 = 0) (m : 1 + t.num ≤ (t.kids.length : Int)) (HK : Hid (Kids w (.slice a t.kids.length c) t.kids)) (HI : Hid (KidsC t (d + 1))) : Calls Try.prog 60 #[exV t (.slice a t.kids.length c), .int .i64 d] w (RetV w (Ex.valids t.kids (d + 1))) := by
  have HE := Lib.hid (CellsE.new w t (.slice a t.kids.length c) 45)
  go_enter Try.func60, Try.ntmps60
  go_wp2_with fail
  refine (HC.out _).mono ?_
  rintro e w1 ⟨rfl, b1⟩
  have B1 := Lib.hid (below_then (bl1 _ _) b1)
  have E1 := Lib.hid (HE.out.later b1)
  obtain ⟨e0, e1, e2, e3, e4⟩ := E1.out
  clear b1 HE
  go_wp2_with fail
  refine (HW.out _).mono ?_
  rintro e w2 ⟨rfl, b2⟩
  have B2 := Lib.hid (below_then B1.out b2)
  have E2 := Lib.hid (E1.out.later b2)
  clear b2 e0 e1 e2 e3 e4 E1
  obtain ⟨e0, e1, e2, e3, e4⟩ := E2.out
  go_wp2_with fail
  all_goals try (exfalso; omega)
  go_loopw [4, 7] (fun r i wr => ∃ k : Nat, r = .bool false ∧ i = .int .i64 k ∧ k ≤ t.kids.length ∧ ValAt t.kids (d + 1) k ∧ CellsE wr w.heap.size t (.slice a t.kids.length c) ∧ Below w.heap.size w wr) (fun _ i _ => t.kids.length - (intOf i).toNat)
  case atStart => exact ⟨0, rfl, rfl, by omega, ValAt.start _ _, E2.out, B2.out⟩
  case round =>
    obtain ⟨k, rfl, rfl, hkk, hat, hce, hb⟩ := hrel
    have HAT := Lib.hid hat
    have HB := Lib.hid hb
    have HE := Lib.hid hce
    have HK2 := Lib.hid (HK.out.later hb)
    obtain ⟨f0, f1, f2, f3, f4⟩ := hce
    clear hat hb f0 f1 f2 f3
    by_cases hlt : k < t.kids.length
    · obtain ⟨g, o, rfl, ht⟩ := kids_at HK2.out k hlt
      obtain ⟨⟨x0, x1, x2, x3⟩, v, x4, hkv⟩ := tree_cells ht
      have HR := Lib.hid (HI.out t.kids[k] (List.getElem_mem hlt) wr v hkv)
      have k0 : (0 : Int) ≤ k := by omega
      have k2 : (k : Int) < t.kids.length := by omega
      by_cases hv : t.kids[k].valid (d + 1) = true
      · have HN := Lib.hid (HAT.out.next hlt hv)
        rw [hv] at HR
        clear ht hkv HAT hv
        generalize t.kids[k] = x at x0 x1 x2 x3 HR
        go_wp2_with (go_at_call 60; refine HR.out.mono ?_; rintro e w3 ⟨rfl, b3⟩; have B3 := Lib.hid (below_then HB.out b3); have E3 := Lib.hid (HE.out.later b3); clear b3)
        go_roundw
        case rel => exact ⟨k + 1, rfl, by go_num, by omega, HN.out, E3.out, B3.out⟩
        case measure => first | (simp [intOf]; done) | (simp [intOf]; omega)
      · rw [Bool.not_eq_true] at hv
        have HN := Lib.hid (valids_bad hlt hv)
        rw [hv] at HR
        clear ht hkv HAT hv
        generalize t.kids[k] = x at x0 x1 x2 x3 HR
        go_wp2_with (go_at_call 60; refine HR.out.mono ?_; rintro e w3 ⟨rfl, b3⟩; have B3 := Lib.hid (below_then HB.out b3); clear b3)
        go_ret
        exact ⟨by rw [HN.out]; rfl, B3.out⟩
    · obtain rfl : k = t.kids.length := by omega
      have HN := Lib.hid HAT.out.over
      go_wp2
      go_ret
      exact ⟨by rw [HN.out]; rfl, HB.out⟩
end Go.Proofs.Ytiiogpafgoeblaa
/- Literals are written: what the program appends for a byte, and the reference model's hexadecimal digit. No conditions. -/
namespace Go.Proofs.Ytiiogpafgoeblaa
open Go.RowKit
set_option linter.unusedVariables false

theorem plain_any (b : UInt8) (w : World) : Calls Try.prog 133 #[.int .u8 (b.toNat : Int)] w fun e w' => e = .returned (.bool (Lt.plain b)) ∧ w = w' := by
  cases hp : Lt.plain b
  · rcases (Lt.plain_no b).1 hp with h | h
    · have h1 : (b.toNat : Int) < 32 := by omega
      clear hp h
      go_enter Try.func133, Try.ntmps133
      go_wp2
      go_ret
      exact ⟨rfl, rfl⟩
    · have h1 : decide ((b.toNat : Int) ≤ 126) = false := by simp; omega
      have h2 : (32 : Int) ≤ b.toNat := by omega
      clear hp h
      go_enter Try.func133, Try.ntmps133
      go_wp2
      go_ret
      exact ⟨rfl, rfl⟩
  · obtain ⟨h1, h2⟩ := (Lt.plain_iff b).1 hp
    have h3 : (b.toNat : Int) ≤ 126 := by omega
    have h4 : (32 : Int) ≤ b.toNat := by omega
    clear hp h1 h2
    go_enter Try.func133, Try.ntmps133
    go_wp2
    go_ret
    exact ⟨rfl, rfl⟩
theorem hex_any (n : Nat) (w : World) (h : (n : Int) < 16) : Calls Try.prog 98 #[.int .i64 n] w fun e w' => e = .returned (.int .u8 ((Lt.hexC n).toNat : Int)) ∧ w = w' := by
  have HX := Lib.hid (Lt.hexC_nat n (by omega))
  by_cases h1 : (n : Int) < 10
  · go_enter Try.func98, Try.ntmps98
    go_wp2
    go_ret
    exact ⟨by rw [HX.out, if_pos (by omega)]; go_num, rfl⟩
  · go_enter Try.func98, Try.ntmps98
    go_wp2
    go_ret
    exact ⟨by rw [HX.out, if_neg (by omega)]; go_num, rfl⟩

/-- A byte's part of a literal is appended. -/
def RetEl (base : Nat) (w : World) (m : List UInt8) (e : Ending) (w' : World) : Prop := ∃ v', e = .returned v' ∧ Own8 w' base v' m ∧ Below base w w'

theorem ne_int {a b : UInt8} (h : a ≠ b) : ((a.toNat : Int) == (b.toNat : Int)) = false := by
  have := Lt.ne_nat h
  simp; omega
theorem app_el1 (base : Nat) (v : Value) (l : List UInt8) (d b : UInt8) (w : World) (ho : Own8 w base v l) (hB : base ≤ w.heap.size) (hl : (l.length : Int) ≤ 10000000) (h1 : b = d) :
    Calls Try.prog 127 #[v, .int .u8 (b.toNat : Int), .int .u8 (d.toNat : Int)] w (RetEl base w (l ++ [92, b])) := by
  have HO := Lib.hid ho
  clear ho
  subst h1
  go_enter Try.func127, Try.ntmps127
  go_wp2_with ((at_builtin; refine wpList_app8 rfl _ _ rfl base _ l [92, b] rfl HO.out hB 2 rfl rfl (by omega) _ _ rfl ?_))
  intro v' w2 HO2 HB2
  go_wp2
  go_ret
  exact ⟨_, rfl, HO2.out, HB2.out⟩
theorem app_el2 (base : Nat) (v : Value) (l : List UInt8) (d b : UInt8) (w : World) (ho : Own8 w base v l) (hB : base ≤ w.heap.size) (hl : (l.length : Int) ≤ 10000000) (h1 : b ≠ d) (h2 : b = 92) :
    Calls Try.prog 127 #[v, .int .u8 (b.toNat : Int), .int .u8 (d.toNat : Int)] w (RetEl base w (l ++ [92, b])) := by
  have HO := Lib.hid ho
  clear ho
  have t1 := ne_int h1
  have t2 : ((b.toNat : Int) == 92) = true := by rw [h2]; rfl
  clear h1 h2
  go_enter Try.func127, Try.ntmps127
  go_wp2_with ((at_builtin; refine wpList_app8 rfl _ _ rfl base _ l [92, b] rfl HO.out hB 2 rfl rfl (by omega) _ _ rfl ?_))
  intro v' w2 HO2 HB2
  go_wp2
  go_ret
  exact ⟨_, rfl, HO2.out, HB2.out⟩
theorem app_el3 (base : Nat) (v : Value) (l : List UInt8) (d b : UInt8) (w : World) (ho : Own8 w base v l) (hB : base ≤ w.heap.size) (hl : (l.length : Int) ≤ 10000000) (h1 : b ≠ d) (h2 : b ≠ 92) (h3 : Lt.plain b = true) :
    Calls Try.prog 127 #[v, .int .u8 (b.toNat : Int), .int .u8 (d.toNat : Int)] w (RetEl base w (l ++ [b])) := by
  have HO := Lib.hid ho
  clear ho
  have t1 := ne_int h1
  have t2 : ((b.toNat : Int) == 92) = false := ne_int (b := 92) h2
  have HP := Lib.hid (fun W => plain_any b W)
  rw [h3] at HP
  clear h1 h2 h3
  go_enter Try.func127, Try.ntmps127
  go_wp2_with (first | (go_at_call 133; refine (HP.out _).mono ?_; rintro e w1 ⟨rfl, rfl⟩) | (at_builtin; refine wpList_app8 rfl _ _ rfl base _ l [b] rfl HO.out hB 1 rfl rfl (by omega) _ _ rfl ?_))
  intro v' w2 HO2 HB2
  go_wp2
  go_ret
  exact ⟨_, rfl, HO2.out, HB2.out⟩
theorem app_el4 (base : Nat) (v : Value) (l : List UInt8) (d b : UInt8) (w : World) (ho : Own8 w base v l) (hB : base ≤ w.heap.size) (hl : (l.length : Int) ≤ 10000000) (h1 : b ≠ d) (h3 : b = 10) :
    Calls Try.prog 127 #[v, .int .u8 (b.toNat : Int), .int .u8 (d.toNat : Int)] w (RetEl base w (l ++ [92, 110])) := by
  have HO := Lib.hid ho
  clear ho
  have t1 := ne_int h1
  have t2 : ((b.toNat : Int) == 92) = false := by rw [h3]; rfl
  have HP := Lib.hid (fun W => plain_any b W)
  rw [show Lt.plain b = false by rw [h3]; decide] at HP
  have t3 : ((b.toNat : Int) == 10) = true := by rw [h3]; rfl
  clear h1 h3
  go_enter Try.func127, Try.ntmps127
  go_wp2_with (first | (go_at_call 133; refine (HP.out _).mono ?_; rintro e w1 ⟨rfl, rfl⟩) | (at_builtin; refine wpList_app8 rfl _ _ rfl base _ l [92, 110] rfl HO.out hB 2 rfl rfl (by omega) _ _ rfl ?_))
  intro v' w2 HO2 HB2
  go_wp2
  go_ret
  exact ⟨_, rfl, HO2.out, HB2.out⟩
theorem app_el5 (base : Nat) (v : Value) (l : List UInt8) (d b : UInt8) (w : World) (ho : Own8 w base v l) (hB : base ≤ w.heap.size) (hl : (l.length : Int) ≤ 10000000) (h1 : b ≠ d) (h3 : b = 9) :
    Calls Try.prog 127 #[v, .int .u8 (b.toNat : Int), .int .u8 (d.toNat : Int)] w (RetEl base w (l ++ [92, 116])) := by
  have HO := Lib.hid ho
  clear ho
  have t1 := ne_int h1
  have t2 : ((b.toNat : Int) == 92) = false := by rw [h3]; rfl
  have HP := Lib.hid (fun W => plain_any b W)
  rw [show Lt.plain b = false by rw [h3]; decide] at HP
  have t3 : ((b.toNat : Int) == 10) = false := by rw [h3]; rfl
  have t4 : ((b.toNat : Int) == 9) = true := by rw [h3]; rfl
  clear h1 h3
  go_enter Try.func127, Try.ntmps127
  go_wp2_with (first | (go_at_call 133; refine (HP.out _).mono ?_; rintro e w1 ⟨rfl, rfl⟩) | (at_builtin; refine wpList_app8 rfl _ _ rfl base _ l [92, 116] rfl HO.out hB 2 rfl rfl (by omega) _ _ rfl ?_))
  intro v' w2 HO2 HB2
  go_wp2
  go_ret
  exact ⟨_, rfl, HO2.out, HB2.out⟩

/-- The digits. -/
def hexS : ByteArray := ⟨#[48, 49, 50, 51, 52, 53, 54, 55, 56, 57, 97, 98, 99, 100, 101, 102]⟩
theorem hexS_at (n : Nat) (h : n < 16) : hexS[n]'h = Lt.hexC n := by
  have h2 : ∀ k : Fin 16, hexS[k.val]'k.isLt = Lt.hexC k.val := by decide
  exact h2 ⟨n, h⟩

set_option maxHeartbeats 800000 in
theorem app_el6 (base : Nat) (v : Value) (l : List UInt8) (d b : UInt8) (w : World) (ho : Own8 w base v l) (hB : base ≤ w.heap.size) (hl : (l.length : Int) ≤ 10000000) (h1 : b ≠ d) (h2 : b ≠ 92) (h3 : Lt.plain b = false) (h4 : b ≠ 10) (h5 : b ≠ 9) :
    Calls Try.prog 127 #[v, .int .u8 (b.toNat : Int), .int .u8 (d.toNat : Int)] w (RetEl base w (l ++ [92, 120, Lt.hexC (b.toNat / 16), Lt.hexC (b.toNat % 16)])) := by
  have HO := Lib.hid ho
  clear ho
  have hb := UInt8.toNat_lt b
  have t1 := ne_int h1
  have t2 : ((b.toNat : Int) == 92) = false := ne_int (b := 92) h2
  have t3 : ((b.toNat : Int) == 10) = false := ne_int (b := 10) h4
  have t4 : ((b.toNat : Int) == 9) = false := ne_int (b := 9) h5
  have HP := Lib.hid (fun W => plain_any b W)
  rw [h3] at HP
  clear h1 h2 h3 h4 h5
  obtain ⟨p, hp⟩ : ∃ p, p = b.toNat / 16 := ⟨_, rfl⟩
  obtain ⟨q, hq⟩ : ∃ q, q = b.toNat % 16 := ⟨_, rfl⟩
  have hp2 : p < 16 := by omega
  have hq2 : q < 16 := by omega
  have HX := Lib.hid (hexS_at p hp2)
  have HY := Lib.hid (hexS_at q hq2)
  rw [← hp, ← hq]
  have e0 : IntKind.i64.wrap (b.toNat : Int) = b.toNat := IntWalk.i64_in _ (by omega)
  have e1 : (b.toNat : Int).tdiv 16 = p := by rw [Int.tdiv_eq_ediv_of_nonneg (by omega)]; omega
  have e2 : (b.toNat : Int).tmod 16 = q := by rw [Int.tmod_eq_emod_of_nonneg (by omega)]; omega
  have e3 : IntKind.i64.wrap (p : Int) = p := IntWalk.i64_in _ (by omega)
  have e4 : IntKind.i64.wrap (q : Int) = q := IntWalk.i64_in _ (by omega)
  have i1 : (0 : Int) ≤ p := by omega
  have i2 : (0 : Int) ≤ q := by omega
  have i3 : (p : Int) < 16 := by omega
  have i4 : (q : Int) < 16 := by omega
  clear hp hq
  go_enter Try.func127, Try.ntmps127
  go_wp2_with ((go_at_call 133; refine (HP.out _).mono ?_; rintro e w1 ⟨rfl, rfl⟩))
  go_region_law (refine step_app8d rfl (.tmp 38) (.tmp 47) rfl base v l [92, 120, hexS[p]'hp2, hexS[q]'hq2] (by simp [Act.eval]) HO.out hB 4 rfl (by simp [Act.eval]) (by omega) _ _ rfl ?_; intro v' w2 HO2 HB2)
  all_goals
    rw [HX.out, HY.out] at HO2
    simp only [List.getElem_toArray, List.getElem_cons_succ, List.getElem_cons_zero, Act.put, List.setIfInBounds_toArray, List.set_cons_succ, List.set_cons_zero]
    first
      | (go_ret; exact ⟨_, rfl, HO2.out, HB2.out⟩)
      | (go_wp2; go_ret; exact ⟨_, rfl, HO2.out, HB2.out⟩)

/-- What the program appends for a byte. -/
theorem app_el (base : Nat) (v : Value) (l : List UInt8) (d b : UInt8) (w : World) (ho : Own8 w base v l) (hB : base ≤ w.heap.size) (hl : (l.length : Int) ≤ 10000000) :
    Calls Try.prog 127 #[v, .int .u8 (b.toNat : Int), .int .u8 (d.toNat : Int)] w (RetEl base w (l ++ Lt.el d b)) := by
  rcases Lt.el_cases d b with ⟨h1, e⟩ | ⟨h1, h2, e⟩ | ⟨h1, h2, h3, h4, e⟩ | ⟨h1, h2, e⟩ | ⟨h1, h2, e⟩ | ⟨h1, h2, h3, h4, h5, e⟩ | ⟨h1, h2, h3, h4, h5, e⟩ <;> rw [e]
  · exact app_el1 base v l d b w ho hB hl h1
  · exact app_el2 base v l d b w ho hB hl h1 h2
  · exact app_el3 base v l d b w ho hB hl h1 h2 ((Lt.plain_iff b).2 ⟨h3, h4⟩)
  · exact app_el4 base v l d b w ho hB hl h1 h2
  · exact app_el5 base v l d b w ho hB hl h1 h2
  · exact app_el6 base v l d b w ho hB hl h1 h2 ((Lt.plain_no b).2 (.inl h5)) h3 h4
  · exact app_el6 base v l d b w ho hB hl h1 h2 ((Lt.plain_no b).2 (.inr h5)) h3 h4
end Go.Proofs.Ytiiogpafgoeblaa
