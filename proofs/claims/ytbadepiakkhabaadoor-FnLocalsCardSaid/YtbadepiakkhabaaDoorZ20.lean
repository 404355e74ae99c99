/- Joined texts: U8. No conditions besides those that each states. -/
import Derived.Test.YtbadepiakkhabaaDoorZ12
import Derived.Test.YtbadepiakkhabaaDoorZ17
import Derived.Test.YtbadepiakkhabaaDoorZ19
/- Valid units; the reference model's IsValidUnit. No conditions. -/
namespace Go.Proofs.YtbadepiakkhabaaDoor
open Go.RowKit
set_option linter.unusedVariables false

abbrev nmB (s : ByteArray) : Bool := Tk.isName s.data.toList
/-- At most so many names. -/
def nmOk (l : List ByteArray) (m : Nat) : Bool := l.all nmB && decide (l.length ≤ m)
def exOk (t : Ex.T) : Bool := decide (t.count ≤ 600) && t.valid 1
def Rc.valid (r : Rc) : Bool := nmB r.name && (nmOk r.fields 6 && decide (0 ≤ r.line))
def Pc.valid (r : Pc) : Bool := nmB r.name && (nmOk r.params 6 && (nmOk r.locals 8 && (decide (0 ≤ r.line) && (decide (r.body.kind = 14) && exOk r.body))))
def Un.valid (u : Un) : Bool := decide (u.recs.length ≤ 8) && (decide (u.procs.length ≤ 12) && (nmOk u.globs 12 && (u.recs.all Rc.valid && u.procs.all Pc.valid)))
theorem all_take {α : Type} (p : α → Bool) (l : List α) (k : Nat) (hk : k < l.length) (h : (l.take k).all p = true) (hp : p l[k] = true) : (l.take (k + 1)).all p = true := by
  rw [List.take_succ_eq_append_getElem hk, List.all_append, h, List.all_cons, List.all_nil, hp]; rfl
theorem all_no {α : Type} (p : α → Bool) (l : List α) (k : Nat) (hk : k < l.length) (hp : p l[k] = false) : l.all p = false := by
  rw [List.all_eq_false]; exact ⟨_, List.getElem_mem hk, by rw [hp]; decide⟩
theorem all_end {α : Type} (p : α → Bool) (l : List α) (h : (l.take l.length).all p = true) : l.all p = true := by rw [List.take_length] at h; exact h
theorem nm_no {l : List ByteArray} {m : Nat} (h : l.all nmB = false) : nmOk l m = false := by unfold nmOk; rw [h, Bool.false_and]
theorem nm_yes {l : List ByteArray} {m : Nat} (h : l.all nmB = true) : nmOk l m = decide (l.length ≤ m) := by unfold nmOk; rw [h, Bool.true_and]
theorem un_rec {u : Un} (h : u.recs.all Rc.valid = false) : u.valid = false := by unfold Un.valid; rw [h]; simp
theorem un_proc {u : Un} (h : u.procs.all Pc.valid = false) : u.valid = false := by unfold Un.valid; rw [h]; simp
theorem str_bound {l : List ByteArray} (h : strsB l ≤ 1048576) : ∀ s ∈ l, (s.size : Int) ≤ 1048576 := fun s hs => by
  have := wsum_mem ByteArray.size hs
  unfold strsB at h
  omega
theorem ret_eb {a b : Bool} (h : b = a) : Ending.returned (.bool a) = .returned (.bool b) := by rw [h]
set_option maxHeartbeats 800000 in
theorem spec_namesok (v : Value) (l : List ByteArray) (m : Nat) (w : World) (hk : Is w (strsD l) v) (hb : strsB l ≤ 1048576) (hm : (m : Int) ≤ 100) :
    Calls Tryd.prog 26 #[v, .int .i64 (m : Int)] w fun e w' => e = .returned (.bool (nmOk l m)) ∧ Below w.heap.size w w' := by
  obtain ⟨a, c, rfl⟩ := is_slice hk
  have HK := Lib.hid hk
  have HZ := Lib.hid (str_bound hb)
  have hln : l.length ≤ 1048576 := by unfold strsB at hb; omega
  clear hk hb
  go_enter Tryd.func26, Tryd.ntmps26
  go_wp2
  go_loopw [5] (fun i wr => ∃ k : Nat, i = .int .i64 k ∧ k ≤ l.length ∧ (l.take k).all nmB = true ∧ Below w.heap.size w wr) (fun i _ => l.length - (intOf i).toNat)
  case atStart => exact ⟨0, rfl, Nat.zero_le _, rfl, Below.refl _ _⟩
  case round =>
    obtain ⟨k, rfl, hk, hall, hb⟩ := hrel
    have HA := Lib.hid hall
    have HB := Lib.hid hb
    by_cases hlt : k < l.length
    · obtain ⟨g, o, rfl, d1⟩ := str_at (HK.out.later hb) k hlt
      have HC := Lib.hid (spec_name l[k] wr (HZ.out _ (List.getElem_mem hlt)))
      have HY := Lib.hid (fun h => all_take nmB l k hlt HA.out h)
      have HNO := Lib.hid (fun h => nm_no (m := m) (all_no nmB l k hlt h))
      clear hall hb
      generalize l[k] = x at d1 HC HY HNO
      cases hx : Tk.isName x.data.toList
      · rw [hx] at HC
        have HN := Lib.hid (HNO.out hx)
        clear HY HNO hx
        go_wp2_with fail
        refine HC.out.mono ?_
        rintro e w1 ⟨rfl, b1⟩
        have B1 := Lib.hid (below_then HB.out b1)
        clear b1
        go_wp2
        go_ret
        exact ⟨ret_eb HN.out, B1.out⟩
      · rw [hx] at HC
        have HN := Lib.hid (HY.out hx)
        clear HY HNO hx
        go_wp2_with fail
        refine HC.out.mono ?_
        rintro e w1 ⟨rfl, b1⟩
        have B1 := Lib.hid (below_then HB.out b1)
        clear b1
        go_wp2
        go_roundw
        case rel => exact ⟨k + 1, by go_num, by omega, HN.out, B1.out⟩
        case measure => first | (simp [intOf]; done) | (simp [intOf]; omega)
    · obtain rfl : k = l.length := by omega
      have HN := Lib.hid (nm_yes (m := m) (all_end _ _ hall))
      clear hall
      go_wp2
      go_ret
      refine ⟨?_, hb⟩
      first | exact ret_eb HN.out | (refine ret_eb (HN.out.trans ?_); simp)

theorem spec_nm {s : ByteArray} {b : Bool} (h : nmB s = b) (w : World) (hs : (s.size : Int) ≤ 1048576) : Calls Tryd.prog 28 #[.string s] w fun e w' => e = .returned (.bool b) ∧ Below w.heap.size w w' := by
  have hc := spec_name s w hs
  rw [show Tk.isName s.data.toList = b from h] at hc
  exact hc
theorem spec_nok {l : List ByteArray} {m : Nat} {b : Bool} (h : nmOk l m = b) (v : Value) (w : World) (hk : Is w (strsD l) v) (hb : strsB l ≤ 1048576) (hm : (m : Int) ≤ 100) : Calls Tryd.prog 26 #[v, .int .i64 (m : Int)] w fun e w' => e = .returned (.bool b) ∧ Below w.heap.size w w' := by
  have hc := spec_namesok v l m w hk hb hm
  rw [h] at hc
  exact hc
theorem spec_val {t : Ex.T} {b : Bool} (h : exOk t = b) (w : World) (v : Value) (hk : Kids w v t.kids) (hb : t.bulk ≤ 1048576) : Calls Tryd.prog 85 #[exV t v] w fun e w' => e = .returned (.bool b) ∧ Below w.heap.size w w' := by
  have hc := spec_isvalid t hb w v hk
  rw [show (decide (t.count ≤ 600) && t.valid 1) = b from h] at hc
  exact hc
theorem spec_val4 {t : Ex.T} {b : Bool} (h4 : t.kind = 14) (h : exOk t = b) (w : World) (v : Value) (hk : Kids w v t.kids) (hb : t.bulk ≤ 1048576) : Calls Tryd.prog 85 #[.agg #[.int .i64 14, .string t.text, .int .i64 t.num, .int .i64 t.line, v]] w fun e w' => e = .returned (.bool b) ∧ Below w.heap.size w w' := by
  have hc := spec_val h w v hk hb
  unfold exV at hc
  rw [h4] at hc
  exact hc
set_option maxRecDepth 100000 in
set_option maxHeartbeats 6400000 in
theorem spec_validunit (u : Un) (hb : u.bulk ≤ 1048576) (w : World) (v1 v2 v3 : Value) (h : UnIs w u v1 v2 v3) :
    Calls Tryd.prog 46 #[unV v1 v2 v3] w fun e w' => e = .returned (.bool u.valid) ∧ Below w.heap.size w w' := by
  have h1 := h.1
  have h2 := h.2.1
  have h3 := h.2.2
  obtain ⟨a1, c1, rfl⟩ := is_slice h1
  obtain ⟨a2, c2, rfl⟩ := is_slice h2
  obtain ⟨a3, c3, rfl⟩ := is_slice h3
  have hbb := hb
  unfold Un.bulk recsB procsB at hbb
  have HBU : Hid (wsum Rc.bulk u.recs ≤ 1048576 ∧ wsum Pc.bulk u.procs ≤ 1048576) := Lib.hid (by omega)
  have l1 : u.recs.length ≤ 1048576 := by omega
  have l3 : u.procs.length ≤ 1048576 := by omega
  have hsb : strsB u.globs ≤ 1048576 := by omega
  have B0 := Lib.hid (bl1 w (.cells #[.slice a1 u.recs.length c1, .slice a2 u.globs.length c2, .slice a3 u.procs.length c3] 51))
  have V0 := Lib.hid (Var.new w #[.slice a1 u.recs.length c1, .slice a2 u.globs.length c2, .slice a3 u.procs.length c3] 51)
  have HC := Lib.hid (spec_namesok _ u.globs 12 _ (h2.later B0.out) hsb (by decide))
  have H1 := Lib.hid h1
  have H3 := Lib.hid h3
  clear h h1 h2 h3 hbb hb hsb
  by_cases n1 : u.recs.length ≤ 8
  case neg =>
    have HN : Hid (u.valid = false) := Lib.hid (by unfold Un.valid; rw [decide_eq_false n1]; rfl)
    have t1 : decide (8 < u.recs.length) = true := decide_eq_true (by omega)
    go_enter Tryd.func46, Tryd.ntmps46
    go_wp2
    go_ret
    exact ⟨ret_eb HN.out, B0.out⟩
  have t1 : decide (8 < u.recs.length) = false := decide_eq_false (by omega)
  by_cases n2 : u.procs.length ≤ 12
  case neg =>
    have HN : Hid (u.valid = false) := Lib.hid (by unfold Un.valid; rw [decide_eq_false n2]; simp)
    have t2 : decide (12 < u.procs.length) = true := decide_eq_true (by omega)
    go_enter Tryd.func46, Tryd.ntmps46
    go_wp2
    go_ret
    exact ⟨ret_eb HN.out, B0.out⟩
  have t2 : decide (12 < u.procs.length) = false := decide_eq_false (by omega)
  cases n3 : nmOk u.globs 12
  case false =>
    have HN : Hid (u.valid = false) := Lib.hid (by unfold Un.valid; rw [n3]; simp)
    rw [n3] at HC
    go_enter Tryd.func46, Tryd.ntmps46
    go_wp2_with fail
    refine HC.out.mono ?_
    rintro e w1 ⟨rfl, b1⟩
    have B1 := Lib.hid (below_then B0.out b1)
    clear b1
    go_wp2
    go_ret
    exact ⟨ret_eb HN.out, B1.out⟩
  rw [n3] at HC
  go_enter Tryd.func46, Tryd.ntmps46
  go_wp2_with fail
  refine HC.out.mono ?_
  rintro e w1 ⟨rfl, b1⟩
  have HB0 := Lib.hid (below_then B0.out b1)
  have HV0 := Lib.hid (V0.out.later b1)
  clear b1 HC B0 V0
  go_wp2
  go_loopw [3] (fun i wr => ∃ k : Nat, i = .int .i64 k ∧ k ≤ u.recs.length ∧ (u.recs.take k).all Rc.valid = true ∧ Below w.heap.size w wr ∧ Var wr w.heap.size [.slice a1 u.recs.length c1, .slice a2 u.globs.length c2, .slice a3 u.procs.length c3]) (fun i _ => u.recs.length - (intOf i).toNat)
  case atStart => exact ⟨0, rfl, Nat.zero_le _, rfl, HB0.out, HV0.out⟩
  case round =>
    obtain ⟨k, rfl, hk, hall, hb, hv⟩ := hrel
    have HA := Lib.hid hall
    have HB := Lib.hid hb
    have HV := Lib.hid hv
    have x0 := (hv 0 _ rfl).1
    by_cases hlt : k < u.recs.length
    · obtain ⟨g, o, rfl, ⟨q0, ⟨y1, q1, k1⟩, q2⟩⟩ := rec_at (H1.out.later hb) k hlt
      have hbx : u.recs[k].bulk ≤ 1048576 := by have := wsum_mem Rc.bulk (List.getElem_mem hlt); have := HBU.out.1; omega
      have HY := Lib.hid (fun h => all_take Rc.valid u.recs k hlt HA.out h)
      have HNO := Lib.hid (fun h => un_rec (all_no Rc.valid u.recs k hlt h))
      clear hall hb hv
      generalize u.recs[k] = x at hbx HY HNO q0 q1 q2 k1
      unfold Rc.bulk at hbx
      obtain ⟨e1, d1, rfl⟩ := is_slice k1
      have hnx : (x.name.size : Int) ≤ 1048576 := by omega
      have HBX := Lib.hid hbx
      have K1 := Lib.hid (k1)
      have bA := bl1 wr (.cells #[.string x.name, .slice e1 x.fields.length d1, .int .i64 x.line] 72)
      have VA := Lib.hid (Var.new wr #[.string x.name, .slice e1 x.fields.length d1, .int .i64 x.line] 72)
      have BA := Lib.hid bA
      clear bA hbx k1
      cases h0 : nmB x.name
      case false =>
        have HN := Lib.hid (HNO.out (by unfold Rc.valid; rw [h0]; simp))
        go_wp2_with fail
        refine (spec_nm h0 _ hnx).mono ?_
        rintro e w1 ⟨rfl, b1⟩
        have B1 := Lib.hid (below_then BA.out b1)
        have V1 := Lib.hid (VA.out.later b1)
        have f0 := (V1.out 0 _ rfl).1
        have f1 := (V1.out 1 _ rfl).1
        have f2 := (V1.out 2 _ rfl).1
        clear b1
        have BW := Lib.hid (HB.out.trans (Below.mono B1.out HB.out.size))
        have VW := Lib.hid (HV.out.later B1.out)
        go_wp2
        go_ret
        exact ⟨ret_eb HN.out, BW.out⟩
      cases h1 : nmOk x.fields 6
      case false =>
        have HN := Lib.hid (HNO.out (by unfold Rc.valid; rw [h0, h1]; simp))
        go_wp2_with fail
        refine (spec_nm h0 _ hnx).mono ?_
        rintro e w1 ⟨rfl, b1⟩
        have B1 := Lib.hid (below_then BA.out b1)
        have V1 := Lib.hid (VA.out.later b1)
        have f0 := (V1.out 0 _ rfl).1
        have f1 := (V1.out 1 _ rfl).1
        have f2 := (V1.out 2 _ rfl).1
        clear b1
        go_wp2_with fail
        refine (spec_nok h1 _ _ (K1.out.later B1.out) (by have := HBX.out; omega) (by decide)).mono ?_
        rintro e w2 ⟨rfl, b2⟩
        have B2 := Lib.hid (below_then B1.out b2)
        have V2 := Lib.hid (V1.out.later b2)
        clear f0 f1 f2
        have f0 := (V2.out 0 _ rfl).1
        have f1 := (V2.out 1 _ rfl).1
        have f2 := (V2.out 2 _ rfl).1
        clear b2
        have BW := Lib.hid (HB.out.trans (Below.mono B2.out HB.out.size))
        have VW := Lib.hid (HV.out.later B2.out)
        go_wp2
        go_ret
        exact ⟨ret_eb HN.out, BW.out⟩
      by_cases p2 : 0 ≤ x.line
      case neg =>
        have h2 : decide (0 ≤ x.line) = false := decide_eq_false p2
        have g2 : x.line < 0 := by omega
        have HN := Lib.hid (HNO.out (by unfold Rc.valid; rw [h0, h1, h2]; simp))
        go_wp2_with fail
        refine (spec_nm h0 _ hnx).mono ?_
        rintro e w1 ⟨rfl, b1⟩
        have B1 := Lib.hid (below_then BA.out b1)
        have V1 := Lib.hid (VA.out.later b1)
        have f0 := (V1.out 0 _ rfl).1
        have f1 := (V1.out 1 _ rfl).1
        have f2 := (V1.out 2 _ rfl).1
        clear b1
        go_wp2_with fail
        refine (spec_nok h1 _ _ (K1.out.later B1.out) (by have := HBX.out; omega) (by decide)).mono ?_
        rintro e w2 ⟨rfl, b2⟩
        have B2 := Lib.hid (below_then B1.out b2)
        have V2 := Lib.hid (V1.out.later b2)
        clear f0 f1 f2
        have f0 := (V2.out 0 _ rfl).1
        have f1 := (V2.out 1 _ rfl).1
        have f2 := (V2.out 2 _ rfl).1
        clear b2
        have BW := Lib.hid (HB.out.trans (Below.mono B2.out HB.out.size))
        have VW := Lib.hid (HV.out.later B2.out)
        go_wp2
        go_ret
        exact ⟨ret_eb HN.out, BW.out⟩
      have h2 : decide (0 ≤ x.line) = true := decide_eq_true p2
      have g2 : ¬ x.line < 0 := by omega
      have HN := Lib.hid (HY.out (by unfold Rc.valid; rw [h0, h1, h2]; rfl))
      go_wp2_with fail
      refine (spec_nm h0 _ hnx).mono ?_
      rintro e w1 ⟨rfl, b1⟩
      have B1 := Lib.hid (below_then BA.out b1)
      have V1 := Lib.hid (VA.out.later b1)
      have f0 := (V1.out 0 _ rfl).1
      have f1 := (V1.out 1 _ rfl).1
      have f2 := (V1.out 2 _ rfl).1
      clear b1
      go_wp2_with fail
      refine (spec_nok h1 _ _ (K1.out.later B1.out) (by have := HBX.out; omega) (by decide)).mono ?_
      rintro e w2 ⟨rfl, b2⟩
      have B2 := Lib.hid (below_then B1.out b2)
      have V2 := Lib.hid (V1.out.later b2)
      clear f0 f1 f2
      have f0 := (V2.out 0 _ rfl).1
      have f1 := (V2.out 1 _ rfl).1
      have f2 := (V2.out 2 _ rfl).1
      clear b2
      have BW := Lib.hid (HB.out.trans (Below.mono B2.out HB.out.size))
      have VW := Lib.hid (HV.out.later B2.out)
      go_wp2
      go_roundw
      case rel => exact ⟨k + 1, by go_num, by omega, HN.out, BW.out, VW.out⟩
      case measure => first | (simp [intOf]; done) | (simp [intOf]; omega)
    · obtain rfl : k = u.recs.length := by omega
      have HAR := Lib.hid (all_end _ _ hall)
      have HB0 := Lib.hid hb
      have HV0 := Lib.hid hv
      clear hall hb hv HA HB HV
      go_wp2
      go_loopw [5] (fun i wr => ∃ k : Nat, i = .int .i64 k ∧ k ≤ u.procs.length ∧ (u.procs.take k).all Pc.valid = true ∧ Below w.heap.size w wr ∧ Var wr w.heap.size [.slice a1 u.recs.length c1, .slice a2 u.globs.length c2, .slice a3 u.procs.length c3]) (fun i _ => u.procs.length - (intOf i).toNat)
      case atStart => exact ⟨0, rfl, Nat.zero_le _, rfl, HB0.out, HV0.out⟩
      case round =>
        obtain ⟨k, rfl, hk, hall, hb, hv⟩ := hrel
        have HA := Lib.hid hall
        have HB := Lib.hid hb
        have HV := Lib.hid hv
        have x2 := (hv 2 _ rfl).1
        by_cases hlt : k < u.procs.length
        · obtain ⟨g, o, rfl, ⟨q0, ⟨y1, q1, k1⟩, ⟨y2, q2, k2⟩, ⟨q3, q4, q5, q6⟩, ⟨y3, q7, k3⟩, q8⟩⟩ := proc_at (H3.out.later hb) k hlt
          have hbx : u.procs[k].bulk ≤ 1048576 := by have := wsum_mem Pc.bulk (List.getElem_mem hlt); have := HBU.out.2; omega
          have HY := Lib.hid (fun h => all_take Pc.valid u.procs k hlt HA.out h)
          have HNO := Lib.hid (fun h => un_proc (all_no Pc.valid u.procs k hlt h))
          clear hall hb hv
          generalize u.procs[k] = x at hbx HY HNO q0 q1 q2 q3 q4 q5 q6 q7 q8 k1 k2 k3
          unfold Pc.bulk at hbx
          obtain ⟨e1, d1, rfl⟩ := is_slice k1
          obtain ⟨e2, d2, rfl⟩ := is_slice k2
          obtain ⟨e3, d3, rfl⟩ := kids_len k3
          have hnx : (x.name.size : Int) ≤ 1048576 := by omega
          have HBX := Lib.hid hbx
          have K1 := Lib.hid (k1)
          have K2 := Lib.hid (k2)
          have K3 := Lib.hid (k3)
          have bA := bl1 wr (.cells #[.string x.name, .slice e1 x.params.length d1, .slice e2 x.locals.length d2, .int .i64 x.body.kind, .string x.body.text, .int .i64 x.body.num, .int .i64 x.body.line, .slice e3 x.body.kids.length d3, .int .i64 x.line] 107)
          have VA := Lib.hid (Var.new wr #[.string x.name, .slice e1 x.params.length d1, .slice e2 x.locals.length d2, .int .i64 x.body.kind, .string x.body.text, .int .i64 x.body.num, .int .i64 x.body.line, .slice e3 x.body.kids.length d3, .int .i64 x.line] 107)
          have BA := Lib.hid bA
          clear bA hbx k1 k2 k3
          cases h0 : nmB x.name
          case false =>
            have HN := Lib.hid (HNO.out (by unfold Pc.valid; rw [h0]; simp))
            go_wp2_with fail
            refine (spec_nm h0 _ hnx).mono ?_
            rintro e w1 ⟨rfl, b1⟩
            have B1 := Lib.hid (below_then BA.out b1)
            have V1 := Lib.hid (VA.out.later b1)
            have f0 := (V1.out 0 _ rfl).1
            have f1 := (V1.out 1 _ rfl).1
            have f2 := (V1.out 2 _ rfl).1
            have f3 := (V1.out 3 _ rfl).1
            have f4 := (V1.out 4 _ rfl).1
            have f5 := (V1.out 5 _ rfl).1
            have f6 := (V1.out 6 _ rfl).1
            have f7 := (V1.out 7 _ rfl).1
            have f8 := (V1.out 8 _ rfl).1
            clear b1
            have BW := Lib.hid (HB.out.trans (Below.mono B1.out HB.out.size))
            have VW := Lib.hid (HV.out.later B1.out)
            go_wp2
            go_ret
            exact ⟨ret_eb HN.out, BW.out⟩
          cases h1 : nmOk x.params 6
          case false =>
            have HN := Lib.hid (HNO.out (by unfold Pc.valid; rw [h0, h1]; simp))
            go_wp2_with fail
            refine (spec_nm h0 _ hnx).mono ?_
            rintro e w1 ⟨rfl, b1⟩
            have B1 := Lib.hid (below_then BA.out b1)
            have V1 := Lib.hid (VA.out.later b1)
            have f0 := (V1.out 0 _ rfl).1
            have f1 := (V1.out 1 _ rfl).1
            have f2 := (V1.out 2 _ rfl).1
            have f3 := (V1.out 3 _ rfl).1
            have f4 := (V1.out 4 _ rfl).1
            have f5 := (V1.out 5 _ rfl).1
            have f6 := (V1.out 6 _ rfl).1
            have f7 := (V1.out 7 _ rfl).1
            have f8 := (V1.out 8 _ rfl).1
            clear b1
            go_wp2_with fail
            refine (spec_nok h1 _ _ (K1.out.later B1.out) (by have := HBX.out; omega) (by decide)).mono ?_
            rintro e w2 ⟨rfl, b2⟩
            have B2 := Lib.hid (below_then B1.out b2)
            have V2 := Lib.hid (V1.out.later b2)
            clear f0 f1 f2 f3 f4 f5 f6 f7 f8
            have f0 := (V2.out 0 _ rfl).1
            have f1 := (V2.out 1 _ rfl).1
            have f2 := (V2.out 2 _ rfl).1
            have f3 := (V2.out 3 _ rfl).1
            have f4 := (V2.out 4 _ rfl).1
            have f5 := (V2.out 5 _ rfl).1
            have f6 := (V2.out 6 _ rfl).1
            have f7 := (V2.out 7 _ rfl).1
            have f8 := (V2.out 8 _ rfl).1
            clear b2
            have BW := Lib.hid (HB.out.trans (Below.mono B2.out HB.out.size))
            have VW := Lib.hid (HV.out.later B2.out)
            go_wp2
            go_ret
            exact ⟨ret_eb HN.out, BW.out⟩
          cases h2 : nmOk x.locals 8
          case false =>
            have HN := Lib.hid (HNO.out (by unfold Pc.valid; rw [h0, h1, h2]; simp))
            go_wp2_with fail
            refine (spec_nm h0 _ hnx).mono ?_
            rintro e w1 ⟨rfl, b1⟩
            have B1 := Lib.hid (below_then BA.out b1)
            have V1 := Lib.hid (VA.out.later b1)
            have f0 := (V1.out 0 _ rfl).1
            have f1 := (V1.out 1 _ rfl).1
            have f2 := (V1.out 2 _ rfl).1
            have f3 := (V1.out 3 _ rfl).1
            have f4 := (V1.out 4 _ rfl).1
            have f5 := (V1.out 5 _ rfl).1
            have f6 := (V1.out 6 _ rfl).1
            have f7 := (V1.out 7 _ rfl).1
            have f8 := (V1.out 8 _ rfl).1
            clear b1
            go_wp2_with fail
            refine (spec_nok h1 _ _ (K1.out.later B1.out) (by have := HBX.out; omega) (by decide)).mono ?_
            rintro e w2 ⟨rfl, b2⟩
            have B2 := Lib.hid (below_then B1.out b2)
            have V2 := Lib.hid (V1.out.later b2)
            clear f0 f1 f2 f3 f4 f5 f6 f7 f8
            have f0 := (V2.out 0 _ rfl).1
            have f1 := (V2.out 1 _ rfl).1
            have f2 := (V2.out 2 _ rfl).1
            have f3 := (V2.out 3 _ rfl).1
            have f4 := (V2.out 4 _ rfl).1
            have f5 := (V2.out 5 _ rfl).1
            have f6 := (V2.out 6 _ rfl).1
            have f7 := (V2.out 7 _ rfl).1
            have f8 := (V2.out 8 _ rfl).1
            clear b2
            go_wp2_with fail
            refine (spec_nok h2 _ _ (K2.out.later B2.out) (by have := HBX.out; omega) (by decide)).mono ?_
            rintro e w3 ⟨rfl, b3⟩
            have B3 := Lib.hid (below_then B2.out b3)
            have V3 := Lib.hid (V2.out.later b3)
            clear f0 f1 f2 f3 f4 f5 f6 f7 f8
            have f0 := (V3.out 0 _ rfl).1
            have f1 := (V3.out 1 _ rfl).1
            have f2 := (V3.out 2 _ rfl).1
            have f3 := (V3.out 3 _ rfl).1
            have f4 := (V3.out 4 _ rfl).1
            have f5 := (V3.out 5 _ rfl).1
            have f6 := (V3.out 6 _ rfl).1
            have f7 := (V3.out 7 _ rfl).1
            have f8 := (V3.out 8 _ rfl).1
            clear b3
            have BW := Lib.hid (HB.out.trans (Below.mono B3.out HB.out.size))
            have VW := Lib.hid (HV.out.later B3.out)
            go_wp2
            go_ret
            exact ⟨ret_eb HN.out, BW.out⟩
          by_cases p3 : 0 ≤ x.line
          case neg =>
            have h3 : decide (0 ≤ x.line) = false := decide_eq_false p3
            have g3 : x.line < 0 := by omega
            have HN := Lib.hid (HNO.out (by unfold Pc.valid; rw [h0, h1, h2, h3]; simp))
            go_wp2_with fail
            refine (spec_nm h0 _ hnx).mono ?_
            rintro e w1 ⟨rfl, b1⟩
            have B1 := Lib.hid (below_then BA.out b1)
            have V1 := Lib.hid (VA.out.later b1)
            have f0 := (V1.out 0 _ rfl).1
            have f1 := (V1.out 1 _ rfl).1
            have f2 := (V1.out 2 _ rfl).1
            have f3 := (V1.out 3 _ rfl).1
            have f4 := (V1.out 4 _ rfl).1
            have f5 := (V1.out 5 _ rfl).1
            have f6 := (V1.out 6 _ rfl).1
            have f7 := (V1.out 7 _ rfl).1
            have f8 := (V1.out 8 _ rfl).1
            clear b1
            go_wp2_with fail
            refine (spec_nok h1 _ _ (K1.out.later B1.out) (by have := HBX.out; omega) (by decide)).mono ?_
            rintro e w2 ⟨rfl, b2⟩
            have B2 := Lib.hid (below_then B1.out b2)
            have V2 := Lib.hid (V1.out.later b2)
            clear f0 f1 f2 f3 f4 f5 f6 f7 f8
            have f0 := (V2.out 0 _ rfl).1
            have f1 := (V2.out 1 _ rfl).1
            have f2 := (V2.out 2 _ rfl).1
            have f3 := (V2.out 3 _ rfl).1
            have f4 := (V2.out 4 _ rfl).1
            have f5 := (V2.out 5 _ rfl).1
            have f6 := (V2.out 6 _ rfl).1
            have f7 := (V2.out 7 _ rfl).1
            have f8 := (V2.out 8 _ rfl).1
            clear b2
            go_wp2_with fail
            refine (spec_nok h2 _ _ (K2.out.later B2.out) (by have := HBX.out; omega) (by decide)).mono ?_
            rintro e w3 ⟨rfl, b3⟩
            have B3 := Lib.hid (below_then B2.out b3)
            have V3 := Lib.hid (V2.out.later b3)
            clear f0 f1 f2 f3 f4 f5 f6 f7 f8
            have f0 := (V3.out 0 _ rfl).1
            have f1 := (V3.out 1 _ rfl).1
            have f2 := (V3.out 2 _ rfl).1
            have f3 := (V3.out 3 _ rfl).1
            have f4 := (V3.out 4 _ rfl).1
            have f5 := (V3.out 5 _ rfl).1
            have f6 := (V3.out 6 _ rfl).1
            have f7 := (V3.out 7 _ rfl).1
            have f8 := (V3.out 8 _ rfl).1
            clear b3
            have BW := Lib.hid (HB.out.trans (Below.mono B3.out HB.out.size))
            have VW := Lib.hid (HV.out.later B3.out)
            go_wp2
            go_ret
            exact ⟨ret_eb HN.out, BW.out⟩
          have h3 : decide (0 ≤ x.line) = true := decide_eq_true p3
          have g3 : ¬ x.line < 0 := by omega
          by_cases p4 : x.body.kind = 14
          case neg =>
            have h4 : decide (x.body.kind = 14) = false := decide_eq_false p4
            have g4 : (x.body.kind != 14) = true := bne_iff_ne.2 p4
            have HN := Lib.hid (HNO.out (by unfold Pc.valid; rw [h0, h1, h2, h3, h4]; simp))
            go_wp2_with fail
            refine (spec_nm h0 _ hnx).mono ?_
            rintro e w1 ⟨rfl, b1⟩
            have B1 := Lib.hid (below_then BA.out b1)
            have V1 := Lib.hid (VA.out.later b1)
            have f0 := (V1.out 0 _ rfl).1
            have f1 := (V1.out 1 _ rfl).1
            have f2 := (V1.out 2 _ rfl).1
            have f3 := (V1.out 3 _ rfl).1
            have f4 := (V1.out 4 _ rfl).1
            have f5 := (V1.out 5 _ rfl).1
            have f6 := (V1.out 6 _ rfl).1
            have f7 := (V1.out 7 _ rfl).1
            have f8 := (V1.out 8 _ rfl).1
            clear b1
            go_wp2_with fail
            refine (spec_nok h1 _ _ (K1.out.later B1.out) (by have := HBX.out; omega) (by decide)).mono ?_
            rintro e w2 ⟨rfl, b2⟩
            have B2 := Lib.hid (below_then B1.out b2)
            have V2 := Lib.hid (V1.out.later b2)
            clear f0 f1 f2 f3 f4 f5 f6 f7 f8
            have f0 := (V2.out 0 _ rfl).1
            have f1 := (V2.out 1 _ rfl).1
            have f2 := (V2.out 2 _ rfl).1
            have f3 := (V2.out 3 _ rfl).1
            have f4 := (V2.out 4 _ rfl).1
            have f5 := (V2.out 5 _ rfl).1
            have f6 := (V2.out 6 _ rfl).1
            have f7 := (V2.out 7 _ rfl).1
            have f8 := (V2.out 8 _ rfl).1
            clear b2
            go_wp2_with fail
            refine (spec_nok h2 _ _ (K2.out.later B2.out) (by have := HBX.out; omega) (by decide)).mono ?_
            rintro e w3 ⟨rfl, b3⟩
            have B3 := Lib.hid (below_then B2.out b3)
            have V3 := Lib.hid (V2.out.later b3)
            clear f0 f1 f2 f3 f4 f5 f6 f7 f8
            have f0 := (V3.out 0 _ rfl).1
            have f1 := (V3.out 1 _ rfl).1
            have f2 := (V3.out 2 _ rfl).1
            have f3 := (V3.out 3 _ rfl).1
            have f4 := (V3.out 4 _ rfl).1
            have f5 := (V3.out 5 _ rfl).1
            have f6 := (V3.out 6 _ rfl).1
            have f7 := (V3.out 7 _ rfl).1
            have f8 := (V3.out 8 _ rfl).1
            clear b3
            have BW := Lib.hid (HB.out.trans (Below.mono B3.out HB.out.size))
            have VW := Lib.hid (HV.out.later B3.out)
            go_wp2
            go_ret
            exact ⟨ret_eb HN.out, BW.out⟩
          have h4 : decide (x.body.kind = 14) = true := decide_eq_true p4
          rw [p4] at BA VA
          cases h5 : exOk x.body
          case false =>
            have HN := Lib.hid (HNO.out (by unfold Pc.valid; rw [h0, h1, h2, h3, h4, h5]; simp))
            go_wp2_with fail
            refine (spec_nm h0 _ hnx).mono ?_
            rintro e w1 ⟨rfl, b1⟩
            have B1 := Lib.hid (below_then BA.out b1)
            have V1 := Lib.hid (VA.out.later b1)
            have f0 := (V1.out 0 _ rfl).1
            have f1 := (V1.out 1 _ rfl).1
            have f2 := (V1.out 2 _ rfl).1
            have f3 := (V1.out 3 _ rfl).1
            have f4 := (V1.out 4 _ rfl).1
            have f5 := (V1.out 5 _ rfl).1
            have f6 := (V1.out 6 _ rfl).1
            have f7 := (V1.out 7 _ rfl).1
            have f8 := (V1.out 8 _ rfl).1
            clear b1
            go_wp2_with fail
            refine (spec_nok h1 _ _ (K1.out.later B1.out) (by have := HBX.out; omega) (by decide)).mono ?_
            rintro e w2 ⟨rfl, b2⟩
            have B2 := Lib.hid (below_then B1.out b2)
            have V2 := Lib.hid (V1.out.later b2)
            clear f0 f1 f2 f3 f4 f5 f6 f7 f8
            have f0 := (V2.out 0 _ rfl).1
            have f1 := (V2.out 1 _ rfl).1
            have f2 := (V2.out 2 _ rfl).1
            have f3 := (V2.out 3 _ rfl).1
            have f4 := (V2.out 4 _ rfl).1
            have f5 := (V2.out 5 _ rfl).1
            have f6 := (V2.out 6 _ rfl).1
            have f7 := (V2.out 7 _ rfl).1
            have f8 := (V2.out 8 _ rfl).1
            clear b2
            go_wp2_with fail
            refine (spec_nok h2 _ _ (K2.out.later B2.out) (by have := HBX.out; omega) (by decide)).mono ?_
            rintro e w3 ⟨rfl, b3⟩
            have B3 := Lib.hid (below_then B2.out b3)
            have V3 := Lib.hid (V2.out.later b3)
            clear f0 f1 f2 f3 f4 f5 f6 f7 f8
            have f0 := (V3.out 0 _ rfl).1
            have f1 := (V3.out 1 _ rfl).1
            have f2 := (V3.out 2 _ rfl).1
            have f3 := (V3.out 3 _ rfl).1
            have f4 := (V3.out 4 _ rfl).1
            have f5 := (V3.out 5 _ rfl).1
            have f6 := (V3.out 6 _ rfl).1
            have f7 := (V3.out 7 _ rfl).1
            have f8 := (V3.out 8 _ rfl).1
            clear b3
            go_wp2_with fail
            refine (spec_val4 p4 h5 _ _ (K3.out.later B3.out) (by have := HBX.out; omega)).mono ?_
            rintro e w4 ⟨rfl, b4⟩
            have B4 := Lib.hid (below_then B3.out b4)
            have V4 := Lib.hid (V3.out.later b4)
            clear f0 f1 f2 f3 f4 f5 f6 f7 f8
            have f0 := (V4.out 0 _ rfl).1
            have f1 := (V4.out 1 _ rfl).1
            have f2 := (V4.out 2 _ rfl).1
            have f3 := (V4.out 3 _ rfl).1
            have f4 := (V4.out 4 _ rfl).1
            have f5 := (V4.out 5 _ rfl).1
            have f6 := (V4.out 6 _ rfl).1
            have f7 := (V4.out 7 _ rfl).1
            have f8 := (V4.out 8 _ rfl).1
            clear b4
            have BW := Lib.hid (HB.out.trans (Below.mono B4.out HB.out.size))
            have VW := Lib.hid (HV.out.later B4.out)
            go_wp2
            go_ret
            exact ⟨ret_eb HN.out, BW.out⟩
          have HN := Lib.hid (HY.out (by unfold Pc.valid; rw [h0, h1, h2, h3, h4, h5]; rfl))
          go_wp2_with fail
          refine (spec_nm h0 _ hnx).mono ?_
          rintro e w1 ⟨rfl, b1⟩
          have B1 := Lib.hid (below_then BA.out b1)
          have V1 := Lib.hid (VA.out.later b1)
          have f0 := (V1.out 0 _ rfl).1
          have f1 := (V1.out 1 _ rfl).1
          have f2 := (V1.out 2 _ rfl).1
          have f3 := (V1.out 3 _ rfl).1
          have f4 := (V1.out 4 _ rfl).1
          have f5 := (V1.out 5 _ rfl).1
          have f6 := (V1.out 6 _ rfl).1
          have f7 := (V1.out 7 _ rfl).1
          have f8 := (V1.out 8 _ rfl).1
          clear b1
          go_wp2_with fail
          refine (spec_nok h1 _ _ (K1.out.later B1.out) (by have := HBX.out; omega) (by decide)).mono ?_
          rintro e w2 ⟨rfl, b2⟩
          have B2 := Lib.hid (below_then B1.out b2)
          have V2 := Lib.hid (V1.out.later b2)
          clear f0 f1 f2 f3 f4 f5 f6 f7 f8
          have f0 := (V2.out 0 _ rfl).1
          have f1 := (V2.out 1 _ rfl).1
          have f2 := (V2.out 2 _ rfl).1
          have f3 := (V2.out 3 _ rfl).1
          have f4 := (V2.out 4 _ rfl).1
          have f5 := (V2.out 5 _ rfl).1
          have f6 := (V2.out 6 _ rfl).1
          have f7 := (V2.out 7 _ rfl).1
          have f8 := (V2.out 8 _ rfl).1
          clear b2
          go_wp2_with fail
          refine (spec_nok h2 _ _ (K2.out.later B2.out) (by have := HBX.out; omega) (by decide)).mono ?_
          rintro e w3 ⟨rfl, b3⟩
          have B3 := Lib.hid (below_then B2.out b3)
          have V3 := Lib.hid (V2.out.later b3)
          clear f0 f1 f2 f3 f4 f5 f6 f7 f8
          have f0 := (V3.out 0 _ rfl).1
          have f1 := (V3.out 1 _ rfl).1
          have f2 := (V3.out 2 _ rfl).1
          have f3 := (V3.out 3 _ rfl).1
          have f4 := (V3.out 4 _ rfl).1
          have f5 := (V3.out 5 _ rfl).1
          have f6 := (V3.out 6 _ rfl).1
          have f7 := (V3.out 7 _ rfl).1
          have f8 := (V3.out 8 _ rfl).1
          clear b3
          go_wp2_with fail
          refine (spec_val4 p4 h5 _ _ (K3.out.later B3.out) (by have := HBX.out; omega)).mono ?_
          rintro e w4 ⟨rfl, b4⟩
          have B4 := Lib.hid (below_then B3.out b4)
          have V4 := Lib.hid (V3.out.later b4)
          clear f0 f1 f2 f3 f4 f5 f6 f7 f8
          have f0 := (V4.out 0 _ rfl).1
          have f1 := (V4.out 1 _ rfl).1
          have f2 := (V4.out 2 _ rfl).1
          have f3 := (V4.out 3 _ rfl).1
          have f4 := (V4.out 4 _ rfl).1
          have f5 := (V4.out 5 _ rfl).1
          have f6 := (V4.out 6 _ rfl).1
          have f7 := (V4.out 7 _ rfl).1
          have f8 := (V4.out 8 _ rfl).1
          clear b4
          have BW := Lib.hid (HB.out.trans (Below.mono B4.out HB.out.size))
          have VW := Lib.hid (HV.out.later B4.out)
          go_wp2
          go_roundw
          case rel => exact ⟨k + 1, by go_num, by omega, HN.out, BW.out, VW.out⟩
          case measure => first | (simp [intOf]; done) | (simp [intOf]; omega)
        · obtain rfl : k = u.procs.length := by omega
          have HN : Hid (u.valid = true) := Lib.hid (by unfold Un.valid; rw [decide_eq_true n1, decide_eq_true n2, n3, HAR.out, all_end _ _ hall]; rfl)
          clear hall hv
          go_wp2
          go_ret
          exact ⟨ret_eb HN.out, hb⟩
end Go.Proofs.YtbadepiakkhabaaDoor
