/- Joined texts: V9, U90, U9, R0, N26, B1, G9, U10. No conditions besides those that each states. -/
import Derived.Test.YtbadepiakkhabaaDoorShelf
import Derived.Deep.Fields
import Derived.Lib.SmallJoins
import Derived.Test.YtbadepiakkhabaaDoorZ3
import Derived.Test.YtbadepiakkhabaaDoorZ4
import Derived.Test.YtbadepiakkhabaaDoorZ6
import Derived.Test.YtbadepiakkhabaaDoorZ20
import Derived.Test.YtbadepiakkhabaaDoorZ21
import Derived.Test.YtbadepiakkhabaaDoorZ23
import Derived.Test.YtbadepiakkhabaaDoorZ24
/- The reference model's ResolveName. No conditions. -/
namespace Go.Proofs.YtbadepiakkhabaaDoor
open Go.RowKit
set_option linter.unusedVariables false

/-- What a name means in a procedure. -/
def resv (u : Un) (k : Int) (s : ByteArray) : Int × Int := if u.valid = true ∧ 0 ≤ k then (match u.procs[k.toNat]? with | some p => means u (locs u p) s | none => (0, 0)) else (0, 0)
theorem resv_bad {u : Un} {k : Int} {s : ByteArray} (h : u.valid = false) : resv u k s = (0, 0) := by unfold resv; rw [h]; simp
theorem resv_neg {u : Un} {k : Int} {s : ByteArray} (h : k < 0) : resv u k s = (0, 0) := by unfold resv; rw [if_neg (by omega)]
theorem resv_far {u : Un} {k : Int} {s : ByteArray} (h : (u.procs.length : Int) ≤ k) : resv u k s = (0, 0) := by
  unfold resv
  split
  · rw [List.getElem?_eq_none (by omega)]
  · rfl
theorem resv_at {u : Un} {n : Nat} {s : ByteArray} (hv : u.valid = true) (h : n < u.procs.length) : resv u (n : Int) s = means u (locs u u.procs[n]) s := by
  unfold resv
  rw [if_pos ⟨hv, by omega⟩, Int.toNat_natCast, List.getElem?_eq_getElem h]
theorem means_in {u : Un} {L : List ByteArray} {s : ByteArray} {k : Nat} (h : fx L s = some k) : means u L s = (1, (k : Int)) := by unfold means; rw [h]
theorem locs_len (u : Un) (p : Pc) : (locs u p).length ≤ p.params.length + p.locals.length + p.body.count := by
  unfold locs
  have h := coll_len u p.body (p.params ++ p.locals)
  rw [List.length_append] at h
  exact h
end Go.Proofs.YtbadepiakkhabaaDoor
/- The program: lists of names, records. No conditions. -/
namespace Go.Proofs.YtbadepiakkhabaaDoor
open Go.RowKit
set_option linter.unusedVariables false

set_option maxHeartbeats 800000 in
theorem impl_names (v : Value) (l : List ByteArray) (m : Nat) (w : World) (hk : Is w (strsD l) v) (hb : strsB l ≤ 1048576) (hm : (m : Int) ≤ 100) :
    Calls Tryd.prog 64 #[v, .int .i64 (m : Int)] w fun e w' => e = .returned (.bool (nmOk l m)) ∧ Below w.heap.size w w' := by
  obtain ⟨a, c, rfl⟩ := is_slice hk
  have HK := Lib.hid hk
  have HZ := Lib.hid (str_bound hb)
  have hln : l.length ≤ 1048576 := by unfold strsB at hb; omega
  clear hk hb
  by_cases hmx : l.length ≤ m
  case neg =>
    have HN : Hid (nmOk l m = false) := Lib.hid (by unfold nmOk; rw [decide_eq_false hmx, Bool.and_false])
    have hlt : m < l.length := by omega
    have hlt2 : (m : Int) < l.length := by omega
    clear hmx
    go_enter Tryd.func64, Tryd.ntmps64
    go_wp2
    go_ret
    exact ⟨ret_eb HN.out, Below.refl _ _⟩
  have HM : Hid (∀ p : List ByteArray → Prop, (l.all nmB = true → nmOk l m = true)) := Lib.hid (fun _ h => by rw [nm_yes h, decide_eq_true hmx])
  have hnl : ¬ m < l.length := by omega
  have hnl2 : ¬ (m : Int) < l.length := by omega
  go_enter Tryd.func64, Tryd.ntmps64
  go_wp2
  go_loopw [6, 13] (fun _ i wr => ∃ k : Nat, i = .int .i64 k ∧ k ≤ l.length ∧ (l.take k).all nmB = true ∧ Below w.heap.size w wr) (fun _ i _ => l.length - (intOf i).toNat)
  case atStart => exact ⟨0, rfl, Nat.zero_le _, rfl, Below.refl _ _⟩
  case round =>
    obtain ⟨k, rfl, hk, hall, hb⟩ := hrel
    have HA := Lib.hid hall
    have HB := Lib.hid hb
    by_cases hlt : k < l.length
    · obtain ⟨g, o, rfl, d1⟩ := str_at (HK.out.later hb) k hlt
      have HC := Lib.hid (impl_name l[k] wr (HZ.out _ (List.getElem_mem hlt)))
      have HY := Lib.hid (fun h => all_take nmB l k hlt HA.out h)
      have HNO := Lib.hid (fun h => nm_no (m := m) (all_no nmB l k hlt h))
      have k0 : (0 : Int) ≤ k := by omega
      have k1 : (k : Int) < l.length := by omega
      clear hall hb
      generalize l[k] = x at d1 HC HY HNO
      cases hx : Tk.isName x.data.toList
      · rw [hx] at HC
        have HN := Lib.hid (HNO.out hx)
        clear HY HNO hx
        go_wp2_with fail
        refine HC.out.mono ?_
        rintro e w1 ⟨rfl, b1⟩
        have B1 := Lib.hid (below_then HB.out b1)
        clear b1
        go_wp2
        go_ret
        exact ⟨ret_eb HN.out, B1.out⟩
      · rw [hx] at HC
        have HN := Lib.hid (HY.out hx)
        clear HY HNO hx
        go_wp2_with fail
        refine HC.out.mono ?_
        rintro e w1 ⟨rfl, b1⟩
        have B1 := Lib.hid (below_then HB.out b1)
        clear b1
        go_wp2
        go_roundw
        case rel => exact ⟨k + 1, by go_num, by omega, HN.out, B1.out⟩
        case measure => first | (simp [intOf]; done) | (simp [intOf]; omega)
    · obtain rfl : k = l.length := by omega
      have HN := Lib.hid (HM.out (fun _ => True) (all_end _ _ hall))
      clear hall
      go_wp2
      go_ret
      exact ⟨ret_eb HN.out, hb⟩
theorem impl_nm {s : ByteArray} {b : Bool} (h : nmB s = b) (w : World) (hs : (s.size : Int) ≤ 1048576) : Calls Tryd.prog 94 #[.string s] w fun e w' => e = .returned (.bool b) ∧ Below w.heap.size w w' := by
  have hc := impl_name s w hs
  rw [show Tk.isName s.data.toList = b from h] at hc
  exact hc
theorem impl_nok {l : List ByteArray} {m : Nat} {b : Bool} (h : nmOk l m = b) (v : Value) (w : World) (hk : Is w (strsD l) v) (hb : strsB l ≤ 1048576) (hm : (m : Int) ≤ 100) : Calls Tryd.prog 64 #[v, .int .i64 (m : Int)] w fun e w' => e = .returned (.bool b) ∧ Below w.heap.size w w' := by
  have hc := impl_names v l m w hk hb hm
  rw [h] at hc
  exact hc
set_option maxHeartbeats 3200000 in
theorem impl_wrong_rec (x : Rc) (hb : x.bulk ≤ 1048576) (w : World) (y1 : Value) (k1 : Is w (strsD x.fields) y1) : Calls Tryd.prog 96 #[rcV x y1] w fun e w' => e = .returned (.bool (!x.valid)) ∧ Below w.heap.size w w' := by
  have hbx := hb
  unfold Rc.bulk at hbx
  have K1 := Lib.hid k1
  obtain ⟨e1, d1, rfl⟩ := is_slice k1
  have hnx : (x.name.size : Int) ≤ 1048576 := by omega
  have HBX := Lib.hid hbx
  have BA := Lib.hid (bl1 w (.cells #[.string x.name, .slice e1 x.fields.length d1, .int .i64 x.line] 72))
  have VA := Lib.hid (Var.new w #[.string x.name, .slice e1 x.fields.length d1, .int .i64 x.line] 72)
  clear hb hbx k1
  cases h0 : nmB x.name
  case false =>
    have HN : Hid ((!x.valid) = true) := Lib.hid (by unfold Rc.valid; rw [h0]; simp)
    go_enter Tryd.func96, Tryd.ntmps96
    go_wp2_with fail
    refine (impl_nm h0 _ hnx).mono ?_
    rintro e w1 ⟨rfl, b1⟩
    have B1 := Lib.hid (below_then BA.out b1)
    have V1 := Lib.hid (VA.out.later b1)
    have f0 := (V1.out 0 _ rfl).1
    have f1 := (V1.out 1 _ rfl).1
    have f2 := (V1.out 2 _ rfl).1
    clear b1
    go_wp2
    go_ret
    exact ⟨ret_eb HN.out, B1.out⟩
  cases h1 : nmOk x.fields 6
  case false =>
    have HN : Hid ((!x.valid) = true) := Lib.hid (by unfold Rc.valid; rw [h0, h1]; simp)
    go_enter Tryd.func96, Tryd.ntmps96
    go_wp2_with fail
    refine (impl_nm h0 _ hnx).mono ?_
    rintro e w1 ⟨rfl, b1⟩
    have B1 := Lib.hid (below_then BA.out b1)
    have V1 := Lib.hid (VA.out.later b1)
    have f0 := (V1.out 0 _ rfl).1
    have f1 := (V1.out 1 _ rfl).1
    have f2 := (V1.out 2 _ rfl).1
    clear b1
    go_wp2_with fail
    refine (impl_nok h1 _ _ (K1.out.later B1.out) (by have := HBX.out; omega) (by decide)).mono ?_
    rintro e w2 ⟨rfl, b2⟩
    have B2 := Lib.hid (below_then B1.out b2)
    have V2 := Lib.hid (V1.out.later b2)
    clear f0 f1 f2
    have f0 := (V2.out 0 _ rfl).1
    have f1 := (V2.out 1 _ rfl).1
    have f2 := (V2.out 2 _ rfl).1
    clear b2
    go_wp2
    go_ret
    exact ⟨ret_eb HN.out, B2.out⟩
  by_cases p2 : 0 ≤ x.line
  case neg =>
    have h2 : decide (0 ≤ x.line) = false := decide_eq_false p2
    have g2 : x.line < 0 := by omega
    have gd2 : decide (x.line < 0) = true := decide_eq_true g2
    have HN : Hid ((!x.valid) = true) := Lib.hid (by unfold Rc.valid; rw [h0, h1, h2]; simp)
    go_enter Tryd.func96, Tryd.ntmps96
    go_wp2_with fail
    refine (impl_nm h0 _ hnx).mono ?_
    rintro e w1 ⟨rfl, b1⟩
    have B1 := Lib.hid (below_then BA.out b1)
    have V1 := Lib.hid (VA.out.later b1)
    have f0 := (V1.out 0 _ rfl).1
    have f1 := (V1.out 1 _ rfl).1
    have f2 := (V1.out 2 _ rfl).1
    clear b1
    go_wp2_with fail
    refine (impl_nok h1 _ _ (K1.out.later B1.out) (by have := HBX.out; omega) (by decide)).mono ?_
    rintro e w2 ⟨rfl, b2⟩
    have B2 := Lib.hid (below_then B1.out b2)
    have V2 := Lib.hid (V1.out.later b2)
    clear f0 f1 f2
    have f0 := (V2.out 0 _ rfl).1
    have f1 := (V2.out 1 _ rfl).1
    have f2 := (V2.out 2 _ rfl).1
    clear b2
    go_wp2
    go_ret
    exact ⟨ret_eb HN.out, B2.out⟩
  have h2 : decide (0 ≤ x.line) = true := decide_eq_true p2
  have g2 : ¬ x.line < 0 := by omega
  have gd2 : decide (x.line < 0) = false := decide_eq_false g2
  have HN : Hid ((!x.valid) = false) := Lib.hid (by unfold Rc.valid; rw [h0, h1, h2]; rfl)
  go_enter Tryd.func96, Tryd.ntmps96
  go_wp2_with fail
  refine (impl_nm h0 _ hnx).mono ?_
  rintro e w1 ⟨rfl, b1⟩
  have B1 := Lib.hid (below_then BA.out b1)
  have V1 := Lib.hid (VA.out.later b1)
  have f0 := (V1.out 0 _ rfl).1
  have f1 := (V1.out 1 _ rfl).1
  have f2 := (V1.out 2 _ rfl).1
  clear b1
  go_wp2_with fail
  refine (impl_nok h1 _ _ (K1.out.later B1.out) (by have := HBX.out; omega) (by decide)).mono ?_
  rintro e w2 ⟨rfl, b2⟩
  have B2 := Lib.hid (below_then B1.out b2)
  have V2 := Lib.hid (V1.out.later b2)
  clear f0 f1 f2
  have f0 := (V2.out 0 _ rfl).1
  have f1 := (V2.out 1 _ rfl).1
  have f2 := (V2.out 2 _ rfl).1
  clear b2
  go_wp2
  go_ret
  exact ⟨ret_eb HN.out, B2.out⟩
set_option maxRecDepth 100000 in
set_option maxHeartbeats 3200000 in
theorem index_rec (l : List Rc) (hb : ∀ x ∈ l, x.bulk ≤ 1048576) (hln : l.length ≤ 1048576) (w : World) (v : Value) (hk : Is w (recsD l) v) : Calls Tryd.prog 95 #[v, .func (.func 96) #[] #[]] w fun e w' => (∃ n : Int, e = .returned (.int .i64 n) ∧ decide (0 ≤ n) = !(l.all Rc.valid)) ∧ Below w.heap.size w w' := by
  obtain ⟨a, c, rfl⟩ := is_slice hk
  have HK := Lib.hid hk
  have HI := Lib.hid hb
  clear hk hb
  go_enter Tryd.func95, Tryd.ntmps95
  go_wp2
  go_loopw [5, 8] (fun _ i wr => ∃ k : Nat, i = .int .i64 k ∧ k ≤ l.length ∧ (l.take k).all Rc.valid = true ∧ Below w.heap.size w wr) (fun _ i _ => l.length - (intOf i).toNat)
  case atStart => exact ⟨0, rfl, Nat.zero_le _, rfl, Below.refl _ _⟩
  case round =>
    obtain ⟨k, rfl, hk, hall, hb⟩ := hrel
    have HA := Lib.hid hall
    have HB := Lib.hid hb
    by_cases hlt : k < l.length
    · obtain ⟨g, o, rfl, ⟨q0, ⟨y1, q1, k1⟩, q2⟩⟩ := rec_at (HK.out.later hb) k hlt
      have HC := Lib.hid (fun W (hW : Below wr.heap.size wr W) => impl_wrong_rec l[k] (HI.out _ (List.getElem_mem hlt)) W y1 (k1.later hW))
      have HY := Lib.hid (fun h => all_take Rc.valid l k hlt HA.out h)
      have HNO := Lib.hid (fun h => all_no Rc.valid l k hlt h)
      have k0 : (0 : Int) ≤ k := by omega
      have k1' : (k : Int) < l.length := by omega
      clear hall hb
      obtain ⟨e1, d1, rfl⟩ := is_slice k1
      clear k1
      generalize l[k] = x at q0 q1 q2 HC HY HNO
      cases hx : x.valid
      · rw [hx] at HC
        have HN := Lib.hid (HNO.out hx)
        clear HY HNO hx
        go_wp2_with fail
        refine (HC.out _ (Below.refl _ _)).mono ?_
        rintro e w1 ⟨rfl, b1⟩
        have B1 := Lib.hid (below_then HB.out b1)
        clear b1
        go_wp2
        go_ret
        exact ⟨⟨_, rfl, by rw [HN.out]; simp⟩, B1.out⟩
      · rw [hx] at HC
        have HN := Lib.hid (HY.out hx)
        clear HY HNO hx
        go_wp2_with fail
        refine (HC.out _ (Below.refl _ _)).mono ?_
        rintro e w1 ⟨rfl, b1⟩
        have B1 := Lib.hid (below_then HB.out b1)
        clear b1
        go_wp2
        go_roundw
        case rel => exact ⟨k + 1, by go_num, by omega, HN.out, B1.out⟩
        case measure => first | (simp [intOf]; done) | (simp [intOf]; omega)
    · obtain rfl : k = l.length := by omega
      have HN := Lib.hid (all_end _ _ hall)
      clear hall
      go_wp2
      go_ret
      exact ⟨⟨_, rfl, by rw [HN.out]; rfl⟩, hb⟩
theorem contains_rec (l : List Rc) (hb : ∀ x ∈ l, x.bulk ≤ 1048576) (hln : l.length ≤ 1048576) (w : World) (v : Value) (hk : Is w (recsD l) v) : Calls Tryd.prog 65 #[v, .func (.func 96) #[] #[]] w fun e w' => e = .returned (.bool (!(l.all Rc.valid))) ∧ Below w.heap.size w w' := by
  have HC := Lib.hid (index_rec l hb hln w v hk)
  obtain ⟨a, c, rfl⟩ := is_slice hk
  clear hb hk
  go_enter Tryd.func65, Tryd.ntmps65
  go_wp2_with fail
  refine HC.out.mono ?_
  rintro e w1 ⟨⟨n, rfl, hn⟩, b1⟩
  have HN := Lib.hid hn
  have B1 := Lib.hid b1
  clear hn b1
  go_wp2
  go_ret
  exact ⟨ret_eb HN.out.symm, B1.out⟩
end Go.Proofs.YtbadepiakkhabaaDoor
/- The program's IsValidUnit. No conditions. -/
namespace Go.Proofs.YtbadepiakkhabaaDoor
open Go.RowKit
set_option linter.unusedVariables false

theorem impl_val {t : Ex.T} {b : Bool} (h : exOk t = b) (w : World) (v : Value) (hk : Kids w v t.kids) (hb : t.bulk ≤ 1048576) : Calls Tryd.prog 135 #[exV t v] w fun e w' => e = .returned (.bool b) ∧ Below w.heap.size w w' := by
  have hc := impl_isvalid t hb w v hk
  rw [show (decide (t.count ≤ 600) && t.valid 1) = b from h] at hc
  exact hc
theorem impl_val4 {t : Ex.T} {b : Bool} (h4 : t.kind = 14) (h : exOk t = b) (w : World) (v : Value) (hk : Kids w v t.kids) (hb : t.bulk ≤ 1048576) : Calls Tryd.prog 135 #[.agg #[.int .i64 14, .string t.text, .int .i64 t.num, .int .i64 t.line, v]] w fun e w' => e = .returned (.bool b) ∧ Below w.heap.size w w' := by
  have hc := impl_val h w v hk hb
  unfold exV at hc
  rw [h4] at hc
  exact hc
set_option maxHeartbeats 3200000 in
theorem impl_wrong_proc (x : Pc) (hb : x.bulk ≤ 1048576) (w : World) (y1 y2 y3 : Value) (k1 : Is w (strsD x.params) y1) (k2 : Is w (strsD x.locals) y2) (k3 : Is w (.ex x.body.kids) y3) : Calls Tryd.prog 111 #[pcV x y1 y2 y3] w fun e w' => e = .returned (.bool (!x.valid)) ∧ Below w.heap.size w w' := by
  have hbx := hb
  unfold Pc.bulk at hbx
  have K1 := Lib.hid k1
  have K2 := Lib.hid k2
  have K3 := Lib.hid k3
  obtain ⟨e1, d1, rfl⟩ := is_slice k1
  obtain ⟨e2, d2, rfl⟩ := is_slice k2
  obtain ⟨e3, d3, rfl⟩ := kids_len (is_ex k3)
  have hnx : (x.name.size : Int) ≤ 1048576 := by omega
  have HBX := Lib.hid hbx
  have BA := Lib.hid (bl1 w (.cells #[.string x.name, .slice e1 x.params.length d1, .slice e2 x.locals.length d2, .int .i64 x.body.kind, .string x.body.text, .int .i64 x.body.num, .int .i64 x.body.line, .slice e3 x.body.kids.length d3, .int .i64 x.line] 107))
  have VA := Lib.hid (Var.new w #[.string x.name, .slice e1 x.params.length d1, .slice e2 x.locals.length d2, .int .i64 x.body.kind, .string x.body.text, .int .i64 x.body.num, .int .i64 x.body.line, .slice e3 x.body.kids.length d3, .int .i64 x.line] 107)
  clear hb hbx k1 k2 k3
  cases h0 : nmB x.name
  case false =>
    have HN : Hid ((!x.valid) = true) := Lib.hid (by unfold Pc.valid; rw [h0]; simp)
    go_enter Tryd.func111, Tryd.ntmps111
    go_wp2_with fail
    refine (impl_nm h0 _ hnx).mono ?_
    rintro e w1 ⟨rfl, b1⟩
    have B1 := Lib.hid (below_then BA.out b1)
    have V1 := Lib.hid (VA.out.later b1)
    have f0 := (V1.out 0 _ rfl).1
    have f1 := (V1.out 1 _ rfl).1
    have f2 := (V1.out 2 _ rfl).1
    have f3 := (V1.out 3 _ rfl).1
    have f4 := (V1.out 4 _ rfl).1
    have f5 := (V1.out 5 _ rfl).1
    have f6 := (V1.out 6 _ rfl).1
    have f7 := (V1.out 7 _ rfl).1
    have f8 := (V1.out 8 _ rfl).1
    clear b1
    go_wp2
    go_ret
    exact ⟨ret_eb HN.out, B1.out⟩
  cases h1 : nmOk x.params 6
  case false =>
    have HN : Hid ((!x.valid) = true) := Lib.hid (by unfold Pc.valid; rw [h0, h1]; simp)
    go_enter Tryd.func111, Tryd.ntmps111
    go_wp2_with fail
    refine (impl_nm h0 _ hnx).mono ?_
    rintro e w1 ⟨rfl, b1⟩
    have B1 := Lib.hid (below_then BA.out b1)
    have V1 := Lib.hid (VA.out.later b1)
    have f0 := (V1.out 0 _ rfl).1
    have f1 := (V1.out 1 _ rfl).1
    have f2 := (V1.out 2 _ rfl).1
    have f3 := (V1.out 3 _ rfl).1
    have f4 := (V1.out 4 _ rfl).1
    have f5 := (V1.out 5 _ rfl).1
    have f6 := (V1.out 6 _ rfl).1
    have f7 := (V1.out 7 _ rfl).1
    have f8 := (V1.out 8 _ rfl).1
    clear b1
    go_wp2_with fail
    refine (impl_nok h1 _ _ (K1.out.later B1.out) (by have := HBX.out; omega) (by decide)).mono ?_
    rintro e w2 ⟨rfl, b2⟩
    have B2 := Lib.hid (below_then B1.out b2)
    have V2 := Lib.hid (V1.out.later b2)
    clear f0 f1 f2 f3 f4 f5 f6 f7 f8
    have f0 := (V2.out 0 _ rfl).1
    have f1 := (V2.out 1 _ rfl).1
    have f2 := (V2.out 2 _ rfl).1
    have f3 := (V2.out 3 _ rfl).1
    have f4 := (V2.out 4 _ rfl).1
    have f5 := (V2.out 5 _ rfl).1
    have f6 := (V2.out 6 _ rfl).1
    have f7 := (V2.out 7 _ rfl).1
    have f8 := (V2.out 8 _ rfl).1
    clear b2
    go_wp2
    go_ret
    exact ⟨ret_eb HN.out, B2.out⟩
  cases h2 : nmOk x.locals 8
  case false =>
    have HN : Hid ((!x.valid) = true) := Lib.hid (by unfold Pc.valid; rw [h0, h1, h2]; simp)
    go_enter Tryd.func111, Tryd.ntmps111
    go_wp2_with fail
    refine (impl_nm h0 _ hnx).mono ?_
    rintro e w1 ⟨rfl, b1⟩
    have B1 := Lib.hid (below_then BA.out b1)
    have V1 := Lib.hid (VA.out.later b1)
    have f0 := (V1.out 0 _ rfl).1
    have f1 := (V1.out 1 _ rfl).1
    have f2 := (V1.out 2 _ rfl).1
    have f3 := (V1.out 3 _ rfl).1
    have f4 := (V1.out 4 _ rfl).1
    have f5 := (V1.out 5 _ rfl).1
    have f6 := (V1.out 6 _ rfl).1
    have f7 := (V1.out 7 _ rfl).1
    have f8 := (V1.out 8 _ rfl).1
    clear b1
    go_wp2_with fail
    refine (impl_nok h1 _ _ (K1.out.later B1.out) (by have := HBX.out; omega) (by decide)).mono ?_
    rintro e w2 ⟨rfl, b2⟩
    have B2 := Lib.hid (below_then B1.out b2)
    have V2 := Lib.hid (V1.out.later b2)
    clear f0 f1 f2 f3 f4 f5 f6 f7 f8
    have f0 := (V2.out 0 _ rfl).1
    have f1 := (V2.out 1 _ rfl).1
    have f2 := (V2.out 2 _ rfl).1
    have f3 := (V2.out 3 _ rfl).1
    have f4 := (V2.out 4 _ rfl).1
    have f5 := (V2.out 5 _ rfl).1
    have f6 := (V2.out 6 _ rfl).1
    have f7 := (V2.out 7 _ rfl).1
    have f8 := (V2.out 8 _ rfl).1
    clear b2
    go_wp2_with fail
    refine (impl_nok h2 _ _ (K2.out.later B2.out) (by have := HBX.out; omega) (by decide)).mono ?_
    rintro e w3 ⟨rfl, b3⟩
    have B3 := Lib.hid (below_then B2.out b3)
    have V3 := Lib.hid (V2.out.later b3)
    clear f0 f1 f2 f3 f4 f5 f6 f7 f8
    have f0 := (V3.out 0 _ rfl).1
    have f1 := (V3.out 1 _ rfl).1
    have f2 := (V3.out 2 _ rfl).1
    have f3 := (V3.out 3 _ rfl).1
    have f4 := (V3.out 4 _ rfl).1
    have f5 := (V3.out 5 _ rfl).1
    have f6 := (V3.out 6 _ rfl).1
    have f7 := (V3.out 7 _ rfl).1
    have f8 := (V3.out 8 _ rfl).1
    clear b3
    go_wp2
    go_ret
    exact ⟨ret_eb HN.out, B3.out⟩
  by_cases p3 : 0 ≤ x.line
  case neg =>
    have h3 : decide (0 ≤ x.line) = false := decide_eq_false p3
    have g3 : x.line < 0 := by omega
    have gd3 : decide (x.line < 0) = true := decide_eq_true g3
    have HN : Hid ((!x.valid) = true) := Lib.hid (by unfold Pc.valid; rw [h0, h1, h2, h3]; simp)
    go_enter Tryd.func111, Tryd.ntmps111
    go_wp2_with fail
    refine (impl_nm h0 _ hnx).mono ?_
    rintro e w1 ⟨rfl, b1⟩
    have B1 := Lib.hid (below_then BA.out b1)
    have V1 := Lib.hid (VA.out.later b1)
    have f0 := (V1.out 0 _ rfl).1
    have f1 := (V1.out 1 _ rfl).1
    have f2 := (V1.out 2 _ rfl).1
    have f3 := (V1.out 3 _ rfl).1
    have f4 := (V1.out 4 _ rfl).1
    have f5 := (V1.out 5 _ rfl).1
    have f6 := (V1.out 6 _ rfl).1
    have f7 := (V1.out 7 _ rfl).1
    have f8 := (V1.out 8 _ rfl).1
    clear b1
    go_wp2_with fail
    refine (impl_nok h1 _ _ (K1.out.later B1.out) (by have := HBX.out; omega) (by decide)).mono ?_
    rintro e w2 ⟨rfl, b2⟩
    have B2 := Lib.hid (below_then B1.out b2)
    have V2 := Lib.hid (V1.out.later b2)
    clear f0 f1 f2 f3 f4 f5 f6 f7 f8
    have f0 := (V2.out 0 _ rfl).1
    have f1 := (V2.out 1 _ rfl).1
    have f2 := (V2.out 2 _ rfl).1
    have f3 := (V2.out 3 _ rfl).1
    have f4 := (V2.out 4 _ rfl).1
    have f5 := (V2.out 5 _ rfl).1
    have f6 := (V2.out 6 _ rfl).1
    have f7 := (V2.out 7 _ rfl).1
    have f8 := (V2.out 8 _ rfl).1
    clear b2
    go_wp2_with fail
    refine (impl_nok h2 _ _ (K2.out.later B2.out) (by have := HBX.out; omega) (by decide)).mono ?_
    rintro e w3 ⟨rfl, b3⟩
    have B3 := Lib.hid (below_then B2.out b3)
    have V3 := Lib.hid (V2.out.later b3)
    clear f0 f1 f2 f3 f4 f5 f6 f7 f8
    have f0 := (V3.out 0 _ rfl).1
    have f1 := (V3.out 1 _ rfl).1
    have f2 := (V3.out 2 _ rfl).1
    have f3 := (V3.out 3 _ rfl).1
    have f4 := (V3.out 4 _ rfl).1
    have f5 := (V3.out 5 _ rfl).1
    have f6 := (V3.out 6 _ rfl).1
    have f7 := (V3.out 7 _ rfl).1
    have f8 := (V3.out 8 _ rfl).1
    clear b3
    go_wp2
    go_ret
    exact ⟨ret_eb HN.out, B3.out⟩
  have h3 : decide (0 ≤ x.line) = true := decide_eq_true p3
  have g3 : ¬ x.line < 0 := by omega
  have gd3 : decide (x.line < 0) = false := decide_eq_false g3
  by_cases p4 : x.body.kind = 14
  case neg =>
    have h4 : decide (x.body.kind = 14) = false := decide_eq_false p4
    have g4 : (x.body.kind != 14) = true := bne_iff_ne.2 p4
    have HN : Hid ((!x.valid) = true) := Lib.hid (by unfold Pc.valid; rw [h0, h1, h2, h3, h4]; simp)
    go_enter Tryd.func111, Tryd.ntmps111
    go_wp2_with fail
    refine (impl_nm h0 _ hnx).mono ?_
    rintro e w1 ⟨rfl, b1⟩
    have B1 := Lib.hid (below_then BA.out b1)
    have V1 := Lib.hid (VA.out.later b1)
    have f0 := (V1.out 0 _ rfl).1
    have f1 := (V1.out 1 _ rfl).1
    have f2 := (V1.out 2 _ rfl).1
    have f3 := (V1.out 3 _ rfl).1
    have f4 := (V1.out 4 _ rfl).1
    have f5 := (V1.out 5 _ rfl).1
    have f6 := (V1.out 6 _ rfl).1
    have f7 := (V1.out 7 _ rfl).1
    have f8 := (V1.out 8 _ rfl).1
    clear b1
    go_wp2_with fail
    refine (impl_nok h1 _ _ (K1.out.later B1.out) (by have := HBX.out; omega) (by decide)).mono ?_
    rintro e w2 ⟨rfl, b2⟩
    have B2 := Lib.hid (below_then B1.out b2)
    have V2 := Lib.hid (V1.out.later b2)
    clear f0 f1 f2 f3 f4 f5 f6 f7 f8
    have f0 := (V2.out 0 _ rfl).1
    have f1 := (V2.out 1 _ rfl).1
    have f2 := (V2.out 2 _ rfl).1
    have f3 := (V2.out 3 _ rfl).1
    have f4 := (V2.out 4 _ rfl).1
    have f5 := (V2.out 5 _ rfl).1
    have f6 := (V2.out 6 _ rfl).1
    have f7 := (V2.out 7 _ rfl).1
    have f8 := (V2.out 8 _ rfl).1
    clear b2
    go_wp2_with fail
    refine (impl_nok h2 _ _ (K2.out.later B2.out) (by have := HBX.out; omega) (by decide)).mono ?_
    rintro e w3 ⟨rfl, b3⟩
    have B3 := Lib.hid (below_then B2.out b3)
    have V3 := Lib.hid (V2.out.later b3)
    clear f0 f1 f2 f3 f4 f5 f6 f7 f8
    have f0 := (V3.out 0 _ rfl).1
    have f1 := (V3.out 1 _ rfl).1
    have f2 := (V3.out 2 _ rfl).1
    have f3 := (V3.out 3 _ rfl).1
    have f4 := (V3.out 4 _ rfl).1
    have f5 := (V3.out 5 _ rfl).1
    have f6 := (V3.out 6 _ rfl).1
    have f7 := (V3.out 7 _ rfl).1
    have f8 := (V3.out 8 _ rfl).1
    clear b3
    go_wp2
    go_ret
    exact ⟨ret_eb HN.out, B3.out⟩
  have h4 : decide (x.body.kind = 14) = true := decide_eq_true p4
  rw [p4] at BA VA
  cases h5 : exOk x.body
  case false =>
    have HN : Hid ((!x.valid) = true) := Lib.hid (by unfold Pc.valid; rw [h0, h1, h2, h3, h4, h5]; simp)
    go_enter Tryd.func111, Tryd.ntmps111
    go_wp2_with fail
    refine (impl_nm h0 _ hnx).mono ?_
    rintro e w1 ⟨rfl, b1⟩
    have B1 := Lib.hid (below_then BA.out b1)
    have V1 := Lib.hid (VA.out.later b1)
    have f0 := (V1.out 0 _ rfl).1
    have f1 := (V1.out 1 _ rfl).1
    have f2 := (V1.out 2 _ rfl).1
    have f3 := (V1.out 3 _ rfl).1
    have f4 := (V1.out 4 _ rfl).1
    have f5 := (V1.out 5 _ rfl).1
    have f6 := (V1.out 6 _ rfl).1
    have f7 := (V1.out 7 _ rfl).1
    have f8 := (V1.out 8 _ rfl).1
    clear b1
    go_wp2_with fail
    refine (impl_nok h1 _ _ (K1.out.later B1.out) (by have := HBX.out; omega) (by decide)).mono ?_
    rintro e w2 ⟨rfl, b2⟩
    have B2 := Lib.hid (below_then B1.out b2)
    have V2 := Lib.hid (V1.out.later b2)
    clear f0 f1 f2 f3 f4 f5 f6 f7 f8
    have f0 := (V2.out 0 _ rfl).1
    have f1 := (V2.out 1 _ rfl).1
    have f2 := (V2.out 2 _ rfl).1
    have f3 := (V2.out 3 _ rfl).1
    have f4 := (V2.out 4 _ rfl).1
    have f5 := (V2.out 5 _ rfl).1
    have f6 := (V2.out 6 _ rfl).1
    have f7 := (V2.out 7 _ rfl).1
    have f8 := (V2.out 8 _ rfl).1
    clear b2
    go_wp2_with fail
    refine (impl_nok h2 _ _ (K2.out.later B2.out) (by have := HBX.out; omega) (by decide)).mono ?_
    rintro e w3 ⟨rfl, b3⟩
    have B3 := Lib.hid (below_then B2.out b3)
    have V3 := Lib.hid (V2.out.later b3)
    clear f0 f1 f2 f3 f4 f5 f6 f7 f8
    have f0 := (V3.out 0 _ rfl).1
    have f1 := (V3.out 1 _ rfl).1
    have f2 := (V3.out 2 _ rfl).1
    have f3 := (V3.out 3 _ rfl).1
    have f4 := (V3.out 4 _ rfl).1
    have f5 := (V3.out 5 _ rfl).1
    have f6 := (V3.out 6 _ rfl).1
    have f7 := (V3.out 7 _ rfl).1
    have f8 := (V3.out 8 _ rfl).1
    clear b3
    go_wp2_with fail
    refine (impl_val4 p4 h5 _ _ ((is_ex K3.out).later B3.out) (by have := HBX.out; omega)).mono ?_
    rintro e w4 ⟨rfl, b4⟩
    have B4 := Lib.hid (below_then B3.out b4)
    have V4 := Lib.hid (V3.out.later b4)
    clear f0 f1 f2 f3 f4 f5 f6 f7 f8
    have f0 := (V4.out 0 _ rfl).1
    have f1 := (V4.out 1 _ rfl).1
    have f2 := (V4.out 2 _ rfl).1
    have f3 := (V4.out 3 _ rfl).1
    have f4 := (V4.out 4 _ rfl).1
    have f5 := (V4.out 5 _ rfl).1
    have f6 := (V4.out 6 _ rfl).1
    have f7 := (V4.out 7 _ rfl).1
    have f8 := (V4.out 8 _ rfl).1
    clear b4
    go_wp2
    go_ret
    exact ⟨ret_eb HN.out, B4.out⟩
  have HN : Hid ((!x.valid) = false) := Lib.hid (by unfold Pc.valid; rw [h0, h1, h2, h3, h4, h5]; rfl)
  go_enter Tryd.func111, Tryd.ntmps111
  go_wp2_with fail
  refine (impl_nm h0 _ hnx).mono ?_
  rintro e w1 ⟨rfl, b1⟩
  have B1 := Lib.hid (below_then BA.out b1)
  have V1 := Lib.hid (VA.out.later b1)
  have f0 := (V1.out 0 _ rfl).1
  have f1 := (V1.out 1 _ rfl).1
  have f2 := (V1.out 2 _ rfl).1
  have f3 := (V1.out 3 _ rfl).1
  have f4 := (V1.out 4 _ rfl).1
  have f5 := (V1.out 5 _ rfl).1
  have f6 := (V1.out 6 _ rfl).1
  have f7 := (V1.out 7 _ rfl).1
  have f8 := (V1.out 8 _ rfl).1
  clear b1
  go_wp2_with fail
  refine (impl_nok h1 _ _ (K1.out.later B1.out) (by have := HBX.out; omega) (by decide)).mono ?_
  rintro e w2 ⟨rfl, b2⟩
  have B2 := Lib.hid (below_then B1.out b2)
  have V2 := Lib.hid (V1.out.later b2)
  clear f0 f1 f2 f3 f4 f5 f6 f7 f8
  have f0 := (V2.out 0 _ rfl).1
  have f1 := (V2.out 1 _ rfl).1
  have f2 := (V2.out 2 _ rfl).1
  have f3 := (V2.out 3 _ rfl).1
  have f4 := (V2.out 4 _ rfl).1
  have f5 := (V2.out 5 _ rfl).1
  have f6 := (V2.out 6 _ rfl).1
  have f7 := (V2.out 7 _ rfl).1
  have f8 := (V2.out 8 _ rfl).1
  clear b2
  go_wp2_with fail
  refine (impl_nok h2 _ _ (K2.out.later B2.out) (by have := HBX.out; omega) (by decide)).mono ?_
  rintro e w3 ⟨rfl, b3⟩
  have B3 := Lib.hid (below_then B2.out b3)
  have V3 := Lib.hid (V2.out.later b3)
  clear f0 f1 f2 f3 f4 f5 f6 f7 f8
  have f0 := (V3.out 0 _ rfl).1
  have f1 := (V3.out 1 _ rfl).1
  have f2 := (V3.out 2 _ rfl).1
  have f3 := (V3.out 3 _ rfl).1
  have f4 := (V3.out 4 _ rfl).1
  have f5 := (V3.out 5 _ rfl).1
  have f6 := (V3.out 6 _ rfl).1
  have f7 := (V3.out 7 _ rfl).1
  have f8 := (V3.out 8 _ rfl).1
  clear b3
  go_wp2_with fail
  refine (impl_val4 p4 h5 _ _ ((is_ex K3.out).later B3.out) (by have := HBX.out; omega)).mono ?_
  rintro e w4 ⟨rfl, b4⟩
  have B4 := Lib.hid (below_then B3.out b4)
  have V4 := Lib.hid (V3.out.later b4)
  clear f0 f1 f2 f3 f4 f5 f6 f7 f8
  have f0 := (V4.out 0 _ rfl).1
  have f1 := (V4.out 1 _ rfl).1
  have f2 := (V4.out 2 _ rfl).1
  have f3 := (V4.out 3 _ rfl).1
  have f4 := (V4.out 4 _ rfl).1
  have f5 := (V4.out 5 _ rfl).1
  have f6 := (V4.out 6 _ rfl).1
  have f7 := (V4.out 7 _ rfl).1
  have f8 := (V4.out 8 _ rfl).1
  clear b4
  go_wp2
  go_ret
  exact ⟨ret_eb HN.out, B4.out⟩
set_option maxRecDepth 100000 in
set_option maxHeartbeats 3200000 in
theorem index_proc (l : List Pc) (hb : ∀ x ∈ l, x.bulk ≤ 1048576) (hln : l.length ≤ 1048576) (w : World) (v : Value) (hk : Is w (procsD l) v) : Calls Tryd.prog 134 #[v, .func (.func 111) #[] #[]] w fun e w' => (∃ n : Int, e = .returned (.int .i64 n) ∧ decide (0 ≤ n) = !(l.all Pc.valid)) ∧ Below w.heap.size w w' := by
  obtain ⟨a, c, rfl⟩ := is_slice hk
  have HK := Lib.hid hk
  have HI := Lib.hid hb
  clear hk hb
  go_enter Tryd.func134, Tryd.ntmps134
  go_wp2
  go_loopw [5, 8] (fun _ i wr => ∃ k : Nat, i = .int .i64 k ∧ k ≤ l.length ∧ (l.take k).all Pc.valid = true ∧ Below w.heap.size w wr) (fun _ i _ => l.length - (intOf i).toNat)
  case atStart => exact ⟨0, rfl, Nat.zero_le _, rfl, Below.refl _ _⟩
  case round =>
    obtain ⟨k, rfl, hk, hall, hb⟩ := hrel
    have HA := Lib.hid hall
    have HB := Lib.hid hb
    by_cases hlt : k < l.length
    · obtain ⟨g, o, rfl, ⟨q0, ⟨y1, q1, k1⟩, ⟨y2, q2, k2⟩, ⟨q3, q4, q5, q6⟩, ⟨y3, q7, k3⟩, q8⟩⟩ := proc_at (HK.out.later hb) k hlt
      have HC := Lib.hid (fun W (hW : Below wr.heap.size wr W) => impl_wrong_proc l[k] (HI.out _ (List.getElem_mem hlt)) W y1 y2 y3 (k1.later hW) (k2.later hW) (by rw [Is]; exact Kids.later k3 hW))
      have HY := Lib.hid (fun h => all_take Pc.valid l k hlt HA.out h)
      have HNO := Lib.hid (fun h => all_no Pc.valid l k hlt h)
      have k0 : (0 : Int) ≤ k := by omega
      have k1' : (k : Int) < l.length := by omega
      clear hall hb
      obtain ⟨e1, d1, rfl⟩ := is_slice k1
      clear k1
      obtain ⟨e2, d2, rfl⟩ := is_slice k2
      clear k2
      obtain ⟨e3, d3, rfl⟩ := kids_len k3
      clear k3
      generalize l[k] = x at q0 q1 q2 q3 q4 q5 q6 q7 q8 HC HY HNO
      cases hx : x.valid
      · rw [hx] at HC
        have HN := Lib.hid (HNO.out hx)
        clear HY HNO hx
        go_wp2_with fail
        refine (HC.out _ (Below.refl _ _)).mono ?_
        rintro e w1 ⟨rfl, b1⟩
        have B1 := Lib.hid (below_then HB.out b1)
        clear b1
        go_wp2
        go_ret
        exact ⟨⟨_, rfl, by rw [HN.out]; simp⟩, B1.out⟩
      · rw [hx] at HC
        have HN := Lib.hid (HY.out hx)
        clear HY HNO hx
        go_wp2_with fail
        refine (HC.out _ (Below.refl _ _)).mono ?_
        rintro e w1 ⟨rfl, b1⟩
        have B1 := Lib.hid (below_then HB.out b1)
        clear b1
        go_wp2
        go_roundw
        case rel => exact ⟨k + 1, by go_num, by omega, HN.out, B1.out⟩
        case measure => first | (simp [intOf]; done) | (simp [intOf]; omega)
    · obtain rfl : k = l.length := by omega
      have HN := Lib.hid (all_end _ _ hall)
      clear hall
      go_wp2
      go_ret
      exact ⟨⟨_, rfl, by rw [HN.out]; rfl⟩, hb⟩
theorem contains_proc (l : List Pc) (hb : ∀ x ∈ l, x.bulk ≤ 1048576) (hln : l.length ≤ 1048576) (w : World) (v : Value) (hk : Is w (procsD l) v) : Calls Tryd.prog 110 #[v, .func (.func 111) #[] #[]] w fun e w' => e = .returned (.bool (!(l.all Pc.valid))) ∧ Below w.heap.size w w' := by
  have HC := Lib.hid (index_proc l hb hln w v hk)
  obtain ⟨a, c, rfl⟩ := is_slice hk
  clear hb hk
  go_enter Tryd.func110, Tryd.ntmps110
  go_wp2_with fail
  refine HC.out.mono ?_
  rintro e w1 ⟨⟨n, rfl, hn⟩, b1⟩
  have HN := Lib.hid hn
  have B1 := Lib.hid b1
  clear hn b1
  go_wp2
  go_ret
  exact ⟨ret_eb HN.out.symm, B1.out⟩
set_option maxRecDepth 100000 in
set_option maxHeartbeats 3200000 in
theorem impl_validunit (u : Un) (hb : u.bulk ≤ 1048576) (w : World) (v1 v2 v3 : Value) (h : UnIs w u v1 v2 v3) :
    Calls Tryd.prog 78 #[unV v1 v2 v3] w fun e w' => e = .returned (.bool u.valid) ∧ Below w.heap.size w w' := by
  have h1 := h.1
  have h2 := h.2.1
  have h3 := h.2.2
  have hbb := hb
  unfold Un.bulk recsB procsB at hbb
  have HC1 := Lib.hid (fun W (hW : Below w.heap.size w W) => contains_rec u.recs (fun x hx => by have := wsum_mem Rc.bulk hx; omega) (by omega) W v1 (h1.later hW))
  have HC2 := Lib.hid (fun W (hW : Below w.heap.size w W) => impl_names v2 u.globs 12 W (h2.later hW) (by omega) (by decide))
  have HC3 := Lib.hid (fun W (hW : Below w.heap.size w W) => contains_proc u.procs (fun x hx => by have := wsum_mem Pc.bulk hx; omega) (by omega) W v3 (h3.later hW))
  obtain ⟨a1, c1, rfl⟩ := is_slice h1
  obtain ⟨a2, c2, rfl⟩ := is_slice h2
  obtain ⟨a3, c3, rfl⟩ := is_slice h3
  have l1 : u.recs.length ≤ 1048576 := by omega
  have l3 : u.procs.length ≤ 1048576 := by omega
  have B0 := Lib.hid (bl1 w (.cells #[.slice a1 u.recs.length c1, .slice a2 u.globs.length c2, .slice a3 u.procs.length c3] 51))
  have V0 := Lib.hid (Var.new w #[.slice a1 u.recs.length c1, .slice a2 u.globs.length c2, .slice a3 u.procs.length c3] 51)
  clear h h1 h2 h3 hbb hb
  by_cases n1 : u.recs.length ≤ 8
  case neg =>
    have HN : Hid (u.valid = false) := Lib.hid (by unfold Un.valid; rw [decide_eq_false n1]; rfl)
    have t1 : decide (8 < u.recs.length) = true := decide_eq_true (by omega)
    go_enter Tryd.func78, Tryd.ntmps78
    go_wp2
    go_ret
    exact ⟨ret_eb HN.out, B0.out⟩
  have t1 : decide (8 < u.recs.length) = false := decide_eq_false (by omega)
  by_cases n2 : u.procs.length ≤ 12
  case neg =>
    have HN : Hid (u.valid = false) := Lib.hid (by unfold Un.valid; rw [decide_eq_false n2]; simp)
    have t2 : decide (12 < u.procs.length) = true := decide_eq_true (by omega)
    go_enter Tryd.func78, Tryd.ntmps78
    go_wp2
    go_ret
    exact ⟨ret_eb HN.out, B0.out⟩
  have t2 : decide (12 < u.procs.length) = false := decide_eq_false (by omega)
  cases n3 : nmOk u.globs 12
  case false =>
    have HN : Hid (u.valid = false) := Lib.hid (by unfold Un.valid; rw [n3]; simp)
    rw [n3] at HC2
    go_enter Tryd.func78, Tryd.ntmps78
    go_wp2_with fail
    refine (HC2.out _ B0.out).mono ?_
    rintro e w1 ⟨rfl, b1⟩
    have B1 := Lib.hid (below_then B0.out b1)
    clear b1
    go_wp2
    go_ret
    exact ⟨ret_eb HN.out, B1.out⟩
  rw [n3] at HC2
  cases n4 : u.recs.all Rc.valid
  case false =>
    have HN : Hid (u.valid = false) := Lib.hid (un_rec n4)
    rw [n4] at HC1
    go_enter Tryd.func78, Tryd.ntmps78
    go_wp2_with fail
    refine (HC2.out _ B0.out).mono ?_
    rintro e w1 ⟨rfl, b1⟩
    have B1 := Lib.hid (below_then B0.out b1)
    have V1 := Lib.hid (V0.out.later b1)
    have f0 := (V1.out 0 _ rfl).1
    have f2 := (V1.out 2 _ rfl).1
    clear b1
    go_wp2_with fail
    refine (HC1.out _ B1.out).mono ?_
    rintro e w2 ⟨rfl, b2⟩
    have B2 := Lib.hid (below_then B1.out b2)
    clear b2
    go_wp2
    go_ret
    exact ⟨ret_eb HN.out, B2.out⟩
  rw [n4] at HC1
  have HN : Hid (u.valid = u.procs.all Pc.valid) := Lib.hid (by unfold Un.valid; rw [decide_eq_true n1, decide_eq_true n2, n3, n4]; rfl)
  generalize u.procs.all Pc.valid = z at HC3 HN
  go_enter Tryd.func78, Tryd.ntmps78
  go_wp2_with fail
  refine (HC2.out _ B0.out).mono ?_
  rintro e w1 ⟨rfl, b1⟩
  have B1 := Lib.hid (below_then B0.out b1)
  have V1 := Lib.hid (V0.out.later b1)
  have f0 := (V1.out 0 _ rfl).1
  have f2 := (V1.out 2 _ rfl).1
  clear b1
  go_wp2_with fail
  refine (HC1.out _ B1.out).mono ?_
  rintro e w2 ⟨rfl, b2⟩
  have B2 := Lib.hid (below_then B1.out b2)
  have V2 := Lib.hid (V1.out.later b2)
  clear f0 f2
  have f2 := (V2.out 2 _ rfl).1
  clear b2
  go_wp2_with fail
  refine (HC3.out _ B2.out).mono ?_
  rintro e w3 ⟨rfl, b3⟩
  have B3 := Lib.hid (below_then B2.out b3)
  clear b3 f2
  cases z
  · go_wp2
    go_ret
    exact ⟨ret_eb HN.out, B3.out⟩
  · go_wp2
    go_ret
    exact ⟨ret_eb HN.out, B3.out⟩
end Go.Proofs.YtbadepiakkhabaaDoor
/- strings.Clone: the string itself. -/
namespace Go.Proofs.YtbadepiakkhabaaDoor
open Go.RowKit
set_option linter.unusedVariables false

theorem clone8 (s : ByteArray) (w : World) (h : (s.size : Int) ≤ 1048576) :
    Calls Tryd.prog 80 #[.string s] w fun e w' => e = .returned (.string s) ∧ Below w.heap.size w w' := by
  have HC := Lib.hid (fun W => Tryd.stringslite_Clone s W (by omega))
  go_enter Tryd.func80, Tryd.ntmps80
  go_wp2_with (go_at_call 112; refine (HC.out _).mono ?_; rintro e w1 ⟨rfl, b1⟩)
  go_ret
  exact ⟨rfl, b1⟩
end Go.Proofs.YtbadepiakkhabaaDoor
/- EraseLines of the program. No conditions. -/
namespace Go.Proofs.YtbadepiakkhabaaDoor
open Go.RowKit Go.Shelf
set_option linter.unusedVariables false
attribute [local go_sem] Oper.semAt_some

end Go.Proofs.YtbadepiakkhabaaDoor
/- The cells of a struct that came in, field by field. No conditions. -/
namespace Go.Proofs.YtbadepiakkhabaaDoor
open Go.RowKit Go.Joins
set_option linter.unusedVariables false

end Go.Proofs.YtbadepiakkhabaaDoor
/- A tree that came in. No conditions. -/
namespace Go.Proofs.YtbadepiakkhabaaDoor
open Go.RowKit Go.Joins
open Go.Deep (hone_of choose_lt oneCellFields)
set_option linter.unusedVariables false

instance : Inhabited Ex.T := ⟨.node 0 ByteArray.empty 0 0 []⟩
end Go.Proofs.YtbadepiakkhabaaDoor
/- A unit that came in. No conditions. -/
namespace Go.Proofs.YtbadepiakkhabaaDoor
open Go.RowKit Go.Joins
open Go.Deep (choose_lt oneCellFields)
set_option linter.unusedVariables false

theorem flat_str (l : List ByteArray) : (l.flatMap fun s => [D.str s]) = l.map D.str := by
  induction l with
  | nil => rfl
  | cons s r ih => rw [List.flatMap_cons, ih]; rfl
instance : Inhabited Rc := ⟨⟨ByteArray.empty, [], 0⟩⟩
instance : Inhabited Pc := ⟨⟨ByteArray.empty, [], [], default, 0⟩⟩
end Go.Proofs.YtbadepiakkhabaaDoor
