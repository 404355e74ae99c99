/- Joined texts: U6, G6, U7, G13. No conditions besides those that each states. -/
import Derived.StillTailTactics
import Derived.IntWalk
import Derived.Test.YtbadepiakkhabaaDoorZ15
import Derived.Test.YtbadepiakkhabaaDoorZ19
/- The laws' copies of records, procedures and units. No conditions. -/
namespace Go.Proofs.YtbadepiakkhabaaDoor
open Go.RowKit
set_option linter.unusedVariables false

/-- Three new variables: the parameter, the result, a local one. -/
def Vars3 (w : World) (A B C : List Value) (W : World) : Prop := (Var W w.heap.size A ∧ Var W (w.heap.size + 1) B ∧ Var W (w.heap.size + 1 + 1) C) ∧ Below w.heap.size w W ∧ w.heap.size + 3 ≤ W.heap.size
theorem Vars3.start (w : World) (A B C : Array Value) (S T U : TypeId) : Vars3 w A.toList B.toList C.toList (((w.alloc (.cells A S)).alloc (.cells B T)).alloc (.cells C U)) := by
  have h1 := Var.new w A S
  have h2 := Var.new (w.alloc (.cells A S)) B T
  have h3 := Var.new ((w.alloc (.cells A S)).alloc (.cells B T)) C U
  rw [World.size_alloc] at h2
  rw [World.size_alloc, World.size_alloc] at h3
  have b1 := bl1 w (.cells A S)
  have b2 := bl1 (w.alloc (.cells A S)) (.cells B T)
  have b3 := bl1 ((w.alloc (.cells A S)).alloc (.cells B T)) (.cells C U)
  exact ⟨⟨(h1.later b2).later b3, h2.later b3, h3⟩, below_then (below_then b1 b2) b3, by simp⟩
theorem Vars3.later {w W W' : World} {A B C : List Value} (h : Vars3 w A B C W) (hb : Below W.heap.size W W') : Vars3 w A B C W' :=
  ⟨⟨h.1.1.later hb, h.1.2.1.later hb, h.1.2.2.later hb⟩, below_then h.2.1 hb, Nat.le_trans h.2.2 hb.size⟩
theorem Vars3.set {w W : World} {A B C : List Value} (h : Vars3 w A B C W) (j : Nat) (u : Value) : Vars3 w A B (C.set j u) (W.setCell ⟨w.heap.size + 1 + 1, j, none⟩ u) :=
  ⟨⟨h.1.1.oth _ j (by omega) u, h.1.2.1.oth _ j (by omega) u, h.1.2.2.set j u⟩, h.2.1.setCell (p := ⟨w.heap.size + 1 + 1, j, none⟩) (by show _ ≤ _ + 1 + 1; omega) u, by have := h.2.2; simpa [World.setCell] using this⟩
/-- Blocks from B on stay when a lower block is written. -/
theorem own_low {W : World} {d : D} {v : Value} {F : List Nat} {B g : Nat} (h : Own W d v F) (hF : ∀ b ∈ F, B ≤ b) (hg : g < B) (j : Nat) (u : Value) : Own (W.setCell ⟨g, j, none⟩ u) d v F :=
  Own.keep d v F (fun b hb => Below.heap_setCell W ⟨g, j, none⟩ u b (show b ≠ g by have := hF b hb; omega)) h
theorem foot_low {W : World} {F : List Nat} {B g j : Nat} {u : Value} (h : Foot B W F) : Foot B (W.setCell ⟨g, j, none⟩ u) F := fun b hb => ⟨(h b hb).1, by have := (h b hb).2; simpa [World.setCell] using this⟩
theorem foot_le {W W' : World} {F : List Nat} {A B : Nat} (h : Foot B W F) (hA : A ≤ B) (hW : W.heap.size ≤ W'.heap.size) : Foot A W' F := fun b hb => ⟨Nat.le_trans hA (h b hb).1, Nat.lt_of_lt_of_le (h b hb).2 hW⟩
theorem set_keep {W : World} {b g j : Nat} {u : Value} (h : b ≠ g) : (W.setCell ⟨g, j, none⟩ u).heap[b]? = W.heap[b]? := Below.heap_setCell W ⟨g, j, none⟩ u b h
theorem set_size (W : World) (g j : Nat) (u : Value) : (W.setCell ⟨g, j, none⟩ u).heap.size = W.heap.size := by simp [World.setCell]
theorem wsum_mem {α : Type} (wd : α → Nat) {l : List α} {x : α} (h : x ∈ l) : wd x ≤ wsum wd l := by
  induction l with
  | nil => cases h
  | cons y r ih =>
    rw [wsum]
    rcases List.mem_cons.1 h with rfl | h
    · omega
    · have := ih h; omega
/-- A record that is made. -/
def MadeR (w : World) (r : Rc) (e : Ending) (w' : World) : Prop := ∃ v1 F1, e = .returned (rcV r v1) ∧ Own w' (strsD r.fields) v1 F1 ∧ Foot w.heap.size w' F1 ∧ Below w.heap.size w w'
def OwnP (w' : World) (r : Pc) (v1 v2 v3 : Value) (F1 F2 F3 : List Nat) : Prop := (Own w' (strsD r.params) v1 F1 ∧ Own w' (strsD r.locals) v2 F2 ∧ Own w' (.ex r.body.kids) v3 F3) ∧ Apart F1 F2 ∧ Apart F1 F3 ∧ Apart F2 F3
def MadeP (w : World) (r : Pc) (e : Ending) (w' : World) : Prop := ∃ v1 v2 v3 F1 F2 F3, e = .returned (pcV r v1 v2 v3) ∧ OwnP w' r v1 v2 v3 F1 F2 F3 ∧ (Foot w.heap.size w' F1 ∧ Foot w.heap.size w' F2 ∧ Foot w.heap.size w' F3) ∧ Below w.heap.size w w'
def MadeU (w : World) (u : Un) (e : Ending) (w' : World) : Prop := ∃ v1 v2 v3 F1 F2 F3, e = .returned (unV v1 v2 v3) ∧ UnOwn w' u v1 v2 v3 F1 F2 F3 ∧ (Foot w.heap.size w' F1 ∧ Foot w.heap.size w' F2 ∧ Foot w.heap.size w' F3) ∧ Below w.heap.size w w'
theorem apart_foot {A B : Nat} {W W' : World} {F G : List Nat} (h : Foot A W F) (k : Foot B W' G) (hs : W.heap.size ≤ B) : Apart F G := fun b h1 h2 => by
  have := (h b h1).2
  have := (k b h2).1
  omega
theorem own_ex {w : World} {ks : List Ex.T} {v : Value} {F : List Nat} (h : OwnK w v ks F) : Own w (.ex ks) v F := by rw [Own]; exact h
theorem ex_own {w : World} {ks : List Ex.T} {v : Value} {F : List Nat} (h : Own w (.ex ks) v F) : OwnK w v ks F := by rw [Own] at h; exact h

set_option maxHeartbeats 3200000 in
theorem to_rec (r : Rc) (hb : r.bulk ≤ 1048576) (w : World) (v1 : Value) (h1 : Is w (strsD r.fields) v1) : Calls Tryd.prog 63 #[rcV r v1] w (MadeR w r) := by
  obtain ⟨a1, c1, rfl⟩ := is_slice h1
  have hbb := hb
  unfold Rc.bulk at hbb
  have HT1 := Lib.hid (fun W (hW : Below w.heap.size w W) => to_strsD _ r.fields W (h1.later hW) (by unfold strsB at hbb; omega))
  unfold RetD at HT1
  have X := Lib.hid (Vars3.start w #[.string r.name, .slice a1 r.fields.length c1, .int .i64 r.line] #[.string ⟨#[]⟩, .slice none 0 0, .int .i64 0] #[.string r.name, .slice none 0 0, .int .i64 0] 123 72 72)
  clear hbb hb h1
  go_enter Tryd.func63, Tryd.ntmps63
  go_wp2_with fail
  refine (HT1.out _ X.out.2.1).mono ?_
  rintro e w1 ⟨u1, F1, rfl, o1, f1, b1⟩
  obtain ⟨z1, d1, rfl⟩ := own_slice o1
  have Y1 := Lib.hid (X.out.later b1)
  have G1 := Lib.hid (foot_le f1 X.out.2.2 (Nat.le_refl _))
  have O1 := Lib.hid o1
  clear o1 f1 b1
  have qA2_1 := (Y1.out.1.1 2 _ rfl).1
  have qC0_1 := (Y1.out.1.2.2 0 _ rfl).1
  have qC0_1f := (Y1.out.1.2.2 0 _ rfl).2
  have qC1_1 := (Y1.out.1.2.2 1 _ rfl).1
  have qC1_1f := (Y1.out.1.2.2 1 _ rfl).2
  have qC2_1 := (Y1.out.1.2.2 2 _ rfl).1
  have qC2_1f := (Y1.out.1.2.2 2 _ rfl).2
  have qB0_1 := (Y1.out.1.2.1 0 _ rfl).1
  have qB0_1f := (Y1.out.1.2.1 0 _ rfl).2
  have qB1_1 := (Y1.out.1.2.1 1 _ rfl).1
  have qB1_1f := (Y1.out.1.2.1 1 _ rfl).2
  have qB2_1 := (Y1.out.1.2.1 2 _ rfl).1
  have qB2_1f := (Y1.out.1.2.1 2 _ rfl).2
  go_wp2
  refine bodyPost_ret (v := rcV r (.slice z1 r.fields.length d1)) (by simp [results, Tryd.results63, go_sem, qB0_1, qB1_1, qB2_1]) rfl ?_
  have n1 : ∀ b ∈ F1, b ≠ w.heap.size + 1 ∧ b ≠ w.heap.size + 1 + 1 := fun b hb => by have h1 := (G1.out b hb).1; omega
  exact ⟨_, F1, rfl, Own.keep _ _ _ (fun b hb => by repeat (first | rw [set_keep (n1 b hb).1] | rw [set_keep (n1 b hb).2])) O1.out, (fun b hb => ⟨by have h1 := (G1.out b hb).1; omega, by have h1 := (G1.out b hb).2; simpa [World.setCell] using h1⟩),
    (by (repeat (refine Below.setCell ?_ (by first | exact Nat.le_succ _ | (show _ ≤ _ + 1 + 1; omega)) _)); exact Y1.out.2.1)⟩
theorem own_str' {w : World} {s : ByteArray} : Own w (.str s) (.string s) [] := by rw [Own]; exact ⟨rfl, rfl⟩
theorem own_int' {w : World} {n : Int} : Own w (.int n) (.int .i64 n) [] := by rw [Own]; exact ⟨rfl, rfl⟩
theorem own_ex' {w : World} : Own w (.ex []) (.slice none 0 0) [] := by rw [Own, OwnK]; exact ⟨rfl, _, _, rfl⟩
theorem rec_els {w w2 : World} {x : Rc} {z1 : Option Addr} {d1 : Nat} {F1 : List Nat} (o1 : Own w2 (strsD x.fields) (.slice z1 x.fields.length d1) F1) (f1 : Foot w.heap.size w2 F1) : (∀ e ∈ ([(.str x.name, .string x.name, []), (strsD x.fields, .slice z1 x.fields.length d1, F1), (.int x.line, .int .i64 x.line, [])] : List (D × Value × List Nat)), Own w2 e.1 e.2.1 e.2.2 ∧ ∀ b ∈ e.2.2, w.heap.size ≤ b ∧ b < w2.heap.size) ∧ ([(.str x.name, .string x.name, []), (strsD x.fields, .slice z1 x.fields.length d1, F1), (.int x.line, .int .i64 x.line, [])] : List (D × Value × List Nat)).Pairwise (fun x y => Apart x.2.2 y.2.2) := by
  constructor
  · intro e he
    simp only [List.mem_cons, List.not_mem_nil, or_false] at he
    rcases he with rfl | rfl | rfl
    · exact ⟨own_str', fun b hb => by cases hb⟩
    · exact ⟨o1, f1⟩
    · exact ⟨own_int', fun b hb => by cases hb⟩
  · simp [apart_nil, nil_apart]
theorem info_rec : (Tryd.prog.info? 72).map (fun i => (i.zero, i.size, i.bytes)) = some (some (.agg #[.string ByteArray.empty, .slice none 0 0, .int .i64 0]), 3, 48) := by kernel_rfl
theorem zero_rec : ∀ (j : Nat) (d : D), ([.str ByteArray.empty, .row 0 [], .int 0] : List D)[j]? = some d → ∃ u : Value, (#[.string ByteArray.empty, .slice none 0 0, .int .i64 0] : Array Value)[j]? = some u ∧ ∀ W, Own W d u [] := by
  intro j d hj
  match j with
  | 0 => obtain rfl := Option.some.inj hj; exact ⟨_, rfl, fun W => own_str'⟩
  | 1 => obtain rfl := Option.some.inj hj; exact ⟨_, rfl, fun W => own_nil⟩
  | 2 => obtain rfl := Option.some.inj hj; exact ⟨_, rfl, fun W => own_int'⟩
    | j + 3 => simp at hj
set_option maxRecDepth 100000 in
set_option maxHeartbeats 3200000 in
theorem to_recs (ks : List Rc) (hb : ∀ r ∈ ks, r.bulk ≤ 1048576) (hln : ks.length ≤ 1048576) (w : World) (v : Value) (hk : Is w (recsD ks) v) : Calls Tryd.prog 33 #[v] w (RetD w (recsD ks)) := by
  obtain ⟨i0, hi, hz0, hz1, hz2⟩ := info_parts info_rec
  obtain ⟨a, c, rfl⟩ := is_slice hk
  have HK := Lib.hid hk
  have HI := Lib.hid hb
  clear hk hb
  go_enter Tryd.func33, Tryd.ntmps33
  go_wp2_with (at_make; refine wpList_make_full _ rfl _ _ 41 rfl 0 72 i0 (.agg #[.string ByteArray.empty, .slice none 0 0, .int .i64 0]) 3 Tryd.underlying41 hi hz0 hz1 _ _ _ _ ks.length rfl rfl (by omega) (by omega) (by rw [hz2]; omega) (by unfold maxLen; omega) (Nat.zero_le _) ?_)
  intro w1 hown hgr
  have HST := Lib.hid (FillD.start (f := Rc.ds) (zero := [.str ByteArray.empty, .row 0 [], .int 0]) (xs := ks) rfl (by decide) rfl zero_rec hown ((Below.refl w.heap.size w).grown hgr (Nat.le_refl _) (fun k hk => by cases hk)))
  clear hown hgr
  go_wp2
  go_loopw [4] (fun i wr => ∃ k : Nat, i = .int .i64 k ∧ k ≤ ks.length ∧ FillD Rc.ds [.str ByteArray.empty, .row 0 [], .int 0] w w.heap.size ks k wr) (fun i _ => ks.length - (intOf i).toNat)
  case atStart => exact ⟨0, rfl, Nat.zero_le _, HST.out⟩
  case round =>
    clear HST
    obtain ⟨k, rfl, hk, hat⟩ := hrel
    have HAT := Lib.hid hat
    have HK2 := Lib.hid (HK.out.later hat.choose_spec.2.2.2)
    clear hat
    by_cases hlt : k < ks.length
    · obtain ⟨g, o, rfl, ⟨q0, ⟨v1, q1, k1⟩, q2⟩⟩ := rec_at HK2.out k hlt
      have HC := Lib.hid (to_rec ks[k] (HI.out _ (List.getElem_mem hlt)) wr v1 k1)
      unfold MadeR at HC
      have HN := Lib.hid (fun w2 (hb2 : Below wr.heap.size wr w2) es he ho hp => HAT.out.next (w1 := w2) (z := 3) (fun _ => rfl) rfl (Nat.le_refl _) hlt hb2 es he ho hp)
      have HF := Lib.hid (fun w2 j hj hb => HAT.out.cell (w1 := w2) (z := 3) (fun _ => rfl) rfl (Nat.le_of_lt hlt) j hj hb)
      have hltz : k * 3 + 2 < ks.length * 3 := by omega
      have k0 : (0 : Int) ≤ k := by omega
      have k1' : (k : Int) < ks.length := by omega
      clear HAT 
      generalize ks[k] = x at q0 q1 q2 HC HN
      obtain ⟨a1, c1, rfl⟩ := is_slice k1
      clear k1
      go_wp2_with (go_at_call 63; refine HC.out.mono ?_; rintro e w2 ⟨u1, F1, rfl, o1, f1, hb2⟩; obtain ⟨z1, d1, rfl⟩ := own_slice o1; have HN2 := Lib.hid (HN.out w2 hb2 [(.str x.name, .string x.name, []), (strsD x.fields, .slice z1 x.fields.length d1, F1), (.int x.line, .int .i64 x.line, [])] rfl (rec_els o1 f1).1 (rec_els o1 f1).2); obtain ⟨⟨e0, c0⟩, g0⟩ := HF.out w2 (k * 3) (by omega) hb2; obtain ⟨⟨e1, c1⟩, g1⟩ := HF.out w2 (k * 3 + 1) (by omega) hb2; obtain ⟨⟨e2, c2⟩, g2⟩ := HF.out w2 (k * 3 + 2) (by omega) hb2; clear hb2 o1 f1)
      go_roundw
      case rel => exact ⟨k + 1, by go_num, by omega, HN2.out⟩
      case measure => first | (simp [intOf]; done) | (simp [intOf]; omega)
    · obtain rfl : k = ks.length := by omega
      have HD := Lib.hid (HAT.out.done (cp := ks.length) (z := 3) (fun _ => rfl) (by decide) (Nat.le_refl _) (Nat.le_refl _))
      go_wp2
      go_ret
      obtain ⟨F, h1, h2, h3⟩ := HD.out
      exact ⟨_, F, rfl, h1, h2, h3⟩
theorem proc_els {w w2 : World} {x : Pc} {z1 z2 z3 : Option Addr} {d1 d2 d3 : Nat} {F1 F2 F3 : List Nat} (o1 : OwnP w2 x (.slice z1 x.params.length d1) (.slice z2 x.locals.length d2) (.slice z3 x.body.kids.length d3) F1 F2 F3) (f1 : Foot w.heap.size w2 F1 ∧ Foot w.heap.size w2 F2 ∧ Foot w.heap.size w2 F3) : (∀ e ∈ ([(.str x.name, .string x.name, []), (strsD x.params, .slice z1 x.params.length d1, F1), (strsD x.locals, .slice z2 x.locals.length d2, F2), (.int x.body.kind, .int .i64 x.body.kind, []), (.str x.body.text, .string x.body.text, []), (.int x.body.num, .int .i64 x.body.num, []), (.int x.body.line, .int .i64 x.body.line, []), (.ex x.body.kids, .slice z3 x.body.kids.length d3, F3), (.int x.line, .int .i64 x.line, [])] : List (D × Value × List Nat)), Own w2 e.1 e.2.1 e.2.2 ∧ ∀ b ∈ e.2.2, w.heap.size ≤ b ∧ b < w2.heap.size) ∧ ([(.str x.name, .string x.name, []), (strsD x.params, .slice z1 x.params.length d1, F1), (strsD x.locals, .slice z2 x.locals.length d2, F2), (.int x.body.kind, .int .i64 x.body.kind, []), (.str x.body.text, .string x.body.text, []), (.int x.body.num, .int .i64 x.body.num, []), (.int x.body.line, .int .i64 x.body.line, []), (.ex x.body.kids, .slice z3 x.body.kids.length d3, F3), (.int x.line, .int .i64 x.line, [])] : List (D × Value × List Nat)).Pairwise (fun x y => Apart x.2.2 y.2.2) := by
  constructor
  · intro e he
    simp only [List.mem_cons, List.not_mem_nil, or_false] at he
    rcases he with rfl | rfl | rfl | rfl | rfl | rfl | rfl | rfl | rfl
    · exact ⟨own_str', fun b hb => by cases hb⟩
    · exact ⟨o1.1.1, f1.1⟩
    · exact ⟨o1.1.2.1, f1.2.1⟩
    · exact ⟨own_int', fun b hb => by cases hb⟩
    · exact ⟨own_str', fun b hb => by cases hb⟩
    · exact ⟨own_int', fun b hb => by cases hb⟩
    · exact ⟨own_int', fun b hb => by cases hb⟩
    · exact ⟨o1.1.2.2, f1.2.2⟩
    · exact ⟨own_int', fun b hb => by cases hb⟩
  · simp [apart_nil, nil_apart, o1.2.1, o1.2.2.1, o1.2.2.2]
theorem info_proc : (Tryd.prog.info? 107).map (fun i => (i.zero, i.size, i.bytes)) = some (some (.agg #[.string ByteArray.empty, .slice none 0 0, .slice none 0 0, .int .i64 0, .string ByteArray.empty, .int .i64 0, .int .i64 0, .slice none 0 0, .int .i64 0]), 9, 136) := by kernel_rfl
theorem zero_proc : ∀ (j : Nat) (d : D), ([.str ByteArray.empty, .row 0 [], .row 0 [], .int 0, .str ByteArray.empty, .int 0, .int 0, .ex [], .int 0] : List D)[j]? = some d → ∃ u : Value, (#[.string ByteArray.empty, .slice none 0 0, .slice none 0 0, .int .i64 0, .string ByteArray.empty, .int .i64 0, .int .i64 0, .slice none 0 0, .int .i64 0] : Array Value)[j]? = some u ∧ ∀ W, Own W d u [] := by
  intro j d hj
  match j with
  | 0 => obtain rfl := Option.some.inj hj; exact ⟨_, rfl, fun W => own_str'⟩
  | 1 => obtain rfl := Option.some.inj hj; exact ⟨_, rfl, fun W => own_nil⟩
  | 2 => obtain rfl := Option.some.inj hj; exact ⟨_, rfl, fun W => own_nil⟩
  | 3 => obtain rfl := Option.some.inj hj; exact ⟨_, rfl, fun W => own_int'⟩
  | 4 => obtain rfl := Option.some.inj hj; exact ⟨_, rfl, fun W => own_str'⟩
  | 5 => obtain rfl := Option.some.inj hj; exact ⟨_, rfl, fun W => own_int'⟩
  | 6 => obtain rfl := Option.some.inj hj; exact ⟨_, rfl, fun W => own_int'⟩
  | 7 => obtain rfl := Option.some.inj hj; exact ⟨_, rfl, fun W => own_ex'⟩
  | 8 => obtain rfl := Option.some.inj hj; exact ⟨_, rfl, fun W => own_int'⟩
    | j + 9 => simp at hj
end Go.Proofs.YtbadepiakkhabaaDoor
/- The laws' comparison of a tree with itself. No conditions. -/
namespace Go.Proofs.YtbadepiakkhabaaDoor
open Go.RowKit
set_option linter.unusedVariables false

end Go.Proofs.YtbadepiakkhabaaDoor
/- The laws' comparison of records, procedures and units that are alike. No conditions. -/
namespace Go.Proofs.YtbadepiakkhabaaDoor
open Go.RowKit
set_option linter.unusedVariables false

/-- Two new variables. -/
def Vars2 (w : World) (A B : List Value) (W : World) : Prop := (Var W w.heap.size A ∧ Var W (w.heap.size + 1) B) ∧ Below w.heap.size w W
theorem Vars2.start (w : World) (A B : Array Value) (S T : TypeId) : Vars2 w A.toList B.toList ((w.alloc (.cells A S)).alloc (.cells B T)) := by
  have h1 := Var.new w A S
  have h2 := Var.new (w.alloc (.cells A S)) B T
  rw [World.size_alloc] at h2
  have b1 := bl1 w (.cells A S)
  have b2 := bl1 (w.alloc (.cells A S)) (.cells B T)
  exact ⟨⟨h1.later b2, h2⟩, below_then b1 b2⟩
theorem Vars2.later {w W W' : World} {A B : List Value} (h : Vars2 w A B W) (hb : Below W.heap.size W W') : Vars2 w A B W' := ⟨⟨h.1.1.later hb, h.1.2.later hb⟩, below_then h.2 hb⟩

set_option maxHeartbeats 3200000 in
theorem eq_rec (r : Rc) (hb : r.bulk ≤ 1048576) (w : World) (v1 u1 : Value) (h1 : Is w (strsD r.fields) v1) (g1 : Is w (strsD r.fields) u1) : Calls Tryd.prog 73 #[rcV r v1, rcV r u1] w fun e w' => e = .returned (.bool true) ∧ Below w.heap.size w w' := by
  have hbb := hb
  unfold Rc.bulk at hbb
  have HT1 := Lib.hid (fun W (hW : Below w.heap.size w W) => eq_strsD _ _ r.fields W (h1.later hW) (g1.later hW) (by unfold strsB at hbb; omega))
  obtain ⟨a1, c1, rfl⟩ := is_slice h1
  obtain ⟨b1, d1, rfl⟩ := is_slice g1
  have X0 := Lib.hid (Vars2.start w #[.string r.name, .slice a1 r.fields.length c1, .int .i64 r.line] #[.string r.name, .slice b1 r.fields.length d1, .int .i64 r.line] 72 72)
  clear hbb hb h1 g1
  go_enter Tryd.func73, Tryd.ntmps73
  go_wp2_with fail
  refine (HT1.out _ X0.out.2).mono ?_
  rintro e w1 ⟨rfl, b⟩
  have X1 := Lib.hid (X0.out.later b)
  clear b 
  have p1_2 := (X1.out.1.1 2 _ rfl).1
  have q1_2 := (X1.out.1.2 2 _ rfl).1
  go_wp2
  go_ret
  exact ⟨rfl, X1.out.2⟩
set_option maxRecDepth 100000 in
set_option maxHeartbeats 3200000 in
theorem eq_recs (ks : List Rc) (hb : ∀ r ∈ ks, r.bulk ≤ 1048576) (hln : ks.length ≤ 1048576) (w : World) (v1 v2 : Value) (h1 : Is w (recsD ks) v1) (h2 : Is w (recsD ks) v2) : Calls Tryd.prog 38 #[v1, v2] w fun e w' => e = .returned (.bool true) ∧ Below w.heap.size w w' := by
  obtain ⟨a1, c1, rfl⟩ := is_slice h1
  obtain ⟨a2, c2, rfl⟩ := is_slice h2
  have H1 := Lib.hid h1
  have H2 := Lib.hid h2
  have HI := Lib.hid hb
  clear h1 h2 hb
  go_enter Tryd.func38, Tryd.ntmps38
  go_wp2
  go_loopw [5] (fun i wr => ∃ k : Nat, i = .int .i64 k ∧ k ≤ ks.length ∧ Below w.heap.size w wr) (fun i _ => ks.length - (intOf i).toNat)
  case atStart => exact ⟨0, rfl, Nat.zero_le _, Below.refl _ _⟩
  case round =>
    obtain ⟨k, rfl, hk, hb⟩ := hrel
    have HB := Lib.hid hb
    have HK1 := Lib.hid (H1.out.later hb)
    have HK2 := Lib.hid (H2.out.later hb)
    clear hb
    by_cases hlt : k < ks.length
    · obtain ⟨g1, o1, rfl, ⟨p0, ⟨pv1, p1, pk1⟩, p2⟩⟩ := rec_at HK1.out k hlt
      obtain ⟨g2, o2, rfl, ⟨q0, ⟨qv1, q1, qk1⟩, q2⟩⟩ := rec_at HK2.out k hlt
      have HC := Lib.hid (fun W (hW : Below wr.heap.size wr W) => eq_rec ks[k] (HI.out _ (List.getElem_mem hlt)) W pv1 qv1 (pk1.later hW) (qk1.later hW))
      obtain ⟨pa1, pc1, rfl⟩ := is_slice pk1
      obtain ⟨qa1, qc1, rfl⟩ := is_slice qk1
      have k0 : (0 : Int) ≤ k := by omega
      have k1 : (k : Int) < ks.length := by omega
      clear pk1 qk1
      generalize ks[k] = x at p0 p1 p2 q0 q1 q2 HC
      go_wp2_with fail
      go_still_tail 8, (by kernel_rfl)
      change wpList _ _ _ _ _ wr.drew
      have HC2 := Lib.hid (HC.out wr.drew ((Below.refl _ _).drew))
      have HB2 := Lib.hid HB.out.drew
      clear p0 p1 p2 q0 q1 q2 HK1 HK2 HB HC
      generalize wr.drew = w5 at HC2 HB2 ⊢
      go_wp2_with (go_at_call 73; refine HC2.out.mono ?_; rintro e w6 ⟨rfl, hb6⟩; have HB6 := Lib.hid (below_then HB2.out hb6); clear hb6)
      go_roundw
      case rel => exact ⟨k + 1, by go_num, by omega, HB6.out⟩
      case measure => first | (simp [intOf]; done) | (simp [intOf]; omega)
    · obtain rfl : k = ks.length := by omega
      go_wp2
      go_ret
      exact ⟨rfl, HB.out⟩
end Go.Proofs.YtbadepiakkhabaaDoor
/- A bounded count of nodes, numbers of kids in the reference model. No conditions. -/
namespace Go.Proofs.YtbadepiakkhabaaDoor
open Go.RowKit
set_option linter.unusedVariables false

def LeftT (t : Ex.T) : Prop := t.bulk ≤ 1048576 → ∀ (w : World) (v : Value) (left : Nat), (left : Int) ≤ 1048576 → Kids w v t.kids → Calls Tryd.prog 117 #[exV t v, .int .i64 (left : Int)] w fun e w' => e = .returned (.int .i64 (szR left t.count)) ∧ Below w.heap.size w w'
/-- Where the bounded count stands. -/
def LfAt (ks : List Ex.T) (left k : Nat) (m : Int) : Prop := m = szR left (1 + Ex.counts (ks.take k))
theorem LfAt.start (ks : List Ex.T) (left : Nat) : LfAt ks left 0 ((left : Int) - 1) := by
  unfold LfAt szR
  simp only [List.take_zero, Ex.counts]
  split <;> omega
theorem LfAt.next {ks : List Ex.T} {left k : Nat} {m : Int} (h : LfAt ks left k m) (hk : k < ks.length) (n : Nat) (hn : m = n) : LfAt ks left (k + 1) (szR n ks[k].count) := by
  unfold LfAt at h ⊢
  rw [Ex.counts_take ks k hk]
  unfold szR at h ⊢
  split at h <;> (split <;> split <;> omega)
theorem LfAt.over {ks : List Ex.T} {left : Nat} {m : Int} (h : LfAt ks left ks.length m) : szR left (1 + Ex.counts ks) = m := by
  unfold LfAt at h
  rw [List.take_length] at h; exact h.symm
theorem LfAt.bad {ks : List Ex.T} {left k : Nat} {m : Int} (h : LfAt ks left k m) (hm : m < 0) : szR left (1 + Ex.counts ks) = m := by
  unfold LfAt at h
  have := Ex.counts_take_le ks k
  unfold szR at h ⊢
  split at h
  · omega
  · rw [if_neg (by omega)]; exact h.symm
theorem LfAt.ge {ks : List Ex.T} {left k : Nat} {m : Int} (h : LfAt ks left k m) : -1 ≤ m ∧ m ≤ left := by
  unfold LfAt szR at h
  split at h <;> omega
set_option maxHeartbeats 1600000 in
theorem spec_leftT : ∀ (N : Nat) (t : Ex.T), t.count ≤ N → LeftT t := by
  intro N
  induction N with
  | zero => intro t h; have := Ex.count_pos t; omega
  | succ N ih =>
    intro t hN hb w v left hs hk
    have hbe := bulk_eq t
    obtain ⟨a, c, rfl⟩ := kids_len hk
    have HI := Lib.hid (fun (x : Ex.T) (hx : x ∈ t.kids) => ih x (by have := kids_count hx; omega) (by have := Ex.bulks_mem hx; omega))
    have HK := Lib.hid hk
    have HCE := Lib.hid (count_eq t)
    have hln : t.kids.length ≤ 1048576 := by omega
    have HE0 := Lib.hid (CellsE.new w t (.slice a t.kids.length c) 105)
    have HST := Lib.hid (LfAt.start t.kids left)
    clear ih hN hb hk hbe
    go_enter Tryd.func117, Tryd.ntmps117
    go_wp2
    go_loopw [1, 5] (fun m i wr => ∃ (k : Nat) (n : Int), i = .int .i64 k ∧ m = .int .i64 n ∧ k ≤ t.kids.length ∧ LfAt t.kids left k n ∧ CellsE wr w.heap.size t (.slice a t.kids.length c) ∧ Below w.heap.size w wr) (fun _ i _ => t.kids.length - (intOf i).toNat)
    case atStart => exact ⟨0, _, rfl, rfl, by omega, HST.out, HE0.out, bl1 _ _⟩
    case round =>
      clear HE0 HST
      obtain ⟨k, n, rfl, rfl, hkk, hat, hce, hb⟩ := hrel
      have HAT := Lib.hid hat
      have HB := Lib.hid hb
      have HE := Lib.hid hce
      have HK2 := Lib.hid (HK.out.later hb)
      obtain ⟨hg1, hg2⟩ := hat.ge
      obtain ⟨e0, e1, e2, e3, e4⟩ := hce
      clear hat hb e0 e1 e2 e3
      by_cases hlt : k < t.kids.length
      · have k0 : (0 : Int) ≤ k := by omega
        have k1 : (k : Int) < t.kids.length := by omega
        by_cases hn : 0 ≤ n
        · obtain ⟨g, o, rfl, ht⟩ := kids_at HK2.out k hlt
          obtain ⟨⟨q0, q1, q2, q3⟩, v, q4, hkv⟩ := tree_cells ht
          obtain ⟨m, rfl⟩ : ∃ m : Nat, n = m := ⟨n.toNat, by omega⟩
          have HC := Lib.hid (HI.out t.kids[k] (List.getElem_mem hlt) wr v m (by omega) hkv)
          have HN := Lib.hid (HAT.out.next hlt m rfl)
          clear ht hkv HAT
          generalize t.kids[k] = x at q0 q1 q2 q3 HC HN
          generalize szR m x.count = z at HC HN
          go_wp2_with (go_at_call 117; refine HC.out.mono ?_; rintro e w1 ⟨rfl, hb1⟩; have HB1 := Lib.hid (below_then HB.out hb1); have HE1 := Lib.hid (HE.out.later hb1); clear hb1)
          go_roundw
          case rel => exact ⟨k + 1, z, by go_num, rfl, by omega, HN.out, HE1.out, HB1.out⟩
          case measure => first | (simp [intOf]; done) | (simp [intOf]; omega)
        · have HN := Lib.hid (HAT.out.bad (by omega))
          go_wp2
          go_ret
          exact ⟨ret_ei (by rw [HCE.out, HN.out]), HB.out⟩
      · obtain rfl : k = t.kids.length := by omega
        have HN := Lib.hid HAT.out.over
        go_wp2
        go_ret
        exact ⟨ret_ei (by rw [HCE.out, HN.out]), HB.out⟩
/-- The least and the greatest number of kids of a kind. -/
def Ex.kidsOf (k : Int) : Int × Int := if k = 6 then (0, 8) else if k = 7 then (1, 1) else if k = 8 then (2, 2) else if k = 9 then (2, 3) else if k = 10 then (1, 9) else if k = 11 then (2, 2) else if k = 12 then (3, 3) else if k = 13 then (1, 1) else if k = 14 then (0, 24) else if k = 15 then (2, 3) else if k = 16 then (1, 2) else if k = 17 then (1, 2) else if k = 18 then (1, 2) else if k = 19 then (1, 1) else if k = 20 then (1, 14) else if k = 21 then (0, 1) else if k = 22 then (0, 2) else if k = 24 then (0, 1) else if k = 26 then (1, 1) else if k = 27 then (1, 1) else if k = 29 then (2, 8) else (0, 0)
theorem counts_6 (t : Ex.T) (v : Value) (w : World) (h : t.kind = 6) : Calls Tryd.prog 108 #[exV t v] w fun e w' => e = .returned (.tuple #[.int .i64 0, .int .i64 8]) ∧ Below w.heap.size w w' := by
  go_enter Tryd.func108, Tryd.ntmps108
  go_wp2
  go_ret2
  exact ⟨rfl, bl1 _ _⟩
theorem counts_7 (t : Ex.T) (v : Value) (w : World) (h : t.kind = 7) : Calls Tryd.prog 108 #[exV t v] w fun e w' => e = .returned (.tuple #[.int .i64 1, .int .i64 1]) ∧ Below w.heap.size w w' := by
  go_enter Tryd.func108, Tryd.ntmps108
  go_wp2
  go_ret2
  exact ⟨rfl, bl1 _ _⟩
theorem counts_8 (t : Ex.T) (v : Value) (w : World) (h : t.kind = 8) : Calls Tryd.prog 108 #[exV t v] w fun e w' => e = .returned (.tuple #[.int .i64 2, .int .i64 2]) ∧ Below w.heap.size w w' := by
  go_enter Tryd.func108, Tryd.ntmps108
  go_wp2
  go_ret2
  exact ⟨rfl, bl1 _ _⟩
theorem counts_9 (t : Ex.T) (v : Value) (w : World) (h : t.kind = 9) : Calls Tryd.prog 108 #[exV t v] w fun e w' => e = .returned (.tuple #[.int .i64 2, .int .i64 3]) ∧ Below w.heap.size w w' := by
  go_enter Tryd.func108, Tryd.ntmps108
  go_wp2
  go_ret2
  exact ⟨rfl, bl1 _ _⟩
theorem counts_10 (t : Ex.T) (v : Value) (w : World) (h : t.kind = 10) : Calls Tryd.prog 108 #[exV t v] w fun e w' => e = .returned (.tuple #[.int .i64 1, .int .i64 9]) ∧ Below w.heap.size w w' := by
  go_enter Tryd.func108, Tryd.ntmps108
  go_wp2
  go_ret2
  exact ⟨rfl, bl1 _ _⟩
theorem counts_11 (t : Ex.T) (v : Value) (w : World) (h : t.kind = 11) : Calls Tryd.prog 108 #[exV t v] w fun e w' => e = .returned (.tuple #[.int .i64 2, .int .i64 2]) ∧ Below w.heap.size w w' := by
  go_enter Tryd.func108, Tryd.ntmps108
  go_wp2
  go_ret2
  exact ⟨rfl, bl1 _ _⟩
theorem counts_12 (t : Ex.T) (v : Value) (w : World) (h : t.kind = 12) : Calls Tryd.prog 108 #[exV t v] w fun e w' => e = .returned (.tuple #[.int .i64 3, .int .i64 3]) ∧ Below w.heap.size w w' := by
  go_enter Tryd.func108, Tryd.ntmps108
  go_wp2
  go_ret2
  exact ⟨rfl, bl1 _ _⟩
theorem counts_13 (t : Ex.T) (v : Value) (w : World) (h : t.kind = 13) : Calls Tryd.prog 108 #[exV t v] w fun e w' => e = .returned (.tuple #[.int .i64 1, .int .i64 1]) ∧ Below w.heap.size w w' := by
  go_enter Tryd.func108, Tryd.ntmps108
  go_wp2
  go_ret2
  exact ⟨rfl, bl1 _ _⟩
theorem counts_14 (t : Ex.T) (v : Value) (w : World) (h : t.kind = 14) : Calls Tryd.prog 108 #[exV t v] w fun e w' => e = .returned (.tuple #[.int .i64 0, .int .i64 24]) ∧ Below w.heap.size w w' := by
  go_enter Tryd.func108, Tryd.ntmps108
  go_wp2
  go_ret2
  exact ⟨rfl, bl1 _ _⟩
theorem counts_15 (t : Ex.T) (v : Value) (w : World) (h : t.kind = 15) : Calls Tryd.prog 108 #[exV t v] w fun e w' => e = .returned (.tuple #[.int .i64 2, .int .i64 3]) ∧ Below w.heap.size w w' := by
  go_enter Tryd.func108, Tryd.ntmps108
  go_wp2
  go_ret2
  exact ⟨rfl, bl1 _ _⟩
theorem counts_16 (t : Ex.T) (v : Value) (w : World) (h : t.kind = 16) : Calls Tryd.prog 108 #[exV t v] w fun e w' => e = .returned (.tuple #[.int .i64 1, .int .i64 2]) ∧ Below w.heap.size w w' := by
  go_enter Tryd.func108, Tryd.ntmps108
  go_wp2
  go_ret2
  exact ⟨rfl, bl1 _ _⟩
theorem counts_17 (t : Ex.T) (v : Value) (w : World) (h : t.kind = 17) : Calls Tryd.prog 108 #[exV t v] w fun e w' => e = .returned (.tuple #[.int .i64 1, .int .i64 2]) ∧ Below w.heap.size w w' := by
  go_enter Tryd.func108, Tryd.ntmps108
  go_wp2
  go_ret2
  exact ⟨rfl, bl1 _ _⟩
theorem counts_18 (t : Ex.T) (v : Value) (w : World) (h : t.kind = 18) : Calls Tryd.prog 108 #[exV t v] w fun e w' => e = .returned (.tuple #[.int .i64 1, .int .i64 2]) ∧ Below w.heap.size w w' := by
  go_enter Tryd.func108, Tryd.ntmps108
  go_wp2
  go_ret2
  exact ⟨rfl, bl1 _ _⟩
theorem counts_19 (t : Ex.T) (v : Value) (w : World) (h : t.kind = 19) : Calls Tryd.prog 108 #[exV t v] w fun e w' => e = .returned (.tuple #[.int .i64 1, .int .i64 1]) ∧ Below w.heap.size w w' := by
  go_enter Tryd.func108, Tryd.ntmps108
  go_wp2
  go_ret2
  exact ⟨rfl, bl1 _ _⟩
theorem counts_20 (t : Ex.T) (v : Value) (w : World) (h : t.kind = 20) : Calls Tryd.prog 108 #[exV t v] w fun e w' => e = .returned (.tuple #[.int .i64 1, .int .i64 14]) ∧ Below w.heap.size w w' := by
  go_enter Tryd.func108, Tryd.ntmps108
  go_wp2
  go_ret2
  exact ⟨rfl, bl1 _ _⟩
theorem counts_21 (t : Ex.T) (v : Value) (w : World) (h : t.kind = 21) : Calls Tryd.prog 108 #[exV t v] w fun e w' => e = .returned (.tuple #[.int .i64 0, .int .i64 1]) ∧ Below w.heap.size w w' := by
  go_enter Tryd.func108, Tryd.ntmps108
  go_wp2
  go_ret2
  exact ⟨rfl, bl1 _ _⟩
theorem counts_22 (t : Ex.T) (v : Value) (w : World) (h : t.kind = 22) : Calls Tryd.prog 108 #[exV t v] w fun e w' => e = .returned (.tuple #[.int .i64 0, .int .i64 2]) ∧ Below w.heap.size w w' := by
  go_enter Tryd.func108, Tryd.ntmps108
  go_wp2
  go_ret2
  exact ⟨rfl, bl1 _ _⟩
theorem counts_24 (t : Ex.T) (v : Value) (w : World) (h : t.kind = 24) : Calls Tryd.prog 108 #[exV t v] w fun e w' => e = .returned (.tuple #[.int .i64 0, .int .i64 1]) ∧ Below w.heap.size w w' := by
  go_enter Tryd.func108, Tryd.ntmps108
  go_wp2
  go_ret2
  exact ⟨rfl, bl1 _ _⟩
theorem counts_26 (t : Ex.T) (v : Value) (w : World) (h : t.kind = 26) : Calls Tryd.prog 108 #[exV t v] w fun e w' => e = .returned (.tuple #[.int .i64 1, .int .i64 1]) ∧ Below w.heap.size w w' := by
  go_enter Tryd.func108, Tryd.ntmps108
  go_wp2
  go_ret2
  exact ⟨rfl, bl1 _ _⟩
theorem counts_27 (t : Ex.T) (v : Value) (w : World) (h : t.kind = 27) : Calls Tryd.prog 108 #[exV t v] w fun e w' => e = .returned (.tuple #[.int .i64 1, .int .i64 1]) ∧ Below w.heap.size w w' := by
  go_enter Tryd.func108, Tryd.ntmps108
  go_wp2
  go_ret2
  exact ⟨rfl, bl1 _ _⟩
theorem counts_29 (t : Ex.T) (v : Value) (w : World) (h : t.kind = 29) : Calls Tryd.prog 108 #[exV t v] w fun e w' => e = .returned (.tuple #[.int .i64 2, .int .i64 8]) ∧ Below w.heap.size w w' := by
  go_enter Tryd.func108, Tryd.ntmps108
  go_wp2
  go_ret2
  exact ⟨rfl, bl1 _ _⟩
theorem counts_no (t : Ex.T) (v : Value) (w : World) (h6 : (t.kind == 6) = false) (h7 : (t.kind == 7) = false) (h8 : (t.kind == 8) = false) (h9 : (t.kind == 9) = false) (h10 : (t.kind == 10) = false) (h11 : (t.kind == 11) = false) (h12 : (t.kind == 12) = false) (h13 : (t.kind == 13) = false) (h14 : (t.kind == 14) = false) (h15 : (t.kind == 15) = false) (h16 : (t.kind == 16) = false) (h17 : (t.kind == 17) = false) (h18 : (t.kind == 18) = false) (h19 : (t.kind == 19) = false) (h20 : (t.kind == 20) = false) (h21 : (t.kind == 21) = false) (h22 : (t.kind == 22) = false) (h24 : (t.kind == 24) = false) (h26 : (t.kind == 26) = false) (h27 : (t.kind == 27) = false) (h29 : (t.kind == 29) = false) : Calls Tryd.prog 108 #[exV t v] w fun e w' => e = .returned (.tuple #[.int .i64 0, .int .i64 0]) ∧ Below w.heap.size w w' := by
  go_enter Tryd.func108, Tryd.ntmps108
  go_wp2
  go_ret2
  exact ⟨rfl, bl1 _ _⟩
theorem spec_counts (t : Ex.T) (v : Value) (w : World) : Calls Tryd.prog 108 #[exV t v] w fun e w' => e = .returned (.tuple #[.int .i64 (Ex.kidsOf t.kind).1, .int .i64 (Ex.kidsOf t.kind).2]) ∧ Below w.heap.size w w' := by
  by_cases h6 : t.kind = 6
  · rw [show Ex.kidsOf t.kind = (0, 8) by rw [h6]; rfl]; exact counts_6 t v w h6
  by_cases h7 : t.kind = 7
  · rw [show Ex.kidsOf t.kind = (1, 1) by rw [h7]; rfl]; exact counts_7 t v w h7
  by_cases h8 : t.kind = 8
  · rw [show Ex.kidsOf t.kind = (2, 2) by rw [h8]; rfl]; exact counts_8 t v w h8
  by_cases h9 : t.kind = 9
  · rw [show Ex.kidsOf t.kind = (2, 3) by rw [h9]; rfl]; exact counts_9 t v w h9
  by_cases h10 : t.kind = 10
  · rw [show Ex.kidsOf t.kind = (1, 9) by rw [h10]; rfl]; exact counts_10 t v w h10
  by_cases h11 : t.kind = 11
  · rw [show Ex.kidsOf t.kind = (2, 2) by rw [h11]; rfl]; exact counts_11 t v w h11
  by_cases h12 : t.kind = 12
  · rw [show Ex.kidsOf t.kind = (3, 3) by rw [h12]; rfl]; exact counts_12 t v w h12
  by_cases h13 : t.kind = 13
  · rw [show Ex.kidsOf t.kind = (1, 1) by rw [h13]; rfl]; exact counts_13 t v w h13
  by_cases h14 : t.kind = 14
  · rw [show Ex.kidsOf t.kind = (0, 24) by rw [h14]; rfl]; exact counts_14 t v w h14
  by_cases h15 : t.kind = 15
  · rw [show Ex.kidsOf t.kind = (2, 3) by rw [h15]; rfl]; exact counts_15 t v w h15
  by_cases h16 : t.kind = 16
  · rw [show Ex.kidsOf t.kind = (1, 2) by rw [h16]; rfl]; exact counts_16 t v w h16
  by_cases h17 : t.kind = 17
  · rw [show Ex.kidsOf t.kind = (1, 2) by rw [h17]; rfl]; exact counts_17 t v w h17
  by_cases h18 : t.kind = 18
  · rw [show Ex.kidsOf t.kind = (1, 2) by rw [h18]; rfl]; exact counts_18 t v w h18
  by_cases h19 : t.kind = 19
  · rw [show Ex.kidsOf t.kind = (1, 1) by rw [h19]; rfl]; exact counts_19 t v w h19
  by_cases h20 : t.kind = 20
  · rw [show Ex.kidsOf t.kind = (1, 14) by rw [h20]; rfl]; exact counts_20 t v w h20
  by_cases h21 : t.kind = 21
  · rw [show Ex.kidsOf t.kind = (0, 1) by rw [h21]; rfl]; exact counts_21 t v w h21
  by_cases h22 : t.kind = 22
  · rw [show Ex.kidsOf t.kind = (0, 2) by rw [h22]; rfl]; exact counts_22 t v w h22
  by_cases h24 : t.kind = 24
  · rw [show Ex.kidsOf t.kind = (0, 1) by rw [h24]; rfl]; exact counts_24 t v w h24
  by_cases h26 : t.kind = 26
  · rw [show Ex.kidsOf t.kind = (1, 1) by rw [h26]; rfl]; exact counts_26 t v w h26
  by_cases h27 : t.kind = 27
  · rw [show Ex.kidsOf t.kind = (1, 1) by rw [h27]; rfl]; exact counts_27 t v w h27
  by_cases h29 : t.kind = 29
  · rw [show Ex.kidsOf t.kind = (2, 8) by rw [h29]; rfl]; exact counts_29 t v w h29
  rw [show Ex.kidsOf t.kind = (0, 0) by unfold Ex.kidsOf; rw [if_neg h6, if_neg h7, if_neg h8, if_neg h9, if_neg h10, if_neg h11, if_neg h12, if_neg h13, if_neg h14, if_neg h15, if_neg h16, if_neg h17, if_neg h18, if_neg h19, if_neg h20, if_neg h21, if_neg h22, if_neg h24, if_neg h26, if_neg h27, if_neg h29]]
  exact counts_no t v w (beq_eq_false_iff_ne.2 h6) (beq_eq_false_iff_ne.2 h7) (beq_eq_false_iff_ne.2 h8) (beq_eq_false_iff_ne.2 h9) (beq_eq_false_iff_ne.2 h10) (beq_eq_false_iff_ne.2 h11) (beq_eq_false_iff_ne.2 h12) (beq_eq_false_iff_ne.2 h13) (beq_eq_false_iff_ne.2 h14) (beq_eq_false_iff_ne.2 h15) (beq_eq_false_iff_ne.2 h16) (beq_eq_false_iff_ne.2 h17) (beq_eq_false_iff_ne.2 h18) (beq_eq_false_iff_ne.2 h19) (beq_eq_false_iff_ne.2 h20) (beq_eq_false_iff_ne.2 h21) (beq_eq_false_iff_ne.2 h22) (beq_eq_false_iff_ne.2 h24) (beq_eq_false_iff_ne.2 h26) (beq_eq_false_iff_ne.2 h27) (beq_eq_false_iff_ne.2 h29)
end Go.Proofs.YtbadepiakkhabaaDoor
