/- Joined texts: U6. No conditions besides those that each states. -/
import Derived.Test.YtckjmmapekaapaaGreatDoorZ18
/- The laws' copies of records, procedures and units. No conditions. -/
namespace Go.Proofs.YtckjmmapekaapaaGreatDoor
open Go.RowKit
set_option linter.unusedVariables false

/-- Three new variables: the parameter, the result, a local one. -/
def Vars3 (w : World) (A B C : List Value) (W : World) : Prop := (Var W w.heap.size A ∧ Var W (w.heap.size + 1) B ∧ Var W (w.heap.size + 1 + 1) C) ∧ Below w.heap.size w W ∧ w.heap.size + 3 ≤ W.heap.size
theorem Vars3.start (w : World) (A B C : Array Value) (S T U : TypeId) : Vars3 w A.toList B.toList C.toList (((w.alloc (.cells A S)).alloc (.cells B T)).alloc (.cells C U)) := by
  have h1 := Var.new w A S
  have h2 := Var.new (w.alloc (.cells A S)) B T
  have h3 := Var.new ((w.alloc (.cells A S)).alloc (.cells B T)) C U
  rw [World.size_alloc] at h2
  rw [World.size_alloc, World.size_alloc] at h3
  have b1 := bl1 w (.cells A S)
  have b2 := bl1 (w.alloc (.cells A S)) (.cells B T)
  have b3 := bl1 ((w.alloc (.cells A S)).alloc (.cells B T)) (.cells C U)
  exact ⟨⟨(h1.later b2).later b3, h2.later b3, h3⟩, below_then (below_then b1 b2) b3, by simp⟩
theorem Vars3.later {w W W' : World} {A B C : List Value} (h : Vars3 w A B C W) (hb : Below W.heap.size W W') : Vars3 w A B C W' :=
  ⟨⟨h.1.1.later hb, h.1.2.1.later hb, h.1.2.2.later hb⟩, below_then h.2.1 hb, Nat.le_trans h.2.2 hb.size⟩
theorem Vars3.set {w W : World} {A B C : List Value} (h : Vars3 w A B C W) (j : Nat) (u : Value) : Vars3 w A B (C.set j u) (W.setCell ⟨w.heap.size + 1 + 1, j, none⟩ u) :=
  ⟨⟨h.1.1.oth _ j (by omega) u, h.1.2.1.oth _ j (by omega) u, h.1.2.2.set j u⟩, h.2.1.setCell (p := ⟨w.heap.size + 1 + 1, j, none⟩) (by show _ ≤ _ + 1 + 1; omega) u, by have := h.2.2; simpa [World.setCell] using this⟩
/-- Blocks from B on stay when a lower block is written. -/
theorem own_low {W : World} {d : D} {v : Value} {F : List Nat} {B g : Nat} (h : Own W d v F) (hF : ∀ b ∈ F, B ≤ b) (hg : g < B) (j : Nat) (u : Value) : Own (W.setCell ⟨g, j, none⟩ u) d v F :=
  Own.keep d v F (fun b hb => Below.heap_setCell W ⟨g, j, none⟩ u b (show b ≠ g by have := hF b hb; omega)) h
theorem foot_low {W : World} {F : List Nat} {B g j : Nat} {u : Value} (h : Foot B W F) : Foot B (W.setCell ⟨g, j, none⟩ u) F := fun b hb => ⟨(h b hb).1, by have := (h b hb).2; simpa [World.setCell] using this⟩
theorem foot_le {W W' : World} {F : List Nat} {A B : Nat} (h : Foot B W F) (hA : A ≤ B) (hW : W.heap.size ≤ W'.heap.size) : Foot A W' F := fun b hb => ⟨Nat.le_trans hA (h b hb).1, Nat.lt_of_lt_of_le (h b hb).2 hW⟩
theorem set_keep {W : World} {b g j : Nat} {u : Value} (h : b ≠ g) : (W.setCell ⟨g, j, none⟩ u).heap[b]? = W.heap[b]? := Below.heap_setCell W ⟨g, j, none⟩ u b h
theorem set_size (W : World) (g j : Nat) (u : Value) : (W.setCell ⟨g, j, none⟩ u).heap.size = W.heap.size := by simp [World.setCell]
theorem wsum_mem {α : Type} (wd : α → Nat) {l : List α} {x : α} (h : x ∈ l) : wd x ≤ wsum wd l := by
  induction l with
  | nil => cases h
  | cons y r ih =>
    rw [wsum]
    rcases List.mem_cons.1 h with rfl | h
    · omega
    · have := ih h; omega
/-- A record that is made. -/
def MadeR (w : World) (r : Rc) (e : Ending) (w' : World) : Prop := ∃ v1 F1, e = .returned (rcV r v1) ∧ Own w' (strsD r.fields) v1 F1 ∧ Foot w.heap.size w' F1 ∧ Below w.heap.size w w'
def OwnP (w' : World) (r : Pc) (v1 v2 v3 : Value) (F1 F2 F3 : List Nat) : Prop := (Own w' (strsD r.params) v1 F1 ∧ Own w' (strsD r.locals) v2 F2 ∧ Own w' (.ex r.body.kids) v3 F3) ∧ Apart F1 F2 ∧ Apart F1 F3 ∧ Apart F2 F3
def MadeP (w : World) (r : Pc) (e : Ending) (w' : World) : Prop := ∃ v1 v2 v3 F1 F2 F3, e = .returned (pcV r v1 v2 v3) ∧ OwnP w' r v1 v2 v3 F1 F2 F3 ∧ (Foot w.heap.size w' F1 ∧ Foot w.heap.size w' F2 ∧ Foot w.heap.size w' F3) ∧ Below w.heap.size w w'
def MadeU (w : World) (u : Un) (e : Ending) (w' : World) : Prop := ∃ v1 v2 v3 F1 F2 F3, e = .returned (unV v1 v2 v3) ∧ UnOwn w' u v1 v2 v3 F1 F2 F3 ∧ (Foot w.heap.size w' F1 ∧ Foot w.heap.size w' F2 ∧ Foot w.heap.size w' F3) ∧ Below w.heap.size w w'
theorem apart_foot {A B : Nat} {W W' : World} {F G : List Nat} (h : Foot A W F) (k : Foot B W' G) (hs : W.heap.size ≤ B) : Apart F G := fun b h1 h2 => by
  have := (h b h1).2
  have := (k b h2).1
  omega
theorem own_ex {w : World} {ks : List Ex.T} {v : Value} {F : List Nat} (h : OwnK w v ks F) : Own w (.ex ks) v F := by rw [Own]; exact h
theorem ex_own {w : World} {ks : List Ex.T} {v : Value} {F : List Nat} (h : Own w (.ex ks) v F) : OwnK w v ks F := by rw [Own] at h; exact h

set_option maxHeartbeats 3200000 in
theorem to_rec (r : Rc) (hb : r.bulk ≤ 1048576) (w : World) (v1 : Value) (h1 : Is w (strsD r.fields) v1) : Calls Tryz.prog 45 #[rcV r v1] w (MadeR w r) := by
  obtain ⟨a1, c1, rfl⟩ := is_slice h1
  have hbb := hb
  unfold Rc.bulk at hbb
  have HT1 := Lib.hid (fun W (hW : Below w.heap.size w W) => to_strsD _ r.fields W (h1.later hW) (by unfold strsB at hbb; omega))
  unfold RetD at HT1
  have X := Lib.hid (Vars3.start w #[.string r.name, .slice a1 r.fields.length c1, .int .i64 r.line] #[.string ⟨#[]⟩, .slice none 0 0, .int .i64 0] #[.string r.name, .slice none 0 0, .int .i64 0] 77 69 69)
  clear hbb hb h1
  go_enter Tryz.func45, Tryz.ntmps45
  go_wp2_with fail
  refine (HT1.out _ X.out.2.1).mono ?_
  rintro e w1 ⟨u1, F1, rfl, o1, f1, b1⟩
  obtain ⟨z1, d1, rfl⟩ := own_slice o1
  have Y1 := Lib.hid (X.out.later b1)
  have G1 := Lib.hid (foot_le f1 X.out.2.2 (Nat.le_refl _))
  have O1 := Lib.hid o1
  clear o1 f1 b1
  have qA2_1 := (Y1.out.1.1 2 _ rfl).1
  have qC0_1 := (Y1.out.1.2.2 0 _ rfl).1
  have qC0_1f := (Y1.out.1.2.2 0 _ rfl).2
  have qC1_1 := (Y1.out.1.2.2 1 _ rfl).1
  have qC1_1f := (Y1.out.1.2.2 1 _ rfl).2
  have qC2_1 := (Y1.out.1.2.2 2 _ rfl).1
  have qC2_1f := (Y1.out.1.2.2 2 _ rfl).2
  have qB0_1 := (Y1.out.1.2.1 0 _ rfl).1
  have qB0_1f := (Y1.out.1.2.1 0 _ rfl).2
  have qB1_1 := (Y1.out.1.2.1 1 _ rfl).1
  have qB1_1f := (Y1.out.1.2.1 1 _ rfl).2
  have qB2_1 := (Y1.out.1.2.1 2 _ rfl).1
  have qB2_1f := (Y1.out.1.2.1 2 _ rfl).2
  go_wp2
  refine bodyPost_ret (v := rcV r (.slice z1 r.fields.length d1)) (by simp [results, Tryz.results45, go_sem, qB0_1, qB1_1, qB2_1]) rfl ?_
  have n1 : ∀ b ∈ F1, b ≠ w.heap.size + 1 ∧ b ≠ w.heap.size + 1 + 1 := fun b hb => by have h1 := (G1.out b hb).1; omega
  exact ⟨_, F1, rfl, Own.keep _ _ _ (fun b hb => by repeat (first | rw [set_keep (n1 b hb).1] | rw [set_keep (n1 b hb).2])) O1.out, (fun b hb => ⟨by have h1 := (G1.out b hb).1; omega, by have h1 := (G1.out b hb).2; simpa [World.setCell] using h1⟩),
    (by (repeat (refine Below.setCell ?_ (by first | exact Nat.le_succ _ | (show _ ≤ _ + 1 + 1; omega)) _)); exact Y1.out.2.1)⟩
set_option maxHeartbeats 3200000 in
theorem to_proc (r : Pc) (hb : r.bulk ≤ 1048576) (w : World) (v1 v2 v3 : Value) (h1 : Is w (strsD r.params) v1) (h2 : Is w (strsD r.locals) v2) (h3 : Is w (.ex r.body.kids) v3) : Calls Tryz.prog 46 #[pcV r v1 v2 v3] w (MadeP w r) := by
  obtain ⟨a1, c1, rfl⟩ := is_slice h1
  obtain ⟨a2, c2, rfl⟩ := is_slice h2
  obtain ⟨a3, c3, rfl⟩ := kids_len (is_ex h3)
  have hbb := hb
  unfold Pc.bulk at hbb
  have HT1 := Lib.hid (fun W (hW : Below w.heap.size w W) => to_strsD _ r.params W (h1.later hW) (by unfold strsB at hbb; omega))
  unfold RetD at HT1
  have HT2 := Lib.hid (fun W (hW : Below w.heap.size w W) => to_strsD _ r.locals W (h2.later hW) (by unfold strsB at hbb; omega))
  unfold RetD at HT2
  have HT3 := Lib.hid (fun W (hW : Below w.heap.size w W) => to_tree _ r.body (Nat.le_refl _) (by omega) W _ ((is_ex h3).later hW))
  unfold RetE at HT3
  have X := Lib.hid (Vars3.start w #[.string r.name, .slice a1 r.params.length c1, .slice a2 r.locals.length c2, .int .i64 r.body.kind, .string r.body.text, .int .i64 r.body.num, .int .i64 r.body.line, .slice a3 r.body.kids.length c3, .int .i64 r.line] #[.string ⟨#[]⟩, .slice none 0 0, .slice none 0 0, .int .i64 0, .string ⟨#[]⟩, .int .i64 0, .int .i64 0, .slice none 0 0, .int .i64 0] #[.string r.name, .slice none 0 0, .slice none 0 0, .int .i64 0, .string ⟨#[]⟩, .int .i64 0, .int .i64 0, .slice none 0 0, .int .i64 0] 83 49 49)
  clear hbb hb h1 h2 h3
  go_enter Tryz.func46, Tryz.ntmps46
  go_wp2_with fail
  refine (HT1.out _ X.out.2.1).mono ?_
  rintro e w1 ⟨u1, F1, rfl, o1, f1, b1⟩
  obtain ⟨z1, d1, rfl⟩ := own_slice o1
  have Y1 := Lib.hid (X.out.later b1)
  have G1 := Lib.hid (foot_le f1 X.out.2.2 (Nat.le_refl _))
  have O1 := Lib.hid o1
  clear o1 f1 b1
  have qA2_1 := (Y1.out.1.1 2 _ rfl).1
  have qC1_1 := (Y1.out.1.2.2 1 _ rfl).1
  have qC1_1f := (Y1.out.1.2.2 1 _ rfl).2
  have X1 := Lib.hid ((Y1.out.set 1 (.slice z1 r.params.length d1)))
  have P1O := Lib.hid (own_low (g := w.heap.size + 1 + 1) O1.out (fun b hb => (G1.out b hb).1) (by omega) 1 (.slice z1 r.params.length d1))
  have P1G := Lib.hid (foot_low (g := w.heap.size + 1 + 1) (j := 1) (u := .slice z1 r.params.length d1) G1.out)
  clear O1 G1
  go_wp2_with fail
  refine (HT2.out _ X1.out.2.1).mono ?_
  rintro e w2 ⟨u2, F2, rfl, o2, f2, b2⟩
  obtain ⟨z2, d2, rfl⟩ := own_slice o2
  have Y2 := Lib.hid (X1.out.later b2)
  have G2 := Lib.hid (foot_le f2 X1.out.2.2 (Nat.le_refl _))
  have O2 := Lib.hid o2
  have A12 := Lib.hid (apart_foot P1G.out f2 (Nat.le_refl _))
  have O1 := Lib.hid (Own.later P1O.out (fun b hb => (P1G.out b hb).2) b2)
  have G1 := Lib.hid (foot_le P1G.out (Nat.le_refl _) b2.size)
  clear o2 f2 b2 P1O P1G
  clear qA2_1 qC1_1 qC1_1f
  have qA3_2 := (Y2.out.1.1 3 _ rfl).1
  have qA4_2 := (Y2.out.1.1 4 _ rfl).1
  have qA5_2 := (Y2.out.1.1 5 _ rfl).1
  have qA6_2 := (Y2.out.1.1 6 _ rfl).1
  have qA7_2 := (Y2.out.1.1 7 _ rfl).1
  have qC2_2 := (Y2.out.1.2.2 2 _ rfl).1
  have qC2_2f := (Y2.out.1.2.2 2 _ rfl).2
  have X2 := Lib.hid ((Y2.out.set 2 (.slice z2 r.locals.length d2)))
  have P1O := Lib.hid (own_low (g := w.heap.size + 1 + 1) O1.out (fun b hb => (G1.out b hb).1) (by omega) 2 (.slice z2 r.locals.length d2))
  have P1G := Lib.hid (foot_low (g := w.heap.size + 1 + 1) (j := 2) (u := .slice z2 r.locals.length d2) G1.out)
  have P2O := Lib.hid (own_low (g := w.heap.size + 1 + 1) O2.out (fun b hb => (G2.out b hb).1) (by omega) 2 (.slice z2 r.locals.length d2))
  have P2G := Lib.hid (foot_low (g := w.heap.size + 1 + 1) (j := 2) (u := .slice z2 r.locals.length d2) G2.out)
  clear O1 G1 O2 G2
  go_wp2_with fail
  refine (HT3.out _ X2.out.2.1).mono ?_
  rintro e w3 ⟨u3, F3, rfl, o3, f3, b3⟩
  obtain ⟨z3, d3, rfl⟩ := kids_len (OwnK.kids _ o3)
  have o3 := own_ex o3
  have Y3 := Lib.hid (X2.out.later b3)
  have G3 := Lib.hid (foot_le f3 X2.out.2.2 (Nat.le_refl _))
  have O3 := Lib.hid o3
  have A13 := Lib.hid (apart_foot P1G.out f3 (Nat.le_refl _))
  have O1 := Lib.hid (Own.later P1O.out (fun b hb => (P1G.out b hb).2) b3)
  have G1 := Lib.hid (foot_le P1G.out (Nat.le_refl _) b3.size)
  have A23 := Lib.hid (apart_foot P2G.out f3 (Nat.le_refl _))
  have O2 := Lib.hid (Own.later P2O.out (fun b hb => (P2G.out b hb).2) b3)
  have G2 := Lib.hid (foot_le P2G.out (Nat.le_refl _) b3.size)
  clear o3 f3 b3 P1O P1G P2O P2G
  clear qA3_2 qA4_2 qA5_2 qA6_2 qA7_2 qC2_2 qC2_2f
  have qA8_3 := (Y3.out.1.1 8 _ rfl).1
  have qC0_3 := (Y3.out.1.2.2 0 _ rfl).1
  have qC0_3f := (Y3.out.1.2.2 0 _ rfl).2
  have qC1_3 := (Y3.out.1.2.2 1 _ rfl).1
  have qC1_3f := (Y3.out.1.2.2 1 _ rfl).2
  have qC2_3 := (Y3.out.1.2.2 2 _ rfl).1
  have qC2_3f := (Y3.out.1.2.2 2 _ rfl).2
  have qC3_3 := (Y3.out.1.2.2 3 _ rfl).1
  have qC3_3f := (Y3.out.1.2.2 3 _ rfl).2
  have qC4_3 := (Y3.out.1.2.2 4 _ rfl).1
  have qC4_3f := (Y3.out.1.2.2 4 _ rfl).2
  have qC5_3 := (Y3.out.1.2.2 5 _ rfl).1
  have qC5_3f := (Y3.out.1.2.2 5 _ rfl).2
  have qC6_3 := (Y3.out.1.2.2 6 _ rfl).1
  have qC6_3f := (Y3.out.1.2.2 6 _ rfl).2
  have qC7_3 := (Y3.out.1.2.2 7 _ rfl).1
  have qC7_3f := (Y3.out.1.2.2 7 _ rfl).2
  have qC8_3 := (Y3.out.1.2.2 8 _ rfl).1
  have qC8_3f := (Y3.out.1.2.2 8 _ rfl).2
  have qB0_3 := (Y3.out.1.2.1 0 _ rfl).1
  have qB0_3f := (Y3.out.1.2.1 0 _ rfl).2
  have qB1_3 := (Y3.out.1.2.1 1 _ rfl).1
  have qB1_3f := (Y3.out.1.2.1 1 _ rfl).2
  have qB2_3 := (Y3.out.1.2.1 2 _ rfl).1
  have qB2_3f := (Y3.out.1.2.1 2 _ rfl).2
  have qB3_3 := (Y3.out.1.2.1 3 _ rfl).1
  have qB3_3f := (Y3.out.1.2.1 3 _ rfl).2
  have qB4_3 := (Y3.out.1.2.1 4 _ rfl).1
  have qB4_3f := (Y3.out.1.2.1 4 _ rfl).2
  have qB5_3 := (Y3.out.1.2.1 5 _ rfl).1
  have qB5_3f := (Y3.out.1.2.1 5 _ rfl).2
  have qB6_3 := (Y3.out.1.2.1 6 _ rfl).1
  have qB6_3f := (Y3.out.1.2.1 6 _ rfl).2
  have qB7_3 := (Y3.out.1.2.1 7 _ rfl).1
  have qB7_3f := (Y3.out.1.2.1 7 _ rfl).2
  have qB8_3 := (Y3.out.1.2.1 8 _ rfl).1
  have qB8_3f := (Y3.out.1.2.1 8 _ rfl).2
  go_wp2
  refine bodyPost_ret (v := pcV r (.slice z1 r.params.length d1) (.slice z2 r.locals.length d2) (.slice z3 r.body.kids.length d3)) (by simp [results, Tryz.results46, go_sem, qB0_3, qB1_3, qB2_3, qB3_3, qB4_3, qB5_3, qB6_3, qB7_3, qB8_3]) rfl ?_
  have n1 : ∀ b ∈ F1, b ≠ w.heap.size + 1 ∧ b ≠ w.heap.size + 1 + 1 := fun b hb => by have h1 := (G1.out b hb).1; omega
  have n2 : ∀ b ∈ F2, b ≠ w.heap.size + 1 ∧ b ≠ w.heap.size + 1 + 1 := fun b hb => by have h1 := (G2.out b hb).1; omega
  have n3 : ∀ b ∈ F3, b ≠ w.heap.size + 1 ∧ b ≠ w.heap.size + 1 + 1 := fun b hb => by have h1 := (G3.out b hb).1; omega
  refine ⟨_, _, _, F1, F2, F3, rfl, ⟨⟨Own.keep _ _ _ (fun b hb => by repeat (first | rw [set_keep (n1 b hb).1] | rw [set_keep (n1 b hb).2])) O1.out, Own.keep _ _ _ (fun b hb => by repeat (first | rw [set_keep (n2 b hb).1] | rw [set_keep (n2 b hb).2])) O2.out, Own.keep _ _ _ (fun b hb => by repeat (first | rw [set_keep (n3 b hb).1] | rw [set_keep (n3 b hb).2])) O3.out⟩, A12.out, A13.out, A23.out⟩, ⟨(fun b hb => ⟨by have h1 := (G1.out b hb).1; omega, by have h1 := (G1.out b hb).2; simpa [World.setCell] using h1⟩), (fun b hb => ⟨by have h1 := (G2.out b hb).1; omega, by have h1 := (G2.out b hb).2; simpa [World.setCell] using h1⟩), (fun b hb => ⟨by have h1 := (G3.out b hb).1; omega, by have h1 := (G3.out b hb).2; simpa [World.setCell] using h1⟩)⟩,
    (by (repeat (refine Below.setCell ?_ (by first | exact Nat.le_succ _ | (show _ ≤ _ + 1 + 1; omega)) _)); exact Y3.out.2.1)⟩
theorem own_str' {w : World} {s : ByteArray} : Own w (.str s) (.string s) [] := by rw [Own]; exact ⟨rfl, rfl⟩
theorem own_int' {w : World} {n : Int} : Own w (.int n) (.int .i64 n) [] := by rw [Own]; exact ⟨rfl, rfl⟩
theorem own_ex' {w : World} : Own w (.ex []) (.slice none 0 0) [] := by rw [Own, OwnK]; exact ⟨rfl, _, _, rfl⟩
theorem rec_els {w w2 : World} {x : Rc} {z1 : Option Addr} {d1 : Nat} {F1 : List Nat} (o1 : Own w2 (strsD x.fields) (.slice z1 x.fields.length d1) F1) (f1 : Foot w.heap.size w2 F1) : (∀ e ∈ ([(.str x.name, .string x.name, []), (strsD x.fields, .slice z1 x.fields.length d1, F1), (.int x.line, .int .i64 x.line, [])] : List (D × Value × List Nat)), Own w2 e.1 e.2.1 e.2.2 ∧ ∀ b ∈ e.2.2, w.heap.size ≤ b ∧ b < w2.heap.size) ∧ ([(.str x.name, .string x.name, []), (strsD x.fields, .slice z1 x.fields.length d1, F1), (.int x.line, .int .i64 x.line, [])] : List (D × Value × List Nat)).Pairwise (fun x y => Apart x.2.2 y.2.2) := by
  constructor
  · intro e he
    simp only [List.mem_cons, List.not_mem_nil, or_false] at he
    rcases he with rfl | rfl | rfl
    · exact ⟨own_str', fun b hb => by cases hb⟩
    · exact ⟨o1, f1⟩
    · exact ⟨own_int', fun b hb => by cases hb⟩
  · simp [apart_nil, nil_apart]
theorem info_rec : (Tryz.prog.info? 69).map (fun i => (i.zero, i.size, i.bytes)) = some (some (.agg #[.string ByteArray.empty, .slice none 0 0, .int .i64 0]), 3, 48) := by kernel_rfl
theorem zero_rec : ∀ (j : Nat) (d : D), ([.str ByteArray.empty, .row 0 [], .int 0] : List D)[j]? = some d → ∃ u : Value, (#[.string ByteArray.empty, .slice none 0 0, .int .i64 0] : Array Value)[j]? = some u ∧ ∀ W, Own W d u [] := by
  intro j d hj
  match j with
  | 0 => obtain rfl := Option.some.inj hj; exact ⟨_, rfl, fun W => own_str'⟩
  | 1 => obtain rfl := Option.some.inj hj; exact ⟨_, rfl, fun W => own_nil⟩
  | 2 => obtain rfl := Option.some.inj hj; exact ⟨_, rfl, fun W => own_int'⟩
    | j + 3 => simp at hj
set_option maxRecDepth 100000 in
set_option maxHeartbeats 3200000 in
theorem to_recs (ks : List Rc) (hb : ∀ r ∈ ks, r.bulk ≤ 1048576) (hln : ks.length ≤ 1048576) (w : World) (v : Value) (hk : Is w (recsD ks) v) : Calls Tryz.prog 21 #[v] w (RetD w (recsD ks)) := by
  obtain ⟨i0, hi, hz0, hz1, hz2⟩ := info_parts info_rec
  obtain ⟨a, c, rfl⟩ := is_slice hk
  have HK := Lib.hid hk
  have HI := Lib.hid hb
  clear hk hb
  go_enter Tryz.func21, Tryz.ntmps21
  go_wp2_with (at_make; refine wpList_make_full _ rfl _ _ 29 rfl 0 69 i0 (.agg #[.string ByteArray.empty, .slice none 0 0, .int .i64 0]) 3 Tryz.underlying29 hi hz0 hz1 _ _ _ _ ks.length rfl rfl (by omega) (by omega) (by rw [hz2]; omega) (by unfold maxLen; omega) (Nat.zero_le _) ?_)
  intro w1 hown hgr
  have HST := Lib.hid (FillD.start (f := Rc.ds) (zero := [.str ByteArray.empty, .row 0 [], .int 0]) (xs := ks) rfl (by decide) rfl zero_rec hown ((Below.refl w.heap.size w).grown hgr (Nat.le_refl _) (fun k hk => by cases hk)))
  clear hown hgr
  go_wp2
  go_loopw [4] (fun i wr => ∃ k : Nat, i = .int .i64 k ∧ k ≤ ks.length ∧ FillD Rc.ds [.str ByteArray.empty, .row 0 [], .int 0] w w.heap.size ks k wr) (fun i _ => ks.length - (intOf i).toNat)
  case atStart => exact ⟨0, rfl, Nat.zero_le _, HST.out⟩
  case round =>
    clear HST
    obtain ⟨k, rfl, hk, hat⟩ := hrel
    have HAT := Lib.hid hat
    have HK2 := Lib.hid (HK.out.later hat.choose_spec.2.2.2)
    clear hat
    by_cases hlt : k < ks.length
    · obtain ⟨g, o, rfl, ⟨q0, ⟨v1, q1, k1⟩, q2⟩⟩ := rec_at HK2.out k hlt
      have HC := Lib.hid (to_rec ks[k] (HI.out _ (List.getElem_mem hlt)) wr v1 k1)
      unfold MadeR at HC
      have HN := Lib.hid (fun w2 (hb2 : Below wr.heap.size wr w2) es he ho hp => HAT.out.next (w1 := w2) (z := 3) (fun _ => rfl) rfl (Nat.le_refl _) hlt hb2 es he ho hp)
      have HF := Lib.hid (fun w2 j hj hb => HAT.out.cell (w1 := w2) (z := 3) (fun _ => rfl) rfl (Nat.le_of_lt hlt) j hj hb)
      have hltz : k * 3 + 2 < ks.length * 3 := by omega
      have k0 : (0 : Int) ≤ k := by omega
      have k1' : (k : Int) < ks.length := by omega
      clear HAT 
      generalize ks[k] = x at q0 q1 q2 HC HN
      obtain ⟨a1, c1, rfl⟩ := is_slice k1
      clear k1
      go_wp2_with (go_at_call 45; refine HC.out.mono ?_; rintro e w2 ⟨u1, F1, rfl, o1, f1, hb2⟩; obtain ⟨z1, d1, rfl⟩ := own_slice o1; have HN2 := Lib.hid (HN.out w2 hb2 [(.str x.name, .string x.name, []), (strsD x.fields, .slice z1 x.fields.length d1, F1), (.int x.line, .int .i64 x.line, [])] rfl (rec_els o1 f1).1 (rec_els o1 f1).2); obtain ⟨⟨e0, c0⟩, g0⟩ := HF.out w2 (k * 3) (by omega) hb2; obtain ⟨⟨e1, c1⟩, g1⟩ := HF.out w2 (k * 3 + 1) (by omega) hb2; obtain ⟨⟨e2, c2⟩, g2⟩ := HF.out w2 (k * 3 + 2) (by omega) hb2; clear hb2 o1 f1)
      go_roundw
      case rel => exact ⟨k + 1, by go_num, by omega, HN2.out⟩
      case measure => first | (simp [intOf]; done) | (simp [intOf]; omega)
    · obtain rfl : k = ks.length := by omega
      have HD := Lib.hid (HAT.out.done (cp := ks.length) (z := 3) (fun _ => rfl) (by decide) (Nat.le_refl _) (Nat.le_refl _))
      go_wp2
      go_ret
      obtain ⟨F, h1, h2, h3⟩ := HD.out
      exact ⟨_, F, rfl, h1, h2, h3⟩
theorem proc_els {w w2 : World} {x : Pc} {z1 z2 z3 : Option Addr} {d1 d2 d3 : Nat} {F1 F2 F3 : List Nat} (o1 : OwnP w2 x (.slice z1 x.params.length d1) (.slice z2 x.locals.length d2) (.slice z3 x.body.kids.length d3) F1 F2 F3) (f1 : Foot w.heap.size w2 F1 ∧ Foot w.heap.size w2 F2 ∧ Foot w.heap.size w2 F3) : (∀ e ∈ ([(.str x.name, .string x.name, []), (strsD x.params, .slice z1 x.params.length d1, F1), (strsD x.locals, .slice z2 x.locals.length d2, F2), (.int x.body.kind, .int .i64 x.body.kind, []), (.str x.body.text, .string x.body.text, []), (.int x.body.num, .int .i64 x.body.num, []), (.int x.body.line, .int .i64 x.body.line, []), (.ex x.body.kids, .slice z3 x.body.kids.length d3, F3), (.int x.line, .int .i64 x.line, [])] : List (D × Value × List Nat)), Own w2 e.1 e.2.1 e.2.2 ∧ ∀ b ∈ e.2.2, w.heap.size ≤ b ∧ b < w2.heap.size) ∧ ([(.str x.name, .string x.name, []), (strsD x.params, .slice z1 x.params.length d1, F1), (strsD x.locals, .slice z2 x.locals.length d2, F2), (.int x.body.kind, .int .i64 x.body.kind, []), (.str x.body.text, .string x.body.text, []), (.int x.body.num, .int .i64 x.body.num, []), (.int x.body.line, .int .i64 x.body.line, []), (.ex x.body.kids, .slice z3 x.body.kids.length d3, F3), (.int x.line, .int .i64 x.line, [])] : List (D × Value × List Nat)).Pairwise (fun x y => Apart x.2.2 y.2.2) := by
  constructor
  · intro e he
    simp only [List.mem_cons, List.not_mem_nil, or_false] at he
    rcases he with rfl | rfl | rfl | rfl | rfl | rfl | rfl | rfl | rfl
    · exact ⟨own_str', fun b hb => by cases hb⟩
    · exact ⟨o1.1.1, f1.1⟩
    · exact ⟨o1.1.2.1, f1.2.1⟩
    · exact ⟨own_int', fun b hb => by cases hb⟩
    · exact ⟨own_str', fun b hb => by cases hb⟩
    · exact ⟨own_int', fun b hb => by cases hb⟩
    · exact ⟨own_int', fun b hb => by cases hb⟩
    · exact ⟨o1.1.2.2, f1.2.2⟩
    · exact ⟨own_int', fun b hb => by cases hb⟩
  · simp [apart_nil, nil_apart, o1.2.1, o1.2.2.1, o1.2.2.2]
theorem info_proc : (Tryz.prog.info? 49).map (fun i => (i.zero, i.size, i.bytes)) = some (some (.agg #[.string ByteArray.empty, .slice none 0 0, .slice none 0 0, .int .i64 0, .string ByteArray.empty, .int .i64 0, .int .i64 0, .slice none 0 0, .int .i64 0]), 9, 136) := by kernel_rfl
theorem zero_proc : ∀ (j : Nat) (d : D), ([.str ByteArray.empty, .row 0 [], .row 0 [], .int 0, .str ByteArray.empty, .int 0, .int 0, .ex [], .int 0] : List D)[j]? = some d → ∃ u : Value, (#[.string ByteArray.empty, .slice none 0 0, .slice none 0 0, .int .i64 0, .string ByteArray.empty, .int .i64 0, .int .i64 0, .slice none 0 0, .int .i64 0] : Array Value)[j]? = some u ∧ ∀ W, Own W d u [] := by
  intro j d hj
  match j with
  | 0 => obtain rfl := Option.some.inj hj; exact ⟨_, rfl, fun W => own_str'⟩
  | 1 => obtain rfl := Option.some.inj hj; exact ⟨_, rfl, fun W => own_nil⟩
  | 2 => obtain rfl := Option.some.inj hj; exact ⟨_, rfl, fun W => own_nil⟩
  | 3 => obtain rfl := Option.some.inj hj; exact ⟨_, rfl, fun W => own_int'⟩
  | 4 => obtain rfl := Option.some.inj hj; exact ⟨_, rfl, fun W => own_str'⟩
  | 5 => obtain rfl := Option.some.inj hj; exact ⟨_, rfl, fun W => own_int'⟩
  | 6 => obtain rfl := Option.some.inj hj; exact ⟨_, rfl, fun W => own_int'⟩
  | 7 => obtain rfl := Option.some.inj hj; exact ⟨_, rfl, fun W => own_ex'⟩
  | 8 => obtain rfl := Option.some.inj hj; exact ⟨_, rfl, fun W => own_int'⟩
    | j + 9 => simp at hj
set_option maxRecDepth 100000 in
set_option maxHeartbeats 3200000 in
theorem to_procs (ks : List Pc) (hb : ∀ r ∈ ks, r.bulk ≤ 1048576) (hln : ks.length ≤ 1048576) (w : World) (v : Value) (hk : Is w (procsD ks) v) : Calls Tryz.prog 23 #[v] w (RetD w (procsD ks)) := by
  obtain ⟨i0, hi, hz0, hz1, hz2⟩ := info_parts info_proc
  obtain ⟨a, c, rfl⟩ := is_slice hk
  have HK := Lib.hid hk
  have HI := Lib.hid hb
  clear hk hb
  go_enter Tryz.func23, Tryz.ntmps23
  go_wp2_with (at_make; refine wpList_make_full _ rfl _ _ 30 rfl 0 49 i0 (.agg #[.string ByteArray.empty, .slice none 0 0, .slice none 0 0, .int .i64 0, .string ByteArray.empty, .int .i64 0, .int .i64 0, .slice none 0 0, .int .i64 0]) 9 Tryz.underlying30 hi hz0 hz1 _ _ _ _ ks.length rfl rfl (by omega) (by omega) (by rw [hz2]; omega) (by unfold maxLen; omega) (Nat.zero_le _) ?_)
  intro w1 hown hgr
  have HST := Lib.hid (FillD.start (f := Pc.ds) (zero := [.str ByteArray.empty, .row 0 [], .row 0 [], .int 0, .str ByteArray.empty, .int 0, .int 0, .ex [], .int 0]) (xs := ks) rfl (by decide) rfl zero_proc hown ((Below.refl w.heap.size w).grown hgr (Nat.le_refl _) (fun k hk => by cases hk)))
  clear hown hgr
  go_wp2
  go_loopw [4] (fun i wr => ∃ k : Nat, i = .int .i64 k ∧ k ≤ ks.length ∧ FillD Pc.ds [.str ByteArray.empty, .row 0 [], .row 0 [], .int 0, .str ByteArray.empty, .int 0, .int 0, .ex [], .int 0] w w.heap.size ks k wr) (fun i _ => ks.length - (intOf i).toNat)
  case atStart => exact ⟨0, rfl, Nat.zero_le _, HST.out⟩
  case round =>
    clear HST
    obtain ⟨k, rfl, hk, hat⟩ := hrel
    have HAT := Lib.hid hat
    have HK2 := Lib.hid (HK.out.later hat.choose_spec.2.2.2)
    clear hat
    by_cases hlt : k < ks.length
    · obtain ⟨g, o, rfl, ⟨q0, ⟨v1, q1, k1⟩, ⟨v2, q2, k2⟩, ⟨q3, q4, q5, q6⟩, ⟨v3, q7, k3⟩, q8⟩⟩ := proc_at HK2.out k hlt
      have HC := Lib.hid (to_proc ks[k] (HI.out _ (List.getElem_mem hlt)) wr v1 v2 v3 k1 k2 (by rw [Is]; exact k3))
      unfold MadeP at HC
      have HN := Lib.hid (fun w2 (hb2 : Below wr.heap.size wr w2) es he ho hp => HAT.out.next (w1 := w2) (z := 9) (fun _ => rfl) rfl (Nat.le_refl _) hlt hb2 es he ho hp)
      have HF := Lib.hid (fun w2 j hj hb => HAT.out.cell (w1 := w2) (z := 9) (fun _ => rfl) rfl (Nat.le_of_lt hlt) j hj hb)
      have hltz : k * 9 + 8 < ks.length * 9 := by omega
      have k0 : (0 : Int) ≤ k := by omega
      have k1' : (k : Int) < ks.length := by omega
      clear HAT 
      generalize ks[k] = x at q0 q1 q2 q3 q4 q5 q6 q7 q8 HC HN
      obtain ⟨a1, c1, rfl⟩ := is_slice k1
      obtain ⟨a2, c2, rfl⟩ := is_slice k2
      obtain ⟨a3, c3, rfl⟩ := kids_len k3
      clear k1 k2 k3
      go_wp2_with (go_at_call 46; refine HC.out.mono ?_; rintro e w2 ⟨u1, u2, u3, F1, F2, F3, rfl, o1, f1, hb2⟩; obtain ⟨z1, d1, rfl⟩ := own_slice o1.1.1; obtain ⟨z2, d2, rfl⟩ := own_slice o1.1.2.1; obtain ⟨z3, d3, rfl⟩ := kids_len (is_ex o1.1.2.2.is); have HN2 := Lib.hid (HN.out w2 hb2 [(.str x.name, .string x.name, []), (strsD x.params, .slice z1 x.params.length d1, F1), (strsD x.locals, .slice z2 x.locals.length d2, F2), (.int x.body.kind, .int .i64 x.body.kind, []), (.str x.body.text, .string x.body.text, []), (.int x.body.num, .int .i64 x.body.num, []), (.int x.body.line, .int .i64 x.body.line, []), (.ex x.body.kids, .slice z3 x.body.kids.length d3, F3), (.int x.line, .int .i64 x.line, [])] rfl (proc_els o1 f1).1 (proc_els o1 f1).2); obtain ⟨⟨e0, c0⟩, g0⟩ := HF.out w2 (k * 9) (by omega) hb2; obtain ⟨⟨e1, c1⟩, g1⟩ := HF.out w2 (k * 9 + 1) (by omega) hb2; obtain ⟨⟨e2, c2⟩, g2⟩ := HF.out w2 (k * 9 + 2) (by omega) hb2; obtain ⟨⟨e3, c3⟩, g3⟩ := HF.out w2 (k * 9 + 3) (by omega) hb2; obtain ⟨⟨e4, c4⟩, g4⟩ := HF.out w2 (k * 9 + 4) (by omega) hb2; obtain ⟨⟨e5, c5⟩, g5⟩ := HF.out w2 (k * 9 + 5) (by omega) hb2; obtain ⟨⟨e6, c6⟩, g6⟩ := HF.out w2 (k * 9 + 6) (by omega) hb2; obtain ⟨⟨e7, c7⟩, g7⟩ := HF.out w2 (k * 9 + 7) (by omega) hb2; obtain ⟨⟨e8, c8⟩, g8⟩ := HF.out w2 (k * 9 + 8) (by omega) hb2; clear hb2 o1 f1)
      go_roundw
      case rel => exact ⟨k + 1, by go_num, by omega, HN2.out⟩
      case measure => first | (simp [intOf]; done) | (simp [intOf]; omega)
    · obtain rfl : k = ks.length := by omega
      have HD := Lib.hid (HAT.out.done (cp := ks.length) (z := 9) (fun _ => rfl) (by decide) (Nat.le_refl _) (Nat.le_refl _))
      go_wp2
      go_ret
      obtain ⟨F, h1, h2, h3⟩ := HD.out
      exact ⟨_, F, rfl, h1, h2, h3⟩
set_option maxHeartbeats 3200000 in
theorem to_unit (r : Un) (hb : r.bulk ≤ 1048576) (w : World) (v1 v2 v3 : Value) (h1 : Is w (recsD r.recs) v1) (h2 : Is w (strsD r.globs) v2) (h3 : Is w (procsD r.procs) v3) : Calls Tryz.prog 7 #[unV v1 v2 v3] w (MadeU w r) := by
  obtain ⟨a1, c1, rfl⟩ := is_slice h1
  obtain ⟨a2, c2, rfl⟩ := is_slice h2
  obtain ⟨a3, c3, rfl⟩ := is_slice h3
  have hbb := hb
  unfold Un.bulk recsB strsB procsB at hbb
  have HT1 := Lib.hid (fun W (hW : Below w.heap.size w W) => to_recs r.recs (fun x hx => by have := wsum_mem Rc.bulk hx; omega) (by omega) W _ (h1.later hW))
  unfold RetD at HT1
  have HT2 := Lib.hid (fun W (hW : Below w.heap.size w W) => to_strsD _ r.globs W (h2.later hW) (by omega))
  unfold RetD at HT2
  have HT3 := Lib.hid (fun W (hW : Below w.heap.size w W) => to_procs r.procs (fun x hx => by have := wsum_mem Pc.bulk hx; omega) (by omega) W _ (h3.later hW))
  unfold RetD at HT3
  have X := Lib.hid (Vars3.start w #[.slice a1 r.recs.length c1, .slice a2 r.globs.length c2, .slice a3 r.procs.length c3] #[.slice none 0 0, .slice none 0 0, .slice none 0 0] #[.slice none 0 0, .slice none 0 0, .slice none 0 0] 26 32 32)
  clear hbb hb h1 h2 h3
  go_enter Tryz.func7, Tryz.ntmps7
  go_wp2_with fail
  refine (HT1.out _ X.out.2.1).mono ?_
  rintro e w1 ⟨u1, F1, rfl, o1, f1, b1⟩
  obtain ⟨z1, d1, rfl⟩ := own_slice o1
  have Y1 := Lib.hid (X.out.later b1)
  have G1 := Lib.hid (foot_le f1 X.out.2.2 (Nat.le_refl _))
  have O1 := Lib.hid o1
  clear o1 f1 b1
  have qA1_1 := (Y1.out.1.1 1 _ rfl).1
  have qC0_1 := (Y1.out.1.2.2 0 _ rfl).1
  have qC0_1f := (Y1.out.1.2.2 0 _ rfl).2
  have X1 := Lib.hid ((Y1.out.set 0 (.slice z1 r.recs.length d1)))
  have P1O := Lib.hid (own_low (g := w.heap.size + 1 + 1) O1.out (fun b hb => (G1.out b hb).1) (by omega) 0 (.slice z1 r.recs.length d1))
  have P1G := Lib.hid (foot_low (g := w.heap.size + 1 + 1) (j := 0) (u := .slice z1 r.recs.length d1) G1.out)
  clear O1 G1
  go_wp2_with fail
  refine (HT2.out _ X1.out.2.1).mono ?_
  rintro e w2 ⟨u2, F2, rfl, o2, f2, b2⟩
  obtain ⟨z2, d2, rfl⟩ := own_slice o2
  have Y2 := Lib.hid (X1.out.later b2)
  have G2 := Lib.hid (foot_le f2 X1.out.2.2 (Nat.le_refl _))
  have O2 := Lib.hid o2
  have A12 := Lib.hid (apart_foot P1G.out f2 (Nat.le_refl _))
  have O1 := Lib.hid (Own.later P1O.out (fun b hb => (P1G.out b hb).2) b2)
  have G1 := Lib.hid (foot_le P1G.out (Nat.le_refl _) b2.size)
  clear o2 f2 b2 P1O P1G
  clear qA1_1 qC0_1 qC0_1f
  have qA2_2 := (Y2.out.1.1 2 _ rfl).1
  have qC1_2 := (Y2.out.1.2.2 1 _ rfl).1
  have qC1_2f := (Y2.out.1.2.2 1 _ rfl).2
  have X2 := Lib.hid ((Y2.out.set 1 (.slice z2 r.globs.length d2)))
  have P1O := Lib.hid (own_low (g := w.heap.size + 1 + 1) O1.out (fun b hb => (G1.out b hb).1) (by omega) 1 (.slice z2 r.globs.length d2))
  have P1G := Lib.hid (foot_low (g := w.heap.size + 1 + 1) (j := 1) (u := .slice z2 r.globs.length d2) G1.out)
  have P2O := Lib.hid (own_low (g := w.heap.size + 1 + 1) O2.out (fun b hb => (G2.out b hb).1) (by omega) 1 (.slice z2 r.globs.length d2))
  have P2G := Lib.hid (foot_low (g := w.heap.size + 1 + 1) (j := 1) (u := .slice z2 r.globs.length d2) G2.out)
  clear O1 G1 O2 G2
  go_wp2_with fail
  refine (HT3.out _ X2.out.2.1).mono ?_
  rintro e w3 ⟨u3, F3, rfl, o3, f3, b3⟩
  obtain ⟨z3, d3, rfl⟩ := own_slice o3
  have Y3 := Lib.hid (X2.out.later b3)
  have G3 := Lib.hid (foot_le f3 X2.out.2.2 (Nat.le_refl _))
  have O3 := Lib.hid o3
  have A13 := Lib.hid (apart_foot P1G.out f3 (Nat.le_refl _))
  have O1 := Lib.hid (Own.later P1O.out (fun b hb => (P1G.out b hb).2) b3)
  have G1 := Lib.hid (foot_le P1G.out (Nat.le_refl _) b3.size)
  have A23 := Lib.hid (apart_foot P2G.out f3 (Nat.le_refl _))
  have O2 := Lib.hid (Own.later P2O.out (fun b hb => (P2G.out b hb).2) b3)
  have G2 := Lib.hid (foot_le P2G.out (Nat.le_refl _) b3.size)
  clear o3 f3 b3 P1O P1G P2O P2G
  clear qA2_2 qC1_2 qC1_2f
  have qC0_3 := (Y3.out.1.2.2 0 _ rfl).1
  have qC0_3f := (Y3.out.1.2.2 0 _ rfl).2
  have qC1_3 := (Y3.out.1.2.2 1 _ rfl).1
  have qC1_3f := (Y3.out.1.2.2 1 _ rfl).2
  have qC2_3 := (Y3.out.1.2.2 2 _ rfl).1
  have qC2_3f := (Y3.out.1.2.2 2 _ rfl).2
  have qB0_3 := (Y3.out.1.2.1 0 _ rfl).1
  have qB0_3f := (Y3.out.1.2.1 0 _ rfl).2
  have qB1_3 := (Y3.out.1.2.1 1 _ rfl).1
  have qB1_3f := (Y3.out.1.2.1 1 _ rfl).2
  have qB2_3 := (Y3.out.1.2.1 2 _ rfl).1
  have qB2_3f := (Y3.out.1.2.1 2 _ rfl).2
  go_wp2
  refine bodyPost_ret (v := unV (.slice z1 r.recs.length d1) (.slice z2 r.globs.length d2) (.slice z3 r.procs.length d3)) (by simp [results, Tryz.results7, go_sem, qB0_3, qB1_3, qB2_3]) rfl ?_
  have n1 : ∀ b ∈ F1, b ≠ w.heap.size + 1 ∧ b ≠ w.heap.size + 1 + 1 := fun b hb => by have h1 := (G1.out b hb).1; omega
  have n2 : ∀ b ∈ F2, b ≠ w.heap.size + 1 ∧ b ≠ w.heap.size + 1 + 1 := fun b hb => by have h1 := (G2.out b hb).1; omega
  have n3 : ∀ b ∈ F3, b ≠ w.heap.size + 1 ∧ b ≠ w.heap.size + 1 + 1 := fun b hb => by have h1 := (G3.out b hb).1; omega
  refine ⟨_, _, _, F1, F2, F3, rfl, ⟨⟨Own.keep _ _ _ (fun b hb => by repeat (first | rw [set_keep (n1 b hb).1] | rw [set_keep (n1 b hb).2])) O1.out, Own.keep _ _ _ (fun b hb => by repeat (first | rw [set_keep (n2 b hb).1] | rw [set_keep (n2 b hb).2])) O2.out, Own.keep _ _ _ (fun b hb => by repeat (first | rw [set_keep (n3 b hb).1] | rw [set_keep (n3 b hb).2])) O3.out⟩, A12.out, A13.out, A23.out⟩, ⟨(fun b hb => ⟨by have h1 := (G1.out b hb).1; omega, by have h1 := (G1.out b hb).2; simpa [World.setCell] using h1⟩), (fun b hb => ⟨by have h1 := (G2.out b hb).1; omega, by have h1 := (G2.out b hb).2; simpa [World.setCell] using h1⟩), (fun b hb => ⟨by have h1 := (G3.out b hb).1; omega, by have h1 := (G3.out b hb).2; simpa [World.setCell] using h1⟩)⟩,
    (by (repeat (refine Below.setCell ?_ (by first | exact Nat.le_succ _ | (show _ ≤ _ + 1 + 1; omega)) _)); exact Y3.out.2.1)⟩
end Go.Proofs.YtckjmmapekaapaaGreatDoor
