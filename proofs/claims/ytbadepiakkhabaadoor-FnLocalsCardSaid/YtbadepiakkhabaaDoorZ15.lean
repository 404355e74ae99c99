/- Joined texts: V66, V67, V69. No conditions besides those that each states. -/
import Derived.Test.YtbadepiakkhabaaDoorZ13
import Derived.Test.YtbadepiakkhabaaDoorZ14
/- Data that stays whatever else is turned: footprints without apartness. No conditions. -/
namespace Go.Proofs.YtbadepiakkhabaaDoor
open Go.RowKit
set_option linter.unusedVariables false

/-- The data reads the same in every world that agrees on the blocks of P that this world has. -/
def Sure (P : Nat → Prop) (w : World) (d : D) (v : Value) : Prop := ∀ w' : World, (∀ b, P b → b < w.heap.size → w'.heap[b]? = w.heap[b]?) → Is w' d v
theorem Sure.is {P : Nat → Prop} {w : World} {d : D} {v : Value} (h : Sure P w d v) : Is w d v := h w fun _ _ _ => rfl
theorem Sure.keep {P : Nat → Prop} {w w1 : World} {d : D} {v : Value} (h : Sure P w d v) (hs : w.heap.size ≤ w1.heap.size) (hb : ∀ b, P b → b < w.heap.size → w1.heap[b]? = w.heap[b]?) : Sure P w1 d v :=
  fun w' h' => h w' fun b h1 h2 => (h' b h1 (Nat.lt_of_lt_of_le h2 hs)).trans (hb b h1 h2)
theorem Sure.turn {P : Nat → Prop} {cb : Nat} {rb : Option Nat} {w w1 : World} {d : D} {v : Value} (h : Sure P w d v) (ht : Turn cb rb w w1) (hc : ¬ P cb) (hr : ∀ r, rb = some r → ¬ P r) : Sure P w1 d v :=
  h.keep ht.1.2.2.2 fun b h1 h2 => ht.2 b h2 (fun e => hc (e ▸ h1)) (fun e => hr b e h1)
theorem Sure.set {P : Nat → Prop} {C : Nat} {w : World} {d : D} {v : Value} (h : Sure P w d v) (hC : ¬ P C) (j : Nat) (u : Value) : Sure P (w.setCell ⟨C, j, none⟩ u) d v :=
  h.keep (by rw [set_size]; exact Nat.le_refl _) fun b h1 _ => set_keep (fun e => hC (e ▸ h1))
theorem Sure.up {P R : Nat → Prop} {w : World} {d : D} {v : Value} (h : Sure P w d v) (hR : ∀ b, P b → b < w.heap.size → R b) : Sure R w d v := fun w' h' => h w' fun b h1 h2 => h' b (hR b h1 h2) h2
theorem Sure.of_own {P : Nat → Prop} {w : World} {d : D} {v : Value} {F : List Nat} (h : Own w d v F) (hF : ∀ x ∈ F, P x ∧ x < w.heap.size) : Sure P w d v :=
  fun w' h' => Own.is _ _ _ (Own.keep _ _ _ (fun x hx => h' x (hF x hx).1 (hF x hx).2) h)
theorem sure_int {P : Nat → Prop} {w : World} {n : Int} : Sure P w (.int n) (.int .i64 n) := fun w' _ => by rw [Is]
theorem sure_str {P : Nat → Prop} {w : World} {s : ByteArray} : Sure P w (.str s) (.string s) := fun w' _ => by rw [Is]
theorem sure_nil {P : Nat → Prop} {w : World} {n c : Nat} {a : Option Addr} : Sure P w (.row n []) (.slice a n c) := fun w' _ => by rw [Is]; exact ⟨_, _, rfl, .inl rfl⟩
/-- A new block of cells, each of them sure, is a sure row. -/
theorem NewB.sure {P : Nat → Prop} {Z g n c : Nat} {w : World} {cs : Array Value} {T : TypeId} (h : NewB Z w g cs T) (hP : P g) {ds : List D} (hn : n ≤ c) (hd : ∀ (j : Nat) (d : D), ds[j]? = some d → ∃ u : Value, cs[j]? = some u ∧ Sure P w d u) : Sure P w (.row n ds) (.slice (some ⟨g, 0, none⟩) n c) := by
  intro w' h'
  rw [Is]
  refine ⟨_, _, rfl, .inr ⟨hn, g, 0, rfl, isAll_of fun j d hj => ?_⟩⟩
  obtain ⟨u, h1, h2⟩ := hd j d hj
  refine ⟨u, ?_, h2 w' h'⟩
  rw [Nat.zero_add, cell_keep (h' g hP h.lt) j, h.cell j]
  exact h1
/-- .. and of trees. -/
theorem NewB.tree {P : Nat → Prop} {Z q : Nat} {w : World} {t : Ex.T} {u : Value} (h : NewB Z w q #[.int .i64 t.kind, .string t.text, .int .i64 t.num, .int .i64 t.line, u] 105) (hP : P q) (hu : Sure P w (.ex t.kids) u) : Sure P w (.ex [t]) (.slice (some ⟨q, 0, none⟩) 1 1) := by
  intro w' h'
  have hc : ∀ j, w'.cell? ⟨q, j, none⟩ = _ := fun j => (cell_keep (h' q hP h.lt) j).trans (h.cell j)
  have h1 := hu w' h'
  rw [Is] at h1 ⊢
  obtain ⟨k, x, n, l, ks⟩ := t
  rw [Kids]
  exact ⟨q, 0, 1, rfl, Nat.le_refl _, by rw [TreeAt]; exact ⟨⟨hc 0, hc 1, hc 2, hc 3⟩, u, hc 4, h1⟩, by rw [RowAt]; trivial⟩
theorem NewB.trees {P : Nat → Prop} {Z q : Nat} {w : World} {t y : Ex.T} {u z : Value} (h : NewB Z w q #[.int .i64 t.kind, .string t.text, .int .i64 t.num, .int .i64 t.line, u, .int .i64 y.kind, .string y.text, .int .i64 y.num, .int .i64 y.line, z] 105) (hP : P q) (hu : Sure P w (.ex t.kids) u) (hz : Sure P w (.ex y.kids) z) : Sure P w (.ex [t, y]) (.slice (some ⟨q, 0, none⟩) 2 2) := by
  intro w' h'
  have hc : ∀ j, w'.cell? ⟨q, j, none⟩ = _ := fun j => (cell_keep (h' q hP h.lt) j).trans (h.cell j)
  have h1 := hu w' h'
  have h2 := hz w' h'
  rw [Is] at h1 h2 ⊢
  obtain ⟨k, x, n, l, ks⟩ := t
  obtain ⟨k2, x2, n2, l2, ks2⟩ := y
  rw [Kids]
  exact ⟨q, 0, 2, rfl, Nat.le_refl _, by rw [TreeAt]; exact ⟨⟨hc 0, hc 1, hc 2, hc 3⟩, u, hc 4, h1⟩, by
    rw [RowAt]
    exact ⟨by rw [TreeAt]; exact ⟨⟨hc 5, hc 6, hc 7, hc 8⟩, z, hc 9, h2⟩, by rw [RowAt]; trivial⟩⟩
/-- A drawn unit, surely. -/
def SureU (Z M B cb : Nat) (w : World) (e : Ending) (w' : World) : Prop := ∃ (u : Un) (a1 a3 : Option Addr) (v2 : Value) (c1 c3 : Nat), e = .returned (unV (.slice a1 u.recs.length c1) v2 (.slice a3 u.procs.length c3)) ∧ (Sure (fun b => Z ≤ b) w' (recsD u.recs) (.slice a1 u.recs.length c1) ∧ Sure (fun b => Z ≤ b) w' (strsD u.globs) v2 ∧ Sure (fun b => Z ≤ b) w' (procsD u.procs) (.slice a3 u.procs.length c3)) ∧ u.bulk ≤ M ∧ IsCur B w' cb ∧ Only cb w w'
theorem DrawnU.sure {M B cb : Nat} {w w' : World} {e : Ending} (h : DrawnU M B cb w e w') : SureU w.heap.size M B cb w e w' := by
  obtain ⟨u, v1, v2, v3, rfl, ⟨F1, F2, F3, h1, h2, h3, hF⟩, h4⟩ := h
  have s1 : Sure (fun b => w.heap.size ≤ b) w' (recsD u.recs) v1 := .of_own h1 fun x hx => hF x (List.mem_append_left _ hx)
  have s2 : Sure (fun b => w.heap.size ≤ b) w' (strsD u.globs) v2 := .of_own h2 fun x hx => hF x (List.mem_append_right _ (List.mem_append_left _ hx))
  have s3 : Sure (fun b => w.heap.size ≤ b) w' (procsD u.procs) v3 := .of_own h3 fun x hx => hF x (List.mem_append_right _ (List.mem_append_right _ hx))
  obtain ⟨a1, c1, rfl⟩ := own_slice h1
  obtain ⟨a3, c3, rfl⟩ := own_slice h3
  exact ⟨u, a1, a3, v2, c1, c3, rfl, ⟨s1, s2, s3⟩, h4⟩
end Go.Proofs.YtbadepiakkhabaaDoor
/- The reference model's drawing of a unit whose locals are asked for. No conditions. -/
namespace Go.Proofs.YtbadepiakkhabaaDoor
open Go.RowKit
set_option linter.unusedVariables false

/-- The variables: the result's, the unit's; the blocks that hold the unit's data. -/
def P9 (w : World) (E : Nat) (b : Nat) : Prop := w.heap.size < b ∧ b ≠ E
def U9 (B cb : Nat) (w : World) (E : Nat) (u : Un) (a1 a2 a3 : Option Addr) (c1 c2 c3 : Nat) (wr : World) : Prop :=
  Var wr w.heap.size [.slice none 0 0, .slice none 0 0, .slice none 0 0] ∧ Var wr E [.slice a1 u.recs.length c1, .slice a2 u.globs.length c2, .slice a3 u.procs.length c3] ∧ IsCur B wr cb ∧ Only cb w wr ∧ (w.heap.size < E ∧ E < wr.heap.size) ∧
  (Sure (P9 w E) wr (recsD u.recs) (.slice a1 u.recs.length c1) ∧ Sure (P9 w E) wr (strsD u.globs) (.slice a2 u.globs.length c2) ∧ Sure (P9 w E) wr (procsD u.procs) (.slice a3 u.procs.length c3)) ∧ u.bulk ≤ 300000
theorem U9.turn {B cb E : Nat} {w wr w1 : World} {u : Un} {a1 a2 a3 : Option Addr} {c1 c2 c3 : Nat} (h : U9 B cb w E u a1 a2 a3 c1 c2 c3 wr) (hcl : cb < w.heap.size) (hc : IsCur B w1 cb) (ht : Turn cb none wr w1) : U9 B cb w E u a1 a2 a3 c1 c2 c3 w1 := by
  obtain ⟨h1, h2, h3, h4, h5, ⟨h6, h7, h8⟩, h9⟩ := h
  have hn : ¬ P9 w E cb := fun e => by have := e.1; omega
  have hr : ∀ r, (none : Option Nat) = some r → ¬ P9 w E r := fun r e => by cases e
  exact ⟨h1.keep (ht.2 _ (Var.lt h1) (by omega) (by simp)), h2.keep (ht.2 _ h5.2 (by omega) (by simp)), hc, h4.turn ht (fun r e => by cases e), ⟨h5.1, Nat.lt_of_lt_of_le h5.2 ht.1.2.2.2⟩, ⟨h6.turn ht hn hr, h7.turn ht hn hr, h8.turn ht hn hr⟩, h9⟩
theorem U9.ret {B cb E : Nat} {w wr : World} {u : Un} {a1 a2 a3 : Option Addr} {c1 c2 c3 : Nat} (h : U9 B cb w E u a1 a2 a3 c1 c2 c3 wr) (hcl : cb < w.heap.size) (hB : B ≤ w.heap.size) :
    SureU w.heap.size 300000 B cb w (.returned (unV (.slice a1 u.recs.length c1) (.slice a2 u.globs.length c2) (.slice a3 u.procs.length c3))) (((wr.setCell ⟨w.heap.size, 0, none⟩ (.slice a1 u.recs.length c1)).setCell ⟨w.heap.size, 1, none⟩ (.slice a2 u.globs.length c2)).setCell ⟨w.heap.size, 2, none⟩ (.slice a3 u.procs.length c3)) := by
  obtain ⟨h1, h2, h3, h4, h5, ⟨h6, h7, h8⟩, h9⟩ := h
  have hn : ¬ P9 w E w.heap.size := fun e => by have := e.1; omega
  have hu : ∀ {d : D} {v : Value}, Sure (P9 w E) wr d v → Sure (fun b => w.heap.size ≤ b) (((wr.setCell ⟨w.heap.size, 0, none⟩ (.slice a1 u.recs.length c1)).setCell ⟨w.heap.size, 1, none⟩ (.slice a2 u.globs.length c2)).setCell ⟨w.heap.size, 2, none⟩ (.slice a3 u.procs.length c3)) d v := fun h => (((h.set hn 0 _).set hn 1 _).set hn 2 _).up (fun b hb _ => Nat.le_of_lt hb.1)
  exact ⟨u, a1, a3, _, c1, c3, rfl, ⟨hu h6, hu h7, hu h8⟩, h9, cur_far (cur_far (cur_far h3 hB (by omega) 0 _) hB (by omega) 1 _) hB (by omega) 2 _, ((h4.far (Nat.le_refl _) 0 _).far (Nat.le_refl _) 1 _).far (Nat.le_refl _) 2 _⟩
theorem U9.start {B cb : Nat} {w w3 : World} {e : Ending} (hcl : cb < w.heap.size) (hB : B ≤ w.heap.size) (h : DrawnU 300000 B cb (w.alloc (.cells #[.slice none 0 0, .slice none 0 0, .slice none 0 0] 51)) e w3) : ∃ (u : Un) (a1 a2 a3 : Option Addr) (c1 c2 c3 : Nat), e = .returned (unV (.slice a1 u.recs.length c1) (.slice a2 u.globs.length c2) (.slice a3 u.procs.length c3)) ∧ w.heap.size < w3.heap.size ∧
    U9 B cb w w3.heap.size u a1 a2 a3 c1 c2 c3 (w3.alloc (.cells #[.slice a1 u.recs.length c1, .slice a2 u.globs.length c2, .slice a3 u.procs.length c3] 51)) := by
  obtain ⟨u, a1, a3, v2, c1, c3, rfl, ⟨s1, s2, s3⟩, hb, hc, ho⟩ := h.sure
  obtain ⟨a2, c2, rfl⟩ := is_slice s2.is
  have hz : (w.alloc (.cells #[.slice none 0 0, .slice none 0 0, .slice none 0 0] 51)).heap.size = w.heap.size + 1 := by simp
  have hlt : w.heap.size < w3.heap.size := by have := ho.size; omega
  have hw1 := bl1 w3 (.cells #[.slice a1 u.recs.length c1, .slice a2 u.globs.length c2, .slice a3 u.procs.length c3] 51)
  have hu : ∀ {d : D} {v : Value}, Sure (fun b => (w.alloc (.cells #[.slice none 0 0, .slice none 0 0, .slice none 0 0] 51)).heap.size ≤ b) w3 d v → Sure (P9 w w3.heap.size) (w3.alloc (.cells #[.slice a1 u.recs.length c1, .slice a2 u.globs.length c2, .slice a3 u.procs.length c3] 51)) d v := fun h => (h.up (R := P9 w w3.heap.size) (fun b h1 h2 => ⟨by omega, by omega⟩)).keep hw1.size (fun b _ h2 => hw1.block b h2)
  have hr : Var w3 w.heap.size [.slice none 0 0, .slice none 0 0, .slice none 0 0] := (Var.new w #[.slice none 0 0, .slice none 0 0, .slice none 0 0] 51).grown (by omega) ho (fun e => by have := Option.some.inj e; omega)
  have hB3 : B ≤ w3.heap.size := by omega
  exact ⟨u, a1, a2, a3, c1, c2, c3, rfl, hlt, hr.later hw1, Var.new w3 _ _, cur_below hc hB3 hw1, (((only_alloc _).trans ho).trans (Only.of_below hw1)), ⟨hlt, by simp⟩, ⟨hu s1, hu s2, hu s3⟩, hb⟩
end Go.Proofs.YtbadepiakkhabaaDoor
/- Words on the drawing of a unit whose locals are asked for: lists of trees, nodes, procedures that stay. No conditions. -/
namespace Go.Proofs.YtbadepiakkhabaaDoor
open Go.RowKit
set_option linter.unusedVariables false

/-- A list of strings that stays. -/
def SSl (P : Nat → Prop) (W : World) (l : List ByteArray) (v : Value) : Prop := ∃ a c, v = .slice a l.length c ∧ Sure P W (strsD l) v
/-- A list of n trees that stays, of a size. -/
def SEx (P : Nat → Prop) (W : World) (n M : Nat) (v : Value) : Prop := ∃ (l : List Ex.T) (a : Option Addr) (c : Nat), v = .slice a n c ∧ Sure P W (.ex l) v ∧ l.length = n ∧ Ex.bulks l ≤ M
/-- A tree that stays. -/
def STr (P : Nat → Prop) (W : World) (M : Nat) (v : Value) : Prop := ∃ (t : Ex.T) (a : Option Addr) (c : Nat), v = .agg #[.int .i64 t.kind, .string t.text, .int .i64 t.num, .int .i64 t.line, .slice a t.kids.length c] ∧ Sure P W (.ex t.kids) (.slice a t.kids.length c) ∧ t.bulk ≤ M
/-- A procedure that stays. -/
def SPc (P : Nat → Prop) (W : World) (M : Nat) (v : Value) : Prop := ∃ (p : Pc) (a1 a2 a3 : Option Addr) (c1 c2 c3 : Nat), v = pcV p (.slice a1 p.params.length c1) (.slice a2 p.locals.length c2) (.slice a3 p.body.kids.length c3) ∧ Sure P W (strsD p.params) (.slice a1 p.params.length c1) ∧ Sure P W (strsD p.locals) (.slice a2 p.locals.length c2) ∧ Sure P W (.ex p.body.kids) (.slice a3 p.body.kids.length c3) ∧ p.bulk ≤ M
/-- A list of procedures that stays. -/
def SPs (P : Nat → Prop) (W : World) (M : Nat) (v : Value) : Prop := ∃ (l : List Pc) (a : Option Addr) (c : Nat), v = .slice a l.length c ∧ Sure P W (procsD l) v ∧ procsB l ≤ M
section
variable {P : Nat → Prop} {W W' : World} {cb : Nat} (ht : Turn cb none W W') (hc : ¬ P cb)
include ht hc
theorem SSl.turn {l : List ByteArray} {v : Value} (h : SSl P W l v) : SSl P W' l v := by
  obtain ⟨a, c, e, s⟩ := h
  exact ⟨a, c, e, s.turn ht hc (fun r e => by cases e)⟩
theorem SEx.turn {n M : Nat} {v : Value} (h : SEx P W n M v) : SEx P W' n M v := by
  obtain ⟨l, a, c, e, s, h1⟩ := h
  exact ⟨l, a, c, e, s.turn ht hc (fun r e => by cases e), h1⟩
theorem STr.turn {M : Nat} {v : Value} (h : STr P W M v) : STr P W' M v := by
  obtain ⟨l, a, c, e, s, h1⟩ := h
  exact ⟨l, a, c, e, s.turn ht hc (fun r e => by cases e), h1⟩
theorem SPc.turn {M : Nat} {v : Value} (h : SPc P W M v) : SPc P W' M v := by
  obtain ⟨p, a1, a2, a3, c1, c2, c3, e, s1, s2, s3, h1⟩ := h
  exact ⟨p, a1, a2, a3, c1, c2, c3, e, s1.turn ht hc (fun r e => by cases e), s2.turn ht hc (fun r e => by cases e), s3.turn ht hc (fun r e => by cases e), h1⟩
theorem SPs.turn {M : Nat} {v : Value} (h : SPs P W M v) : SPs P W' M v := by
  obtain ⟨l, a, c, e, s, h1⟩ := h
  exact ⟨l, a, c, e, s.turn ht hc (fun r e => by cases e), h1⟩
end
theorem ex_bulk1 (t : Ex.T) : Ex.bulks [t] = t.bulk := by rw [Ex.bulks, Ex.bulks]; omega
theorem ex_bulk2 (t y : Ex.T) : Ex.bulks [t, y] = t.bulk + y.bulk := by rw [Ex.bulks, Ex.bulks, Ex.bulks]; omega
/-- One string in a new block. -/
theorem SSl.one {P : Nat → Prop} {Z g : Nat} {w : World} {s : ByteArray} {T : TypeId} (h : NewB Z w g #[.string s] T) (hP : P g) : SSl P w [s] (.slice (some ⟨g, 0, none⟩) 1 1) :=
  ⟨_, _, rfl, h.sure hP (Nat.le_refl _) (fun j d hj => by
    match j with
    | 0 => obtain rfl := Option.some.inj hj; exact ⟨_, rfl, sure_str⟩
    | j + 1 => simp at hj)⟩
theorem SSl.two {P : Nat → Prop} {Z g : Nat} {w : World} {s t : ByteArray} {T : TypeId} (h : NewB Z w g #[.string s, .string t] T) (hP : P g) : SSl P w [s, t] (.slice (some ⟨g, 0, none⟩) 2 2) :=
  ⟨_, _, rfl, h.sure hP (Nat.le_refl _) (fun j d hj => by
    match j with
    | 0 => obtain rfl := Option.some.inj hj; exact ⟨_, rfl, sure_str⟩
    | 1 => obtain rfl := Option.some.inj hj; exact ⟨_, rfl, sure_str⟩
    | j + 2 => simp at hj)⟩
theorem SSl.nil {P : Nat → Prop} {w : World} : SSl P w [] (.slice none 0 0) := ⟨_, _, rfl, sure_nil⟩
/-- One tree in a new block. -/
theorem SEx.one {P : Nat → Prop} {Z g M : Nat} {w : World} {t : Ex.T} {u : Value} (h : NewB Z w g #[.int .i64 t.kind, .string t.text, .int .i64 t.num, .int .i64 t.line, u] 105) (hP : P g) (hu : Sure P w (.ex t.kids) u) (hM : t.bulk ≤ M) : SEx P w 1 M (.slice (some ⟨g, 0, none⟩) 1 1) :=
  ⟨[t], _, _, rfl, h.tree hP hu, rfl, by rw [ex_bulk1]; exact hM⟩
theorem SEx.two {P : Nat → Prop} {Z g M N : Nat} {w : World} {t y : Ex.T} {u z : Value} (h : NewB Z w g #[.int .i64 t.kind, .string t.text, .int .i64 t.num, .int .i64 t.line, u, .int .i64 y.kind, .string y.text, .int .i64 y.num, .int .i64 y.line, z] 105) (hP : P g) (hu : Sure P w (.ex t.kids) u) (hz : Sure P w (.ex y.kids) z) (hM : t.bulk ≤ M) (hN : y.bulk ≤ N) : SEx P w 2 (M + N) (.slice (some ⟨g, 0, none⟩) 2 2) :=
  ⟨[t, y], _, _, rfl, h.trees hP hu hz, rfl, by rw [ex_bulk2]; omega⟩
/-- A node that is built of its kids. -/
theorem STr.node {P : Nat → Prop} {w : World} {n M N : Nat} {v : Value} (k : Int) (h : SEx P w n M v) (hN : n + M ≤ N) : STr P w N (.agg #[.int .i64 k, .string ⟨#[]⟩, .int .i64 0, .int .i64 0, v]) := by
  obtain ⟨l, a, c, rfl, s, rfl, h2⟩ := h
  refine ⟨.node k ⟨#[]⟩ 0 0 l, a, c, rfl, s, ?_⟩
  rw [Ex.T.bulk]
  have e : (⟨#[]⟩ : ByteArray).size = 0 := rfl
  rw [e]
  omega
theorem STr.drawn {Z M B cb : Nat} {w w' : World} {e : Ending} {P : Nat → Prop} (h : DrawnT M B cb w e w') (hZ : Z ≤ w.heap.size) (hP : ∀ b, Z ≤ b → P b) : ∃ v, e = .returned v ∧ STr P w' M v ∧ IsCur B w' cb ∧ Only cb w w' := by
  obtain ⟨t, v, F, rfl, ho, hf, hb, hc, hon⟩ := h
  have hk := own_ex ho
  obtain ⟨a, c, rfl⟩ := kids_len (is_ex hk.is)
  exact ⟨_, rfl, ⟨t, a, c, rfl, .of_own hk (fun x hx => ⟨hP x (Nat.le_trans hZ (hf x hx).1), (hf x hx).2⟩), hb⟩, hc, hon⟩
/-- A procedure that is built. -/
theorem SPc.build {P : Nat → Prop} {w : World} {M N n : Nat} {nm : ByteArray} {l1 l2 : List ByteArray} {v1 v2 v3 : Value} (k : Int) (h1 : SSl P w l1 v1) (h2 : SSl P w l2 v2) (h3 : SEx P w n M v3) (hN : nm.size + (strsB l1 + (strsB l2 + (n + M))) ≤ N) : SPc P w N (.agg #[.string nm, v1, v2, .int .i64 k, .string ⟨#[]⟩, .int .i64 0, .int .i64 0, v3, .int .i64 0]) := by
  obtain ⟨a1, c1, rfl, s1⟩ := h1
  obtain ⟨a2, c2, rfl, s2⟩ := h2
  obtain ⟨l, a3, c3, rfl, s3, rfl, h5⟩ := h3
  refine ⟨⟨nm, l1, l2, .node k ⟨#[]⟩ 0 0 l, 0⟩, a1, a2, a3, c1, c2, c3, rfl, s1, s2, s3, ?_⟩
  unfold Pc.bulk
  show nm.size + (strsB l1 + (strsB l2 + (Ex.T.node k ⟨#[]⟩ 0 0 l).bulk)) ≤ N
  rw [Ex.T.bulk]
  have e : (⟨#[]⟩ : ByteArray).size = 0 := rfl
  rw [e]
  omega
set_option maxHeartbeats 3200000 in
/-- Two procedures in a new block. -/
theorem SPs.two {P : Nat → Prop} {Z g M N : Nat} {w : World} {v1 v2 : Value} {xs ys : Array Value} (hx : v1 = .agg xs) (hy : v2 = .agg ys) (h1 : SPc P w M v1) (h2 : SPc P w N v2) (h : NewB Z w g (xs ++ ys) 107) (hP : P g) : SPs P w (2 + (M + N)) (.slice (some ⟨g, 0, none⟩) 2 2) := by
  obtain ⟨p, a1, a2, a3, c1, c2, c3, e, s1, s2, s3, b1⟩ := h1
  obtain ⟨q, d1, d2, d3, e1, e2, e3, e', u1, u2, u3, b2⟩ := h2
  have f1 := hx.symm.trans e
  injection f1 with f1
  have f2 := hy.symm.trans e'
  injection f2 with f2
  subst f1 f2
  refine ⟨[p, q], _, _, rfl, h.sure hP (Nat.le_refl _) (fun j d hj => ?_), by unfold procsB; simp only [wsum, List.length_cons, List.length_nil]; omega⟩
  simp only [List.flatMap_cons, List.flatMap_nil, List.append_nil, Pc.ds, List.cons_append, List.nil_append] at hj
  simp only [List.append_toArray, List.cons_append, List.nil_append]
  match j with
  | 0 => obtain rfl := Option.some.inj hj; exact ⟨_, rfl, sure_str⟩
  | 1 => obtain rfl := Option.some.inj hj; exact ⟨_, rfl, s1⟩
  | 2 => obtain rfl := Option.some.inj hj; exact ⟨_, rfl, s2⟩
  | 3 => obtain rfl := Option.some.inj hj; exact ⟨_, rfl, sure_int⟩
  | 4 => obtain rfl := Option.some.inj hj; exact ⟨_, rfl, sure_str⟩
  | 5 => obtain rfl := Option.some.inj hj; exact ⟨_, rfl, sure_int⟩
  | 6 => obtain rfl := Option.some.inj hj; exact ⟨_, rfl, sure_int⟩
  | 7 => obtain rfl := Option.some.inj hj; exact ⟨_, rfl, s3⟩
  | 8 => obtain rfl := Option.some.inj hj; exact ⟨_, rfl, sure_int⟩
  | 9 => obtain rfl := Option.some.inj hj; exact ⟨_, rfl, sure_str⟩
  | 10 => obtain rfl := Option.some.inj hj; exact ⟨_, rfl, u1⟩
  | 11 => obtain rfl := Option.some.inj hj; exact ⟨_, rfl, u2⟩
  | 12 => obtain rfl := Option.some.inj hj; exact ⟨_, rfl, sure_int⟩
  | 13 => obtain rfl := Option.some.inj hj; exact ⟨_, rfl, sure_str⟩
  | 14 => obtain rfl := Option.some.inj hj; exact ⟨_, rfl, sure_int⟩
  | 15 => obtain rfl := Option.some.inj hj; exact ⟨_, rfl, sure_int⟩
  | 16 => obtain rfl := Option.some.inj hj; exact ⟨_, rfl, u3⟩
  | 17 => obtain rfl := Option.some.inj hj; exact ⟨_, rfl, sure_int⟩
  | j + 18 => simp at hj
/-- The state between the unit's draw and its procedures'. -/
def V9 (B cb : Nat) (w : World) (E : Nat) (rs : List Rc) (gs : List ByteArray) (v1 v2 v3 : Value) (wr : World) : Prop :=
  Var wr w.heap.size [.slice none 0 0, .slice none 0 0, .slice none 0 0] ∧ Var wr E [v1, v2, v3] ∧ IsCur B wr cb ∧ Only cb w wr ∧ (w.heap.size < E ∧ E < wr.heap.size) ∧ Sure (P9 w E) wr (recsD rs) v1 ∧ Sure (P9 w E) wr (strsD gs) v2
theorem V9.turn {B cb E : Nat} {w wr w1 : World} {rs : List Rc} {gs : List ByteArray} {v1 v2 v3 : Value} (h : V9 B cb w E rs gs v1 v2 v3 wr) (hcl : cb < w.heap.size) (hc : IsCur B w1 cb) (ht : Turn cb none wr w1) : V9 B cb w E rs gs v1 v2 v3 w1 := by
  obtain ⟨h1, h2, h3, h4, h5, h6, h7⟩ := h
  have hn : ¬ P9 w E cb := fun e => by have := e.1; omega
  have hr : ∀ r, (none : Option Nat) = some r → ¬ P9 w E r := fun r e => by cases e
  exact ⟨h1.keep (ht.2 _ (Var.lt h1) (by omega) (by simp)), h2.keep (ht.2 _ h5.2 (by omega) (by simp)), hc, h4.turn ht (fun r e => by cases e), ⟨h5.1, Nat.lt_of_lt_of_le h5.2 ht.1.2.2.2⟩, h6.turn ht hn hr, h7.turn ht hn hr⟩
/-- .. and all of it. -/
theorem V9.full {B cb E : Nat} {w wr : World} {rs : List Rc} {gs : List ByteArray} {ps : List Pc} {a1 a2 a3 : Option Addr} {c1 c2 c3 : Nat} (h : V9 B cb w E rs gs (.slice a1 rs.length c1) (.slice a2 gs.length c2) (.slice a3 ps.length c3) wr) (hp : Sure (P9 w E) wr (procsD ps) (.slice a3 ps.length c3)) (hb : recsB rs + (strsB gs + procsB ps) ≤ 300000) : U9 B cb w E ⟨rs, gs, ps⟩ a1 a2 a3 c1 c2 c3 wr :=
  ⟨h.1, h.2.1, h.2.2.1, h.2.2.2.1, h.2.2.2.2.1, ⟨h.2.2.2.2.2.1, h.2.2.2.2.2.2, hp⟩, hb⟩
theorem V9.set2 {B cb E : Nat} {w wr : World} {rs : List Rc} {gs : List ByteArray} {v1 v2 v3 : Value} (h : V9 B cb w E rs gs v1 v2 v3 wr) (hcl : cb < w.heap.size) (hB : B ≤ w.heap.size) (v : Value) : V9 B cb w E rs gs v1 v2 v (wr.setCell ⟨E, 2, none⟩ v) := by
  obtain ⟨h1, h2, h3, h4, h5, h6, h7⟩ := h
  have hnE : ¬ P9 w E E := fun e => e.2 rfl
  exact ⟨h1.oth E 2 (by omega) _, h2.set 2 _, cur_far h3 (Nat.le_trans hB (Nat.le_of_lt h5.1)) (by omega) 2 _, h4.far (by omega) 2 _, ⟨h5.1, by rw [set_size]; exact h5.2⟩, h6.set hnE 2 _, h7.set hnE 2 _⟩
theorem V9.make {B cb E : Nat} {w w5 : World} {u : Un} {a1 a2 a3 : Option Addr} {c1 c2 c3 : Nat} (h : U9 B cb w E u a1 a2 a3 c1 c2 c3 w5) (hcl : cb < w.heap.size) (hB : B ≤ w.heap.size) :
    V9 B cb w E [⟨⟨#[112, 111, 105, 110, 116]⟩, [⟨#[110, 97, 109, 101]⟩, ⟨#[98]⟩], 0⟩] [⟨#[103]⟩] (.slice (some ⟨w5.heap.size + 1, 0, none⟩) 1 1) (.slice (some ⟨w5.heap.size + 1 + 1, 0, none⟩) 1 1) (.slice a3 u.procs.length c3)
      (((((w5.setCell ⟨E, 0, none⟩ (.slice (some ⟨w5.heap.size + 1, 0, none⟩) 1 1)).alloc (.cells #[.string ⟨#[110, 97, 109, 101]⟩, .string ⟨#[98]⟩] 9)).alloc (.cells #[.string ⟨#[112, 111, 105, 110, 116]⟩, .slice (some ⟨w5.heap.size, 0, none⟩) 2 2, .int .i64 0] 72)).alloc (.cells #[.string ⟨#[103]⟩] 9)).setCell ⟨E, 1, none⟩ (.slice (some ⟨w5.heap.size + 1 + 1, 0, none⟩) 1 1)) := by
  obtain ⟨h1, h2, h3, h4, h5, _, _⟩ := h
  obtain ⟨Y, hY⟩ : ∃ X, w5.setCell ⟨E, 0, none⟩ (.slice (some ⟨w5.heap.size + 1, 0, none⟩) 1 1) = X := ⟨_, rfl⟩
  have zY : Y.heap.size = w5.heap.size := by rw [← hY, set_size]
  have vY : Var Y E [.slice (some ⟨w5.heap.size + 1, 0, none⟩) 1 1, .slice a2 u.globs.length c2, .slice a3 u.procs.length c3] := by rw [← hY]; exact h2.set 0 _
  have rY : Var Y w.heap.size [.slice none 0 0, .slice none 0 0, .slice none 0 0] := by rw [← hY]; exact h1.oth E 0 (by omega) _
  have cY : IsCur B Y cb := by rw [← hY]; exact cur_far h3 (Nat.le_trans hB (Nat.le_of_lt h5.1)) (by omega) 0 _
  have oY : Only cb w Y := by rw [← hY]; exact h4.far (by omega) 0 _
  rw [hY]
  clear hY h1 h2 h3 h4
  obtain ⟨X1, hX1⟩ : ∃ X, Y.alloc (.cells #[.string ⟨#[110, 97, 109, 101]⟩, .string ⟨#[98]⟩] 9) = X := ⟨_, rfl⟩
  have n1 : Below Y.heap.size Y X1 := by rw [← hX1]; exact bl1 _ _
  have z1 : X1.heap.size = w5.heap.size + 1 := by rw [← hX1, World.size_alloc, zY]
  have q1 : NewB w5.heap.size X1 w5.heap.size #[.string ⟨#[110, 97, 109, 101]⟩, .string ⟨#[98]⟩] 9 := by rw [← hX1, ← zY]; exact NewB.made _ _ _ (Nat.le_refl _)
  rw [hX1]
  clear hX1
  obtain ⟨X2, hX2⟩ : ∃ X, X1.alloc (.cells #[.string ⟨#[112, 111, 105, 110, 116]⟩, .slice (some ⟨w5.heap.size, 0, none⟩) 2 2, .int .i64 0] 72) = X := ⟨_, rfl⟩
  have n2 : Below X1.heap.size X1 X2 := by rw [← hX2]; exact bl1 _ _
  have z2 : X2.heap.size = w5.heap.size + 1 + 1 := by rw [← hX2, World.size_alloc, z1]
  have q2 : NewB w5.heap.size X2 (w5.heap.size + 1) #[.string ⟨#[112, 111, 105, 110, 116]⟩, .slice (some ⟨w5.heap.size, 0, none⟩) 2 2, .int .i64 0] 72 := by rw [← hX2, ← z1]; exact NewB.made _ _ _ (by omega)
  rw [hX2]
  clear hX2
  obtain ⟨X3, hX3⟩ : ∃ X, X2.alloc (.cells #[.string ⟨#[103]⟩] 9) = X := ⟨_, rfl⟩
  have n3 : Below X2.heap.size X2 X3 := by rw [← hX3]; exact bl1 _ _
  have z3 : X3.heap.size = w5.heap.size + 1 + 1 + 1 := by rw [← hX3, World.size_alloc, z2]
  have q3 : NewB w5.heap.size X3 (w5.heap.size + 1 + 1) #[.string ⟨#[103]⟩] 9 := by rw [← hX3, ← z2]; exact NewB.made _ _ _ (by omega)
  rw [hX3]
  clear hX3
  have hP : ∀ b, w5.heap.size ≤ b → P9 w E b := fun b hb => ⟨by omega, by omega⟩
  have hn : ¬ P9 w E cb := fun e => by have := e.1; omega
  have hr : ∀ r, (none : Option Nat) = some r → ¬ P9 w E r := fun r e => by cases e
  have s1 : Sure (P9 w E) X2 (strsD [⟨#[110, 97, 109, 101]⟩, ⟨#[98]⟩]) (.slice (some ⟨w5.heap.size, 0, none⟩) 2 2) := by
    have s := (SSl.two q1 (hP _ (Nat.le_refl _))).choose_spec.choose_spec.2
    exact s.turn (cb := cb) (Turn.of_below n2) hn hr
  have s2 : Sure (P9 w E) X2 (recsD [⟨⟨#[112, 111, 105, 110, 116]⟩, [⟨#[110, 97, 109, 101]⟩, ⟨#[98]⟩], 0⟩]) (.slice (some ⟨w5.heap.size + 1, 0, none⟩) 1 1) := q2.sure (hP _ (by omega)) (Nat.le_refl _) (fun j d hj => by
    match j with
    | 0 => obtain rfl := Option.some.inj hj; exact ⟨_, rfl, sure_str⟩
    | 1 => obtain rfl := Option.some.inj hj; exact ⟨_, rfl, s1⟩
    | 2 => obtain rfl := Option.some.inj hj; exact ⟨_, rfl, sure_int⟩
    | j + 3 => simp [Rc.ds] at hj)
  have s3 := (SSl.one q3 (hP _ (by omega))).choose_spec.choose_spec.2
  have hB5 : B ≤ w5.heap.size := by omega
  have bb : Below Y.heap.size Y X3 := below_then (below_then n1 n2) n3
  have hnE : ¬ P9 w E E := fun e => e.2 rfl
  exact ⟨(rY.later bb).oth E 1 (by omega) _, (vY.later bb).set 1 _, cur_far (cur_below cY (by omega) bb) (Nat.le_trans hB (Nat.le_of_lt h5.1)) (by omega) 1 _, (oY.trans (Only.of_below bb)).far (by omega) 1 _, ⟨h5.1, by rw [set_size]; omega⟩, (s2.turn (cb := cb) (Turn.of_below n3) hn hr).set hnE 1 _, s3.set hnE 1 _⟩
end Go.Proofs.YtbadepiakkhabaaDoor
