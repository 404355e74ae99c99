/- Joined texts: V63, V65. No conditions besides those that each states. -/
import Derived.Test.YtbadepiakkhabaaDoorZ10
import Derived.Test.YtbadepiakkhabaaDoorZ11
import Derived.Test.YtbadepiakkhabaaDoorZ12
/- The reference model's drawing of a unit: more words. No conditions. -/
namespace Go.Proofs.YtbadepiakkhabaaDoor
open Go.RowKit
set_option linter.unusedVariables false

/-- The variables of the drawing: the result's, the unit's, the cursor's. -/
def U7 (B cb : Nat) (w : World) (vr vg vp : Value) (wr : World) : Prop := Var wr w.heap.size [.slice none 0 0, .slice none 0 0, .slice none 0 0] ∧ Var wr (w.heap.size + 1) [vr, vg, vp] ∧ IsCur B wr cb ∧ Only cb w wr
theorem U7.only {B cb : Nat} {w wr wx : World} {vr vg vp : Value} (h : U7 B cb w vr vg vp wr) (hcl : cb < w.heap.size) (hc : IsCur B wx cb) (ho : Only cb wr wx) : U7 B cb w vr vg vp wx :=
  ⟨h.1.grown (Var.lt h.1) ho (fun e => by have := Option.some.inj e; omega), h.2.1.grown (Var.lt h.2.1) ho (fun e => by have := Option.some.inj e; omega), hc, h.2.2.2.trans ho⟩
theorem Only.turn {cb : Nat} {rb : Option Nat} {w wr w1 : World} (h : Only cb w wr) (ht : Turn cb rb wr w1) (hr : ∀ r, rb = some r → w.heap.size ≤ r) : Only cb w w1 :=
  ⟨ht.1.1.trans h.os, ht.1.2.1.trans h.tape, ht.1.2.2.1.trans h.output, Nat.le_trans h.size ht.1.2.2.2, fun b hb h1 => (ht.2 b (Nat.lt_of_lt_of_le hb h.size) (fun e => h1 (by rw [e])) (fun e => by have := hr b e; omega)).trans (h.block b hb h1)⟩
theorem Only.far {cb E : Nat} {w w1 : World} (h : Only cb w w1) (hE : w.heap.size ≤ E) (j : Nat) (u : Value) : Only cb w (w1.setCell ⟨E, j, none⟩ u) :=
  ⟨h.os, h.tape, h.output, by rw [set_size]; exact h.size, fun b hb h1 => (set_keep (by omega)).trans (h.block b hb h1)⟩
theorem cur_far {B cb E : Nat} {w : World} (h : IsCur B w cb) (hB : B ≤ E) (hne : cb ≠ E) (j : Nat) (u : Value) : IsCur B (w.setCell ⟨E, j, none⟩ u) cb := by
  obtain ⟨v, m, i, x, c1, c2, c3⟩ := h
  refine ⟨v, m, i, x, c1, code_below c2 ((Below.refl _ w).setCell (p := ⟨E, j, none⟩) (by show B ≤ E; omega) u), ?_⟩
  rw [set_keep hne]; exact c3
/-- .. behind a statement that appends to a row, ahead of its store. -/
theorem U7.turn {B cb : Nat} {rb : Option Nat} {w wr w1 : World} {vr vg vp : Value} (h : U7 B cb w vr vg vp wr) (hcl : cb < w.heap.size) (hc : IsCur B w1 cb) (ht : Turn cb rb wr w1) (hr : ∀ r, rb = some r → w.heap.size + 2 ≤ r) : U7 B cb w vr vg vp w1 :=
  ⟨h.1.keep (ht.2 _ (Var.lt h.1) (by omega) (fun e => by have := hr _ e; omega)), h.2.1.keep (ht.2 _ (Var.lt h.2.1) (by omega) (fun e => by have := hr _ e; omega)), hc, h.2.2.2.turn ht (fun r e => by have := hr r e; omega)⟩
theorem U7.set {B cb : Nat} {w wr : World} {vr vg vp : Value} (h : U7 B cb w vr vg vp wr) (hcl : cb < w.heap.size) (hB : B ≤ w.heap.size) (j : Nat) (u c0 c1 c2 : Value) (he : ([vr, vg, vp] : List Value).set j u = [c0, c1, c2]) : U7 B cb w c0 c1 c2 (wr.setCell ⟨w.heap.size + 1, j, none⟩ u) := by
  have h2 := h.2.1.set j u
  rw [he] at h2
  exact ⟨h.1.oth _ j (by omega) u, h2, cur_far h.2.2.1 (by omega) (by omega) j u, h.2.2.2.far (by omega) j u⟩
theorem U7.later {B cb : Nat} {w wr wx : World} {vr vg vp : Value} (h : U7 B cb w vr vg vp wr) (hcl : cb < w.heap.size) (hB : B ≤ w.heap.size) (hb : Below wr.heap.size wr wx) : U7 B cb w vr vg vp wx :=
  h.only hcl (cur_below h.2.2.1 (Nat.le_trans hB h.2.2.2.size) hb) (Only.of_below hb)
/-- append(row, element) as an operation of a list. -/
theorem wpList_push {B : Nat} {w : World} {v : Value} {n z by' : Nat} {S T : TypeId} {i0 : TypeInfo} {zv : Value} (hS : Tryd.prog.underlying S = some (.slice T)) (hi : Tryd.prog.info? T = some i0) (hz0 : i0.zero = some zv) (hz1 : i0.size = z) (hz2 : i0.bytes = by') (hzc : zv.cells.size = z) (hzp : 0 < z) (hby : by' ≤ 256) {l : List D} {Fs : List (List Nat)} {ops : Array Oper} {rest : List Oper} {o : Oper} {a : Act} {Q : Exit → Act → World → Prop} (hgd : o.guard = none) (s x : Operand)
    (ho : o.op = .call { callee := .builtin .append, args := #[s, x], argTypes := #[S, S] }) (hs : a.eval s = v) (h : AppD B w T z v n l Fs) (ad : Addr) (c : Nat) (hx : a.eval x = .slice (some ad) 1 c) (es : List (D × Value × List Nat)) (hl : es.length = z) (hnews : ∀ j u, (es.map fun e => e.2.1)[j]? = some u → w.cell? (ad.add j) = some u) (hr : ∀ e ∈ es, e.1.real) (he : ∀ e ∈ es, Own w e.1 e.2.1 e.2.2 ∧ ∀ b ∈ e.2.2, B ≤ b ∧ b < w.heap.size ∧ b ∉ Fs.flatten ∧ v.ownBlock ≠ some b) (hp : es.Pairwise (fun x y => Apart x.2.2 y.2.2)) (hn : n ≤ 1048577) (hB : B ≤ w.heap.size)
    (hK : ∀ w' g c', AppD B w' T z (.slice (some ⟨g, 0, none⟩) (n + 1) c') (n + 1) (l ++ es.map fun e => e.1) (Fs ++ es.map fun e => e.2.2) → w.grownBy w' v.ownBlock → wpList Tryd.prog ops Q rest (a.put o.dst (.slice (some ⟨g, 0, none⟩) (n + 1) c')) w') : wpList Tryd.prog ops Q (o :: rest) a w := by
  refine wpList_plain hgd fun K hK' => ?_
  obtain ⟨xs, hown, _⟩ := h.1
  obtain ⟨v', w', hr', h2, h3, g, c', rfl, h4, h5⟩ := append_row hS hi hz0 hz1 hz2 hzc hzp hby o.type hown ad c (es.map fun e => e.2.1) (by rw [List.length_map, hl]) hnews (fun u hu => by obtain ⟨e, hem, rfl⟩ := List.mem_map.1 hu; exact is_one (he e hem).1.is (hr e hem)) hn hB
  unfold Oper.wp execOp
  simp only [ho, resolve, invoke, builtin, Sem.run_bind, Sem.run_pure, Result.andThen_ok, List.map_toArray, List.map_cons, List.map_nil, hs, hx, hr']
  exact hK' _ _ (hK w' g c' (h.push hown he hp h2 h3 rfl h5) h3)
/-- The parts of a drawn record. -/
theorem drawn_rec {Z B b c n : Nat} {w : World} {s x0 y0 : ByteArray} {x : Int} {T U : TypeId} {Fs : List (List Nat)} {v : Value} (hs : s.size ≤ 5) (hn : n ≤ 2) (hx0 : x0.size ≤ 1) (hy0 : y0.size ≤ 1) (hb : NewB Z w b #[.string x0, .string y0] T) (hc : NewB Z w c #[.string s, .slice (some ⟨b, 0, none⟩) n 2, .int .i64 x] U) (hZ : B ≤ Z) (hF : ∀ b ∈ Fs.flatten, b < Z) (hv : ∀ b, v.ownBlock = some b → b < Z) :
    ∃ (r : Rc) (F : List Nat), r.bulk ≤ 40 ∧ r.ds = [D.str s, strsD r.fields, .int x] ∧
      (∀ e ∈ ([(.str s, .string s, []), (strsD r.fields, .slice (some ⟨b, 0, none⟩) n 2, F), (.int x, .int .i64 x, [])] : List (D × Value × List Nat)), Own w e.1 e.2.1 e.2.2 ∧ ∀ b ∈ e.2.2, B ≤ b ∧ b < w.heap.size ∧ b ∉ Fs.flatten ∧ v.ownBlock ≠ some b) ∧
      ([(.str s, .string s, []), (strsD r.fields, .slice (some ⟨b, 0, none⟩) n 2, F), (.int x, .int .i64 x, [])] : List (D × Value × List Nat)).Pairwise (fun x y => Apart x.2.2 y.2.2) ∧
      (∀ j u, (([(.str s, .string s, []), (strsD r.fields, .slice (some ⟨b, 0, none⟩) n 2, F), (.int x, .int .i64 x, [])] : List (D × Value × List Nat)).map fun e => e.2.1)[j]? = some u → w.cell? ((⟨c, 0, none⟩ : Addr).add j) = some u) := by
  obtain ⟨l, F, h1, h2, h3, h4⟩ := hb.strs hn
  refine ⟨⟨s, l, x⟩, F, ?_, rfl, fun e he => ?_, ?_, fun j u hj => ?_⟩
  · show s.size + strsB l ≤ 40
    omega
  · simp only [List.mem_cons, List.not_mem_nil, or_false] at he
    rcases he with rfl | rfl | rfl
    · exact ⟨own_str', fun b hb => by cases hb⟩
    · refine ⟨h3, fun y hy => ?_⟩
      obtain rfl := h4 y hy
      have hz := hb.1
      exact ⟨by omega, hb.lt, fun h => by have := hF _ h; omega, fun h => by have := hv _ h; omega⟩
    · exact ⟨own_int', fun b hb => by cases hb⟩
  · simp [apart_nil, nil_apart]
  · rw [add_lit, Nat.zero_add]
    exact (hc.var j u (by simpa using hj)).1
end Go.Proofs.YtbadepiakkhabaaDoor
/- The reference model's drawing of a unit: words for its procedures. No conditions. -/
namespace Go.Proofs.YtbadepiakkhabaaDoor
open Go.RowKit
set_option linter.unusedVariables false

/-- The values of the statement that draws a procedure's head. -/
def F13 (Z cb : Nat) (L : Nat → Bool) (j : Nat) (v : Value) (w : World) : Prop := match j with
  | 0 => v = .pointer (some ⟨cb, 0, none⟩)
  | 1 => ∃ b, v = .slice (some ⟨b, 0, none⟩) 2 2 ∧ NewB Z w b #[.string ⟨#[109, 97, 105, 110]⟩, .string ⟨#[102]⟩] 9
  | 2 => ∃ s : ByteArray, v = .string s ∧ s.size ≤ 4
  | 3 => ∃ b, v = .slice (some ⟨b, 0, none⟩) 2 2 ∧ NewB Z w b #[.string ⟨#[112]⟩, .string ⟨#[113]⟩] 9
  | 4 => v = .pointer (some ⟨cb, 0, none⟩)
  | 5 => ∃ x : Int, v = .int .i64 x ∧ 0 ≤ x ∧ x < 3
  | 6 => ∃ b n, n ≤ 2 ∧ v = .slice (some ⟨b, 0, none⟩) n 2 ∧ NewB Z w b #[.string ⟨#[112]⟩, .string ⟨#[113]⟩] 9
  | 7 => ∃ b, v = .slice (some ⟨b, 0, none⟩) 2 2 ∧ NewB Z w b #[.string ⟨#[120]⟩, .string ⟨#[121]⟩] 9
  | 8 => v = .pointer (some ⟨cb, 0, none⟩)
  | 9 => ∃ x : Int, v = .int .i64 x ∧ 0 ≤ x ∧ x < 3
  | 10 => ∃ b n, n ≤ 2 ∧ v = .slice (some ⟨b, 0, none⟩) n 2 ∧ NewB Z w b #[.string ⟨#[120]⟩, .string ⟨#[121]⟩] 9
  | 11 => v = .agg #[.int .i64 14, .string ⟨#[]⟩, .int .i64 0, .int .i64 0, .slice none 0 0]
  | 12 => ∃ (s : ByteArray) (b n c m : Nat), s.size ≤ 4 ∧ n ≤ 2 ∧ m ≤ 2 ∧ v = .agg #[.string s, .slice (some ⟨b, 0, none⟩) n 2, .slice (some ⟨c, 0, none⟩) m 2, .int .i64 14, .string ⟨#[]⟩, .int .i64 0, .int .i64 0, .slice none 0 0, .int .i64 0] ∧ NewB Z w b #[.string ⟨#[112]⟩, .string ⟨#[113]⟩] 9 ∧ NewB Z w c #[.string ⟨#[120]⟩, .string ⟨#[121]⟩] 9
  | 13 => ∃ p, v = .pointer (some ⟨p, 0, none⟩) ∧ NewB Z w p #[.string ⟨#[]⟩, .slice none 0 0, .slice none 0 0, .int .i64 0, .string ⟨#[]⟩, .int .i64 0, .int .i64 0, .slice none 0 0, .int .i64 0] 107
  | _ => True
theorem F13_keep {Z cb : Nat} (hcZ : cb < Z) (L : Nat → Bool) (j i : Nat) (v : Value) (w1 w2 : World) (hT : Turn cb none w1 w2) (h : F13 Z cb L j v w1) : F13 Z cb (upL L i) j v w2 := by
  have hrb : ∀ r, (none : Option Nat) = some r → r < Z := fun r e => by cases e
  match j with
  | 0 => exact h
  | 1 => obtain ⟨b, h1, h2⟩ := h; exact ⟨b, h1, h2.keep hT hcZ hrb⟩
  | 2 => exact h
  | 3 => obtain ⟨b, h1, h2⟩ := h; exact ⟨b, h1, h2.keep hT hcZ hrb⟩
  | 4 => exact h
  | 5 => exact h
  | 6 => obtain ⟨b, n, h1, h2, h3⟩ := h; exact ⟨b, n, h1, h2, h3.keep hT hcZ hrb⟩
  | 7 => obtain ⟨b, h1, h2⟩ := h; exact ⟨b, h1, h2.keep hT hcZ hrb⟩
  | 8 => exact h
  | 9 => exact h
  | 10 => obtain ⟨b, n, h1, h2, h3⟩ := h; exact ⟨b, n, h1, h2, h3.keep hT hcZ hrb⟩
  | 11 => exact h
  | 12 => obtain ⟨s, b, n, c, m, h1, h2, h3, h4, h5, h6⟩ := h; exact ⟨s, b, n, c, m, h1, h2, h3, h4, h5.keep hT hcZ hrb, h6.keep hT hcZ hrb⟩
  | 13 => obtain ⟨p, h1, h2⟩ := h; exact ⟨p, h1, h2.keep hT hcZ hrb⟩
  | n + 14 => exact trivial
/-- What lies all the while: the cursor. -/
def I13 (B cb : Nat) (w0 : World) (L : Nat → Bool) (w : World) : Prop := IsCur B w cb ∧ Turn cb none w0 w
theorem I13.same {B cb i : Nat} {w0 w : World} {L : Nat → Bool} (h : I13 B cb w0 L w) : I13 B cb w0 (upL L i) w := h
theorem I13.step {B cb i : Nat} {w0 w w' : World} {L : Nat → Bool} (h : I13 B cb w0 L w) (hc : IsCur B w' cb) (ht : Turn cb none w w') : I13 B cb w0 (upL L i) w' := ⟨hc, h.2.trans ht⟩
theorem AppD.keepF {B : Nat} {w w1 : World} {T : TypeId} {z n : Nat} {v : Value} {l : List D} {Fs : List (List Nat)} (h : AppD B w T z v n l Fs) (hs : w.heap.size ≤ w1.heap.size) (hb : ∀ b, v.ownBlock = some b ∨ b ∈ Fs.flatten → w1.heap[b]? = w.heap[b]?) : AppD B w1 T z v n l Fs := by
  obtain ⟨⟨xs, h1, h2, h3⟩, h4, h5, h6⟩ := h
  refine ⟨⟨xs, row_keep h1 fun b e => hb b (.inl e), h2, fun j d hj => ?_⟩, h4, fun b hF => ⟨(h5 b hF).1, Nat.lt_of_lt_of_le (h5 b hF).2 hs⟩, h6⟩
  obtain ⟨u, G, e, hu, ho⟩ := h3 j d hj
  exact ⟨u, G, e, hu, Own.keep d u G (fun b hbG => hb b (.inr (mem_at e hbG))) ho⟩
/-- .. with records and globals that lie still. -/
def G7 (B cb : Nat) (w : World) (rs : List Rc) (gs : List ByteArray) (vr vg vp : Value) (B3 : Nat) (wr : World) : Prop := U7 B cb w vr vg vp wr ∧ (∃ Fr Fg, Own wr (recsD rs) vr Fr ∧ Own wr (strsD gs) vg Fg ∧ ∀ b ∈ Fr ++ Fg, w.heap.size + 2 ≤ b ∧ b < B3) ∧ w.heap.size + 2 ≤ B3 ∧ B3 ≤ wr.heap.size
theorem G7.turn {B cb B3 : Nat} {rb : Option Nat} {w wr w1 : World} {rs : List Rc} {gs : List ByteArray} {vr vg vp : Value} (h : G7 B cb w rs gs vr vg vp B3 wr) (hcl : cb < w.heap.size) (hc : IsCur B w1 cb) (ht : Turn cb rb wr w1) (hr : ∀ r, rb = some r → B3 ≤ r) : G7 B cb w rs gs vr vg vp B3 w1 := by
  obtain ⟨h1, ⟨Fr, Fg, h2, h3, h4⟩, h5, h6⟩ := h
  have hk : ∀ b ∈ Fr ++ Fg, w1.heap[b]? = wr.heap[b]? := fun b hb => ht.2 b (by have := h4 b hb; omega) (by have := h4 b hb; omega) (fun e => by have := hr b e; have := h4 b hb; omega)
  exact ⟨h1.turn hcl hc ht (fun r e => Nat.le_trans h5 (hr r e)), ⟨Fr, Fg, Own.keep _ _ _ (fun b hb => hk b (List.mem_append_left _ hb)) h2, Own.keep _ _ _ (fun b hb => hk b (List.mem_append_right _ hb)) h3, h4⟩, h5, Nat.le_trans h6 ht.1.2.2.2⟩
theorem G7.set {B cb B3 : Nat} {w wr : World} {rs : List Rc} {gs : List ByteArray} {vr vg vp : Value} (h : G7 B cb w rs gs vr vg vp B3 wr) (hcl : cb < w.heap.size) (hB : B ≤ w.heap.size) (u : Value) : G7 B cb w rs gs vr vg u B3 (wr.setCell ⟨w.heap.size + 1, 2, none⟩ u) := by
  obtain ⟨h1, ⟨Fr, Fg, h2, h3, h4⟩, h5, h6⟩ := h
  have hk : ∀ b ∈ Fr ++ Fg, (wr.setCell ⟨w.heap.size + 1, 2, none⟩ u).heap[b]? = wr.heap[b]? := fun b hb => set_keep (by have := h4 b hb; omega)
  exact ⟨h1.set hcl hB 2 u vr vg u rfl, ⟨Fr, Fg, Own.keep _ _ _ (fun b hb => hk b (List.mem_append_left _ hb)) h2, Own.keep _ _ _ (fun b hb => hk b (List.mem_append_right _ hb)) h3, h4⟩, h5, by rw [set_size]; exact h6⟩
theorem G7.later {B cb B3 : Nat} {w wr wx : World} {rs : List Rc} {gs : List ByteArray} {vr vg vp : Value} (h : G7 B cb w rs gs vr vg vp B3 wr) (hcl : cb < w.heap.size) (hB : B ≤ w.heap.size) (hb : Below wr.heap.size wr wx) : G7 B cb w rs gs vr vg vp B3 wx :=
  h.turn (rb := none) hcl (cur_below h.1.2.2.1 (Nat.le_trans hB h.1.2.2.2.size) hb) (Turn.of_below hb) (fun r e => by cases e)
theorem G7.only {B cb B3 : Nat} {w wr wx : World} {rs : List Rc} {gs : List ByteArray} {vr vg vp : Value} (h : G7 B cb w rs gs vr vg vp B3 wr) (hcl : cb < w.heap.size) (hc : IsCur B wx cb) (ho : Only cb wr wx) : G7 B cb w rs gs vr vg vp B3 wx :=
  h.turn (rb := none) hcl hc (Turn.of_only ho) (fun r e => by cases e)
theorem G7.glob {B cb B3 : Nat} {w wr : World} {rs : List Rc} {gs0 gs : List ByteArray} {vr vg vp u : Value} {Fg : List Nat} (h : G7 B cb w rs gs0 vr vg vp B3 wr) (hcl : cb < w.heap.size) (hB : B ≤ w.heap.size) (ho : Own wr (strsD gs) u Fg) (hF : ∀ b ∈ Fg, w.heap.size + 2 ≤ b ∧ b < wr.heap.size) : G7 B cb w rs gs vr u vp wr.heap.size (wr.setCell ⟨w.heap.size + 1, 1, none⟩ u) := by
  obtain ⟨h1, ⟨Fr, Fg0, h2, h3, h4⟩, h5, h6⟩ := h
  have hk : ∀ b, w.heap.size + 2 ≤ b → (wr.setCell ⟨w.heap.size + 1, 1, none⟩ u).heap[b]? = wr.heap[b]? := fun b hb => set_keep (by omega)
  refine ⟨h1.set hcl hB 1 u vr u vp rfl, ⟨Fr, Fg, Own.keep _ _ _ (fun b hb => hk b (h4 b (List.mem_append_left _ hb)).1) h2, Own.keep _ _ _ (fun b hb => hk b (hF b hb).1) ho, fun b hb => ?_⟩, Nat.le_trans h5 h6, by rw [set_size]; exact Nat.le_refl _⟩
  rcases List.mem_append.1 hb with hb | hb
  · have := h4 b (List.mem_append_left _ hb); omega
  · exact hF b hb
/-- A procedure that is being drawn. -/
def PS (B cb : Nat) (w : World) (rs : List Rc) (gs : List ByteArray) (vr vg vp : Value) (B3 k : Nat) (l : List D) (Fs : List (List Nat)) (p b n c m : Nat) (s : ByteArray) (vk : Value) (B4 B5 : Nat) (wr : World) : Prop :=
  G7 B cb w rs gs vr vg vp B3 wr ∧ AppD B3 wr 107 9 vp k l Fs ∧ Var wr p [.string s, .slice (some ⟨b, 0, none⟩) n 2, .slice (some ⟨c, 0, none⟩) m 2, .int .i64 14, .string ⟨#[]⟩, .int .i64 0, .int .i64 0, vk, .int .i64 0] ∧ NewB B4 wr b #[.string ⟨#[112]⟩, .string ⟨#[113]⟩] 9 ∧ NewB B4 wr c #[.string ⟨#[120]⟩, .string ⟨#[121]⟩] 9 ∧ (B3 ≤ B4 ∧ B4 ≤ p ∧ p < B5 ∧ b < B5 ∧ c < B5 ∧ B5 ≤ wr.heap.size) ∧ (∀ r, vp.ownBlock = some r ∨ r ∈ Fs.flatten → r < B4) ∧ p ≠ b ∧ p ≠ c ∧ s.size ≤ 4 ∧ n ≤ 2 ∧ m ≤ 2
theorem PS.turn {B cb B3 k p b n c m B4 B5 : Nat} {rb : Option Nat} {w wr w1 : World} {rs : List Rc} {gs : List ByteArray} {vr vg vp vk : Value} {l : List D} {Fs : List (List Nat)} {s : ByteArray} (h : PS B cb w rs gs vr vg vp B3 k l Fs p b n c m s vk B4 B5 wr) (hcl : cb < w.heap.size) (hc : IsCur B w1 cb) (ht : Turn cb rb wr w1) (hr : ∀ r, rb = some r → B5 ≤ r) : PS B cb w rs gs vr vg vp B3 k l Fs p b n c m s vk B4 B5 w1 := by
  obtain ⟨h1, h2, h3, h4, h5, ⟨h6, h7, h8, h9, h10, h11⟩, h12, h13⟩ := h
  have h0 := h1.2.2.1
  have hk : ∀ x, B3 ≤ x → x < B5 → w1.heap[x]? = wr.heap[x]? := fun x hx1 hx2 => ht.2 x (by omega) (by omega) (fun e => by have := hr x e; omega)
  have hz := ht.1.2.2.2
  refine ⟨h1.turn hcl hc ht (fun r e => by have := hr r e; omega), h2.keepF hz (fun x hx => ?_), h3.keep (hk p (by omega) h8), ⟨h4.1, (hk b (by have := h4.1; omega) h9).trans h4.2⟩, ⟨h5.1, (hk c (by have := h5.1; omega) h10).trans h5.2⟩, ⟨h6, h7, h8, h9, h10, by omega⟩, h12, h13⟩
  refine hk x ?_ (by have := h12 x hx; omega)
  rcases hx with hx | hx
  · exact (row_lt h2.1.choose_spec.1 hx).1
  · exact (h2.2.2.1 x hx).1
theorem PS.set {B cb B3 k p b n c m B4 B5 : Nat} {w wr : World} {rs : List Rc} {gs : List ByteArray} {vr vg vp vk : Value} {l : List D} {Fs : List (List Nat)} {s : ByteArray} (h : PS B cb w rs gs vr vg vp B3 k l Fs p b n c m s vk B4 B5 wr) (hcl : cb < w.heap.size) (hB : B ≤ w.heap.size) (u : Value) : PS B cb w rs gs vr vg vp B3 k l Fs p b n c m s u B4 B5 (wr.setCell ⟨p, 7, none⟩ u) := by
  obtain ⟨h1, h2, h3, h4, h5, ⟨h6, h7, h8, h9, h10, h11⟩, h12, h13, h14, h15⟩ := h
  have h0 := h1.2.2.1
  have hk : ∀ x, p ≠ x → (wr.setCell ⟨p, 7, none⟩ u).heap[x]? = wr.heap[x]? := fun x hx => set_keep (fun e => hx e.symm)
  have hc : IsCur B (wr.setCell ⟨p, 7, none⟩ u) cb := cur_far h1.1.2.2.1 (by omega) (by omega) 7 u
  have h1' : G7 B cb w rs gs vr vg vp B3 (wr.setCell ⟨p, 7, none⟩ u) := by
    obtain ⟨⟨u1, u2, u3, u4⟩, ⟨Fr, Fg, g2, g3, g4⟩, g5, g6⟩ := h1
    exact ⟨⟨u1.oth _ 7 (by omega) u, u2.oth _ 7 (by omega) u, hc, u4.far (by omega) 7 u⟩, ⟨Fr, Fg, Own.keep _ _ _ (fun x hx => hk x (by have := g4 x (List.mem_append_left _ hx); omega)) g2, Own.keep _ _ _ (fun x hx => hk x (by have := g4 x (List.mem_append_right _ hx); omega)) g3, g4⟩, g5, by rw [set_size]; exact g6⟩
  exact ⟨h1', h2.keepF (by rw [set_size]; exact Nat.le_refl _) (fun x hx => hk x (by have := h12 x hx; omega)), h3.set 7 u, ⟨h4.1, (hk b h13).trans h4.2⟩, ⟨h5.1, (hk c h14).trans h5.2⟩, ⟨h6, h7, h8, h9, h10, by rw [set_size]; exact h11⟩, h12, h13, h14, h15⟩
theorem Turn.put {cb p : Nat} {rb : Option Nat} {w0 w1 : World} (h : Turn cb rb w0 w1) (hp : w0.heap.size ≤ p) (j : Nat) (u : Value) : Turn cb rb w0 (w1.setCell ⟨p, j, none⟩ u) :=
  ⟨⟨h.1.1, h.1.2.1, h.1.2.2.1, by rw [set_size]; exact h.1.2.2.2⟩, fun b hb h1 h2 => (set_keep (by omega)).trans (h.2 b hb h1 h2)⟩
theorem NewB.oth {Z b p : Nat} {w : World} {cs : Array Value} {T : TypeId} (h : NewB Z w b cs T) (hne : b ≠ p) (j : Nat) (u : Value) : NewB Z (w.setCell ⟨p, j, none⟩ u) b cs T := ⟨h.1, (set_keep hne).trans h.2⟩
set_option maxRecDepth 100000 in
theorem PS.start {B cb B3 k p b n c m : Nat} {w wr w1 : World} {rs : List Rc} {gs : List ByteArray} {vr vg vp : Value} {l : List D} {Fs : List (List Nat)} {s : ByteArray} (hg : G7 B cb w rs gs vr vg vp B3 wr) (hap : AppD B3 wr 107 9 vp k l Fs) (hcl : cb < w.heap.size) (hB : B ≤ w.heap.size) (hI : IsCur B w1 cb ∧ Turn cb none wr w1) (hb : NewB wr.heap.size w1 b #[.string ⟨#[112]⟩, .string ⟨#[113]⟩] 9) (hc : NewB wr.heap.size w1 c #[.string ⟨#[120]⟩, .string ⟨#[121]⟩] 9) (hp : NewB wr.heap.size w1 p #[.string ⟨#[]⟩, .slice none 0 0, .slice none 0 0, .int .i64 0, .string ⟨#[]⟩, .int .i64 0, .int .i64 0, .slice none 0 0, .int .i64 0] 107) (hs : s.size ≤ 4) (hn : n ≤ 2) (hm : m ≤ 2) : PS B cb w rs gs vr vg vp B3 k l Fs p b n c m s (.slice none 0 0) wr.heap.size w1.heap.size (((((((((w1.setCell ⟨p, 0, none⟩ (.string s)).setCell ⟨p, 1, none⟩ (.slice (some ⟨b, 0, none⟩) n 2)).setCell ⟨p, 2, none⟩ (.slice (some ⟨c, 0, none⟩) m 2)).setCell ⟨p, 3, none⟩ (.int .i64 14)).setCell ⟨p, 4, none⟩ (.string ⟨#[]⟩)).setCell ⟨p, 5, none⟩ (.int .i64 0)).setCell ⟨p, 6, none⟩ (.int .i64 0)).setCell ⟨p, 7, none⟩ (.slice none 0 0)).setCell ⟨p, 8, none⟩ (.int .i64 0)) := by
  have hv := hp.var
  have hpb := hp.ne hb (by decide)
  have hpc := hp.ne hc (by decide)
  have hp2 := hp.1
  have h35 := hg.2.2.2
  have h25 := hg.2.2.1
  have hp3 : B ≤ p := by omega
  have hp4 : cb ≠ p := by omega
  obtain ⟨hI1, hI2⟩ := hI
  have hT := (Turn.put (Turn.put (Turn.put (Turn.put (Turn.put (Turn.put (Turn.put (Turn.put (Turn.put hI2 hp2 0 (.string s)) hp2 1 (.slice (some ⟨b, 0, none⟩) n 2)) hp2 2 (.slice (some ⟨c, 0, none⟩) m 2)) hp2 3 (.int .i64 14)) hp2 4 (.string ⟨#[]⟩)) hp2 5 (.int .i64 0)) hp2 6 (.int .i64 0)) hp2 7 (.slice none 0 0)) hp2 8 (.int .i64 0))
  have hC := (cur_far (cur_far (cur_far (cur_far (cur_far (cur_far (cur_far (cur_far (cur_far hI1 hp3 hp4 0 (.string s)) hp3 hp4 1 (.slice (some ⟨b, 0, none⟩) n 2)) hp3 hp4 2 (.slice (some ⟨c, 0, none⟩) m 2)) hp3 hp4 3 (.int .i64 14)) hp3 hp4 4 (.string ⟨#[]⟩)) hp3 hp4 5 (.int .i64 0)) hp3 hp4 6 (.int .i64 0)) hp3 hp4 7 (.slice none 0 0)) hp3 hp4 8 (.int .i64 0))
  have hV := (((((((((hv.set 0 (.string s)).set 1 (.slice (some ⟨b, 0, none⟩) n 2)).set 2 (.slice (some ⟨c, 0, none⟩) m 2)).set 3 (.int .i64 14)).set 4 (.string ⟨#[]⟩)).set 5 (.int .i64 0)).set 6 (.int .i64 0)).set 7 (.slice none 0 0)).set 8 (.int .i64 0))
  refine ⟨hg.turn hcl hC hT (fun r e => by cases e), hap.turn hT (by omega), hV, (((((((((hb.oth (fun e => hpb e.symm) 0 (.string s)).oth (fun e => hpb e.symm) 1 (.slice (some ⟨b, 0, none⟩) n 2)).oth (fun e => hpb e.symm) 2 (.slice (some ⟨c, 0, none⟩) m 2)).oth (fun e => hpb e.symm) 3 (.int .i64 14)).oth (fun e => hpb e.symm) 4 (.string ⟨#[]⟩)).oth (fun e => hpb e.symm) 5 (.int .i64 0)).oth (fun e => hpb e.symm) 6 (.int .i64 0)).oth (fun e => hpb e.symm) 7 (.slice none 0 0)).oth (fun e => hpb e.symm) 8 (.int .i64 0)), (((((((((hc.oth (fun e => hpc e.symm) 0 (.string s)).oth (fun e => hpc e.symm) 1 (.slice (some ⟨b, 0, none⟩) n 2)).oth (fun e => hpc e.symm) 2 (.slice (some ⟨c, 0, none⟩) m 2)).oth (fun e => hpc e.symm) 3 (.int .i64 14)).oth (fun e => hpc e.symm) 4 (.string ⟨#[]⟩)).oth (fun e => hpc e.symm) 5 (.int .i64 0)).oth (fun e => hpc e.symm) 6 (.int .i64 0)).oth (fun e => hpc e.symm) 7 (.slice none 0 0)).oth (fun e => hpc e.symm) 8 (.int .i64 0)), ⟨h35, hp2, hp.lt, hb.lt, hc.lt, ?_⟩, fun r hr => ?_, hpb, hpc, hs, hn, hm⟩
  · simp only [set_size]; exact Nat.le_refl _
  · rcases hr with hr | hr
    · exact (row_lt hap.1.choose_spec.1 hr).2
    · exact (hap.2.2.1 r hr).2
/-- A drawn tree in new blocks. -/
def TreeN (Z : Nat) (w : World) (t : Ex.T) (u : Value) (F : List Nat) : Prop := OwnK w u t.kids F ∧ (∀ b ∈ F, Z ≤ b ∧ b < w.heap.size) ∧ t.bulk ≤ bnd 2
theorem TreeN.keep {Z cb : Nat} {rb : Option Nat} {w w1 : World} {t : Ex.T} {u : Value} {F : List Nat} (h : TreeN Z w t u F) (ht : Turn cb rb w w1) (hc : cb < Z) (hr : ∀ r, rb = some r → r < Z) : TreeN Z w1 t u F :=
  ⟨OwnK.keep _ (fun b hb => ht.2 b (h.2.1 b hb).2 (by have := h.2.1 b hb; omega) (fun e => by have := hr b e; have := h.2.1 b hb; omega)) h.1, fun b hb => ⟨(h.2.1 b hb).1, Nat.lt_of_lt_of_le (h.2.1 b hb).2 ht.1.2.2.2⟩, h.2.2⟩
theorem AppK.turn {B cb : Nat} {w w1 : World} {v : Value} {ld : List El} (h : AppK B w v ld) (ht : Turn cb none w w1) (hc : cb < B) : AppK B w1 v ld :=
  h.keep ht.1.2.2.2 (fun b hb hlt => ht.2 b hlt (by omega) (by simp))
/-- The values of the statement that draws a kid. -/
def F18 (Z cb p B5 j : Nat) (vk : Value) (L : Nat → Bool) (i : Nat) (v : Value) (w : World) : Prop := match i with
  | 0 => v = .pointer (some ⟨p, 3, none⟩)
  | 1 => v = .pointer (some ⟨p, 7, none⟩)
  | 2 => v = vk
  | 3 => v = .pointer (some ⟨cb, 0, none⟩)
  | 4 => ∃ t u F, v = exV t u ∧ TreeN Z w t u F
  | 5 => ∃ q t u F, v = .slice (some ⟨q, 0, none⟩) 1 1 ∧ NewB Z w q #[.int .i64 t.kind, .string t.text, .int .i64 t.num, .int .i64 t.line, u] 105 ∧ TreeN Z w t u F
  | 6 => ∃ g c ld, v = .slice (some ⟨g, 0, none⟩) (j + 1) c ∧ AppK B5 w v ld ∧ ld.length = j + 1 ∧ Small (bnd 2) ld
  | 7 => v = .pointer (some ⟨p, 3, none⟩)
  | 8 => v = .pointer (some ⟨p, 7, none⟩)
  | _ => True
theorem F18_keep {Z cb p B5 j : Nat} {vk : Value} (hcZ : cb < Z) (hcB : cb < B5) {rb : Option Nat} (hrb : ∀ r, rb = some r → r < Z) (L : Nat → Bool) (i q : Nat) (v : Value) (w1 w2 : World) (hji : i ≠ q) (hR : RRow cb 6 rb q w1 w2) (h : F18 Z cb p B5 j vk L i v w1) : F18 Z cb p B5 j vk (upL L q) i v w2 := by
  have hT := hR.any
  match i with
  | 0 => exact h
  | 1 => exact h
  | 2 => exact h
  | 3 => exact h
  | 4 => obtain ⟨t, u, F, h1, h2⟩ := h; exact ⟨t, u, F, h1, h2.keep hT hcZ hrb⟩
  | 5 => obtain ⟨a, t, u, F, h1, h2, h3⟩ := h; exact ⟨a, t, u, F, h1, h2.keep hT hcZ hrb, h3.keep hT hcZ hrb⟩
  | 6 => obtain ⟨g, c, ld, h1, h2, h3⟩ := h; exact ⟨g, c, ld, h1, h2.turn (hR.oth (fun e => hji e.symm)) hcB, h3⟩
  | 7 => exact h
  | 8 => exact h
  | n + 9 => exact trivial
/-- The parts of a drawn procedure. -/
theorem drawn_proc {B cb B3 k p b n c m B4 B5 nk ck : Nat} {ak : Option Addr} {w wr : World} {rs : List Rc} {gs : List ByteArray} {vr vg vp : Value} {l : List D} {Fs : List (List Nat)} {s : ByteArray} {ld : List El} (h : PS B cb w rs gs vr vg vp B3 k l Fs p b n c m s (.slice ak nk ck) B4 B5 wr) (hk : AppK B5 wr (.slice ak nk ck) ld) (hsm : Small (bnd 2) ld) (hl : ld.length ≤ 3) :
    ∃ (q : Pc) (Fp Fq Fk : List Nat), q.bulk ≤ 90000 ∧ q.ds = [.str s, strsD q.params, strsD q.locals, .int 14, .str ⟨#[]⟩, .int 0, .int 0, .ex q.body.kids, .int 0] ∧
      (∀ e ∈ ([(.str s, .string s, []), (strsD q.params, .slice (some ⟨b, 0, none⟩) n 2, Fp), (strsD q.locals, .slice (some ⟨c, 0, none⟩) m 2, Fq), (.int 14, .int .i64 14, []), (.str ⟨#[]⟩, .string ⟨#[]⟩, []), (.int 0, .int .i64 0, []), (.int 0, .int .i64 0, []), (.ex q.body.kids, .slice ak nk ck, Fk), (.int 0, .int .i64 0, [])] : List (D × Value × List Nat)), Own wr e.1 e.2.1 e.2.2 ∧ ∀ x ∈ e.2.2, B3 ≤ x ∧ x < wr.heap.size ∧ x ∉ Fs.flatten ∧ vp.ownBlock ≠ some x) ∧
      ([(.str s, .string s, []), (strsD q.params, .slice (some ⟨b, 0, none⟩) n 2, Fp), (strsD q.locals, .slice (some ⟨c, 0, none⟩) m 2, Fq), (.int 14, .int .i64 14, []), (.str ⟨#[]⟩, .string ⟨#[]⟩, []), (.int 0, .int .i64 0, []), (.int 0, .int .i64 0, []), (.ex q.body.kids, .slice ak nk ck, Fk), (.int 0, .int .i64 0, [])] : List (D × Value × List Nat)).Pairwise (fun x y => Apart x.2.2 y.2.2) := by
  obtain ⟨h1, h2, h3, h4, h5, ⟨h6, h7, h8, h9, h10, h11⟩, h12, h13, h14, hs, hn, hm⟩ := h
  obtain ⟨lp, Fp, hp1, hp2, hp3, hp4⟩ := h4.strs hn
  obtain ⟨lq, Fq, hq1, hq2, hq3, hq4⟩ := h5.strs hm
  obtain ⟨Fk, hK, hF⟩ := hk.done
  have hbc : b ≠ c := h4.ne_cells h5 (by simp)
  have hz1 : ByteArray.size ⟨#[112]⟩ = 1 := rfl
  have hz2 : ByteArray.size ⟨#[113]⟩ = 1 := rfl
  have hz3 : ByteArray.size ⟨#[120]⟩ = 1 := rfl
  have hz4 : ByteArray.size ⟨#[121]⟩ = 1 := rfl
  have hz5 : ByteArray.size ⟨#[]⟩ = 0 := rfl
  have hb3 : ∀ x, B4 ≤ x → x ∉ Fs.flatten ∧ vp.ownBlock ≠ some x := fun x hx => ⟨fun e => by have := h12 x (.inr e); omega, fun e => by have := h12 x (.inl e); omega⟩
  refine ⟨⟨s, lp, lq, .node 14 ⟨#[]⟩ 0 0 (ld.map Prod.fst), 0⟩, Fp, Fq, Fk, ?_, rfl, fun e he => ?_, ?_⟩
  · show s.size + (strsB lp + (strsB lq + (Ex.T.node 14 ⟨#[]⟩ 0 0 (ld.map Prod.fst)).bulk)) ≤ 90000
    rw [Ex.T.bulk, List.length_map]
    have h20 := small_bulk hsm
    have h21 : ld.length * bnd 2 ≤ 3 * bnd 2 := Nat.mul_le_mul_right _ hl
    have h22 : bnd 2 = 4678 := by decide
    omega
  · simp only [List.mem_cons, List.not_mem_nil, or_false] at he
    rcases he with rfl | rfl | rfl | rfl | rfl | rfl | rfl | rfl | rfl
    · exact ⟨own_str', fun x hx => by cases hx⟩
    · exact ⟨hp3, fun x hx => by
        obtain rfl := hp4 x hx
        have h20 := h4.1
        exact ⟨by omega, h4.lt, hb3 x h20⟩⟩
    · exact ⟨hq3, fun x hx => by
        obtain rfl := hq4 x hx
        have h20 := h5.1
        exact ⟨by omega, h5.lt, hb3 x h20⟩⟩
    · exact ⟨own_int', fun x hx => by cases hx⟩
    · exact ⟨own_str', fun x hx => by cases hx⟩
    · exact ⟨own_int', fun x hx => by cases hx⟩
    · exact ⟨own_int', fun x hx => by cases hx⟩
    · refine ⟨by rw [Own]; exact hK, fun x hx => ?_⟩
      have h20 := hF x hx
      exact ⟨by omega, h20.2, hb3 x (by omega)⟩
    · exact ⟨own_int', fun x hx => by cases hx⟩
  · have a1 : Apart Fp Fq := fun x hx hy => hbc ((hp4 x hx).symm.trans (hq4 x hy))
    have a2 : Apart Fp Fk := fun x hx hy => by have h20 := hF x hy; have h21 := hp4 x hx; omega
    have a3 : Apart Fq Fk := fun x hx hy => by have h20 := hF x hy; have h21 := hq4 x hx; omega
    simp [apart_nil, nil_apart, a1, a2, a3]
theorem G7.far {B cb B3 g : Nat} {w wr : World} {rs : List Rc} {gs : List ByteArray} {vr vg vp : Value} (h1 : G7 B cb w rs gs vr vg vp B3 wr) (hcl : cb < w.heap.size) (hB : B ≤ w.heap.size) (hg : B3 ≤ g) (j : Nat) (u : Value) : G7 B cb w rs gs vr vg vp B3 (wr.setCell ⟨g, j, none⟩ u) := by
  have h0 := h1.2.2.1
  have hk : ∀ x, g ≠ x → (wr.setCell ⟨g, j, none⟩ u).heap[x]? = wr.heap[x]? := fun x hx => set_keep (fun e => hx e.symm)
  have hc : IsCur B (wr.setCell ⟨g, j, none⟩ u) cb := cur_far h1.1.2.2.1 (by omega) (by omega) j u
  obtain ⟨⟨u1, u2, u3, u4⟩, ⟨Fr, Fg, g2, g3, g4⟩, g5, g6⟩ := h1
  exact ⟨⟨u1.oth _ j (by omega) u, u2.oth _ j (by omega) u, hc, u4.far (by omega) j u⟩, ⟨Fr, Fg, Own.keep _ _ _ (fun x hx => hk x (by have := g4 x (List.mem_append_left _ hx); omega)) g2, Own.keep _ _ _ (fun x hx => hk x (by have := g4 x (List.mem_append_right _ hx); omega)) g3, g4⟩, g5, by rw [set_size]; exact g6⟩
/-- A row that has grown and holds something. -/
theorem AppD.rowD {B : Nat} {w : World} {T : TypeId} {z n : Nat} {v : Value} {l : List D} {Fs : List (List Nat)} (h : AppD B w T z v n l Fs) (hz : 0 < z) (hl : l ≠ []) : ∃ (g c : Nat) (Fs2 : List (List Nat)), v = .slice (some ⟨g, 0, none⟩) n c ∧ RowD w g 0 l Fs2 ∧ n ≤ c ∧ ∀ x ∈ g :: Fs2.flatten, B ≤ x ∧ x < w.heap.size := by
  obtain ⟨F, h1, h2⟩ := h.done hz
  obtain ⟨g, o, c, Fs2, rfl, rfl, h3⟩ := rowD_of_own h1 hl
  have h4 := own_cap h1 hl
  rcases h.1.choose_spec.1.2 with ⟨e, _⟩ | ⟨g2, cap2, cur, e, _⟩
  · cases e
  · injection e with e1 e2 e3
    injection e1 with e1
    injection e1 with e1 e4
    subst e1; subst e4
    exact ⟨_, _, Fs2, rfl, h3, h4, h2⟩
/-- Procedures in memory of their own, above B3. -/
def ProcsO (B3 : Nat) (v : Value) (ps : List Pc) (w : World) : Prop := ∃ F, Own w (procsD ps) v F ∧ ∀ x ∈ F, B3 ≤ x ∧ x < w.heap.size
/-- The first procedure's kind is turned. -/
def setKind (x : Int) : List Pc → List Pc
  | [] => []
  | ⟨a, b, c, .node k t n l ks, d⟩ :: r => ⟨a, b, c, .node x t n l ks, d⟩ :: r
def setName (s : ByteArray) : List Pc → List Pc
  | [] => []
  | ⟨a, b, c, y, d⟩ :: r => ⟨s, b, c, y, d⟩ :: r
theorem setKind_ds (x : Int) (ps : List Pc) (h : ps ≠ []) : (setKind x ps).flatMap Pc.ds = (ps.flatMap Pc.ds).set 3 (.int x) := by
  match ps, h with
  | ⟨a, b, c, .node k t n l ks, d⟩ :: r, _ => rfl
theorem setName_ds (s : ByteArray) (ps : List Pc) (h : ps ≠ []) : (setName s ps).flatMap Pc.ds = (ps.flatMap Pc.ds).set 0 (.str s) := by
  match ps, h with
  | ⟨a, b, c, y, d⟩ :: r, _ => rfl
theorem setKind_len (x : Int) (ps : List Pc) : (setKind x ps).length = ps.length := by
  match ps with
  | [] => rfl
  | ⟨a, b, c, .node k t n l ks, d⟩ :: r => rfl
theorem setName_len (s : ByteArray) (ps : List Pc) : (setName s ps).length = ps.length := by
  match ps with
  | [] => rfl
  | ⟨a, b, c, y, d⟩ :: r => rfl
theorem setKind_small {x : Int} {M : Nat} {ps : List Pc} (h : ∀ q ∈ ps, q.bulk ≤ M) : ∀ q ∈ setKind x ps, q.bulk ≤ M := by
  match ps, h with
  | [], h => exact h
  | ⟨a, b, c, .node k t n l ks, d⟩ :: r, h =>
    intro q hq
    rcases List.mem_cons.1 hq with rfl | hq
    · exact h ⟨a, b, c, .node k t n l ks, d⟩ List.mem_cons_self
    · exact h q (List.mem_cons_of_mem _ hq)
theorem setName_small {s : ByteArray} {M : Nat} (hs : s.size ≤ 3) {ps : List Pc} (h : ∀ q ∈ ps, q.bulk ≤ M) : ∀ q ∈ setName s ps, q.bulk ≤ M + 3 := by
  match ps, h with
  | [], h => intro q hq; cases hq
  | ⟨a, b, c, y, d⟩ :: r, h =>
    intro q hq
    rcases List.mem_cons.1 hq with rfl | hq
    · have h1 := h ⟨a, b, c, y, d⟩ List.mem_cons_self
      unfold Pc.bulk at h1 ⊢
      simp only at h1 ⊢
      omega
    · have h1 := h q (List.mem_cons_of_mem _ hq)
      omega
/-- The values of the statement that turns the first procedure's kind. -/
def F21 (Z cb E g n c : Nat) (L : Nat → Bool) (i : Nat) (v : Value) (w : World) : Prop := match i with
  | 0 => v = .pointer (some ⟨E, 2, none⟩)
  | 1 => v = .slice (some ⟨g, 0, none⟩) n c
  | 2 => v = .pointer (some ⟨cb, 0, none⟩)
  | 3 => ∃ b, v = .slice (some ⟨b, 0, none⟩) 2 2 ∧ NewB Z w b #[.int .i64 4, .int .i64 14] 3
  | 4 => ∃ x : Int, v = .int .i64 x
  | 5 => v = .pointer (some ⟨g, 0, none⟩)
  | 6 => v = .pointer (some ⟨g, 3, none⟩)
  | 7 => v = .pointer (some ⟨g, 3, none⟩)
  | _ => True
theorem F21_keep {Z cb E g n c : Nat} (hcZ : cb < Z) (L : Nat → Bool) (i q : Nat) (v : Value) (w1 w2 : World) (hT : Turn cb none w1 w2) (h : F21 Z cb E g n c L i v w1) : F21 Z cb E g n c (upL L q) i v w2 := by
  match i with
  | 0 => exact h
  | 1 => exact h
  | 2 => exact h
  | 3 => obtain ⟨b, h1, h2⟩ := h; exact ⟨b, h1, h2.keep hT hcZ (fun r e => by cases e)⟩
  | 4 => exact h
  | 5 => exact h
  | 6 => exact h
  | 7 => exact h
  | n + 8 => exact trivial
/-- .. and its name. -/
def F22 (Z cb E g n c : Nat) (L : Nat → Bool) (i : Nat) (v : Value) (w : World) : Prop := match i with
  | 0 => v = .pointer (some ⟨E, 2, none⟩)
  | 1 => v = .slice (some ⟨g, 0, none⟩) n c
  | 2 => v = .pointer (some ⟨cb, 0, none⟩)
  | 3 => ∃ b, v = .slice (some ⟨b, 0, none⟩) 2 2 ∧ NewB Z w b #[.string ⟨#[]⟩, .string ⟨#[101, 110, 100]⟩] 9
  | 4 => ∃ s : ByteArray, v = .string s ∧ s.size ≤ 3
  | 5 => v = .pointer (some ⟨g, 0, none⟩)
  | 6 => v = .pointer (some ⟨g, 0, none⟩)
  | _ => True
theorem F22_keep {Z cb E g n c : Nat} (hcZ : cb < Z) (L : Nat → Bool) (i q : Nat) (v : Value) (w1 w2 : World) (hT : Turn cb none w1 w2) (h : F22 Z cb E g n c L i v w1) : F22 Z cb E g n c (upL L q) i v w2 := by
  match i with
  | 0 => exact h
  | 1 => exact h
  | 2 => exact h
  | 3 => obtain ⟨b, h1, h2⟩ := h; exact ⟨b, h1, h2.keep hT hcZ (fun r e => by cases e)⟩
  | 4 => exact h
  | 5 => exact h
  | 6 => exact h
  | n + 7 => exact trivial
/-- What stands behind the loops. -/
def Q7 (B cb : Nat) (w : World) (rs : List Rc) (gs : List ByteArray) (vr vg : Value) (g n c B3 : Nat) (ps : List Pc) (Fs : List (List Nat)) (wr : World) : Prop := G7 B cb w rs gs vr vg (.slice (some ⟨g, 0, none⟩) n c) B3 wr ∧ RowD wr g 0 (ps.flatMap Pc.ds) Fs ∧ (∀ x ∈ g :: Fs.flatten, B3 ≤ x ∧ x < wr.heap.size) ∧ ps.length = n ∧ 0 < n ∧ n ≤ c
theorem Q7.ne {B cb g n c B3 : Nat} {w wr : World} {rs : List Rc} {gs : List ByteArray} {vr vg : Value} {ps : List Pc} {Fs : List (List Nat)} (h : Q7 B cb w rs gs vr vg g n c B3 ps Fs wr) : ps ≠ [] := fun e => by
  have h1 := h.2.2.2.1
  have h2 := h.2.2.2.2.1
  rw [e] at h1
  simp at h1
  omega
theorem Q7.turn {B cb g n c B3 : Nat} {w wr w1 : World} {rs : List Rc} {gs : List ByteArray} {vr vg : Value} {ps : List Pc} {Fs : List (List Nat)} (h : Q7 B cb w rs gs vr vg g n c B3 ps Fs wr) (hcl : cb < w.heap.size) (hc : IsCur B w1 cb) (ht : Turn cb none wr w1) : Q7 B cb w rs gs vr vg g n c B3 ps Fs w1 := by
  obtain ⟨h1, h2, h3, h4⟩ := h
  have h5 := h1.2.2.1
  have hk : ∀ x ∈ g :: Fs.flatten, w1.heap[x]? = wr.heap[x]? := fun x hx => ht.2 x (h3 x hx).2 (by have := h3 x hx; omega) (by simp)
  exact ⟨h1.turn hcl hc ht (fun r e => by cases e), h2.keep (hk g List.mem_cons_self) (fun x hx => hk x (List.mem_cons_of_mem _ hx)), fun x hx => ⟨(h3 x hx).1, Nat.lt_of_lt_of_le (h3 x hx).2 ht.1.2.2.2⟩, h4⟩
theorem Q7.kind {B cb g n c B3 : Nat} {w wr : World} {rs : List Rc} {gs : List ByteArray} {vr vg : Value} {ps : List Pc} {Fs : List (List Nat)} (h : Q7 B cb w rs gs vr vg g n c B3 ps Fs wr) (hcl : cb < w.heap.size) (hB : B ≤ w.heap.size) (x : Int) : Q7 B cb w rs gs vr vg g n c B3 (setKind x ps) (Fs.set 3 []) (wr.setCell ⟨g, 3, none⟩ (.int .i64 x)) := by
  have hne := h.ne
  obtain ⟨h1, h2, h3, h4, h5⟩ := h
  refine ⟨h1.far hcl hB (h3 g List.mem_cons_self).1 3 _, ?_, fun y hy => ?_, (setKind_len x ps).trans h4, h5⟩
  · rw [setKind_ds x ps hne]
    have h6 := h2.put (j := 3) (d := .int x) (u := .int .i64 x) (G := []) (by rw [flat_len Pc.ds Pc.ds_len, h4]; omega) own_int' (fun e => by cases e) (fun i K _ _ => apart_nil K)
    rw [Nat.zero_add] at h6
    exact h6
  · rw [set_size]
    rcases List.mem_cons.1 hy with rfl | hy
    · exact h3 _ List.mem_cons_self
    · rcases mem_set hy with hy | hy
      · exact h3 y (List.mem_cons_of_mem _ hy)
      · cases hy
theorem Q7.name {B cb g n c B3 : Nat} {w wr : World} {rs : List Rc} {gs : List ByteArray} {vr vg : Value} {ps : List Pc} {Fs : List (List Nat)} (h : Q7 B cb w rs gs vr vg g n c B3 ps Fs wr) (hcl : cb < w.heap.size) (hB : B ≤ w.heap.size) (s : ByteArray) : Q7 B cb w rs gs vr vg g n c B3 (setName s ps) (Fs.set 0 []) (wr.setCell ⟨g, 0, none⟩ (.string s)) := by
  have hne := h.ne
  obtain ⟨h1, h2, h3, h4, h5⟩ := h
  refine ⟨h1.far hcl hB (h3 g List.mem_cons_self).1 0 _, ?_, fun y hy => ?_, (setName_len s ps).trans h4, h5⟩
  · rw [setName_ds s ps hne]
    have h6 := h2.put (j := 0) (d := .str s) (u := .string s) (G := []) (by rw [flat_len Pc.ds Pc.ds_len, h4]; omega) own_str' (fun e => by cases e) (fun i K _ _ => apart_nil K)
    exact h6
  · rw [set_size]
    rcases List.mem_cons.1 hy with rfl | hy
    · exact h3 _ List.mem_cons_self
    · rcases mem_set hy with hy | hy
      · exact h3 y (List.mem_cons_of_mem _ hy)
      · cases hy
theorem Q7.procs {B cb g n c B3 : Nat} {w wr : World} {rs : List Rc} {gs : List ByteArray} {vr vg : Value} {ps : List Pc} {Fs : List (List Nat)} (h : Q7 B cb w rs gs vr vg g n c B3 ps Fs wr) : ProcsO B3 (.slice (some ⟨g, 0, none⟩) n c) ps wr := by
  have hne := h.ne
  obtain ⟨h1, h2, h3, h4, h5, h6⟩ := h
  refine ⟨_, ?_, fun x hx => h3 x hx⟩
  have h7 := own_of_rowD (n := n) (c := c) h2 (fun e => by have h8 := congrArg List.length e; rw [flat_len Pc.ds Pc.ds_len, h4] at h8; simp at h8; omega) h6
  unfold procsD
  rw [h4]
  exact h7
theorem Q7.free {B cb g n c B3 : Nat} {w wr : World} {rs : List Rc} {gs : List ByteArray} {vr vg : Value} {ps : List Pc} {Fs : List (List Nat)} (h : Q7 B cb w rs gs vr vg g n c B3 ps Fs wr) (j : Nat) (hj : j < 9) : ∃ u, wr.cell? ⟨g, j, none⟩ = some u ∧ wr.frozen? ⟨g, j, none⟩ = false := by
  obtain ⟨h1, h2, h3, h4, h5⟩ := h
  have hl : j < (ps.flatMap Pc.ds).length := by rw [flat_len Pc.ds Pc.ds_len, h4]; omega
  obtain ⟨u, G, _, a, b, _⟩ := h2.2.2 j _ (List.getElem?_eq_getElem hl)
  rw [Nat.zero_add] at a b
  exact ⟨u, a, b⟩
/-- append(kids, tree) as an operation of a list. -/
theorem wpList_kid {B : Nat} {w : World} {v : Value} {n : Nat} {xs : List Value} {ops : Array Oper} {rest : List Oper} {o : Oper} {a : Act} {Q : Exit → Act → World → Prop} (hgd : o.guard = none) (s x : Operand)
    (ho : o.op = .call { callee := .builtin .append, args := #[s, x], argTypes := #[103, 103] }) (hs : a.eval s = v) (hown : w.ownsRow B 105 5 v n xs) (ad : Addr) (c : Nat) (news : List Value) (hx : a.eval x = .slice (some ad) 1 c) (hl : news.length = 5) (hnews : ∀ j u, news[j]? = some u → w.cell? (ad.add j) = some u) (h1 : ∀ u ∈ news, u.oneCell' = true) (hn : n ≤ 1048577) (hB : B ≤ w.heap.size)
    (h : ∀ w' g c', w'.ownsRow B 105 5 (.slice (some ⟨g, 0, none⟩) (n + 1) c') (n + 1) (xs ++ news) → w.grownBy w' v.ownBlock → B ≤ g → (v.ownBlock = some g ∨ w.heap.size ≤ g) → wpList Tryd.prog ops Q rest (a.put o.dst (.slice (some ⟨g, 0, none⟩) (n + 1) c')) w') : wpList Tryd.prog ops Q (o :: rest) a w := by
  refine wpList_plain hgd fun K hK' => ?_
  obtain ⟨v', w', hr', h2, h3, g, c', rfl, h4, h5⟩ := append_kid o.type hown ad c news hl hnews h1 hn hB
  unfold Oper.wp execOp
  simp only [ho, resolve, invoke, builtin, Sem.run_bind, Sem.run_pure, Result.andThen_ok, List.map_toArray, List.map_cons, List.map_nil, hs, hx, hr']
  exact hK' _ _ (h w' g c' h2 h3 h4 h5)
end Go.Proofs.YtbadepiakkhabaaDoor
