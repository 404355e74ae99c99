/- Records, procedures, units as data. No conditions. -/
import Derived.Test.YtkhcbahbffjnkaaDoorU3
namespace Go.Proofs.YtkhcbahbffjnkaaDoor
open Go.RowKit
set_option linter.unusedVariables false

structure Rc where
  name : ByteArray
  fields : List ByteArray
  line : Int
structure Pc where
  name : ByteArray
  params : List ByteArray
  locals : List ByteArray
  body : Ex.T
  line : Int
structure Un where
  recs : List Rc
  globs : List ByteArray
  procs : List Pc
def Rc.ds (r : Rc) : List D := [.str r.name, strsD r.fields, .int r.line]
def Pc.ds (p : Pc) : List D := [.str p.name, strsD p.params, strsD p.locals, .int p.body.kind, .str p.body.text, .int p.body.num, .int p.body.line, .ex p.body.kids, .int p.line]
abbrev recsD (l : List Rc) : D := .row l.length (l.flatMap Rc.ds)
abbrev procsD (l : List Pc) : D := .row l.length (l.flatMap Pc.ds)
theorem Rc.ds_len (r : Rc) : r.ds.length = 3 := rfl
theorem Pc.ds_len (p : Pc) : p.ds.length = 9 := rfl
abbrev rcV (r : Rc) (v1 : Value) : Value := .agg #[.string r.name, v1, .int .i64 r.line]
abbrev pcV (p : Pc) (v1 v2 v3 : Value) : Value := .agg #[.string p.name, v1, v2, .int .i64 p.body.kind, .string p.body.text, .int .i64 p.body.num, .int .i64 p.body.line, v3, .int .i64 p.line]
abbrev unV (v1 v2 v3 : Value) : Value := .agg #[v1, v2, v3]
/-- The cells of a record at a place. -/
def RecAt (w : World) (g o : Nat) (r : Rc) : Prop := w.cell? ⟨g, o, none⟩ = some (.string r.name) ∧ (∃ v1, w.cell? ⟨g, o + 1, none⟩ = some v1 ∧ Is w (strsD r.fields) v1) ∧ w.cell? ⟨g, o + 2, none⟩ = some (.int .i64 r.line)
def ProcAt (w : World) (g o : Nat) (p : Pc) : Prop := w.cell? ⟨g, o, none⟩ = some (.string p.name) ∧ (∃ v1, w.cell? ⟨g, o + 1, none⟩ = some v1 ∧ Is w (strsD p.params) v1) ∧ (∃ v2, w.cell? ⟨g, o + 2, none⟩ = some v2 ∧ Is w (strsD p.locals) v2) ∧ (w.cell? ⟨g, o + 3, none⟩ = some (.int .i64 p.body.kind) ∧ w.cell? ⟨g, o + 4, none⟩ = some (.string p.body.text) ∧ w.cell? ⟨g, o + 5, none⟩ = some (.int .i64 p.body.num) ∧ w.cell? ⟨g, o + 6, none⟩ = some (.int .i64 p.body.line)) ∧ (∃ v3, w.cell? ⟨g, o + 7, none⟩ = some v3 ∧ Kids w v3 p.body.kids) ∧ w.cell? ⟨g, o + 8, none⟩ = some (.int .i64 p.line)
theorem is_int {w : World} {n : Int} {v : Value} (h : Is w (.int n) v) : v = .int .i64 n := by rw [Is] at h; exact h
theorem is_str {w : World} {s : ByteArray} {v : Value} (h : Is w (.str s) v) : v = .string s := by rw [Is] at h; exact h
theorem is_ex {w : World} {ks : List Ex.T} {v : Value} (h : Is w (.ex ks) v) : Kids w v ks := by rw [Is] at h; exact h
theorem rec_at {w : World} {a : Option Addr} {n c : Nat} {l : List Rc} (h : Is w (.row n (l.flatMap Rc.ds)) (.slice a n c)) (i : Nat) (hi : i < l.length) : ∃ g o, a = some ⟨g, o, none⟩ ∧ RecAt w g (o + i * 3) l[i] := by
  obtain ⟨g, o, e, hc⟩ := is_nth Rc.ds Rc.ds_len (by decide) h i l[i] (List.getElem?_eq_getElem hi)
  obtain ⟨u0, c0, d0⟩ := hc 0 _ rfl
  obtain ⟨u1, c1, d1⟩ := hc 1 _ rfl
  obtain ⟨u2, c2, d2⟩ := hc 2 _ rfl
  obtain rfl := is_str d0
  obtain rfl := is_int d2
  exact ⟨g, o, e, c0, ⟨u1, c1, d1⟩, c2⟩
theorem proc_at {w : World} {a : Option Addr} {n c : Nat} {l : List Pc} (h : Is w (.row n (l.flatMap Pc.ds)) (.slice a n c)) (i : Nat) (hi : i < l.length) : ∃ g o, a = some ⟨g, o, none⟩ ∧ ProcAt w g (o + i * 9) l[i] := by
  obtain ⟨g, o, e, hc⟩ := is_nth Pc.ds Pc.ds_len (by decide) h i l[i] (List.getElem?_eq_getElem hi)
  obtain ⟨u0, c0, d0⟩ := hc 0 _ rfl
  obtain ⟨u1, c1, d1⟩ := hc 1 _ rfl
  obtain ⟨u2, c2, d2⟩ := hc 2 _ rfl
  obtain ⟨u3, c3, d3⟩ := hc 3 _ rfl
  obtain ⟨u4, c4, d4⟩ := hc 4 _ rfl
  obtain ⟨u5, c5, d5⟩ := hc 5 _ rfl
  obtain ⟨u6, c6, d6⟩ := hc 6 _ rfl
  obtain ⟨u7, c7, d7⟩ := hc 7 _ rfl
  obtain ⟨u8, c8, d8⟩ := hc 8 _ rfl
  obtain rfl := is_str d0
  obtain rfl := is_int d3
  obtain rfl := is_str d4
  obtain rfl := is_int d5
  obtain rfl := is_int d6
  obtain rfl := is_int d8
  exact ⟨g, o, e, c0, ⟨u1, c1, d1⟩, ⟨u2, c2, d2⟩, ⟨c3, c4, c5, c6⟩, ⟨u7, c7, is_ex d7⟩, c8⟩
def Rc.bulk (r : Rc) : Nat := r.name.size + strsB r.fields
def Pc.bulk (p : Pc) : Nat := p.name.size + (strsB p.params + (strsB p.locals + p.body.bulk))
def recsB (l : List Rc) : Nat := l.length + wsum Rc.bulk l
def procsB (l : List Pc) : Nat := l.length + wsum Pc.bulk l
def Un.bulk (u : Un) : Nat := recsB u.recs + (strsB u.globs + procsB u.procs)
/-- Nothing is greater than memory can hold. -/
def StrsOk (l : List ByteArray) : Prop := l.length ≤ 9223372036854775807 ∧ ∀ s ∈ l, s.size ≤ 9223372036854775807
def Rc.Ok (r : Rc) : Prop := r.name.size ≤ 9223372036854775807 ∧ StrsOk r.fields
def Pc.Ok (p : Pc) : Prop := p.name.size ≤ 9223372036854775807 ∧ StrsOk p.params ∧ StrsOk p.locals ∧ p.body.Ok
def Un.Ok (u : Un) : Prop := (u.recs.length ≤ 9223372036854775807 ∧ ∀ r ∈ u.recs, r.Ok) ∧ StrsOk u.globs ∧ u.procs.length ≤ 9223372036854775807 ∧ ∀ p ∈ u.procs, p.Ok
/-- A unit by its three lists. -/
def UnIs (w : World) (u : Un) (v1 v2 v3 : Value) : Prop := Is w (recsD u.recs) v1 ∧ Is w (strsD u.globs) v2 ∧ Is w (procsD u.procs) v3
theorem UnIs.later {w w' : World} {u : Un} {v1 v2 v3 : Value} (h : UnIs w u v1 v2 v3) (hb : Below w.heap.size w w') : UnIs w' u v1 v2 v3 := ⟨h.1.later hb, h.2.1.later hb, h.2.2.later hb⟩
/-- A unit whose lists lie in the blocks F, each met once. -/
def UnOwn (w : World) (u : Un) (v1 v2 v3 : Value) (F1 F2 F3 : List Nat) : Prop := (Own w (recsD u.recs) v1 F1 ∧ Own w (strsD u.globs) v2 F2 ∧ Own w (procsD u.procs) v3 F3) ∧ Apart F1 F2 ∧ Apart F1 F3 ∧ Apart F2 F3
theorem UnOwn.is {w : World} {u : Un} {v1 v2 v3 : Value} {F1 F2 F3 : List Nat} (h : UnOwn w u v1 v2 v3 F1 F2 F3) : UnIs w u v1 v2 v3 := ⟨h.1.1.is, h.1.2.1.is, h.1.2.2.is⟩
theorem UnOwn.keep {w w' : World} {u : Un} {v1 v2 v3 : Value} {F1 F2 F3 : List Nat} (h : UnOwn w u v1 v2 v3 F1 F2 F3) (hF : ∀ b ∈ F1 ++ (F2 ++ F3), w'.heap[b]? = w.heap[b]?) : UnOwn w' u v1 v2 v3 F1 F2 F3 :=
  ⟨⟨Own.keep _ _ _ (fun b hb => hF b (List.mem_append_left _ hb)) h.1.1, Own.keep _ _ _ (fun b hb => hF b (List.mem_append_right _ (List.mem_append_left _ hb))) h.1.2.1, Own.keep _ _ _ (fun b hb => hF b (List.mem_append_right _ (List.mem_append_right _ hb))) h.1.2.2⟩, h.2⟩
/-- What the laws write. -/
def Rc.mk' (r : Rc) (k : Nat) : Rc := ⟨mark k, marks (k + 1) r.fields.length, ((k + 1 + r.fields.length : Nat) : Int)⟩
def Rc.wd (r : Rc) : Nat := r.fields.length + 2
def Pc.k1 (p : Pc) (k : Nat) : Nat := k + 1 + p.params.length + p.locals.length
def Pc.mk' (p : Pc) (k : Nat) : Pc := ⟨mark k, marks (k + 1) p.params.length, marks (k + 1 + p.params.length) p.locals.length, .node ((p.k1 k : Nat) : Int) (mark (p.k1 k + 1)) ((p.k1 k + 2 : Nat) : Int) ((p.k1 k + 3 : Nat) : Int) (Ex.mrks p.body.kids (p.k1 k + 4)), ((p.k1 k + 4 + 4 * Ex.counts p.body.kids : Nat) : Int)⟩
def Pc.wd (p : Pc) : Nat := p.params.length + p.locals.length + 4 * Ex.counts p.body.kids + 6
def Un.wd (u : Un) : Nat := wsum Rc.wd u.recs + (u.globs.length + wsum Pc.wd u.procs)
def Un.mk' (u : Un) (k : Nat) : Un := ⟨mks Rc.mk' Rc.wd u.recs k, marks (k + wsum Rc.wd u.recs) u.globs.length, mks Pc.mk' Pc.wd u.procs (k + wsum Rc.wd u.recs + u.globs.length)⟩
end Go.Proofs.YtkhcbahbffjnkaaDoor
