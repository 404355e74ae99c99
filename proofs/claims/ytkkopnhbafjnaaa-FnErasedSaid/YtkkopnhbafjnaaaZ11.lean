/- Joined texts: G2, G3. No conditions besides those that each states. -/
import Derived.Test.YtkkopnhbafjnaaaZ1
import Derived.Test.YtkkopnhbafjnaaaZ7
import Derived.Test.YtkkopnhbafjnaaaZ8
import Derived.Test.YtkkopnhbafjnaaaZ10
/- Expression trees in memory. No conditions. -/
namespace Go.Proofs.Ytkkopnhbafjnaaa
open Go.RowKit
set_option linter.unusedVariables false

mutual
/-- Where a tree's five cells lie, and all below them. -/
def TreeAt (w : World) (g : Nat) : Nat → Ex.T → Prop
  | o, .node k t n l ks => (w.cell? ⟨g, o, none⟩ = some (.int .i64 k) ∧ w.cell? ⟨g, o + 1, none⟩ = some (.string t) ∧ w.cell? ⟨g, o + 2, none⟩ = some (.int .i64 n) ∧ w.cell? ⟨g, o + 3, none⟩ = some (.int .i64 l)) ∧ ∃ v, w.cell? ⟨g, o + 4, none⟩ = some v ∧ Kids w v ks
/-- A list of kids. -/
def Kids (w : World) : Value → List Ex.T → Prop
  | v, [] => ∃ a c, v = .slice a 0 c
  | v, x :: r => ∃ g o c, v = .slice (some ⟨g, o, none⟩) (r.length + 1) c ∧ TreeAt w g o x ∧ RowAt w g (o + 5) r
/-- Trees in a row. -/
def RowAt (w : World) (g : Nat) : Nat → List Ex.T → Prop
  | _, [] => True
  | o, x :: r => TreeAt w g o x ∧ RowAt w g (o + 5) r
end
/-- What the first world holds the second holds too. -/
def Subw (w w' : World) : Prop := ∀ b o v, w.cell? ⟨b, o, none⟩ = some v → w'.cell? ⟨b, o, none⟩ = some v
theorem subw_below {w w' : World} (h : Below w.heap.size w w') : Subw w w' := fun b o v hc => (h.cell (p := ⟨b, o, none⟩) (World.block_lt_of_cell? w _ hc)).trans hc
mutual
theorem TreeAt.mono {w w' : World} (h : Subw w w') : ∀ {g o : Nat} (t : Ex.T), TreeAt w g o t → TreeAt w' g o t
  | g, o, .node k t n l ks, hx => by
    rw [TreeAt] at hx ⊢
    obtain ⟨⟨a, b, c, d⟩, v, hv, hk⟩ := hx
    exact ⟨⟨h _ _ _ a, h _ _ _ b, h _ _ _ c, h _ _ _ d⟩, v, h _ _ _ hv, Kids.mono h ks hk⟩
theorem Kids.mono {w w' : World} (h : Subw w w') : ∀ {v : Value} (l : List Ex.T), Kids w v l → Kids w' v l
  | v, [], hx => by rw [Kids] at hx ⊢; exact hx
  | v, x :: r, hx => by
    rw [Kids] at hx ⊢
    obtain ⟨g, o, c, e, hx, hr⟩ := hx
    exact ⟨g, o, c, e, TreeAt.mono h x hx, RowAt.mono h r hr⟩
theorem RowAt.mono {w w' : World} (h : Subw w w') : ∀ {g o : Nat} (l : List Ex.T), RowAt w g o l → RowAt w' g o l
  | g, o, [], hx => by rw [RowAt]; trivial
  | g, o, x :: r, hx => by
    rw [RowAt] at hx ⊢
    exact ⟨TreeAt.mono h x hx.1, RowAt.mono h r hx.2⟩
end
theorem row_at {w : World} {g : Nat} : ∀ {l : List Ex.T} {o : Nat}, RowAt w g o l → ∀ (i : Nat) (h : i < l.length), TreeAt w g (o + i * 5) l[i] := by
  intro l
  induction l with
  | nil => intro o _ i h; simp at h
  | cons x r ih =>
    intro o hr i h
    rw [RowAt] at hr
    match i with
    | 0 => simpa using hr.1
    | i + 1 =>
      have h2 := ih hr.2 i (by simpa using h)
      have e : o + 5 + i * 5 = o + (i + 1) * 5 := by omega
      rw [e] at h2; simpa using h2
theorem row_of {w : World} {g : Nat} : ∀ {l : List Ex.T} {o : Nat}, (∀ (i : Nat) (h : i < l.length), TreeAt w g (o + i * 5) l[i]) → RowAt w g o l := by
  intro l
  induction l with
  | nil => intro o _; rw [RowAt]; trivial
  | cons x r ih =>
    intro o hr
    rw [RowAt]
    have h0 := hr 0 (by simp)
    rw [Nat.zero_mul, Nat.add_zero] at h0
    refine ⟨h0, ih fun i h => ?_⟩
    have h2 := hr (i + 1) (by simpa using h)
    have e : o + (i + 1) * 5 = o + 5 + i * 5 := by omega
    rw [e] at h2; simpa using h2
theorem kids_len {w : World} {v : Value} {l : List Ex.T} (h : Kids w v l) : ∃ a c, v = .slice a l.length c := by
  cases l with
  | nil => rw [Kids] at h; exact h
  | cons x r => rw [Kids] at h; obtain ⟨g, o, c, e, _⟩ := h; exact ⟨_, c, e⟩
theorem kids_at {w : World} {a : Option Addr} {n c : Nat} {l : List Ex.T} (h : Kids w (.slice a n c) l) (i : Nat) (hi : i < l.length) : ∃ g o, a = some ⟨g, o, none⟩ ∧ TreeAt w g (o + i * 5) l[i] := by
  cases l with
  | nil => simp at hi
  | cons x r =>
    rw [Kids] at h
    obtain ⟨g, o, c2, e, hx, hr⟩ := h
    injection e with e1 e2 e3
    exact ⟨g, o, e1, row_at (l := x :: r) (by rw [RowAt]; exact ⟨hx, hr⟩) i hi⟩
theorem kids_of {w : World} {g o c : Nat} {l : List Ex.T} (h : ∀ (i : Nat) (hi : i < l.length), TreeAt w g (o + i * 5) l[i]) : Kids w (.slice (some ⟨g, o, none⟩) l.length c) l := by
  cases l with
  | nil => rw [Kids]; exact ⟨_, _, rfl⟩
  | cons x r =>
    have h2 := row_of h
    rw [RowAt] at h2
    rw [Kids]; exact ⟨g, o, c, rfl, h2.1, h2.2⟩
/-- The five cells of a tree at a place. -/
theorem tree_cells {w : World} {g o : Nat} {t : Ex.T} (h : TreeAt w g o t) : (w.cell? ⟨g, o, none⟩ = some (.int .i64 t.kind) ∧ w.cell? ⟨g, o + 1, none⟩ = some (.string t.text) ∧ w.cell? ⟨g, o + 2, none⟩ = some (.int .i64 t.num) ∧ w.cell? ⟨g, o + 3, none⟩ = some (.int .i64 t.line)) ∧ ∃ v, w.cell? ⟨g, o + 4, none⟩ = some v ∧ Kids w v t.kids := by
  cases t; rw [TreeAt] at h; exact h
theorem tree_of {w : World} {g o : Nat} {t : Ex.T} {v : Value} (h : w.cell? ⟨g, o, none⟩ = some (.int .i64 t.kind) ∧ w.cell? ⟨g, o + 1, none⟩ = some (.string t.text) ∧ w.cell? ⟨g, o + 2, none⟩ = some (.int .i64 t.num) ∧ w.cell? ⟨g, o + 3, none⟩ = some (.int .i64 t.line)) (hv : w.cell? ⟨g, o + 4, none⟩ = some v) (hk : Kids w v t.kids) : TreeAt w g o t := by
  cases t; rw [TreeAt]; exact ⟨h, v, hv, hk⟩
theorem node_eta (t : Ex.T) : Ex.T.node t.kind t.text t.num t.line t.kids = t := by cases t; rfl
/-- A tree by value: its five cells. -/
abbrev exV (t : Ex.T) (v : Value) : Value := .agg #[.int .i64 t.kind, .string t.text, .int .i64 t.num, .int .i64 t.line, v]
/-- Five cells of a variable of the call's own. -/
def CellsE (w : World) (b : Nat) (t : Ex.T) (v : Value) : Prop := w.cell? ⟨b, 0, none⟩ = some (.int .i64 t.kind) ∧ w.cell? ⟨b, 1, none⟩ = some (.string t.text) ∧ w.cell? ⟨b, 2, none⟩ = some (.int .i64 t.num) ∧ w.cell? ⟨b, 3, none⟩ = some (.int .i64 t.line) ∧ w.cell? ⟨b, 4, none⟩ = some v
theorem CellsE.later {w w' : World} {b : Nat} {t : Ex.T} {v : Value} (h : CellsE w b t v) (hb : Below w.heap.size w w') : CellsE w' b t v :=
  ⟨subw_below hb _ _ _ h.1, subw_below hb _ _ _ h.2.1, subw_below hb _ _ _ h.2.2.1, subw_below hb _ _ _ h.2.2.2.1, subw_below hb _ _ _ h.2.2.2.2⟩
theorem CellsE.new (W : World) (t : Ex.T) (v : Value) (T : TypeId) : CellsE (W.alloc (.cells #[.int .i64 t.kind, .string t.text, .int .i64 t.num, .int .i64 t.line, v] T)) W.heap.size t v := by
  refine ⟨?_, ?_, ?_, ?_, ?_⟩ <;> go_simp
theorem Kids.later {w w' : World} {v : Value} {l : List Ex.T} (h : Kids w v l) (hb : Below w.heap.size w w') : Kids w' v l := Kids.mono (subw_below hb) l h
theorem TreeAt.later {w w' : World} {g o : Nat} {t : Ex.T} (h : TreeAt w g o t) (hb : Below w.heap.size w w') : TreeAt w' g o t := TreeAt.mono (subw_below hb) t h
/-- A variable of five cells, that may be written. -/
def FreeE (w : World) (b : Nat) (k : Int) (t : ByteArray) (n l : Int) (v : Value) : Prop := (w.cell? ⟨b, 0, none⟩ = some (.int .i64 k) ∧ w.cell? ⟨b, 1, none⟩ = some (.string t) ∧ w.cell? ⟨b, 2, none⟩ = some (.int .i64 n) ∧ w.cell? ⟨b, 3, none⟩ = some (.int .i64 l) ∧ w.cell? ⟨b, 4, none⟩ = some v)
  ∧ w.frozen? ⟨b, 0, none⟩ = false ∧ w.frozen? ⟨b, 1, none⟩ = false ∧ w.frozen? ⟨b, 2, none⟩ = false ∧ w.frozen? ⟨b, 3, none⟩ = false ∧ w.frozen? ⟨b, 4, none⟩ = false
theorem FreeE.lt {w : World} {b : Nat} {k n l : Int} {t : ByteArray} {v : Value} (h : FreeE w b k t n l v) : b < w.heap.size := World.block_lt_of_cell? w _ h.1.1
theorem FreeE.later {w w' : World} {b : Nat} {k n l : Int} {t : ByteArray} {v : Value} (h : FreeE w b k t n l v) (hb : Below w.heap.size w w') : FreeE w' b k t n l v := by
  have hl := h.lt
  obtain ⟨⟨a0, a1, a2, a3, a4⟩, f0, f1, f2, f3, f4⟩ := h
  exact ⟨⟨subw_below hb _ _ _ a0, subw_below hb _ _ _ a1, subw_below hb _ _ _ a2, subw_below hb _ _ _ a3, subw_below hb _ _ _ a4⟩,
    (hb.frozen (p := ⟨b, 0, none⟩) hl).trans f0, (hb.frozen (p := ⟨b, 1, none⟩) hl).trans f1, (hb.frozen (p := ⟨b, 2, none⟩) hl).trans f2, (hb.frozen (p := ⟨b, 3, none⟩) hl).trans f3, (hb.frozen (p := ⟨b, 4, none⟩) hl).trans f4⟩
theorem FreeE.new (W : World) (k : Int) (t : ByteArray) (n l : Int) (v : Value) (T : TypeId) : FreeE (W.alloc (.cells #[.int .i64 k, .string t, .int .i64 n, .int .i64 l, v] T)) W.heap.size k t n l v := by
  refine ⟨⟨?_, ?_, ?_, ?_, ?_⟩, ?_, ?_, ?_, ?_, ?_⟩ <;> go_simp
end Go.Proofs.Ytkkopnhbafjnaaa
/- The laws' measure of a tree. No conditions. -/
namespace Go.Proofs.Ytkkopnhbafjnaaa
open Go.RowKit
set_option linter.unusedVariables false

/-- What is left of a number of bytes and kids. -/
def szR (left b : Nat) : Int := if b ≤ left then ((left - b : Nat) : Int) else -1
def SzT (t : Ex.T) : Prop := t.Ok → ∀ (w : World) (v : Value) (left : Nat), Kids w v t.kids → (left : Int) ≤ 1048576 → Calls Try.prog 23 #[exV t v, .int .i64 (left : Int)] w fun e w' => e = .returned (.int .i64 (szR left t.bulk)) ∧ Below w.heap.size w w'
theorem szR_yes {left b : Nat} (h : b ≤ left) : szR left b = ((left - b : Nat) : Int) := if_pos h
theorem szR_no {left b : Nat} (h : ¬ b ≤ left) : szR left b = -1 := if_neg h
/-- Where the measure of a list stands. -/
def SzAt (ks : List Ex.T) (left k m : Nat) : Prop := m + (ks.length + Ex.bulks (ks.take k)) = left
theorem SzAt.start {ks : List Ex.T} {left : Nat} (h : ks.length ≤ left) : SzAt ks left 0 (left - ks.length) := by unfold SzAt; simp [Ex.bulks]; omega
theorem SzAt.next {ks : List Ex.T} {left k m : Nat} (h : SzAt ks left k m) (hk : k < ks.length) (hb : ks[k].bulk ≤ m) : SzAt ks left (k + 1) (m - ks[k].bulk) := by
  unfold SzAt at h ⊢
  rw [Ex.bulks_take ks k hk]; omega
theorem SzAt.bad {ks : List Ex.T} {left k m : Nat} (h : SzAt ks left k m) (hk : k < ks.length) (hb : ¬ ks[k].bulk ≤ m) : szR left (ks.length + Ex.bulks ks) = -1 := by
  unfold SzAt at h
  have h2 := Ex.bulks_take ks k hk
  have h3 := Ex.bulks_take_le ks (k + 1)
  exact szR_no (by omega)
theorem SzAt.over {ks : List Ex.T} {left m : Nat} (h : SzAt ks left ks.length m) : szR left (ks.length + Ex.bulks ks) = (m : Int) := by
  unfold SzAt at h
  rw [List.take_length] at h
  rw [szR_yes (by omega)]; congr 1; omega
theorem ret_ei {a b : Int} (h : b = a) : Ending.returned (.int .i64 a) = .returned (.int .i64 b) := by rw [h]

set_option maxHeartbeats 800000 in
theorem sz_list (ks : List Ex.T) (hI : ∀ x ∈ ks, SzT x) (hok : Ex.Oks ks) (hl : ks.length ≤ 9223372036854775807) (w : World) (v : Value) (left : Nat) (hk : Kids w v ks) (hs : (left : Int) ≤ 1048576) :
    Calls Try.prog 41 #[v, .int .i64 (left : Int)] w fun e w' => e = .returned (.int .i64 (szR left (ks.length + Ex.bulks ks))) ∧ Below w.heap.size w w' := by
  obtain ⟨a, c, rfl⟩ := kids_len hk
  have HK := Lib.hid hk
  have HI := Lib.hid hI
  have HOK := Lib.hid hok
  clear hk hI hok
  by_cases h0 : ks.length ≤ left
  · have HST := Lib.hid (SzAt.start h0)
    have e0 : ((left : Int) - ks.length) = ((left - ks.length : Nat) : Int) := by omega
    have HR0 : Hid (0 ≤ (left : Int) - ks.length) := Lib.hid (by omega)
    have hr0 := HR0.out
    go_enter Try.func41, Try.ntmps41
    go_wp2
    go_loopw [1, 5] (fun m i wr => ∃ k n : Nat, i = .int .i64 k ∧ m = .int .i64 n ∧ k ≤ ks.length ∧ n ≤ left ∧ SzAt ks left k n ∧ Below w.heap.size w wr) (fun _ i _ => ks.length - (intOf i).toNat)
    case atStart => exact ⟨0, left - ks.length, rfl, by rw [← e0], by omega, by omega, HST.out, Below.refl _ _⟩
    case round =>
      clear HST e0 HR0 hr0
      obtain ⟨k, n, rfl, rfl, hk, hn, hat, hb⟩ := hrel
      have HAT := Lib.hid hat
      have HB := Lib.hid hb
      have HK2 := Lib.hid (HK.out.later hb)
      clear hat hb
      by_cases hlt : k < ks.length
      · obtain ⟨g, o, rfl, ht⟩ := kids_at HK2.out k hlt
        obtain ⟨⟨q0, q1, q2, q3⟩, v, q4, hkv⟩ := tree_cells ht
        have HC := Lib.hid (HI.out ks[k] (List.getElem_mem hlt) (Ex.oks_mem HOK.out (List.getElem_mem hlt)) wr v n hkv (by omega))
        have k0 : (0 : Int) ≤ k := by omega
        have k1 : (k : Int) < ks.length := by omega
        by_cases hbk : ks[k].bulk ≤ n
        · have HN := Lib.hid (HAT.out.next hlt hbk)
          have hle : n - ks[k].bulk ≤ left := by omega
          rw [szR_yes hbk] at HC
          generalize n - ks[k].bulk = n2 at HC HN hle
          clear hbk ht hkv HAT
          generalize ks[k] = x at q0 q1 q2 q3 HC
          go_wp2_with (go_at_call 23; refine HC.out.mono ?_; rintro e w1 ⟨rfl, hb1⟩; have HB1 := Lib.hid (below_then HB.out hb1); clear hb1)
          go_roundw
          case rel => exact ⟨k + 1, n2, by go_num, rfl, by omega, hle, HN.out, HB1.out⟩
          case measure => first | (simp [intOf]; done) | (simp [intOf]; omega)
        · have HN := Lib.hid (HAT.out.bad hlt hbk)
          rw [szR_no hbk] at HC
          clear hbk ht hkv HAT
          generalize ks[k] = x at q0 q1 q2 q3 HC
          go_wp2_with (go_at_call 23; refine HC.out.mono ?_; rintro e w1 ⟨rfl, hb1⟩; have HB1 := Lib.hid (below_then HB.out hb1); clear hb1)
          go_ret
          exact ⟨ret_ei HN.out, HB1.out⟩
      · obtain rfl : k = ks.length := by omega
        have HN := Lib.hid HAT.out.over
        go_wp2
        go_ret
        exact ⟨ret_ei HN.out, HB.out⟩
  · have HN := Lib.hid (szR_no (left := left) (b := ks.length + Ex.bulks ks) (by omega))
    have hlt0 : (left : Int) - ks.length < 0 := by omega
    go_enter Try.func41, Try.ntmps41
    go_wp2
    go_ret
    exact ⟨ret_ei HN.out, Below.refl _ _⟩
theorem bulk_eq (t : Ex.T) : t.bulk = t.text.size + (t.kids.length + Ex.bulks t.kids) := by cases t; rw [Ex.T.bulk]; rfl
theorem szR_part {left a b : Nat} (h : a ≤ left) : szR left (a + b) = szR (left - a) b := by
  unfold szR
  by_cases h2 : b ≤ left - a
  · rw [if_pos h2, if_pos (by omega)]; congr 1; omega
  · rw [if_neg h2, if_neg (by omega)]
theorem szR_cases (left b : Nat) : (0 ≤ szR left b ∧ szR left b ≤ left) ∨ szR left b = -1 := by
  unfold szR; split
  · left; omega
  · exact .inr rfl
theorem kids_count {t x : Ex.T} (h : x ∈ t.kids) : x.count < t.count := by
  cases t with
  | node k s n l ks =>
    rw [Ex.T.count]
    have := Ex.counts_mem (l := ks) h
    omega
set_option maxHeartbeats 800000 in
theorem sz_tree : ∀ (N : Nat) (t : Ex.T), t.count ≤ N → SzT t := by
  intro N
  induction N with
  | zero => intro t h; have := Ex.count_pos t; omega
  | succ N ih =>
    intro t hN hok w v left hk hs
    obtain ⟨ht1, hl1, hoks⟩ := Ex.ok_node hok
    have HL := Lib.hid (fun (m : Nat) (hm : (m : Int) ≤ 1048576) W hb => sz_list t.kids (fun x hx => ih x (by have := kids_count hx; omega)) hoks hl1 W v m (hk.later hb) hm)
    have HB := Lib.hid (bulk_eq t)
    clear ih hN hok hoks hl1
    by_cases h0 : t.text.size ≤ left
    · have HP := Lib.hid (szR_part (b := t.kids.length + Ex.bulks t.kids) h0)
      have HC := Lib.hid (szR_cases (left - t.text.size) (t.kids.length + Ex.bulks t.kids))
      have HL1 := Lib.hid (HL.out (left - t.text.size) (by omega) _ (bl1 w (.cells #[.int .i64 t.kind, .string t.text, .int .i64 t.num, .int .i64 t.line, v] 36)))
      have e0 : ((left : Int) - t.text.size) = ((left - t.text.size : Nat) : Int) := by omega
      have hr0 : 0 ≤ (left : Int) - t.text.size := by omega
      generalize szR (left - t.text.size) (t.kids.length + Ex.bulks t.kids) = r at HP HC HL1
      clear hk HL
      rcases HC.out with hc | hc
      · obtain ⟨hc1, hc2⟩ := hc
        go_enter Try.func23, Try.ntmps23
        go_wp2_with (go_at_call 41; refine HL1.out.mono ?_; rintro e w1 ⟨rfl, hb1⟩; have HB1 := Lib.hid (below_then (bl1 _ _) hb1); clear hb1)
        go_ret
        exact ⟨ret_ei (by rw [HB.out, HP.out]), HB1.out⟩
      · subst hc
        go_enter Try.func23, Try.ntmps23
        go_wp2_with (go_at_call 41; refine HL1.out.mono ?_; rintro e w1 ⟨rfl, hb1⟩; have HB1 := Lib.hid (below_then (bl1 _ _) hb1); clear hb1)
        go_ret
        exact ⟨ret_ei (by rw [HB.out, HP.out]), HB1.out⟩
    · have HN := Lib.hid (szR_no (left := left) (b := t.text.size + (t.kids.length + Ex.bulks t.kids)) (by omega))
      have hlt0 : (left : Int) - t.text.size < 0 := by omega
      clear HL hk
      go_enter Try.func23, Try.ntmps23
      go_wp2
      go_ret
      exact ⟨ret_ei (by rw [HB.out, HN.out]), bl1 _ _⟩
end Go.Proofs.Ytkkopnhbafjnaaa
