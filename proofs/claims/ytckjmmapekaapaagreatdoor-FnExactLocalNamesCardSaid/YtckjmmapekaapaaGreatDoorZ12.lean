/- Joined texts: N29, U1. No conditions besides those that each states. -/
import Derived.Test.YtckjmmapekaapaaGreatDoorZ11
/- What the laws write into a list of trees. No conditions. -/
namespace Go.Proofs.YtckjmmapekaapaaGreatDoor
open Go.RowKit
set_option linter.unusedVariables false

mutual
/-- The tree that the laws write, from the letter k on. -/
def Ex.T.mrk : Ex.T → Nat → Ex.T
  | .node _ _ _ _ ks, k => .node (k : Int) (mark (k + 1)) ((k : Int) + 1 + 1) ((k : Int) + 1 + 1 + 1) (Ex.mrks ks (k + 4))
def Ex.mrks : List Ex.T → Nat → List Ex.T
  | [], _ => []
  | x :: r, k => x.mrk k :: Ex.mrks r (k + 4 * x.count)
end
theorem Ex.mrk_eq (t : Ex.T) (k : Nat) : t.mrk k = .node (k : Int) (mark (k + 1)) ((k : Int) + 1 + 1) ((k : Int) + 1 + 1 + 1) (Ex.mrks t.kids (k + 4)) := by cases t; rw [Ex.T.mrk]; rfl
theorem Ex.mrks_len : ∀ (l : List Ex.T) (k : Nat), (Ex.mrks l k).length = l.length := by
  intro l
  induction l with
  | nil => intro k; rw [Ex.mrks]
  | cons x r ih => intro k; rw [Ex.mrks, List.length_cons, ih, List.length_cons]
theorem Ex.mrks_snoc : ∀ (l : List Ex.T) (x : Ex.T) (k : Nat), Ex.mrks (l ++ [x]) k = Ex.mrks l k ++ [x.mrk (k + 4 * Ex.counts l)] := by
  intro l
  induction l with
  | nil => intro x k; simp [Ex.mrks, Ex.counts]
  | cons y r ih => intro x k; rw [List.cons_append, Ex.mrks, ih, Ex.mrks, Ex.counts, List.cons_append, show k + 4 * y.count + 4 * Ex.counts r = k + 4 * (y.count + Ex.counts r) by omega]
theorem Ex.mrks_get : ∀ (l : List Ex.T) (k i : Nat) (h : i < l.length), (Ex.mrks l k)[i]? = some (l[i].mrk (k + 4 * Ex.counts (l.take i))) := by
  intro l
  induction l with
  | nil => intro k i h; simp at h
  | cons y r ih =>
    intro k i h
    rw [Ex.mrks]
    match i with
    | 0 => simp [Ex.counts]
    | i + 1 =>
      have h2 := ih (k + 4 * y.count) i (by simpa using h)
      rw [List.getElem?_cons_succ, h2, List.take_succ_cons, Ex.counts, show k + 4 * y.count + 4 * Ex.counts (List.take i r) = k + 4 * (y.count + Ex.counts (List.take i r)) by omega]
      rfl
/-- Nothing that lay is turned but the blocks F. -/
def OnlyF (F : List Nat) (w w' : World) : Prop := Below 0 w w' ∧ ∀ b, b ∉ F → b < w.heap.size → w'.heap[b]? = w.heap[b]?
theorem OnlyF.refl (F : List Nat) (w : World) : OnlyF F w w := ⟨Below.refl _ _, fun _ _ _ => rfl⟩
theorem OnlyF.trans {F G : List Nat} {A B C : World} (h : OnlyF F A B) (k : OnlyF G B C) (hG : ∀ b ∈ G, b ∈ F) : OnlyF F A C :=
  ⟨h.1.trans k.1, fun b h1 h2 => (k.2 b (fun e => h1 (hG b e)) (Nat.lt_of_lt_of_le h2 h.1.size)).trans (h.2 b h1 h2)⟩
theorem OnlyF.later {F : List Nat} {A B C : World} (h : OnlyF F A B) (k : Below B.heap.size B C) : OnlyF F A C :=
  ⟨h.1.trans (k.mono (Nat.zero_le _)), fun b h1 h2 => (k.block b (Nat.lt_of_lt_of_le h2 h.1.size)).trans (h.2 b h1 h2)⟩
theorem OnlyF.set {F : List Nat} {A B : World} {g : Nat} (h : OnlyF F A B) (hg : g ∈ F) (o : Nat) (u : Value) : OnlyF F A (B.setCell ⟨g, o, none⟩ u) :=
  ⟨h.1.setCell (p := ⟨g, o, none⟩) (Nat.zero_le _) u, fun b h1 h2 => (Below.heap_setCell B ⟨g, o, none⟩ u b (fun e => h1 (e ▸ hg))).trans (h.2 b h1 h2)⟩
theorem OnlyF.below {F : List Nat} {A B : World} {m : Nat} (h : OnlyF F A B) (hF : ∀ b ∈ F, m ≤ b) (hm : m ≤ A.heap.size) : Below m A B :=
  ⟨h.1.os, h.1.tape, h.1.output, h.1.size, fun b hb => h.2 b (fun e => by have := hF b e; omega) (by omega)⟩
theorem rowV_mark {p : El} {k n l : Int} {s : ByteArray} {ks : List Ex.T} : ∀ (le : List El) (i : Nat), le[i]? = some p → ((((rowV le).set (i * 5) (.int .i64 k)).set (i * 5 + 1) (.string s)).set (i * 5 + 2) (.int .i64 n)).set (i * 5 + 3) (.int .i64 l) = rowV (le.set i (.node k s n l ks, p.2)) := by
  intro le
  induction le with
  | nil => intro i h; simp at h
  | cons q r ih =>
    intro i h
    match i with
    | 0 =>
      obtain rfl : q = p := Option.some.inj h
      rw [show (q :: r).set 0 (.node k s n l ks, q.2) = (.node k s n l ks, q.2) :: r from rfl, rowV_cons, rowV_cons]
      rfl
    | i + 1 =>
      have h2 := ih i h
      rw [show (q :: r).set (i + 1) (.node k s n l ks, p.2) = q :: r.set i (.node k s n l ks, p.2) from rfl, rowV_cons, rowV_cons, ← h2, show (i + 1) * 5 = i * 5 + 5 by omega]
      rfl
/-- Where the writing of a list stands. -/
def MkAt (w : World) (g c : Nat) (l : List El) (ks : List Ex.T) (k0 i : Nat) (wr : World) : Prop := ∃ le : List El, le.map Prod.snd = l.map Prod.snd ∧ le.map Prod.fst = Ex.mrks (ks.take i) k0 ++ ks.drop i ∧ RowE wr g ks.length c (rowV le) ∧ Els wr le ∧ OnlyF (g :: elsF l) w wr
theorem elsF_snd {l m : List El} (h : l.map Prod.snd = m.map Prod.snd) : elsF l = elsF m := by
  have e : ∀ l : List El, elsF l = (l.map Prod.snd).flatMap Prod.snd := fun l => by simp [elsF, List.flatMap_map]
  rw [e, e, h]
theorem MkAt.start {w : World} {g c k0 : Nat} {l : List El} {ks : List Ex.T} (hl : l.map Prod.fst = ks) (hr : RowE w g ks.length c (rowV l)) (he : Els w l) : MkAt w g c l ks k0 0 w :=
  ⟨l, rfl, by rw [List.take_zero, Ex.mrks, List.drop_zero]; exact hl, hr, he, OnlyF.refl _ _⟩
/-- An element of what is not yet written. -/
theorem mk_at {le l : List El} {ks : List Ex.T} {k0 i : Nat} (h1 : le.map Prod.snd = l.map Prod.snd) (h2 : le.map Prod.fst = Ex.mrks (ks.take i) k0 ++ ks.drop i) (hi : i < ks.length) : ∃ v F, le[i]? = some (ks[i], v, F) ∧ l[i]?.map Prod.snd = some (v, F) := by
  have hlen : le.length = ks.length := by
    have h3 := congrArg List.length h2
    rw [List.length_map, List.length_append, Ex.mrks_len, List.length_take, List.length_drop] at h3
    omega
  have e1 : (le.map Prod.fst)[i]? = some ks[i] := by
    rw [h2, List.getElem?_append_right (by rw [Ex.mrks_len, List.length_take]; omega), Ex.mrks_len, List.length_take, Nat.min_eq_left (by omega), Nat.sub_self, List.drop_eq_getElem_cons hi]
    rfl
  rw [List.getElem?_map] at e1
  have e2 := congrArg (fun x => x[i]?) h1
  simp only [List.getElem?_map] at e2
  rw [List.getElem?_eq_getElem (by omega)] at e1 e2
  refine ⟨le[i].2.1, le[i].2.2, ?_, ?_⟩
  · rw [List.getElem?_eq_getElem (by omega)]
    have e3 : le[i].1 = ks[i] := Option.some.inj e1
    rw [← e3]
  · rw [← e2]; rfl
end Go.Proofs.YtckjmmapekaapaaGreatDoor
/- Data in memory: numbers, texts, lists of trees, and slices of cells; reading them, and owning them. No conditions. -/
namespace Go.Proofs.YtckjmmapekaapaaGreatDoor
open Go.RowKit
set_option linter.unusedVariables false

/-- Data: a slice has its number of elements and its cells. -/
inductive D where
  | int (n : Int)
  | bool (b : Bool)
  | str (s : ByteArray)
  | ex (ks : List Ex.T)
  | any
  | row (n : Nat) (l : List D)
mutual
/-- A value reads as data. -/
def Is (w : World) : D → Value → Prop
  | .int n, v => v = .int .i64 n
  | .bool b, v => v = .bool b
  | .str s, v => v = .string s
  | .ex ks, v => Kids w v ks
  | .any, v => True
  | .row n l, v => ∃ a c, v = .slice a n c ∧ (l = [] ∨ n ≤ c ∧ ∃ g o, a = some ⟨g, o, none⟩ ∧ IsAll w g o l)
/-- Cells read as data. -/
def IsAll (w : World) (g : Nat) : Nat → List D → Prop
  | _, [] => True
  | o, d :: r => (∃ u, w.cell? ⟨g, o, none⟩ = some u ∧ Is w d u) ∧ IsAll w g (o + 1) r
end
theorem isAll_at {w : World} {g : Nat} : ∀ {l : List D} {o : Nat}, IsAll w g o l → ∀ j d, l[j]? = some d → ∃ u, w.cell? ⟨g, o + j, none⟩ = some u ∧ Is w d u := by
  intro l
  induction l with
  | nil => intro o _ j d h; simp at h
  | cons x r ih =>
    intro o h j d hj
    rw [IsAll] at h
    match j with
    | 0 => obtain rfl : x = d := Option.some.inj hj; exact h.1
    | j + 1 =>
      have h2 := ih h.2 j d hj
      rw [show o + 1 + j = o + (j + 1) by omega] at h2
      exact h2
theorem isAll_of {w : World} {g : Nat} : ∀ {l : List D} {o : Nat}, (∀ j d, l[j]? = some d → ∃ u, w.cell? ⟨g, o + j, none⟩ = some u ∧ Is w d u) → IsAll w g o l := by
  intro l
  induction l with
  | nil => intro o _; rw [IsAll]; trivial
  | cons x r ih =>
    intro o h
    rw [IsAll]
    have h0 := h 0 x rfl
    rw [Nat.add_zero] at h0
    refine ⟨h0, ih fun j d hj => ?_⟩
    have h2 := h (j + 1) d hj
    rw [show o + (j + 1) = o + 1 + j by omega] at h2
    exact h2
mutual
theorem Is.mono {w w' : World} (h : Subw w w') : ∀ (d : D) (v : Value), Is w d v → Is w' d v
  | .int n, v, hx => by rw [Is] at hx ⊢; exact hx
  | .bool b, v, hx => by rw [Is] at hx ⊢; exact hx
  | .str s, v, hx => by rw [Is] at hx ⊢; exact hx
  | .ex ks, v, hx => by rw [Is] at hx ⊢; exact Kids.mono h ks hx
  | .any, v, hx => by rw [Is]; trivial
  | .row n l, v, hx => by
    rw [Is] at hx ⊢
    obtain ⟨a, c, e, hx⟩ := hx
    rcases hx with hx | ⟨hc, g, o, e2, hx⟩
    · exact ⟨a, c, e, .inl hx⟩
    · exact ⟨a, c, e, .inr ⟨hc, g, o, e2, IsAll.mono h l g o hx⟩⟩
theorem IsAll.mono {w w' : World} (h : Subw w w') : ∀ (l : List D) (g o : Nat), IsAll w g o l → IsAll w' g o l
  | [], g, o, hx => by rw [IsAll]; trivial
  | d :: r, g, o, hx => by
    rw [IsAll] at hx ⊢
    obtain ⟨⟨u, hu, hd⟩, hr⟩ := hx
    exact ⟨⟨u, h _ _ _ hu, Is.mono h d u hd⟩, IsAll.mono h r g (o + 1) hr⟩
end
theorem Is.later {w w' : World} {d : D} {v : Value} (h : Is w d v) (hb : Below w.heap.size w w') : Is w' d v := Is.mono (subw_below hb) d v h
theorem is_slice {w : World} {n : Nat} {l : List D} {v : Value} (h : Is w (.row n l) v) : ∃ a c, v = .slice a n c := by
  rw [Is] at h
  obtain ⟨a, c, e, _⟩ := h
  exact ⟨a, c, e⟩
theorem is_cap {w : World} {a : Option Addr} {n c : Nat} {l : List D} (h : Is w (.row n l) (.slice a n c)) (hl : l ≠ []) : n ≤ c := by
  rw [Is] at h
  obtain ⟨a2, c2, e, h⟩ := h
  injection e with e1 e2 e3
  subst e1 e3
  rcases h with h | ⟨hc, _⟩
  · exact absurd h hl
  · exact hc
/-- An element's cells. -/
theorem is_elem {w : World} {a : Option Addr} {n c : Nat} {l : List D} (h : Is w (.row n l) (.slice a n c)) (i : Nat) (ds : List D) (h0 : ds ≠ []) (hd : ∀ j d, ds[j]? = some d → l[i + j]? = some d) : ∃ g o, a = some ⟨g, o, none⟩ ∧ ∀ j d, ds[j]? = some d → ∃ u, w.cell? ⟨g, o + i + j, none⟩ = some u ∧ Is w d u := by
  rw [Is] at h
  obtain ⟨a2, c2, e, h⟩ := h
  injection e with e1 e2 e3
  subst e1
  rcases h with rfl | ⟨_, g, o, e4, h⟩
  · cases ds with
    | nil => exact absurd rfl h0
    | cons x r => have := hd 0 x rfl; simp at this
  · refine ⟨g, o, e4, fun j d hj => ?_⟩
    have h2 := isAll_at h (i + j) d (hd j d hj)
    rw [← Nat.add_assoc] at h2
    exact h2
/-- The list of a list's cells, z cells an element. -/
theorem flat_at {α β : Type} (f : α → List β) {z : Nat} (hz : ∀ x, (f x).length = z) : ∀ (l : List α) (i j : Nat) (x : α), l[i]? = some x → j < z → (l.flatMap f)[i * z + j]? = (f x)[j]? := by
  intro l
  induction l with
  | nil => intro i j x h; simp at h
  | cons y r ih =>
    intro i j x h hj
    rw [List.flatMap_cons]
    match i with
    | 0 =>
      obtain rfl : y = x := Option.some.inj h
      rw [Nat.zero_mul, Nat.zero_add, List.getElem?_append_left (by rw [hz]; exact hj)]
    | i + 1 =>
      rw [List.getElem?_append_right (by rw [hz, Nat.succ_mul]; omega), hz, show (i + 1) * z + j - z = i * z + j by rw [Nat.succ_mul]; omega]
      exact ih i j x h hj
theorem flat_len {α β : Type} (f : α → List β) {z : Nat} (hz : ∀ x, (f x).length = z) (l : List α) : (l.flatMap f).length = l.length * z := by
  induction l with
  | nil => simp
  | cons x r ih => rw [List.flatMap_cons, List.length_append, hz, ih, List.length_cons, Nat.succ_mul]; omega
theorem is_nth {α : Type} (f : α → List D) {z : Nat} (hz : ∀ x, (f x).length = z) (h0 : 0 < z) {w : World} {a : Option Addr} {n c : Nat} {l : List α} (h : Is w (.row n (l.flatMap f)) (.slice a n c)) (i : Nat) (x : α) (hx : l[i]? = some x) : ∃ g o, a = some ⟨g, o, none⟩ ∧ ∀ j d, (f x)[j]? = some d → ∃ u, w.cell? ⟨g, o + i * z + j, none⟩ = some u ∧ Is w d u := by
  refine is_elem h (i * z) (f x) (fun e => by have := hz x; rw [e] at this; simp at this; omega) fun j d hj => ?_
  have hjz : j < z := by rw [← hz x]; exact (List.getElem?_eq_some_iff.1 hj).1
  rw [flat_at f hz l i j x hx hjz]; exact hj

theorem frozen_keep {w w' : World} {b : Nat} (h : w'.heap[b]? = w.heap[b]?) (o : Nat) : w'.frozen? ⟨b, o, none⟩ = w.frozen? ⟨b, o, none⟩ := World.frozen?_of_block (a := ⟨b, o, none⟩) h
/-- A variable's cells, that may be written. -/
def Var (w : World) (b : Nat) (us : List Value) : Prop := ∀ j u, us[j]? = some u → w.cell? ⟨b, j, none⟩ = some u ∧ w.frozen? ⟨b, j, none⟩ = false
theorem Var.keep {w w' : World} {b : Nat} {us : List Value} (h : Var w b us) (hb : w'.heap[b]? = w.heap[b]?) : Var w' b us := fun j u hj => ⟨(cell_keep hb j).trans (h j u hj).1, (frozen_keep hb j).trans (h j u hj).2⟩
theorem Var.lt {w : World} {b : Nat} {u : Value} {us : List Value} (h : Var w b (u :: us)) : b < w.heap.size := World.block_lt_of_cell? w _ (h 0 u rfl).1
theorem Var.later {w w' : World} {b : Nat} {us : List Value} (h : Var w b us) (hb : Below w.heap.size w w') : Var w' b us := fun j u hj => by
  have hl : b < w.heap.size := World.block_lt_of_cell? w _ (h j u hj).1
  exact (h.keep (hb.block b hl)) j u hj
theorem Var.new (W : World) (A : Array Value) (T : TypeId) : Var (W.alloc (.cells A T)) W.heap.size A.toList := by
  intro j u hj
  have hj2 : A[j]? = some u := by rw [← Array.getElem?_toList]; exact hj
  have hb := World.alloc_heap_new W (.cells A T)
  constructor
  · simp only [World.cell?, hb]
    simp [hj2]
  · simp only [World.frozen?, hb]
    simp
theorem Var.set {w : World} {b : Nat} {us : List Value} (h : Var w b us) (j : Nat) (u : Value) : Var (w.setCell ⟨b, j, none⟩ u) b (us.set j u) := by
  intro i x hi
  rw [List.getElem?_set] at hi
  rw [World.frozen?_setCell]
  split at hi
  · rename_i e
    subst e
    split at hi
    · rename_i hlt
      obtain rfl := Option.some.inj hi
      obtain ⟨hc, hf⟩ := h j _ (List.getElem?_eq_getElem hlt)
      refine ⟨?_, hf⟩
      go_simp
    · cases hi
  · rename_i e
    obtain ⟨hc, hf⟩ := h i x hi
    refine ⟨?_, hf⟩
    have hne : ¬ i = j := fun h => e h.symm
    rw [← hc]
    go_simp
theorem Var.oth {w : World} {b : Nat} {us : List Value} (h : Var w b us) (c j : Nat) (hc : b ≠ c) (u : Value) : Var (w.setCell ⟨c, j, none⟩ u) b us := h.keep (Below.heap_setCell w ⟨c, j, none⟩ u b hc)

/-- Blocks apart from each other. -/
def Apart (F G : List Nat) : Prop := ∀ b ∈ F, b ∉ G
theorem apart_nil (F : List Nat) : Apart F [] := fun b _ h => by cases h
theorem nil_apart (F : List Nat) : Apart [] F := fun b h => by cases h
mutual
/-- A value of data whose slices lie in the blocks F, each met once. -/
def Own (w : World) : D → Value → List Nat → Prop
  | .int n, v, F => v = .int .i64 n ∧ F = []
  | .bool b, v, F => v = .bool b ∧ F = []
  | .str s, v, F => v = .string s ∧ F = []
  | .ex ks, v, F => OwnK w v ks F
  | .any, v, F => F = []
  | .row n l, v, F => ∃ a c, v = .slice a n c ∧ ((l = [] ∧ F = []) ∨ (l ≠ [] ∧ n ≤ c ∧ ∃ g o Fs, a = some ⟨g, o, none⟩ ∧ F = g :: Fs.flatten ∧ (g ∉ Fs.flatten ∧ Fs.Pairwise Apart) ∧ OwnAll w g o l Fs))
def OwnAll (w : World) (g : Nat) : Nat → List D → List (List Nat) → Prop
  | _, [], Fs => Fs = []
  | o, d :: r, Fs => ∃ u G Gs, Fs = G :: Gs ∧ (w.cell? ⟨g, o, none⟩ = some u ∧ w.frozen? ⟨g, o, none⟩ = false) ∧ Own w d u G ∧ OwnAll w g (o + 1) r Gs
end
theorem ownAll_at {w : World} {g : Nat} : ∀ {l : List D} {o : Nat} {Fs : List (List Nat)}, OwnAll w g o l Fs → Fs.length = l.length ∧ ∀ j d, l[j]? = some d → ∃ u G, Fs[j]? = some G ∧ w.cell? ⟨g, o + j, none⟩ = some u ∧ w.frozen? ⟨g, o + j, none⟩ = false ∧ Own w d u G := by
  intro l
  induction l with
  | nil => intro o Fs h; rw [OwnAll] at h; subst h; exact ⟨rfl, fun j d h => by simp at h⟩
  | cons x r ih =>
    intro o Fs h
    rw [OwnAll] at h
    obtain ⟨u, G, Gs, rfl, ⟨hc, hf⟩, hd, hr⟩ := h
    obtain ⟨hl, hr⟩ := ih hr
    refine ⟨by rw [List.length_cons, List.length_cons, hl], fun j d hj => ?_⟩
    match j with
    | 0 => obtain rfl : x = d := Option.some.inj hj; exact ⟨u, G, rfl, hc, hf, hd⟩
    | j + 1 =>
      have h2 := hr j d hj
      rw [show o + 1 + j = o + (j + 1) by omega] at h2
      exact h2
theorem ownAll_of {w : World} {g : Nat} : ∀ {l : List D} {o : Nat} {Fs : List (List Nat)}, Fs.length = l.length → (∀ j d, l[j]? = some d → ∃ u G, Fs[j]? = some G ∧ w.cell? ⟨g, o + j, none⟩ = some u ∧ w.frozen? ⟨g, o + j, none⟩ = false ∧ Own w d u G) → OwnAll w g o l Fs := by
  intro l
  induction l with
  | nil => intro o Fs h _; rw [OwnAll]; exact List.length_eq_zero_iff.1 h
  | cons x r ih =>
    intro o Fs hl h
    rw [OwnAll]
    cases Fs with
    | nil => simp at hl
    | cons G Gs =>
      obtain ⟨u, G2, e, hc, hf, hd⟩ := h 0 x rfl
      obtain rfl : G = G2 := Option.some.inj e
      rw [Nat.add_zero] at hc hf
      refine ⟨u, G, Gs, rfl, ⟨hc, hf⟩, hd, ih (by simpa using hl) fun j d hj => ?_⟩
      have h2 := h (j + 1) d hj
      rw [show o + (j + 1) = o + 1 + j by omega] at h2
      exact h2
theorem mem_at {Fs : List (List Nat)} {j : Nat} {G : List Nat} (h : Fs[j]? = some G) {b : Nat} (hb : b ∈ G) : b ∈ Fs.flatten := List.mem_flatten.2 ⟨G, List.mem_of_getElem? h, hb⟩
mutual
theorem Own.keep {w w' : World} : ∀ (d : D) (v : Value) (F : List Nat), (∀ b ∈ F, w'.heap[b]? = w.heap[b]?) → Own w d v F → Own w' d v F
  | .int n, v, F, hF, hx => by rw [Own] at hx ⊢; exact hx
  | .bool n, v, F, hF, hx => by rw [Own] at hx ⊢; exact hx
  | .str n, v, F, hF, hx => by rw [Own] at hx ⊢; exact hx
  | .ex ks, v, F, hF, hx => by rw [Own] at hx ⊢; exact OwnK.keep ks hF hx
  | .any, v, F, hF, hx => by rw [Own] at hx ⊢; exact hx
  | .row n l, v, F, hF, hx => by
    rw [Own] at hx ⊢
    obtain ⟨a, c, e, hx⟩ := hx
    rcases hx with hx | ⟨h0, hc, g, o, Fs, e2, rfl, hd, hx⟩
    · exact ⟨a, c, e, .inl hx⟩
    · exact ⟨a, c, e, .inr ⟨h0, hc, g, o, Fs, e2, rfl, hd, OwnAll.keep l g o Fs (hF g List.mem_cons_self) (fun b hb => hF b (List.mem_cons_of_mem _ hb)) hx⟩⟩
theorem OwnAll.keep {w w' : World} : ∀ (l : List D) (g o : Nat) (Fs : List (List Nat)), w'.heap[g]? = w.heap[g]? → (∀ b ∈ Fs.flatten, w'.heap[b]? = w.heap[b]?) → OwnAll w g o l Fs → OwnAll w' g o l Fs
  | [], g, o, Fs, hg, hF, hx => by rw [OwnAll] at hx ⊢; exact hx
  | d :: r, g, o, Fs, hg, hF, hx => by
    rw [OwnAll] at hx ⊢
    obtain ⟨u, G, Gs, rfl, ⟨hc, hf⟩, hd, hr⟩ := hx
    rw [List.flatten_cons] at hF
    exact ⟨u, G, Gs, rfl, ⟨(cell_keep hg o).trans hc, (frozen_keep hg o).trans hf⟩, Own.keep d u G (fun b hb => hF b (List.mem_append_left _ hb)) hd, OwnAll.keep r g (o + 1) Gs hg (fun b hb => hF b (List.mem_append_right _ hb)) hr⟩
end
mutual
theorem Own.is {w : World} : ∀ (d : D) (v : Value) (F : List Nat), Own w d v F → Is w d v
  | .int n, v, F, hx => by rw [Own] at hx; rw [Is]; exact hx.1
  | .bool n, v, F, hx => by rw [Own] at hx; rw [Is]; exact hx.1
  | .str n, v, F, hx => by rw [Own] at hx; rw [Is]; exact hx.1
  | .ex ks, v, F, hx => by rw [Own] at hx; rw [Is]; exact OwnK.kids ks hx
  | .any, v, F, hx => by rw [Is]; trivial
  | .row n l, v, F, hx => by
    rw [Own] at hx
    rw [Is]
    obtain ⟨a, c, e, hx⟩ := hx
    rcases hx with hx | ⟨h0, hc, g, o, Fs, e2, rfl, hd, hx⟩
    · exact ⟨a, c, e, .inl hx.1⟩
    · exact ⟨a, c, e, .inr ⟨hc, g, o, e2, OwnAll.is l g o Fs hx⟩⟩
theorem OwnAll.is {w : World} : ∀ (l : List D) (g o : Nat) (Fs : List (List Nat)), OwnAll w g o l Fs → IsAll w g o l
  | [], g, o, Fs, hx => by rw [IsAll]; trivial
  | d :: r, g, o, Fs, hx => by
    rw [OwnAll] at hx
    rw [IsAll]
    obtain ⟨u, G, Gs, rfl, ⟨hc, hf⟩, hd, hr⟩ := hx
    exact ⟨⟨u, hc, Own.is d u G hd⟩, OwnAll.is r g (o + 1) Gs hr⟩
end
theorem Own.later {w w' : World} {d : D} {v : Value} {F : List Nat} (h : Own w d v F) (hF : ∀ b ∈ F, b < w.heap.size) (hb : Below w.heap.size w w') : Own w' d v F := Own.keep d v F (fun b hb2 => hb.block b (hF b hb2)) h
/-- A row's cells, each with its blocks. -/
def RowD (w : World) (g o : Nat) (l : List D) (Fs : List (List Nat)) : Prop := (g ∉ Fs.flatten ∧ Fs.Pairwise Apart) ∧ Fs.length = l.length ∧ ∀ j d, l[j]? = some d → ∃ u G, Fs[j]? = some G ∧ w.cell? ⟨g, o + j, none⟩ = some u ∧ w.frozen? ⟨g, o + j, none⟩ = false ∧ Own w d u G
theorem own_of_rowD {w : World} {g o n c : Nat} {l : List D} {Fs : List (List Nat)} (h : RowD w g o l Fs) (hl : l ≠ []) (hc : n ≤ c) : Own w (.row n l) (.slice (some ⟨g, o, none⟩) n c) (g :: Fs.flatten) := by
  rw [Own]
  exact ⟨_, _, rfl, .inr ⟨hl, hc, g, o, Fs, rfl, rfl, h.1, ownAll_of h.2.1 h.2.2⟩⟩
theorem own_nil {w : World} {a : Option Addr} {n c : Nat} : Own w (.row n []) (.slice a n c) [] := by
  rw [Own]; exact ⟨_, _, rfl, .inl ⟨rfl, rfl⟩⟩
theorem rowD_of_own {w : World} {n : Nat} {v : Value} {l : List D} {F : List Nat} (h : Own w (.row n l) v F) (hl : l ≠ []) : ∃ g o c Fs, v = .slice (some ⟨g, o, none⟩) n c ∧ F = g :: Fs.flatten ∧ RowD w g o l Fs := by
  rw [Own] at h
  obtain ⟨a, c, e, h⟩ := h
  rcases h with h | ⟨_, _, g, o, Fs, rfl, rfl, hd, h⟩
  · exact absurd h.1 hl
  · obtain ⟨h1, h2⟩ := ownAll_at h
    exact ⟨g, o, c, Fs, e, rfl, hd, h1, h2⟩
theorem own_cap {w : World} {a : Option Addr} {n c : Nat} {l : List D} {F : List Nat} (h : Own w (.row n l) (.slice a n c) F) (hl : l ≠ []) : n ≤ c := is_cap (Own.is _ _ _ h) hl
theorem own_slice {w : World} {n : Nat} {v : Value} {l : List D} {F : List Nat} (h : Own w (.row n l) v F) : ∃ a c, v = .slice a n c := is_slice (Own.is _ _ _ h)
theorem RowD.keep {w w' : World} {g o : Nat} {l : List D} {Fs : List (List Nat)} (h : RowD w g o l Fs) (hg : w'.heap[g]? = w.heap[g]?) (hF : ∀ b ∈ Fs.flatten, w'.heap[b]? = w.heap[b]?) : RowD w' g o l Fs :=
  ⟨h.1, h.2.1, fun j d hj => by
    obtain ⟨u, G, e, hc, hf, hd⟩ := h.2.2 j d hj
    exact ⟨u, G, e, (cell_keep hg _).trans hc, (frozen_keep hg _).trans hf, Own.keep d u G (fun b hb => hF b (mem_at e hb)) hd⟩⟩
theorem pairwise_get {Fs : List (List Nat)} (h : Fs.Pairwise Apart) {i j : Nat} {F G : List Nat} (hi : Fs[i]? = some F) (hj : Fs[j]? = some G) (hne : i ≠ j) : Apart F G := by
  rw [List.pairwise_iff_getElem] at h
  obtain ⟨hi1, hi2⟩ := List.getElem?_eq_some_iff.1 hi
  obtain ⟨hj1, hj2⟩ := List.getElem?_eq_some_iff.1 hj
  rcases Nat.lt_or_ge i j with hlt | hge
  · have h7 := h i j hi1 hj1 hlt
    rw [hi2, hj2] at h7
    exact h7
  · have h7 := h j i hj1 hi1 (by omega)
    rw [hi2, hj2] at h7
    exact fun b h1 h2 => h7 b h2 h1
theorem pairwise_of {Fs : List (List Nat)} (h : ∀ (i j : Nat) (F G : List Nat), i < j → Fs[i]? = some F → Fs[j]? = some G → Apart F G) : Fs.Pairwise Apart := by
  rw [List.pairwise_iff_getElem]
  exact fun i j hi hj hij => h i j _ _ hij (List.getElem?_eq_getElem hi) (List.getElem?_eq_getElem hj)
theorem mem_set {Fs : List (List Nat)} {j : Nat} {G : List Nat} {b : Nat} (h : b ∈ (Fs.set j G).flatten) : b ∈ Fs.flatten ∨ b ∈ G := by
  obtain ⟨K, hK, hb⟩ := List.mem_flatten.1 h
  rcases List.mem_or_eq_of_mem_set hK with h2 | rfl
  · exact .inl (List.mem_flatten.2 ⟨K, h2, hb⟩)
  · exact .inr hb
/-- A store into a row's cell. -/
theorem RowD.put {w : World} {g o j : Nat} {l : List D} {Fs : List (List Nat)} {d : D} {u : Value} {G : List Nat} (h : RowD w g o l Fs) (hj : j < l.length) (hd : Own w d u G) (hg : g ∉ G) (hG : ∀ (i : Nat) (K : List Nat), i ≠ j → Fs[i]? = some K → Apart K G) : RowD (w.setCell ⟨g, o + j, none⟩ u) g o (l.set j d) (Fs.set j G) := by
  obtain ⟨⟨h1, h2⟩, h3, h4⟩ := h
  have keep : ∀ b, b ≠ g → (w.setCell ⟨g, o + j, none⟩ u).heap[b]? = w.heap[b]? := fun b hb => Below.heap_setCell w ⟨g, o + j, none⟩ u b hb
  refine ⟨⟨fun hb => ?_, pairwise_of fun i k F K hik hi hk => ?_⟩, by rw [List.length_set, List.length_set, h3], fun i d2 hi => ?_⟩
  · rcases mem_set hb with hb | hb
    · exact h1 hb
    · exact hg hb
  · rw [List.getElem?_set] at hi hk
    split at hi
    · split at hi
      · obtain rfl := Option.some.inj hi
        rename_i e _
        rw [if_neg (by omega)] at hk
        exact fun b h5 h6 => hG k K (by omega) hk b h6 h5
      · cases hi
    · split at hk
      · split at hk
        · obtain rfl := Option.some.inj hk
          exact hG i F (by omega) hi
        · cases hk
      · exact pairwise_get h2 hi hk (by omega)
  · rw [List.getElem?_set] at hi
    split at hi
    · rename_i e
      subst e
      obtain rfl := Option.some.inj hi
      obtain ⟨x, hx⟩ : ∃ x, l[j]? = some x := ⟨_, List.getElem?_eq_getElem hj⟩
      obtain ⟨u0, G0, e0, hc, hf, _⟩ := h4 j x hx
      refine ⟨u, G, by rw [List.getElem?_set_self (by omega)], ?_, by rw [World.frozen?_setCell]; exact hf, Own.keep d u G (fun b hb => keep b (fun e => hg (e ▸ hb))) hd⟩
      go_simp
    · rename_i e
      obtain ⟨u0, G0, e0, hc, hf, ho⟩ := h4 i d2 hi
      refine ⟨u0, G0, by rw [List.getElem?_set_ne e]; exact e0, ?_, by rw [World.frozen?_setCell]; exact hf, Own.keep d2 u0 G0 (fun b hb => keep b (fun e5 => h1 (e5 ▸ mem_at e0 hb))) ho⟩
      have hne : ¬ o + i = o + j := by omega
      rw [← hc]
      go_simp
/-- A call that turns only the blocks of one cell. -/
theorem RowD.sub {w w' : World} {g o j : Nat} {l : List D} {Fs : List (List Nat)} {d : D} {u : Value} {G : List Nat} (h : RowD w g o l Fs) (hj : j < l.length) (hu : w.cell? ⟨g, o + j, none⟩ = some u) (hG : Fs[j]? = some G) (ho : OnlyF G w w') (hlt : ∀ b ∈ g :: Fs.flatten, b < w.heap.size) (hd : Own w' d u G) : RowD w' g o (l.set j d) Fs := by
  obtain ⟨⟨h1, h2⟩, h3, h4⟩ := h
  have hgg : w'.heap[g]? = w.heap[g]? := ho.2 g (fun hb => h1 (mem_at hG hb)) (hlt g List.mem_cons_self)
  refine ⟨⟨h1, h2⟩, by rw [List.length_set, h3], fun i d2 hi => ?_⟩
  rw [List.getElem?_set] at hi
  split at hi
  · rename_i e
    subst e
    obtain rfl := Option.some.inj hi
    obtain ⟨x, hx⟩ : ∃ x, l[j]? = some x := ⟨_, List.getElem?_eq_getElem hj⟩
    obtain ⟨u0, G0, e0, hc, hf, _⟩ := h4 j x hx
    exact ⟨u, G, hG, (cell_keep hgg _).trans hu, (frozen_keep hgg _).trans hf, hd⟩
  · rename_i e
    obtain ⟨u0, G0, e0, hc, hf, ho2⟩ := h4 i d2 hi
    exact ⟨u0, G0, e0, (cell_keep hgg _).trans hc, (frozen_keep hgg _).trans hf, Own.keep d2 u0 G0 (fun b hb => ho.2 b (fun hb2 => pairwise_get h2 e0 hG (by omega) b hb hb2) (hlt b (List.mem_cons_of_mem _ (mem_at e0 hb)))) ho2⟩
end Go.Proofs.YtckjmmapekaapaaGreatDoor
