/- Joined texts: Y14. No conditions besides those that each states. -/
import Derived.Test.YtiiogpafgoeblaaZ24
import Derived.Test.YtiiogpafgoeblaaZ25
import Derived.Test.YtiiogpafgoeblaaZ26
import Derived.Test.YtiiogpafgoeblaaZ27
/- The reference model prints every valid tree; its PrintExpression. No conditions. -/
namespace Go.Proofs.Ytiiogpafgoeblaa
open Go.RowKit
set_option linter.unusedVariables false

theorem lvl_le (x : List UInt8) : Ex.lvl x ≤ 11 := by
  unfold Ex.lvl
  cases hf : Ex.levels.find? (fun p => x == p.1) with
  | none => decide
  | some p =>
    have hm := List.mem_of_find?_eq_some hf
    have h10 : ∀ q ∈ Ex.levels, q.2 ≤ 11 := by decide
    exact h10 _ hm
theorem fit_size {x : Ex.T} (h : x.form.length ≤ 600000) (n : Int) : ((str8 (x.fit n)).size : Int) ≤ 1048576 := by
  have : (x.fit n).length ≤ x.form.length + 2 := Ex.brk_len _ _
  rw [str8_size]; omega
theorem form_size {x : Ex.T} (h : x.form.length ≤ 600000) : ((str8 x.form).size : Int) ≤ 1048576 := by rw [str8_size]; omega
theorem len0 {l : List Ex.T} (h : l.length = 0) : l = [] := List.length_eq_zero_iff.1 h
theorem len1 {l : List Ex.T} (h : l.length = 1) : ∃ x, l = [x] := by
  match l, h with
  | [x], _ => exact ⟨x, rfl⟩
theorem len2 {l : List Ex.T} (h : l.length = 2) : ∃ x y, l = [x, y] := by
  match l, h with
  | [x, y], _ => exact ⟨x, y, rfl⟩
theorem len3 {l : List Ex.T} (h : l.length = 3) : ∃ x y z, l = [x, y, z] := by
  match l, h with
  | [x, y, z], _ => exact ⟨x, y, z, rfl⟩
theorem len_pos {l : List Ex.T} (h : 1 ≤ l.length) : ∃ x r, l = x :: r := by
  match l, h with
  | x :: r, _ => exact ⟨x, r, rfl⟩
/-- What a valid tree's node needs. -/
structure Node (t : Ex.T) : Prop where
  kids : ∀ x ∈ t.kids, AtC x ∧ NodeC x ∧ x.form.length ≤ 600000
  form : t.form.length ≤ 600000
  text : (t.text.size : Int) ≤ 128
  few : t.kids.length ≤ 24
  sums : Ex.wsum8 (Ex.parts t.kids) ≤ 1000000
theorem wsum_le {ks : List Ex.T} {k : Nat} (hk : k ≤ (Ex.parts ks).length) : Ex.wsum8 ((Ex.parts ks).take k) ≤ Ex.wsum8 (Ex.parts ks) := by
  generalize Ex.parts ks = ps at *
  induction ps generalizing k with
  | nil => simp
  | cons p r ih =>
    cases k with
    | zero => simp [Ex.wsum8]
    | succ k => rw [List.take_succ_cons, Ex.wsum8, Ex.wsum8]; have := ih (k := k) (by simpa using hk); omega
theorem words_size {ws : List (List UInt8)} (hw : (ws.all fun w => decide (w.length ≤ 7)) = true) {t : Ex.T} (hn : Node t) : ∀ k, k ≤ t.kids.length → ((str8 (Ex.wordsTo ws (Ex.parts t.kids) k)).size : Int) ≤ 1048576 := fun k hk => by
  have h1 := Ex.words_to_len ws (Ex.parts t.kids) (fun w h => of_decide_eq_true (List.all_eq_true.1 hw w h)) k (by rw [Ex.parts_len]; exact hk)
  have h2 := wsum_le (ks := t.kids) (k := k) (by rw [Ex.parts_len]; exact hk)
  have h3 := hn.sums
  rw [str8_size]; omega

theorem node_any (t : Ex.T) (d : Int) (hv : t.valid d = true) (hn : Node t) : NodeC t := by
  obtain ⟨⟨k1, k2⟩, ⟨z1, z2⟩, hw, hnum, hkv⟩ := valid_parts hv
  have hI : ∀ x ∈ t.kids, AtC x := fun x hx => (hn.kids x hx).1
  have hcc : t.kind = 1 ∨ t.kind = 2 ∨ t.kind = 3 ∨ t.kind = 4 ∨ t.kind = 5 ∨ t.kind = 6 ∨ t.kind = 7 ∨ t.kind = 8 ∨ t.kind = 9 ∨ t.kind = 10 ∨ t.kind = 11 ∨ t.kind = 12 ∨ t.kind = 13 ∨ t.kind = 14 ∨ t.kind = 15 ∨ t.kind = 16 ∨ t.kind = 17 ∨ t.kind = 18 ∨ t.kind = 19 ∨ t.kind = 20 ∨ t.kind = 21 ∨ t.kind = 22 ∨ t.kind = 23 ∨ t.kind = 24 ∨ t.kind = 25 ∨ t.kind = 26 ∨ t.kind = 27 ∨ t.kind = 28 ∨ t.kind = 29 := by omega
  rcases hcc with h | h | h | h | h | h | h | h | h | h | h | h | h | h | h | h | h | h | h | h | h | h | h | h | h | h | h | h | h
  · rw [h] at z1 z2 hw hnum
    exact node_1 t h hnum.1 hnum.2
  · rw [h] at z1 z2 hw hnum
    exact node_2 t h hn.text
  · rw [h] at z1 z2 hw hnum
    exact node_3 t h hn.text
  · rw [h] at z1 z2 hw hnum
    exact node_4 t h hn.text
  · rw [h] at z1 z2 hw hnum
    exact node_5 t h hn.text
  · rw [h] at z1 z2 hw hnum
    exact node_6 t h hI hn.few (by have := Ex.seps_len (Ex.parts t.kids) [44, 32] (by decide); have := hn.sums; omega)
  · rw [h] at z1 z2 hw hnum
    have z3 : (1 : Int) ≤ t.kids.length := z1
    have z4 : (t.kids.length : Int) ≤ 1 := z2
    obtain ⟨x, hks⟩ := len1 (l := t.kids) (by omega)
    obtain ⟨Ax, Nx, Fx⟩ := hn.kids x (by rw [hks]; simp)
    by_cases h7 : x.kind = 7
    · exact node_7a t h x hks Nx (form_size Fx) (by rw [h7]; rfl) hn.text (Lib.hid (by rw [Ex.form_7 t h, hks]; show _ = str8 (t.text.data.toList ++ (if x.kind = 7 then Ex.brk true x.form else x.fit 12)); rw [if_pos h7]; show _ = str8 (t.text.data.toList ++ ([40] ++ x.form ++ [41])); apply ByteArray.ext; simp [str8]))
    · exact node_7b t h x hks Ax (fit_size Fx 12) (beq_eq_false_iff_ne.2 h7) hn.text (Lib.hid (by rw [Ex.form_7 t h, hks]; show _ = str8 (t.text.data.toList ++ (if x.kind = 7 then Ex.brk true x.form else x.fit 12)); rw [if_neg h7]; apply ByteArray.ext; simp [str8]))
  · rw [h] at z1 z2 hw hnum
    have z3 : (2 : Int) ≤ t.kids.length := z1
    have z4 : (t.kids.length : Int) ≤ 2 := z2
    obtain ⟨x, y, hks⟩ := len2 (l := t.kids) (by omega)
    obtain ⟨Ax, Nx, Fx⟩ := hn.kids x (by rw [hks]; simp)
    obtain ⟨Ay, Ny, Fy⟩ := hn.kids y (by rw [hks]; simp)
    have hl0 : 0 < Ex.lvl t.text.data.toList := of_decide_eq_true hw
    have hl1 := lvl_le t.text.data.toList
    have hF : t.form = x.fit (Ex.lowL (Ex.lvl t.text.data.toList)) ++ [32] ++ t.text.data.toList ++ [32] ++ y.fit (Ex.lowR (Ex.lvl t.text.data.toList)) := by rw [Ex.form_8 t h, hks]; rfl
    by_cases h8a : Ex.lvl t.text.data.toList = 3
    · exact node_8a t h h8a x y hks Ax (fit_size Fx _) Ay (fit_size Fy _) hn.text (Lib.hid (by rw [hF, h8a]; show _ = str8 (x.fit 4 ++ [32] ++ t.text.data.toList ++ [32] ++ y.fit 3); apply ByteArray.ext; simp [str8]))
    by_cases h8b : Ex.lvl t.text.data.toList = 10
    · exact node_8b t h h8b x y hks Ax (fit_size Fx _) Ay (fit_size Fy _) hn.text (Lib.hid (by rw [hF, h8b]; show _ = str8 (x.fit 11 ++ [32] ++ t.text.data.toList ++ [32] ++ y.fit 10); apply ByteArray.ext; simp [str8]))
    · exact node_8c t h _ rfl (beq_eq_false_iff_ne.2 h8a) (beq_eq_false_iff_ne.2 h8b) hl0 hl1 x y hks Ax (fit_size Fx _) Ay (fit_size Fy _) hn.text (Lib.hid (by rw [hF, show Ex.lowL (Ex.lvl t.text.data.toList) = Ex.lvl t.text.data.toList from if_neg (by omega), show Ex.lowR (Ex.lvl t.text.data.toList) = Ex.lvl t.text.data.toList + 1 from if_neg (by omega)]; apply ByteArray.ext; simp [str8]))
  · rw [h] at z1 z2 hw hnum
    have z3 : (2 : Int) ≤ t.kids.length := z1
    have z4 : (t.kids.length : Int) ≤ 3 := z2
    by_cases h2 : t.kids.length = 2
    · obtain ⟨x, y, hks⟩ := len2 (l := t.kids) (by omega)
      obtain ⟨Ax, Nx, Fx⟩ := hn.kids x (by rw [hks]; simp)
      obtain ⟨Ay, Ny, Fy⟩ := hn.kids y (by rw [hks]; simp)
      exact node_9a t h x y hks Ax (fit_size Fx 4) Ay (fit_size Fy 5) hn.text (Lib.hid (by rw [Ex.form_9 t h, hks]; show _ = str8 (x.fit 4 ++ [32, 116, 111, 32] ++ y.fit 5 ++ []); apply ByteArray.ext; simp [str8]))
    · obtain ⟨x, y, z, hks⟩ := len3 (l := t.kids) (by omega)
      obtain ⟨Ax, Nx, Fx⟩ := hn.kids x (by rw [hks]; simp)
      obtain ⟨Ay, Ny, Fy⟩ := hn.kids y (by rw [hks]; simp)
      obtain ⟨Az, Nz, Fz⟩ := hn.kids z (by rw [hks]; simp)
      exact node_9b t h x y z hks Ax (fit_size Fx 4) Ay (fit_size Fy 5) Az (fit_size Fz 5) hn.text (Lib.hid (by rw [Ex.form_9 t h, hks]; show _ = str8 (x.fit 4 ++ [32, 116, 111, 32] ++ y.fit 5 ++ ([32, 98, 121, 32] ++ z.fit 5)); apply ByteArray.ext; simp [str8]))
  · rw [h] at z1 z2 hw hnum
    have z3 : (1 : Int) ≤ t.kids.length := z1
    obtain ⟨x, r, hks⟩ := len_pos (l := t.kids) (by omega)
    obtain ⟨Ax, Nx, Fx⟩ := hn.kids x (by rw [hks]; simp)
    have hs := hn.sums
    have hf := hn.few
    rw [hks] at hs hf
    exact node_10 t h x r hks Ax (fit_size Fx 13) (fun y hy => hI y (by rw [hks]; exact List.mem_cons_of_mem _ hy)) (by simp at hf; omega) (by have := Ex.seps_len (Ex.parts r) [44, 32] (by decide); rw [Ex.parts, Ex.wsum8] at hs; omega)
  · rw [h] at z1 z2 hw hnum
    have z3 : (2 : Int) ≤ t.kids.length := z1
    have z4 : (t.kids.length : Int) ≤ 2 := z2
    obtain ⟨x, y, hks⟩ := len2 (l := t.kids) (by omega)
    obtain ⟨Ax, Nx, Fx⟩ := hn.kids x (by rw [hks]; simp)
    obtain ⟨Ay, Ny, Fy⟩ := hn.kids y (by rw [hks]; simp)
    exact node_11 t h x y hks Ax (fit_size Fx 13) Ay (fit_size Fy 0) hn.text (Lib.hid (by rw [Ex.form_11 t h, hks]; show _ = str8 (x.fit 13 ++ [91] ++ y.fit 0 ++ [93]); apply ByteArray.ext; simp [str8]))
  · rw [h] at z1 z2 hw hnum
    have z3 : (3 : Int) ≤ t.kids.length := z1
    have z4 : (t.kids.length : Int) ≤ 3 := z2
    obtain ⟨x, y, z, hks⟩ := len3 (l := t.kids) (by omega)
    obtain ⟨Ax, Nx, Fx⟩ := hn.kids x (by rw [hks]; simp)
    obtain ⟨Ay, Ny, Fy⟩ := hn.kids y (by rw [hks]; simp)
    obtain ⟨Az, Nz, Fz⟩ := hn.kids z (by rw [hks]; simp)
    exact node_12 t h x y z hks Ax (fit_size Fx 13) Ay (fit_size Fy 1) Az (fit_size Fz 0) hn.text (Lib.hid (by rw [Ex.form_12 t h, hks]; show _ = str8 (x.fit 13 ++ [91] ++ y.fit 1 ++ [32, 58, 32] ++ z.fit 0 ++ [93]); apply ByteArray.ext; simp [str8]))
  · rw [h] at z1 z2 hw hnum
    have z3 : (1 : Int) ≤ t.kids.length := z1
    have z4 : (t.kids.length : Int) ≤ 1 := z2
    obtain ⟨x, hks⟩ := len1 (l := t.kids) (by omega)
    obtain ⟨Ax, Nx, Fx⟩ := hn.kids x (by rw [hks]; simp)
    exact node_13 t h x hks Ax (fit_size Fx 13) hn.text (Lib.hid (by rw [Ex.form_13 t h, hks]; show _ = str8 (x.fit 13 ++ [46] ++ t.text.data.toList); apply ByteArray.ext; simp [str8]))
  · rw [h] at z1 z2 hw hnum
    exact node_14 t h hI hn.few (by have := Ex.seps_len (Ex.parts t.kids) [59, 32] (by decide); have := hn.sums; omega)
  · rw [h] at z1 z2 hw hnum
    have z3 : (t.kids.length : Int) ≤ 3 := z2
    exact node_15 t h hI (by omega) (words_size (by decide) hn) (fun k hk => fit_size (hn.kids _ (List.getElem_mem hk)).2.2 1)
  · rw [h] at z1 z2 hw hnum
    have z3 : (t.kids.length : Int) ≤ 2 := z2
    exact node_16 t h hI (by omega) (words_size (by decide) hn) (fun k hk => fit_size (hn.kids _ (List.getElem_mem hk)).2.2 1)
  · rw [h] at z1 z2 hw hnum
    have z3 : (t.kids.length : Int) ≤ 2 := z2
    exact node_17 t h hI (by omega) (words_size (by decide) hn) (fun k hk => fit_size (hn.kids _ (List.getElem_mem hk)).2.2 1)
  · rw [h] at z1 z2 hw hnum
    have z3 : (t.kids.length : Int) ≤ 2 := z2
    exact node_18 t h hI (by omega) (words_size (by decide) hn) (fun k hk => fit_size (hn.kids _ (List.getElem_mem hk)).2.2 1)
  · rw [h] at z1 z2 hw hnum
    have z3 : (t.kids.length : Int) ≤ 1 := z2
    exact node_19 t h hI (by omega) (words_size (by decide) hn) (fun k hk => fit_size (hn.kids _ (List.getElem_mem hk)).2.2 1)
  · rw [h] at z1 z2 hw hnum
    have z3 : (1 : Int) ≤ t.kids.length := z1
    obtain ⟨x, r, hks⟩ := len_pos (l := t.kids) (by omega)
    obtain ⟨Ax, Nx, Fx⟩ := hn.kids x (by rw [hks]; simp)
    have hs := hn.sums
    have hf := hn.few
    rw [hks] at hs hf
    exact node_20 t h x r hks hnum.1 hnum.2.1 hnum.2.2.1 Ax (fit_size Fx 1) (fun y hy => hI y (by rw [hks]; exact List.mem_cons_of_mem _ hy)) (fun y hy => fit_size (hn.kids y (by rw [hks]; exact List.mem_cons_of_mem _ hy)).2.2 1) (by simp at hf; omega) (by have := Ex.brs_join_len (Ex.parts (x :: r)); rw [show (Ex.parts (x :: r)).drop 1 = Ex.parts r from rfl] at this; omega)
  · rw [h] at z1 z2 hw hnum
    have z3 : (t.kids.length : Int) ≤ 1 := z2
    exact node_21 t h hI (by omega) (words_size (by decide) hn) (fun k hk => fit_size (hn.kids _ (List.getElem_mem hk)).2.2 1)
  · rw [h] at z1 z2 hw hnum
    have z3 : (t.kids.length : Int) ≤ 2 := z2
    exact node_22 t h hI (by omega) (words_size (by decide) hn) (fun k hk => fit_size (hn.kids _ (List.getElem_mem hk)).2.2 1)
  · rw [h] at z1 z2 hw hnum
    exact node_23 t h hn.text
  · rw [h] at z1 z2 hw hnum
    have z3 : (t.kids.length : Int) ≤ 1 := z2
    exact node_24 t h hI (by omega) (words_size (by decide) hn) (fun k hk => fit_size (hn.kids _ (List.getElem_mem hk)).2.2 1)
  · rw [h] at z1 z2 hw hnum
    exact node_25 t h hn.text
  · rw [h] at z1 z2 hw hnum
    have z3 : (t.kids.length : Int) ≤ 1 := z2
    exact node_26 t h hI (by omega) (words_size (by decide) hn) (fun k hk => fit_size (hn.kids _ (List.getElem_mem hk)).2.2 1)
  · rw [h] at z1 z2 hw hnum
    have z3 : (1 : Int) ≤ t.kids.length := z1
    have z4 : (t.kids.length : Int) ≤ 1 := z2
    obtain ⟨x, hks⟩ := len1 (l := t.kids) (by omega)
    obtain ⟨Ax, Nx, Fx⟩ := hn.kids x (by rw [hks]; simp)
    exact node_27 t h x hks Ax (fit_size Fx 12) hn.text (Lib.hid (by rw [Ex.form_27 t h, hks]; show _ = str8 ([110, 111, 116, 32] ++ x.fit 12); apply ByteArray.ext; simp [str8]))
  · rw [h] at z1 z2 hw hnum
    exact node_28 t h hn.text
  · rw [h] at z1 z2 hw hnum
    exact node_29 t h hI hn.few (by have := Ex.seps_len (Ex.parts t.kids) [44, 32] (by decide); have := hn.sums; omega)
theorem sums_le : ∀ (ks : List Ex.T), (∀ x ∈ ks, x.form.length ≤ 1000 * x.count) → Ex.wsum8 (Ex.parts ks) ≤ 16 * ks.length + 1000 * Ex.counts ks := by
  intro l
  induction l with
  | nil => intro _; simp [Ex.parts, Ex.wsum8]
  | cons y r ih2 =>
    intro hl
    have a := hl y (List.mem_cons_self)
    have b := ih2 (fun x hx => hl x (List.mem_cons_of_mem _ hx))
    rw [Ex.parts, Ex.wsum8, Ex.counts, List.length_cons]
    simp only
    omega
/-- A valid tree of at most 600 nodes is printed as its form. -/
theorem spec_form : ∀ (N : Nat) (t : Ex.T), t.count ≤ N → t.count ≤ 600 → ∀ d, t.valid d = true → NodeC t ∧ AtC t := by
  intro N
  induction N with
  | zero => intro t h; have := Ex.count_pos t; omega
  | succ N ih =>
    intro t hN h6 d hv
    obtain ⟨⟨k1, k2⟩, ⟨_, hz⟩, hw, _, hkv⟩ := valid_parts hv
    have hc := count_eq t
    have hf := form_short _ t (Nat.le_refl _) d hv
    have h24 := kidsOf_le t.kind
    have hk : ∀ x ∈ t.kids, x.count < t.count ∧ x.form.length ≤ 1000 * x.count := fun x hx => ⟨kids_count hx, form_short _ x (Nat.le_refl _) (d + 1) (hkv x hx)⟩
    have hn : Node t := by
      refine ⟨fun x hx => ?_, by omega, by have := words_short hw; omega, by omega, ?_⟩
      · obtain ⟨c1, c2⟩ := hk x hx
        obtain ⟨a, b⟩ := ih x (by omega) (by omega) (d + 1) (hkv x hx)
        exact ⟨b, a, by omega⟩
      · have := sums_le t.kids (fun x hx => (hk x hx).2)
        omega
    have hN2 := node_any t d hv hn
    exact ⟨hN2, spec_at t hN2 k1 k2 (by have := hn.form; omega)⟩
/-- What PrintExpression answers. -/
def prB (t : Ex.T) : Bool := (decide (t.count ≤ 600) && t.valid 1) && decide (t.form.length ≤ 6000)
def prS (t : Ex.T) : ByteArray := if prB t = true then str8 t.form else ByteArray.empty
def RetP (w : World) (s : ByteArray) (b : Bool) (e : Ending) (w' : World) : Prop := e = .returned (.tuple #[.string s, .bool b]) ∧ Below w.heap.size w w'
theorem ret_sb {a b : ByteArray} {c d : Bool} (h1 : a = b) (h2 : c = d) : Ending.returned (.tuple #[.string a, .bool c]) = .returned (.tuple #[.string b, .bool d]) := by rw [h1, h2]
set_option maxHeartbeats 1600000 in
theorem spec_print (t : Ex.T) (hb : t.bulk ≤ 1048576) (w : World) (v : Value) (hk : Kids w v t.kids) : Calls Try.prog 13 #[exV t v] w (RetP w (prS t) (prB t)) := by
  unfold RetP
  have HV := Lib.hid (fun W hW => spec_isvalid t hb W v (hk.later hW))
  have HE := Lib.hid (CellsE.new w t v 45)
  by_cases hv : (decide (t.count ≤ 600) && t.valid 1) = true
  · rw [hv] at HV
    have hv2 := hv
    rw [Bool.and_eq_true] at hv2
    have hc := of_decide_eq_true hv2.1
    have HN := Lib.hid (fun W (hW : Below w.heap.size w W) => (spec_form _ t (Nat.le_refl _) hc 1 hv2.2).1 W v (hk.later hW))
    unfold RetT at HN
    have hz := str8_size t.form
    have hl := form_short _ t (Nat.le_refl _) 1 hv2.2
    by_cases h6 : t.form.length ≤ 6000
    · have e1 : prB t = true := by unfold prB; rw [hv, decide_eq_true h6]; rfl
      have e2 : prS t = str8 t.form := by unfold prS; rw [if_pos e1]
      rw [e1, e2]
      have hs : ((str8 t.form).size : Int) ≤ 6000 := by omega
      clear e1 e2 hv hv2 hk hb hz hl h6 hc
      generalize str8 t.form = s at HN hs ⊢
      go_enter Try.func13, Try.ntmps13
      go_wp2_with fail
      refine (HV.out _ (bl1 _ _)).mono ?_
      rintro e w1 ⟨rfl, b1⟩
      have B1 := Lib.hid (below_then (bl1 _ _) b1)
      obtain ⟨e0, e1, e2, e3, e4⟩ := HE.out.later b1
      clear b1
      go_wp2_with fail
      refine (HN.out _ B1.out).mono ?_
      rintro e w2 ⟨rfl, b2⟩
      have B2 := Lib.hid (below_then B1.out b2)
      clear b2 e0 e1 e2 e3 e4
      go_wp2
      go_ret2
      exact ⟨rfl, B2.out⟩
    · have e1 : prB t = false := by unfold prB; rw [decide_eq_false h6]; simp
      have e2 : prS t = ByteArray.empty := by unfold prS; rw [if_neg (by rw [e1]; decide)]
      rw [e1, e2]
      have hs : (6000 : Int) < ((str8 t.form).size : Int) := by omega
      have hs2 : ((str8 t.form).size : Int) ≤ 1048576 := by omega
      clear e1 e2 hv hv2 hk hb hz hl h6 hc
      generalize str8 t.form = s at HN hs hs2
      go_enter Try.func13, Try.ntmps13
      go_wp2_with fail
      refine (HV.out _ (bl1 _ _)).mono ?_
      rintro e w1 ⟨rfl, b1⟩
      have B1 := Lib.hid (below_then (bl1 _ _) b1)
      obtain ⟨e0, e1, e2, e3, e4⟩ := HE.out.later b1
      clear b1
      go_wp2_with fail
      refine (HN.out _ B1.out).mono ?_
      rintro e w2 ⟨rfl, b2⟩
      have B2 := Lib.hid (below_then B1.out b2)
      clear b2 e0 e1 e2 e3 e4
      go_wp2
      go_ret2
      exact ⟨rfl, B2.out⟩
  · rw [Bool.not_eq_true] at hv
    have e1 : prB t = false := by unfold prB; rw [hv]; rfl
    have e2 : prS t = ByteArray.empty := by unfold prS; rw [if_neg (by rw [e1]; decide)]
    rw [e1, e2]
    rw [hv] at HV
    clear hk hb e1 e2 hv
    go_enter Try.func13, Try.ntmps13
    go_wp2_with fail
    refine (HV.out _ (bl1 _ _)).mono ?_
    rintro e w1 ⟨rfl, b1⟩
    have B1 := Lib.hid (below_then (bl1 _ _) b1)
    clear b1
    go_wp2
    go_ret2
    exact ⟨rfl, B1.out⟩
end Go.Proofs.Ytiiogpafgoeblaa
