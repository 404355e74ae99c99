/- Joined texts: Y15. No conditions besides those that each states. -/
import Derived.Test.YtiiogpafgoeblaaShelf
import Derived.Test.YtiiogpafgoeblaaZ20
import Derived.Test.YtiiogpafgoeblaaZ21
import Derived.Test.YtiiogpafgoeblaaZ22
/- The program's printer: joining, levels, kids. No conditions. -/
namespace Go.Proofs.Ytiiogpafgoeblaa
open Go.RowKit
set_option linter.unusedVariables false

theorem impl_sjoin (v : Value) (l : List ByteArray) (s : ByteArray) (w : World) (hr : StrsAt w v l) (hb : (Lib.join (l.map fun s => s.data.toList) s.data.toList).length ≤ 4194304) (hl : l.length ≤ 1048576) :
    Calls Try.prog 86 #[v, .string s] w (RetT w (str8 (Lib.join (l.map fun s => s.data.toList) s.data.toList))) := by
  unfold RetT
  by_cases h0 : l = []
  · subst h0
    obtain ⟨a, c, rfl⟩ := strsAt_empty hr
    refine (Try.strings_Join_none a c s w).mono ?_
    rintro e w1 ⟨rfl, rfl⟩
    exact ⟨rfl, Below.refl _ _⟩
  · obtain ⟨g, o, c, rfl, hc, hcell⟩ := strsAt_some hr h0
    have hg := World.block_lt_of_cell? w _ (hcell 0 (List.length_pos_iff.2 h0))
    exact Try.strings_Join g o c l s w (fun j x hx => by
      obtain ⟨hj, rfl⟩ := List.getElem?_eq_some_iff.1 hx
      exact hcell j hj) hg (by omega) hc (by omega)
theorem join_none : ∀ (xs : List (List UInt8)), Lib.join xs [] = xs.flatten := by
  intro xs
  cases xs with
  | nil => rfl
  | cons x r =>
    rw [Lib.join_cons, List.flatten_cons]
    congr 1
    unfold Lib.joinTail
    congr 1
    conv => rhs; rw [← List.map_id r]
    exact List.map_congr_left fun y _ => by simp
theorem impl_together (v : Value) (l : List ByteArray) (w : World) (hr : StrsAt w v l) (hb : ((l.map fun s => s.data.toList).flatten).length ≤ 4194304) (hl : l.length ≤ 100) :
    Calls Try.prog 72 #[v] w (RetT w (str8 ((l.map fun s => s.data.toList).flatten))) := by
  have HJ := Lib.hid (impl_sjoin v l ⟨#[]⟩ w hr (by show (Lib.join _ []).length ≤ _; rw [join_none]; exact hb) (by omega))
  have e : Lib.join (l.map fun s => s.data.toList) (⟨#[]⟩ : ByteArray).data.toList = (l.map fun s => s.data.toList).flatten := join_none _
  rw [e] at HJ
  unfold RetT at HJ ⊢
  clear hr hb e
  generalize str8 ((l.map fun s => s.data.toList).flatten) = y at HJ ⊢
  go_enter Try.func72, Try.ntmps72
  go_wp2_with fail
  refine HJ.out.mono ?_
  rintro e w1 ⟨rfl, b1⟩
  go_wp2
  go_ret
  exact ⟨rfl, b1⟩

theorem tog2 (a b : ByteArray) (W : World) (h : ((a.size : Int) + (b.size : Int) : Int) ≤ 4194304) : Calls Try.prog 72 #[.slice (some ⟨W.heap.size, 0, none⟩) 2 2] (W.alloc (.cells #[.string a, .string b] 9)) fun x w' => x = .returned (.string (a ++ b)) ∧ Below (W.alloc (.cells #[.string a, .string b] 9)).heap.size (W.alloc (.cells #[.string a, .string b] 9)) w' := by
  have h2 := impl_together _ [a, b] _ (strs_new W [a, b] (show 2 ≤ maxLen by decide) 9) (by simp only [List.map_cons, List.map_nil, List.flatten_cons, List.flatten_nil, List.length_append, List.length_nil, len8]; omega) (show 2 ≤ 100 by decide)
  have e : str8 (([a, b].map fun s : ByteArray => s.data.toList).flatten) = a ++ b := by apply ByteArray.ext; simp [str8]
  rw [e] at h2
  exact h2
theorem tog3 (a b c : ByteArray) (W : World) (h : ((a.size : Int) + (b.size : Int) + (c.size : Int) : Int) ≤ 4194304) : Calls Try.prog 72 #[.slice (some ⟨W.heap.size, 0, none⟩) 3 3] (W.alloc (.cells #[.string a, .string b, .string c] 9)) fun x w' => x = .returned (.string (a ++ b ++ c)) ∧ Below (W.alloc (.cells #[.string a, .string b, .string c] 9)).heap.size (W.alloc (.cells #[.string a, .string b, .string c] 9)) w' := by
  have h2 := impl_together _ [a, b, c] _ (strs_new W [a, b, c] (show 3 ≤ maxLen by decide) 9) (by simp only [List.map_cons, List.map_nil, List.flatten_cons, List.flatten_nil, List.length_append, List.length_nil, len8]; omega) (show 3 ≤ 100 by decide)
  have e : str8 (([a, b, c].map fun s : ByteArray => s.data.toList).flatten) = a ++ b ++ c := by apply ByteArray.ext; simp [str8]
  rw [e] at h2
  exact h2
theorem tog4 (a b c d : ByteArray) (W : World) (h : ((a.size : Int) + (b.size : Int) + (c.size : Int) + (d.size : Int) : Int) ≤ 4194304) : Calls Try.prog 72 #[.slice (some ⟨W.heap.size, 0, none⟩) 4 4] (W.alloc (.cells #[.string a, .string b, .string c, .string d] 9)) fun x w' => x = .returned (.string (a ++ b ++ c ++ d)) ∧ Below (W.alloc (.cells #[.string a, .string b, .string c, .string d] 9)).heap.size (W.alloc (.cells #[.string a, .string b, .string c, .string d] 9)) w' := by
  have h2 := impl_together _ [a, b, c, d] _ (strs_new W [a, b, c, d] (show 4 ≤ maxLen by decide) 9) (by simp only [List.map_cons, List.map_nil, List.flatten_cons, List.flatten_nil, List.length_append, List.length_nil, len8]; omega) (show 4 ≤ 100 by decide)
  have e : str8 (([a, b, c, d].map fun s : ByteArray => s.data.toList).flatten) = a ++ b ++ c ++ d := by apply ByteArray.ext; simp [str8]
  rw [e] at h2
  exact h2
theorem tog5 (a b c d e : ByteArray) (W : World) (h : ((a.size : Int) + (b.size : Int) + (c.size : Int) + (d.size : Int) + (e.size : Int) : Int) ≤ 4194304) : Calls Try.prog 72 #[.slice (some ⟨W.heap.size, 0, none⟩) 5 5] (W.alloc (.cells #[.string a, .string b, .string c, .string d, .string e] 9)) fun x w' => x = .returned (.string (a ++ b ++ c ++ d ++ e)) ∧ Below (W.alloc (.cells #[.string a, .string b, .string c, .string d, .string e] 9)).heap.size (W.alloc (.cells #[.string a, .string b, .string c, .string d, .string e] 9)) w' := by
  have h2 := impl_together _ [a, b, c, d, e] _ (strs_new W [a, b, c, d, e] (show 5 ≤ maxLen by decide) 9) (by simp only [List.map_cons, List.map_nil, List.flatten_cons, List.flatten_nil, List.length_append, List.length_nil, len8]; omega) (show 5 ≤ 100 by decide)
  have e : str8 (([a, b, c, d, e].map fun s : ByteArray => s.data.toList).flatten) = a ++ b ++ c ++ d ++ e := by apply ByteArray.ext; simp [str8]
  rw [e] at h2
  exact h2
theorem tog6 (a b c d e f : ByteArray) (W : World) (h : ((a.size : Int) + (b.size : Int) + (c.size : Int) + (d.size : Int) + (e.size : Int) + (f.size : Int) : Int) ≤ 4194304) : Calls Try.prog 72 #[.slice (some ⟨W.heap.size, 0, none⟩) 6 6] (W.alloc (.cells #[.string a, .string b, .string c, .string d, .string e, .string f] 9)) fun x w' => x = .returned (.string (a ++ b ++ c ++ d ++ e ++ f)) ∧ Below (W.alloc (.cells #[.string a, .string b, .string c, .string d, .string e, .string f] 9)).heap.size (W.alloc (.cells #[.string a, .string b, .string c, .string d, .string e, .string f] 9)) w' := by
  have h2 := impl_together _ [a, b, c, d, e, f] _ (strs_new W [a, b, c, d, e, f] (show 6 ≤ maxLen by decide) 9) (by simp only [List.map_cons, List.map_nil, List.flatten_cons, List.flatten_nil, List.length_append, List.length_nil, len8]; omega) (show 6 ≤ 100 by decide)
  have e : str8 (([a, b, c, d, e, f].map fun s : ByteArray => s.data.toList).flatten) = a ++ b ++ c ++ d ++ e ++ f := by apply ByteArray.ext; simp [str8]
  rw [e] at h2
  exact h2
/-- The level of a tree at a place. -/
theorem impl_lev_1 (t : Ex.T) (w : World) (g o : Nat) (ht : TreeAt w g o t) (h : t.kind = 1) : Calls Try.prog 71 #[.pointer (some ⟨g, o, none⟩)] w fun e w' => e = .returned (.int .i64 13) ∧ w = w' := by
  obtain ⟨⟨e0, e1, e2, e3⟩, v, e4, hk⟩ := tree_cells ht
  clear ht hk
  go_enter Try.func71, Try.ntmps71
  go_wp2
  go_ret
  exact ⟨rfl, rfl⟩
theorem impl_lev_2 (t : Ex.T) (w : World) (g o : Nat) (ht : TreeAt w g o t) (h : t.kind = 2) : Calls Try.prog 71 #[.pointer (some ⟨g, o, none⟩)] w fun e w' => e = .returned (.int .i64 13) ∧ w = w' := by
  obtain ⟨⟨e0, e1, e2, e3⟩, v, e4, hk⟩ := tree_cells ht
  clear ht hk
  go_enter Try.func71, Try.ntmps71
  go_wp2
  go_ret
  exact ⟨rfl, rfl⟩
theorem impl_lev_3 (t : Ex.T) (w : World) (g o : Nat) (ht : TreeAt w g o t) (h : t.kind = 3) : Calls Try.prog 71 #[.pointer (some ⟨g, o, none⟩)] w fun e w' => e = .returned (.int .i64 13) ∧ w = w' := by
  obtain ⟨⟨e0, e1, e2, e3⟩, v, e4, hk⟩ := tree_cells ht
  clear ht hk
  go_enter Try.func71, Try.ntmps71
  go_wp2
  go_ret
  exact ⟨rfl, rfl⟩
theorem impl_lev_4 (t : Ex.T) (w : World) (g o : Nat) (ht : TreeAt w g o t) (h : t.kind = 4) : Calls Try.prog 71 #[.pointer (some ⟨g, o, none⟩)] w fun e w' => e = .returned (.int .i64 13) ∧ w = w' := by
  obtain ⟨⟨e0, e1, e2, e3⟩, v, e4, hk⟩ := tree_cells ht
  clear ht hk
  go_enter Try.func71, Try.ntmps71
  go_wp2
  go_ret
  exact ⟨rfl, rfl⟩
theorem impl_lev_5 (t : Ex.T) (w : World) (g o : Nat) (ht : TreeAt w g o t) (h : t.kind = 5) : Calls Try.prog 71 #[.pointer (some ⟨g, o, none⟩)] w fun e w' => e = .returned (.int .i64 13) ∧ w = w' := by
  obtain ⟨⟨e0, e1, e2, e3⟩, v, e4, hk⟩ := tree_cells ht
  clear ht hk
  go_enter Try.func71, Try.ntmps71
  go_wp2
  go_ret
  exact ⟨rfl, rfl⟩
theorem impl_lev_6 (t : Ex.T) (w : World) (g o : Nat) (ht : TreeAt w g o t) (h : t.kind = 6) : Calls Try.prog 71 #[.pointer (some ⟨g, o, none⟩)] w fun e w' => e = .returned (.int .i64 13) ∧ w = w' := by
  obtain ⟨⟨e0, e1, e2, e3⟩, v, e4, hk⟩ := tree_cells ht
  clear ht hk
  go_enter Try.func71, Try.ntmps71
  go_wp2
  go_ret
  exact ⟨rfl, rfl⟩
theorem impl_lev_7 (t : Ex.T) (w : World) (g o : Nat) (ht : TreeAt w g o t) (h : t.kind = 7) : Calls Try.prog 71 #[.pointer (some ⟨g, o, none⟩)] w fun e w' => e = .returned (.int .i64 12) ∧ w = w' := by
  obtain ⟨⟨e0, e1, e2, e3⟩, v, e4, hk⟩ := tree_cells ht
  clear ht hk
  go_enter Try.func71, Try.ntmps71
  go_wp2
  go_ret
  exact ⟨rfl, rfl⟩
theorem impl_lev_8 (t : Ex.T) (w : World) (g o : Nat) (ht : TreeAt w g o t) (h : t.kind = 8) : Calls Try.prog 71 #[.pointer (some ⟨g, o, none⟩)] w fun e w' => e = .returned (.int .i64 (Ex.lvl t.text.data.toList)) ∧ w = w' := by
  have HC := Lib.hid (fun wr => impl_level t.text wr)
  generalize Ex.lvl t.text.data.toList = z at HC ⊢
  obtain ⟨⟨e0, e1, e2, e3⟩, v, e4, hk⟩ := tree_cells ht
  clear ht hk
  go_enter Try.func71, Try.ntmps71
  go_wp2_with (go_at_call 85; refine (HC.out _).mono ?_; rintro e w1 ⟨rfl, rfl⟩)
  go_ret
  exact ⟨rfl, rfl⟩
theorem impl_lev_9 (t : Ex.T) (w : World) (g o : Nat) (ht : TreeAt w g o t) (h : t.kind = 9) : Calls Try.prog 71 #[.pointer (some ⟨g, o, none⟩)] w fun e w' => e = .returned (.int .i64 4) ∧ w = w' := by
  obtain ⟨⟨e0, e1, e2, e3⟩, v, e4, hk⟩ := tree_cells ht
  clear ht hk
  go_enter Try.func71, Try.ntmps71
  go_wp2
  go_ret
  exact ⟨rfl, rfl⟩
theorem impl_lev_10 (t : Ex.T) (w : World) (g o : Nat) (ht : TreeAt w g o t) (h : t.kind = 10) : Calls Try.prog 71 #[.pointer (some ⟨g, o, none⟩)] w fun e w' => e = .returned (.int .i64 13) ∧ w = w' := by
  obtain ⟨⟨e0, e1, e2, e3⟩, v, e4, hk⟩ := tree_cells ht
  clear ht hk
  go_enter Try.func71, Try.ntmps71
  go_wp2
  go_ret
  exact ⟨rfl, rfl⟩
theorem impl_lev_11 (t : Ex.T) (w : World) (g o : Nat) (ht : TreeAt w g o t) (h : t.kind = 11) : Calls Try.prog 71 #[.pointer (some ⟨g, o, none⟩)] w fun e w' => e = .returned (.int .i64 13) ∧ w = w' := by
  obtain ⟨⟨e0, e1, e2, e3⟩, v, e4, hk⟩ := tree_cells ht
  clear ht hk
  go_enter Try.func71, Try.ntmps71
  go_wp2
  go_ret
  exact ⟨rfl, rfl⟩
theorem impl_lev_12 (t : Ex.T) (w : World) (g o : Nat) (ht : TreeAt w g o t) (h : t.kind = 12) : Calls Try.prog 71 #[.pointer (some ⟨g, o, none⟩)] w fun e w' => e = .returned (.int .i64 13) ∧ w = w' := by
  obtain ⟨⟨e0, e1, e2, e3⟩, v, e4, hk⟩ := tree_cells ht
  clear ht hk
  go_enter Try.func71, Try.ntmps71
  go_wp2
  go_ret
  exact ⟨rfl, rfl⟩
theorem impl_lev_13 (t : Ex.T) (w : World) (g o : Nat) (ht : TreeAt w g o t) (h : t.kind = 13) : Calls Try.prog 71 #[.pointer (some ⟨g, o, none⟩)] w fun e w' => e = .returned (.int .i64 13) ∧ w = w' := by
  obtain ⟨⟨e0, e1, e2, e3⟩, v, e4, hk⟩ := tree_cells ht
  clear ht hk
  go_enter Try.func71, Try.ntmps71
  go_wp2
  go_ret
  exact ⟨rfl, rfl⟩
theorem impl_lev_14 (t : Ex.T) (w : World) (g o : Nat) (ht : TreeAt w g o t) (h : t.kind = 14) : Calls Try.prog 71 #[.pointer (some ⟨g, o, none⟩)] w fun e w' => e = .returned (.int .i64 13) ∧ w = w' := by
  obtain ⟨⟨e0, e1, e2, e3⟩, v, e4, hk⟩ := tree_cells ht
  clear ht hk
  go_enter Try.func71, Try.ntmps71
  go_wp2
  go_ret
  exact ⟨rfl, rfl⟩
theorem impl_lev_15 (t : Ex.T) (w : World) (g o : Nat) (ht : TreeAt w g o t) (h : t.kind = 15) : Calls Try.prog 71 #[.pointer (some ⟨g, o, none⟩)] w fun e w' => e = .returned (.int .i64 0) ∧ w = w' := by
  obtain ⟨⟨e0, e1, e2, e3⟩, v, e4, hk⟩ := tree_cells ht
  clear ht hk
  go_enter Try.func71, Try.ntmps71
  go_wp2
  go_ret
  exact ⟨rfl, rfl⟩
theorem impl_lev_16 (t : Ex.T) (w : World) (g o : Nat) (ht : TreeAt w g o t) (h : t.kind = 16) : Calls Try.prog 71 #[.pointer (some ⟨g, o, none⟩)] w fun e w' => e = .returned (.int .i64 0) ∧ w = w' := by
  obtain ⟨⟨e0, e1, e2, e3⟩, v, e4, hk⟩ := tree_cells ht
  clear ht hk
  go_enter Try.func71, Try.ntmps71
  go_wp2
  go_ret
  exact ⟨rfl, rfl⟩
theorem impl_lev_17 (t : Ex.T) (w : World) (g o : Nat) (ht : TreeAt w g o t) (h : t.kind = 17) : Calls Try.prog 71 #[.pointer (some ⟨g, o, none⟩)] w fun e w' => e = .returned (.int .i64 0) ∧ w = w' := by
  obtain ⟨⟨e0, e1, e2, e3⟩, v, e4, hk⟩ := tree_cells ht
  clear ht hk
  go_enter Try.func71, Try.ntmps71
  go_wp2
  go_ret
  exact ⟨rfl, rfl⟩
theorem impl_lev_18 (t : Ex.T) (w : World) (g o : Nat) (ht : TreeAt w g o t) (h : t.kind = 18) : Calls Try.prog 71 #[.pointer (some ⟨g, o, none⟩)] w fun e w' => e = .returned (.int .i64 0) ∧ w = w' := by
  obtain ⟨⟨e0, e1, e2, e3⟩, v, e4, hk⟩ := tree_cells ht
  clear ht hk
  go_enter Try.func71, Try.ntmps71
  go_wp2
  go_ret
  exact ⟨rfl, rfl⟩
theorem impl_lev_19 (t : Ex.T) (w : World) (g o : Nat) (ht : TreeAt w g o t) (h : t.kind = 19) : Calls Try.prog 71 #[.pointer (some ⟨g, o, none⟩)] w fun e w' => e = .returned (.int .i64 0) ∧ w = w' := by
  obtain ⟨⟨e0, e1, e2, e3⟩, v, e4, hk⟩ := tree_cells ht
  clear ht hk
  go_enter Try.func71, Try.ntmps71
  go_wp2
  go_ret
  exact ⟨rfl, rfl⟩
theorem impl_lev_20 (t : Ex.T) (w : World) (g o : Nat) (ht : TreeAt w g o t) (h : t.kind = 20) : Calls Try.prog 71 #[.pointer (some ⟨g, o, none⟩)] w fun e w' => e = .returned (.int .i64 0) ∧ w = w' := by
  obtain ⟨⟨e0, e1, e2, e3⟩, v, e4, hk⟩ := tree_cells ht
  clear ht hk
  go_enter Try.func71, Try.ntmps71
  go_wp2
  go_ret
  exact ⟨rfl, rfl⟩
theorem impl_lev_21 (t : Ex.T) (w : World) (g o : Nat) (ht : TreeAt w g o t) (h : t.kind = 21) : Calls Try.prog 71 #[.pointer (some ⟨g, o, none⟩)] w fun e w' => e = .returned (.int .i64 0) ∧ w = w' := by
  obtain ⟨⟨e0, e1, e2, e3⟩, v, e4, hk⟩ := tree_cells ht
  clear ht hk
  go_enter Try.func71, Try.ntmps71
  go_wp2
  go_ret
  exact ⟨rfl, rfl⟩
theorem impl_lev_22 (t : Ex.T) (w : World) (g o : Nat) (ht : TreeAt w g o t) (h : t.kind = 22) : Calls Try.prog 71 #[.pointer (some ⟨g, o, none⟩)] w fun e w' => e = .returned (.int .i64 0) ∧ w = w' := by
  obtain ⟨⟨e0, e1, e2, e3⟩, v, e4, hk⟩ := tree_cells ht
  clear ht hk
  go_enter Try.func71, Try.ntmps71
  go_wp2
  go_ret
  exact ⟨rfl, rfl⟩
theorem impl_lev_23 (t : Ex.T) (w : World) (g o : Nat) (ht : TreeAt w g o t) (h : t.kind = 23) : Calls Try.prog 71 #[.pointer (some ⟨g, o, none⟩)] w fun e w' => e = .returned (.int .i64 13) ∧ w = w' := by
  obtain ⟨⟨e0, e1, e2, e3⟩, v, e4, hk⟩ := tree_cells ht
  clear ht hk
  go_enter Try.func71, Try.ntmps71
  go_wp2
  go_ret
  exact ⟨rfl, rfl⟩
theorem impl_lev_24 (t : Ex.T) (w : World) (g o : Nat) (ht : TreeAt w g o t) (h : t.kind = 24) : Calls Try.prog 71 #[.pointer (some ⟨g, o, none⟩)] w fun e w' => e = .returned (.int .i64 0) ∧ w = w' := by
  obtain ⟨⟨e0, e1, e2, e3⟩, v, e4, hk⟩ := tree_cells ht
  clear ht hk
  go_enter Try.func71, Try.ntmps71
  go_wp2
  go_ret
  exact ⟨rfl, rfl⟩
theorem impl_lev_25 (t : Ex.T) (w : World) (g o : Nat) (ht : TreeAt w g o t) (h : t.kind = 25) : Calls Try.prog 71 #[.pointer (some ⟨g, o, none⟩)] w fun e w' => e = .returned (.int .i64 13) ∧ w = w' := by
  obtain ⟨⟨e0, e1, e2, e3⟩, v, e4, hk⟩ := tree_cells ht
  clear ht hk
  go_enter Try.func71, Try.ntmps71
  go_wp2
  go_ret
  exact ⟨rfl, rfl⟩
theorem impl_lev_26 (t : Ex.T) (w : World) (g o : Nat) (ht : TreeAt w g o t) (h : t.kind = 26) : Calls Try.prog 71 #[.pointer (some ⟨g, o, none⟩)] w fun e w' => e = .returned (.int .i64 0) ∧ w = w' := by
  obtain ⟨⟨e0, e1, e2, e3⟩, v, e4, hk⟩ := tree_cells ht
  clear ht hk
  go_enter Try.func71, Try.ntmps71
  go_wp2
  go_ret
  exact ⟨rfl, rfl⟩
theorem impl_lev_27 (t : Ex.T) (w : World) (g o : Nat) (ht : TreeAt w g o t) (h : t.kind = 27) : Calls Try.prog 71 #[.pointer (some ⟨g, o, none⟩)] w fun e w' => e = .returned (.int .i64 12) ∧ w = w' := by
  obtain ⟨⟨e0, e1, e2, e3⟩, v, e4, hk⟩ := tree_cells ht
  clear ht hk
  go_enter Try.func71, Try.ntmps71
  go_wp2
  go_ret
  exact ⟨rfl, rfl⟩
theorem impl_lev_28 (t : Ex.T) (w : World) (g o : Nat) (ht : TreeAt w g o t) (h : t.kind = 28) : Calls Try.prog 71 #[.pointer (some ⟨g, o, none⟩)] w fun e w' => e = .returned (.int .i64 13) ∧ w = w' := by
  obtain ⟨⟨e0, e1, e2, e3⟩, v, e4, hk⟩ := tree_cells ht
  clear ht hk
  go_enter Try.func71, Try.ntmps71
  go_wp2
  go_ret
  exact ⟨rfl, rfl⟩
theorem impl_lev_29 (t : Ex.T) (w : World) (g o : Nat) (ht : TreeAt w g o t) (h : t.kind = 29) : Calls Try.prog 71 #[.pointer (some ⟨g, o, none⟩)] w fun e w' => e = .returned (.int .i64 13) ∧ w = w' := by
  obtain ⟨⟨e0, e1, e2, e3⟩, v, e4, hk⟩ := tree_cells ht
  clear ht hk
  go_enter Try.func71, Try.ntmps71
  go_wp2
  go_ret
  exact ⟨rfl, rfl⟩
theorem impl_lev (t : Ex.T) (h1 : 1 ≤ t.kind) (h2 : t.kind ≤ 29) (w : World) (g o : Nat) (ht : TreeAt w g o t) : Calls Try.prog 71 #[.pointer (some ⟨g, o, none⟩)] w fun e w' => e = .returned (.int .i64 t.lev) ∧ w = w' := by
  have hc : t.kind = 1 ∨ t.kind = 2 ∨ t.kind = 3 ∨ t.kind = 4 ∨ t.kind = 5 ∨ t.kind = 6 ∨ t.kind = 7 ∨ t.kind = 8 ∨ t.kind = 9 ∨ t.kind = 10 ∨ t.kind = 11 ∨ t.kind = 12 ∨ t.kind = 13 ∨ t.kind = 14 ∨ t.kind = 15 ∨ t.kind = 16 ∨ t.kind = 17 ∨ t.kind = 18 ∨ t.kind = 19 ∨ t.kind = 20 ∨ t.kind = 21 ∨ t.kind = 22 ∨ t.kind = 23 ∨ t.kind = 24 ∨ t.kind = 25 ∨ t.kind = 26 ∨ t.kind = 27 ∨ t.kind = 28 ∨ t.kind = 29 := by omega
  rcases hc with h | h | h | h | h | h | h | h | h | h | h | h | h | h | h | h | h | h | h | h | h | h | h | h | h | h | h | h | h
  · rw [show t.lev = 13 by unfold Ex.T.lev Ex.levK; rw [h]; rfl]; exact impl_lev_1 t w g o ht h
  · rw [show t.lev = 13 by unfold Ex.T.lev Ex.levK; rw [h]; rfl]; exact impl_lev_2 t w g o ht h
  · rw [show t.lev = 13 by unfold Ex.T.lev Ex.levK; rw [h]; rfl]; exact impl_lev_3 t w g o ht h
  · rw [show t.lev = 13 by unfold Ex.T.lev Ex.levK; rw [h]; rfl]; exact impl_lev_4 t w g o ht h
  · rw [show t.lev = 13 by unfold Ex.T.lev Ex.levK; rw [h]; rfl]; exact impl_lev_5 t w g o ht h
  · rw [show t.lev = 13 by unfold Ex.T.lev Ex.levK; rw [h]; rfl]; exact impl_lev_6 t w g o ht h
  · rw [show t.lev = 12 by unfold Ex.T.lev Ex.levK; rw [h]; rfl]; exact impl_lev_7 t w g o ht h
  · rw [show t.lev = Ex.lvl t.text.data.toList by unfold Ex.T.lev Ex.levK; rw [h]; rfl]; exact impl_lev_8 t w g o ht h
  · rw [show t.lev = 4 by unfold Ex.T.lev Ex.levK; rw [h]; rfl]; exact impl_lev_9 t w g o ht h
  · rw [show t.lev = 13 by unfold Ex.T.lev Ex.levK; rw [h]; rfl]; exact impl_lev_10 t w g o ht h
  · rw [show t.lev = 13 by unfold Ex.T.lev Ex.levK; rw [h]; rfl]; exact impl_lev_11 t w g o ht h
  · rw [show t.lev = 13 by unfold Ex.T.lev Ex.levK; rw [h]; rfl]; exact impl_lev_12 t w g o ht h
  · rw [show t.lev = 13 by unfold Ex.T.lev Ex.levK; rw [h]; rfl]; exact impl_lev_13 t w g o ht h
  · rw [show t.lev = 13 by unfold Ex.T.lev Ex.levK; rw [h]; rfl]; exact impl_lev_14 t w g o ht h
  · rw [show t.lev = 0 by unfold Ex.T.lev Ex.levK; rw [h]; rfl]; exact impl_lev_15 t w g o ht h
  · rw [show t.lev = 0 by unfold Ex.T.lev Ex.levK; rw [h]; rfl]; exact impl_lev_16 t w g o ht h
  · rw [show t.lev = 0 by unfold Ex.T.lev Ex.levK; rw [h]; rfl]; exact impl_lev_17 t w g o ht h
  · rw [show t.lev = 0 by unfold Ex.T.lev Ex.levK; rw [h]; rfl]; exact impl_lev_18 t w g o ht h
  · rw [show t.lev = 0 by unfold Ex.T.lev Ex.levK; rw [h]; rfl]; exact impl_lev_19 t w g o ht h
  · rw [show t.lev = 0 by unfold Ex.T.lev Ex.levK; rw [h]; rfl]; exact impl_lev_20 t w g o ht h
  · rw [show t.lev = 0 by unfold Ex.T.lev Ex.levK; rw [h]; rfl]; exact impl_lev_21 t w g o ht h
  · rw [show t.lev = 0 by unfold Ex.T.lev Ex.levK; rw [h]; rfl]; exact impl_lev_22 t w g o ht h
  · rw [show t.lev = 13 by unfold Ex.T.lev Ex.levK; rw [h]; rfl]; exact impl_lev_23 t w g o ht h
  · rw [show t.lev = 0 by unfold Ex.T.lev Ex.levK; rw [h]; rfl]; exact impl_lev_24 t w g o ht h
  · rw [show t.lev = 13 by unfold Ex.T.lev Ex.levK; rw [h]; rfl]; exact impl_lev_25 t w g o ht h
  · rw [show t.lev = 0 by unfold Ex.T.lev Ex.levK; rw [h]; rfl]; exact impl_lev_26 t w g o ht h
  · rw [show t.lev = 12 by unfold Ex.T.lev Ex.levK; rw [h]; rfl]; exact impl_lev_27 t w g o ht h
  · rw [show t.lev = 13 by unfold Ex.T.lev Ex.levK; rw [h]; rfl]; exact impl_lev_28 t w g o ht h
  · rw [show t.lev = 13 by unfold Ex.T.lev Ex.levK; rw [h]; rfl]; exact impl_lev_29 t w g o ht h
/-- A tree in memory is printed as it is. -/
def FormC (t : Ex.T) : Prop := ∀ (w : World) (g o : Nat), TreeAt w g o t → Calls Try.prog 73 #[.pointer (some ⟨g, o, none⟩)] w (RetT w (str8 t.form))
/-- A tree in memory is printed where a level is required. -/
def FitC (t : Ex.T) : Prop := ∀ (n : Int) (w : World) (g o : Nat), TreeAt w g o t → Calls Try.prog 44 #[.pointer (some ⟨g, o, none⟩), .int .i64 n] w (RetT w (str8 (t.fit n)))
set_option maxHeartbeats 1600000 in
theorem impl_fit (t : Ex.T) (hN : FormC t) (h1 : 1 ≤ t.kind) (h2 : t.kind ≤ 29) (hz : t.form.length ≤ 600000) : FitC t := by
  intro n w g o ht
  unfold RetT
  have HT := Lib.hid ht
  have HL := Lib.hid (impl_lev t h1 h2 w g o ht)
  have HF := Lib.hid (show t.fit n = Ex.brk (decide (t.lev < n)) t.form from rfl)
  unfold FormC RetT at hN
  have HN := Lib.hid (hN w g o ht)
  have hsz : ((str8 t.form).size : Int) ≤ 600000 := by rw [str8_size]; omega
  obtain ⟨s, hs⟩ : ∃ s, str8 t.form = s := ⟨_, rfl⟩
  rw [hs] at HN hsz
  have HS := Lib.hid hs
  clear ht hz h1 h2 hs hN
  by_cases hd : t.lev < n
  · have hb : decide (t.lev < n) = true := decide_eq_true hd
    have HB := Lib.hid (brk_yes hb t.form)
    rw [HF.out]
    clear hd
    generalize t.lev = z at HL hb HB HF ⊢
    go_enter Try.func44, Try.ntmps44
    go_wp2_with fail
    refine HL.out.mono ?_
    rintro e w1 ⟨rfl, rfl⟩
    go_wp2_with fail
    refine HN.out.mono ?_
    rintro e w2 ⟨rfl, b2⟩
    have B2 := Lib.hid b2
    clear b2
    go_wp2_with fail
    refine (tog3 _ s _ w2 ?sz).mono ?_
    case sz => show (1 : Int) + s.size + 1 ≤ _; omega
    rintro e w3 ⟨rfl, b3⟩
    have B3 := Lib.hid (below_then (below_then B2.out (bl1 _ _)) b3)
    clear b3
    go_wp2
    go_ret
    exact ⟨ret_str (by rw [HB.out, ← HS.out]; apply ByteArray.ext; simp [str8]), B3.out⟩
  · have hb : decide (t.lev < n) = false := decide_eq_false hd
    have HB := Lib.hid (brk_no hb t.form)
    rw [HF.out]
    clear hd
    generalize t.lev = z at HL hb HB HF ⊢
    go_enter Try.func44, Try.ntmps44
    go_wp2_with fail
    refine HL.out.mono ?_
    rintro e w1 ⟨rfl, rfl⟩
    go_wp2_with fail
    refine HN.out.mono ?_
    rintro e w2 ⟨rfl, b2⟩
    go_wp2
    go_ret
    exact ⟨ret_str (by rw [HB.out, ← HS.out]), b2⟩
theorem impl_kid (t : Ex.T) (k : Nat) (hk : k < t.kids.length) (hl : t.kids.length ≤ 24) (hF : FitC t.kids[k]) (n : Int) (w : World) (g o : Nat) (ht : TreeAt w g o t) : Calls Try.prog 111 #[.pointer (some ⟨g, o, none⟩), .int .i64 k, .int .i64 n] w (RetT w (str8 (t.kids[k].fit n))) := by
  unfold RetT
  obtain ⟨⟨e0, e1, e2, e3⟩, v, e4, hkk⟩ := tree_cells ht
  obtain ⟨a, c, rfl⟩ := kids_len hkk
  obtain ⟨g2, o2, rfl, hx⟩ := kids_at hkk k hk
  have HC := Lib.hid (hF n w _ _ hx)
  unfold RetT at HC
  have k0 : (0 : Int) ≤ k := by omega
  have k1 : (k : Int) < t.kids.length := by omega
  generalize str8 (t.kids[k].fit n) = y at HC ⊢
  clear ht hkk hx hF
  go_enter Try.func111, Try.ntmps111
  go_wp2_with fail
  refine HC.out.mono ?_
  rintro e w1 ⟨rfl, b1⟩
  go_wp2
  go_ret
  exact ⟨rfl, b1⟩
set_option maxHeartbeats 1600000 in
theorem impl_list (ks : List Ex.T) (hI : ∀ x ∈ ks, FitC x) (s : ByteArray) (hl : ks.length ≤ 24) (hb : (Ex.seps (Ex.parts ks) s.data.toList).length ≤ 4194304) (w : World) (v : Value) (hk : Kids w v ks) :
    Calls Try.prog 91 #[v, .string s] w (RetT w (str8 (Ex.seps (Ex.parts ks) s.data.toList))) := by
  unfold RetT
  obtain ⟨i0, hi, hz0, hz1, hz2⟩ := info_parts info_string
  obtain ⟨w0, hmk0, hown0, hgr0⟩ := run_make_full (P := Try.prog) w w.heap.size 23 9 i0 (.string ByteArray.empty) 1 Try.underlying23 hi hz0 hz1 .i64 .i64 ks.length (by rw [hz2]; omega) (max_small (by omega)) (Nat.le_refl _)
  have HO0 := Lib.hid (owns_made (by rw [show (madeCells (Value.string ByteArray.empty).cells (ks.length * 1)).toList = List.replicate (ks.length * 1) (.string ByteArray.empty) from toList_madeCells_one _ _, Nat.mul_one] at hown0; exact hown0))
  have HB0 := Lib.hid (show Below w.heap.size w w0 from (Below.refl _ _).grown hgr0 (Nat.le_refl _) (fun k hk => by cases hk))
  have HJ : Hid (∀ W v', StrsAt W v' (fitsS ks 0) → Calls Try.prog 86 #[v', .string s] W fun e w' => e = .returned (.string (str8 (Ex.seps (Ex.parts ks) s.data.toList))) ∧ Below W.heap.size W w') := Lib.hid (fun W v' hv => by
    have h := impl_sjoin v' (fitsS ks 0) s W hv (by rw [fitsS_seps]; exact hb) (by rw [fitsS_len]; omega)
    rw [fitsS_seps] at h
    exact h)
  have hfl : (fitsS ks 0).length = ks.length := fitsS_len ks 0
  have HFL := Lib.hid hfl
  have HG : Hid (∀ k (h : k < ks.length), (fitsS ks 0).getD k ByteArray.empty = str8 (ks[k].fit 0)) := Lib.hid (fun k h => by
    unfold fitsS
    rw [List.getD_eq_getElem?_getD, List.getElem?_map, List.getElem?_eq_getElem h]; rfl)
  generalize str8 (Ex.seps (Ex.parts ks) s.data.toList) = y at HJ ⊢
  obtain ⟨a, c, rfl⟩ := kids_len hk
  have HK := Lib.hid hk
  have HI := Lib.hid hI
  unfold FitC RetT at HI
  clear hk hI hown0 hgr0 hfl hb
  go_enter Try.func91, Try.ntmps91
  go_wp2
  clear hmk0
  go_loopw [6, 12] (fun _ i wr => ∃ k : Nat, i = .int .i64 k ∧ k ≤ ks.length ∧ Owns wr w.heap.size (.slice (some ⟨w.heap.size, 0, none⟩) ks.length ks.length) (filled (fitsS ks 0) k) ∧ Below w.heap.size w wr) (fun _ i _ => ks.length - (intOf i).toNat)
  case atStart => exact ⟨0, rfl, Nat.zero_le _, by rw [filled_zero, HFL.out]; exact HO0.out, HB0.out⟩
  case round =>
    obtain ⟨k, rfl, hk, ho, hb⟩ := hrel
    have HO := Lib.hid ho
    have HB := Lib.hid hb
    have HK2 := Lib.hid (HK.out.later hb)
    clear ho hb
    by_cases hlt : k < ks.length
    · obtain ⟨g, o, rfl, ht⟩ := kids_at HK2.out k hlt
      have HC := Lib.hid (HI.out ks[k] (List.getElem_mem hlt) 0 wr _ _ ht)
      have HN := Lib.hid (HG.out k hlt)
      have HL := Lib.hid (show ks.length = (filled (fitsS ks 0) k).length by rw [filled_length _ _ (by have := HFL.out; omega)]; exact HFL.out.symm)
      have k0 : (0 : Int) ≤ k := by omega
      have k1 : (k : Int) < ks.length := by omega
      clear ht
      generalize ks[k] = x at HC HN
      generalize str8 (x.fit 0) = z at HC HN
      go_wp2_with fail
      refine HC.out.mono ?_
      rintro e w1 ⟨rfl, b1⟩
      have HB1 := Lib.hid (below_then HB.out b1)
      have HO1 := Lib.hid (owns_below HO.out b1)
      have d2 := (owns_cell HL.out HO1.out k hlt).1
      have f2 := (owns_cell HL.out HO1.out k hlt).2
      clear b1
      go_wp2
      go_roundw
      case rel => exact ⟨k + 1, by go_num, by omega, by rw [← filled_set (fitsS ks 0) k (by have := HFL.out; omega), HN.out]; exact owns_set HL.out HO1.out k z, HB1.out.setCell (Nat.le_refl _) _⟩
      case measure => first | (simp [intOf]; done) | (simp [intOf]; omega)
    · obtain rfl : k = ks.length := by omega
      have HA : Hid (StrsAt wr (.slice (some ⟨w.heap.size, 0, none⟩) ks.length ks.length) (fitsS ks 0)) := Lib.hid (by have h := HO.out; rw [← HFL.out, filled_all] at h; rw [← HFL.out]; exact strsAt_owns h)
      have HJ1 := Lib.hid (HJ.out _ _ HA.out)
      clear HJ HA HO
      go_wp2_with fail
      refine HJ1.out.mono ?_
      rintro e w1 ⟨rfl, b1⟩
      have HB1 := Lib.hid (below_then HB.out b1)
      clear b1
      go_wp2
      go_ret
      exact ⟨rfl, HB1.out⟩
end Go.Proofs.Ytiiogpafgoeblaa
