/- The laws' own helpers over slices of strings: comparing them, and comparing them again after a draw. No conditions. -/
import Derived.Test.YtkhcbahbffjnkaaDoorW6
import Derived.Deep.QuietTactic
import Derived.BigQuiet
import Derived.Deep.RegionHeld3
namespace Go.Proofs.YtkhcbahbffjnkaaDoor
open Go.RowKit
set_option linter.unusedVariables false

/-- A slice of strings that can be read. -/
def Reads (w : World) (v : Value) (l : List ByteArray) : Prop :=
  ((∃ a c, v = .slice a 0 c) ∧ l = []) ∨ ∃ g off cap, v = .slice (some ⟨g, off, none⟩) l.length cap ∧ l.length ≤ maxLen ∧ ∀ i, i < l.length → w.cell? ⟨g, off + i, none⟩ = some (.string (l.getD i ByteArray.empty))

theorem add_lit (g o i : Nat) : (⟨g, o, none⟩ : Addr).add i = ⟨g, o + i, none⟩ := by
  unfold Addr.add; split <;> simp_all

theorem reads_of_owns {w : World} {base : Nat} {v : Value} {l : List ByteArray} (h : Owns w base v l) : Reads w v l := by
  rcases h.2 with ⟨rfl, h0⟩ | ⟨g, cap, cur, rfl, hb, hg, hn, hm, hs, ht⟩
  · exact .inl ⟨⟨_, _, rfl⟩, List.length_eq_zero_iff.1 h0⟩
  · refine .inr ⟨g, 0, cap, rfl, by omega, fun i hi => ?_⟩
    have h1 := h.cells (g := g) rfl i (.string l[i]) (by simp [hi])
    rw [show (⟨g, 0, none⟩ : Addr).add i = ⟨g, 0 + i, none⟩ from add_lit g 0 i] at h1
    rw [h1]; simp [List.getD, List.getElem?_eq_getElem hi]

theorem reads_empty {w : World} {v : Value} (h : Reads w v []) : ∃ a c, v = .slice a 0 c := by
  rcases h with ⟨h, _⟩ | ⟨g, off, cap, rfl, _⟩
  · exact h
  · exact ⟨_, _, rfl⟩
theorem reads_some {w : World} {v : Value} {l : List ByteArray} (h : Reads w v l) (hl : l ≠ []) : ∃ g off cap, v = .slice (some ⟨g, off, none⟩) l.length cap ∧ l.length ≤ maxLen ∧ ∀ i, i < l.length → w.cell? ⟨g, off + i, none⟩ = some (.string (l.getD i ByteArray.empty)) := by
  rcases h with ⟨_, h0⟩ | h
  · exact absurd h0 hl
  · exact h
theorem reads_below {w w1 : World} {v : Value} {l : List ByteArray} (h : Reads w v l) (hb : Below w.heap.size w w1) : Reads w1 v l := by
  rcases h with h | ⟨g, off, cap, hv, hm, hc⟩
  · exact .inl h
  · exact .inr ⟨g, off, cap, hv, hm, fun i hi => (hb.cell (World.block_lt_of_cell? w _ (hc i hi))).trans (hc i hi)⟩

set_option maxHeartbeats 400000 in
theorem eq_strs (v1 v2 : Value) (l : List ByteArray) (w : World) (h1 : Reads w v1 l) (h2 : Reads w v2 l) :
    Calls Tryd.prog 43 #[v1, v2] w fun e w' => e = .returned (.bool true) ∧ Below w.heap.size w w' := by
  by_cases hl : l = []
  · subst hl
    obtain ⟨a1, c1, rfl⟩ := reads_empty h1
    obtain ⟨a2, c2, rfl⟩ := reads_empty h2
    clear h1 h2
    go_enter Tryd.func43, Tryd.ntmps43
    go_wp2
    go_loopw [4, 5] (fun _ i wr => i = .int .i64 0 ∧ Below w.heap.size w wr) (fun _ _ _ => 0)
    case atStart => exact ⟨rfl, Below.refl _ _⟩
    case round =>
      obtain ⟨rfl, hb⟩ := hrel
      go_wp2
      go_ret
      exact ⟨rfl, hb⟩
  · obtain ⟨g1, o1, c1, rfl, hm, hc1⟩ := reads_some h1 hl
    obtain ⟨g2, o2, c2, rfl, _, hc2⟩ := reads_some h2 hl
    clear h1 h2 hl
    generalize hn : l.length = n at *
    unfold maxLen at hm
    have C1 := Lib.hid hc1
    have C2 := Lib.hid hc2
    clear hc1 hc2 hn
    go_enter Tryd.func43, Tryd.ntmps43
    go_wp2
    go_loopw [4, 5] (fun _ i wr => ∃ k : Nat, i = .int .i64 k ∧ k ≤ n ∧ Below w.heap.size w wr) (fun _ i _ => n - (intOf i).toNat)
    case atStart => exact ⟨0, rfl, Nat.zero_le _, Below.refl _ _⟩
    case round =>
      obtain ⟨k, rfl, hk, hb⟩ := hrel
      have HB := Lib.hid hb
      clear hb
      by_cases hlt : k < n
      · have d1 : wr.cell? ⟨g1, o1 + k, none⟩ = some (.string (l.getD k ByteArray.empty)) := (HB.out.cell (World.block_lt_of_cell? w _ (C1.out k hlt))).trans (C1.out k hlt)
        have d2 : wr.cell? ⟨g2, o2 + k, none⟩ = some (.string (l.getD k ByteArray.empty)) := (HB.out.cell (World.block_lt_of_cell? w _ (C2.out k hlt))).trans (C2.out k hlt)
        have k0 : (0 : Int) ≤ k := by omega
        have k1 : (k : Int) < n := by omega
        generalize l.getD k ByteArray.empty = x at d1 d2
        go_wp2
        go_quiet (fail)
        go_wp2
        go_roundw
        case rel => exact ⟨k + 1, by go_num, by omega, below_drewN HB.out _⟩
        case measure => first | (simp [intOf]; done) | (simp [intOf]; omega)
      · go_wp2
        go_ret
        exact ⟨rfl, HB.out⟩

/-- The letters that the laws write into a slice's places. -/
def mark (k : Nat) : ByteArray := ⟨(109 :: Dec.digs k).toArray⟩

/-- n places with letters from k on. -/
def marks (k n : Nat) : List ByteArray := (List.range n).map fun i => mark (k + i)
theorem marks_length (k n : Nat) : (marks k n).length = n := by simp [marks]
theorem marks_get (k n i : Nat) (h : i < n) : (marks k n).getD i ByteArray.empty = mark (k + i) := by
  simp [marks, List.getD, h]

/-- The places of a slice, the first i of them marked. -/
def partly (l : List ByteArray) (i : Nat) : List ByteArray := marks 1 i ++ l.drop i
theorem partly_length (l : List ByteArray) (i : Nat) (h : i ≤ l.length) : (partly l i).length = l.length := by
  simp [partly, marks_length]; omega
theorem marks_succ (k n : Nat) : marks k (n + 1) = marks k n ++ [mark (k + n)] := by simp [marks, List.range_succ]
theorem partly_set (l : List ByteArray) (i : Nat) (h : i < l.length) : (partly l i).set i (mark (1 + i)) = partly l (i + 1) := by
  unfold partly
  rw [marks_succ, List.set_append_right _ _ (by rw [marks_length]; exact Nat.le_refl _), marks_length, Nat.sub_self, List.drop_eq_getElem_cons h, List.append_assoc]
  rfl
theorem partly_zero (l : List ByteArray) : partly l 0 = l := by simp [partly, marks]
theorem partly_all (l : List ByteArray) : partly l l.length = marks 1 l.length := by simp [partly]

theorem owns_cell {w : World} {base g n cap : Nat} {l : List ByteArray} (hn : n = l.length) (h : Owns w base (.slice (some ⟨g, 0, none⟩) n cap) l) (i : Nat) (hi : i < n) : w.cell? ⟨g, i, none⟩ = some (.string (l.getD i ByteArray.empty)) ∧ w.frozen? ⟨g, i, none⟩ = false := by
  subst hn
  refine ⟨?_, World.ownsRow.frozenAt h i⟩
  rw [World.ownsRow.cellAt h i (by omega)]
  simp [List.getD, List.getElem?_eq_getElem hi]

theorem owns_set {w : World} {base g n cap : Nat} {l : List ByteArray} (hn : n = l.length) (h : Owns w base (.slice (some ⟨g, 0, none⟩) n cap) l) (i : Nat) (x : ByteArray) : Owns (w.setCell ⟨g, i, none⟩ (.string x)) base (.slice (some ⟨g, 0, none⟩) n cap) (l.set i x) := by
  subst hn
  have h1 := (World.ownsRow.stored h i (.string x)).1
  unfold Owns
  rw [List.length_set, List.map_set]
  exact h1

end Go.Proofs.YtkhcbahbffjnkaaDoor
