/- The laws' own helpers over slices of strings: comparing them, and comparing them again after a draw. No conditions. -/
import Derived.Test.YtkkopnhbafjnaaaW6
import Derived.Deep.QuietTactic
import Derived.BigQuiet
import Derived.Deep.RegionHeld3
namespace Go.Proofs.Ytkkopnhbafjnaaa
open Go.RowKit
set_option linter.unusedVariables false

/-- A slice of strings that can be read. -/
def Reads (w : World) (v : Value) (l : List ByteArray) : Prop :=
  ((∃ a c, v = .slice a 0 c) ∧ l = []) ∨ ∃ g off cap, v = .slice (some ⟨g, off, none⟩) l.length cap ∧ l.length ≤ maxLen ∧ ∀ i, i < l.length → w.cell? ⟨g, off + i, none⟩ = some (.string (l.getD i ByteArray.empty))

theorem add_lit (g o i : Nat) : (⟨g, o, none⟩ : Addr).add i = ⟨g, o + i, none⟩ := by
  unfold Addr.add; split <;> simp_all

theorem reads_of_owns {w : World} {base : Nat} {v : Value} {l : List ByteArray} (h : Owns w base v l) : Reads w v l := by
  rcases h.2 with ⟨rfl, h0⟩ | ⟨g, cap, cur, rfl, hb, hg, hn, hm, hs, ht⟩
  · exact .inl ⟨⟨_, _, rfl⟩, List.length_eq_zero_iff.1 h0⟩
  · refine .inr ⟨g, 0, cap, rfl, by omega, fun i hi => ?_⟩
    have h1 := h.cells (g := g) rfl i (.string l[i]) (by simp [hi])
    rw [show (⟨g, 0, none⟩ : Addr).add i = ⟨g, 0 + i, none⟩ from add_lit g 0 i] at h1
    rw [h1]; simp [List.getD, List.getElem?_eq_getElem hi]

theorem reads_empty {w : World} {v : Value} (h : Reads w v []) : ∃ a c, v = .slice a 0 c := by
  rcases h with ⟨h, _⟩ | ⟨g, off, cap, rfl, _⟩
  · exact h
  · exact ⟨_, _, rfl⟩
theorem reads_some {w : World} {v : Value} {l : List ByteArray} (h : Reads w v l) (hl : l ≠ []) : ∃ g off cap, v = .slice (some ⟨g, off, none⟩) l.length cap ∧ l.length ≤ maxLen ∧ ∀ i, i < l.length → w.cell? ⟨g, off + i, none⟩ = some (.string (l.getD i ByteArray.empty)) := by
  rcases h with ⟨_, h0⟩ | h
  · exact absurd h0 hl
  · exact h
theorem reads_below {w w1 : World} {v : Value} {l : List ByteArray} (h : Reads w v l) (hb : Below w.heap.size w w1) : Reads w1 v l := by
  rcases h with h | ⟨g, off, cap, hv, hm, hc⟩
  · exact .inl h
  · exact .inr ⟨g, off, cap, hv, hm, fun i hi => (hb.cell (World.block_lt_of_cell? w _ (hc i hi))).trans (hc i hi)⟩

/-- The letters that the laws write into a slice's places. -/
def mark (k : Nat) : ByteArray := ⟨(109 :: Dec.digs k).toArray⟩

set_option maxHeartbeats 400000 in
theorem mark_text (n : Int) (w : World) (h0 : 0 < n) (h1 : n ≤ 9223372036854775807) :
    Calls Try.prog 61 #[.int .i64 n] w fun e w' => e = .returned (.string (mark n.toNat)) ∧ Below w.heap.size w w' := by
  go_enter Try.func61, Try.ntmps61
  go_wp2
  go_loopw [0, 3] (fun x o wr => ∃ (m : Int) (s : ByteArray), x = .int .i64 m ∧ 0 ≤ m ∧ m ≤ n ∧ o = .string s ∧ Below w.heap.size w wr ∧ Dec.digs n.toNat = Dec.digs m.toNat ++ s.data.toList) (fun x _ _ => (intOf x).toNat)
  case atStart => exact ⟨n, _, rfl, by omega, by omega, rfl, Below.refl _ _, by simp⟩
  case round =>
    obtain ⟨m, s, rfl, h2, h3, rfl, h4, h5⟩ := hrel
    have hsz := fmt_size (by omega) (by omega) h5
    have H5 := Lib.hid h5
    clear h5
    by_cases hm : m = 0
    · subst hm
      go_wp2
      go_ret
      exact ⟨by unfold mark; rw [H5.out]; simp only [Dec.digs_zero, Int.toNat_zero, List.nil_append]; rw [← cons_eq]; rfl, h4⟩
    · have hcv := conv_one (48 + m % 10) wr
      have hm' : 0 < m := by omega
      go_wp2
      all_goals go_roundw
      case rel => exact ⟨m / 10, _, rfl, by omega, by omega, rfl, h4.alloc h4.size _, fmt_round (by omega) H5.out⟩
      case measure => simp [intOf]; omega

/-- n places with letters from k on. -/
def marks (k n : Nat) : List ByteArray := (List.range n).map fun i => mark (k + i)
theorem marks_length (k n : Nat) : (marks k n).length = n := by simp [marks]
theorem marks_get (k n i : Nat) (h : i < n) : (marks k n).getD i ByteArray.empty = mark (k + i) := by
  simp [marks, List.getD, h]

theorem mark_at (k : Nat) (w : World) (h1 : (k : Int) ≤ 1048577) :
    Calls Try.prog 61 #[.int .i64 ((k : Int) + 1)] w fun e w' => e = .returned (.string (mark (1 + k))) ∧ Below w.heap.size w w' := by
  have h := mark_text ((k : Int) + 1) w (by omega) (by omega)
  rw [show ((k : Int) + 1).toNat = 1 + k by omega] at h
  exact h

/-- The places of a slice, the first i of them marked. -/
def partly (l : List ByteArray) (i : Nat) : List ByteArray := marks 1 i ++ l.drop i
theorem partly_length (l : List ByteArray) (i : Nat) (h : i ≤ l.length) : (partly l i).length = l.length := by
  simp [partly, marks_length]; omega
theorem marks_succ (k n : Nat) : marks k (n + 1) = marks k n ++ [mark (k + n)] := by simp [marks, List.range_succ]
theorem partly_set (l : List ByteArray) (i : Nat) (h : i < l.length) : (partly l i).set i (mark (1 + i)) = partly l (i + 1) := by
  unfold partly
  rw [marks_succ, List.set_append_right _ _ (by rw [marks_length]; exact Nat.le_refl _), marks_length, Nat.sub_self, List.drop_eq_getElem_cons h, List.append_assoc]
  rfl
theorem partly_zero (l : List ByteArray) : partly l 0 = l := by simp [partly, marks]
theorem partly_all (l : List ByteArray) : partly l l.length = marks 1 l.length := by simp [partly]

theorem owns_cell {w : World} {base g n cap : Nat} {l : List ByteArray} (hn : n = l.length) (h : Owns w base (.slice (some ⟨g, 0, none⟩) n cap) l) (i : Nat) (hi : i < n) : w.cell? ⟨g, i, none⟩ = some (.string (l.getD i ByteArray.empty)) ∧ w.frozen? ⟨g, i, none⟩ = false := by
  subst hn
  refine ⟨?_, World.ownsRow.frozenAt h i⟩
  rw [World.ownsRow.cellAt h i (by omega)]
  simp [List.getD, List.getElem?_eq_getElem hi]

theorem owns_set {w : World} {base g n cap : Nat} {l : List ByteArray} (hn : n = l.length) (h : Owns w base (.slice (some ⟨g, 0, none⟩) n cap) l) (i : Nat) (x : ByteArray) : Owns (w.setCell ⟨g, i, none⟩ (.string x)) base (.slice (some ⟨g, 0, none⟩) n cap) (l.set i x) := by
  subst hn
  have h1 := (World.ownsRow.stored h i (.string x)).1
  unfold Owns
  rw [List.length_set, List.map_set]
  exact h1

end Go.Proofs.Ytkkopnhbafjnaaa
