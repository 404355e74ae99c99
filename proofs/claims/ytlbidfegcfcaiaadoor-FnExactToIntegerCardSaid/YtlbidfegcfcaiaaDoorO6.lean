/- A value that came in. No conditions. -/
import Derived.Test.YtlbidfegcfcaiaaDoorO1
import Derived.Test.YtlbidfegcfcaiaaDoorB1
namespace Go.Proofs.YtlbidfegcfcaiaaDoor
open Go.RowKit Go.Joins
set_option linter.unusedVariables false

theorem list6v {α : Type} {l : List α} (h : l.length = 6) : ∃ a b c d e f, l = [a, b, c, d, e, f] := by
  match l, h with
  | [a, b, c, d, e, f], _ => exact ⟨a, b, c, d, e, f, rfl⟩
theorem list2v {α : Type} {l : List α} (h : l.length = 2) : ∃ a b, l = [a, b] := by
  match l, h with
  | [a, b], _ => exact ⟨a, b, rfl⟩
theorem open_cset {H : Type} {enc : TypeId × Value → H} {W : World} {spare : Nat → Bool} {held : Bool} (fuel : Nat) (cs : List Value) (x : DataW H × List MemPlace) (h : DataW.trod enc Tryd.prog W 0 spare held fuel 37 cs = some x) : ∃ a b : Int, cs = [.int .i64 a, .int .i64 b] := by
  obtain ⟨xs, n, rfl, _, hl, hlen, hf⟩ := DataW.trod_struct Tryd.underlying37 h
  rw [show Tryd.prog.cellsOf 37 = 2 by kernel_rfl] at hl
  have hone := cells_at (H := H) hlen hf
  obtain ⟨c0, c1, rfl⟩ := list2v hl
  obtain ⟨y0, h0⟩ := hone 0 _ rfl
  obtain ⟨y1, h1⟩ := hone 1 _ rfl
  clear hone hf hlen
  change DataW.trod enc Tryd.prog W 0 spare held n 3 (([c0, c1].drop 0).take (Tryd.prog.cellsOf 3)) = some y0 at h0
  change DataW.trod enc Tryd.prog W 0 spare held n 3 (([c0, c1].drop 1).take (Tryd.prog.cellsOf 3)) = some y1 at h1
  rw [show Tryd.prog.cellsOf 3 = 1 by kernel_rfl] at h0 h1
  obtain ⟨a, e0, _, _⟩ := DataW.trod_int Tryd.underlying3 h0
  obtain ⟨b, e1, _, _⟩ := DataW.trod_int Tryd.underlying3 h1
  have e0' : c0 = .int .i64 a := by simpa using e0
  have e1' : c1 = .int .i64 b := by simpa using e1
  exact ⟨a, b, by rw [e0', e1']⟩
theorem open_value {H : Type} {enc : TypeId × Value → H} {W : World} {spare : Nat → Bool} {held : Bool} (fuel : Nat) (cs : List Value) (x : DataW H × List MemPlace) (h : DataW.trod enc Tryd.prog W 0 spare held fuel 39 cs = some x) : ∃ (k n i : Int) (t : ByteArray) (a b : Int), cs = vlL k n i t a b ∧ (Lit.int .i64 k).wf = true ∧ (Lit.int .i64 n).wf = true ∧ (Lit.int .i64 i).wf = true ∧ t.size ≤ maxLen := by
  obtain ⟨xs, n, rfl, _, hl, hlen, hf⟩ := DataW.trod_struct Tryd.underlying39 h
  rw [show Tryd.prog.cellsOf 39 = 6 by kernel_rfl] at hl
  have hone := cells_at (H := H) hlen hf
  obtain ⟨c0, c1, c2, c3, c4, c5, rfl⟩ := list6v hl
  obtain ⟨y0, h0⟩ := hone 0 _ rfl
  obtain ⟨y1, h1⟩ := hone 1 _ rfl
  obtain ⟨y2, h2⟩ := hone 2 _ rfl
  obtain ⟨y3, h3⟩ := hone 3 _ rfl
  obtain ⟨y4, h4⟩ := hone 4 _ rfl
  clear hone hf hlen
  change DataW.trod enc Tryd.prog W 0 spare held n 3 (([c0, c1, c2, c3, c4, c5].drop 0).take (Tryd.prog.cellsOf 3)) = some y0 at h0
  change DataW.trod enc Tryd.prog W 0 spare held n 3 (([c0, c1, c2, c3, c4, c5].drop 1).take (Tryd.prog.cellsOf 3)) = some y1 at h1
  change DataW.trod enc Tryd.prog W 0 spare held n 3 (([c0, c1, c2, c3, c4, c5].drop 2).take (Tryd.prog.cellsOf 3)) = some y2 at h2
  change DataW.trod enc Tryd.prog W 0 spare held n 9 (([c0, c1, c2, c3, c4, c5].drop 3).take (Tryd.prog.cellsOf 9)) = some y3 at h3
  change DataW.trod enc Tryd.prog W 0 spare held n 37 (([c0, c1, c2, c3, c4, c5].drop 4).take (Tryd.prog.cellsOf 37)) = some y4 at h4
  rw [show Tryd.prog.cellsOf 3 = 1 by kernel_rfl] at h0 h1 h2
  rw [show Tryd.prog.cellsOf 9 = 1 by kernel_rfl] at h3
  rw [show Tryd.prog.cellsOf 37 = 2 by kernel_rfl] at h4
  obtain ⟨k, e0, _, w0⟩ := DataW.trod_int Tryd.underlying3 h0
  obtain ⟨m, e1, _, w1⟩ := DataW.trod_int Tryd.underlying3 h1
  obtain ⟨i, e2, _, w2⟩ := DataW.trod_int Tryd.underlying3 h2
  obtain ⟨t, e3, _, w3⟩ := DataW.trod_string Tryd.underlying9 h3
  obtain ⟨a, b, e4⟩ := open_cset _ _ _ h4
  have e0' : c0 = .int .i64 k := by simpa using e0
  have e1' : c1 = .int .i64 m := by simpa using e1
  have e2' : c2 = .int .i64 i := by simpa using e2
  have e3' : c3 = .string t := by simpa using e3
  have e4' : c4 = .int .i64 a ∧ c5 = .int .i64 b := by simpa using e4
  exact ⟨k, m, i, t, a, b, by rw [e0', e1', e2', e3', e4'.1, e4'.2], w0, w1, w2, w3⟩
end Go.Proofs.YtlbidfegcfcaiaaDoor
