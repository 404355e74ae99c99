/- The reference model's draws: a new cursor, and picks from a list. -/
import Derived.Test.YtlbidfegcfcaiaaDoorD1
namespace Go.Proofs.YtlbidfegcfcaiaaDoor
open Go.RowKit
set_option linter.unusedVariables false

theorem cur_new {w : World} {v : Value} {n : Nat} (hc : Code w.heap.size w v n) (x : Int) : IsCur w.heap.size (w.alloc (.cells #[v, .int .i64 0, .int .i64 x] 55)) w.heap.size :=
  ⟨v, n, 0, x, Nat.le_refl _, code_below hc ((Below.refl _ _).alloc (Nat.le_refl _) _), heap_alloc_new _ _⟩

set_option maxHeartbeats 400000 in
theorem draw_new (v : Value) (n : Nat) (w : World) (hc : Code w.heap.size w v n) (hn : (n : Int) ≤ 1048576) :
    Calls Tryd.prog 15 #[v] w fun e w' => ∃ cb, e = .returned (.pointer (some ⟨cb, 0, none⟩)) ∧ w.heap.size ≤ cb ∧ cb < w'.heap.size ∧ IsCur w.heap.size w' cb ∧ Below w.heap.size w w' := by
  obtain ⟨a, c, rfl⟩ : ∃ a c, v = .slice a n c := by
    rcases hc with ⟨⟨a, c, rfl⟩, rfl⟩ | ⟨g, off, c, rfl, _⟩
    · exact ⟨_, _, rfl⟩
    · exact ⟨_, _, rfl⟩
  have HC := Lib.hid hc
  clear hc
  go_enter Tryd.func15, Tryd.ntmps15
  go_wp2
  go_loop [3, 4] (fun h i => ∃ (k : Nat) (x : Int), i = .int .i64 k ∧ k ≤ n ∧ h = .int .i64 x) (fun _ i => n - (intOf i).toNat)
  case atStart => exact ⟨0, _, rfl, Nat.zero_le _, rfl⟩
  case round =>
    obtain ⟨k, x, rfl, hk, rfl⟩ := hrel
    by_cases hlt : (k : Int) < n
    · by_cases h4 : (k : Int) < 4000
      · obtain ⟨g, off, c', hv, hg, hm, hcc⟩ : ∃ g off c', Value.slice a n c = .slice (some ⟨g, off, none⟩) n c' ∧ g < w.heap.size ∧ n ≤ maxLen ∧ ∀ j, j < n → ∃ x : Int, w.cell? ⟨g, off + j, none⟩ = some (.int .u8 x) ∧ 0 ≤ x ∧ x ≤ 255 := by
          rcases HC.out with ⟨_, h0⟩ | h
          · omega
          · exact h
        simp only [Value.slice.injEq, true_and] at hv
        obtain ⟨rfl, rfl⟩ := hv
        obtain ⟨y, hy, hy0, hy1⟩ := hcc k (by omega)
        clear hcc
        have k0 : (0 : Int) ≤ k := by omega
        go_wp2
        go_round
        case rel => exact ⟨k + 1, _, by go_num, by omega, rfl⟩
        case measure => first | (simp [intOf]; done) | (simp [intOf]; omega)
      · go_wp2
        go_ret
        exact ⟨w.heap.size, rfl, Nat.le_refl _, by simp, cur_new HC.out x, (Below.refl _ _).alloc (Nat.le_refl _) _⟩
    · go_wp2
      go_ret
      exact ⟨w.heap.size, rfl, Nat.le_refl _, by simp, cur_new HC.out x, (Below.refl _ _).alloc (Nat.le_refl _) _⟩

/-- What a pick leaves: the cursor's block alone may have changed. -/
def Picked {α : Type} (mk : α → Value) (l : List α) (B cb : Nat) (w : World) (e : Ending) (w' : World) : Prop := ∃ x, x ∈ l ∧ e = .returned (mk x) ∧ IsCur B w' cb ∧ Only cb w w'

set_option maxHeartbeats 400000 in
theorem pick_int (B cb g cap : Nat) (l : List Int) (w : World) (hp : IsCur B w cb) (hl : 0 < l.length) (hl2 : (l.length : Int) ≤ 1048576) (hne : g ≠ cb)
    (hc : ∀ i, i < l.length → w.cell? ⟨g, i, none⟩ = some (.int .i64 (l.getD i 0))) :
    Calls Tryd.prog 32 #[.pointer (some ⟨cb, 0, none⟩), .slice (some ⟨g, 0, none⟩) l.length cap] w (Picked (Value.int .i64) l B cb w) := by
  have HB := Lib.hid (draw_below B cb l.length w hp (by omega) (by omega))
  have HC := Lib.hid hc
  clear hp hc
  go_enter Tryd.func32, Tryd.ntmps32
  go_wp2_with fail
  refine HB.out.mono ?_
  rintro e w1 ⟨x, rfl, hx0, hx1, hcur, ho⟩
  obtain ⟨k, rfl⟩ : ∃ k : Nat, x = k := ⟨x.toNat, by omega⟩
  have hk : k < l.length := by omega
  have h0 := HC.out k hk
  have h1 : w1.cell? ⟨g, k, none⟩ = some (.int .i64 (l.getD k 0)) := ho.cell h0 (fun e => hne (by simpa using e))
  have HCur := Lib.hid hcur
  have HO := Lib.hid ho
  have hmem : l.getD k 0 ∈ l := by simp [List.getD, List.getElem?_eq_getElem hk]
  have HM := Lib.hid hmem
  clear h0 hcur ho hmem
  generalize hv : l.getD k 0 = y at h1
  rw [hv] at HM
  clear hv
  go_wp2
  go_ret
  exact ⟨y, HM.out, rfl, HCur.out, HO.out⟩

end Go.Proofs.YtlbidfegcfcaiaaDoor
