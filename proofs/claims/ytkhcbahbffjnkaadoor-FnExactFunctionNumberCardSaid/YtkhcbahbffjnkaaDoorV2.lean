/- The reference model: the first place of a name, the names of the functions. No conditions. -/
import Derived.Test.YtkhcbahbffjnkaaDoorV1
import Derived.Test.YtkhcbahbffjnkaaDoorK5
namespace Go.Proofs.YtkhcbahbffjnkaaDoor
open Go.RowKit
set_option linter.unusedVariables false

theorem ret_in {a b : Int} (h : a = b) : Ending.returned (.int .i64 a) = .returned (.int .i64 b) := by rw [h]
/-- Up to place k the name was not met. -/
def NotYet (l : List ByteArray) (s : ByteArray) (k : Nat) : Prop := ∀ x ∈ l.take k, eqN x s = false
theorem notYet_zero (l : List ByteArray) (s : ByteArray) : NotYet l s 0 := fun x h => by simp at h
theorem notYet_succ {l : List ByteArray} {s : ByteArray} {k : Nat} (h : NotYet l s k) (hk : k < l.length) (hx : eqN l[k] s = false) : NotYet l s (k + 1) := fun x hm => by
  rw [List.take_succ_eq_append_getElem hk] at hm
  rcases List.mem_append.1 hm with hm | hm
  · exact h x hm
  · rw [List.mem_singleton] at hm; rw [hm]; exact hx
theorem notYet_all {l : List ByteArray} {s : ByteArray} (h : NotYet l s l.length) : fx l s = none := fx_none.2 fun x hx => h x (by rw [List.take_length]; exact hx)
set_option maxHeartbeats 800000 in
theorem spec_find (v : Value) (l : List ByteArray) (s : ByteArray) (w : World) (h : Is w (strsD l) v) (hl : (l.length : Int) ≤ 1048576) : Calls Tryd.prog 30 #[v, .string s] w fun e w' => e = .returned (.int .i64 (fxI l s)) ∧ w = w' := by
  obtain ⟨a, c, rfl⟩ := is_slice h
  have HK := Lib.hid h
  clear h
  go_enter Tryd.func30, Tryd.ntmps30
  go_wp2
  go_loop [5] (fun i => ∃ k : Nat, i = .int .i64 k ∧ k ≤ l.length ∧ NotYet l s k) (fun i => l.length - (intOf i).toNat)
  case atStart => exact ⟨0, rfl, Nat.zero_le _, notYet_zero l s⟩
  case round =>
    obtain ⟨k, rfl, hk, hn⟩ := hrel
    have HN := Lib.hid hn
    clear hn
    by_cases hlt : k < l.length
    · obtain ⟨g, o, rfl, d1⟩ := str_at HK.out k hlt
      cases he : eqN l[k] s
      case true =>
        have HX := Lib.hid (fxI_some (fx_at hlt he HN.out))
        have t1 : (l[k].toList == s.toList) = true := he
        clear he
        generalize l[k] = x at d1 t1
        go_wp2
        go_ret
        exact ⟨ret_in HX.out.symm, rfl⟩
      case false =>
        have HX := Lib.hid (notYet_succ HN.out hlt he)
        have t1 : (l[k].toList == s.toList) = false := he
        clear he
        generalize l[k] = x at d1 t1
        go_wp2
        go_round
        case rel => exact ⟨k + 1, by go_num, by omega, HX.out⟩
        case measure => first | (simp [intOf]; done) | (simp [intOf]; omega)
    · obtain rfl : k = l.length := by omega
      have HX := Lib.hid (fxI_none (notYet_all HN.out))
      go_wp2
      go_ret
      exact ⟨ret_in HX.out.symm, rfl⟩
theorem is_strs_new (w : World) (l : List ByteArray) (t : TypeId) (cs : Array Value) (hcs : cs = (l.map Value.string).toArray) : Is (w.alloc (.cells cs t)) (strsD l) (.slice (some ⟨w.heap.size, 0, none⟩) l.length l.length) := by
  subst hcs
  rw [Is]
  refine ⟨_, _, rfl, .inr ⟨Nat.le_refl _, w.heap.size, 0, rfl, isAll_of fun j d hj => ?_⟩⟩
  rw [List.getElem?_map] at hj
  obtain ⟨s, hs, rfl⟩ := Option.map_eq_some_iff.1 hj
  refine ⟨.string s, ?_, by rw [Is]⟩
  rw [Nat.zero_add, World.cell?_alloc_mark]
  simp [hs]
set_option maxRecDepth 100000 in
theorem spec_funs (w : World) : Calls Tryd.prog 29 #[] w fun e w' => e = .returned (.slice (some ⟨w.heap.size, 0, none⟩) 55 55) ∧ w.alloc (.cells (funL.map Value.string).toArray 9) = w' := by
  go_enter Tryd.func29, Tryd.ntmps29
  go_wp2
  go_ret
  exact ⟨rfl, rfl⟩
theorem spec_funs2 (w : World) : Calls Tryd.prog 29 #[] w fun e w' => e = .returned (.slice (some ⟨w.heap.size, 0, none⟩) 55 55) ∧ Is w' (strsD funL) (.slice (some ⟨w.heap.size, 0, none⟩) 55 55) ∧ w'.heap.size = w.heap.size + 1 ∧ Below w.heap.size w w' :=
  (spec_funs w).mono fun e w' ⟨he, hw⟩ => by
    subst hw
    exact ⟨he, is_strs_new w funL 9 _ rfl, World.size_alloc _ _, bl1 _ _⟩
end Go.Proofs.YtkhcbahbffjnkaaDoor
