/- Names, and which tokens begin or end an expression, in the reference model. No conditions. -/
import Derived.Test.YtkhcbahbffjnkaaDoorK3
namespace Go.Proofs.YtkhcbahbffjnkaaDoor
open Go.RowKit
set_option linter.unusedVariables false

theorem name_cases (s : ByteArray) : ((s.size < 1 ∨ 12 < s.size) ∧ Tk.isName s.data.toList = false) ∨ ∃ h : 1 ≤ s.size, s.size ≤ 12 ∧ ((Tk.letter s[0] = false ∧ Tk.isName s.data.toList = false)
    ∨ (Tk.letter s[0] = true ∧ hasW Tk.reserved s.data.toList = true ∧ Tk.isName s.data.toList = false) ∨ (Tk.letter s[0] = true ∧ hasW Tk.reserved s.data.toList = false ∧ Tk.isName s.data.toList = s.data.toList.all Tk.idb)) := by
  have hl := len8 s
  by_cases h : s.size < 1 ∨ 12 < s.size
  · left
    refine ⟨h, ?_⟩
    unfold Tk.isName
    rcases h with h | h
    · rw [decide_eq_false (by omega)]; rfl
    · rw [decide_eq_false (p := s.data.toList.length ≤ 12) (by omega)]; simp
  · right
    refine ⟨by omega, by omega, ?_⟩
    have hh : s.data.toList.head? = some (s[0]'(by omega)) := by rw [List.head?_eq_getElem?, List.getElem?_eq_getElem (by omega)]; rfl
    have e : Tk.isName s.data.toList = (Tk.letter (s[0]'(by omega)) && !hasW Tk.reserved s.data.toList && s.data.toList.all Tk.idb) := by
      unfold Tk.isName
      rw [decide_eq_true (by omega), decide_eq_true (by omega), hh]
      show (true && true && (some (Tk.letter _) == some true) && !Tk.isReserved _ && _) = _
      cases Tk.letter (s[0]'(by omega)) <;> rfl
    cases h1 : Tk.letter (s[0]'(by omega))
    · left; exact ⟨rfl, by rw [e, h1]; rfl⟩
    · right
      cases h2 : hasW Tk.reserved s.data.toList
      · right; exact ⟨rfl, rfl, by rw [e, h1, h2]; rfl⟩
      · left; exact ⟨rfl, rfl, by rw [e, h1, h2]; rfl⟩
theorem ret_b {a b : Bool} (h : a = b) : Ending.returned (.bool a) = .returned (.bool b) := by rw [h]
/-- The first k bytes may stand in a name. -/
def IdTo (s : ByteArray) (k : Nat) : Prop := (s.data.toList.take k).all Tk.idb = true

set_option maxHeartbeats 800000 in
theorem spec_name (s : ByteArray) (w : World) (hs : (s.size : Int) ≤ 1048576) : Calls Tryd.prog 57 #[.string s] w fun e w' => e = .returned (.bool (Tk.isName s.data.toList)) ∧ Below w.heap.size w w' := by
  rcases name_cases s with ⟨h, e⟩ | ⟨h1, h2, ⟨h3, e⟩ | ⟨h3, h4, e⟩ | ⟨h3, h4, e⟩⟩
  · rw [e]
    clear e
    rcases h with h | h
    · have t1 : (s.size : Int) < 1 := by omega
      clear h
      go_enter Tryd.func57, Tryd.ntmps57
      go_wp2
      go_ret
      exact ⟨rfl, Below.refl _ _⟩
    · have t1 : ¬ (s.size : Int) < 1 := by omega
      have t2 : (12 : Int) < s.size := by omega
      clear h
      go_enter Tryd.func57, Tryd.ntmps57
      go_wp2
      go_ret
      exact ⟨rfl, Below.refl _ _⟩
  · rw [e]
    have t1 : ¬ (s.size : Int) < 1 := by omega
    have t2 : ¬ (12 : Int) < s.size := by omega
    have t3 : (0 : Int) < s.size := by omega
    have HL := Lib.hid (fun W => spec_letter s[0] W)
    rw [h3] at HL
    clear e h3
    go_enter Tryd.func57, Tryd.ntmps57
    go_wp2_with (go_at_call 80; refine (HL.out _).mono ?_; rintro e w1 ⟨rfl, rfl⟩)
    go_ret
    exact ⟨rfl, Below.refl _ _⟩
  · rw [e]
    have t1 : ¬ (s.size : Int) < 1 := by omega
    have t2 : ¬ (12 : Int) < s.size := by omega
    have t3 : (0 : Int) < s.size := by omega
    have HL := Lib.hid (fun W => spec_letter s[0] W)
    rw [h3] at HL
    have HR := Lib.hid (fun W => spec_reserved s W)
    rw [h4] at HR
    clear e h3 h4
    go_enter Tryd.func57, Tryd.ntmps57
    go_wp2_with (first | (go_at_call 80; refine (HL.out _).mono ?_; rintro e w1 ⟨rfl, rfl⟩) | (go_at_call 81; refine (HR.out _).mono ?_; rintro e w2 ⟨rfl, hb2⟩; have HB := Lib.hid hb2; clear hb2))
    go_ret
    exact ⟨rfl, HB.out⟩
  · have t1 : ¬ (s.size : Int) < 1 := by omega
    have t2 : ¬ (12 : Int) < s.size := by omega
    have t3 : (0 : Int) < s.size := by omega
    have HL := Lib.hid (fun W => spec_letter s[0] W)
    rw [h3] at HL
    have HR := Lib.hid (fun W => spec_reserved s W)
    rw [h4] at HR
    have HE := Lib.hid e
    have HZ := Lib.hid (len8 s)
    clear e h3 h4
    go_enter Tryd.func57, Tryd.ntmps57
    go_wp2_with (first | (go_at_call 80; refine (HL.out _).mono ?_; rintro e w1 ⟨rfl, rfl⟩) | (go_at_call 81; refine (HR.out _).mono ?_; rintro e w2 ⟨rfl, hb2⟩; have HB := Lib.hid hb2; clear hb2))
    go_loop [2, 3] (fun _ i => ∃ k : Nat, i = .int .i64 k ∧ k ≤ s.size ∧ IdTo s k) (fun _ i => s.size - (intOf i).toNat)
    case atStart => exact ⟨0, rfl, by omega, rfl⟩
    case round =>
      obtain ⟨k, rfl, hk, ha⟩ := hrel
      have HA := Lib.hid ha
      clear ha HL HR
      by_cases hlt : (k : Int) < s.size
      · have hks : k < s.size := by omega
        have hkl : k < s.data.toList.length := by rw [HZ.out]; exact hks
        have H1 := Lib.hid (fun W => spec_letter s[k] W)
        have H2 := Lib.hid (fun W => spec_digit s[k] W)
        cases hi : Tk.idb s[k]
        · have hi2 : Tk.letter s[k] = false ∧ Dec.isDig s[k] = false := by unfold Tk.idb at hi; simpa using hi
          rw [hi2.1] at H1
          rw [hi2.2] at H2
          have HN : Hid (s.data.toList.all Tk.idb = false) := by
            show _ = _
            rw [List.all_eq_false]
            exact ⟨s[k], List.getElem_mem hkl, by rw [hi]; simp⟩
          clear hi hi2
          go_wp2_with (first | (go_at_call 80; refine (H1.out _).mono ?_; rintro e w3 ⟨rfl, rfl⟩) | (go_at_call 82; refine (H2.out _).mono ?_; rintro e w4 ⟨rfl, rfl⟩))
          go_ret
          exact ⟨ret_b (by rw [HE.out, HN.out]), HB.out⟩
        · have HN : Hid (IdTo s (k + 1)) := by
            show (s.data.toList.take (k + 1)).all Tk.idb = true
            rw [List.take_succ_eq_append_getElem hkl, List.all_append, HA.out]
            show (true && (Tk.idb s[k] && true)) = true
            rw [hi]; rfl
          cases hl : Tk.letter s[k]
          · have hd : Dec.isDig s[k] = true := by unfold Tk.idb at hi; rw [hl] at hi; simpa using hi
            rw [hl] at H1
            rw [hd] at H2
            clear hi hl hd
            go_wp2_with (first | (go_at_call 80; refine (H1.out _).mono ?_; rintro e w3 ⟨rfl, rfl⟩) | (go_at_call 82; refine (H2.out _).mono ?_; rintro e w4 ⟨rfl, rfl⟩))
            go_round
            case rel => exact ⟨k + 1, by go_num, by omega, HN.out⟩
            case measure => first | (simp [intOf]; done) | (simp [intOf]; omega)
          · rw [hl] at H1
            clear hi hl H2
            go_wp2_with (first | (go_at_call 80; refine (H1.out _).mono ?_; rintro e w3 ⟨rfl, rfl⟩))
            go_round
            case rel => exact ⟨k + 1, by go_num, by omega, HN.out⟩
            case measure => first | (simp [intOf]; done) | (simp [intOf]; omega)
      · obtain rfl : k = s.size := by omega
        have HN : Hid (s.data.toList.all Tk.idb = true) := by
          have h := HA.out
          unfold IdTo at h
          rw [List.take_of_length_le (by rw [HZ.out]; exact Nat.le_refl _)] at h
          exact h
        go_wp2
        go_ret
        exact ⟨ret_b (by rw [HE.out, HN.out]), HB.out⟩
end Go.Proofs.YtkhcbahbffjnkaaDoor
