/- Words: letters, lists of words, names, in the reference model. No conditions. -/
import Derived.Test.YtkhcbahbffjnkaaDoorT3
import Derived.Test.YtkhcbahbffjnkaaDoorK1
import Derived.Test.YtkhcbahbffjnkaaDoorD2
namespace Go.Proofs.YtkhcbahbffjnkaaDoor
open Go.RowKit
set_option linter.unusedVariables false

theorem dec_yes {p : Prop} [Decidable p] (h : p) : decide p = true := decide_eq_true h
theorem dec_no {p : Prop} [Decidable p] (h : ¬ p) : decide p = false := decide_eq_false h
theorem letter_cases (b : UInt8) : (b.toNat < 65 ∧ Tk.letter b = false) ∨ (65 ≤ b.toNat ∧ b.toNat ≤ 90 ∧ Tk.letter b = true) ∨ (90 < b.toNat ∧ b.toNat < 97 ∧ b ≠ 95 ∧ Tk.letter b = false) ∨ (b = 95 ∧ Tk.letter b = true) ∨ (97 ≤ b.toNat ∧ b.toNat ≤ 122 ∧ Tk.letter b = true) ∨ (122 < b.toNat ∧ Tk.letter b = false) := by
  have h95 : (b == 95) = decide (b.toNat = 95) := by rw [Bool.eq_iff_iff]; simp [← UInt8.toNat_inj]
  unfold Tk.letter
  rw [h95]
  by_cases h0 : b = 95
  · subst h0; right; right; right; left; exact ⟨rfl, rfl⟩
  · have h1 : b.toNat ≠ 95 := fun e => h0 (UInt8.toNat_inj.1 e)
    rcases (show b.toNat < 65 ∨ (65 ≤ b.toNat ∧ b.toNat ≤ 90) ∨ (90 < b.toNat ∧ b.toNat < 97) ∨ (97 ≤ b.toNat ∧ b.toNat ≤ 122) ∨ 122 < b.toNat by omega) with h | h | h | h | h
    · left; exact ⟨h, by simp; omega⟩
    · right; left; exact ⟨h.1, h.2, by simp; omega⟩
    · right; right; left; exact ⟨h.1, h.2, h0, by simp; omega⟩
    · right; right; right; right; left; exact ⟨h.1, h.2, by simp; omega⟩
    · right; right; right; right; right; exact ⟨h, by simp; omega⟩
theorem ne8 {a b : UInt8} (h : a ≠ b) : ((a.toNat : Int) == (b.toNat : Int)) = false := by
  have h2 : ¬ a.toNat = b.toNat := fun e => h (UInt8.toNat_inj.1 e)
  simp; omega
theorem spec_letter (b : UInt8) (w : World) : Calls Tryd.prog 80 #[.int .u8 (b.toNat : Int)] w fun e w' => e = .returned (.bool (Tk.letter b)) ∧ w = w' := by
  have hb := UInt8.toNat_lt b
  rcases letter_cases b with ⟨h, e⟩ | ⟨h, h2, e⟩ | ⟨h, h2, h3, e⟩ | ⟨h, e⟩ | ⟨h, h2, e⟩ | ⟨h, e⟩
  · rw [e]
    have ta : decide ((97 : Int) ≤ b.toNat) = false := by simp; omega
    have tA : decide ((65 : Int) ≤ b.toNat) = false := by simp; omega
    have tu : ((b.toNat : Int) == 95) = false := by simp; omega
    clear e
    go_enter Tryd.func80, Tryd.ntmps80
    go_wp2
    go_ret
    exact ⟨rfl, rfl⟩
  · rw [e]
    have ta : decide ((97 : Int) ≤ b.toNat) = false := by simp; omega
    have tA : decide ((65 : Int) ≤ b.toNat) = true := by simp; omega
    have tZ : decide ((b.toNat : Int) ≤ 90) = true := by simp; omega
    have tu : ((b.toNat : Int) == 95) = false := by simp; omega
    clear e
    go_enter Tryd.func80, Tryd.ntmps80
    go_wp2
    go_ret
    exact ⟨rfl, rfl⟩
  · rw [e]
    have ta : decide ((97 : Int) ≤ b.toNat) = false := by simp; omega
    have tA : decide ((65 : Int) ≤ b.toNat) = true := by simp; omega
    have tZ : decide ((b.toNat : Int) ≤ 90) = false := by simp; omega
    have tu : ((b.toNat : Int) == 95) = false := ne8 h3
    clear e
    go_enter Tryd.func80, Tryd.ntmps80
    go_wp2
    go_ret
    exact ⟨rfl, rfl⟩
  · rw [e]
    have ta : decide ((97 : Int) ≤ b.toNat) = false := by subst h; rfl
    have tA : decide ((65 : Int) ≤ b.toNat) = true := by subst h; rfl
    have tZ : decide ((b.toNat : Int) ≤ 90) = false := by subst h; rfl
    have tu : ((b.toNat : Int) == 95) = true := by subst h; rfl
    clear e
    go_enter Tryd.func80, Tryd.ntmps80
    go_wp2
    go_ret
    exact ⟨rfl, rfl⟩
  · rw [e]
    have ta : decide ((97 : Int) ≤ b.toNat) = true := by simp; omega
    have tz : decide ((b.toNat : Int) ≤ 122) = true := by simp; omega
    have tu : ((b.toNat : Int) == 95) = false := by simp; omega
    clear e
    go_enter Tryd.func80, Tryd.ntmps80
    go_wp2
    go_ret
    exact ⟨rfl, rfl⟩
  · rw [e]
    have ta : decide ((97 : Int) ≤ b.toNat) = true := by simp; omega
    have tz : decide ((b.toNat : Int) ≤ 122) = false := by simp; omega
    have tA : decide ((65 : Int) ≤ b.toNat) = true := by simp; omega
    have tZ : decide ((b.toNat : Int) ≤ 90) = false := by simp; omega
    have tu : ((b.toNat : Int) == 95) = false := by simp; omega
    clear e
    go_enter Tryd.func80, Tryd.ntmps80
    go_wp2
    go_ret
    exact ⟨rfl, rfl⟩
theorem spec_digit (b : UInt8) (w : World) : Calls Tryd.prog 82 #[.int .u8 (b.toNat : Int)] w fun e w' => e = .returned (.bool (Dec.isDig b)) ∧ w = w' := by
  have hb := UInt8.toNat_lt b
  rcases (show b.toNat < 48 ∨ (48 ≤ b.toNat ∧ b.toNat ≤ 57) ∨ 57 < b.toNat by omega) with h | ⟨h, h2⟩ | h
  · rw [show Dec.isDig b = false by simp [Dec.isDig]; omega]
    have t0 : decide ((48 : Int) ≤ b.toNat) = false := by simp; omega
    go_enter Tryd.func82, Tryd.ntmps82
    go_wp2
    go_ret
    exact ⟨rfl, rfl⟩
  · rw [show Dec.isDig b = true by simp [Dec.isDig]; omega]
    have t0 : decide ((48 : Int) ≤ b.toNat) = true := by simp; omega
    have t1 : decide ((b.toNat : Int) ≤ 57) = true := by simp; omega
    go_enter Tryd.func82, Tryd.ntmps82
    go_wp2
    go_ret
    exact ⟨rfl, rfl⟩
  · rw [show Dec.isDig b = false by simp [Dec.isDig]; omega]
    have t0 : decide ((48 : Int) ≤ b.toNat) = true := by simp; omega
    have t1 : decide ((b.toNat : Int) ≤ 57) = false := by simp; omega
    go_enter Tryd.func82, Tryd.ntmps82
    go_wp2
    go_ret
    exact ⟨rfl, rfl⟩

/-- Words in memory. -/
def Words (w : World) (g : Nat) (l : List (List UInt8)) : Prop := ∀ i, i < l.length → w.cell? ⟨g, i, none⟩ = some (.string (str8 (l.getD i [])))
theorem words_below {w w1 : World} {g : Nat} {l : List (List UInt8)} (h : Words w g l) (hg : g < w.heap.size) (hb : Below w.heap.size w w1) : Words w1 g l := fun i hi => (hb.cell (p := ⟨g, i, none⟩) hg).trans (h i hi)
theorem words_new (w : World) (l : List (List UInt8)) (t : TypeId) (cs : Array Value) (hcs : cs = (l.map fun x => Value.string (str8 x)).toArray) : Words (w.alloc (.cells cs t)) w.heap.size l := by
  intro i hi
  subst hcs
  rw [World.cell?_alloc_mark]
  rw [List.getD_eq_getElem?_getD, List.getElem?_eq_getElem hi]
  simp [hi]
theorem hasTo (l : List (List UInt8)) (x : List UInt8) (k : Nat) (h : k < l.length) : ((l.take (k + 1)).contains x) = ((l.take k).contains x || (l.getD k [] == x)) := by
  rw [List.take_succ_eq_append_getElem h, List.getD_eq_getElem?_getD, List.getElem?_eq_getElem h, Bool.eq_iff_iff]
  simp only [List.contains_iff_mem, List.mem_append, List.mem_singleton, Bool.or_eq_true, beq_iff_eq, Option.getD_some]
  exact or_congr Iff.rfl eq_comm
theorem str8_toList (l : List UInt8) : (str8 l).toList = l := by rw [ByteArray.toList_eq]; exact str8_list l
/-- Is the word on the list? -/
def hasW (l : List (List UInt8)) (x : List UInt8) : Bool := l.contains x
theorem hasW_yes {l : List (List UInt8)} {x : List UInt8} (h : l.contains x = true) : Ending.returned (.bool true) = .returned (.bool (hasW l x)) := by unfold hasW; rw [h]
theorem hasW_no {l : List (List UInt8)} {x : List UInt8} (h : l.contains x = false) : Ending.returned (.bool false) = .returned (.bool (hasW l x)) := by unfold hasW; rw [h]
theorem spec_hasw (l : List (List UInt8)) (g cap : Nat) (s : ByteArray) (w : World) (hw : Words w g l) (hl : (l.length : Int) ≤ 1048576) :
    Calls Tryd.prog 96 #[.slice (some ⟨g, 0, none⟩) l.length cap, .string s] w fun e w' => e = .returned (.bool (hasW l s.data.toList)) ∧ w = w' := by
  have HW := Lib.hid hw
  have HT := Lib.hid (ByteArray.toList_eq s)
  clear hw
  go_enter Tryd.func96, Tryd.ntmps96
  go_wp2
  go_loop [4, 5] (fun _ i => ∃ k : Nat, i = .int .i64 k ∧ k ≤ l.length ∧ (l.take k).contains s.data.toList = false) (fun _ i => l.length - (intOf i).toNat)
  case atStart => exact ⟨0, rfl, by omega, rfl⟩
  case round =>
    obtain ⟨k, rfl, hk, hc⟩ := hrel
    have HC := Lib.hid hc
    clear hc
    by_cases hlt : (k : Int) < l.length
    · have hkl : k < l.length := by omega
      have hcell := HW.out k hkl
      have HX := Lib.hid (hasTo l s.data.toList k hkl)
      generalize l.getD k [] = x at hcell HX
      have hx := str8_toList x
      by_cases he : x = s.data.toList
      · have t1 : (x == s.toList) = true := by rw [he, HT.out]; simp
        have HY : Hid (l.contains s.data.toList = true) := by
          have h := HX.out
          rw [HC.out, he] at h
          have h2 : (l.take (k + 1)).contains s.data.toList = true := by rw [h]; simp
          show l.contains s.data.toList = true
          rw [List.contains_iff_mem] at h2 ⊢
          exact List.mem_of_mem_take h2
        clear he
        go_wp2
        go_ret
        exact ⟨hasW_yes HY.out, rfl⟩
      · have t1 : (x == s.toList) = false := by rw [HT.out]; simpa using he
        have HN : Hid ((l.take (k + 1)).contains s.data.toList = false) := by
          show _ = _
          rw [HX.out, HC.out]; simpa using he
        clear he
        go_wp2
        go_round
        case rel => exact ⟨k + 1, by go_num, by omega, HN.out⟩
        case measure => first | (simp [intOf]; done) | (simp [intOf]; omega)
    · obtain rfl : k = l.length := by omega
      have HY : Hid (l.contains s.data.toList = false) := by have h := HC.out; rw [List.take_length] at h; exact h
      go_wp2
      go_ret
      exact ⟨hasW_no HY.out, rfl⟩

theorem words_lt (l : List (List UInt8)) (h : l.length ≤ 100) : (l.length : Int) ≤ 1048576 := by omega
theorem spec_reserved (s : ByteArray) (w : World) : Calls Tryd.prog 81 #[.string s] w fun e w' => e = .returned (.bool (hasW Tk.reserved s.data.toList)) ∧ Below w.heap.size w w' := by
  have HH : Hid (Calls Tryd.prog 96 #[.slice (some ⟨w.heap.size, 0, none⟩) 26 26, .string s] (w.alloc (.cells (Tk.reserved.map fun x => Value.string (str8 x)).toArray 9)) fun e w' => e = .returned (.bool (hasW Tk.reserved s.data.toList)) ∧ (w.alloc (.cells (Tk.reserved.map fun x => Value.string (str8 x)).toArray 9)) = w') :=
    spec_hasw Tk.reserved w.heap.size 26 s _ (words_new w Tk.reserved 9 _ rfl) (words_lt _ (by decide))
  generalize hasW Tk.reserved s.data.toList = b at HH ⊢
  go_enter Tryd.func81, Tryd.ntmps81
  go_wp2_with fail
  refine HH.out.mono ?_
  rintro e w1 ⟨rfl, rfl⟩
  go_wp2
  go_ret
  exact ⟨rfl, bl1 _ _⟩
theorem spec_keyword (s : ByteArray) (w : World) : Calls Tryd.prog 112 #[.string s] w fun e w' => e = .returned (.bool (hasW Tk.keywords s.data.toList)) ∧ Below w.heap.size w w' := by
  have HH : Hid (Calls Tryd.prog 96 #[.slice (some ⟨w.heap.size, 0, none⟩) 8 8, .string s] (w.alloc (.cells (Tk.keywords.map fun x => Value.string (str8 x)).toArray 9)) fun e w' => e = .returned (.bool (hasW Tk.keywords s.data.toList)) ∧ (w.alloc (.cells (Tk.keywords.map fun x => Value.string (str8 x)).toArray 9)) = w') :=
    spec_hasw Tk.keywords w.heap.size 8 s _ (words_new w Tk.keywords 9 _ rfl) (words_lt _ (by decide))
  generalize hasW Tk.keywords s.data.toList = b at HH ⊢
  go_enter Tryd.func112, Tryd.ntmps112
  go_wp2_with fail
  refine HH.out.mono ?_
  rintro e w1 ⟨rfl, rfl⟩
  go_wp2
  go_ret
  exact ⟨rfl, bl1 _ _⟩
end Go.Proofs.YtkhcbahbffjnkaaDoor
