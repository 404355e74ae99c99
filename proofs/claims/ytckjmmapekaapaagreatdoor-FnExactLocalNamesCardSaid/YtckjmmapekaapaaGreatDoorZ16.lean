/- Joined texts: K3, K4, K5, V2, V20. No conditions besides those that each states. -/
import Derived.Laws.Rows
import Derived.IntWalk
import Derived.Test.YtckjmmapekaapaaGreatDoorZ3
import Derived.Test.YtckjmmapekaapaaGreatDoorZ15
/- Words: letters, lists of words, names, in the reference model. No conditions. -/
namespace Go.Proofs.YtckjmmapekaapaaGreatDoor
open Go.RowKit
set_option linter.unusedVariables false

theorem dec_yes {p : Prop} [Decidable p] (h : p) : decide p = true := decide_eq_true h
theorem dec_no {p : Prop} [Decidable p] (h : ¬ p) : decide p = false := decide_eq_false h
theorem letter_cases (b : UInt8) : (b.toNat < 65 ∧ Tk.letter b = false) ∨ (65 ≤ b.toNat ∧ b.toNat ≤ 90 ∧ Tk.letter b = true) ∨ (90 < b.toNat ∧ b.toNat < 97 ∧ b ≠ 95 ∧ Tk.letter b = false) ∨ (b = 95 ∧ Tk.letter b = true) ∨ (97 ≤ b.toNat ∧ b.toNat ≤ 122 ∧ Tk.letter b = true) ∨ (122 < b.toNat ∧ Tk.letter b = false) := by
  have h95 : (b == 95) = decide (b.toNat = 95) := by rw [Bool.eq_iff_iff]; simp [← UInt8.toNat_inj]
  unfold Tk.letter
  rw [h95]
  by_cases h0 : b = 95
  · subst h0; right; right; right; left; exact ⟨rfl, rfl⟩
  · have h1 : b.toNat ≠ 95 := fun e => h0 (UInt8.toNat_inj.1 e)
    rcases (show b.toNat < 65 ∨ (65 ≤ b.toNat ∧ b.toNat ≤ 90) ∨ (90 < b.toNat ∧ b.toNat < 97) ∨ (97 ≤ b.toNat ∧ b.toNat ≤ 122) ∨ 122 < b.toNat by omega) with h | h | h | h | h
    · left; exact ⟨h, by simp; omega⟩
    · right; left; exact ⟨h.1, h.2, by simp; omega⟩
    · right; right; left; exact ⟨h.1, h.2, h0, by simp; omega⟩
    · right; right; right; right; left; exact ⟨h.1, h.2, by simp; omega⟩
    · right; right; right; right; right; exact ⟨h, by simp; omega⟩
theorem ne8 {a b : UInt8} (h : a ≠ b) : ((a.toNat : Int) == (b.toNat : Int)) = false := by
  have h2 : ¬ a.toNat = b.toNat := fun e => h (UInt8.toNat_inj.1 e)
  simp; omega
theorem spec_letter (b : UInt8) (w : World) : Calls Tryz.prog 67 #[.int .u8 (b.toNat : Int)] w fun e w' => e = .returned (.bool (Tk.letter b)) ∧ w = w' := by
  have hb := UInt8.toNat_lt b
  rcases letter_cases b with ⟨h, e⟩ | ⟨h, h2, e⟩ | ⟨h, h2, h3, e⟩ | ⟨h, e⟩ | ⟨h, h2, e⟩ | ⟨h, e⟩
  · rw [e]
    have ta : decide ((97 : Int) ≤ b.toNat) = false := by simp; omega
    have tA : decide ((65 : Int) ≤ b.toNat) = false := by simp; omega
    have tu : ((b.toNat : Int) == 95) = false := by simp; omega
    clear e
    go_enter Tryz.func67, Tryz.ntmps67
    go_wp2
    go_ret
    exact ⟨rfl, rfl⟩
  · rw [e]
    have ta : decide ((97 : Int) ≤ b.toNat) = false := by simp; omega
    have tA : decide ((65 : Int) ≤ b.toNat) = true := by simp; omega
    have tZ : decide ((b.toNat : Int) ≤ 90) = true := by simp; omega
    have tu : ((b.toNat : Int) == 95) = false := by simp; omega
    clear e
    go_enter Tryz.func67, Tryz.ntmps67
    go_wp2
    go_ret
    exact ⟨rfl, rfl⟩
  · rw [e]
    have ta : decide ((97 : Int) ≤ b.toNat) = false := by simp; omega
    have tA : decide ((65 : Int) ≤ b.toNat) = true := by simp; omega
    have tZ : decide ((b.toNat : Int) ≤ 90) = false := by simp; omega
    have tu : ((b.toNat : Int) == 95) = false := ne8 h3
    clear e
    go_enter Tryz.func67, Tryz.ntmps67
    go_wp2
    go_ret
    exact ⟨rfl, rfl⟩
  · rw [e]
    have ta : decide ((97 : Int) ≤ b.toNat) = false := by subst h; rfl
    have tA : decide ((65 : Int) ≤ b.toNat) = true := by subst h; rfl
    have tZ : decide ((b.toNat : Int) ≤ 90) = false := by subst h; rfl
    have tu : ((b.toNat : Int) == 95) = true := by subst h; rfl
    clear e
    go_enter Tryz.func67, Tryz.ntmps67
    go_wp2
    go_ret
    exact ⟨rfl, rfl⟩
  · rw [e]
    have ta : decide ((97 : Int) ≤ b.toNat) = true := by simp; omega
    have tz : decide ((b.toNat : Int) ≤ 122) = true := by simp; omega
    have tu : ((b.toNat : Int) == 95) = false := by simp; omega
    clear e
    go_enter Tryz.func67, Tryz.ntmps67
    go_wp2
    go_ret
    exact ⟨rfl, rfl⟩
  · rw [e]
    have ta : decide ((97 : Int) ≤ b.toNat) = true := by simp; omega
    have tz : decide ((b.toNat : Int) ≤ 122) = false := by simp; omega
    have tA : decide ((65 : Int) ≤ b.toNat) = true := by simp; omega
    have tZ : decide ((b.toNat : Int) ≤ 90) = false := by simp; omega
    have tu : ((b.toNat : Int) == 95) = false := by simp; omega
    clear e
    go_enter Tryz.func67, Tryz.ntmps67
    go_wp2
    go_ret
    exact ⟨rfl, rfl⟩
theorem spec_digit (b : UInt8) (w : World) : Calls Tryz.prog 69 #[.int .u8 (b.toNat : Int)] w fun e w' => e = .returned (.bool (Dec.isDig b)) ∧ w = w' := by
  have hb := UInt8.toNat_lt b
  rcases (show b.toNat < 48 ∨ (48 ≤ b.toNat ∧ b.toNat ≤ 57) ∨ 57 < b.toNat by omega) with h | ⟨h, h2⟩ | h
  · rw [show Dec.isDig b = false by simp [Dec.isDig]; omega]
    have t0 : decide ((48 : Int) ≤ b.toNat) = false := by simp; omega
    go_enter Tryz.func69, Tryz.ntmps69
    go_wp2
    go_ret
    exact ⟨rfl, rfl⟩
  · rw [show Dec.isDig b = true by simp [Dec.isDig]; omega]
    have t0 : decide ((48 : Int) ≤ b.toNat) = true := by simp; omega
    have t1 : decide ((b.toNat : Int) ≤ 57) = true := by simp; omega
    go_enter Tryz.func69, Tryz.ntmps69
    go_wp2
    go_ret
    exact ⟨rfl, rfl⟩
  · rw [show Dec.isDig b = false by simp [Dec.isDig]; omega]
    have t0 : decide ((48 : Int) ≤ b.toNat) = true := by simp; omega
    have t1 : decide ((b.toNat : Int) ≤ 57) = false := by simp; omega
    go_enter Tryz.func69, Tryz.ntmps69
    go_wp2
    go_ret
    exact ⟨rfl, rfl⟩

/-- Words in memory. -/
def Words (w : World) (g : Nat) (l : List (List UInt8)) : Prop := ∀ i, i < l.length → w.cell? ⟨g, i, none⟩ = some (.string (str8 (l.getD i [])))
theorem words_below {w w1 : World} {g : Nat} {l : List (List UInt8)} (h : Words w g l) (hg : g < w.heap.size) (hb : Below w.heap.size w w1) : Words w1 g l := fun i hi => (hb.cell (p := ⟨g, i, none⟩) hg).trans (h i hi)
theorem words_new (w : World) (l : List (List UInt8)) (t : TypeId) (cs : Array Value) (hcs : cs = (l.map fun x => Value.string (str8 x)).toArray) : Words (w.alloc (.cells cs t)) w.heap.size l := by
  intro i hi
  subst hcs
  rw [World.cell?_alloc_mark]
  rw [List.getD_eq_getElem?_getD, List.getElem?_eq_getElem hi]
  simp [hi]
theorem hasTo (l : List (List UInt8)) (x : List UInt8) (k : Nat) (h : k < l.length) : ((l.take (k + 1)).contains x) = ((l.take k).contains x || (l.getD k [] == x)) := by
  rw [List.take_succ_eq_append_getElem h, List.getD_eq_getElem?_getD, List.getElem?_eq_getElem h, Bool.eq_iff_iff]
  simp only [List.contains_iff_mem, List.mem_append, List.mem_singleton, Bool.or_eq_true, beq_iff_eq, Option.getD_some]
  exact or_congr Iff.rfl eq_comm
theorem str8_toList (l : List UInt8) : (str8 l).toList = l := by rw [ByteArray.toList_eq]; exact str8_list l
/-- Is the word on the list? -/
def hasW (l : List (List UInt8)) (x : List UInt8) : Bool := l.contains x
theorem hasW_yes {l : List (List UInt8)} {x : List UInt8} (h : l.contains x = true) : Ending.returned (.bool true) = .returned (.bool (hasW l x)) := by unfold hasW; rw [h]
theorem hasW_no {l : List (List UInt8)} {x : List UInt8} (h : l.contains x = false) : Ending.returned (.bool false) = .returned (.bool (hasW l x)) := by unfold hasW; rw [h]
theorem spec_hasw (l : List (List UInt8)) (g cap : Nat) (s : ByteArray) (w : World) (hw : Words w g l) (hl : (l.length : Int) ≤ 1048576) :
    Calls Tryz.prog 90 #[.slice (some ⟨g, 0, none⟩) l.length cap, .string s] w fun e w' => e = .returned (.bool (hasW l s.data.toList)) ∧ w = w' := by
  have HW := Lib.hid hw
  have HT := Lib.hid (ByteArray.toList_eq s)
  clear hw
  go_enter Tryz.func90, Tryz.ntmps90
  go_wp2
  go_loop [4, 5] (fun _ i => ∃ k : Nat, i = .int .i64 k ∧ k ≤ l.length ∧ (l.take k).contains s.data.toList = false) (fun _ i => l.length - (intOf i).toNat)
  case atStart => exact ⟨0, rfl, by omega, rfl⟩
  case round =>
    obtain ⟨k, rfl, hk, hc⟩ := hrel
    have HC := Lib.hid hc
    clear hc
    by_cases hlt : (k : Int) < l.length
    · have hkl : k < l.length := by omega
      have hcell := HW.out k hkl
      have HX := Lib.hid (hasTo l s.data.toList k hkl)
      generalize l.getD k [] = x at hcell HX
      have hx := str8_toList x
      by_cases he : x = s.data.toList
      · have t1 : (x == s.toList) = true := by rw [he, HT.out]; simp
        have HY : Hid (l.contains s.data.toList = true) := by
          have h := HX.out
          rw [HC.out, he] at h
          have h2 : (l.take (k + 1)).contains s.data.toList = true := by rw [h]; simp
          show l.contains s.data.toList = true
          rw [List.contains_iff_mem] at h2 ⊢
          exact List.mem_of_mem_take h2
        clear he
        go_wp2
        go_ret
        exact ⟨hasW_yes HY.out, rfl⟩
      · have t1 : (x == s.toList) = false := by rw [HT.out]; simpa using he
        have HN : Hid ((l.take (k + 1)).contains s.data.toList = false) := by
          show _ = _
          rw [HX.out, HC.out]; simpa using he
        clear he
        go_wp2
        go_round
        case rel => exact ⟨k + 1, by go_num, by omega, HN.out⟩
        case measure => first | (simp [intOf]; done) | (simp [intOf]; omega)
    · obtain rfl : k = l.length := by omega
      have HY : Hid (l.contains s.data.toList = false) := by have h := HC.out; rw [List.take_length] at h; exact h
      go_wp2
      go_ret
      exact ⟨hasW_no HY.out, rfl⟩

theorem words_lt (l : List (List UInt8)) (h : l.length ≤ 100) : (l.length : Int) ≤ 1048576 := by omega
theorem spec_reserved (s : ByteArray) (w : World) : Calls Tryz.prog 68 #[.string s] w fun e w' => e = .returned (.bool (hasW Tk.reserved s.data.toList)) ∧ Below w.heap.size w w' := by
  have HH : Hid (Calls Tryz.prog 90 #[.slice (some ⟨w.heap.size, 0, none⟩) 26 26, .string s] (w.alloc (.cells (Tk.reserved.map fun x => Value.string (str8 x)).toArray 9)) fun e w' => e = .returned (.bool (hasW Tk.reserved s.data.toList)) ∧ (w.alloc (.cells (Tk.reserved.map fun x => Value.string (str8 x)).toArray 9)) = w') :=
    spec_hasw Tk.reserved w.heap.size 26 s _ (words_new w Tk.reserved 9 _ rfl) (words_lt _ (by decide))
  generalize hasW Tk.reserved s.data.toList = b at HH ⊢
  go_enter Tryz.func68, Tryz.ntmps68
  go_wp2_with fail
  refine HH.out.mono ?_
  rintro e w1 ⟨rfl, rfl⟩
  go_wp2
  go_ret
  exact ⟨rfl, bl1 _ _⟩
theorem spec_keyword (s : ByteArray) (w : World) : Calls Tryz.prog 105 #[.string s] w fun e w' => e = .returned (.bool (hasW Tk.keywords s.data.toList)) ∧ Below w.heap.size w w' := by
  have HH : Hid (Calls Tryz.prog 90 #[.slice (some ⟨w.heap.size, 0, none⟩) 8 8, .string s] (w.alloc (.cells (Tk.keywords.map fun x => Value.string (str8 x)).toArray 9)) fun e w' => e = .returned (.bool (hasW Tk.keywords s.data.toList)) ∧ (w.alloc (.cells (Tk.keywords.map fun x => Value.string (str8 x)).toArray 9)) = w') :=
    spec_hasw Tk.keywords w.heap.size 8 s _ (words_new w Tk.keywords 9 _ rfl) (words_lt _ (by decide))
  generalize hasW Tk.keywords s.data.toList = b at HH ⊢
  go_enter Tryz.func105, Tryz.ntmps105
  go_wp2_with fail
  refine HH.out.mono ?_
  rintro e w1 ⟨rfl, rfl⟩
  go_wp2
  go_ret
  exact ⟨rfl, bl1 _ _⟩
end Go.Proofs.YtckjmmapekaapaaGreatDoor
/- Names, and which tokens begin or end an expression, in the reference model. No conditions. -/
namespace Go.Proofs.YtckjmmapekaapaaGreatDoor
open Go.RowKit
set_option linter.unusedVariables false

theorem name_cases (s : ByteArray) : ((s.size < 1 ∨ 12 < s.size) ∧ Tk.isName s.data.toList = false) ∨ ∃ h : 1 ≤ s.size, s.size ≤ 12 ∧ ((Tk.letter s[0] = false ∧ Tk.isName s.data.toList = false)
    ∨ (Tk.letter s[0] = true ∧ hasW Tk.reserved s.data.toList = true ∧ Tk.isName s.data.toList = false) ∨ (Tk.letter s[0] = true ∧ hasW Tk.reserved s.data.toList = false ∧ Tk.isName s.data.toList = s.data.toList.all Tk.idb)) := by
  have hl := len8 s
  by_cases h : s.size < 1 ∨ 12 < s.size
  · left
    refine ⟨h, ?_⟩
    unfold Tk.isName
    rcases h with h | h
    · rw [decide_eq_false (by omega)]; rfl
    · rw [decide_eq_false (p := s.data.toList.length ≤ 12) (by omega)]; simp
  · right
    refine ⟨by omega, by omega, ?_⟩
    have hh : s.data.toList.head? = some (s[0]'(by omega)) := by rw [List.head?_eq_getElem?, List.getElem?_eq_getElem (by omega)]; rfl
    have e : Tk.isName s.data.toList = (Tk.letter (s[0]'(by omega)) && !hasW Tk.reserved s.data.toList && s.data.toList.all Tk.idb) := by
      unfold Tk.isName
      rw [decide_eq_true (by omega), decide_eq_true (by omega), hh]
      show (true && true && (some (Tk.letter _) == some true) && !Tk.isReserved _ && _) = _
      cases Tk.letter (s[0]'(by omega)) <;> rfl
    cases h1 : Tk.letter (s[0]'(by omega))
    · left; exact ⟨rfl, by rw [e, h1]; rfl⟩
    · right
      cases h2 : hasW Tk.reserved s.data.toList
      · right; exact ⟨rfl, rfl, by rw [e, h1, h2]; rfl⟩
      · left; exact ⟨rfl, rfl, by rw [e, h1, h2]; rfl⟩
theorem ret_b {a b : Bool} (h : a = b) : Ending.returned (.bool a) = .returned (.bool b) := by rw [h]
/-- The first k bytes may stand in a name. -/
def IdTo (s : ByteArray) (k : Nat) : Prop := (s.data.toList.take k).all Tk.idb = true

set_option maxHeartbeats 800000 in
theorem spec_name (s : ByteArray) (w : World) (hs : (s.size : Int) ≤ 1048576) : Calls Tryz.prog 42 #[.string s] w fun e w' => e = .returned (.bool (Tk.isName s.data.toList)) ∧ Below w.heap.size w w' := by
  rcases name_cases s with ⟨h, e⟩ | ⟨h1, h2, ⟨h3, e⟩ | ⟨h3, h4, e⟩ | ⟨h3, h4, e⟩⟩
  · rw [e]
    clear e
    rcases h with h | h
    · have t1 : (s.size : Int) < 1 := by omega
      clear h
      go_enter Tryz.func42, Tryz.ntmps42
      go_wp2
      go_ret
      exact ⟨rfl, Below.refl _ _⟩
    · have t1 : ¬ (s.size : Int) < 1 := by omega
      have t2 : (12 : Int) < s.size := by omega
      clear h
      go_enter Tryz.func42, Tryz.ntmps42
      go_wp2
      go_ret
      exact ⟨rfl, Below.refl _ _⟩
  · rw [e]
    have t1 : ¬ (s.size : Int) < 1 := by omega
    have t2 : ¬ (12 : Int) < s.size := by omega
    have t3 : (0 : Int) < s.size := by omega
    have HL := Lib.hid (fun W => spec_letter s[0] W)
    rw [h3] at HL
    clear e h3
    go_enter Tryz.func42, Tryz.ntmps42
    go_wp2_with (go_at_call 67; refine (HL.out _).mono ?_; rintro e w1 ⟨rfl, rfl⟩)
    go_ret
    exact ⟨rfl, Below.refl _ _⟩
  · rw [e]
    have t1 : ¬ (s.size : Int) < 1 := by omega
    have t2 : ¬ (12 : Int) < s.size := by omega
    have t3 : (0 : Int) < s.size := by omega
    have HL := Lib.hid (fun W => spec_letter s[0] W)
    rw [h3] at HL
    have HR := Lib.hid (fun W => spec_reserved s W)
    rw [h4] at HR
    clear e h3 h4
    go_enter Tryz.func42, Tryz.ntmps42
    go_wp2_with (first | (go_at_call 67; refine (HL.out _).mono ?_; rintro e w1 ⟨rfl, rfl⟩) | (go_at_call 68; refine (HR.out _).mono ?_; rintro e w2 ⟨rfl, hb2⟩; have HB := Lib.hid hb2; clear hb2))
    go_ret
    exact ⟨rfl, HB.out⟩
  · have t1 : ¬ (s.size : Int) < 1 := by omega
    have t2 : ¬ (12 : Int) < s.size := by omega
    have t3 : (0 : Int) < s.size := by omega
    have HL := Lib.hid (fun W => spec_letter s[0] W)
    rw [h3] at HL
    have HR := Lib.hid (fun W => spec_reserved s W)
    rw [h4] at HR
    have HE := Lib.hid e
    have HZ := Lib.hid (len8 s)
    clear e h3 h4
    go_enter Tryz.func42, Tryz.ntmps42
    go_wp2_with (first | (go_at_call 67; refine (HL.out _).mono ?_; rintro e w1 ⟨rfl, rfl⟩) | (go_at_call 68; refine (HR.out _).mono ?_; rintro e w2 ⟨rfl, hb2⟩; have HB := Lib.hid hb2; clear hb2))
    go_loop [2, 3] (fun _ i => ∃ k : Nat, i = .int .i64 k ∧ k ≤ s.size ∧ IdTo s k) (fun _ i => s.size - (intOf i).toNat)
    case atStart => exact ⟨0, rfl, by omega, rfl⟩
    case round =>
      obtain ⟨k, rfl, hk, ha⟩ := hrel
      have HA := Lib.hid ha
      clear ha HL HR
      by_cases hlt : (k : Int) < s.size
      · have hks : k < s.size := by omega
        have hkl : k < s.data.toList.length := by rw [HZ.out]; exact hks
        have H1 := Lib.hid (fun W => spec_letter s[k] W)
        have H2 := Lib.hid (fun W => spec_digit s[k] W)
        cases hi : Tk.idb s[k]
        · have hi2 : Tk.letter s[k] = false ∧ Dec.isDig s[k] = false := by unfold Tk.idb at hi; simpa using hi
          rw [hi2.1] at H1
          rw [hi2.2] at H2
          have HN : Hid (s.data.toList.all Tk.idb = false) := by
            show _ = _
            rw [List.all_eq_false]
            exact ⟨s[k], List.getElem_mem hkl, by rw [hi]; simp⟩
          clear hi hi2
          go_wp2_with (first | (go_at_call 67; refine (H1.out _).mono ?_; rintro e w3 ⟨rfl, rfl⟩) | (go_at_call 69; refine (H2.out _).mono ?_; rintro e w4 ⟨rfl, rfl⟩))
          go_ret
          exact ⟨ret_b (by rw [HE.out, HN.out]), HB.out⟩
        · have HN : Hid (IdTo s (k + 1)) := by
            show (s.data.toList.take (k + 1)).all Tk.idb = true
            rw [List.take_succ_eq_append_getElem hkl, List.all_append, HA.out]
            show (true && (Tk.idb s[k] && true)) = true
            rw [hi]; rfl
          cases hl : Tk.letter s[k]
          · have hd : Dec.isDig s[k] = true := by unfold Tk.idb at hi; rw [hl] at hi; simpa using hi
            rw [hl] at H1
            rw [hd] at H2
            clear hi hl hd
            go_wp2_with (first | (go_at_call 67; refine (H1.out _).mono ?_; rintro e w3 ⟨rfl, rfl⟩) | (go_at_call 69; refine (H2.out _).mono ?_; rintro e w4 ⟨rfl, rfl⟩))
            go_round
            case rel => exact ⟨k + 1, by go_num, by omega, HN.out⟩
            case measure => first | (simp [intOf]; done) | (simp [intOf]; omega)
          · rw [hl] at H1
            clear hi hl H2
            go_wp2_with (first | (go_at_call 67; refine (H1.out _).mono ?_; rintro e w3 ⟨rfl, rfl⟩))
            go_round
            case rel => exact ⟨k + 1, by go_num, by omega, HN.out⟩
            case measure => first | (simp [intOf]; done) | (simp [intOf]; omega)
      · obtain rfl : k = s.size := by omega
        have HN : Hid (s.data.toList.all Tk.idb = true) := by
          have h := HA.out
          unfold IdTo at h
          rw [List.take_of_length_le (by rw [HZ.out]; exact Nat.le_refl _)] at h
          exact h
        go_wp2
        go_ret
        exact ⟨ret_b (by rw [HE.out, HN.out]), HB.out⟩
end Go.Proofs.YtckjmmapekaapaaGreatDoor
/- Which tokens begin or end an expression, and the operators, in the reference model. No conditions. -/
namespace Go.Proofs.YtckjmmapekaapaaGreatDoor
open Go.RowKit
set_option linter.unusedVariables false

/-- A token by value. -/
abbrev tokV (k : Int) (t : ByteArray) (ln : Int) : Value := .agg #[.int .i64 k, .string t, .int .i64 ln]
theorem eq_word (t : ByteArray) (l : List UInt8) (b : Bool) (h : (t.data.toList == l) = b) : (t.toList == l) = b := by rw [ByteArray.toList_eq]; exact h
theorem kind_cases (k : Int) : k = 2 ∨ k = 7 ∨ (k ≠ 2 ∧ k ≠ 7 ∧ k = 1) ∨ (k ≠ 2 ∧ k ≠ 7 ∧ k ≠ 1 ∧ k < 3) ∨ (k ≠ 2 ∧ k ≠ 7 ∧ k ≠ 1 ∧ 3 ≤ k ∧ k ≤ 6) ∨ (k ≠ 2 ∧ k ≠ 7 ∧ k ≠ 1 ∧ 3 ≤ k ∧ 6 < k) := by omega
theorem rest_kind {k : Int} (b : Bool) (h : k = 1 ∧ b = true ∨ k ≠ 1 ∧ k < 3 ∧ b = false ∨ k ≠ 1 ∧ 3 ≤ k ∧ k ≤ 6 ∧ b = true ∨ k ≠ 1 ∧ 6 < k ∧ b = false) : (k == 1 || (decide (3 ≤ k) && decide (k ≤ 6))) = b := by
  rcases h with ⟨rfl, rfl⟩ | ⟨h1, h2, rfl⟩ | ⟨h1, h2, h3, rfl⟩ | ⟨h1, h2, rfl⟩
  · rfl
  · simp [h1]; omega
  · simp [h2, h3]
  · simp [h1]; omega
end Go.Proofs.YtckjmmapekaapaaGreatDoor
/- The reference model: the first place of a name, the names of the functions. No conditions. -/
namespace Go.Proofs.YtckjmmapekaapaaGreatDoor
open Go.RowKit
set_option linter.unusedVariables false

theorem ret_in {a b : Int} (h : a = b) : Ending.returned (.int .i64 a) = .returned (.int .i64 b) := by rw [h]
/-- Up to place k the name was not met. -/
def NotYet (l : List ByteArray) (s : ByteArray) (k : Nat) : Prop := ∀ x ∈ l.take k, eqN x s = false
theorem notYet_zero (l : List ByteArray) (s : ByteArray) : NotYet l s 0 := fun x h => by simp at h
theorem notYet_succ {l : List ByteArray} {s : ByteArray} {k : Nat} (h : NotYet l s k) (hk : k < l.length) (hx : eqN l[k] s = false) : NotYet l s (k + 1) := fun x hm => by
  rw [List.take_succ_eq_append_getElem hk] at hm
  rcases List.mem_append.1 hm with hm | hm
  · exact h x hm
  · rw [List.mem_singleton] at hm; rw [hm]; exact hx
theorem notYet_all {l : List ByteArray} {s : ByteArray} (h : NotYet l s l.length) : fx l s = none := fx_none.2 fun x hx => h x (by rw [List.take_length]; exact hx)
set_option maxHeartbeats 800000 in
theorem spec_find (v : Value) (l : List ByteArray) (s : ByteArray) (w : World) (h : Is w (strsD l) v) (hl : (l.length : Int) ≤ 1048576) : Calls Tryz.prog 33 #[v, .string s] w fun e w' => e = .returned (.int .i64 (fxI l s)) ∧ w = w' := by
  obtain ⟨a, c, rfl⟩ := is_slice h
  have HK := Lib.hid h
  clear h
  go_enter Tryz.func33, Tryz.ntmps33
  go_wp2
  go_loop [5] (fun i => ∃ k : Nat, i = .int .i64 k ∧ k ≤ l.length ∧ NotYet l s k) (fun i => l.length - (intOf i).toNat)
  case atStart => exact ⟨0, rfl, Nat.zero_le _, notYet_zero l s⟩
  case round =>
    obtain ⟨k, rfl, hk, hn⟩ := hrel
    have HN := Lib.hid hn
    clear hn
    by_cases hlt : k < l.length
    · obtain ⟨g, o, rfl, d1⟩ := str_at HK.out k hlt
      cases he : eqN l[k] s
      case true =>
        have HX := Lib.hid (fxI_some (fx_at hlt he HN.out))
        have t1 : (l[k].toList == s.toList) = true := he
        clear he
        generalize l[k] = x at d1 t1
        go_wp2
        go_ret
        exact ⟨ret_in HX.out.symm, rfl⟩
      case false =>
        have HX := Lib.hid (notYet_succ HN.out hlt he)
        have t1 : (l[k].toList == s.toList) = false := he
        clear he
        generalize l[k] = x at d1 t1
        go_wp2
        go_round
        case rel => exact ⟨k + 1, by go_num, by omega, HX.out⟩
        case measure => first | (simp [intOf]; done) | (simp [intOf]; omega)
    · obtain rfl : k = l.length := by omega
      have HX := Lib.hid (fxI_none (notYet_all HN.out))
      go_wp2
      go_ret
      exact ⟨ret_in HX.out.symm, rfl⟩
theorem is_strs_new (w : World) (l : List ByteArray) (t : TypeId) (cs : Array Value) (hcs : cs = (l.map Value.string).toArray) : Is (w.alloc (.cells cs t)) (strsD l) (.slice (some ⟨w.heap.size, 0, none⟩) l.length l.length) := by
  subst hcs
  rw [Is]
  refine ⟨_, _, rfl, .inr ⟨Nat.le_refl _, w.heap.size, 0, rfl, isAll_of fun j d hj => ?_⟩⟩
  rw [List.getElem?_map] at hj
  obtain ⟨s, hs, rfl⟩ := Option.map_eq_some_iff.1 hj
  refine ⟨.string s, ?_, by rw [Is]⟩
  rw [Nat.zero_add, World.cell?_alloc_mark]
  simp [hs]
set_option maxRecDepth 100000 in
theorem spec_funs (w : World) : Calls Tryz.prog 32 #[] w fun e w' => e = .returned (.slice (some ⟨w.heap.size, 0, none⟩) 55 55) ∧ w.alloc (.cells (funL.map Value.string).toArray 9) = w' := by
  go_enter Tryz.func32, Tryz.ntmps32
  go_wp2
  go_ret
  exact ⟨rfl, rfl⟩
theorem spec_funs2 (w : World) : Calls Tryz.prog 32 #[] w fun e w' => e = .returned (.slice (some ⟨w.heap.size, 0, none⟩) 55 55) ∧ Is w' (strsD funL) (.slice (some ⟨w.heap.size, 0, none⟩) 55 55) ∧ w'.heap.size = w.heap.size + 1 ∧ Below w.heap.size w w' :=
  (spec_funs w).mono fun e w' ⟨he, hw⟩ => by
    subst hw
    exact ⟨he, is_strs_new w funL 9 _ rfl, World.size_alloc _ _, bl1 _ _⟩
end Go.Proofs.YtckjmmapekaapaaGreatDoor
/- The program's table of the functions' names; a function's number. The table reads as the program's text lays it. -/
namespace Go.Proofs.YtckjmmapekaapaaGreatDoor
open Go.RowKit
set_option linter.unusedVariables false

/-- The table holds the names. -/
def NamesAt (W : World) : Prop := ∃ t fr, W.heap[0]? = some (.cells (funL.map Value.string).toArray t fr)
theorem NamesAt.lt {W : World} (h : NamesAt W) : 0 < W.heap.size := by
  obtain ⟨t, fr, h⟩ := h
  exact (Array.getElem?_eq_some_iff.1 h).1
theorem NamesAt.keep {W W' : World} (h : NamesAt W) (hb : W'.heap[0]? = W.heap[0]?) : NamesAt W' := by
  obtain ⟨t, fr, h⟩ := h
  exact ⟨t, fr, hb.trans h⟩
theorem NamesAt.later {W W' : World} (h : NamesAt W) (hb : Below W.heap.size W W') : NamesAt W' := h.keep (hb.block _ h.lt)
theorem run_index_names (k : Nat) (x : ByteArray) (hk : funL[k]? = some x) (w : World) : (Instr.index 143 (.agg (funL.map Value.string).toArray) (.int .i64 (k : Int))).run Tryz.prog w = .ok (.string x) w := by
  have hl : k < 55 := (List.getElem?_eq_some_iff.1 hk).1
  have hc : ((funL.map Value.string).toArray)[k]? = some (.string x) := by simp [hk]
  generalize (funL.map Value.string).toArray = cs at hc ⊢
  obtain ⟨i0, hi, hz0, hz1, hz2⟩ := info_parts info_string
  have h1 : (0 : Int) ≤ (k : Int) ∧ (k : Int) < ((55 : Nat) : Int) := by omega
  simp [Instr.index, run_underlying Tryz.underlying143, run_underlying Tryz.underlying9, asIntOf, sizeOf, typeInfo, hi, hz1, part, isAgg, hc]
  intro h; omega
theorem cell_names {W : World} (h : NamesAt W) (k : Nat) (x : ByteArray) (hk : funL[k]? = some x) : W.cell? ⟨0, k, none⟩ = some (.string x) := by
  obtain ⟨t, fr, h⟩ := h
  rw [cell_of_row W _ k _ t fr h]
  simp [hk]
set_option maxRecDepth 100000 in
set_option maxHeartbeats 1600000 in
theorem impl_fnumber (s : ByteArray) (w : World) (hN : NamesAt w) : Calls Tryz.prog 78 #[.string s] w fun e w' => e = .returned (.int .i64 (fxI funL s)) ∧ w = w' := by
  obtain ⟨tt, fr, hg⟩ := hN
  have HG := Lib.hid hg
  have HI := Lib.hid run_index_names
  clear hg
  obtain ⟨cs, hcs⟩ : ∃ cs, (funL.map Value.string).toArray = cs := ⟨_, rfl⟩
  have hsz : (Tryz.prog.info? 143).map (·.size) = some cs.size := by rw [← hcs]; kernel_rfl
  have HSZ := Lib.hid hsz
  rw [hcs] at HG HI
  clear hcs hsz
  go_enter Tryz.func78, Tryz.ntmps78
  go_wp2_with (refine wpList_load_row rfl 143 _ rfl 0 rfl tt cs fr _ HG.out Tryz.underlying143 rfl HSZ.out ?_)
  go_loop [3, 4, 6] (fun _ _ i => ∃ k : Nat, i = .int .i64 k ∧ k ≤ funL.length ∧ NotYet funL s k) (fun _ _ i => funL.length - (intOf i).toNat)
  case atStart => exact ⟨0, rfl, Nat.zero_le _, notYet_zero funL s⟩
  case round =>
    obtain ⟨k, rfl, hk, hn⟩ := hrel
    have HN := Lib.hid hn
    have HL : Hid (funL.length = 55) := Lib.hid rfl
    clear hn
    by_cases hlt : k < funL.length
    · have hix := HI.out k funL[k] (List.getElem?_eq_getElem hlt)
      have hk55 : (k : Int) < 55 := by have := HL.out; omega
      have HLT := Lib.hid hlt
      cases he : eqN funL[k] s
      case true =>
        have HX := Lib.hid (fxI_some (fx_at hlt he HN.out))
        have t1 : (funL[k].toList == s.toList) = true := he
        clear he
        generalize funL[k] = x at hix t1
        clear hlt
        go_wp2
        go_ret
        exact ⟨ret_in HX.out.symm, rfl⟩
      case false =>
        have HX := Lib.hid (notYet_succ HN.out hlt he)
        have t1 : (funL[k].toList == s.toList) = false := he
        clear he
        generalize funL[k] = x at hix t1
        clear hlt
        go_wp2
        go_round
        case rel => exact ⟨k + 1, by go_num, HLT.out, HX.out⟩
        case measure => have := HLT.out; first | (simp [intOf]; done) | (simp [intOf]; omega)
    · obtain rfl : k = funL.length := by omega
      have HX := Lib.hid (fxI_none (notYet_all HN.out))
      have h55 : ¬ ((funL.length : Nat) : Int) < 55 := by have := HL.out; omega
      go_wp2
      go_ret
      exact ⟨ret_in HX.out.symm, rfl⟩
/-- The name of a function. -/
def fnName (n : Int) : ByteArray := if 0 ≤ n then (match funL[n.toNat]? with | some x => x | none => ByteArray.empty) else ByteArray.empty
theorem fnName_neg {n : Int} (h : n < 0) : fnName n = ByteArray.empty := by unfold fnName; rw [if_neg (by omega)]
theorem fnName_far {n : Int} (h : 55 ≤ n) : fnName n = ByteArray.empty := by
  unfold fnName
  split
  · rw [List.getElem?_eq_none (by rw [funL_len]; omega)]
  · rfl
theorem fnName_at {k : Nat} {x : ByteArray} (h : funL[k]? = some x) : fnName (k : Int) = x := by
  unfold fnName
  rw [if_pos (by omega), Int.toNat_natCast, h]
theorem ret_st {a b : ByteArray} (h : a = b) : Ending.returned (.string a) = .returned (.string b) := by rw [h]
end Go.Proofs.YtckjmmapekaapaaGreatDoor
