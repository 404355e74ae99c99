/- Joined texts: K3, K4, K5, V2, V3, V4. No conditions besides those that each states. -/
import Derived.Test.YtbadepiakkhabaaDoorZ2
import Derived.Test.YtbadepiakkhabaaDoorZ7
import Derived.Test.YtbadepiakkhabaaDoorZ11
/- Words: letters, lists of words, names, in the reference model. No conditions. -/
namespace Go.Proofs.YtbadepiakkhabaaDoor
open Go.RowKit
set_option linter.unusedVariables false

theorem letter_cases (b : UInt8) : (b.toNat < 65 ∧ Tk.letter b = false) ∨ (65 ≤ b.toNat ∧ b.toNat ≤ 90 ∧ Tk.letter b = true) ∨ (90 < b.toNat ∧ b.toNat < 97 ∧ b ≠ 95 ∧ Tk.letter b = false) ∨ (b = 95 ∧ Tk.letter b = true) ∨ (97 ≤ b.toNat ∧ b.toNat ≤ 122 ∧ Tk.letter b = true) ∨ (122 < b.toNat ∧ Tk.letter b = false) := by
  have h95 : (b == 95) = decide (b.toNat = 95) := by rw [Bool.eq_iff_iff]; simp [← UInt8.toNat_inj]
  unfold Tk.letter
  rw [h95]
  by_cases h0 : b = 95
  · subst h0; right; right; right; left; exact ⟨rfl, rfl⟩
  · have h1 : b.toNat ≠ 95 := fun e => h0 (UInt8.toNat_inj.1 e)
    rcases (show b.toNat < 65 ∨ (65 ≤ b.toNat ∧ b.toNat ≤ 90) ∨ (90 < b.toNat ∧ b.toNat < 97) ∨ (97 ≤ b.toNat ∧ b.toNat ≤ 122) ∨ 122 < b.toNat by omega) with h | h | h | h | h
    · left; exact ⟨h, by simp; omega⟩
    · right; left; exact ⟨h.1, h.2, by simp; omega⟩
    · right; right; left; exact ⟨h.1, h.2, h0, by simp; omega⟩
    · right; right; right; right; left; exact ⟨h.1, h.2, by simp; omega⟩
    · right; right; right; right; right; exact ⟨h, by simp; omega⟩
theorem ne8 {a b : UInt8} (h : a ≠ b) : ((a.toNat : Int) == (b.toNat : Int)) = false := by
  have h2 : ¬ a.toNat = b.toNat := fun e => h (UInt8.toNat_inj.1 e)
  simp; omega
theorem spec_letter (b : UInt8) (w : World) : Calls Tryd.prog 55 #[.int .u8 (b.toNat : Int)] w fun e w' => e = .returned (.bool (Tk.letter b)) ∧ w = w' := by
  have hb := UInt8.toNat_lt b
  rcases letter_cases b with ⟨h, e⟩ | ⟨h, h2, e⟩ | ⟨h, h2, h3, e⟩ | ⟨h, e⟩ | ⟨h, h2, e⟩ | ⟨h, e⟩
  · rw [e]
    have ta : decide ((97 : Int) ≤ b.toNat) = false := by simp; omega
    have tA : decide ((65 : Int) ≤ b.toNat) = false := by simp; omega
    have tu : ((b.toNat : Int) == 95) = false := by simp; omega
    clear e
    go_enter Tryd.func55, Tryd.ntmps55
    go_wp2
    go_ret
    exact ⟨rfl, rfl⟩
  · rw [e]
    have ta : decide ((97 : Int) ≤ b.toNat) = false := by simp; omega
    have tA : decide ((65 : Int) ≤ b.toNat) = true := by simp; omega
    have tZ : decide ((b.toNat : Int) ≤ 90) = true := by simp; omega
    have tu : ((b.toNat : Int) == 95) = false := by simp; omega
    clear e
    go_enter Tryd.func55, Tryd.ntmps55
    go_wp2
    go_ret
    exact ⟨rfl, rfl⟩
  · rw [e]
    have ta : decide ((97 : Int) ≤ b.toNat) = false := by simp; omega
    have tA : decide ((65 : Int) ≤ b.toNat) = true := by simp; omega
    have tZ : decide ((b.toNat : Int) ≤ 90) = false := by simp; omega
    have tu : ((b.toNat : Int) == 95) = false := ne8 h3
    clear e
    go_enter Tryd.func55, Tryd.ntmps55
    go_wp2
    go_ret
    exact ⟨rfl, rfl⟩
  · rw [e]
    have ta : decide ((97 : Int) ≤ b.toNat) = false := by subst h; rfl
    have tA : decide ((65 : Int) ≤ b.toNat) = true := by subst h; rfl
    have tZ : decide ((b.toNat : Int) ≤ 90) = false := by subst h; rfl
    have tu : ((b.toNat : Int) == 95) = true := by subst h; rfl
    clear e
    go_enter Tryd.func55, Tryd.ntmps55
    go_wp2
    go_ret
    exact ⟨rfl, rfl⟩
  · rw [e]
    have ta : decide ((97 : Int) ≤ b.toNat) = true := by simp; omega
    have tz : decide ((b.toNat : Int) ≤ 122) = true := by simp; omega
    have tu : ((b.toNat : Int) == 95) = false := by simp; omega
    clear e
    go_enter Tryd.func55, Tryd.ntmps55
    go_wp2
    go_ret
    exact ⟨rfl, rfl⟩
  · rw [e]
    have ta : decide ((97 : Int) ≤ b.toNat) = true := by simp; omega
    have tz : decide ((b.toNat : Int) ≤ 122) = false := by simp; omega
    have tA : decide ((65 : Int) ≤ b.toNat) = true := by simp; omega
    have tZ : decide ((b.toNat : Int) ≤ 90) = false := by simp; omega
    have tu : ((b.toNat : Int) == 95) = false := by simp; omega
    clear e
    go_enter Tryd.func55, Tryd.ntmps55
    go_wp2
    go_ret
    exact ⟨rfl, rfl⟩
theorem spec_digit (b : UInt8) (w : World) : Calls Tryd.prog 57 #[.int .u8 (b.toNat : Int)] w fun e w' => e = .returned (.bool (Dec.isDig b)) ∧ w = w' := by
  have hb := UInt8.toNat_lt b
  rcases (show b.toNat < 48 ∨ (48 ≤ b.toNat ∧ b.toNat ≤ 57) ∨ 57 < b.toNat by omega) with h | ⟨h, h2⟩ | h
  · rw [show Dec.isDig b = false by simp [Dec.isDig]; omega]
    have t0 : decide ((48 : Int) ≤ b.toNat) = false := by simp; omega
    go_enter Tryd.func57, Tryd.ntmps57
    go_wp2
    go_ret
    exact ⟨rfl, rfl⟩
  · rw [show Dec.isDig b = true by simp [Dec.isDig]; omega]
    have t0 : decide ((48 : Int) ≤ b.toNat) = true := by simp; omega
    have t1 : decide ((b.toNat : Int) ≤ 57) = true := by simp; omega
    go_enter Tryd.func57, Tryd.ntmps57
    go_wp2
    go_ret
    exact ⟨rfl, rfl⟩
  · rw [show Dec.isDig b = false by simp [Dec.isDig]; omega]
    have t0 : decide ((48 : Int) ≤ b.toNat) = true := by simp; omega
    have t1 : decide ((b.toNat : Int) ≤ 57) = false := by simp; omega
    go_enter Tryd.func57, Tryd.ntmps57
    go_wp2
    go_ret
    exact ⟨rfl, rfl⟩

/-- Words in memory. -/
def Words (w : World) (g : Nat) (l : List (List UInt8)) : Prop := ∀ i, i < l.length → w.cell? ⟨g, i, none⟩ = some (.string (str8 (l.getD i [])))
theorem words_new (w : World) (l : List (List UInt8)) (t : TypeId) (cs : Array Value) (hcs : cs = (l.map fun x => Value.string (str8 x)).toArray) : Words (w.alloc (.cells cs t)) w.heap.size l := by
  intro i hi
  subst hcs
  rw [World.cell?_alloc_mark]
  rw [List.getD_eq_getElem?_getD, List.getElem?_eq_getElem hi]
  simp [hi]
theorem hasTo (l : List (List UInt8)) (x : List UInt8) (k : Nat) (h : k < l.length) : ((l.take (k + 1)).contains x) = ((l.take k).contains x || (l.getD k [] == x)) := by
  rw [List.take_succ_eq_append_getElem h, List.getD_eq_getElem?_getD, List.getElem?_eq_getElem h, Bool.eq_iff_iff]
  simp only [List.contains_iff_mem, List.mem_append, List.mem_singleton, Bool.or_eq_true, beq_iff_eq, Option.getD_some]
  exact or_congr Iff.rfl eq_comm
theorem str8_toList (l : List UInt8) : (str8 l).toList = l := by rw [ByteArray.toList_eq]; exact str8_list l
/-- Is the word on the list? -/
def hasW (l : List (List UInt8)) (x : List UInt8) : Bool := l.contains x
theorem hasW_yes {l : List (List UInt8)} {x : List UInt8} (h : l.contains x = true) : Ending.returned (.bool true) = .returned (.bool (hasW l x)) := by unfold hasW; rw [h]
theorem hasW_no {l : List (List UInt8)} {x : List UInt8} (h : l.contains x = false) : Ending.returned (.bool false) = .returned (.bool (hasW l x)) := by unfold hasW; rw [h]
theorem spec_hasw (l : List (List UInt8)) (g cap : Nat) (s : ByteArray) (w : World) (hw : Words w g l) (hl : (l.length : Int) ≤ 1048576) :
    Calls Tryd.prog 89 #[.slice (some ⟨g, 0, none⟩) l.length cap, .string s] w fun e w' => e = .returned (.bool (hasW l s.data.toList)) ∧ w = w' := by
  have HW := Lib.hid hw
  have HT := Lib.hid (ByteArray.toList_eq s)
  clear hw
  go_enter Tryd.func89, Tryd.ntmps89
  go_wp2
  go_loop [4, 5] (fun _ i => ∃ k : Nat, i = .int .i64 k ∧ k ≤ l.length ∧ (l.take k).contains s.data.toList = false) (fun _ i => l.length - (intOf i).toNat)
  case atStart => exact ⟨0, rfl, by omega, rfl⟩
  case round =>
    obtain ⟨k, rfl, hk, hc⟩ := hrel
    have HC := Lib.hid hc
    clear hc
    by_cases hlt : (k : Int) < l.length
    · have hkl : k < l.length := by omega
      have hcell := HW.out k hkl
      have HX := Lib.hid (hasTo l s.data.toList k hkl)
      generalize l.getD k [] = x at hcell HX
      have hx := str8_toList x
      by_cases he : x = s.data.toList
      · have t1 : (x == s.toList) = true := by rw [he, HT.out]; simp
        have HY : Hid (l.contains s.data.toList = true) := by
          have h := HX.out
          rw [HC.out, he] at h
          have h2 : (l.take (k + 1)).contains s.data.toList = true := by rw [h]; simp
          show l.contains s.data.toList = true
          rw [List.contains_iff_mem] at h2 ⊢
          exact List.mem_of_mem_take h2
        clear he
        go_wp2
        go_ret
        exact ⟨hasW_yes HY.out, rfl⟩
      · have t1 : (x == s.toList) = false := by rw [HT.out]; simpa using he
        have HN : Hid ((l.take (k + 1)).contains s.data.toList = false) := by
          show _ = _
          rw [HX.out, HC.out]; simpa using he
        clear he
        go_wp2
        go_round
        case rel => exact ⟨k + 1, by go_num, by omega, HN.out⟩
        case measure => first | (simp [intOf]; done) | (simp [intOf]; omega)
    · obtain rfl : k = l.length := by omega
      have HY : Hid (l.contains s.data.toList = false) := by have h := HC.out; rw [List.take_length] at h; exact h
      go_wp2
      go_ret
      exact ⟨hasW_no HY.out, rfl⟩

theorem words_lt (l : List (List UInt8)) (h : l.length ≤ 100) : (l.length : Int) ≤ 1048576 := by omega
theorem spec_reserved (s : ByteArray) (w : World) : Calls Tryd.prog 56 #[.string s] w fun e w' => e = .returned (.bool (hasW Tk.reserved s.data.toList)) ∧ Below w.heap.size w w' := by
  have HH : Hid (Calls Tryd.prog 89 #[.slice (some ⟨w.heap.size, 0, none⟩) 26 26, .string s] (w.alloc (.cells (Tk.reserved.map fun x => Value.string (str8 x)).toArray 9)) fun e w' => e = .returned (.bool (hasW Tk.reserved s.data.toList)) ∧ (w.alloc (.cells (Tk.reserved.map fun x => Value.string (str8 x)).toArray 9)) = w') :=
    spec_hasw Tk.reserved w.heap.size 26 s _ (words_new w Tk.reserved 9 _ rfl) (words_lt _ (by decide))
  generalize hasW Tk.reserved s.data.toList = b at HH ⊢
  go_enter Tryd.func56, Tryd.ntmps56
  go_wp2_with fail
  refine HH.out.mono ?_
  rintro e w1 ⟨rfl, rfl⟩
  go_wp2
  go_ret
  exact ⟨rfl, bl1 _ _⟩
theorem spec_keyword (s : ByteArray) (w : World) : Calls Tryd.prog 149 #[.string s] w fun e w' => e = .returned (.bool (hasW Tk.keywords s.data.toList)) ∧ Below w.heap.size w w' := by
  have HH : Hid (Calls Tryd.prog 89 #[.slice (some ⟨w.heap.size, 0, none⟩) 8 8, .string s] (w.alloc (.cells (Tk.keywords.map fun x => Value.string (str8 x)).toArray 9)) fun e w' => e = .returned (.bool (hasW Tk.keywords s.data.toList)) ∧ (w.alloc (.cells (Tk.keywords.map fun x => Value.string (str8 x)).toArray 9)) = w') :=
    spec_hasw Tk.keywords w.heap.size 8 s _ (words_new w Tk.keywords 9 _ rfl) (words_lt _ (by decide))
  generalize hasW Tk.keywords s.data.toList = b at HH ⊢
  go_enter Tryd.func149, Tryd.ntmps149
  go_wp2_with fail
  refine HH.out.mono ?_
  rintro e w1 ⟨rfl, rfl⟩
  go_wp2
  go_ret
  exact ⟨rfl, bl1 _ _⟩
end Go.Proofs.YtbadepiakkhabaaDoor
/- Names, and which tokens begin or end an expression, in the reference model. No conditions. -/
namespace Go.Proofs.YtbadepiakkhabaaDoor
open Go.RowKit
set_option linter.unusedVariables false

theorem name_cases (s : ByteArray) : ((s.size < 1 ∨ 12 < s.size) ∧ Tk.isName s.data.toList = false) ∨ ∃ h : 1 ≤ s.size, s.size ≤ 12 ∧ ((Tk.letter s[0] = false ∧ Tk.isName s.data.toList = false)
    ∨ (Tk.letter s[0] = true ∧ hasW Tk.reserved s.data.toList = true ∧ Tk.isName s.data.toList = false) ∨ (Tk.letter s[0] = true ∧ hasW Tk.reserved s.data.toList = false ∧ Tk.isName s.data.toList = s.data.toList.all Tk.idb)) := by
  have hl := len8 s
  by_cases h : s.size < 1 ∨ 12 < s.size
  · left
    refine ⟨h, ?_⟩
    unfold Tk.isName
    rcases h with h | h
    · rw [decide_eq_false (by omega)]; rfl
    · rw [decide_eq_false (p := s.data.toList.length ≤ 12) (by omega)]; simp
  · right
    refine ⟨by omega, by omega, ?_⟩
    have hh : s.data.toList.head? = some (s[0]'(by omega)) := by rw [List.head?_eq_getElem?, List.getElem?_eq_getElem (by omega)]; rfl
    have e : Tk.isName s.data.toList = (Tk.letter (s[0]'(by omega)) && !hasW Tk.reserved s.data.toList && s.data.toList.all Tk.idb) := by
      unfold Tk.isName
      rw [decide_eq_true (by omega), decide_eq_true (by omega), hh]
      show (true && true && (some (Tk.letter _) == some true) && !Tk.isReserved _ && _) = _
      cases Tk.letter (s[0]'(by omega)) <;> rfl
    cases h1 : Tk.letter (s[0]'(by omega))
    · left; exact ⟨rfl, by rw [e, h1]; rfl⟩
    · right
      cases h2 : hasW Tk.reserved s.data.toList
      · right; exact ⟨rfl, rfl, by rw [e, h1, h2]; rfl⟩
      · left; exact ⟨rfl, rfl, by rw [e, h1, h2]; rfl⟩
theorem ret_b {a b : Bool} (h : a = b) : Ending.returned (.bool a) = .returned (.bool b) := by rw [h]
/-- The first k bytes may stand in a name. -/
def IdTo (s : ByteArray) (k : Nat) : Prop := (s.data.toList.take k).all Tk.idb = true

set_option maxHeartbeats 800000 in
theorem spec_name (s : ByteArray) (w : World) (hs : (s.size : Int) ≤ 1048576) : Calls Tryd.prog 28 #[.string s] w fun e w' => e = .returned (.bool (Tk.isName s.data.toList)) ∧ Below w.heap.size w w' := by
  rcases name_cases s with ⟨h, e⟩ | ⟨h1, h2, ⟨h3, e⟩ | ⟨h3, h4, e⟩ | ⟨h3, h4, e⟩⟩
  · rw [e]
    clear e
    rcases h with h | h
    · have t1 : (s.size : Int) < 1 := by omega
      clear h
      go_enter Tryd.func28, Tryd.ntmps28
      go_wp2
      go_ret
      exact ⟨rfl, Below.refl _ _⟩
    · have t1 : ¬ (s.size : Int) < 1 := by omega
      have t2 : (12 : Int) < s.size := by omega
      clear h
      go_enter Tryd.func28, Tryd.ntmps28
      go_wp2
      go_ret
      exact ⟨rfl, Below.refl _ _⟩
  · rw [e]
    have t1 : ¬ (s.size : Int) < 1 := by omega
    have t2 : ¬ (12 : Int) < s.size := by omega
    have t3 : (0 : Int) < s.size := by omega
    have HL := Lib.hid (fun W => spec_letter s[0] W)
    rw [h3] at HL
    clear e h3
    go_enter Tryd.func28, Tryd.ntmps28
    go_wp2_with (go_at_call 55; refine (HL.out _).mono ?_; rintro e w1 ⟨rfl, rfl⟩)
    go_ret
    exact ⟨rfl, Below.refl _ _⟩
  · rw [e]
    have t1 : ¬ (s.size : Int) < 1 := by omega
    have t2 : ¬ (12 : Int) < s.size := by omega
    have t3 : (0 : Int) < s.size := by omega
    have HL := Lib.hid (fun W => spec_letter s[0] W)
    rw [h3] at HL
    have HR := Lib.hid (fun W => spec_reserved s W)
    rw [h4] at HR
    clear e h3 h4
    go_enter Tryd.func28, Tryd.ntmps28
    go_wp2_with (first | (go_at_call 55; refine (HL.out _).mono ?_; rintro e w1 ⟨rfl, rfl⟩) | (go_at_call 56; refine (HR.out _).mono ?_; rintro e w2 ⟨rfl, hb2⟩; have HB := Lib.hid hb2; clear hb2))
    go_ret
    exact ⟨rfl, HB.out⟩
  · have t1 : ¬ (s.size : Int) < 1 := by omega
    have t2 : ¬ (12 : Int) < s.size := by omega
    have t3 : (0 : Int) < s.size := by omega
    have HL := Lib.hid (fun W => spec_letter s[0] W)
    rw [h3] at HL
    have HR := Lib.hid (fun W => spec_reserved s W)
    rw [h4] at HR
    have HE := Lib.hid e
    have HZ := Lib.hid (len8 s)
    clear e h3 h4
    go_enter Tryd.func28, Tryd.ntmps28
    go_wp2_with (first | (go_at_call 55; refine (HL.out _).mono ?_; rintro e w1 ⟨rfl, rfl⟩) | (go_at_call 56; refine (HR.out _).mono ?_; rintro e w2 ⟨rfl, hb2⟩; have HB := Lib.hid hb2; clear hb2))
    go_loop [2, 3] (fun _ i => ∃ k : Nat, i = .int .i64 k ∧ k ≤ s.size ∧ IdTo s k) (fun _ i => s.size - (intOf i).toNat)
    case atStart => exact ⟨0, rfl, by omega, rfl⟩
    case round =>
      obtain ⟨k, rfl, hk, ha⟩ := hrel
      have HA := Lib.hid ha
      clear ha HL HR
      by_cases hlt : (k : Int) < s.size
      · have hks : k < s.size := by omega
        have hkl : k < s.data.toList.length := by rw [HZ.out]; exact hks
        have H1 := Lib.hid (fun W => spec_letter s[k] W)
        have H2 := Lib.hid (fun W => spec_digit s[k] W)
        cases hi : Tk.idb s[k]
        · have hi2 : Tk.letter s[k] = false ∧ Dec.isDig s[k] = false := by unfold Tk.idb at hi; simpa using hi
          rw [hi2.1] at H1
          rw [hi2.2] at H2
          have HN : Hid (s.data.toList.all Tk.idb = false) := by
            show _ = _
            rw [List.all_eq_false]
            exact ⟨s[k], List.getElem_mem hkl, by rw [hi]; simp⟩
          clear hi hi2
          go_wp2_with (first | (go_at_call 55; refine (H1.out _).mono ?_; rintro e w3 ⟨rfl, rfl⟩) | (go_at_call 57; refine (H2.out _).mono ?_; rintro e w4 ⟨rfl, rfl⟩))
          go_ret
          exact ⟨ret_b (by rw [HE.out, HN.out]), HB.out⟩
        · have HN : Hid (IdTo s (k + 1)) := by
            show (s.data.toList.take (k + 1)).all Tk.idb = true
            rw [List.take_succ_eq_append_getElem hkl, List.all_append, HA.out]
            show (true && (Tk.idb s[k] && true)) = true
            rw [hi]; rfl
          cases hl : Tk.letter s[k]
          · have hd : Dec.isDig s[k] = true := by unfold Tk.idb at hi; rw [hl] at hi; simpa using hi
            rw [hl] at H1
            rw [hd] at H2
            clear hi hl hd
            go_wp2_with (first | (go_at_call 55; refine (H1.out _).mono ?_; rintro e w3 ⟨rfl, rfl⟩) | (go_at_call 57; refine (H2.out _).mono ?_; rintro e w4 ⟨rfl, rfl⟩))
            go_round
            case rel => exact ⟨k + 1, by go_num, by omega, HN.out⟩
            case measure => first | (simp [intOf]; done) | (simp [intOf]; omega)
          · rw [hl] at H1
            clear hi hl H2
            go_wp2_with (first | (go_at_call 55; refine (H1.out _).mono ?_; rintro e w3 ⟨rfl, rfl⟩))
            go_round
            case rel => exact ⟨k + 1, by go_num, by omega, HN.out⟩
            case measure => first | (simp [intOf]; done) | (simp [intOf]; omega)
      · obtain rfl : k = s.size := by omega
        have HN : Hid (s.data.toList.all Tk.idb = true) := by
          have h := HA.out
          unfold IdTo at h
          rw [List.take_of_length_le (by rw [HZ.out]; exact Nat.le_refl _)] at h
          exact h
        go_wp2
        go_ret
        exact ⟨ret_b (by rw [HE.out, HN.out]), HB.out⟩
end Go.Proofs.YtbadepiakkhabaaDoor
/- Which tokens begin or end an expression, and the operators, in the reference model. No conditions. -/
namespace Go.Proofs.YtbadepiakkhabaaDoor
open Go.RowKit
set_option linter.unusedVariables false

end Go.Proofs.YtbadepiakkhabaaDoor
/- The reference model: the first place of a name, the names of the functions. No conditions. -/
namespace Go.Proofs.YtbadepiakkhabaaDoor
open Go.RowKit
set_option linter.unusedVariables false

theorem ret_in {a b : Int} (h : a = b) : Ending.returned (.int .i64 a) = .returned (.int .i64 b) := by rw [h]
/-- Up to place k the name was not met. -/
def NotYet (l : List ByteArray) (s : ByteArray) (k : Nat) : Prop := ∀ x ∈ l.take k, eqN x s = false
theorem notYet_zero (l : List ByteArray) (s : ByteArray) : NotYet l s 0 := fun x h => by simp at h
theorem notYet_succ {l : List ByteArray} {s : ByteArray} {k : Nat} (h : NotYet l s k) (hk : k < l.length) (hx : eqN l[k] s = false) : NotYet l s (k + 1) := fun x hm => by
  rw [List.take_succ_eq_append_getElem hk] at hm
  rcases List.mem_append.1 hm with hm | hm
  · exact h x hm
  · rw [List.mem_singleton] at hm; rw [hm]; exact hx
theorem notYet_all {l : List ByteArray} {s : ByteArray} (h : NotYet l s l.length) : fx l s = none := fx_none.2 fun x hx => h x (by rw [List.take_length]; exact hx)
set_option maxHeartbeats 800000 in
theorem spec_find (v : Value) (l : List ByteArray) (s : ByteArray) (w : World) (h : Is w (strsD l) v) (hl : (l.length : Int) ≤ 1048576) : Calls Tryd.prog 49 #[v, .string s] w fun e w' => e = .returned (.int .i64 (fxI l s)) ∧ w = w' := by
  obtain ⟨a, c, rfl⟩ := is_slice h
  have HK := Lib.hid h
  clear h
  go_enter Tryd.func49, Tryd.ntmps49
  go_wp2
  go_loop [5] (fun i => ∃ k : Nat, i = .int .i64 k ∧ k ≤ l.length ∧ NotYet l s k) (fun i => l.length - (intOf i).toNat)
  case atStart => exact ⟨0, rfl, Nat.zero_le _, notYet_zero l s⟩
  case round =>
    obtain ⟨k, rfl, hk, hn⟩ := hrel
    have HN := Lib.hid hn
    clear hn
    by_cases hlt : k < l.length
    · obtain ⟨g, o, rfl, d1⟩ := str_at HK.out k hlt
      cases he : eqN l[k] s
      case true =>
        have HX := Lib.hid (fxI_some (fx_at hlt he HN.out))
        have t1 : (l[k].toList == s.toList) = true := he
        clear he
        generalize l[k] = x at d1 t1
        go_wp2
        go_ret
        exact ⟨ret_in HX.out.symm, rfl⟩
      case false =>
        have HX := Lib.hid (notYet_succ HN.out hlt he)
        have t1 : (l[k].toList == s.toList) = false := he
        clear he
        generalize l[k] = x at d1 t1
        go_wp2
        go_round
        case rel => exact ⟨k + 1, by go_num, by omega, HX.out⟩
        case measure => first | (simp [intOf]; done) | (simp [intOf]; omega)
    · obtain rfl : k = l.length := by omega
      have HX := Lib.hid (fxI_none (notYet_all HN.out))
      go_wp2
      go_ret
      exact ⟨ret_in HX.out.symm, rfl⟩
theorem is_strs_new (w : World) (l : List ByteArray) (t : TypeId) (cs : Array Value) (hcs : cs = (l.map Value.string).toArray) : Is (w.alloc (.cells cs t)) (strsD l) (.slice (some ⟨w.heap.size, 0, none⟩) l.length l.length) := by
  subst hcs
  rw [Is]
  refine ⟨_, _, rfl, .inr ⟨Nat.le_refl _, w.heap.size, 0, rfl, isAll_of fun j d hj => ?_⟩⟩
  rw [List.getElem?_map] at hj
  obtain ⟨s, hs, rfl⟩ := Option.map_eq_some_iff.1 hj
  refine ⟨.string s, ?_, by rw [Is]⟩
  rw [Nat.zero_add, World.cell?_alloc_mark]
  simp [hs]
set_option maxRecDepth 100000 in
theorem spec_funs (w : World) : Calls Tryd.prog 48 #[] w fun e w' => e = .returned (.slice (some ⟨w.heap.size, 0, none⟩) 55 55) ∧ w.alloc (.cells (funL.map Value.string).toArray 9) = w' := by
  go_enter Tryd.func48, Tryd.ntmps48
  go_wp2
  go_ret
  exact ⟨rfl, rfl⟩
theorem spec_funs2 (w : World) : Calls Tryd.prog 48 #[] w fun e w' => e = .returned (.slice (some ⟨w.heap.size, 0, none⟩) 55 55) ∧ Is w' (strsD funL) (.slice (some ⟨w.heap.size, 0, none⟩) 55 55) ∧ w'.heap.size = w.heap.size + 1 ∧ Below w.heap.size w w' :=
  (spec_funs w).mono fun e w' ⟨he, hw⟩ => by
    subst hw
    exact ⟨he, is_strs_new w funL 9 _ rfl, World.size_alloc _ _, bl1 _ _⟩
end Go.Proofs.YtbadepiakkhabaaDoor
/- The reference model: what a name means outside of procedures. No conditions. -/
namespace Go.Proofs.YtbadepiakkhabaaDoor
open Go.RowKit
set_option linter.unusedVariables false

def RetII (w : World) (p : Int × Int) (e : Ending) (w' : World) : Prop := e = .returned (.tuple #[.int .i64 p.1, .int .i64 p.2]) ∧ Below w.heap.size w w'
theorem ret_ii {a b : Int} {p : Int × Int} (h : p = (a, b)) : Ending.returned (.tuple #[.int .i64 a, .int .i64 b]) = .returned (.tuple #[.int .i64 p.1, .int .i64 p.2]) := by rw [h]
theorem outer_rec {u : Un} {s : ByteArray} {k : Nat} (h : fx (u.recs.map Rc.name) s = some k) : outer u s = (5, (k : Int)) := by unfold outer; rw [h]
theorem outer_glob {u : Un} {s : ByteArray} {k : Nat} (h0 : fx (u.recs.map Rc.name) s = none) (h : fx u.globs s = some k) : outer u s = (2, (k : Int)) := by unfold outer; rw [h0, h]
theorem outer_proc {u : Un} {s : ByteArray} {k : Nat} (h0 : fx (u.recs.map Rc.name) s = none) (h1 : fx u.globs s = none) (h : fx (u.procs.map Pc.name) s = some k) : outer u s = (3, (k : Int)) := by unfold outer; rw [h0, h1, h]
theorem outer_fun {u : Un} {s : ByteArray} {k : Nat} (h0 : fx (u.recs.map Rc.name) s = none) (h1 : fx u.globs s = none) (h2 : fx (u.procs.map Pc.name) s = none) (h : fx funL s = some k) : outer u s = (4, (k : Int)) := by unfold outer; rw [h0, h1, h2, h]
theorem outer_none {u : Un} {s : ByteArray} (h0 : fx (u.recs.map Rc.name) s = none) (h1 : fx u.globs s = none) (h2 : fx (u.procs.map Pc.name) s = none) (h : fx funL s = none) : outer u s = (0, 0) := by unfold outer; rw [h0, h1, h2, h]
theorem un_lens {u : Un} (hb : u.bulk ≤ 1048576) : (u.recs.length : Int) ≤ 1048576 ∧ (u.globs.length : Int) ≤ 1048576 ∧ (u.procs.length : Int) ≤ 1048576 := by
  unfold Un.bulk recsB strsB procsB at hb
  omega
theorem recName (u : Un) (k : Nat) (h : k < u.recs.length) : (u.recs.map Rc.name)[k]'(by simpa using h) = u.recs[k].name := by simp
theorem procName (u : Un) (k : Nat) (h : k < u.procs.length) : (u.procs.map Pc.name)[k]'(by simpa using h) = u.procs[k].name := by simp
set_option maxRecDepth 100000 in
set_option maxHeartbeats 3200000 in
theorem spec_outer (u : Un) (hb : u.bulk ≤ 1048576) (s : ByteArray) (w : World) (v1 v2 v3 : Value) (h : UnIs w u v1 v2 v3) : Calls Tryd.prog 86 #[unV v1 v2 v3, .string s] w (RetII w (outer u s)) := by
  unfold RetII
  obtain ⟨l1, l2, l3⟩ := un_lens hb
  obtain ⟨h1, h2, h3⟩ := h
  obtain ⟨a1, c1, rfl⟩ := is_slice h1
  obtain ⟨a2, c2, rfl⟩ := is_slice h2
  obtain ⟨a3, c3, rfl⟩ := is_slice h3
  have B0 := Lib.hid (bl1 w (.cells #[.slice a1 u.recs.length c1, .slice a2 u.globs.length c2, .slice a3 u.procs.length c3] 51))
  have V0 := Lib.hid (Var.new w #[.slice a1 u.recs.length c1, .slice a2 u.globs.length c2, .slice a3 u.procs.length c3] 51)
  obtain ⟨w1, hw1⟩ : ∃ W, w.alloc (.cells #[.slice a1 u.recs.length c1, .slice a2 u.globs.length c2, .slice a3 u.procs.length c3] 51) = W := ⟨_, rfl⟩
  rw [hw1] at B0 V0
  have HW1 := Lib.hid hw1
  have H1 := Lib.hid (h1.later B0.out)
  have H2 := Lib.hid (h2.later B0.out)
  have H3 := Lib.hid (h3.later B0.out)
  have HG := Lib.hid (spec_find _ u.globs s w1 H2.out l2)
  clear h1 h2 h3 hb hw1
  go_enter Tryd.func86, Tryd.ntmps86
  go_wp2
  rw [HW1.out]
  have x0 := (V0.out 0 _ rfl).1
  have x1 := (V0.out 1 _ rfl).1
  have x2 := (V0.out 2 _ rfl).1
  go_loop [6] (fun i => ∃ k : Nat, i = .int .i64 k ∧ k ≤ u.recs.length ∧ NotYet (u.recs.map Rc.name) s k) (fun i => u.recs.length - (intOf i).toNat)
  case atStart => exact ⟨0, rfl, Nat.zero_le _, notYet_zero _ s⟩
  case round =>
    obtain ⟨k, rfl, hk, hn⟩ := hrel
    have HN := Lib.hid hn
    clear hn
    by_cases hlt : k < u.recs.length
    · obtain ⟨g, o, rfl, q0, _, _⟩ := rec_at H1.out k hlt
      have hlm : k < (u.recs.map Rc.name).length := by simpa using hlt
      have HE := Lib.hid (recName u k hlt)
      cases he : eqN u.recs[k].name s
      case true =>
        have HX := Lib.hid (outer_rec (fx_at hlm (by rw [HE.out]; exact he) HN.out))
        have t1 : (u.recs[k].name.toList == s.toList) = true := he
        clear he HE
        generalize u.recs[k] = x at q0 t1
        go_wp2
        go_ret2
        exact ⟨ret_ii HX.out, B0.out⟩
      case false =>
        have HX := Lib.hid (notYet_succ HN.out hlm (by rw [HE.out]; exact he))
        have t1 : (u.recs[k].name.toList == s.toList) = false := he
        clear he HE
        generalize u.recs[k] = x at q0 t1
        go_wp2
        go_round
        case rel => exact ⟨k + 1, by go_num, by omega, HX.out⟩
        case measure => first | (simp [intOf]; done) | (simp [intOf]; omega)
    · obtain rfl : k = u.recs.length := by omega
      have HR := Lib.hid (notYet_all (l := u.recs.map Rc.name) (by rw [List.length_map]; exact HN.out))
      clear HN
      rcases hg : fx u.globs s with _ | k
      · rw [fxI_none hg] at HG
        have HGN := Lib.hid hg
        clear hg
        go_wp2_with fail
        refine HG.out.mono ?_
        rintro e w2 ⟨rfl, rfl⟩
        go_wp2
        go_loop [8] (fun i => ∃ k : Nat, i = .int .i64 k ∧ k ≤ u.procs.length ∧ NotYet (u.procs.map Pc.name) s k) (fun i => u.procs.length - (intOf i).toNat)
        case atStart => exact ⟨0, rfl, Nat.zero_le _, notYet_zero _ s⟩
        case round =>
          obtain ⟨k, rfl, hk, hn⟩ := hrel
          have HN := Lib.hid hn
          clear hn
          by_cases hlt : k < u.procs.length
          · obtain ⟨g, o, rfl, q0, _⟩ := proc_at H3.out k hlt
            have hlm : k < (u.procs.map Pc.name).length := by simpa using hlt
            have HE := Lib.hid (procName u k hlt)
            cases he : eqN u.procs[k].name s
            case true =>
              have HX := Lib.hid (outer_proc HR.out HGN.out (fx_at hlm (by rw [HE.out]; exact he) HN.out))
              have t1 : (u.procs[k].name.toList == s.toList) = true := he
              clear he HE
              generalize u.procs[k] = x at q0 t1
              go_wp2
              go_ret2
              exact ⟨ret_ii HX.out, B0.out⟩
            case false =>
              have HX := Lib.hid (notYet_succ HN.out hlm (by rw [HE.out]; exact he))
              have t1 : (u.procs[k].name.toList == s.toList) = false := he
              clear he HE
              generalize u.procs[k] = x at q0 t1
              go_wp2
              go_round
              case rel => exact ⟨k + 1, by go_num, by omega, HX.out⟩
              case measure => first | (simp [intOf]; done) | (simp [intOf]; omega)
          · obtain rfl : k = u.procs.length := by omega
            have HP := Lib.hid (notYet_all (l := u.procs.map Pc.name) (by rw [List.length_map]; exact HN.out))
            have HF := Lib.hid (spec_funs2 w1)
            clear HN
            rcases hf : fx funL s with _ | k
            · have HX := Lib.hid (outer_none HR.out HGN.out HP.out hf)
              have HFI := Lib.hid (fxI_none hf)
              clear hf
              go_wp2_with fail
              refine HF.out.mono ?_
              rintro e w2 ⟨rfl, hi2, hz2, b2⟩
              have HC := Lib.hid (spec_find _ funL s w2 hi2 (by decide))
              rw [HFI.out] at HC
              have B2 := Lib.hid (below_then B0.out b2)
              clear hi2 hz2 b2
              go_wp2_with fail
              refine HC.out.mono ?_
              rintro e w3 ⟨rfl, rfl⟩
              go_wp2
              go_ret2
              exact ⟨ret_ii HX.out, B2.out⟩
            · have HX := Lib.hid (outer_fun HR.out HGN.out HP.out hf)
              have HFI := Lib.hid (fxI_some hf)
              clear hf
              go_wp2_with fail
              refine HF.out.mono ?_
              rintro e w2 ⟨rfl, hi2, hz2, b2⟩
              have HC := Lib.hid (spec_find _ funL s w2 hi2 (by decide))
              rw [HFI.out] at HC
              have B2 := Lib.hid (below_then B0.out b2)
              clear hi2 hz2 b2
              go_wp2_with fail
              refine HC.out.mono ?_
              rintro e w3 ⟨rfl, rfl⟩
              go_wp2
              go_ret2
              exact ⟨ret_ii HX.out, B2.out⟩
      · rw [fxI_some hg] at HG
        have HX := Lib.hid (outer_glob HR.out hg)
        clear hg
        go_wp2_with fail
        refine HG.out.mono ?_
        rintro e w2 ⟨rfl, rfl⟩
        go_wp2
        go_ret2
        exact ⟨ret_ii HX.out, B0.out⟩
end Go.Proofs.YtbadepiakkhabaaDoor
/- Lists of names that grow by append, where their blocks lie. No conditions. -/
namespace Go.Proofs.YtbadepiakkhabaaDoor
open Go.RowKit
set_option linter.unusedVariables false

theorem Is.strs_of_owns {w : World} {base : Nat} {v : Value} {l : List ByteArray} (h : Owns w base v l) : Is w (strsD l) v := by
  obtain ⟨F, h1, _⟩ := own_of_owns h
  exact h1.is
theorem append_str2 {B : Nat} {w : World} {v : Value} {l : List ByteArray} (ty : TypeId) (hown : Owns w B v l) (ad : Addr) (y : ByteArray) (hy : w.cell? ad = some (.string y)) (hn : l.length ≤ 1048576) (hB : B ≤ w.heap.size) :
    ∃ g c' w', (Builtin.append_ #[35, 35] ty #[v, .slice (some ad) 1 1]).run Tryd.prog w = .ok (.slice (some ⟨g, 0, none⟩) (l.length + 1) c') w' ∧ Owns w' B (.slice (some ⟨g, 0, none⟩) (l.length + 1) c') (l ++ [y]) ∧ w.grownBy w' v.ownBlock ∧ (v.ownBlock = some g ∨ w.heap.size ≤ g) := by
  obtain ⟨i0, hi, hz0, hz1, hz2⟩ := info_parts info_string
  obtain ⟨v', w', hr, h2, h3, g, c', rfl, h4, h5⟩ := append_row (B := B) (w := w) (v := v) (n := l.length) (z := 1) (by' := 16) Tryd.underlying35 hi hz0 hz1 hz2 rfl (by decide) (by decide) ty hown ad 1 [.string y] rfl (fun j u h => by
    match j, h with
    | 0, h => obtain rfl := Option.some.inj h; rw [show ad.add 0 = ad by unfold Addr.add; rfl]; exact hy) (one_string y) (by omega) hB
  exact ⟨g, c', w', hr, owns_app h2, h3, h5⟩
theorem wpList_append_str {B : Nat} {w : World} {v : Value} {l : List ByteArray} {ops : Array Oper} {rest : List Oper} {o : Oper} {a : Act} {Q : Exit → Act → World → Prop} (hgd : o.guard = none) (s x : Operand)
    (ho : o.op = .call { callee := .builtin .append, args := #[s, x], argTypes := #[35, 35] }) (hs : a.eval s = v) (hown : Owns w B v l) (ad : Addr) (y : ByteArray) (hx : a.eval x = .slice (some ad) 1 1) (hy : w.cell? ad = some (.string y)) (hn : l.length ≤ 1048576) (hB : B ≤ w.heap.size)
    (h : ∀ g c' w', Owns w' B (.slice (some ⟨g, 0, none⟩) (l.length + 1) c') (l ++ [y]) → w.grownBy w' v.ownBlock → (v.ownBlock = some g ∨ w.heap.size ≤ g) → wpList Tryd.prog ops Q rest (a.put o.dst (.slice (some ⟨g, 0, none⟩) (l.length + 1) c')) w') : wpList Tryd.prog ops Q (o :: rest) a w := by
  refine wpList_plain hgd fun K hK => ?_
  obtain ⟨g, c', w', hr, h2, h3, h4⟩ := append_str2 o.type hown ad y hy hn hB
  unfold Oper.wp execOp
  simp only [ho, resolve, invoke, builtin, Sem.run_bind, Sem.run_pure, Result.andThen_ok, List.map_toArray, List.map_cons, List.map_nil, hs, hx, hr]
  exact hK _ _ (h g c' w' h2 h3 h4)
/-- The block of a list is one of those of another list, or new. -/
def Moves (w : World) (v v' : Value) : Prop := ∀ b, v'.ownBlock = some b → v.ownBlock = some b ∨ w.heap.size ≤ b
theorem Moves.refl (w : World) (v : Value) : Moves w v v := fun b h => .inl h
theorem grown_refl {w : World} (r : Option Nat) : w.grownBy w r := ⟨rfl, rfl, rfl, Nat.le_refl _, fun _ _ _ => rfl⟩
theorem grown_then {w w1 w2 : World} {v v1 : Value} (h1 : w.grownBy w1 v.ownBlock) (h2 : w1.grownBy w2 v1.ownBlock) (hm : Moves w v v1) : w.grownBy w2 v.ownBlock :=
  ⟨h2.os.trans h1.os, h2.tape.trans h1.tape, h2.output.trans h1.output, Nat.le_trans h1.size h2.size, fun b hb hne => (h2.block b (Nat.lt_of_lt_of_le hb h1.size) (fun e => by
    rcases hm b e.symm with h | h
    · exact hne h.symm
    · omega)).trans (h1.block b hb hne)⟩
theorem Moves.trans {w w1 : World} {v v1 v2 : Value} {r : Option Nat} (h1 : Moves w v v1) (h2 : Moves w1 v1 v2) (hg : w.grownBy w1 r) : Moves w v v2 := fun b hb => by
  rcases h2 b hb with h | h
  · exact h1 b h
  · exact .inr (Nat.le_trans hg.size h)
theorem grown_below {w w' : World} (h : Below w.heap.size w w') (r : Option Nat) : w.grownBy w' r := ⟨h.os, h.tape, h.output, h.size, fun b hb _ => h.block b hb⟩
theorem below_grown {B : Nat} {w0 w w' : World} {v : Value} {l : List ByteArray} (hb : Below B w0 w) (hown : Owns w B v l) (hB : B ≤ w0.heap.size) (hg : w.grownBy w' v.ownBlock) : Below B w0 w' := hb.trans ((Below.refl _ _).grown hg (Nat.le_trans hB hb.size) (fun k e => (World.ownsRow.lt hown k e).1))
theorem owns_keep {w w1 : World} {B : Nat} {v : Value} {l : List ByteArray} (h : Owns w B v l) (hb : ∀ b, v.ownBlock = some b → w1.heap[b]? = w.heap[b]?) : Owns w1 B v l := row_keep h hb
theorem owns_lt {w : World} {B : Nat} {v : Value} {l : List ByteArray} (h : Owns w B v l) {b : Nat} (hb : v.ownBlock = some b) : B ≤ b ∧ b < w.heap.size := World.ownsRow.lt h b hb
theorem owns_later {w w1 : World} {B : Nat} {v : Value} {l : List ByteArray} (h : Owns w B v l) (hb : Below w.heap.size w w1) : Owns w1 B v l := owns_keep h fun b e => hb.block b (owns_lt h e).2
theorem owns_slice {w : World} {B : Nat} {v : Value} {l : List ByteArray} (h : Owns w B v l) : ∃ a c, v = .slice a l.length c := by
  rcases h.2 with ⟨rfl, h0⟩ | ⟨g2, cap2, cur, rfl, _⟩
  · rw [h0]; exact ⟨_, _, rfl⟩
  · exact ⟨_, _, rfl⟩
/-- A variable's cells behind a step that turns one list's block. -/
theorem Var.grown {w w' : World} {b : Nat} {us : List Value} {r : Option Nat} (h : Var w b us) (hb : b < w.heap.size) (hg : w.grownBy w' r) (hne : r ≠ some b) : Var w' b us := h.keep (hg.block b hb fun e => hne e.symm)
mutual
theorem coll_len (u : Un) : ∀ (t : Ex.T) (acc : List ByteArray), (coll u t acc).length ≤ acc.length + t.count
  | .node k t n l ks, acc => by
    rw [coll, Ex.T.count]
    have h := colls_len u ks acc
    split
    · split
      · rw [List.length_append, List.length_singleton]; omega
      · omega
    · omega
theorem colls_len (u : Un) : ∀ (ks : List Ex.T) (acc : List ByteArray), (colls u ks acc).length ≤ acc.length + Ex.counts ks
  | [], acc => by rw [colls, Ex.counts]; omega
  | x :: r, acc => by
    rw [colls, Ex.counts]
    have h1 := coll_len u x acc
    have h2 := colls_len u r (coll u x acc)
    omega
end
theorem colls_app (u : Un) : ∀ (a b : List Ex.T) (acc : List ByteArray), colls u (a ++ b) acc = colls u b (colls u a acc)
  | [], b, acc => by rw [List.nil_append, colls]
  | x :: r, b, acc => by rw [List.cons_append, colls, colls, colls_app u r b]
theorem colls_take (u : Un) (ks : List Ex.T) (k : Nat) (hk : k < ks.length) (acc : List ByteArray) : colls u (ks.take (k + 1)) acc = coll u ks[k] (colls u (ks.take k) acc) := by
  rw [List.take_succ_eq_append_getElem hk, colls_app, colls, colls]
theorem coll_eq (u : Un) (t : Ex.T) (acc : List ByteArray) : coll u t acc = if t.kind == 4 || t.kind == 28 then (if fresh u t.text acc then acc ++ [t.text] else acc) else colls u t.kids acc := by
  cases t; rw [coll]; rfl
end Go.Proofs.YtbadepiakkhabaaDoor
