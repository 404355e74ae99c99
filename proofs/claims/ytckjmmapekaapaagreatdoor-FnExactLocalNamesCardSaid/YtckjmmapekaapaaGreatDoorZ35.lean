/- Joined texts: R2, N10. No conditions besides those that each states. -/
import Derived.Test.YtckjmmapekaapaaGreatDoorZ6
import Derived.Test.YtckjmmapekaapaaGreatDoorZ24
import Derived.Test.YtckjmmapekaapaaGreatDoorZ28
import Derived.Test.YtckjmmapekaapaaGreatDoorZ33
import Derived.Test.YtckjmmapekaapaaGreatDoorZ34
/- Letters, digits, bytes of words, prefixSize and names in the program. No conditions. -/
namespace Go.Proofs.YtckjmmapekaapaaGreatDoor
open Go.RowKit
set_option linter.unusedVariables false

theorem impl_letter (b : UInt8) (w : World) : Calls Tryz.prog 108 #[.int .u8 (b.toNat : Int)] w fun e w' => e = .returned (.bool (Tk.letter b)) ∧ w = w' := by
  have hb := UInt8.toNat_lt b
  rcases letter_cases b with ⟨h, e⟩ | ⟨h, h2, e⟩ | ⟨h, h2, h3, e⟩ | ⟨h, e⟩ | ⟨h, h2, e⟩ | ⟨h, e⟩
  · rw [e]
    have ta : decide ((97 : Int) ≤ b.toNat) = false := by simp; omega
    have tA : decide ((65 : Int) ≤ b.toNat) = false := by simp; omega
    have tu : ((b.toNat : Int) == 95) = false := by simp; omega
    clear e
    go_enter Tryz.func108, Tryz.ntmps108
    go_wp2
    go_ret
    exact ⟨rfl, rfl⟩
  · rw [e]
    have ta : decide ((97 : Int) ≤ b.toNat) = false := by simp; omega
    have tA : decide ((65 : Int) ≤ b.toNat) = true := by simp; omega
    have tZ : decide ((b.toNat : Int) ≤ 90) = true := by simp; omega
    have tu : ((b.toNat : Int) == 95) = false := by simp; omega
    clear e
    go_enter Tryz.func108, Tryz.ntmps108
    go_wp2
    go_ret
    exact ⟨rfl, rfl⟩
  · rw [e]
    have ta : decide ((97 : Int) ≤ b.toNat) = false := by simp; omega
    have tA : decide ((65 : Int) ≤ b.toNat) = true := by simp; omega
    have tZ : decide ((b.toNat : Int) ≤ 90) = false := by simp; omega
    have tu : ((b.toNat : Int) == 95) = false := ne8 h3
    clear e
    go_enter Tryz.func108, Tryz.ntmps108
    go_wp2
    go_ret
    exact ⟨rfl, rfl⟩
  · rw [e]
    have ta : decide ((97 : Int) ≤ b.toNat) = false := by subst h; rfl
    have tA : decide ((65 : Int) ≤ b.toNat) = true := by subst h; rfl
    have tZ : decide ((b.toNat : Int) ≤ 90) = false := by subst h; rfl
    have tu : ((b.toNat : Int) == 95) = true := by subst h; rfl
    clear e
    go_enter Tryz.func108, Tryz.ntmps108
    go_wp2
    go_ret
    exact ⟨rfl, rfl⟩
  · rw [e]
    have ta : decide ((97 : Int) ≤ b.toNat) = true := by simp; omega
    have tz : decide ((b.toNat : Int) ≤ 122) = true := by simp; omega
    have tA : decide ((65 : Int) ≤ b.toNat) = true := by simp; omega
    have tZ : decide ((b.toNat : Int) ≤ 90) = false := by simp; omega
    have tu : ((b.toNat : Int) == 95) = false := by simp; omega
    clear e
    go_enter Tryz.func108, Tryz.ntmps108
    go_wp2
    go_ret
    exact ⟨rfl, rfl⟩
  · rw [e]
    have ta : decide ((97 : Int) ≤ b.toNat) = true := by simp; omega
    have tz : decide ((b.toNat : Int) ≤ 122) = false := by simp; omega
    have tA : decide ((65 : Int) ≤ b.toNat) = true := by simp; omega
    have tZ : decide ((b.toNat : Int) ≤ 90) = false := by simp; omega
    have tu : ((b.toNat : Int) == 95) = false := by simp; omega
    clear e
    go_enter Tryz.func108, Tryz.ntmps108
    go_wp2
    go_ret
    exact ⟨rfl, rfl⟩
theorem impl_digit (b : UInt8) (w : World) : Calls Tryz.prog 96 #[.int .u8 (b.toNat : Int)] w fun e w' => e = .returned (.bool (Dec.isDig b)) ∧ w = w' := by
  have hb := UInt8.toNat_lt b
  rcases (show b.toNat < 48 ∨ (48 ≤ b.toNat ∧ b.toNat ≤ 57) ∨ 57 < b.toNat by omega) with h | ⟨h, h2⟩ | h
  · rw [show Dec.isDig b = false by simp [Dec.isDig]; omega]
    have t0 : decide ((48 : Int) ≤ b.toNat) = false := by simp; omega
    go_enter Tryz.func96, Tryz.ntmps96
    go_wp2
    go_ret
    exact ⟨rfl, rfl⟩
  · rw [show Dec.isDig b = true by simp [Dec.isDig]; omega]
    have t0 : decide ((48 : Int) ≤ b.toNat) = true := by simp; omega
    have t1 : decide ((b.toNat : Int) ≤ 57) = true := by simp; omega
    go_enter Tryz.func96, Tryz.ntmps96
    go_wp2
    go_ret
    exact ⟨rfl, rfl⟩
  · rw [show Dec.isDig b = false by simp [Dec.isDig]; omega]
    have t0 : decide ((48 : Int) ≤ b.toNat) = true := by simp; omega
    have t1 : decide ((b.toNat : Int) ≤ 57) = false := by simp; omega
    go_enter Tryz.func96, Tryz.ntmps96
    go_wp2
    go_ret
    exact ⟨rfl, rfl⟩
theorem impl_wordb (b : UInt8) (w : World) : Calls Tryz.prog 98 #[.int .u8 (b.toNat : Int)] w fun e w' => e = .returned (.bool (Tk.idb b)) ∧ w = w' := by
  have H1 := Lib.hid (fun W => impl_letter b W)
  have H2 := Lib.hid (fun W => impl_digit b W)
  unfold Tk.idb
  cases hl : Tk.letter b
  · rw [hl] at H1
    clear hl
    cases hd : Dec.isDig b
    all_goals
      rw [hd] at H2
      clear hd
      go_enter Tryz.func98, Tryz.ntmps98
      go_wp2_with (first | (go_at_call 108; refine (H1.out _).mono ?_; rintro e w3 ⟨rfl, rfl⟩) | (go_at_call 96; refine (H2.out _).mono ?_; rintro e w4 ⟨rfl, rfl⟩))
      go_ret
      exact ⟨rfl, rfl⟩
  · rw [hl] at H1
    clear hl
    go_enter Tryz.func98, Tryz.ntmps98
    go_wp2_with (first | (go_at_call 108; refine (H1.out _).mono ?_; rintro e w3 ⟨rfl, rfl⟩))
    go_ret
    exact ⟨rfl, rfl⟩
/-- Where the count of a text's accepted bytes stands. -/
def TwAt (p : UInt8 → Bool) (l : List UInt8) (k : Nat) : Prop := (l.takeWhile p).length = k + ((l.drop k).takeWhile p).length
theorem TwAt.start (p : UInt8 → Bool) (l : List UInt8) : TwAt p l 0 := by unfold TwAt; rw [List.drop_zero, Nat.zero_add]
theorem TwAt.next {p : UInt8 → Bool} {l : List UInt8} {k : Nat} (h : TwAt p l k) (hk : k < l.length) (hp : p l[k] = true) : TwAt p l (k + 1) := by
  unfold TwAt at h ⊢
  rw [List.drop_eq_getElem_cons hk, List.takeWhile_cons, if_pos hp, List.length_cons] at h; omega
theorem TwAt.stop {p : UInt8 → Bool} {l : List UInt8} {k : Nat} (h : TwAt p l k) (hk : k < l.length) (hp : p l[k] = false) : (l.takeWhile p).length = k := by
  unfold TwAt at h
  rw [List.drop_eq_getElem_cons hk, List.takeWhile_cons, if_neg (by simp [hp])] at h; exact h
theorem TwAt.over {p : UInt8 → Bool} {l : List UInt8} {k : Nat} (h : TwAt p l k) (hk : l.length ≤ k) : (l.takeWhile p).length = k := by
  unfold TwAt at h
  rw [List.drop_eq_nil_of_le hk] at h; exact h
theorem ret_len {n m : Nat} (h : n = m) : Ending.returned (.int .i64 (m : Int)) = .returned (.int .i64 (n : Int)) := by rw [h]
set_option maxHeartbeats 800000 in
theorem impl_prefix_word (s : ByteArray) (w : World) (hs : (s.size : Int) ≤ 1048576) :
    Calls Tryz.prog 97 #[.string s, .func (.func 98) #[] #[]] w fun e w' => e = .returned (.int .i64 (s.data.toList.takeWhile Tk.idb).length) ∧ w = w' := by
  have HST := Lib.hid (TwAt.start Tk.idb s.data.toList)
  generalize hP : (Tk.idb : UInt8 → Bool) = P at HST
  have HC := Lib.hid (fun (b : UInt8) W => impl_wordb b W)
  rw [hP] at HC
  clear hP
  go_enter Tryz.func97, Tryz.ntmps97
  go_wp2
  go_loop [5, 8] (fun _ i => ∃ k : Nat, i = .int .i64 k ∧ k ≤ s.size ∧ TwAt P s.data.toList k) (fun _ i => s.size - (intOf i).toNat)
  case atStart => exact ⟨0, rfl, Nat.zero_le _, HST.out⟩
  case round =>
    clear HST
    obtain ⟨k, rfl, hk, hat⟩ := hrel
    have HAT := Lib.hid hat
    clear hat
    by_cases hlt : (k : Int) < s.size
    · have hks : k < s.size := by omega
      have H1 := Lib.hid (fun W => HC.out s[k] W)
      cases hp : P s[k]
      · have HN := Lib.hid (HAT.out.stop hks hp)
        rw [hp] at H1
        clear hp HC
        go_wp2_with (first | (go_at_call 98; refine (H1.out _).mono ?_; rintro e w3 ⟨rfl, rfl⟩))
        go_ret
        exact ⟨ret_len HN.out, rfl⟩
      · have HN := Lib.hid (HAT.out.next hks hp)
        rw [hp] at H1
        clear hp HC
        go_wp2_with (first | (go_at_call 98; refine (H1.out _).mono ?_; rintro e w3 ⟨rfl, rfl⟩))
        go_round
        case rel => exact ⟨k + 1, by go_num, by omega, HN.out⟩
        case measure => first | (simp [intOf]; done) | (simp [intOf]; omega)
    · obtain rfl : k = s.size := by omega
      have HN := Lib.hid (HAT.out.over (Nat.le_refl _))
      go_wp2
      go_ret
      exact ⟨ret_len HN.out, rfl⟩
set_option maxHeartbeats 800000 in
theorem impl_prefix_letter (s : ByteArray) (w : World) (hs : (s.size : Int) ≤ 1048576) :
    Calls Tryz.prog 97 #[.string s, .func (.func 108) #[] #[]] w fun e w' => e = .returned (.int .i64 (s.data.toList.takeWhile Tk.letter).length) ∧ w = w' := by
  have HST := Lib.hid (TwAt.start Tk.letter s.data.toList)
  generalize hP : (Tk.letter : UInt8 → Bool) = P at HST
  have HC := Lib.hid (fun (b : UInt8) W => impl_letter b W)
  rw [hP] at HC
  clear hP
  go_enter Tryz.func97, Tryz.ntmps97
  go_wp2
  go_loop [5, 8] (fun _ i => ∃ k : Nat, i = .int .i64 k ∧ k ≤ s.size ∧ TwAt P s.data.toList k) (fun _ i => s.size - (intOf i).toNat)
  case atStart => exact ⟨0, rfl, Nat.zero_le _, HST.out⟩
  case round =>
    clear HST
    obtain ⟨k, rfl, hk, hat⟩ := hrel
    have HAT := Lib.hid hat
    clear hat
    by_cases hlt : (k : Int) < s.size
    · have hks : k < s.size := by omega
      have H1 := Lib.hid (fun W => HC.out s[k] W)
      cases hp : P s[k]
      · have HN := Lib.hid (HAT.out.stop hks hp)
        rw [hp] at H1
        clear hp HC
        go_wp2_with (first | (go_at_call 108; refine (H1.out _).mono ?_; rintro e w3 ⟨rfl, rfl⟩))
        go_ret
        exact ⟨ret_len HN.out, rfl⟩
      · have HN := Lib.hid (HAT.out.next hks hp)
        rw [hp] at H1
        clear hp HC
        go_wp2_with (first | (go_at_call 108; refine (H1.out _).mono ?_; rintro e w3 ⟨rfl, rfl⟩))
        go_round
        case rel => exact ⟨k + 1, by go_num, by omega, HN.out⟩
        case measure => first | (simp [intOf]; done) | (simp [intOf]; omega)
    · obtain rfl : k = s.size := by omega
      have HN := Lib.hid (HAT.out.over (Nat.le_refl _))
      go_wp2
      go_ret
      exact ⟨ret_len HN.out, rfl⟩
theorem tw_full {p : UInt8 → Bool} {l : List UInt8} : (l.takeWhile p).length = l.length ↔ l.all p = true := by
  constructor
  · intro h
    have h2 := Tk.take_all p l
    have h3 : l.takeWhile p = l := List.IsPrefix.eq_of_length (List.takeWhile_prefix p) h
    rw [h3] at h2; exact h2
  · intro h
    have h3 : l.takeWhile p = l := by
      induction l with
      | nil => rfl
      | cons b l ih =>
        rw [List.all_cons, Bool.and_eq_true] at h
        rw [List.takeWhile_cons, if_pos h.1, ih h.2]
    rw [h3]
theorem dig_no_letter {b : UInt8} (h : Dec.isDig b = true) : Tk.letter b = false := Tk.letter_dig h
theorem name_ways (s : ByteArray) : (s.size = 0 ∧ Tk.isName s.data.toList = false) ∨ (12 < s.size ∧ Tk.isName s.data.toList = false) ∨ ∃ h : 1 ≤ s.size, s.size ≤ 12 ∧ ((Dec.isDig s[0] = true ∧ Tk.isName s.data.toList = false)
    ∨ (Dec.isDig s[0] = false ∧ (s.data.toList.takeWhile Tk.idb).length = s.size ∧ Tk.isName s.data.toList = !hasW Tk.reserved s.data.toList)
    ∨ (Dec.isDig s[0] = false ∧ (s.data.toList.takeWhile Tk.idb).length ≠ s.size ∧ Tk.isName s.data.toList = false)) := by
  rcases name_cases s with ⟨h | h, e⟩ | ⟨h1, h2, hr⟩
  · exact .inl ⟨by omega, e⟩
  · exact .inr (.inl ⟨h, e⟩)
  · refine .inr (.inr ⟨h1, h2, ?_⟩)
    have hl : 0 < s.data.toList.length := h1
    have hmem : s[0] ∈ s.data.toList := List.getElem_mem hl
    cases hd : Dec.isDig s[0]
    · right
      by_cases hf : (s.data.toList.takeWhile Tk.idb).length = s.size
      · left
        refine ⟨rfl, hf, ?_⟩
        have ha := tw_full.1 hf
        have h0 := List.all_eq_true.1 ha _ hmem
        have hlet : Tk.letter s[0] = true := by
          unfold Tk.idb at h0
          rw [hd, Bool.or_false] at h0; exact h0
        rcases hr with ⟨h3, e⟩ | ⟨h3, h4, e⟩ | ⟨h3, h4, e⟩
        · rw [hlet] at h3; cases h3
        · rw [e, h4]; rfl
        · rw [e, h4, ha]; rfl
      · right
        refine ⟨rfl, hf, ?_⟩
        have ha : s.data.toList.all Tk.idb = false := Bool.eq_false_iff.2 fun h => hf (tw_full.2 h)
        rcases hr with ⟨h3, e⟩ | ⟨h3, h4, e⟩ | ⟨h3, h4, e⟩
        · exact e
        · exact e
        · rw [e, ha]
    · left
      refine ⟨rfl, ?_⟩
      rcases hr with ⟨h3, e⟩ | ⟨h3, h4, e⟩ | ⟨h3, h4, e⟩
      · exact e
      · exact e
      · rw [dig_no_letter hd] at h3; cases h3

set_option maxHeartbeats 800000 in
theorem impl_name (s : ByteArray) (w : World) (hs : (s.size : Int) ≤ 1048576) : Calls Tryz.prog 80 #[.string s] w fun e w' => e = .returned (.bool (Tk.isName s.data.toList)) ∧ Below w.heap.size w w' := by
  rcases name_ways s with ⟨h, e⟩ | ⟨h, e⟩ | ⟨h1, h2, ⟨h3, e⟩ | ⟨h3, h4, e⟩ | ⟨h3, h4, e⟩⟩
  · rw [e]
    have c4 : s.toList.isEmpty = true := by
      have h5 : s.toList = [] := by rw [ByteArray.toList_eq]; exact List.length_eq_zero_iff.1 h
      rw [h5]; rfl
    clear e h
    go_enter Tryz.func80, Tryz.ntmps80
    go_wp2
    go_ret
    exact ⟨rfl, Below.refl _ _⟩
  · rw [e]
    have c4 : s.toList.isEmpty = false := by
      cases h5 : s.toList with
      | nil => rw [ByteArray.toList_eq] at h5; have h6 : s.data.toList.length = 0 := by rw [h5]; rfl
               rw [len8] at h6; omega
      | cons _ _ => rfl
    have t2 : (12 : Int) < s.size := by omega
    clear e h
    go_enter Tryz.func80, Tryz.ntmps80
    go_wp2
    go_ret
    exact ⟨rfl, Below.refl _ _⟩
  all_goals
    rw [e]
    have c4 : s.toList.isEmpty = false := by
      cases h5 : s.toList with
      | nil => rw [ByteArray.toList_eq] at h5; have h6 : s.data.toList.length = 0 := by rw [h5]; rfl
               rw [len8] at h6; omega
      | cons _ _ => rfl
    have t2 : ¬ (12 : Int) < s.size := by omega
    have t3 : (0 : Int) < s.size := by omega
    have HD := Lib.hid (fun W => impl_digit s[0] W)
    rw [h3] at HD
    have HP := Lib.hid (fun W => impl_prefix_word s W hs)
    have HR := Lib.hid (fun W => impl_reserved s W)
  · clear e h3 HP HR
    go_enter Tryz.func80, Tryz.ntmps80
    go_wp2_with (first | (go_at_call 96; refine (HD.out _).mono ?_; rintro e w1 ⟨rfl, rfl⟩))
    go_ret
    exact ⟨rfl, Below.refl _ _⟩
  · generalize hasW Tk.reserved s.data.toList = b at HR
    rw [h4] at HP
    clear e h3 h4
    go_enter Tryz.func80, Tryz.ntmps80
    go_wp2_with (first | (go_at_call 96; refine (HD.out _).mono ?_; rintro e w1 ⟨rfl, rfl⟩) | (go_at_call 97; refine (HP.out _).mono ?_; rintro e w2 ⟨rfl, rfl⟩) | (go_at_call 99; refine (HR.out _).mono ?_; rintro e w3 ⟨rfl, hb3⟩; have HB := Lib.hid hb3; clear hb3))
    go_ret
    exact ⟨rfl, HB.out⟩
  · have h5 : (((s.data.toList.takeWhile Tk.idb).length : Int) == s.size) = false := beq_eq_false_iff_ne.2 (by omega)
    generalize (s.data.toList.takeWhile Tk.idb).length = n at HP h5
    clear e h3 h4 HR
    go_enter Tryz.func80, Tryz.ntmps80
    go_wp2_with (first | (go_at_call 96; refine (HD.out _).mono ?_; rintro e w1 ⟨rfl, rfl⟩) | (go_at_call 97; refine (HP.out _).mono ?_; rintro e w2 ⟨rfl, rfl⟩))
    go_ret
    exact ⟨rfl, Below.refl _ _⟩
end Go.Proofs.YtckjmmapekaapaaGreatDoor
/- What a node's text must be, and a node, in the program. No conditions. -/
namespace Go.Proofs.YtckjmmapekaapaaGreatDoor
open Go.RowKit
set_option linter.unusedVariables false

theorem text_2 (t : Ex.T) (w : World) (g o : Nat) (h : TreeAt w g o t) (hs : (t.text.size : Int) ≤ 1048576) (h2 : t.kind = 2) : Calls Tryz.prog 110 #[.pointer (some ⟨g, o, none⟩)] w fun e w' => e = .returned (.bool (decide ((t.text.size : Int) ≤ 120))) ∧ Below w.heap.size w w' := by
  obtain ⟨⟨q0, q1, q2, q3⟩, v, q4, hk⟩ := tree_cells h
  clear h hk
  go_enter Tryz.func110, Tryz.ntmps110
  go_wp2
  go_ret
  exact ⟨rfl, Below.refl _ _⟩
theorem text_4 (t : Ex.T) (w : World) (g o : Nat) (h : TreeAt w g o t) (hs : (t.text.size : Int) ≤ 1048576) (h2 : t.kind = 4) : Calls Tryz.prog 110 #[.pointer (some ⟨g, o, none⟩)] w fun e w' => e = .returned (.bool (Tk.isName t.text.data.toList)) ∧ Below w.heap.size w w' := by
  have HC := Lib.hid (fun wr => impl_name t.text wr hs)
  obtain ⟨⟨q0, q1, q2, q3⟩, v, q4, hk⟩ := tree_cells h
  clear h hk
  clear hs
  generalize Tk.isName t.text.data.toList = r at HC ⊢
  go_enter Tryz.func110, Tryz.ntmps110
  go_wp2_with (go_at_call 80; refine (HC.out _).mono ?_; rintro e w1 ⟨rfl, hb⟩; have HB := Lib.hid hb; clear hb)
  go_ret
  exact ⟨rfl, HB.out⟩
theorem text_13 (t : Ex.T) (w : World) (g o : Nat) (h : TreeAt w g o t) (hs : (t.text.size : Int) ≤ 1048576) (h2 : t.kind = 13) : Calls Tryz.prog 110 #[.pointer (some ⟨g, o, none⟩)] w fun e w' => e = .returned (.bool (Tk.isName t.text.data.toList)) ∧ Below w.heap.size w w' := by
  have HC := Lib.hid (fun wr => impl_name t.text wr hs)
  obtain ⟨⟨q0, q1, q2, q3⟩, v, q4, hk⟩ := tree_cells h
  clear h hk
  clear hs
  generalize Tk.isName t.text.data.toList = r at HC ⊢
  go_enter Tryz.func110, Tryz.ntmps110
  go_wp2_with (go_at_call 80; refine (HC.out _).mono ?_; rintro e w1 ⟨rfl, hb⟩; have HB := Lib.hid hb; clear hb)
  go_ret
  exact ⟨rfl, HB.out⟩
theorem text_28 (t : Ex.T) (w : World) (g o : Nat) (h : TreeAt w g o t) (hs : (t.text.size : Int) ≤ 1048576) (h2 : t.kind = 28) : Calls Tryz.prog 110 #[.pointer (some ⟨g, o, none⟩)] w fun e w' => e = .returned (.bool (Tk.isName t.text.data.toList)) ∧ Below w.heap.size w w' := by
  have HC := Lib.hid (fun wr => impl_name t.text wr hs)
  obtain ⟨⟨q0, q1, q2, q3⟩, v, q4, hk⟩ := tree_cells h
  clear h hk
  clear hs
  generalize Tk.isName t.text.data.toList = r at HC ⊢
  go_enter Tryz.func110, Tryz.ntmps110
  go_wp2_with (go_at_call 80; refine (HC.out _).mono ?_; rintro e w1 ⟨rfl, hb⟩; have HB := Lib.hid hb; clear hb)
  go_ret
  exact ⟨rfl, HB.out⟩
theorem text_5 (t : Ex.T) (w : World) (g o : Nat) (h : TreeAt w g o t) (hs : (t.text.size : Int) ≤ 1048576) (h2 : t.kind = 5) : Calls Tryz.prog 110 #[.pointer (some ⟨g, o, none⟩)] w fun e w' => e = .returned (.bool (hasW Tk.keywords t.text.data.toList)) ∧ Below w.heap.size w w' := by
  have HC := Lib.hid (fun wr => impl_keyword t.text wr)
  obtain ⟨⟨q0, q1, q2, q3⟩, v, q4, hk⟩ := tree_cells h
  clear h hk
  generalize hasW Tk.keywords t.text.data.toList = r at HC ⊢
  go_enter Tryz.func110, Tryz.ntmps110
  go_wp2_with (go_at_call 118; refine (HC.out _).mono ?_; rintro e w1 ⟨rfl, hb⟩; have HB := Lib.hid hb; clear hb)
  go_ret
  exact ⟨rfl, HB.out⟩
theorem text_7 (t : Ex.T) (w : World) (g o : Nat) (h : TreeAt w g o t) (hs : (t.text.size : Int) ≤ 1048576) (h2 : t.kind = 7) : Calls Tryz.prog 110 #[.pointer (some ⟨g, o, none⟩)] w fun e w' => e = .returned (.bool (hasW Ex.unary t.text.data.toList)) ∧ Below w.heap.size w w' := by
  have HC := Lib.hid (fun wr => impl_unary t.text wr)
  obtain ⟨⟨q0, q1, q2, q3⟩, v, q4, hk⟩ := tree_cells h
  clear h hk
  generalize hasW Ex.unary t.text.data.toList = r at HC ⊢
  go_enter Tryz.func110, Tryz.ntmps110
  go_wp2_with (go_at_call 119; refine (HC.out _).mono ?_; rintro e w1 ⟨rfl, hb⟩; subst hb)
  go_ret
  exact ⟨rfl, Below.refl _ _⟩
theorem text_8 (t : Ex.T) (w : World) (g o : Nat) (h : TreeAt w g o t) (hs : (t.text.size : Int) ≤ 1048576) (h2 : t.kind = 8) : Calls Tryz.prog 110 #[.pointer (some ⟨g, o, none⟩)] w fun e w' => e = .returned (.bool (decide (0 < Ex.lvl t.text.data.toList))) ∧ Below w.heap.size w w' := by
  have HC := Lib.hid (fun wr => impl_level t.text wr)
  obtain ⟨⟨q0, q1, q2, q3⟩, v, q4, hk⟩ := tree_cells h
  clear h hk
  generalize Ex.lvl t.text.data.toList = r at HC ⊢
  go_enter Tryz.func110, Tryz.ntmps110
  go_wp2_with (go_at_call 120; refine (HC.out _).mono ?_; rintro e w1 ⟨rfl, hb⟩; subst hb)
  go_ret
  exact ⟨rfl, Below.refl _ _⟩
theorem text_no (t : Ex.T) (w : World) (g o : Nat) (h : TreeAt w g o t) (hs : (t.text.size : Int) ≤ 1048576) (h2 : (t.kind == 2) = false) (h3 : (t.kind == 3) = false) (h4 : (t.kind == 4) = false) (h13 : (t.kind == 13) = false) (h28 : (t.kind == 28) = false) (h5 : (t.kind == 5) = false) (h7 : (t.kind == 7) = false) (h8 : (t.kind == 8) = false) : Calls Tryz.prog 110 #[.pointer (some ⟨g, o, none⟩)] w fun e w' => e = .returned (.bool t.text.toList.isEmpty) ∧ Below w.heap.size w w' := by
  obtain ⟨⟨q0, q1, q2, q3⟩, v, q4, hk⟩ := tree_cells h
  clear h hk
  go_enter Tryz.func110, Tryz.ntmps110
  go_wp2
  go_ret
  exact ⟨rfl, Below.refl _ _⟩
set_option maxHeartbeats 800000 in
theorem text_3a (t : Ex.T) (w : World) (g o : Nat) (h : TreeAt w g o t) (hs : (t.text.size : Int) ≤ 1048576) (h2 : t.kind = 3) (hg : Cs.good t.text = true) : Calls Tryz.prog 110 #[.pointer (some ⟨g, o, none⟩)] w fun e w' => e = .returned (.bool ((txt (Cs.text (Cs.newL t.text) (Cs.newH t.text))).toList == t.text.toList)) ∧ Below w.heap.size w w' := by
  have HC := Lib.hid (fun wr => impl_new t.text (by unfold maxLen; omega) wr)
  rw [hg] at HC
  clear hs hg
  have HT := Lib.hid (fun wr => impl_text (Cs.newL t.text) (Cs.newH t.text) wr)
  obtain ⟨⟨q0, q1, q2, q3⟩, v, q4, hk⟩ := tree_cells h
  clear h hk
  rw [h2] at q0
  have Q1 := Lib.hid (fun wr (hh : Below w.heap.size w wr) => subw_below hh _ _ _ q1)
  generalize Cs.newL t.text = a at HC HT ⊢
  generalize Cs.newH t.text = b at HC HT ⊢
  generalize txt (Cs.text a b) = y at HT ⊢
  go_enter Tryz.func110, Tryz.ntmps110
  go_wp2_with (go_at_call 116; refine (HC.out _).mono ?_; rintro e w1 ⟨rfl, hb⟩; have HB := Lib.hid hb; have p1 := Q1.out _ hb; clear hb q0 q1 q2 q3 q4)
  go_wp2_with fail
  go_region_held3 (fun w' => w'.cell? ⟨g, o + 1, none⟩ = some (.string t.text) ∧ w'.cell? ⟨w1.heap.size, 0, none⟩ = some (.int .i64 a) ∧ w'.cell? ⟨w1.heap.size, 1, none⟩ = some (.int .i64 b) ∧ Below w.heap.size w w')
    (first | ((refine ⟨?_, ?_, ?_, ?_⟩) <;> first | go_keep | exact ((HB.out.alloc HB.out.size _)).drew) | (go_split_ands; exact ⟨cell_later (by assumption) (by assumption), cell_later (by assumption) (by assumption), cell_later (by assumption) (by assumption), below_step (by assumption) (by assumption)⟩))
    (first | (go_at_call 117; refine (HT.out _).mono ?_; rintro e w2 ⟨rfl, hb2⟩))
  go_wp2
  go_ret
  refine ⟨rfl, ?_⟩
  first | exact (HB.out.alloc HB.out.size _).drew | exact HB.out.alloc HB.out.size _ | exact below_drewN (HB.out.alloc HB.out.size _) _ | (go_split_ands; assumption)
set_option maxHeartbeats 800000 in
theorem text_3b (t : Ex.T) (w : World) (g o : Nat) (h : TreeAt w g o t) (hs : (t.text.size : Int) ≤ 1048576) (h2 : t.kind = 3) (hg : Cs.good t.text = false) : Calls Tryz.prog 110 #[.pointer (some ⟨g, o, none⟩)] w fun e w' => e = .returned (.bool false) ∧ Below w.heap.size w w' := by
  have HC := Lib.hid (fun wr => impl_new t.text (by unfold maxLen; omega) wr)
  rw [hg] at HC
  clear hs hg
  have HT := Lib.hid (fun wr => impl_text (Cs.newL t.text) (Cs.newH t.text) wr)
  obtain ⟨⟨q0, q1, q2, q3⟩, v, q4, hk⟩ := tree_cells h
  clear h hk
  rw [h2] at q0
  have Q1 := Lib.hid (fun wr (hh : Below w.heap.size w wr) => subw_below hh _ _ _ q1)
  generalize Cs.newL t.text = a at HC HT ⊢
  generalize Cs.newH t.text = b at HC HT ⊢
  generalize txt (Cs.text a b) = y at HT ⊢
  go_enter Tryz.func110, Tryz.ntmps110
  go_wp2_with (go_at_call 116; refine (HC.out _).mono ?_; rintro e w1 ⟨rfl, hb⟩; have HB := Lib.hid hb; have p1 := Q1.out _ hb; clear hb q0 q1 q2 q3 q4)
  go_wp2_with fail
  go_quiet (fail)
  go_wp2
  go_ret
  refine ⟨rfl, ?_⟩
  first | exact (HB.out.alloc HB.out.size _).drew | exact HB.out.alloc HB.out.size _ | exact below_drewN (HB.out.alloc HB.out.size _) _ | (go_split_ands; assumption)
theorem impl_words (t : Ex.T) (w : World) (g o : Nat) (h : TreeAt w g o t) (hs : (t.text.size : Int) ≤ 1048576) : Calls Tryz.prog 110 #[.pointer (some ⟨g, o, none⟩)] w fun e w' => e = .returned (.bool (Ex.words t.kind t.text)) ∧ Below w.heap.size w w' := by
  unfold Ex.words
  by_cases h2 : t.kind = 2
  · rw [if_pos h2]; exact text_2 t w g o h hs h2
  rw [if_neg h2]
  by_cases h3 : t.kind = 3
  · rw [if_pos h3]
    by_cases hg : Cs.good t.text = true
    · rw [hg, Bool.true_and]; exact text_3a t w g o h hs h3 hg
    · rw [Bool.not_eq_true] at hg
      rw [hg, Bool.false_and]; exact text_3b t w g o h hs h3 hg
  rw [if_neg h3]
  by_cases h4 : t.kind = 4
  · rw [if_pos h4]; exact text_4 t w g o h hs h4
  rw [if_neg h4]
  by_cases h13 : t.kind = 13
  · rw [if_pos h13]; exact text_13 t w g o h hs h13
  rw [if_neg h13]
  by_cases h28 : t.kind = 28
  · rw [if_pos h28]; exact text_28 t w g o h hs h28
  rw [if_neg h28]
  by_cases h5 : t.kind = 5
  · rw [if_pos h5]; exact text_5 t w g o h hs h5
  rw [if_neg h5]
  by_cases h7 : t.kind = 7
  · rw [if_pos h7]; exact text_7 t w g o h hs h7
  rw [if_neg h7]
  by_cases h8 : t.kind = 8
  · rw [if_pos h8]; exact text_8 t w g o h hs h8
  rw [if_neg h8]
  exact text_no t w g o h hs (beq_eq_false_iff_ne.2 h2) (beq_eq_false_iff_ne.2 h3) (beq_eq_false_iff_ne.2 h4) (beq_eq_false_iff_ne.2 h13) (beq_eq_false_iff_ne.2 h28) (beq_eq_false_iff_ne.2 h5) (beq_eq_false_iff_ne.2 h7) (beq_eq_false_iff_ne.2 h8)
set_option maxHeartbeats 1600000 in
theorem impl_node (t : Ex.T) (w : World) (g o : Nat) (h : TreeAt w g o t) (hb : t.bulk ≤ 1048576) : Calls Tryz.prog 100 #[.pointer (some ⟨g, o, none⟩)] w fun e w' => e = .returned (.bool (decide (0 ≤ t.line) && Ex.kidsB t.kind t.num t.kids.length && Ex.words t.kind t.text && Ex.numberB t.kind t.num)) ∧ Below w.heap.size w w' := by
  have hbe := bulk_eq t
  have HK := Lib.hid (fun W hW => impl_kids t W g o (h.later hW) (by omega))
  have HT := Lib.hid (fun W hW => impl_words t W g o (h.later hW) (by omega))
  have HN := Lib.hid (fun W hW => impl_number t W g o (h.later hW) (by omega))
  clear hbe hb
  by_cases hl : 0 ≤ t.line
  · rw [decide_eq_true hl, Bool.true_and]
    cases hk : Ex.kidsB t.kind t.num t.kids.length
    · rw [Bool.false_and, Bool.false_and]
      rw [hk] at HK
      clear hk HT HN
      obtain ⟨⟨q0, q1, q2, q3⟩, v, q4, hk⟩ := tree_cells h
      clear h hk
      go_enter Tryz.func100, Tryz.ntmps100
      go_wp2_with (first | (go_at_call 109; refine (HK.out _ (Below.refl _ _)).mono ?_; rintro e w1 ⟨rfl, b1⟩; have B1 := Lib.hid b1; clear b1) | (go_at_call 110; refine (HT.out _ B1.out).mono ?_; rintro e w2 ⟨rfl, b2⟩; have B2 := Lib.hid (below_then B1.out b2); clear b2) | (go_at_call 111; refine (HN.out _ B2.out).mono ?_; rintro e w3 ⟨rfl, b3⟩; have B3 := Lib.hid (below_then B2.out b3); clear b3))
      go_ret
      exact ⟨rfl, B1.out⟩
    · rw [Bool.true_and]
      rw [hk] at HK
      clear hk
      cases ht : Ex.words t.kind t.text
      · rw [Bool.false_and]
        rw [ht] at HT
        clear ht HN
        obtain ⟨⟨q0, q1, q2, q3⟩, v, q4, hk⟩ := tree_cells h
        clear h hk
        go_enter Tryz.func100, Tryz.ntmps100
        go_wp2_with (first | (go_at_call 109; refine (HK.out _ (Below.refl _ _)).mono ?_; rintro e w1 ⟨rfl, b1⟩; have B1 := Lib.hid b1; clear b1) | (go_at_call 110; refine (HT.out _ B1.out).mono ?_; rintro e w2 ⟨rfl, b2⟩; have B2 := Lib.hid (below_then B1.out b2); clear b2) | (go_at_call 111; refine (HN.out _ B2.out).mono ?_; rintro e w3 ⟨rfl, b3⟩; have B3 := Lib.hid (below_then B2.out b3); clear b3))
        go_ret
        exact ⟨rfl, B2.out⟩
      · rw [Bool.true_and]
        rw [ht] at HT
        clear ht
        obtain ⟨⟨q0, q1, q2, q3⟩, v, q4, hk⟩ := tree_cells h
        clear h hk
        generalize Ex.numberB t.kind t.num = r at HN ⊢
        go_enter Tryz.func100, Tryz.ntmps100
        go_wp2_with (first | (go_at_call 109; refine (HK.out _ (Below.refl _ _)).mono ?_; rintro e w1 ⟨rfl, b1⟩; have B1 := Lib.hid b1; clear b1) | (go_at_call 110; refine (HT.out _ B1.out).mono ?_; rintro e w2 ⟨rfl, b2⟩; have B2 := Lib.hid (below_then B1.out b2); clear b2) | (go_at_call 111; refine (HN.out _ B2.out).mono ?_; rintro e w3 ⟨rfl, b3⟩; have B3 := Lib.hid (below_then B2.out b3); clear b3))
        go_ret
        exact ⟨rfl, B3.out⟩
  · rw [decide_eq_false hl, Bool.false_and, Bool.false_and, Bool.false_and]
    clear HK HT HN
    obtain ⟨⟨q0, q1, q2, q3⟩, v, q4, hk⟩ := tree_cells h
    clear h hk
    have hl : t.line < 0 := by omega
    go_enter Tryz.func100, Tryz.ntmps100
    go_wp2
    go_ret
    exact ⟨rfl, Below.refl _ _⟩
end Go.Proofs.YtckjmmapekaapaaGreatDoor
