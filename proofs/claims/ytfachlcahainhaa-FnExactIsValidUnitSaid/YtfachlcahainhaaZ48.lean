/- Joined texts: R2. No conditions besides those that each states. -/
import Derived.Test.YtfachlcahainhaaZ9
import Derived.Test.YtfachlcahainhaaZ35
/- Letters, digits, bytes of words, prefixSize and names in the program. No conditions. -/
namespace Go.Proofs.Ytfachlcahainhaa
open Go.RowKit
set_option linter.unusedVariables false

theorem impl_letter (b : UInt8) (w : World) : Calls Try.prog 85 #[.int .u8 (b.toNat : Int)] w fun e w' => e = .returned (.bool (Tk.letter b)) ∧ w = w' := by
  have hb := UInt8.toNat_lt b
  rcases letter_cases b with ⟨h, e⟩ | ⟨h, h2, e⟩ | ⟨h, h2, h3, e⟩ | ⟨h, e⟩ | ⟨h, h2, e⟩ | ⟨h, e⟩
  · rw [e]
    have ta : decide ((97 : Int) ≤ b.toNat) = false := by simp; omega
    have tA : decide ((65 : Int) ≤ b.toNat) = false := by simp; omega
    have tu : ((b.toNat : Int) == 95) = false := by simp; omega
    clear e
    go_enter Try.func85, Try.ntmps85
    go_wp2
    go_ret
    exact ⟨rfl, rfl⟩
  · rw [e]
    have ta : decide ((97 : Int) ≤ b.toNat) = false := by simp; omega
    have tA : decide ((65 : Int) ≤ b.toNat) = true := by simp; omega
    have tZ : decide ((b.toNat : Int) ≤ 90) = true := by simp; omega
    have tu : ((b.toNat : Int) == 95) = false := by simp; omega
    clear e
    go_enter Try.func85, Try.ntmps85
    go_wp2
    go_ret
    exact ⟨rfl, rfl⟩
  · rw [e]
    have ta : decide ((97 : Int) ≤ b.toNat) = false := by simp; omega
    have tA : decide ((65 : Int) ≤ b.toNat) = true := by simp; omega
    have tZ : decide ((b.toNat : Int) ≤ 90) = false := by simp; omega
    have tu : ((b.toNat : Int) == 95) = false := ne8 h3
    clear e
    go_enter Try.func85, Try.ntmps85
    go_wp2
    go_ret
    exact ⟨rfl, rfl⟩
  · rw [e]
    have ta : decide ((97 : Int) ≤ b.toNat) = false := by subst h; rfl
    have tA : decide ((65 : Int) ≤ b.toNat) = true := by subst h; rfl
    have tZ : decide ((b.toNat : Int) ≤ 90) = false := by subst h; rfl
    have tu : ((b.toNat : Int) == 95) = true := by subst h; rfl
    clear e
    go_enter Try.func85, Try.ntmps85
    go_wp2
    go_ret
    exact ⟨rfl, rfl⟩
  · rw [e]
    have ta : decide ((97 : Int) ≤ b.toNat) = true := by simp; omega
    have tz : decide ((b.toNat : Int) ≤ 122) = true := by simp; omega
    have tA : decide ((65 : Int) ≤ b.toNat) = true := by simp; omega
    have tZ : decide ((b.toNat : Int) ≤ 90) = false := by simp; omega
    have tu : ((b.toNat : Int) == 95) = false := by simp; omega
    clear e
    go_enter Try.func85, Try.ntmps85
    go_wp2
    go_ret
    exact ⟨rfl, rfl⟩
  · rw [e]
    have ta : decide ((97 : Int) ≤ b.toNat) = true := by simp; omega
    have tz : decide ((b.toNat : Int) ≤ 122) = false := by simp; omega
    have tA : decide ((65 : Int) ≤ b.toNat) = true := by simp; omega
    have tZ : decide ((b.toNat : Int) ≤ 90) = false := by simp; omega
    have tu : ((b.toNat : Int) == 95) = false := by simp; omega
    clear e
    go_enter Try.func85, Try.ntmps85
    go_wp2
    go_ret
    exact ⟨rfl, rfl⟩
theorem impl_digit (b : UInt8) (w : World) : Calls Try.prog 70 #[.int .u8 (b.toNat : Int)] w fun e w' => e = .returned (.bool (Dec.isDig b)) ∧ w = w' := by
  have hb := UInt8.toNat_lt b
  rcases (show b.toNat < 48 ∨ (48 ≤ b.toNat ∧ b.toNat ≤ 57) ∨ 57 < b.toNat by omega) with h | ⟨h, h2⟩ | h
  · rw [show Dec.isDig b = false by simp [Dec.isDig]; omega]
    have t0 : decide ((48 : Int) ≤ b.toNat) = false := by simp; omega
    go_enter Try.func70, Try.ntmps70
    go_wp2
    go_ret
    exact ⟨rfl, rfl⟩
  · rw [show Dec.isDig b = true by simp [Dec.isDig]; omega]
    have t0 : decide ((48 : Int) ≤ b.toNat) = true := by simp; omega
    have t1 : decide ((b.toNat : Int) ≤ 57) = true := by simp; omega
    go_enter Try.func70, Try.ntmps70
    go_wp2
    go_ret
    exact ⟨rfl, rfl⟩
  · rw [show Dec.isDig b = false by simp [Dec.isDig]; omega]
    have t0 : decide ((48 : Int) ≤ b.toNat) = true := by simp; omega
    have t1 : decide ((b.toNat : Int) ≤ 57) = false := by simp; omega
    go_enter Try.func70, Try.ntmps70
    go_wp2
    go_ret
    exact ⟨rfl, rfl⟩
theorem impl_wordb (b : UInt8) (w : World) : Calls Try.prog 72 #[.int .u8 (b.toNat : Int)] w fun e w' => e = .returned (.bool (Tk.idb b)) ∧ w = w' := by
  have H1 := Lib.hid (fun W => impl_letter b W)
  have H2 := Lib.hid (fun W => impl_digit b W)
  unfold Tk.idb
  cases hl : Tk.letter b
  · rw [hl] at H1
    clear hl
    cases hd : Dec.isDig b
    all_goals
      rw [hd] at H2
      clear hd
      go_enter Try.func72, Try.ntmps72
      go_wp2_with (first | (go_at_call 85; refine (H1.out _).mono ?_; rintro e w3 ⟨rfl, rfl⟩) | (go_at_call 70; refine (H2.out _).mono ?_; rintro e w4 ⟨rfl, rfl⟩))
      go_ret
      exact ⟨rfl, rfl⟩
  · rw [hl] at H1
    clear hl
    go_enter Try.func72, Try.ntmps72
    go_wp2_with (first | (go_at_call 85; refine (H1.out _).mono ?_; rintro e w3 ⟨rfl, rfl⟩))
    go_ret
    exact ⟨rfl, rfl⟩
/-- Where the count of a text's accepted bytes stands. -/
def TwAt (p : UInt8 → Bool) (l : List UInt8) (k : Nat) : Prop := (l.takeWhile p).length = k + ((l.drop k).takeWhile p).length
theorem TwAt.start (p : UInt8 → Bool) (l : List UInt8) : TwAt p l 0 := by unfold TwAt; rw [List.drop_zero, Nat.zero_add]
theorem TwAt.next {p : UInt8 → Bool} {l : List UInt8} {k : Nat} (h : TwAt p l k) (hk : k < l.length) (hp : p l[k] = true) : TwAt p l (k + 1) := by
  unfold TwAt at h ⊢
  rw [List.drop_eq_getElem_cons hk, List.takeWhile_cons, if_pos hp, List.length_cons] at h; omega
theorem TwAt.stop {p : UInt8 → Bool} {l : List UInt8} {k : Nat} (h : TwAt p l k) (hk : k < l.length) (hp : p l[k] = false) : (l.takeWhile p).length = k := by
  unfold TwAt at h
  rw [List.drop_eq_getElem_cons hk, List.takeWhile_cons, if_neg (by simp [hp])] at h; exact h
theorem TwAt.over {p : UInt8 → Bool} {l : List UInt8} {k : Nat} (h : TwAt p l k) (hk : l.length ≤ k) : (l.takeWhile p).length = k := by
  unfold TwAt at h
  rw [List.drop_eq_nil_of_le hk] at h; exact h
theorem ret_len {n m : Nat} (h : n = m) : Ending.returned (.int .i64 (m : Int)) = .returned (.int .i64 (n : Int)) := by rw [h]
set_option maxHeartbeats 800000 in
theorem impl_prefix_word (s : ByteArray) (w : World) (hs : (s.size : Int) ≤ 1048576) :
    Calls Try.prog 71 #[.string s, .func (.func 72) #[] #[]] w fun e w' => e = .returned (.int .i64 (s.data.toList.takeWhile Tk.idb).length) ∧ w = w' := by
  have HST := Lib.hid (TwAt.start Tk.idb s.data.toList)
  generalize hP : (Tk.idb : UInt8 → Bool) = P at HST
  have HC := Lib.hid (fun (b : UInt8) W => impl_wordb b W)
  rw [hP] at HC
  clear hP
  go_enter Try.func71, Try.ntmps71
  go_wp2
  go_loop [5, 8] (fun _ i => ∃ k : Nat, i = .int .i64 k ∧ k ≤ s.size ∧ TwAt P s.data.toList k) (fun _ i => s.size - (intOf i).toNat)
  case atStart => exact ⟨0, rfl, Nat.zero_le _, HST.out⟩
  case round =>
    clear HST
    obtain ⟨k, rfl, hk, hat⟩ := hrel
    have HAT := Lib.hid hat
    clear hat
    by_cases hlt : (k : Int) < s.size
    · have hks : k < s.size := by omega
      have H1 := Lib.hid (fun W => HC.out s[k] W)
      cases hp : P s[k]
      · have HN := Lib.hid (HAT.out.stop hks hp)
        rw [hp] at H1
        clear hp HC
        go_wp2_with (first | (go_at_call 72; refine (H1.out _).mono ?_; rintro e w3 ⟨rfl, rfl⟩))
        go_ret
        exact ⟨ret_len HN.out, rfl⟩
      · have HN := Lib.hid (HAT.out.next hks hp)
        rw [hp] at H1
        clear hp HC
        go_wp2_with (first | (go_at_call 72; refine (H1.out _).mono ?_; rintro e w3 ⟨rfl, rfl⟩))
        go_round
        case rel => exact ⟨k + 1, by go_num, by omega, HN.out⟩
        case measure => first | (simp [intOf]; done) | (simp [intOf]; omega)
    · obtain rfl : k = s.size := by omega
      have HN := Lib.hid (HAT.out.over (Nat.le_refl _))
      go_wp2
      go_ret
      exact ⟨ret_len HN.out, rfl⟩
set_option maxHeartbeats 800000 in
theorem impl_prefix_letter (s : ByteArray) (w : World) (hs : (s.size : Int) ≤ 1048576) :
    Calls Try.prog 71 #[.string s, .func (.func 85) #[] #[]] w fun e w' => e = .returned (.int .i64 (s.data.toList.takeWhile Tk.letter).length) ∧ w = w' := by
  have HST := Lib.hid (TwAt.start Tk.letter s.data.toList)
  generalize hP : (Tk.letter : UInt8 → Bool) = P at HST
  have HC := Lib.hid (fun (b : UInt8) W => impl_letter b W)
  rw [hP] at HC
  clear hP
  go_enter Try.func71, Try.ntmps71
  go_wp2
  go_loop [5, 8] (fun _ i => ∃ k : Nat, i = .int .i64 k ∧ k ≤ s.size ∧ TwAt P s.data.toList k) (fun _ i => s.size - (intOf i).toNat)
  case atStart => exact ⟨0, rfl, Nat.zero_le _, HST.out⟩
  case round =>
    clear HST
    obtain ⟨k, rfl, hk, hat⟩ := hrel
    have HAT := Lib.hid hat
    clear hat
    by_cases hlt : (k : Int) < s.size
    · have hks : k < s.size := by omega
      have H1 := Lib.hid (fun W => HC.out s[k] W)
      cases hp : P s[k]
      · have HN := Lib.hid (HAT.out.stop hks hp)
        rw [hp] at H1
        clear hp HC
        go_wp2_with (first | (go_at_call 85; refine (H1.out _).mono ?_; rintro e w3 ⟨rfl, rfl⟩))
        go_ret
        exact ⟨ret_len HN.out, rfl⟩
      · have HN := Lib.hid (HAT.out.next hks hp)
        rw [hp] at H1
        clear hp HC
        go_wp2_with (first | (go_at_call 85; refine (H1.out _).mono ?_; rintro e w3 ⟨rfl, rfl⟩))
        go_round
        case rel => exact ⟨k + 1, by go_num, by omega, HN.out⟩
        case measure => first | (simp [intOf]; done) | (simp [intOf]; omega)
    · obtain rfl : k = s.size := by omega
      have HN := Lib.hid (HAT.out.over (Nat.le_refl _))
      go_wp2
      go_ret
      exact ⟨ret_len HN.out, rfl⟩
theorem tw_full {p : UInt8 → Bool} {l : List UInt8} : (l.takeWhile p).length = l.length ↔ l.all p = true := by
  constructor
  · intro h
    have h2 := Tk.take_all p l
    have h3 : l.takeWhile p = l := List.IsPrefix.eq_of_length (List.takeWhile_prefix p) h
    rw [h3] at h2; exact h2
  · intro h
    have h3 : l.takeWhile p = l := by
      induction l with
      | nil => rfl
      | cons b l ih =>
        rw [List.all_cons, Bool.and_eq_true] at h
        rw [List.takeWhile_cons, if_pos h.1, ih h.2]
    rw [h3]
theorem dig_no_letter {b : UInt8} (h : Dec.isDig b = true) : Tk.letter b = false := Tk.letter_dig h
theorem name_ways (s : ByteArray) : (s.size = 0 ∧ Tk.isName s.data.toList = false) ∨ (12 < s.size ∧ Tk.isName s.data.toList = false) ∨ ∃ h : 1 ≤ s.size, s.size ≤ 12 ∧ ((Dec.isDig s[0] = true ∧ Tk.isName s.data.toList = false)
    ∨ (Dec.isDig s[0] = false ∧ (s.data.toList.takeWhile Tk.idb).length = s.size ∧ Tk.isName s.data.toList = !hasW Tk.reserved s.data.toList)
    ∨ (Dec.isDig s[0] = false ∧ (s.data.toList.takeWhile Tk.idb).length ≠ s.size ∧ Tk.isName s.data.toList = false)) := by
  rcases name_cases s with ⟨h | h, e⟩ | ⟨h1, h2, hr⟩
  · exact .inl ⟨by omega, e⟩
  · exact .inr (.inl ⟨h, e⟩)
  · refine .inr (.inr ⟨h1, h2, ?_⟩)
    have hl : 0 < s.data.toList.length := h1
    have hmem : s[0] ∈ s.data.toList := List.getElem_mem hl
    cases hd : Dec.isDig s[0]
    · right
      by_cases hf : (s.data.toList.takeWhile Tk.idb).length = s.size
      · left
        refine ⟨rfl, hf, ?_⟩
        have ha := tw_full.1 hf
        have h0 := List.all_eq_true.1 ha _ hmem
        have hlet : Tk.letter s[0] = true := by
          unfold Tk.idb at h0
          rw [hd, Bool.or_false] at h0; exact h0
        rcases hr with ⟨h3, e⟩ | ⟨h3, h4, e⟩ | ⟨h3, h4, e⟩
        · rw [hlet] at h3; cases h3
        · rw [e, h4]; rfl
        · rw [e, h4, ha]; rfl
      · right
        refine ⟨rfl, hf, ?_⟩
        have ha : s.data.toList.all Tk.idb = false := Bool.eq_false_iff.2 fun h => hf (tw_full.2 h)
        rcases hr with ⟨h3, e⟩ | ⟨h3, h4, e⟩ | ⟨h3, h4, e⟩
        · exact e
        · exact e
        · rw [e, ha]
    · left
      refine ⟨rfl, ?_⟩
      rcases hr with ⟨h3, e⟩ | ⟨h3, h4, e⟩ | ⟨h3, h4, e⟩
      · exact e
      · exact e
      · rw [dig_no_letter hd] at h3; cases h3

set_option maxHeartbeats 800000 in
theorem impl_name (s : ByteArray) (w : World) (hs : (s.size : Int) ≤ 1048576) : Calls Try.prog 52 #[.string s] w fun e w' => e = .returned (.bool (Tk.isName s.data.toList)) ∧ Below w.heap.size w w' := by
  rcases name_ways s with ⟨h, e⟩ | ⟨h, e⟩ | ⟨h1, h2, ⟨h3, e⟩ | ⟨h3, h4, e⟩ | ⟨h3, h4, e⟩⟩
  · rw [e]
    have c4 : s.toList.isEmpty = true := by
      have h5 : s.toList = [] := by rw [ByteArray.toList_eq]; exact List.length_eq_zero_iff.1 h
      rw [h5]; rfl
    clear e h
    go_enter Try.func52, Try.ntmps52
    go_wp2
    go_ret
    exact ⟨rfl, Below.refl _ _⟩
  · rw [e]
    have c4 : s.toList.isEmpty = false := by
      cases h5 : s.toList with
      | nil => rw [ByteArray.toList_eq] at h5; have h6 : s.data.toList.length = 0 := by rw [h5]; rfl
               rw [len8] at h6; omega
      | cons _ _ => rfl
    have t2 : (12 : Int) < s.size := by omega
    clear e h
    go_enter Try.func52, Try.ntmps52
    go_wp2
    go_ret
    exact ⟨rfl, Below.refl _ _⟩
  all_goals
    rw [e]
    have c4 : s.toList.isEmpty = false := by
      cases h5 : s.toList with
      | nil => rw [ByteArray.toList_eq] at h5; have h6 : s.data.toList.length = 0 := by rw [h5]; rfl
               rw [len8] at h6; omega
      | cons _ _ => rfl
    have t2 : ¬ (12 : Int) < s.size := by omega
    have t3 : (0 : Int) < s.size := by omega
    have HD := Lib.hid (fun W => impl_digit s[0] W)
    rw [h3] at HD
    have HP := Lib.hid (fun W => impl_prefix_word s W hs)
    have HR := Lib.hid (fun W => impl_reserved s W)
  · clear e h3 HP HR
    go_enter Try.func52, Try.ntmps52
    go_wp2_with (first | (go_at_call 70; refine (HD.out _).mono ?_; rintro e w1 ⟨rfl, rfl⟩))
    go_ret
    exact ⟨rfl, Below.refl _ _⟩
  · generalize hasW Tk.reserved s.data.toList = b at HR
    rw [h4] at HP
    clear e h3 h4
    go_enter Try.func52, Try.ntmps52
    go_wp2_with (first | (go_at_call 70; refine (HD.out _).mono ?_; rintro e w1 ⟨rfl, rfl⟩) | (go_at_call 71; refine (HP.out _).mono ?_; rintro e w2 ⟨rfl, rfl⟩) | (go_at_call 73; refine (HR.out _).mono ?_; rintro e w3 ⟨rfl, hb3⟩; have HB := Lib.hid hb3; clear hb3))
    go_ret
    exact ⟨rfl, HB.out⟩
  · have h5 : (((s.data.toList.takeWhile Tk.idb).length : Int) == s.size) = false := beq_eq_false_iff_ne.2 (by omega)
    generalize (s.data.toList.takeWhile Tk.idb).length = n at HP h5
    clear e h3 h4 HR
    go_enter Try.func52, Try.ntmps52
    go_wp2_with (first | (go_at_call 70; refine (HD.out _).mono ?_; rintro e w1 ⟨rfl, rfl⟩) | (go_at_call 71; refine (HP.out _).mono ?_; rintro e w2 ⟨rfl, rfl⟩))
    go_ret
    exact ⟨rfl, Below.refl _ _⟩
end Go.Proofs.Ytfachlcahainhaa
