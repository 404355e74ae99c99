/- Joined texts: R2, R6, R0, KF, J1, L2, J2, J3. No conditions besides those that each states. -/
import Derived.Test.YtfhakailbikjkaaDoorShelf
import Derived.LaidEql
import Derived.Stop.Asserts
import Derived.RowKitTokens
import Derived.Stop.LaidErr
import Derived.LaidMore
import Derived.ProofKit
import Derived.IntWalk
import Derived.Deep.RegionLaw
import Derived.Deep.QuietTactic
import Derived.BigQuiet
import Derived.Test.YtfhakailbikjkaaDoorZ1
import Derived.Test.YtfhakailbikjkaaDoorZ2
import Derived.Test.YtfhakailbikjkaaDoorZ3
/- Letters, digits, bytes of words, prefixSize and names in the program. No conditions. -/
namespace Go.Proofs.YtfhakailbikjkaaDoor
open Go.RowKit
set_option linter.unusedVariables false

theorem impl_letter (b : UInt8) (w : World) : Calls Tryd.prog 40 #[.int .u8 (b.toNat : Int)] w fun e w' => e = .returned (.bool (Tk.letter b)) ∧ w = w' := by
  have hb := UInt8.toNat_lt b
  rcases letter_cases b with ⟨h, e⟩ | ⟨h, h2, e⟩ | ⟨h, h2, h3, e⟩ | ⟨h, e⟩ | ⟨h, h2, e⟩ | ⟨h, e⟩
  · rw [e]
    have ta : decide ((97 : Int) ≤ b.toNat) = false := by simp; omega
    have tA : decide ((65 : Int) ≤ b.toNat) = false := by simp; omega
    have tu : ((b.toNat : Int) == 95) = false := by simp; omega
    clear e
    go_enter Tryd.func40, Tryd.ntmps40
    go_wp2
    go_ret
    exact ⟨rfl, rfl⟩
  · rw [e]
    have ta : decide ((97 : Int) ≤ b.toNat) = false := by simp; omega
    have tA : decide ((65 : Int) ≤ b.toNat) = true := by simp; omega
    have tZ : decide ((b.toNat : Int) ≤ 90) = true := by simp; omega
    have tu : ((b.toNat : Int) == 95) = false := by simp; omega
    clear e
    go_enter Tryd.func40, Tryd.ntmps40
    go_wp2
    go_ret
    exact ⟨rfl, rfl⟩
  · rw [e]
    have ta : decide ((97 : Int) ≤ b.toNat) = false := by simp; omega
    have tA : decide ((65 : Int) ≤ b.toNat) = true := by simp; omega
    have tZ : decide ((b.toNat : Int) ≤ 90) = false := by simp; omega
    have tu : ((b.toNat : Int) == 95) = false := ne8 h3
    clear e
    go_enter Tryd.func40, Tryd.ntmps40
    go_wp2
    go_ret
    exact ⟨rfl, rfl⟩
  · rw [e]
    have ta : decide ((97 : Int) ≤ b.toNat) = false := by subst h; rfl
    have tA : decide ((65 : Int) ≤ b.toNat) = true := by subst h; rfl
    have tZ : decide ((b.toNat : Int) ≤ 90) = false := by subst h; rfl
    have tu : ((b.toNat : Int) == 95) = true := by subst h; rfl
    clear e
    go_enter Tryd.func40, Tryd.ntmps40
    go_wp2
    go_ret
    exact ⟨rfl, rfl⟩
  · rw [e]
    have ta : decide ((97 : Int) ≤ b.toNat) = true := by simp; omega
    have tz : decide ((b.toNat : Int) ≤ 122) = true := by simp; omega
    have tA : decide ((65 : Int) ≤ b.toNat) = true := by simp; omega
    have tZ : decide ((b.toNat : Int) ≤ 90) = false := by simp; omega
    have tu : ((b.toNat : Int) == 95) = false := by simp; omega
    clear e
    go_enter Tryd.func40, Tryd.ntmps40
    go_wp2
    go_ret
    exact ⟨rfl, rfl⟩
  · rw [e]
    have ta : decide ((97 : Int) ≤ b.toNat) = true := by simp; omega
    have tz : decide ((b.toNat : Int) ≤ 122) = false := by simp; omega
    have tA : decide ((65 : Int) ≤ b.toNat) = true := by simp; omega
    have tZ : decide ((b.toNat : Int) ≤ 90) = false := by simp; omega
    have tu : ((b.toNat : Int) == 95) = false := by simp; omega
    clear e
    go_enter Tryd.func40, Tryd.ntmps40
    go_wp2
    go_ret
    exact ⟨rfl, rfl⟩
theorem impl_digit (b : UInt8) (w : World) : Calls Tryd.prog 38 #[.int .u8 (b.toNat : Int)] w fun e w' => e = .returned (.bool (Dec.isDig b)) ∧ w = w' := by
  have hb := UInt8.toNat_lt b
  rcases (show b.toNat < 48 ∨ (48 ≤ b.toNat ∧ b.toNat ≤ 57) ∨ 57 < b.toNat by omega) with h | ⟨h, h2⟩ | h
  · rw [show Dec.isDig b = false by simp [Dec.isDig]; omega]
    have t0 : decide ((48 : Int) ≤ b.toNat) = false := by simp; omega
    go_enter Tryd.func38, Tryd.ntmps38
    go_wp2
    go_ret
    exact ⟨rfl, rfl⟩
  · rw [show Dec.isDig b = true by simp [Dec.isDig]; omega]
    have t0 : decide ((48 : Int) ≤ b.toNat) = true := by simp; omega
    have t1 : decide ((b.toNat : Int) ≤ 57) = true := by simp; omega
    go_enter Tryd.func38, Tryd.ntmps38
    go_wp2
    go_ret
    exact ⟨rfl, rfl⟩
  · rw [show Dec.isDig b = false by simp [Dec.isDig]; omega]
    have t0 : decide ((48 : Int) ≤ b.toNat) = true := by simp; omega
    have t1 : decide ((b.toNat : Int) ≤ 57) = false := by simp; omega
    go_enter Tryd.func38, Tryd.ntmps38
    go_wp2
    go_ret
    exact ⟨rfl, rfl⟩
theorem impl_wordb (b : UInt8) (w : World) : Calls Tryd.prog 49 #[.int .u8 (b.toNat : Int)] w fun e w' => e = .returned (.bool (Tk.idb b)) ∧ w = w' := by
  have H1 := Lib.hid (fun W => impl_letter b W)
  have H2 := Lib.hid (fun W => impl_digit b W)
  unfold Tk.idb
  cases hl : Tk.letter b
  · rw [hl] at H1
    clear hl
    cases hd : Dec.isDig b
    all_goals
      rw [hd] at H2
      clear hd
      go_enter Tryd.func49, Tryd.ntmps49
      go_wp2_with (first | (go_at_call 40; refine (H1.out _).mono ?_; rintro e w3 ⟨rfl, rfl⟩) | (go_at_call 38; refine (H2.out _).mono ?_; rintro e w4 ⟨rfl, rfl⟩))
      go_ret
      exact ⟨rfl, rfl⟩
  · rw [hl] at H1
    clear hl
    go_enter Tryd.func49, Tryd.ntmps49
    go_wp2_with (first | (go_at_call 40; refine (H1.out _).mono ?_; rintro e w3 ⟨rfl, rfl⟩))
    go_ret
    exact ⟨rfl, rfl⟩
/-- Where the count of a text's accepted bytes stands. -/
def TwAt (p : UInt8 → Bool) (l : List UInt8) (k : Nat) : Prop := (l.takeWhile p).length = k + ((l.drop k).takeWhile p).length
theorem TwAt.start (p : UInt8 → Bool) (l : List UInt8) : TwAt p l 0 := by unfold TwAt; rw [List.drop_zero, Nat.zero_add]
theorem TwAt.next {p : UInt8 → Bool} {l : List UInt8} {k : Nat} (h : TwAt p l k) (hk : k < l.length) (hp : p l[k] = true) : TwAt p l (k + 1) := by
  unfold TwAt at h ⊢
  rw [List.drop_eq_getElem_cons hk, List.takeWhile_cons, if_pos hp, List.length_cons] at h; omega
theorem TwAt.stop {p : UInt8 → Bool} {l : List UInt8} {k : Nat} (h : TwAt p l k) (hk : k < l.length) (hp : p l[k] = false) : (l.takeWhile p).length = k := by
  unfold TwAt at h
  rw [List.drop_eq_getElem_cons hk, List.takeWhile_cons, if_neg (by simp [hp])] at h; exact h
theorem TwAt.over {p : UInt8 → Bool} {l : List UInt8} {k : Nat} (h : TwAt p l k) (hk : l.length ≤ k) : (l.takeWhile p).length = k := by
  unfold TwAt at h
  rw [List.drop_eq_nil_of_le hk] at h; exact h
theorem ret_len {n m : Nat} (h : n = m) : Ending.returned (.int .i64 (m : Int)) = .returned (.int .i64 (n : Int)) := by rw [h]
set_option maxHeartbeats 800000 in
theorem impl_prefix_word (s : ByteArray) (w : World) (hs : (s.size : Int) ≤ 1048576) :
    Calls Tryd.prog 48 #[.string s, .func (.func 49) #[] #[]] w fun e w' => e = .returned (.int .i64 (s.data.toList.takeWhile Tk.idb).length) ∧ w = w' := by
  have HST := Lib.hid (TwAt.start Tk.idb s.data.toList)
  generalize hP : (Tk.idb : UInt8 → Bool) = P at HST
  have HC := Lib.hid (fun (b : UInt8) W => impl_wordb b W)
  rw [hP] at HC
  clear hP
  go_enter Tryd.func48, Tryd.ntmps48
  go_wp2
  go_loop [5, 8] (fun _ i => ∃ k : Nat, i = .int .i64 k ∧ k ≤ s.size ∧ TwAt P s.data.toList k) (fun _ i => s.size - (intOf i).toNat)
  case atStart => exact ⟨0, rfl, Nat.zero_le _, HST.out⟩
  case round =>
    clear HST
    obtain ⟨k, rfl, hk, hat⟩ := hrel
    have HAT := Lib.hid hat
    clear hat
    by_cases hlt : (k : Int) < s.size
    · have hks : k < s.size := by omega
      have H1 := Lib.hid (fun W => HC.out s[k] W)
      cases hp : P s[k]
      · have HN := Lib.hid (HAT.out.stop hks hp)
        rw [hp] at H1
        clear hp HC
        go_wp2_with (first | (go_at_call 49; refine (H1.out _).mono ?_; rintro e w3 ⟨rfl, rfl⟩))
        go_ret
        exact ⟨ret_len HN.out, rfl⟩
      · have HN := Lib.hid (HAT.out.next hks hp)
        rw [hp] at H1
        clear hp HC
        go_wp2_with (first | (go_at_call 49; refine (H1.out _).mono ?_; rintro e w3 ⟨rfl, rfl⟩))
        go_round
        case rel => exact ⟨k + 1, by go_num, by omega, HN.out⟩
        case measure => first | (simp [intOf]; done) | (simp [intOf]; omega)
    · obtain rfl : k = s.size := by omega
      have HN := Lib.hid (HAT.out.over (Nat.le_refl _))
      go_wp2
      go_ret
      exact ⟨ret_len HN.out, rfl⟩
set_option maxHeartbeats 800000 in
theorem impl_prefix_letter (s : ByteArray) (w : World) (hs : (s.size : Int) ≤ 1048576) :
    Calls Tryd.prog 48 #[.string s, .func (.func 40) #[] #[]] w fun e w' => e = .returned (.int .i64 (s.data.toList.takeWhile Tk.letter).length) ∧ w = w' := by
  have HST := Lib.hid (TwAt.start Tk.letter s.data.toList)
  generalize hP : (Tk.letter : UInt8 → Bool) = P at HST
  have HC := Lib.hid (fun (b : UInt8) W => impl_letter b W)
  rw [hP] at HC
  clear hP
  go_enter Tryd.func48, Tryd.ntmps48
  go_wp2
  go_loop [5, 8] (fun _ i => ∃ k : Nat, i = .int .i64 k ∧ k ≤ s.size ∧ TwAt P s.data.toList k) (fun _ i => s.size - (intOf i).toNat)
  case atStart => exact ⟨0, rfl, Nat.zero_le _, HST.out⟩
  case round =>
    clear HST
    obtain ⟨k, rfl, hk, hat⟩ := hrel
    have HAT := Lib.hid hat
    clear hat
    by_cases hlt : (k : Int) < s.size
    · have hks : k < s.size := by omega
      have H1 := Lib.hid (fun W => HC.out s[k] W)
      cases hp : P s[k]
      · have HN := Lib.hid (HAT.out.stop hks hp)
        rw [hp] at H1
        clear hp HC
        go_wp2_with (first | (go_at_call 40; refine (H1.out _).mono ?_; rintro e w3 ⟨rfl, rfl⟩))
        go_ret
        exact ⟨ret_len HN.out, rfl⟩
      · have HN := Lib.hid (HAT.out.next hks hp)
        rw [hp] at H1
        clear hp HC
        go_wp2_with (first | (go_at_call 40; refine (H1.out _).mono ?_; rintro e w3 ⟨rfl, rfl⟩))
        go_round
        case rel => exact ⟨k + 1, by go_num, by omega, HN.out⟩
        case measure => first | (simp [intOf]; done) | (simp [intOf]; omega)
    · obtain rfl : k = s.size := by omega
      have HN := Lib.hid (HAT.out.over (Nat.le_refl _))
      go_wp2
      go_ret
      exact ⟨ret_len HN.out, rfl⟩
theorem tw_full {p : UInt8 → Bool} {l : List UInt8} : (l.takeWhile p).length = l.length ↔ l.all p = true := by
  constructor
  · intro h
    have h2 := Tk.take_all p l
    have h3 : l.takeWhile p = l := List.IsPrefix.eq_of_length (List.takeWhile_prefix p) h
    rw [h3] at h2; exact h2
  · intro h
    have h3 : l.takeWhile p = l := by
      induction l with
      | nil => rfl
      | cons b l ih =>
        rw [List.all_cons, Bool.and_eq_true] at h
        rw [List.takeWhile_cons, if_pos h.1, ih h.2]
    rw [h3]
theorem dig_no_letter {b : UInt8} (h : Dec.isDig b = true) : Tk.letter b = false := Tk.letter_dig h
theorem name_ways (s : ByteArray) : (s.size = 0 ∧ Tk.isName s.data.toList = false) ∨ (12 < s.size ∧ Tk.isName s.data.toList = false) ∨ ∃ h : 1 ≤ s.size, s.size ≤ 12 ∧ ((Dec.isDig s[0] = true ∧ Tk.isName s.data.toList = false)
    ∨ (Dec.isDig s[0] = false ∧ (s.data.toList.takeWhile Tk.idb).length = s.size ∧ Tk.isName s.data.toList = !hasW Tk.reserved s.data.toList)
    ∨ (Dec.isDig s[0] = false ∧ (s.data.toList.takeWhile Tk.idb).length ≠ s.size ∧ Tk.isName s.data.toList = false)) := by
  rcases name_cases s with ⟨h | h, e⟩ | ⟨h1, h2, hr⟩
  · exact .inl ⟨by omega, e⟩
  · exact .inr (.inl ⟨h, e⟩)
  · refine .inr (.inr ⟨h1, h2, ?_⟩)
    have hl : 0 < s.data.toList.length := h1
    have hmem : s[0] ∈ s.data.toList := List.getElem_mem hl
    cases hd : Dec.isDig s[0]
    · right
      by_cases hf : (s.data.toList.takeWhile Tk.idb).length = s.size
      · left
        refine ⟨rfl, hf, ?_⟩
        have ha := tw_full.1 hf
        have h0 := List.all_eq_true.1 ha _ hmem
        have hlet : Tk.letter s[0] = true := by
          unfold Tk.idb at h0
          rw [hd, Bool.or_false] at h0; exact h0
        rcases hr with ⟨h3, e⟩ | ⟨h3, h4, e⟩ | ⟨h3, h4, e⟩
        · rw [hlet] at h3; cases h3
        · rw [e, h4]; rfl
        · rw [e, h4, ha]; rfl
      · right
        refine ⟨rfl, hf, ?_⟩
        have ha : s.data.toList.all Tk.idb = false := Bool.eq_false_iff.2 fun h => hf (tw_full.2 h)
        rcases hr with ⟨h3, e⟩ | ⟨h3, h4, e⟩ | ⟨h3, h4, e⟩
        · exact e
        · exact e
        · rw [e, ha]
    · left
      refine ⟨rfl, ?_⟩
      rcases hr with ⟨h3, e⟩ | ⟨h3, h4, e⟩ | ⟨h3, h4, e⟩
      · exact e
      · exact e
      · rw [dig_no_letter hd] at h3; cases h3

set_option maxHeartbeats 800000 in
theorem impl_name (s : ByteArray) (w : World) (hs : (s.size : Int) ≤ 1048576) : Calls Tryd.prog 54 #[.string s] w fun e w' => e = .returned (.bool (Tk.isName s.data.toList)) ∧ Below w.heap.size w w' := by
  rcases name_ways s with ⟨h, e⟩ | ⟨h, e⟩ | ⟨h1, h2, ⟨h3, e⟩ | ⟨h3, h4, e⟩ | ⟨h3, h4, e⟩⟩
  · rw [e]
    have c4 : s.toList.isEmpty = true := by
      have h5 : s.toList = [] := by rw [ByteArray.toList_eq]; exact List.length_eq_zero_iff.1 h
      rw [h5]; rfl
    clear e h
    go_enter Tryd.func54, Tryd.ntmps54
    go_wp2
    go_ret
    exact ⟨rfl, Below.refl _ _⟩
  · rw [e]
    have c4 : s.toList.isEmpty = false := by
      cases h5 : s.toList with
      | nil => rw [ByteArray.toList_eq] at h5; have h6 : s.data.toList.length = 0 := by rw [h5]; rfl
               rw [len8] at h6; omega
      | cons _ _ => rfl
    have t2 : (12 : Int) < s.size := by omega
    clear e h
    go_enter Tryd.func54, Tryd.ntmps54
    go_wp2
    go_ret
    exact ⟨rfl, Below.refl _ _⟩
  all_goals
    rw [e]
    have c4 : s.toList.isEmpty = false := by
      cases h5 : s.toList with
      | nil => rw [ByteArray.toList_eq] at h5; have h6 : s.data.toList.length = 0 := by rw [h5]; rfl
               rw [len8] at h6; omega
      | cons _ _ => rfl
    have t2 : ¬ (12 : Int) < s.size := by omega
    have t3 : (0 : Int) < s.size := by omega
    have HD := Lib.hid (fun W => impl_digit s[0] W)
    rw [h3] at HD
    have HP := Lib.hid (fun W => impl_prefix_word s W hs)
    have HR := Lib.hid (fun W => impl_reserved s W)
  · clear e h3 HP HR
    go_enter Tryd.func54, Tryd.ntmps54
    go_wp2_with (first | (go_at_call 38; refine (HD.out _).mono ?_; rintro e w1 ⟨rfl, rfl⟩))
    go_ret
    exact ⟨rfl, Below.refl _ _⟩
  · generalize hasW Tk.reserved s.data.toList = b at HR
    rw [h4] at HP
    clear e h3 h4
    go_enter Tryd.func54, Tryd.ntmps54
    go_wp2_with (first | (go_at_call 38; refine (HD.out _).mono ?_; rintro e w1 ⟨rfl, rfl⟩) | (go_at_call 48; refine (HP.out _).mono ?_; rintro e w2 ⟨rfl, rfl⟩) | (go_at_call 53; refine (HR.out _).mono ?_; rintro e w3 ⟨rfl, hb3⟩; have HB := Lib.hid hb3; clear hb3))
    go_ret
    exact ⟨rfl, HB.out⟩
  · have h5 : (((s.data.toList.takeWhile Tk.idb).length : Int) == s.size) = false := beq_eq_false_iff_ne.2 (by omega)
    generalize (s.data.toList.takeWhile Tk.idb).length = n at HP h5
    clear e h3 h4 HR
    go_enter Tryd.func54, Tryd.ntmps54
    go_wp2_with (first | (go_at_call 38; refine (HD.out _).mono ?_; rintro e w1 ⟨rfl, rfl⟩) | (go_at_call 48; refine (HP.out _).mono ?_; rintro e w2 ⟨rfl, rfl⟩))
    go_ret
    exact ⟨rfl, Below.refl _ _⟩
end Go.Proofs.YtfhakailbikjkaaDoor
/- Gaps, the size of a literal, line feeds, operators in the program. No conditions. -/
namespace Go.Proofs.YtfhakailbikjkaaDoor
open Go.RowKit
set_option linter.unusedVariables false

set_option maxHeartbeats 800000 in
theorem gap_any (s : ByteArray) (w : World) (hs : (s.size : Int) ≤ 1048576) :
    Calls Tryd.prog 30 #[.string s] w fun e w' => e = .returned (.int .i64 (Tk.gapB false s.data.toList)) ∧ w = w' := by
  have HST := Lib.hid (Tk.GapAt.start s.data.toList)
  go_enter Tryd.func30, Tryd.ntmps30
  go_wp2
  go_loop [3, 4, 7] (fun c _ i => ∃ (k : Nat) (b : Bool), i = .int .i64 k ∧ c = .bool b ∧ k ≤ s.size ∧ Tk.GapAt s.data.toList k b) (fun _ _ i => s.size - (intOf i).toNat)
  case atStart => exact ⟨0, false, rfl, rfl, Nat.zero_le _, HST.out⟩
  case round =>
    clear HST
    obtain ⟨k, b, rfl, rfl, hk, hat⟩ := hrel
    have HAT := Lib.hid hat
    clear hat
    by_cases hlt : (k : Int) < s.size
    · have hks : k < s.size := by omega
      by_cases h10 : s[k] = 10
      · have t10 : ((s[k].toNat : Int) == 10) = true := by rw [h10]; rfl
        have HN := Lib.hid (HAT.out.feed hks h10)
        clear h10
        go_wp2
        go_round
        case rel => exact ⟨k + 1, false, by go_num, rfl, by omega, HN.out⟩
        case measure => first | (simp [intOf]; done) | (simp [intOf]; omega)
      · have t10 : ((s[k].toNat : Int) == 10) = false := ne8 (b := 10) h10
        by_cases h35 : s[k] = 35
        · have t35 : ((s[k].toNat : Int) == 35) = true := by rw [h35]; rfl
          have HN := Lib.hid (HAT.out.note hks h35)
          clear h10 h35
          go_wp2
          go_round
          case rel => exact ⟨k + 1, true, by go_num, rfl, by omega, HN.out⟩
          case measure => first | (simp [intOf]; done) | (simp [intOf]; omega)
        · have t35 : ((s[k].toNat : Int) == 35) = false := ne8 (b := 35) h35
          by_cases h32 : s[k] = 32
          · have t32 : ((s[k].toNat : Int) == 32) = true := by rw [h32]; rfl
            have HN := Lib.hid (HAT.out.blank hks (.inl h32))
            clear h10 h35 h32
            go_wp2
            go_round
            case rel => exact ⟨k + 1, b, by go_num, rfl, by omega, HN.out⟩
            case measure => first | (simp [intOf]; done) | (simp [intOf]; omega)
          · have t32 : ((s[k].toNat : Int) == 32) = false := ne8 (b := 32) h32
            by_cases h9 : s[k] = 9
            · have t9 : ((s[k].toNat : Int) == 9) = true := by rw [h9]; rfl
              have HN := Lib.hid (HAT.out.blank hks (.inr h9))
              clear h10 h35 h32 h9
              go_wp2
              go_round
              case rel => exact ⟨k + 1, b, by go_num, rfl, by omega, HN.out⟩
              case measure => first | (simp [intOf]; done) | (simp [intOf]; omega)
            · have t9 : ((s[k].toNat : Int) == 9) = false := ne8 (b := 9) h9
              cases b
              · have HN := Lib.hid (HAT.out.out hks h10 h32 h9 h35)
                clear h10 h35 h32 h9
                go_wp2
                go_ret
                exact ⟨ret_len HN.out, rfl⟩
              · have HN := Lib.hid (HAT.out.inn hks h10)
                clear h10 h35 h32 h9
                go_wp2
                go_round
                case rel => exact ⟨k + 1, true, by go_num, rfl, by omega, HN.out⟩
                case measure => first | (simp [intOf]; done) | (simp [intOf]; omega)
    · obtain rfl : k = s.size := by omega
      have HN := Lib.hid (HAT.out.over (Nat.le_refl _))
      go_wp2
      go_ret
      exact ⟨ret_len HN.out, rfl⟩

/-- The size of a literal with which a text begins. -/
def litZ (S : List UInt8) : Nat := match S with
  | [] => 0
  | b :: r => Tk.endP b r + 1
theorem litZ_start (s : ByteArray) (h : 0 < s.size) (hd : (92 : UInt8) ≠ s[0]) : Tk.LitAt s[0] s.data.toList (litZ s.data.toList) 1 := by
  have h2 : 0 < s.data.toList.length := h
  have e : s.data.toList = s[0] :: s.data.toList.drop 1 := List.drop_eq_getElem_cons h2
  have h3 := Tk.LitAt.start s[0] s[0] (s.data.toList.drop 1) hd
  rw [← e] at h3
  have h4 : litZ s.data.toList = Tk.endP s[0] (s.data.toList.drop 1) + 1 := by rw [e]; rfl
  rw [h4]; exact h3
set_option maxHeartbeats 800000 in
theorem lit_any (s : ByteArray) (w : World) (hs : (s.size : Int) ≤ 1048576) (h0 : 0 < s.size) (hd : (92 : UInt8) ≠ s[0]) :
    Calls Tryd.prog 55 #[.string s] w fun e w' => e = .returned (.int .i64 (litZ s.data.toList)) ∧ w = w' := by
  have HST := Lib.hid (litZ_start s h0 hd)
  have HD := Lib.hid hd
  have h00 : (0 : Int) < s.size := by omega
  clear hd
  generalize litZ s.data.toList = z at HST ⊢
  go_enter Tryd.func55, Tryd.ntmps55
  go_wp2
  go_loop [3] (fun i => ∃ k : Nat, i = .int .i64 k ∧ 1 ≤ k ∧ k ≤ s.size + 1 ∧ Tk.LitAt s[0] s.data.toList z k) (fun i => s.size + 1 - (intOf i).toNat)
  case atStart => exact ⟨1, rfl, Nat.le_refl _, by omega, HST.out⟩
  case round =>
    clear HST
    obtain ⟨k, rfl, h1, hk, hat⟩ := hrel
    have HAT := Lib.hid hat
    clear hat
    have k0 : (0 : Int) ≤ k := by omega
    by_cases hlt : (k : Int) < s.size
    · have hks : k < s.size := by omega
      by_cases he : s[k] = s[0]
      · have t1 : ((s[k].toNat : Int) == s[0].toNat) = true := by rw [he]; simp
        have HN := Lib.hid (HAT.out.hit hks he)
        clear he
        go_wp2
        go_ret
        exact ⟨by rw [HN.out]; rfl, rfl⟩
      · have t1 : ((s[k].toNat : Int) == s[0].toNat) = false := ne8 he
        by_cases h92 : s[k] = 92
        · have t92 : ((s[k].toNat : Int) == 92) = true := by rw [h92]; rfl
          have HN := Lib.hid (HAT.out.back HD.out hks h92)
          clear he h92
          go_wp2
          go_round
          case rel => exact ⟨k + 2, by go_num, by omega, by omega, HN.out⟩
          case measure => first | (simp [intOf]; done) | (simp [intOf]; omega)
        · have t92 : ((s[k].toNat : Int) == 92) = false := ne8 (b := 92) h92
          have HN := Lib.hid (HAT.out.one hks he h92)
          clear he h92
          go_wp2
          go_round
          case rel => exact ⟨k + 1, by go_num, by omega, by omega, HN.out⟩
          case measure => first | (simp [intOf]; done) | (simp [intOf]; omega)
    · have HN := Lib.hid (HAT.out.over (show s.size ≤ k by omega))
      go_wp2
      go_ret
      exact ⟨by rw [HN.out]; rfl, rfl⟩

/-- Line feeds among the first k bytes. -/
def NlsTo (l : List UInt8) (k c : Nat) : Prop := c = Tk.nls (l.take k)
theorem NlsTo.hit {l : List UInt8} {k c : Nat} (h : NlsTo l k c) (hk : k < l.length) (hb : l[k] = 10) : NlsTo l (k + 1) (c + 1) := by
  unfold NlsTo at h ⊢
  rw [List.take_succ_eq_append_getElem hk, Tk.nls_snoc, if_pos hb, h]
theorem NlsTo.miss {l : List UInt8} {k c : Nat} (h : NlsTo l k c) (hk : k < l.length) (hb : l[k] ≠ 10) : NlsTo l (k + 1) c := by
  unfold NlsTo at h ⊢
  rw [List.take_succ_eq_append_getElem hk, Tk.nls_snoc, if_neg hb, h]; rfl
theorem NlsTo.over {l : List UInt8} {k c : Nat} (h : NlsTo l k c) (hk : l.length ≤ k) : Tk.nls l = c := by
  unfold NlsTo at h
  rw [List.take_of_length_le hk] at h; exact h.symm
theorem NlsTo.le {l : List UInt8} {k c : Nat} (h : NlsTo l k c) : c ≤ k := by
  unfold NlsTo at h
  have h2 := Tk.nls_le (l.take k)
  rw [List.length_take] at h2; omega
theorem feeds_any (s : ByteArray) (w : World) (hs : (s.size : Int) ≤ 1048576) :
    Calls Tryd.prog 31 #[.string s, .int .u8 10] w fun e w' => e = .returned (.int .i64 (Tk.nls s.data.toList)) ∧ w = w' := by
  go_enter Tryd.func31, Tryd.ntmps31
  go_wp2
  go_loop [5, 6, 9] (fun c _ i => ∃ k n : Nat, i = .int .i64 k ∧ k ≤ s.size ∧ c = .int .i64 n ∧ NlsTo s.data.toList k n) (fun _ _ i => s.size - (intOf i).toNat)
  case atStart => exact ⟨0, 0, rfl, Nat.zero_le _, rfl, rfl⟩
  case round =>
    obtain ⟨k, n, rfl, hk, rfl, hat⟩ := hrel
    have hle := hat.le
    have HAT := Lib.hid hat
    clear hat
    by_cases hlt : k < s.size
    · by_cases hhit : s[k] = 10
      · have hh : ((s[k].toNat : Int) == 10) = true := by rw [hhit]; rfl
        have H1 := Lib.hid (HAT.out.hit hlt hhit)
        clear hhit
        go_wp2
        go_round
        case rel => exact ⟨k + 1, n + 1, by go_num, hlt, by go_num, H1.out⟩
        case measure => first | (simp [intOf]; done) | (simp [intOf]; omega)
      · have hh : ((s[k].toNat : Int) == 10) = false := ne8 (b := 10) hhit
        have H1 := Lib.hid (HAT.out.miss hlt hhit)
        clear hhit
        go_wp2
        go_round
        case rel => exact ⟨k + 1, n, by go_num, hlt, rfl, H1.out⟩
        case measure => first | (simp [intOf]; done) | (simp [intOf]; omega)
    · obtain rfl : k = s.size := by omega
      have HN := Lib.hid (HAT.out.over (Nat.le_refl _))
      go_wp2
      go_ret
      exact ⟨ret_len HN.out, rfl⟩

set_option maxRecDepth 100000 in
set_option maxHeartbeats 12800000 in
theorem impl_op (s : ByteArray) (w : World) : Calls Tryd.prog 60 #[.string s] w fun e w' => e = .returned (.bool (hasW Tk.operators s.data.toList)) ∧ w = w' := by
  go_enter Tryd.func60, Tryd.ntmps60
  go_wp2
  all_goals first
    | (refine both (b := ?_) ?_ ?_; rotate_left; assumption; assumption)
    | (go_ret; refine ⟨word_yes (x := ?_) ?_ ?_, rfl⟩; rotate_left; assumption; decide)
    | (go_ret; refine ⟨word_no ?_, rfl⟩; simp only [Tk.operators, List.contains_cons, List.contains_nil, Bool.or_false, *])
end Go.Proofs.YtfhakailbikjkaaDoor
/- strings.Clone: the string itself. -/
namespace Go.Proofs.YtfhakailbikjkaaDoor
open Go.RowKit
set_option linter.unusedVariables false

theorem clone8 (s : ByteArray) (w : World) (h : (s.size : Int) ≤ 1048576) :
    Calls Tryd.prog 52 #[.string s] w fun e w' => e = .returned (.string s) ∧ Below w.heap.size w w' := by
  have HC := Lib.hid (fun W => Tryd.stringslite_Clone s W (by omega))
  go_enter Tryd.func52, Tryd.ntmps52
  go_wp2_with (go_at_call 61; refine (HC.out _).mono ?_; rintro e w1 ⟨rfl, b1⟩)
  go_ret
  exact ⟨rfl, b1⟩
end Go.Proofs.YtfhakailbikjkaaDoor
/- A token's variable in memory. No conditions. -/
namespace Go.Proofs.YtfhakailbikjkaaDoor
open Go.RowKit
set_option linter.unusedVariables false

/-- A token's variable that may be written. -/
def FreeTok (w : World) (b : Nat) (k : Int) (t : ByteArray) (l : Int) : Prop := (w.cell? ⟨b, 0, none⟩ = some (.int .i64 k) ∧ w.cell? ⟨b, 1, none⟩ = some (.string t) ∧ w.cell? ⟨b, 2, none⟩ = some (.int .i64 l)) ∧ w.frozen? ⟨b, 0, none⟩ = false ∧ w.frozen? ⟨b, 1, none⟩ = false ∧ w.frozen? ⟨b, 2, none⟩ = false
theorem FreeTok.lt {w : World} {b : Nat} {k l : Int} {t : ByteArray} (h : FreeTok w b k t l) : b < w.heap.size := by
  have h0 := h.1.1
  unfold World.cell? at h0
  rcases Nat.lt_or_ge b w.heap.size with h1 | h1
  · exact h1
  · exfalso; rw [Array.getElem?_eq_none h1] at h0; cases h0
theorem FreeTok.later {wa wb : World} {g : Nat} {k l : Int} {t : ByteArray} (h : FreeTok wa g k t l) (hb : Below wa.heap.size wa wb) : FreeTok wb g k t l :=
  ⟨⟨(hb.cell (p := ⟨g, 0, none⟩) h.lt).trans h.1.1, (hb.cell (p := ⟨g, 1, none⟩) h.lt).trans h.1.2.1, (hb.cell (p := ⟨g, 2, none⟩) h.lt).trans h.1.2.2⟩,
   (hb.frozen (p := ⟨g, 0, none⟩) h.lt).trans h.2.1, (hb.frozen (p := ⟨g, 1, none⟩) h.lt).trans h.2.2.1, (hb.frozen (p := ⟨g, 2, none⟩) h.lt).trans h.2.2.2⟩
theorem FreeTok.new (W : World) (k : Int) (t : ByteArray) (l : Int) (T : TypeId) : FreeTok (W.alloc (.cells #[.int .i64 k, .string t, .int .i64 l] T)) W.heap.size k t l := by
  refine ⟨⟨?_, ?_, ?_⟩, ?_, ?_, ?_⟩ <;> go_simp
theorem below_store3 {B g : Nat} {w wa : World} (h : Below B w wa) (hg : B ≤ g) (x y z : Value) : Below B w (((wa.setCell ⟨g, 0, none⟩ x).setCell ⟨g, 1, none⟩ y).setCell ⟨g, 2, none⟩ z) :=
  ((h.setCell hg x).setCell hg y).setCell hg z
end Go.Proofs.YtfhakailbikjkaaDoor
/- The sentinel of a bad escape, and errors.Is on it and on nil. No conditions beside what the variable holds. -/
namespace Go.Proofs.YtfhakailbikjkaaDoor
open Go.RowKit Go.Extern.Stop Go.Stop Go.Extern
set_option linter.unusedVariables false

/-- The variable holds a pointer to an error of errors.New's make. -/
def SentAt (a : Addr) (W : World) : Prop := W.cell? ⟨0, 0, none⟩ = some (.iface 92 (.pointer (some a)))
def Sent (W : World) : Prop := ∃ a, SentAt a W
theorem sentAt_lt {a : Addr} {W : World} (h : SentAt a W) : 0 < W.heap.size := by
  unfold SentAt World.cell? at h
  rcases Nat.lt_or_ge 0 W.heap.size with h1 | h1
  · exact h1
  · exfalso
    rw [Array.getElem?_eq_none h1] at h
    cases h
theorem sentAt_below {a : Addr} {W w : World} (h : SentAt a W) (hb : Below W.heap.size W w) : SentAt a w := (hb.cell (p := ⟨0, 0, none⟩) (sentAt_lt h)).trans h

theorem call_type (v : Value) (w : World) : (callFunc 74 #[.iface 92 v]).run Tryd.prog w = .ok (.value (.iface 82 (.agg #[.pointer (some ⟨2, 92, none⟩)]))) w := by kernel_rfl
theorem call_comp (w : World) : (callFunc 97 #[.agg #[.pointer (some ⟨2, 92, none⟩)]]).run Tryd.prog w = .ok (.value (.bool true)) w := by kernel_rfl
theorem meth_comp (n : Nat) (v : Value) (w : World) : (Go.method (n + 1) 82 v "Comparable").run Tryd.prog w = .ok (97, v) w := by kernel_rfl
theorem comp_at : (Tryd.prog.info? 92).map (·.comparable) = some true := by kernel_rfl
theorem size_at : (Tryd.prog.info? 117).map (·.size) = some 1 := by kernel_rfl

/-- errors.Is(nil, x) is false. -/
theorem is_nil (b : Addr) (w : World) :
    Calls Tryd.prog 68 #[.nilIface, .iface 92 (.pointer (some b))] w fun e w' => e = .returned (.bool false) ∧ w = w' := by
  have hn := run_eql_iface_nil_left (P := Tryd.prog) w 92 (.pointer (some b)) Tryd.underlying69
  go_enter Tryd.func68, Tryd.ntmps68
  go_wp2
  go_ret
  exact ⟨rfl, rfl⟩
set_option maxRecDepth 100000 in
/-- errors.Is(x, x) is true. -/
theorem is_same (a : Addr) (w : World) :
    Calls Tryd.prog 68 #[.iface 92 (.pointer (some a)), .iface 92 (.pointer (some a))] w fun e w' => e = .returned (.bool true) ∧ w = w' := by
  obtain ⟨i, hi, hcmp⟩ := Option.map_eq_some_iff.1 comp_at
  obtain ⟨j, hj, hjs⟩ := Option.map_eq_some_iff.1 size_at
  have h8 := call_type
  have h32 := call_comp
  have mR := meth_comp
  have heq := run_eql_iface_ptr_same (P := Tryd.prog) w a Tryd.underlying69 Tryd.underlying92 hi hcmp hj
  go_enter Tryd.func68, Tryd.ntmps68
  go_wp2
  refine wp_loop_rounds 1 ?_
  rw [rounds_succ]
  go_wp2
  go_ret
  exact ⟨rfl, rfl⟩
end Go.Proofs.YtfhakailbikjkaaDoor
/- Literals are written: what the program appends for a byte, and the reference model's hexadecimal digit. No conditions. -/
namespace Go.Proofs.YtfhakailbikjkaaDoor
open Go.RowKit
set_option linter.unusedVariables false

theorem plain_any (b : UInt8) (w : World) : Calls Tryd.prog 66 #[.int .u8 (b.toNat : Int)] w fun e w' => e = .returned (.bool (Lt.plain b)) ∧ w = w' := by
  cases hp : Lt.plain b
  · rcases (Lt.plain_no b).1 hp with h | h
    · have h1 : (b.toNat : Int) < 32 := by omega
      clear hp h
      go_enter Tryd.func66, Tryd.ntmps66
      go_wp2
      go_ret
      exact ⟨rfl, rfl⟩
    · have h1 : decide ((b.toNat : Int) ≤ 126) = false := by simp; omega
      have h2 : (32 : Int) ≤ b.toNat := by omega
      clear hp h
      go_enter Tryd.func66, Tryd.ntmps66
      go_wp2
      go_ret
      exact ⟨rfl, rfl⟩
  · obtain ⟨h1, h2⟩ := (Lt.plain_iff b).1 hp
    have h3 : (b.toNat : Int) ≤ 126 := by omega
    have h4 : (32 : Int) ≤ b.toNat := by omega
    clear hp h1 h2
    go_enter Tryd.func66, Tryd.ntmps66
    go_wp2
    go_ret
    exact ⟨rfl, rfl⟩
/-- A byte's part of a literal is appended. -/
def RetEl (base : Nat) (w : World) (m : List UInt8) (e : Ending) (w' : World) : Prop := ∃ v', e = .returned v' ∧ Own8 w' base v' m ∧ Below base w w'

theorem ne_int {a b : UInt8} (h : a ≠ b) : ((a.toNat : Int) == (b.toNat : Int)) = false := by
  have := Lt.ne_nat h
  simp; omega
/-- The digits. -/
def hexS : ByteArray := ⟨#[48, 49, 50, 51, 52, 53, 54, 55, 56, 57, 97, 98, 99, 100, 101, 102]⟩
theorem hexS_at (n : Nat) (h : n < 16) : hexS[n]'h = Lt.hexC n := by
  have h2 : ∀ k : Fin 16, hexS[k.val]'k.isLt = Lt.hexC k.val := by decide
  exact h2 ⟨n, h⟩

end Go.Proofs.YtfhakailbikjkaaDoor
/- Escapes are read: the program's readHex and readEscape. No conditions beside what the variable holds. -/
namespace Go.Proofs.YtfhakailbikjkaaDoor
open Go.RowKit
set_option linter.unusedVariables false

/-- What an escape gives: a byte and the rest and nil, or the sentinel. -/
def escE (a : Addr) : Option (UInt8 × List UInt8) → Ending
  | none => .returned (.tuple #[.int .u8 0, .string ByteArray.empty, .iface 92 (.pointer (some a))])
  | some (b, r) => .returned (.tuple #[.int .u8 (b.toNat : Int), .string (str8 r), .nilIface])
def RetEsc (a : Addr) (w : World) (o : Option (UInt8 × List UInt8)) (e : Ending) (w' : World) : Prop := e = escE a o ∧ Below w.heap.size w w'
/-- A hexadecimal digit's value as an integer. -/
def hexI (b : UInt8) : Int := match Lt.hexN b with
  | some n => n
  | none => -1
theorem hexI_all : ∀ k : Fin 256, Lib.indexByte [48, 49, 50, 51, 52, 53, 54, 55, 56, 57, 97, 98, 99, 100, 101, 102] (UInt8.ofNat k.val) = hexI (UInt8.ofNat k.val) := by decide +kernel
theorem hexI_at (b : UInt8) : Lib.indexByte [48, 49, 50, 51, 52, 53, 54, 55, 56, 57, 97, 98, 99, 100, 101, 102] b = hexI b := by
  have h := hexI_all ⟨b.toNat, UInt8.toNat_lt b⟩
  simpa using h
theorem idx_any (b : UInt8) (w : World) : Calls Tryd.prog 76 #[.string ⟨#[48, 49, 50, 51, 52, 53, 54, 55, 56, 57, 97, 98, 99, 100, 101, 102]⟩, .int .u8 (b.toNat : Int)] w fun e w' => e = .returned (.int .i64 (hexI b)) ∧ w = w' := by
  refine (Tryd.strings_IndexByte ⟨#[48, 49, 50, 51, 52, 53, 54, 55, 56, 57, 97, 98, 99, 100, 101, 102]⟩ (b.toNat : Int) w).mono fun e w' ⟨h1, h2⟩ => ⟨?_, h2.symm⟩
  rw [h1]
  have e1 : ((b.toNat : Int)).toNat.toUInt8 = b := by simp
  rw [e1]
  exact congrArg (fun z => Ending.returned (.int .i64 z)) (hexI_at b)
theorem hexI_some {b : UInt8} {n : Nat} (h : Lt.hexN b = some n) : hexI b = n := by unfold hexI; rw [h]
theorem hexI_none {b : UInt8} (h : Lt.hexN b = none) : hexI b = -1 := by unfold hexI; rw [h]

theorem str_len {x : ByteArray} {R : List UInt8} (hx : x = str8 R) : x.size = R.length := by rw [hx, str8_size]
theorem str_at {x : ByteArray} {R : List UInt8} (hx : x = str8 R) (k : Nat) (h : k < x.size) (h2 : k < R.length) : x[k] = R[k] := by
  subst hx; rfl
theorem str_cut {x : ByteArray} {R : List UInt8} (hx : x = str8 R) (k : Nat) : x.extract k x.size = str8 (R.drop k) := by
  subst hx
  have h : ((str8 R).extract k (str8 R).size).data.toList = R.drop k := by
    simp only [ByteArray.data_extract, Array.toList_extract, List.extract_eq_take_drop]
    rw [str8_size]
    show ((R.drop k).take (R.length - k)) = _
    rw [List.take_of_length_le (by rw [List.length_drop]; exact Nat.le_refl _)]
  exact str8_inj h

set_option maxRecDepth 100000 in
set_option maxHeartbeats 800000 in
theorem read_hex (a : Addr) (R : List UInt8) (w : World) (hS : SentAt a w) (hl : (R.length : Int) ≤ 10000000) : Calls Tryd.prog 73 #[.string (str8 R)] w (RetEsc a w (Lt.esc (120 :: R))) := by
  unfold RetEsc
  obtain ⟨x, hx⟩ : ∃ x, x = str8 R := ⟨_, rfl⟩
  rw [← hx]
  have hz := str_len hx
  unfold SentAt at hS
  by_cases h2 : R.length < 2
  · have e : Lt.esc (120 :: R) = none := by
      rcases R with _ | ⟨b, _ | ⟨c, R⟩⟩
      · simp [Lt.esc]
      · simp [Lt.esc]
      · simp at h2; omega
    rw [e]
    have hs : (x.size : Int) < 2 := by omega
    clear hz h2 hx e hl
    go_enter Tryd.func73, Tryd.ntmps73
    go_wp2
    go_quiet (fail)
    go_wp2
    exact bodyPost_ret (v := .tuple #[.int .u8 0, .string ByteArray.empty, .iface 92 (.pointer (some a))]) (by simp [results, Tryd.results73, go_sem]; rfl) rfl ⟨rfl, drewN8 (Below.refl _ _) _⟩
  · obtain ⟨h, l, r, rfl⟩ : ∃ h l r, R = h :: l :: r := by
      rcases R with _ | ⟨b, _ | ⟨c, R⟩⟩
      · simp at h2
      · simp at h2
      · exact ⟨b, c, R, rfl⟩
    have hs : (2 : Int) ≤ x.size := by rw [hz]; simp; omega
    have i0 : (0 : Int) < x.size := by omega
    have i1 : (1 : Int) < x.size := by omega
    have j0 : 0 < x.size := by omega
    have j1 : 1 < x.size := by omega
    have x0 : x[0] = h := str_at hx 0 j0 (by simp)
    have x1 : x[1] = l := str_at hx 1 j1 (by simp)
    have xc : x.extract 2 x.size = str8 r := str_cut hx 2
    cases eh : Lt.hexN h with
    | none =>
      have e : Lt.esc (120 :: h :: l :: r) = none := by simp [Lt.esc, eh]
      rw [e]
      have H1 := Lib.hid (fun W => idx_any h W)
      rw [hexI_none eh] at H1
      have H2 := Lib.hid (fun W => idx_any l W)
      generalize hexI l = y at H2
      clear hz hx e hl eh
      go_enter Tryd.func73, Tryd.ntmps73
      go_wp2_with fail
      refine (H1.out _).mono ?_
      rintro e w1 ⟨rfl, rfl⟩
      go_wp2_with fail
      refine (H2.out _).mono ?_
      rintro e w1 ⟨rfl, rfl⟩
      go_wp2_with fail
      go_quiet (fail)
      go_wp2
      exact bodyPost_ret (v := .tuple #[.int .u8 0, .string ByteArray.empty, .iface 92 (.pointer (some a))]) (by simp [results, Tryd.results73, go_sem]; rfl) rfl ⟨rfl, drewN8 (Below.refl _ _) _⟩
    | some n =>
      have n16 := Lt.hexN_lt eh
      have H1 := Lib.hid (fun W => idx_any h W)
      rw [hexI_some eh] at H1
      have H2 := Lib.hid (fun W => idx_any l W)
      cases el : Lt.hexN l with
      | none =>
        have e : Lt.esc (120 :: h :: l :: r) = none := by simp [Lt.esc, eh, el]
        rw [e]
        rw [hexI_none el] at H2
        clear hz hx e hl eh el
        go_enter Tryd.func73, Tryd.ntmps73
        go_wp2_with fail
        refine (H1.out _).mono ?_
        rintro e w1 ⟨rfl, rfl⟩
        go_wp2_with fail
        refine (H2.out _).mono ?_
        rintro e w1 ⟨rfl, rfl⟩
        go_wp2_with fail
        go_quiet (fail)
        go_wp2
        exact bodyPost_ret (v := .tuple #[.int .u8 0, .string ByteArray.empty, .iface 92 (.pointer (some a))]) (by simp [results, Tryd.results73, go_sem]; rfl) rfl ⟨rfl, drewN8 (Below.refl _ _) _⟩
      | some m =>
        have m16 := Lt.hexN_lt el
        have e : Lt.esc (120 :: h :: l :: r) = some (UInt8.ofNat (16 * n + m), r) := by simp [Lt.esc, eh, el]
        rw [e]
        rw [hexI_some el] at H2
        obtain ⟨b, hb⟩ : ∃ b, b = UInt8.ofNat (16 * n + m) := ⟨_, rfl⟩
        have hbn : b.toNat = 16 * n + m := by rw [hb, UInt8.toNat_ofNat']; omega
        rw [← hb]
        have HBN := Lib.hid (show (b.toNat : Int) = (n : Int) * 16 + m by omega)
        have e1 : IntKind.i64.wrap ((n : Int) * 16) = (n : Int) * 16 := IntWalk.i64_in _ (by omega)
        have e2 : IntKind.i64.wrap ((n : Int) * 16 + m) = (n : Int) * 16 + m := IntWalk.i64_in _ (by omega)
        have e3 : IntKind.u8.wrap ((n : Int) * 16 + m) = (n : Int) * 16 + m := by simp [IntKind.wrap, IntKind.signed, IntKind.bits]; omega
        have p1 : (0 : Int) ≤ n := by omega
        have p2 : (0 : Int) ≤ m := by omega
        clear hz hx e hl eh el hb hbn
        go_enter Tryd.func73, Tryd.ntmps73
        go_wp2_with fail
        refine (H1.out _).mono ?_
        rintro e w1 ⟨rfl, rfl⟩
        go_wp2_with fail
        refine (H2.out _).mono ?_
        rintro e w1 ⟨rfl, rfl⟩
        go_wp2_with fail
        go_quiet (fail)
        go_wp2
        exact bodyPost_ret (v := .tuple #[.int .u8 (b.toNat : Int), .string (str8 r), .nilIface]) (by rw [HBN.out]; simp [results, Tryd.results73, go_sem]) rfl ⟨rfl, drewN8 (Below.refl _ _) _⟩

/-- The cases of an escape. -/
theorem esc_cases (R : List UInt8) : (R = [] ∧ Lt.esc R = none) ∨ ∃ c r, R = c :: r ∧
    ((c = 110 ∧ Lt.esc R = some (10, r)) ∨ (c = 116 ∧ Lt.esc R = some (9, r)) ∨ (c = 92 ∧ Lt.esc R = some (c, r)) ∨ (c = 34 ∧ Lt.esc R = some (c, r)) ∨ (c = 39 ∧ Lt.esc R = some (c, r)) ∨ c = 120
      ∨ (c ≠ 110 ∧ c ≠ 116 ∧ c ≠ 92 ∧ c ≠ 34 ∧ c ≠ 39 ∧ c ≠ 120 ∧ Lt.esc R = none)) := by
  rcases R with _ | ⟨c, r⟩
  · left; exact ⟨rfl, by simp [Lt.esc]⟩
  · right
    refine ⟨c, r, rfl, ?_⟩
    by_cases h1 : c = 110
    · left; exact ⟨h1, by simp [Lt.esc, h1]⟩
    · by_cases h2 : c = 116
      · right; left; exact ⟨h2, by simp [Lt.esc, h2]⟩
      · by_cases h3 : c = 92
        · right; right; left; exact ⟨h3, by simp [Lt.esc, h3]⟩
        · by_cases h4 : c = 34
          · right; right; right; left; exact ⟨h4, by simp [Lt.esc, h4]⟩
          · by_cases h5 : c = 39
            · right; right; right; right; left; exact ⟨h5, by simp [Lt.esc, h5]⟩
            · by_cases h6 : c = 120
              · right; right; right; right; right; left; exact h6
              · right; right; right; right; right; right
                exact ⟨h1, h2, h3, h4, h5, h6, by simp [Lt.esc, h1, h2, h3, h4, h5, h6]⟩

set_option maxRecDepth 100000 in
set_option maxHeartbeats 800000 in
theorem read_esc (a : Addr) (R : List UInt8) (w : World) (hS : SentAt a w) (hl : (R.length : Int) ≤ 10000000) : Calls Tryd.prog 67 #[.string (str8 R)] w (RetEsc a w (Lt.esc R)) := by
  unfold RetEsc
  obtain ⟨x, hx⟩ : ∃ x, x = str8 R := ⟨_, rfl⟩
  rw [← hx]
  have hz := str_len hx
  have HS := Lib.hid hS
  rcases esc_cases R with ⟨rfl, e⟩ | ⟨c, r, rfl, hc⟩
  · rw [e]
    have c1 : x.toList = [] := by rw [ByteArray.toList_eq]; exact List.length_eq_zero_iff.1 (by show x.size = 0; rw [hz]; rfl)
    have c2 : x.toList.isEmpty = true := by rw [c1]; rfl
    unfold SentAt at hS
    clear hz hx e hl HS
    go_enter Tryd.func67, Tryd.ntmps67
    go_wp2
    go_quiet (fail)
    go_wp2
    exact bodyPost_ret (v := .tuple #[.int .u8 0, .string ByteArray.empty, .iface 92 (.pointer (some a))]) (by simp [results, Tryd.results67, go_sem]; rfl) rfl ⟨rfl, drewN8 (Below.refl _ _) _⟩
  · have j0 : 0 < x.size := by rw [hz]; simp
    have i0 : (0 : Int) < x.size := by omega
    have i1 : (1 : Int) ≤ x.size := by omega
    have c1 : ¬ x.toList = [] := by rw [ByteArray.toList_eq]; intro h; have h3 : x.data.toList.length = x.size := rfl; rw [h, List.length_nil] at h3; omega
    have c2 : x.toList.isEmpty = false := by simpa using c1
    have x0 : x[0] = c := str_at hx 0 j0 (by simp)
    have xc : x.extract 1 x.size = str8 r := str_cut hx 1
    have hl2 : (r.length : Int) ≤ 10000000 := by simp at hl; omega
    unfold SentAt at hS
    clear hz hx hl
    rcases hc with ⟨h, e⟩ | ⟨h, e⟩ | ⟨h, e⟩ | ⟨h, e⟩ | ⟨h, e⟩ | h | ⟨h1, h2, h3, h4, h5, h6, e⟩
    · rw [e]
      have t110 : ((c.toNat : Int) == 110) = true := by rw [h]; rfl
      clear h e HS hS
      go_enter Tryd.func67, Tryd.ntmps67
      go_wp2_with fail
      go_quiet (fail)
      go_wp2
      exact bodyPost_ret (v := .tuple #[.int .u8 10, .string (str8 r), .nilIface]) (by simp [results, Tryd.results67, go_sem]) rfl ⟨rfl, drewN8 (Below.refl _ _) _⟩
    · rw [e]
      have t110 : ((c.toNat : Int) == 110) = false := by rw [h]; rfl
      have t116 : ((c.toNat : Int) == 116) = true := by rw [h]; rfl
      clear h e HS hS
      go_enter Tryd.func67, Tryd.ntmps67
      go_wp2_with fail
      go_quiet (fail)
      go_wp2
      exact bodyPost_ret (v := .tuple #[.int .u8 9, .string (str8 r), .nilIface]) (by simp [results, Tryd.results67, go_sem]) rfl ⟨rfl, drewN8 (Below.refl _ _) _⟩
    · rw [e]
      have t110 : ((c.toNat : Int) == 110) = false := by rw [h]; rfl
      have t116 : ((c.toNat : Int) == 116) = false := by rw [h]; rfl
      have t92 : ((c.toNat : Int) == 92) = true := by rw [h]; rfl
      clear h e HS hS
      go_enter Tryd.func67, Tryd.ntmps67
      go_wp2_with fail
      go_quiet (fail)
      go_wp2
      exact bodyPost_ret (v := .tuple #[.int .u8 (c.toNat : Int), .string (str8 r), .nilIface]) (by simp [results, Tryd.results67, go_sem]) rfl ⟨rfl, drewN8 (Below.refl _ _) _⟩
    · rw [e]
      have t110 : ((c.toNat : Int) == 110) = false := by rw [h]; rfl
      have t116 : ((c.toNat : Int) == 116) = false := by rw [h]; rfl
      have t92 : ((c.toNat : Int) == 92) = false := by rw [h]; rfl
      have t34 : ((c.toNat : Int) == 34) = true := by rw [h]; rfl
      clear h e HS hS
      go_enter Tryd.func67, Tryd.ntmps67
      go_wp2_with fail
      go_quiet (fail)
      go_wp2
      exact bodyPost_ret (v := .tuple #[.int .u8 (c.toNat : Int), .string (str8 r), .nilIface]) (by simp [results, Tryd.results67, go_sem]) rfl ⟨rfl, drewN8 (Below.refl _ _) _⟩
    · rw [e]
      have t110 : ((c.toNat : Int) == 110) = false := by rw [h]; rfl
      have t116 : ((c.toNat : Int) == 116) = false := by rw [h]; rfl
      have t92 : ((c.toNat : Int) == 92) = false := by rw [h]; rfl
      have t34 : ((c.toNat : Int) == 34) = false := by rw [h]; rfl
      have t39 : ((c.toNat : Int) == 39) = true := by rw [h]; rfl
      clear h e HS hS
      go_enter Tryd.func67, Tryd.ntmps67
      go_wp2_with fail
      go_quiet (fail)
      go_wp2
      exact bodyPost_ret (v := .tuple #[.int .u8 (c.toNat : Int), .string (str8 r), .nilIface]) (by simp [results, Tryd.results67, go_sem]) rfl ⟨rfl, drewN8 (Below.refl _ _) _⟩
    · have HR := Lib.hid (fun W hW => read_hex a r W hW hl2)
      rw [← h] at HR
      unfold RetEsc at HR
      have t110 : ((c.toNat : Int) == 110) = false := by rw [h]; rfl
      have t116 : ((c.toNat : Int) == 116) = false := by rw [h]; rfl
      have t92 : ((c.toNat : Int) == 92) = false := by rw [h]; rfl
      have t34 : ((c.toNat : Int) == 34) = false := by rw [h]; rfl
      have t39 : ((c.toNat : Int) == 39) = false := by rw [h]; rfl
      have t120 : ((c.toNat : Int) == 120) = true := by rw [h]; rfl
      clear h hS
      cases ho : Lt.esc (c :: r) with
      | none =>
        rw [ho] at HR
        clear ho
        unfold escE at HR ⊢
        go_enter Tryd.func67, Tryd.ntmps67
        go_wp2_with fail
        go_quiet (fail)
        go_wp2_with fail
        refine (HR.out _ ?hs).mono ?_
        case hs => exact sentAt_below HS.out (drewN8 (Below.refl _ _) _)
        rintro e w2 ⟨rfl, hb2⟩
        have HB := Lib.hid (below_then (drewN8 (Below.refl w.heap.size w) _) hb2)
        clear hb2
        go_wp2
        exact bodyPost_ret (v := .tuple #[.int .u8 0, .string ByteArray.empty, .iface 92 (.pointer (some a))]) (by simp [results, Tryd.results67, go_sem]) rfl ⟨rfl, HB.out⟩
      | some y =>
        obtain ⟨b, q⟩ := y
        rw [ho] at HR
        clear ho
        unfold escE at HR ⊢
        go_enter Tryd.func67, Tryd.ntmps67
        go_wp2_with fail
        go_quiet (fail)
        go_wp2_with fail
        refine (HR.out _ ?ht).mono ?_
        case ht => exact sentAt_below HS.out (drewN8 (Below.refl _ _) _)
        rintro e w2 ⟨rfl, hb2⟩
        have HB := Lib.hid (below_then (drewN8 (Below.refl w.heap.size w) _) hb2)
        clear hb2
        go_wp2
        exact bodyPost_ret (v := .tuple #[.int .u8 (b.toNat : Int), .string (str8 q), .nilIface]) (by simp [results, Tryd.results67, go_sem]) rfl ⟨rfl, HB.out⟩
    · rw [e]
      have t110 : ((c.toNat : Int) == 110) = false := ne_int (b := 110) h1
      have t116 : ((c.toNat : Int) == 116) = false := ne_int (b := 116) h2
      have t92 : ((c.toNat : Int) == 92) = false := ne_int (b := 92) h3
      have t34 : ((c.toNat : Int) == 34) = false := ne_int (b := 34) h4
      have t39 : ((c.toNat : Int) == 39) = false := ne_int (b := 39) h5
      have t120 : ((c.toNat : Int) == 120) = false := ne_int (b := 120) h6
      clear h1 h2 h3 h4 h5 h6 e HS
      go_enter Tryd.func67, Tryd.ntmps67
      go_wp2_with fail
      go_quiet (fail)
      go_wp2
      go_quiet (fail)
      go_wp2
      exact bodyPost_ret (v := .tuple #[.int .u8 0, .string ByteArray.empty, .iface 92 (.pointer (some a))]) (by simp [results, Tryd.results67, go_sem]; rfl) rfl ⟨rfl, drewN8 (drewN8 (Below.refl _ _) _) _⟩
end Go.Proofs.YtfhakailbikjkaaDoor
/- What a literal denotes: the program's unquote. No conditions beside what the variable holds. -/
namespace Go.Proofs.YtfhakailbikjkaaDoor
open Go.RowKit
set_option linter.unusedVariables false

theorem ret_tb {s s' : ByteArray} {b b' : Bool} (h : s = s') (h2 : b = b') : Ending.returned (.tuple #[.string s, .bool b]) = .returned (.tuple #[.string s', .bool b']) := by rw [h, h2]
/-- A call that returns a text and a bool, and makes memory alone. -/
def RetLit (w : World) (d : UInt8) (S : List UInt8) (e : Ending) (w' : World) : Prop := e = .returned (.tuple #[.string (str8 (Lt.litL d S)), .bool (Lt.litB d S)]) ∧ Below w.heap.size w w'
theorem lit_no {d : UInt8} {S : List UInt8} (h : Lt.lit d S = none) : Ending.returned (.tuple #[.string ByteArray.empty, .bool false]) = .returned (.tuple #[.string (str8 (Lt.litL d S)), .bool (Lt.litB d S)]) := by
  rw [(Lt.lit_none h).1, (Lt.lit_none h).2]; rfl
theorem lit_yes {d : UInt8} {S A : List UInt8} (h : Lt.lit d S = some A) : Ending.returned (.tuple #[.string (str8 A), .bool true]) = .returned (.tuple #[.string (str8 (Lt.litL d S)), .bool (Lt.litB d S)]) := by
  rw [(Lt.lit_some h).1, (Lt.lit_some h).2]
/-- The first byte and the last. -/
theorem lit_cases (d : UInt8) (s : ByteArray) : (s.size < 2 ∧ Lt.lit d s.data.toList = none)
    ∨ (∃ n, ∃ h : s.size = n + 1, 1 ≤ n ∧ ((s[0] ≠ d ∧ Lt.lit d s.data.toList = none) ∨ (s[0] = d ∧ s[n] ≠ d ∧ Lt.lit d s.data.toList = none)
      ∨ (s[0] = d ∧ s[n] = d ∧ s.data.toList.getLast? = some d ∧ Lt.lit d s.data.toList = Lt.uq d (s.data.toList.drop 1).dropLast))) := by
  have hl := len8 s
  by_cases h2 : s.size < 2
  · left
    refine ⟨h2, ?_⟩
    unfold Lt.lit
    rw [if_pos (.inl (by omega))]
  · right
    refine ⟨s.size - 1, by omega, by omega, ?_⟩
    have k0 : 0 < s.data.toList.length := by omega
    have k1 : s.size - 1 < s.data.toList.length := by omega
    have eh : s.data.toList.head? = some (s[0]'(by omega)) := by rw [List.head?_eq_getElem?, List.getElem?_eq_getElem k0]; rfl
    have el : s.data.toList.getLast? = some (s[s.size - 1]'(by omega)) := by rw [List.getLast?_eq_getElem?, hl, List.getElem?_eq_getElem k1]; rfl
    by_cases e0 : s[0]'(by omega) = d
    · by_cases e1 : s[s.size - 1]'(by omega) = d
      · right; right
        refine ⟨e0, e1, by rw [el, e1], ?_⟩
        unfold Lt.lit
        rw [if_neg (by rw [eh, el, e0, e1]; simp; omega)]
      · right; left
        refine ⟨e0, e1, ?_⟩
        unfold Lt.lit
        rw [if_pos (.inr (.inr (by rw [el]; simpa using e1)))]
    · left
      refine ⟨e0, ?_⟩
      unfold Lt.lit
      rw [if_pos (.inr (.inl (by rw [eh]; simpa using e0)))]
theorem cut_mid (s : ByteArray) (n : Nat) (h : s.size = n + 1) : s.extract 1 n = str8 (s.data.toList.drop 1).dropLast := by
  apply str8_inj
  have hl := len8 s
  simp only [ByteArray.data_extract, Array.toList_extract, List.extract_eq_take_drop]
  rw [List.dropLast_eq_take, List.length_drop, hl, h]
  rfl
theorem step_eq (d b : UInt8) (r : List UInt8) : Lt.step d (b :: r) = if b = d ∨ Lt.plain b = false then none else if b = 92 then Lt.esc r else some (b, r) := by simp [Lt.step]
/-- The state of the loop. -/
def UAt (w : World) (d : UInt8) (L R A : List UInt8) (v : Value) (wr : World) : Prop := Own8 wr w.heap.size v A ∧ Lt.Rd d L A R ∧ A.length + R.length ≤ L.length ∧ Below w.heap.size w wr
theorem UAt.next {w wr w2 : World} {d b : UInt8} {L R A r : List UInt8} {v v2 : Value} (h : Hid (UAt w d L R A v wr)) (hs : Lt.step d R = some (b, r)) (ho : Hid (Own8 w2 w.heap.size v2 (A ++ [b]))) (h2 : Hid (Below w.heap.size wr w2)) : UAt w d L r (A ++ [b]) v2 w2 := by
  have h3 := Lt.step_len hs
  have h4 := h.out.2.2.1
  refine ⟨ho.out, Lt.rd_next h.out.2.1 hs, ?_, h.out.2.2.2.trans h2.out⟩
  rw [List.length_append, List.length_singleton]; omega

theorem unq_no (d : UInt8) (s : ByteArray) (w : World) (hs : (s.size : Int) ≤ 1048576) (h : (s.size < 2 ∧ Lt.lit d s.data.toList = none) ∨ ∃ n, ∃ h : s.size = n + 1, 1 ≤ n ∧ ((s[0] ≠ d ∧ Lt.lit d s.data.toList = none) ∨ (s[0] = d ∧ s[n] ≠ d ∧ Lt.lit d s.data.toList = none))) :
    Calls Tryd.prog 62 #[.string s, .int .u8 (d.toNat : Int)] w (RetLit w d s.data.toList) := by
  unfold RetLit
  rcases h with ⟨h2, e⟩ | ⟨n, hn, h1, ⟨h2, e⟩ | ⟨h2, h3, e⟩⟩
  · have HL := Lib.hid (lit_no e)
    have t1 : (s.size : Int) < 2 := by omega
    clear e h2
    go_enter Tryd.func62, Tryd.ntmps62
    go_wp2
    go_ret2
    exact ⟨HL.out, Below.refl _ _⟩
  · have HL := Lib.hid (lit_no e)
    have t1 : ¬ (s.size : Int) < 2 := by omega
    have t0 : (0 : Int) < s.size := by omega
    have j0 : 0 < s.size := by omega
    have t2 : ((s[0].toNat : Int) == (d.toNat : Int)) = false := ne_int h2
    have t3 : ((s[0].toNat : Int) != (d.toNat : Int)) = true := by simp only [bne, t2]; rfl
    clear e h2 h1
    clear hn
    go_enter Tryd.func62, Tryd.ntmps62
    go_wp2
    go_ret2
    exact ⟨HL.out, Below.refl _ _⟩
  · have HL := Lib.hid (lit_no e)
    have t1 : ¬ ((n : Int) + 1) < 2 := by omega
    have t2 : ((s[0].toNat : Int) == (d.toNat : Int)) = true := by rw [h2]; simp
    have t3 : ((s[0].toNat : Int) != (d.toNat : Int)) = false := by simp only [bne, t2]; rfl
    have t4 : ((s[n].toNat : Int) == (d.toNat : Int)) = false := ne_int h3
    have t5 : ((s[n].toNat : Int) != (d.toNat : Int)) = true := by simp only [bne, t4]; rfl
    clear e h2 h3
    go_enter Tryd.func62, Tryd.ntmps62
    go_wp2
    go_ret2
    exact ⟨HL.out, Below.refl _ _⟩
end Go.Proofs.YtfhakailbikjkaaDoor
