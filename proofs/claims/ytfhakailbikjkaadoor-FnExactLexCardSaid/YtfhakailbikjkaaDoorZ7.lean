/- Joined texts: W3, I1, I2, K6, K7, K8. No conditions besides those that each states. -/
import Derived.Test.YtfhakailbikjkaaDoorShelf
import Derived.Lib.TrimByte
import Derived.Test.YtfhakailbikjkaaDoorZ1
import Derived.Test.YtfhakailbikjkaaDoorZ2
import Derived.Test.YtfhakailbikjkaaDoorZ3
import Derived.Test.YtfhakailbikjkaaDoorZ4
import Derived.Test.YtfhakailbikjkaaDoorZ6
/- The program's digitsValue and parseDigits: what they answer at every string, for at most 12 digits. -/
namespace Go.Proofs.YtfhakailbikjkaaDoor
open Go.RowKit

theorem tl (s : ByteArray) : s.toList = s.data.toList := ByteArray.toList_eq s
theorem get_eq (s : ByteArray) (k : Nat) (h : k < s.size) : s[k] = s.data.toList[k]'h := rfl

theorem head_eq (s : ByteArray) (h : 0 < s.size) (b : UInt8) : s.data.toList.head? = some b ↔ (s[0].toNat : Int) = (b.toNat : Int) := by
  rw [get_eq s 0 h, List.head?_eq_getElem?, List.getElem?_eq_getElem (by have := size_eq s; omega)]
  simp [← UInt8.toNat_inj]
  omega


/-- The first k letters are digits. -/
def DigTo (s : ByteArray) (k : Nat) : Prop := (s.data.toList.take k).all Dec.isDig = true


/-- A letter is a digit, or lies below, or above. -/
theorem dig_cases (b : UInt8) : (Dec.isDig b = true ∧ (48 : Int) ≤ (b.toNat : Int) ∧ (b.toNat : Int) ≤ 57) ∨ (Dec.isDig b = false ∧ (b.toNat : Int) < 48) ∨ (Dec.isDig b = false ∧ (48 : Int) ≤ (b.toNat : Int) ∧ (57 : Int) < (b.toNat : Int)) := by
  by_cases h : Dec.isDig b = true
  · have := Dec.isDig_le h; exact .inl ⟨h, by omega, by omega⟩
  · have h1 : Dec.isDig b = false := by simpa using h
    have h2 : ¬ (48 ≤ b.toNat ∧ b.toNat ≤ 57) := by simpa [Dec.isDig] using h
    rcases Nat.lt_or_ge b.toNat 48 with h3 | h3
    · exact .inr (.inl ⟨h1, by omega⟩)
    · exact .inr (.inr ⟨h1, by omega, by omega⟩)

/-- The answer where the letters are too many or none. -/
theorem dv_no (s : ByteArray) (m : Nat) (w : World) (hs : s.size ≤ maxLen) (h1 : (m : Int) ≤ 12) (c1 : ¬ (1 ≤ s.data.toList.length ∧ s.data.toList.length ≤ m)) :
    Calls Tryd.prog 50 #[.string s, .int .i64 m] w fun e w' => e = .returned (.tuple #[.int .i64 0, .bool false]) ∧ w = w' := by
  unfold maxLen at hs
  have hsz := size_eq s
  by_cases c2 : s.size = 0
  · have c3 : s.toList = [] := by rw [tl]; exact List.length_eq_zero_iff.1 (by omega)
    have c4 : s.toList.isEmpty = true := by rw [c3]; rfl
    clear c1 hsz
    go_enter Tryd.func50, Tryd.ntmps50
    go_wp2
    go_ret2
    exact ⟨rfl, rfl⟩
  · have c5 : (m : Int) < s.size := by omega
    have c3 : ¬ s.toList = [] := by rw [tl]; intro e; rw [e, List.length_nil] at hsz; omega
    have c4 : s.toList.isEmpty = false := by simpa using c3
    clear c1 hsz
    go_enter Tryd.func50, Tryd.ntmps50
    go_wp2
    go_ret2
    exact ⟨rfl, rfl⟩

set_option maxRecDepth 100000 in
set_option maxHeartbeats 400000 in
theorem dv_loop (s : ByteArray) (m : Nat) (w : World) (hs : s.size ≤ maxLen) (h1 : (m : Int) ≤ 12) (c0 : 0 < s.size) (c1 : (s.size : Int) ≤ m) :
    Calls Tryd.prog 50 #[.string s, .int .i64 m] w fun e w' => e = .returned (.tuple #[.int .i64 (Dec.dvv m s.data.toList), .bool (Dec.dok m s.data.toList)]) ∧ w = w' := by
  unfold maxLen at hs
  have c4 : ¬ s.toList = [] := by rw [tl]; intro e; have hsz := size_eq s; rw [e, List.length_nil] at hsz; omega
  have c5 : s.toList.isEmpty = false := by simpa using c4
  have HL := Lib.hid (size_eq s)
  have h13 : (s.size : Int) ≤ 12 := by omega
  go_enter Tryd.func50, Tryd.ntmps50
  go_wp2
  go_loop [4, 5, 6, 7, 18] (fun _ _ n _ i => ∃ k : Nat, k ≤ s.size ∧ i = .int .i64 k ∧ n = .int .i64 (Dec.val (s.data.toList.take k)) ∧ DigTo s k) (fun _ _ _ _ i => s.size - (intOf i).toNat)
  case atStart => exact ⟨0, Nat.zero_le _, rfl, rfl, rfl⟩
  case round =>
    obtain ⟨k, hk, rfl, rfl, ha⟩ := hrel
    have hb := Dec.val_take_bound (k := k) (by omega) ha
    have HA := Lib.hid ha
    clear ha
    by_cases hlt : k < s.size
    · rcases dig_cases s[k] with ⟨hd, d1, d2⟩ | ⟨hd, d1⟩ | ⟨hd, d1, d2⟩
      · have HD := Lib.hid hd
        clear hd
        go_wp2
        go_round
        case rel =>
          (repeat apply Exists.intro)
          exact ⟨⟨k + 1, by omega, by go_num, ret_val (by rw [Dec.val_take_succ (by have := HL.out; omega), ← get_eq]; omega), Dec.all_take_succ (by have := HL.out; omega) HA.out (by rw [← get_eq]; exact HD.out)⟩, rfl, rfl, rfl, rfl, rfl⟩
        case measure => simp [intOf]; omega
      · have HD := Lib.hid hd
        clear hd
        go_wp2
        go_ret2
        have hg : Dec.dok m s.data.toList = false := Dec.dok_dig (Dec.not_all (k := k) (by have := HL.out; omega) (by rw [← get_eq]; exact HD.out))
        exact ⟨ret_pair (by unfold Dec.dvv; rw [hg]; rfl) hg.symm, rfl⟩
      · have HD := Lib.hid hd
        clear hd
        go_wp2
        go_ret2
        have hg : Dec.dok m s.data.toList = false := Dec.dok_dig (Dec.not_all (k := k) (by have := HL.out; omega) (by rw [← get_eq]; exact HD.out))
        exact ⟨ret_pair (by unfold Dec.dvv; rw [hg]; rfl) hg.symm, rfl⟩
    · have hk2 : s.size ≤ k := by omega
      go_wp2
      go_ret2
      have hl := HL.out
      have ha := HA.out
      unfold DigTo at ha
      rw [List.take_of_length_le (by omega)] at ha ⊢
      have hg : Dec.dok m s.data.toList = true := Dec.dok_yes (by omega) (by omega) ha
      exact ⟨ret_pair (by unfold Dec.dvv; rw [hg]; rfl) hg.symm, rfl⟩

/-- What digitsValue answers. -/
theorem dv_any (s : ByteArray) (m : Nat) (w : World) (hs : s.size ≤ maxLen) (h1 : (m : Int) ≤ 12) :
    Calls Tryd.prog 50 #[.string s, .int .i64 m] w fun e w' => e = .returned (.tuple #[.int .i64 (Dec.dvv m s.data.toList), .bool (Dec.dok m s.data.toList)]) ∧ w = w' := by
  have hl := size_eq s
  by_cases c1 : 1 ≤ s.data.toList.length ∧ s.data.toList.length ≤ m
  · exact dv_loop s m w hs h1 (by omega) (by omega)
  · have h := dv_no s m w hs h1 c1
    have hg := Dec.dok_len c1
    have hv : Dec.dvv m s.data.toList = 0 := by unfold Dec.dvv; rw [hg]; rfl
    rw [hg, hv]; exact h

theorem head1 (s : ByteArray) (h : 1 ≤ (s.size : Int)) : (s.extract 0 1).toList = [s[0]'(by omega)] := by
  have hl := size_eq s
  obtain ⟨c, l, h2⟩ : ∃ c l, s.data.toList = c :: l := by
    cases h2 : s.data.toList with
    | nil => rw [h2, List.length_nil] at hl; omega
    | cons c l => exact ⟨c, l, rfl⟩
  have h3 : s[0]'(by omega) = c := by
    rw [get_eq s 0 (by omega)]
    have h4 := List.getElem_of_eq h2 (i := 0) (by omega)
    simpa using h4
  rw [tl, h3]
  simp only [ByteArray.data_extract, Array.toList_extract, List.extract_eq_take_drop, List.drop_zero]
  rw [h2]; rfl

/-- Does the text begin with 0? -/
def zeroB (s : ByteArray) : Bool := s.data.toList.head? == some 48
end Go.Proofs.YtfhakailbikjkaaDoor
/- IntegerOfText of the program: blanks around, a sign, up to 12 digits. No conditions. -/
namespace Go.Proofs.YtfhakailbikjkaaDoor
open Go.RowKit
set_option linter.unusedVariables false

/-- What a text without blanks around it denotes as data. -/
def itN (T : List UInt8) : Bool := T.head? == some 45
def itD (T : List UInt8) : List UInt8 := if T.head? = some 45 ∨ T.head? = some 43 then T.tail else T
def itV (T : List UInt8) : Int := if itN T = true then -Dec.dvv 12 (itD T) else Dec.dvv 12 (itD T)
def itB (T : List UInt8) : Bool := Dec.dok 12 (itD T)
theorem dvv_bound (t : List UInt8) : 0 ≤ Dec.dvv 12 t ∧ Dec.dvv 12 t < 1000000000000 := by
  unfold Dec.dvv
  split
  · rename_i h
    unfold Dec.dok at h
    simp only [Bool.and_eq_true, decide_eq_true_eq] at h
    have h1 := Dec.val_lt t h.2
    have h2 : 10 ^ t.length ≤ 10 ^ 12 := Nat.pow_le_pow_right (by omega) (by omega)
    have h3 : (10 : Nat) ^ 12 = 1000000000000 := by rfl
    omega
  · omega
theorem hasP (T : List UInt8) (c : UInt8) : Lib.hasPrefix T [c] = (T.head? == some c) := by
  unfold Lib.hasPrefix
  cases T with
  | nil => rfl
  | cons b l =>
    by_cases h : b = c
    · subst h; simp
    · have h2 : (c == b) = false := by simpa using fun e => h e.symm
      simp [List.isPrefixOf, h, h2]
theorem trimP (T : List UInt8) (c : UInt8) : Lib.trimPrefix T [c] = if T.head? = some c then T.tail else T := by
  unfold Lib.trimPrefix
  rw [hasP]
  by_cases h : T.head? = some c
  · rw [if_pos h, if_pos (by simpa using h)]; simp
  · rw [if_neg h, if_neg (by simpa using h)]
theorem str8_max {T : List UInt8} {s : ByteArray} (hs : s.size ≤ maxLen) (h : T.length ≤ s.size) : (str8 T).size ≤ maxLen := by rw [str8_size]; omega

theorem call_dig (D : List UInt8) (w : World) (hs : (D.length : Int) ≤ 1048576) : Calls Tryd.prog 50 #[.string (str8 D), .int .i64 12] w fun e w' => e = .returned (.tuple #[.int .i64 (Dec.dvv 12 D), .bool (Dec.dok 12 D)]) ∧ w = w' := by
  have h := dv_any (str8 D) 12 w (by rw [str8_size]; unfold maxLen; omega) (by omega)
  rw [str8_list] at h
  exact h
theorem trim_len (l : List UInt8) (c : UInt8) : (Lib.trimB l c).length ≤ l.length := by
  unfold Lib.trimB Lib.trimLeftB Lib.trimRightB
  have h1 := (List.dropWhile_sublist (p := (· == c)) (l := (l.reverse.dropWhile (· == c)).reverse)).length_le
  have h2 := (List.dropWhile_sublist (p := (· == c)) (l := l.reverse)).length_le
  rw [List.length_reverse] at h1 h2
  omega
/-- What IntegerOfText answers. -/
def RetIt (w : World) (T : List UInt8) (e : Ending) (w' : World) : Prop := e = .returned (.tuple #[.int .i64 (itV T), .bool (itB T)]) ∧ Below w.heap.size w w'

end Go.Proofs.YtfhakailbikjkaaDoor
/- IntegerOfText of the reference model, and the walk of the law on it. No conditions. -/
namespace Go.Proofs.YtfhakailbikjkaaDoor
open Go.RowKit
set_option linter.unusedVariables false

/-- Blanks stand from a to b. -/
def Bks (S : List UInt8) (a b : Nat) : Prop := ∀ (j : Nat) x, a ≤ j → j < b → S[j]? = some x → x = 32
theorem trim_at {S : List UInt8} {k m : Nat} (h1 : k ≤ m) (h2 : m ≤ S.length) (hk : Bks S 0 k) (hm : Bks S m S.length) (hx : ∀ x, S[k]? = some x → x ≠ 32) (hy : k < m → ∀ x, S[m - 1]? = some x → x ≠ 32) (hz : k < S.length → k < m) : Lib.trimB S 32 = (S.take m).drop k := by
  have lt : ∀ {j : Nat} {x : UInt8}, S[j]? = some x → j < S.length := fun h => (List.getElem?_eq_some_iff.1 h).1
  unfold Lib.trimB
  by_cases hl : k < S.length
  · have hkm := hz hl
    rw [Lib.trimRightB_take S 32 m h2 (fun j b hj hb => hm j b hj (lt hb) hb) (fun b _ hb => hy hkm b hb)]
    refine Lib.trimLeftB_drop _ 32 k (by rw [List.length_take]; omega) (fun j b hj hb => ?_) (fun b hb => ?_)
    · rw [List.getElem?_take_of_lt (by omega)] at hb
      exact hk j b (by omega) hj hb
    · rw [List.getElem?_take_of_lt (by omega)] at hb
      exact hx b hb
  · rw [Lib.trimRightB_take S 32 0 (by omega) (fun j b hj hb => hk j b hj (by have := lt hb; omega) hb) (fun b h0 _ => by omega)]
    rw [List.drop_eq_nil_of_le (by rw [List.length_take]; omega)]
    rfl
theorem bks_succ {S : List UInt8} {k : Nat} (h : Bks S 0 k) (hk : k < S.length) (hb : S[k] = 32) : Bks S 0 (k + 1) := by
  intro j x h0 h1 h2
  by_cases e : j = k
  · subst e; rw [List.getElem?_eq_getElem hk] at h2; cases h2; exact hb
  · exact h j x h0 (by omega) h2
theorem bks_back {S : List UInt8} {n : Nat} (h : Bks S (n + 1) S.length) (hk : n < S.length) (hb : S[n] = 32) : Bks S n S.length := by
  intro j x h0 h1 h2
  by_cases e : j = n
  · subst e; rw [List.getElem?_eq_getElem hk] at h2; cases h2; exact hb
  · exact h j x (by omega) h1 h2
/-- What stands from q to j. -/
def mid (S : List UInt8) (q j : Nat) : List UInt8 := (S.take j).drop q
theorem mid_len {S : List UInt8} {q j : Nat} (hj : j ≤ S.length) : (mid S q j).length = j - q := by unfold mid; rw [List.length_drop, List.length_take]; omega
theorem mid_succ {S : List UInt8} {q j : Nat} (hj : j < S.length) (hq : q ≤ j) : mid S q (j + 1) = mid S q j ++ [S[j]] := by
  unfold mid
  rw [List.take_succ_eq_append_getElem hj, List.drop_append_of_le_length (by rw [List.length_take]; omega)]
theorem mid_nil {S : List UInt8} (q : Nat) : mid S q q = [] := by unfold mid; exact List.drop_eq_nil_of_le (by rw [List.length_take]; omega)
theorem mid_head {S : List UInt8} {k m : Nat} (hm : m ≤ S.length) (h : k < m) : mid S k m = S[k]'(by omega) :: mid S (k + 1) m := by
  unfold mid
  rw [List.drop_eq_getElem_cons (by rw [List.length_take]; omega), List.getElem_take]
theorem mid_mem {S : List UInt8} {q j m : Nat} (hm : m ≤ S.length) (hq : q ≤ j) (hj : j < m) : S[j]'(by omega) ∈ mid S q m := by
  unfold mid
  rw [List.mem_drop_iff_getElem]
  exact ⟨j - q, by rw [List.length_take]; omega, by rw [List.getElem_take]; congr 1; omega⟩
/-- Digits so far. -/
def DigsM (S : List UInt8) (q j : Nat) : Prop := (mid S q j).all Dec.isDig = true
theorem mid_bound {S : List UInt8} {q j : Nat} (hj : j ≤ S.length) (h : j - q ≤ 12) (ha : DigsM S q j) : Dec.val (mid S q j) < 1000000000000 := by
  have h1 := Dec.val_lt _ ha
  rw [mid_len hj] at h1
  have h2 : 10 ^ (j - q) ≤ 10 ^ 12 := Nat.pow_le_pow_right (by omega) (by omega)
  have h3 : (10 : Nat) ^ 12 = 1000000000000 := by rfl
  omega
theorem it_none {T : List UInt8} (h : itB T = false) : itV T = 0 := by
  have e : Dec.dvv 12 (itD T) = 0 := by unfold Dec.dvv; rw [if_neg (by unfold itB at h; rw [h]; simp)]
  unfold itV
  rw [e]; simp
/-- The sign has been read. -/
def Sgn (T D : List UInt8) (neg : Bool) : Prop := itD T = D ∧ itN T = neg
theorem sgn_no {T D : List UInt8} {neg : Bool} (h : Hid (Sgn T D neg)) (hd : Dec.dok 12 D = false) : itB T = false ∧ itV T = 0 := by
  have e : itB T = false := by unfold itB; rw [h.out.1]; exact hd
  exact ⟨e, it_none e⟩
theorem sgn_yes {T D : List UInt8} {neg : Bool} (h : Hid (Sgn T D neg)) (hd : Dec.dok 12 D = true) : itB T = true ∧ itV T = if neg = true then -(Dec.val D : Int) else Dec.val D := by
  have e : itB T = true := by unfold itB; rw [h.out.1]; exact hd
  refine ⟨e, ?_⟩
  unfold itV
  rw [h.out.1, h.out.2]
  unfold Dec.dvv
  rw [if_pos hd]
theorem ne_nat8 {a b : UInt8} (h : a ≠ b) : ((a.toNat : Int) == (b.toNat : Int)) = false := by
  have h2 : ¬ a.toNat = b.toNat := fun e => h (UInt8.toNat_inj.1 e)
  simp; omega
theorem g8 (s : ByteArray) (k : Nat) (h : k < s.size) : s[k] = s.data.toList[k]'h := rfl

set_option maxHeartbeats 1600000 in
theorem spec_it (s : ByteArray) (w : World) (hs : (s.size : Int) ≤ 1048576) : Calls Tryd.prog 20 #[.string s] w fun e w' => e = .returned (.tuple #[.int .i64 (itV (Lib.trimB s.data.toList 32)), .bool (itB (Lib.trimB s.data.toList 32))]) ∧ w = w' := by
  generalize hT : Lib.trimB s.data.toList 32 = T
  have HT := Lib.hid hT
  have HL := Lib.hid (len8 s)
  clear hT
  go_enter Tryd.func20, Tryd.ntmps20
  go_wp2
  go_loop [4] (fun i => ∃ k : Nat, i = .int .i64 k ∧ k ≤ s.size ∧ Bks s.data.toList 0 k) (fun i => s.size - (intOf i).toNat)
  case atStart => exact ⟨0, rfl, by omega, fun j x _ h => by omega⟩
  case round =>
    obtain ⟨k, rfl, hk, hb⟩ := hrel
    have HB := Lib.hid hb
    clear hb
    rcases (show (∃ h : k < s.size, s[k] = 32) ∨ (∃ h : k < s.size, s[k] ≠ 32) ∨ k = s.size by
      rcases Nat.lt_or_ge k s.size with h | h
      · by_cases e : s[k] = 32
        · exact .inl ⟨h, e⟩
        · exact .inr (.inl ⟨h, e⟩)
      · exact .inr (.inr (by omega))) with ⟨h, e⟩ | ⟨h, e⟩ | h
    · have t : ((s[k].toNat : Int) == 32) = true := by rw [e]; rfl
      have HN := Lib.hid (bks_succ HB.out h e)
      clear e
      go_wp2
      go_round
      case rel => exact ⟨k + 1, by go_num, by omega, HN.out⟩
      case measure => first | (simp [intOf]; done) | (simp [intOf]; omega)
    · have t : ((s[k].toNat : Int) == 32) = false := ne_nat8 e
      have HX : Hid (∀ x, s.data.toList[k]? = some x → x ≠ 32) := fun x hx => by rw [List.getElem?_eq_getElem h] at hx; cases hx; exact e
      clear e
      go_wp2
      go_loop [5] (fun i => ∃ m : Nat, i = .int .i64 m ∧ k < m ∧ m ≤ s.size ∧ Bks s.data.toList m s.size) (fun i => (intOf i).toNat)
      case atStart => exact ⟨s.size, rfl, h, by omega, fun j x h1 h2 => by omega⟩
      case round =>
        obtain ⟨m, rfl, hkm, hm, hb2⟩ := hrel
        have HB2 := Lib.hid hb2
        clear hb2
        obtain ⟨n, rfl⟩ : ∃ n, m = n + 1 := ⟨m - 1, by omega⟩
        have hn : n < s.size := by omega
        have d1 : (k : Int) < (n : Int) + 1 := by omega
        by_cases e : s[n] = 32
        · have t2 : ((s[n].toNat : Int) == 32) = true := by rw [e]; rfl
          have hkn : k < n := by
            rcases Nat.lt_or_ge k n with h | h
            · exact h
            · obtain rfl : k = n := by omega
              exact absurd e (HX.out _ (by rw [List.getElem?_eq_getElem (show k < s.data.toList.length from hn)]; rfl))
          have HN := Lib.hid (bks_back (S := s.data.toList) (by rw [HL.out]; exact HB2.out) hn e)
          clear e
          go_wp2
          go_round
          case rel => exact ⟨n, by first | rfl | go_num | (congr 1; omega), hkn, by omega, by rw [← HL.out]; exact HN.out⟩
          case measure => first | (simp [intOf]; done) | (simp [intOf]; omega)
        · have t2 : ((s[n].toNat : Int) == 32) = false := ne_nat8 e
          have HM : Hid (T = mid s.data.toList k (n + 1)) := HT.out.symm.trans (trim_at (by omega) (by rw [HL.out]; omega) HB.out (by rw [HL.out]; exact HB2.out) HX.out (fun _ x hx => by rw [Nat.add_sub_cancel, List.getElem?_eq_getElem (show n < s.data.toList.length from hn)] at hx; cases hx; exact e) (fun _ => by omega))
          have HH : Hid (T = s[k] :: mid s.data.toList (k + 1) (n + 1)) := HM.out.trans (mid_head (by rw [HL.out]; omega) (by omega))
          clear e HT HX HB HB2 t
          generalize hs0 : s[k] = c at HH
          have HS0 := Lib.hid hs0
          clear hs0
          rcases (show c = 45 ∨ (c ≠ 45 ∧ c = 43) ∨ (c ≠ 45 ∧ c ≠ 43) by by_cases h1 : c = 45; exact .inl h1; by_cases h2 : c = 43; exact .inr (.inl ⟨h1, h2⟩); exact .inr (.inr ⟨h1, h2⟩)) with h1 | ⟨h1, h2⟩ | ⟨h1, h2⟩
          · have u1 : ((s[k].toNat : Int) == 45) = true := by rw [HS0.out, h1]; rfl
            have HG : Hid (Sgn T (mid s.data.toList (k + 1) (n + 1)) true) := by
              show _ ∧ _
              rw [HH.out, h1]; exact ⟨rfl, rfl⟩
            clear h1 HH HM HS0
            have hq : k + 1 ≤ n + 1 := by omega
            by_cases hr : 1 ≤ n + 1 - (k + 1) ∧ n + 1 - (k + 1) ≤ 12
            · have r1 : ¬ ((n : Int) + 1 - ((k : Int) + 1)) < 1 := by omega
              have r2 : ¬ (12 : Int) < ((n : Int) + 1 - ((k : Int) + 1)) := by omega
              go_wp2
              go_loop [4, 7] (fun i v => ∃ j : Nat, i = .int .i64 j ∧ k + 1 ≤ j ∧ j ≤ n + 1 ∧ v = .int .i64 (Dec.val (mid s.data.toList (k + 1) j)) ∧ DigsM s.data.toList (k + 1) j) (fun i _ => n + 1 - (intOf i).toNat)
              case atStart => exact ⟨k + 1, by first | rfl | go_num, by omega, by omega, by rw [mid_nil]; rfl, by unfold DigsM; rw [mid_nil]; rfl⟩
              case round =>
                obtain ⟨j, rfl, hj1, hj2, rfl, ha⟩ := hrel
                have hb := mid_bound (q := k + 1) (by rw [HL.out]; omega) (by omega) ha
                have HA := Lib.hid ha
                clear ha
                by_cases hlt : j < n + 1
                · have hjs : j < s.size := by omega
                  have hlti : (j : Int) < (n : Int) + 1 := by omega
                  rcases dig_cases s[j] with ⟨hd, d2, d3⟩ | ⟨hd, d2⟩ | ⟨hd, d2, d3⟩
                  · have HD := Lib.hid hd
                    clear hd
                    go_wp2
                    go_round
                    case rel => exact ⟨j + 1, by go_num, by omega, by omega, ret_val (by rw [mid_succ (by rw [HL.out]; omega) (by omega), Dec.val_snoc, ← g8 s j hjs]; omega), by unfold DigsM; rw [mid_succ (by rw [HL.out]; omega) (by omega), List.all_append, HA.out]; show (true && (Dec.isDig s[j] && true)) = true; rw [HD.out]; rfl⟩
                    case measure => first | (simp [intOf]; done) | (simp [intOf]; omega)
                  all_goals
                    have HD := Lib.hid hd
                    clear hd
                    go_wp2
                    go_ret2
                    have hno : Dec.dok 12 (mid s.data.toList (k + 1) (n + 1)) = false := Dec.dok_dig (by rw [List.all_eq_false]; exact ⟨s[j], mid_mem (by rw [HL.out]; omega) (by omega) hlt, by rw [HD.out]; simp⟩)
                    obtain ⟨e1, e2⟩ := sgn_no HG hno
                    exact ⟨ret_pair e2.symm e1.symm, rfl⟩
                · obtain rfl : j = n + 1 := by omega
                  have HY := Lib.hid (sgn_yes HG (Dec.dok_yes (by rw [mid_len (by rw [HL.out]; omega)]; omega) (by rw [mid_len (by rw [HL.out]; omega)]; omega) HA.out))
                  clear HA HG
                  generalize Dec.val (mid s.data.toList (k + 1) (n + 1)) = x at *
                  go_wp2
                  go_ret2
                  exact ⟨ret_pair (by rw [HY.out.2]; first | rfl | simp) HY.out.1.symm, rfl⟩
            · obtain ⟨e1, e2⟩ := sgn_no HG (Dec.dok_len (by rw [mid_len (by rw [HL.out]; omega)]; omega))
              have E1 := Lib.hid e1
              have E2 := Lib.hid e2
              clear e1 e2 HG
              rcases (show (n : Int) + 1 - ((k : Int) + 1) < 1 ∨ ((1 : Int) ≤ (n : Int) + 1 - ((k : Int) + 1) ∧ (12 : Int) < (n : Int) + 1 - ((k : Int) + 1)) by omega) with r1 | ⟨r1, r2⟩
              all_goals
                go_wp2
                go_ret2
                exact ⟨ret_pair E2.out.symm E1.out.symm, rfl⟩
          · have u1 : ((s[k].toNat : Int) == 45) = false := by rw [HS0.out, h2]; rfl
            have u2 : ((s[k].toNat : Int) == 43) = true := by rw [HS0.out, h2]; rfl
            have HG : Hid (Sgn T (mid s.data.toList (k + 1) (n + 1)) false) := by
              show _ ∧ _
              rw [HH.out, h2]; exact ⟨rfl, rfl⟩
            clear h1 h2 HH HM HS0
            have hq : k + 1 ≤ n + 1 := by omega
            by_cases hr : 1 ≤ n + 1 - (k + 1) ∧ n + 1 - (k + 1) ≤ 12
            · have r1 : ¬ ((n : Int) + 1 - ((k : Int) + 1)) < 1 := by omega
              have r2 : ¬ (12 : Int) < ((n : Int) + 1 - ((k : Int) + 1)) := by omega
              go_wp2
              go_loop [4, 7] (fun i v => ∃ j : Nat, i = .int .i64 j ∧ k + 1 ≤ j ∧ j ≤ n + 1 ∧ v = .int .i64 (Dec.val (mid s.data.toList (k + 1) j)) ∧ DigsM s.data.toList (k + 1) j) (fun i _ => n + 1 - (intOf i).toNat)
              case atStart => exact ⟨k + 1, by first | rfl | go_num, by omega, by omega, by rw [mid_nil]; rfl, by unfold DigsM; rw [mid_nil]; rfl⟩
              case round =>
                obtain ⟨j, rfl, hj1, hj2, rfl, ha⟩ := hrel
                have hb := mid_bound (q := k + 1) (by rw [HL.out]; omega) (by omega) ha
                have HA := Lib.hid ha
                clear ha
                by_cases hlt : j < n + 1
                · have hjs : j < s.size := by omega
                  have hlti : (j : Int) < (n : Int) + 1 := by omega
                  rcases dig_cases s[j] with ⟨hd, d2, d3⟩ | ⟨hd, d2⟩ | ⟨hd, d2, d3⟩
                  · have HD := Lib.hid hd
                    clear hd
                    go_wp2
                    go_round
                    case rel => exact ⟨j + 1, by go_num, by omega, by omega, ret_val (by rw [mid_succ (by rw [HL.out]; omega) (by omega), Dec.val_snoc, ← g8 s j hjs]; omega), by unfold DigsM; rw [mid_succ (by rw [HL.out]; omega) (by omega), List.all_append, HA.out]; show (true && (Dec.isDig s[j] && true)) = true; rw [HD.out]; rfl⟩
                    case measure => first | (simp [intOf]; done) | (simp [intOf]; omega)
                  all_goals
                    have HD := Lib.hid hd
                    clear hd
                    go_wp2
                    go_ret2
                    have hno : Dec.dok 12 (mid s.data.toList (k + 1) (n + 1)) = false := Dec.dok_dig (by rw [List.all_eq_false]; exact ⟨s[j], mid_mem (by rw [HL.out]; omega) (by omega) hlt, by rw [HD.out]; simp⟩)
                    obtain ⟨e1, e2⟩ := sgn_no HG hno
                    exact ⟨ret_pair e2.symm e1.symm, rfl⟩
                · obtain rfl : j = n + 1 := by omega
                  have HY := Lib.hid (sgn_yes HG (Dec.dok_yes (by rw [mid_len (by rw [HL.out]; omega)]; omega) (by rw [mid_len (by rw [HL.out]; omega)]; omega) HA.out))
                  clear HA HG
                  generalize Dec.val (mid s.data.toList (k + 1) (n + 1)) = x at *
                  go_wp2
                  go_ret2
                  exact ⟨ret_pair (by rw [HY.out.2]; first | rfl | simp) HY.out.1.symm, rfl⟩
            · obtain ⟨e1, e2⟩ := sgn_no HG (Dec.dok_len (by rw [mid_len (by rw [HL.out]; omega)]; omega))
              have E1 := Lib.hid e1
              have E2 := Lib.hid e2
              clear e1 e2 HG
              rcases (show (n : Int) + 1 - ((k : Int) + 1) < 1 ∨ ((1 : Int) ≤ (n : Int) + 1 - ((k : Int) + 1) ∧ (12 : Int) < (n : Int) + 1 - ((k : Int) + 1)) by omega) with r1 | ⟨r1, r2⟩
              all_goals
                go_wp2
                go_ret2
                exact ⟨ret_pair E2.out.symm E1.out.symm, rfl⟩
          · have u1 : ((s[k].toNat : Int) == 45) = false := by rw [HS0.out]; exact ne_nat8 h1
            have u2 : ((s[k].toNat : Int) == 43) = false := by rw [HS0.out]; exact ne_nat8 h2
            have HG : Hid (Sgn T (mid s.data.toList k (n + 1)) false) := by
              show _ ∧ _
              rw [← HM.out, HH.out]
              unfold itD itN
              refine ⟨if_neg ?_, ?_⟩
              · rintro (h | h)
                · exact h1 (by simpa using h)
                · exact h2 (by simpa using h)
              · simpa using h1
            clear h1 h2 HH HM HS0
            have hq : k ≤ n + 1 := by omega
            by_cases hr : 1 ≤ n + 1 - (k) ∧ n + 1 - (k) ≤ 12
            · have r1 : ¬ ((n : Int) + 1 - ((k : Int))) < 1 := by omega
              have r2 : ¬ (12 : Int) < ((n : Int) + 1 - ((k : Int))) := by omega
              go_wp2
              go_loop [4, 7] (fun i v => ∃ j : Nat, i = .int .i64 j ∧ k ≤ j ∧ j ≤ n + 1 ∧ v = .int .i64 (Dec.val (mid s.data.toList (k) j)) ∧ DigsM s.data.toList (k) j) (fun i _ => n + 1 - (intOf i).toNat)
              case atStart => exact ⟨k, by first | rfl | go_num, by omega, by omega, by rw [mid_nil]; rfl, by unfold DigsM; rw [mid_nil]; rfl⟩
              case round =>
                obtain ⟨j, rfl, hj1, hj2, rfl, ha⟩ := hrel
                have hb := mid_bound (q := k) (by rw [HL.out]; omega) (by omega) ha
                have HA := Lib.hid ha
                clear ha
                by_cases hlt : j < n + 1
                · have hjs : j < s.size := by omega
                  have hlti : (j : Int) < (n : Int) + 1 := by omega
                  rcases dig_cases s[j] with ⟨hd, d2, d3⟩ | ⟨hd, d2⟩ | ⟨hd, d2, d3⟩
                  · have HD := Lib.hid hd
                    clear hd
                    go_wp2
                    go_round
                    case rel => exact ⟨j + 1, by go_num, by omega, by omega, ret_val (by rw [mid_succ (by rw [HL.out]; omega) (by omega), Dec.val_snoc, ← g8 s j hjs]; omega), by unfold DigsM; rw [mid_succ (by rw [HL.out]; omega) (by omega), List.all_append, HA.out]; show (true && (Dec.isDig s[j] && true)) = true; rw [HD.out]; rfl⟩
                    case measure => first | (simp [intOf]; done) | (simp [intOf]; omega)
                  all_goals
                    have HD := Lib.hid hd
                    clear hd
                    go_wp2
                    go_ret2
                    have hno : Dec.dok 12 (mid s.data.toList (k) (n + 1)) = false := Dec.dok_dig (by rw [List.all_eq_false]; exact ⟨s[j], mid_mem (by rw [HL.out]; omega) (by omega) hlt, by rw [HD.out]; simp⟩)
                    obtain ⟨e1, e2⟩ := sgn_no HG hno
                    exact ⟨ret_pair e2.symm e1.symm, rfl⟩
                · obtain rfl : j = n + 1 := by omega
                  have HY := Lib.hid (sgn_yes HG (Dec.dok_yes (by rw [mid_len (by rw [HL.out]; omega)]; omega) (by rw [mid_len (by rw [HL.out]; omega)]; omega) HA.out))
                  clear HA HG
                  generalize Dec.val (mid s.data.toList (k) (n + 1)) = x at *
                  go_wp2
                  go_ret2
                  exact ⟨ret_pair (by rw [HY.out.2]; first | rfl | simp) HY.out.1.symm, rfl⟩
            · obtain ⟨e1, e2⟩ := sgn_no HG (Dec.dok_len (by rw [mid_len (by rw [HL.out]; omega)]; omega))
              have E1 := Lib.hid e1
              have E2 := Lib.hid e2
              clear e1 e2 HG
              rcases (show (n : Int) + 1 - ((k : Int)) < 1 ∨ ((1 : Int) ≤ (n : Int) + 1 - ((k : Int)) ∧ (12 : Int) < (n : Int) + 1 - ((k : Int))) by omega) with r1 | ⟨r1, r2⟩
              all_goals
                go_wp2
                go_ret2
                exact ⟨ret_pair E2.out.symm E1.out.symm, rfl⟩
    · obtain rfl := h
      have hT0 : T = [] := HT.out.symm.trans (trim_at (m := s.size) (by omega) (by rw [HL.out]; omega) HB.out (by rw [HL.out]; exact fun j x h1 h2 => by omega) (fun x hx => by have := (List.getElem?_eq_some_iff.1 hx).1; rw [HL.out] at this; omega) (fun h => by omega) (fun h => by rw [HL.out] at h; omega) |>.trans (mid_nil _))
      subst hT0
      clear HT
      go_wp2
      go_loop [5] (fun i => i = .int .i64 s.size) (fun i => (intOf i).toNat)
      case atStart => exact rfl
      case round =>
        obtain rfl := hrel
        go_wp2
        go_ret2
        exact ⟨rfl, rfl⟩

end Go.Proofs.YtfhakailbikjkaaDoor
/- The token that begins at a place, in the reference model: what the walks need of texts and of the result's variable; words. No conditions. -/
namespace Go.Proofs.YtfhakailbikjkaaDoor
open Go.RowKit
set_option linter.unusedVariables false

theorem tw_lt (p : UInt8 → Bool) (S : List UInt8) (a : Nat) : ∀ m, a ≤ m → m < a + ((S.drop a).takeWhile p).length → ∃ h : m < S.length, p S[m] = true := by
  intro m h1 h2
  have hl : ((S.drop a).takeWhile p).length ≤ (S.drop a).length := (List.takeWhile_sublist p).length_le
  rw [List.length_drop] at hl
  have h3 : m < S.length := by omega
  refine ⟨h3, ?_⟩
  have h4 : m - a < ((S.drop a).takeWhile p).length := by omega
  have h5 := List.all_eq_true.1 (Tk.take_all p (S.drop a)) _ (List.getElem_mem h4)
  have h6 : ((S.drop a).takeWhile p)[m - a] = S[m] := by
    have h7 : (S.drop a).takeWhile p <+: S.drop a := List.takeWhile_prefix p
    have h8 := List.IsPrefix.getElem h7 h4
    rw [h8, List.getElem_drop]
    congr 1; omega
  rw [h6] at h5; exact h5
theorem tw_le (p : UInt8 → Bool) (S : List UInt8) (a : Nat) (h : a ≤ S.length) : a + ((S.drop a).takeWhile p).length ≤ S.length := by
  have hl : ((S.drop a).takeWhile p).length ≤ (S.drop a).length := (List.takeWhile_sublist p).length_le
  rw [List.length_drop] at hl; omega
theorem tw_stop (p : UInt8 → Bool) : ∀ (l : List UInt8) (h : (l.takeWhile p).length < l.length), p (l[(l.takeWhile p).length]) = false := by
  intro l
  induction l with
  | nil => intro h; simp at h
  | cons b l ih =>
    intro h
    by_cases hb : p b = true
    · have e : ((b :: l).takeWhile p).length = (l.takeWhile p).length + 1 := by rw [List.takeWhile_cons, if_pos hb]; rfl
      have h2 : (l.takeWhile p).length < l.length := by rw [e] at h; simp at h; exact h
      have h3 := ih h2
      simp only [e, List.getElem_cons_succ]; exact h3
    · have e : ((b :: l).takeWhile p).length = 0 := by rw [List.takeWhile_cons, if_neg hb]; rfl
      simp only [e, List.getElem_cons_zero]; simpa using hb
theorem tw_end (p : UInt8 → Bool) (S : List UInt8) (a m : Nat) (hm : m = a + ((S.drop a).takeWhile p).length) (h : m < S.length) : p S[m] = false := by
  have h2 : ((S.drop a).takeWhile p).length < (S.drop a).length := by rw [List.length_drop]; omega
  have h3 := tw_stop p (S.drop a) h2
  rw [List.getElem_drop] at h3
  have h4 : S[m] = S[a + ((S.drop a).takeWhile p).length]'(by omega) := by congr 1
  rw [h4]; exact h3
theorem tw_cut (p : UInt8 → Bool) (s : ByteArray) (i m : Nat) (hi : i < s.size) (hm : m = i + 1 + ((s.data.toList.drop (i + 1)).takeWhile p).length) : s.extract i m = str8 (s[i] :: (s.data.toList.drop (i + 1)).takeWhile p) := by
  apply str8_inj
  have hl : i < s.data.toList.length := hi
  simp only [ByteArray.data_extract, Array.toList_extract, List.extract_eq_take_drop]
  rw [List.drop_eq_getElem_cons hl, hm, show i + 1 + ((s.data.toList.drop (i + 1)).takeWhile p).length - i = ((s.data.toList.drop (i + 1)).takeWhile p).length + 1 by omega, List.take_succ_cons]
  congr 1
  exact (List.prefix_iff_eq_take.1 (List.takeWhile_prefix p)).symm
theorem tw_cut2 (p : UInt8 → Bool) (s : ByteArray) (a m : Nat) (hm : m = a + ((s.data.toList.drop a).takeWhile p).length) : s.extract a m = str8 ((s.data.toList.drop a).takeWhile p) := by
  apply str8_inj
  simp only [ByteArray.data_extract, Array.toList_extract, List.extract_eq_take_drop]
  rw [hm, show a + ((s.data.toList.drop a).takeWhile p).length - a = ((s.data.toList.drop a).takeWhile p).length by omega]
  exact (List.prefix_iff_eq_take.1 (List.takeWhile_prefix p)).symm

/-- What the reference model reads in the word of an integer, a quoted text, a quoted set. -/
def denM : Tk.Den where
  int w := if itB (Lib.trimB w 32) = true then some (Dec.fmtN (itV (Lib.trimB w 32)).toNat) else none
  str q := if Lt.litB 34 q = true ∧ (Lt.litL 34 q).length ≤ 120 then some (Lt.litL 34 q) else none
  set q := if ucB q = true then some (txt (Cs.text (ucL q) (ucH q))).data.toList else none
/-- What l5One answers. -/
def oneE (i : Nat) : Option (Nat × List UInt8 × Nat) → Ending
  | none => .returned (.tuple #[.agg #[.int .i64 0, .string ByteArray.empty, .int .i64 0], .int .i64 (-1)])
  | some (k, t, n) => .returned (.tuple #[.agg #[.int .i64 k, .string (str8 t), .int .i64 0], .int .i64 ((i + n : Nat) : Int)])
def RetOne (w : World) (i : Nat) (o : Option (Nat × List UInt8 × Nat)) (e : Ending) (w' : World) : Prop := e = oneE i o ∧ Below w.heap.size w w'
end Go.Proofs.YtfhakailbikjkaaDoor
/- The token that begins at a place, in the reference model: words. No conditions. -/
namespace Go.Proofs.YtfhakailbikjkaaDoor
open Go.RowKit
set_option linter.unusedVariables false

theorem idb_split {b : UInt8} (h : Tk.idb b = true) : Tk.letter b = true ∨ (Tk.letter b = false ∧ Dec.isDig b = true) := by
  unfold Tk.idb at h
  cases hl : Tk.letter b
  · rw [hl] at h; exact .inr ⟨rfl, by simpa using h⟩
  · exact .inl rfl
theorem idb_no {b : UInt8} (h : Tk.idb b = false) : Tk.letter b = false ∧ Dec.isDig b = false := by
  unfold Tk.idb at h; simpa using h
theorem one_eq {i m k : Nat} {T : List UInt8} {o : Option (Nat × List UInt8 × Nat)} (h : o = some (k, T, m - i)) (hm : i + (m - i) = m) : Ending.returned (.tuple #[.agg #[.int .i64 (k : Int), .string (str8 T), .int .i64 0], .int .i64 (m : Int)]) = oneE i o := by
  subst h
  show _ = Ending.returned (.tuple #[.agg #[.int .i64 (k : Int), .string (str8 T), .int .i64 0], .int .i64 ((i + (m - i) : Nat) : Int)])
  rw [hm]
theorem one_no {i : Nat} {o : Option (Nat × List UInt8 × Nat)} (h : o = none) : Ending.returned (.tuple #[.agg #[.int .i64 0, .string ByteArray.empty, .int .i64 0], .int .i64 (-1)]) = oneE i o := by subst h; rfl
/-- The outcomes of a word. -/
theorem word_cases (b : UInt8) (r : List UInt8) (hb : Tk.letter b = true) : (hasW Tk.reserved (b :: r.takeWhile Tk.idb) = true ∧ Tk.one denM (b :: r) = some (2, b :: r.takeWhile Tk.idb, (r.takeWhile Tk.idb).length + 1))
    ∨ (hasW Tk.reserved (b :: r.takeWhile Tk.idb) = false ∧ Tk.isName (b :: r.takeWhile Tk.idb) = true ∧ Tk.one denM (b :: r) = some (1, b :: r.takeWhile Tk.idb, (r.takeWhile Tk.idb).length + 1))
    ∨ (hasW Tk.reserved (b :: r.takeWhile Tk.idb) = false ∧ Tk.isName (b :: r.takeWhile Tk.idb) = false ∧ Tk.one denM (b :: r) = none) := by
  simp only [Tk.one]
  rw [if_pos hb]
  have e : hasW Tk.reserved (b :: r.takeWhile Tk.idb) = Tk.isReserved (b :: r.takeWhile Tk.idb) := rfl
  rw [e]
  cases Tk.isReserved (b :: r.takeWhile Tk.idb)
  · right
    cases Tk.isName (b :: r.takeWhile Tk.idb)
    · right; exact ⟨rfl, rfl, rfl⟩
    · left; exact ⟨rfl, rfl, rfl⟩
  · left; exact ⟨rfl, rfl⟩

set_option maxRecDepth 100000 in
set_option maxHeartbeats 3200000 in
theorem one_word (s : ByteArray) (i : Nat) (w : World) (hs : (s.size : Int) ≤ 1048576) (hi : i < s.size) (hb : Tk.letter s[i] = true) :
    Calls Tryd.prog 9 #[.string s, .int .i64 (i : Int)] w (RetOne w i (Tk.one denM (s.data.toList.drop i))) := by
  unfold RetOne
  have hdrop : s.data.toList.drop i = s[i] :: s.data.toList.drop (i + 1) := by rw [List.drop_eq_getElem_cons (show i < s.data.toList.length from hi)]; rfl
  have hout := word_cases s[i] (s.data.toList.drop (i + 1)) hb
  rw [← hdrop] at hout
  obtain ⟨m0, hm0⟩ : ∃ m0, m0 = i + 1 + ((s.data.toList.drop (i + 1)).takeWhile Tk.idb).length := ⟨_, rfl⟩
  have hle := tw_le Tk.idb s.data.toList (i + 1) hi
  rw [← hm0, len8] at hle
  have HLT := Lib.hid (fun m (h1 : i + 1 ≤ m) (h2 : m < m0) => tw_lt Tk.idb s.data.toList (i + 1) m h1 (by rw [← hm0]; exact h2))
  have HEND := Lib.hid (fun h => tw_end Tk.idb s.data.toList (i + 1) m0 hm0 h)
  have hcut := tw_cut Tk.idb s i m0 hi hm0
  have hlen : ((s.data.toList.drop (i + 1)).takeWhile Tk.idb).length + 1 = m0 - i := by omega
  rw [hlen] at hout
  have hmi : i + (m0 - i) = m0 := by omega
  generalize hT : s[i] :: (s.data.toList.drop (i + 1)).takeWhile Tk.idb = T at *
  have hi0 : (0 : Int) ≤ i := by omega
  have hii : (i : Int) < s.size := by omega
  have him : (i : Int) ≤ m0 := by omega
  have him1 : i + 1 ≤ m0 := by omega
  have hms : (m0 : Int) ≤ s.size := by omega
  have HL := Lib.hid (fun W => spec_letter s[i] W)
  rw [hb] at HL
  have HR := Lib.hid (fun W => spec_reserved (str8 T) W)
  rw [str8_list] at HR
  have htz : ((str8 T).size : Int) ≤ 1048576 := by rw [str8_size, ← hT, List.length_cons, hlen]; omega
  have HN := Lib.hid (fun W => spec_name (str8 T) W htz)
  rw [str8_list] at HN
  have HF0 := Lib.hid (FreeTok.new w 0 ByteArray.empty 0 29)
  have HOUT := Lib.hid hout
  have HMI := Lib.hid hmi
  clear hb hT hm0 hlen hdrop htz hout hmi
  go_enter Tryd.func9, Tryd.ntmps9
  go_wp2_with (go_at_call 16; refine (HL.out _).mono ?_; rintro e w1 ⟨rfl, rfl⟩)
  go_loop [7] (fun n => ∃ m : Nat, n = .int .i64 m ∧ i + 1 ≤ m ∧ m ≤ m0) (fun n => m0 - (intOf n).toNat)
  case atStart => exact ⟨i + 1, by go_num, by omega, by omega⟩
  case round =>
    clear HL
    obtain ⟨m, rfl, hm1, hm2⟩ := hrel
    by_cases hlt : m < m0
    · obtain ⟨hml, hid⟩ := HLT.out m hm1 hlt
      have hms2 : m < s.size := hml
      have hmsi : (m : Int) < s.size := by omega
      have hid2 : Tk.idb s[m] = true := hid
      have H1 := Lib.hid (fun W => spec_letter s[m] W)
      have H2 := Lib.hid (fun W => spec_digit s[m] W)
      rcases idb_split hid2 with h | ⟨h, h'⟩
      · rw [h] at H1
        clear h hid hid2 H2
        go_wp2_with (go_at_call 16; refine (H1.out _).mono ?_; rintro e w3 ⟨rfl, rfl⟩)
        go_round
        case rel => exact ⟨m + 1, by go_num, by omega, by omega⟩
        case measure => first | (simp [intOf]; done) | (simp [intOf]; omega)
      · rw [h] at H1
        rw [h'] at H2
        clear h h' hid hid2
        go_wp2_with (first | (go_at_call 16; refine (H1.out _).mono ?_; rintro e w3 ⟨rfl, rfl⟩) | (go_at_call 17; refine (H2.out _).mono ?_; rintro e w4 ⟨rfl, rfl⟩))
        go_round
        case rel => exact ⟨m + 1, by go_num, by omega, by omega⟩
        case measure => first | (simp [intOf]; done) | (simp [intOf]; omega)
    · obtain rfl : m = m0 := by omega
      clear HLT
      have hstop : (∃ h : m < s.size, Tk.letter s[m] = false ∧ Dec.isDig s[m] = false) ∨ m = s.size := by
        rcases Nat.lt_or_ge m s.size with h | h
        · exact .inl ⟨h, idb_no (HEND.out h)⟩
        · exact .inr (by omega)
      clear HEND
      rcases HOUT.out with ⟨h1, ho⟩ | ⟨h1, h2, ho⟩ | ⟨h1, h2, ho⟩
      · have HO := Lib.hid ho
        rw [h1] at HR
        clear ho h1 HOUT
        rcases hstop with ⟨h, hl, hd⟩ | h
        · have H1 := Lib.hid (fun W => spec_letter s[m] W)
          have H2 := Lib.hid (fun W => spec_digit s[m] W)
          have hmsi : (m : Int) < s.size := by omega
          rw [hl] at H1
          rw [hd] at H2
          clear hl hd
          go_wp2_with (first | (go_at_call 16; refine (H1.out _).mono ?_; rintro e w3 ⟨rfl, rfl⟩) | (go_at_call 17; refine (H2.out _).mono ?_; rintro e w4 ⟨rfl, rfl⟩) | (go_at_call 18; refine (HR.out _).mono ?_; rintro e w5 ⟨rfl, hb5⟩; have HB5 := Lib.hid (below_step (bl1 _ _) hb5); have HF5 := Lib.hid (HF0.out.later hb5); clear hb5; obtain ⟨⟨r0, r1, r2⟩, f0, f1, f2⟩ := HF5.out))
          exact bodyPost_ret (v := .tuple #[.agg #[.int .i64 2, .string (str8 T), .int .i64 0], .int .i64 m]) (by simp [results, Tryd.results9, go_sem, r0, r1, r2]) rfl ⟨one_eq (k := 2) HO.out HMI.out, below_store3 HB5.out (Nat.le_refl _) _ _ _⟩
        · have hmsi : ¬ (m : Int) < s.size := by omega
          clear h
          go_wp2_with (first | (go_at_call 18; refine (HR.out _).mono ?_; rintro e w5 ⟨rfl, hb5⟩; have HB5 := Lib.hid (below_step (bl1 _ _) hb5); have HF5 := Lib.hid (HF0.out.later hb5); clear hb5; obtain ⟨⟨r0, r1, r2⟩, f0, f1, f2⟩ := HF5.out))
          exact bodyPost_ret (v := .tuple #[.agg #[.int .i64 2, .string (str8 T), .int .i64 0], .int .i64 m]) (by simp [results, Tryd.results9, go_sem, r0, r1, r2]) rfl ⟨one_eq (k := 2) HO.out HMI.out, below_store3 HB5.out (Nat.le_refl _) _ _ _⟩
      · have HO := Lib.hid ho
        rw [h1] at HR; rw [h2] at HN
        clear ho h1 HOUT h2
        rcases hstop with ⟨h, hl, hd⟩ | h
        · have H1 := Lib.hid (fun W => spec_letter s[m] W)
          have H2 := Lib.hid (fun W => spec_digit s[m] W)
          have hmsi : (m : Int) < s.size := by omega
          rw [hl] at H1
          rw [hd] at H2
          clear hl hd
          go_wp2_with (first | (go_at_call 16; refine (H1.out _).mono ?_; rintro e w3 ⟨rfl, rfl⟩) | (go_at_call 17; refine (H2.out _).mono ?_; rintro e w4 ⟨rfl, rfl⟩) | (go_at_call 18; refine (HR.out _).mono ?_; rintro e w5 ⟨rfl, hb5⟩; have HB5 := Lib.hid (below_step (bl1 _ _) hb5); have HF5 := Lib.hid (HF0.out.later hb5); clear hb5) | (go_at_call 19; refine (HN.out _).mono ?_; rintro e w6 ⟨rfl, hb6⟩; have HB6 := Lib.hid (below_step HB5.out hb6); have HF6 := Lib.hid (HF5.out.later hb6); clear hb6; obtain ⟨⟨r0, r1, r2⟩, f0, f1, f2⟩ := HF6.out))
          exact bodyPost_ret (v := .tuple #[.agg #[.int .i64 1, .string (str8 T), .int .i64 0], .int .i64 m]) (by simp [results, Tryd.results9, go_sem, r0, r1, r2]) rfl ⟨one_eq (k := 1) HO.out HMI.out, below_store3 HB6.out (Nat.le_refl _) _ _ _⟩
        · have hmsi : ¬ (m : Int) < s.size := by omega
          clear h
          go_wp2_with (first | (go_at_call 18; refine (HR.out _).mono ?_; rintro e w5 ⟨rfl, hb5⟩; have HB5 := Lib.hid (below_step (bl1 _ _) hb5); have HF5 := Lib.hid (HF0.out.later hb5); clear hb5) | (go_at_call 19; refine (HN.out _).mono ?_; rintro e w6 ⟨rfl, hb6⟩; have HB6 := Lib.hid (below_step HB5.out hb6); have HF6 := Lib.hid (HF5.out.later hb6); clear hb6; obtain ⟨⟨r0, r1, r2⟩, f0, f1, f2⟩ := HF6.out))
          exact bodyPost_ret (v := .tuple #[.agg #[.int .i64 1, .string (str8 T), .int .i64 0], .int .i64 m]) (by simp [results, Tryd.results9, go_sem, r0, r1, r2]) rfl ⟨one_eq (k := 1) HO.out HMI.out, below_store3 HB6.out (Nat.le_refl _) _ _ _⟩
      · have HO := Lib.hid ho
        rw [h1] at HR; rw [h2] at HN
        clear ho h1 HOUT h2
        rcases hstop with ⟨h, hl, hd⟩ | h
        · have H1 := Lib.hid (fun W => spec_letter s[m] W)
          have H2 := Lib.hid (fun W => spec_digit s[m] W)
          have hmsi : (m : Int) < s.size := by omega
          rw [hl] at H1
          rw [hd] at H2
          clear hl hd
          go_wp2_with (first | (go_at_call 16; refine (H1.out _).mono ?_; rintro e w3 ⟨rfl, rfl⟩) | (go_at_call 17; refine (H2.out _).mono ?_; rintro e w4 ⟨rfl, rfl⟩) | (go_at_call 18; refine (HR.out _).mono ?_; rintro e w5 ⟨rfl, hb5⟩; have HB5 := Lib.hid (below_step (bl1 _ _) hb5); have HF5 := Lib.hid (HF0.out.later hb5); clear hb5) | (go_at_call 19; refine (HN.out _).mono ?_; rintro e w6 ⟨rfl, hb6⟩; have HB6 := Lib.hid (below_step HB5.out hb6); have HF6 := Lib.hid (HF5.out.later hb6); clear hb6; obtain ⟨⟨r0, r1, r2⟩, f0, f1, f2⟩ := HF6.out))
          exact bodyPost_ret (v := .tuple #[.agg #[.int .i64 0, .string ByteArray.empty, .int .i64 0], .int .i64 (-1)]) (by simp [results, Tryd.results9, go_sem, r0, r1, r2]; rfl) rfl ⟨one_no HO.out, below_store3 HB6.out (Nat.le_refl _) _ _ _⟩
        · have hmsi : ¬ (m : Int) < s.size := by omega
          clear h
          go_wp2_with (first | (go_at_call 18; refine (HR.out _).mono ?_; rintro e w5 ⟨rfl, hb5⟩; have HB5 := Lib.hid (below_step (bl1 _ _) hb5); have HF5 := Lib.hid (HF0.out.later hb5); clear hb5) | (go_at_call 19; refine (HN.out _).mono ?_; rintro e w6 ⟨rfl, hb6⟩; have HB6 := Lib.hid (below_step HB5.out hb6); have HF6 := Lib.hid (HF5.out.later hb6); clear hb6; obtain ⟨⟨r0, r1, r2⟩, f0, f1, f2⟩ := HF6.out))
          exact bodyPost_ret (v := .tuple #[.agg #[.int .i64 0, .string ByteArray.empty, .int .i64 0], .int .i64 (-1)]) (by simp [results, Tryd.results9, go_sem, r0, r1, r2]; rfl) rfl ⟨one_no HO.out, below_store3 HB6.out (Nat.le_refl _) _ _ _⟩
end Go.Proofs.YtfhakailbikjkaaDoor
/- The token that begins at a place, in the reference model: integers. No conditions. -/
namespace Go.Proofs.YtfhakailbikjkaaDoor
open Go.RowKit
set_option linter.unusedVariables false

theorem drop_none (l : List UInt8) (h : ∀ x ∈ l, x ≠ 32) : l.dropWhile (· == 32) = l := by
  cases l with
  | nil => rfl
  | cons b l =>
    have : (b == 32) = false := by simpa using h b (List.mem_cons_self)
    rw [List.dropWhile_cons, if_neg (by rw [this]; simp)]
theorem trim_id (l : List UInt8) (h : ∀ x ∈ l, x ≠ 32) : Lib.trimB l 32 = l := by
  unfold Lib.trimB Lib.trimRightB Lib.trimLeftB
  rw [drop_none l.reverse (fun x hx => h x (List.mem_reverse.1 hx)), List.reverse_reverse, drop_none l h]
theorem idb_nb {b : UInt8} (h : Tk.idb b = true) : b ≠ 32 := by rintro rfl; exact absurd h (by decide)
theorem dig_idb {b : UInt8} (h : Dec.isDig b = true) : Tk.idb b = true := by unfold Tk.idb; rw [h]; simp
theorem it_pos (b : UInt8) (l : List UInt8) (hb : Dec.isDig b = true) (hl : l.all Tk.idb = true) : Lib.trimB (b :: l) 32 = b :: l ∧ 0 ≤ itV (b :: l) ∧ itV (b :: l) < 1000000000000 := by
  refine ⟨trim_id _ ?_, ?_⟩
  · intro x hx
    rw [List.mem_cons] at hx
    rcases hx with rfl | hx
    · exact idb_nb (dig_idb hb)
    · exact idb_nb (List.all_eq_true.1 hl x hx)
  · have h1 : itN (b :: l) = false := by
      unfold itN
      have : b ≠ 45 := by rintro rfl; exact absurd hb (by decide)
      simpa using this
    unfold itV
    rw [if_neg (by rw [h1]; simp)]
    exact dvv_bound _
theorem fmt_nat {v : Int} (h : 0 ≤ v) : Dec.fmt v = Dec.fmtN v.toNat := by
  unfold Dec.fmt Dec.fmtN
  by_cases h0 : v = 0
  · subst h0; rfl
  · rw [if_neg h0, if_neg (by omega), if_neg (by omega)]
    congr 1; omega
theorem dig_letter {b : UInt8} (h : Dec.isDig b = true) : Tk.letter b = false := Tk.letter_dig h
theorem int_cases (b : UInt8) (r : List UInt8) (hb : Dec.isDig b = true) : (itB (b :: r.takeWhile Tk.idb) = true ∧ Tk.one denM (b :: r) = some (3, Dec.fmt (itV (b :: r.takeWhile Tk.idb)), (r.takeWhile Tk.idb).length + 1))
    ∨ (itB (b :: r.takeWhile Tk.idb) = false ∧ Tk.one denM (b :: r) = none) := by
  obtain ⟨h1, h2, h3⟩ := it_pos b (r.takeWhile Tk.idb) hb (Tk.take_all _ _)
  simp only [Tk.one]
  rw [if_neg (by rw [dig_letter hb]; simp), if_pos hb]
  have e : denM.int (b :: r.takeWhile Tk.idb) = if itB (b :: r.takeWhile Tk.idb) = true then some (Dec.fmt (itV (b :: r.takeWhile Tk.idb))) else none := by
    show (if itB (Lib.trimB (b :: r.takeWhile Tk.idb) 32) = true then _ else _) = _
    rw [h1, fmt_nat h2]
  rw [e]
  cases itB (b :: r.takeWhile Tk.idb)
  · right; exact ⟨rfl, rfl⟩
  · left; exact ⟨rfl, rfl⟩

set_option maxRecDepth 100000 in
set_option maxHeartbeats 3200000 in
theorem one_int (s : ByteArray) (i : Nat) (w : World) (hs : (s.size : Int) ≤ 1048576) (hi : i < s.size) (hb : Dec.isDig s[i] = true) :
    Calls Tryd.prog 9 #[.string s, .int .i64 (i : Int)] w (RetOne w i (Tk.one denM (s.data.toList.drop i))) := by
  unfold RetOne
  have hdrop : s.data.toList.drop i = s[i] :: s.data.toList.drop (i + 1) := by rw [List.drop_eq_getElem_cons (show i < s.data.toList.length from hi)]; rfl
  have hout := int_cases s[i] (s.data.toList.drop (i + 1)) hb
  have hpos := it_pos s[i] ((s.data.toList.drop (i + 1)).takeWhile Tk.idb) hb (Tk.take_all _ _)
  rw [← hdrop] at hout
  obtain ⟨m0, hm0⟩ : ∃ m0, m0 = i + 1 + ((s.data.toList.drop (i + 1)).takeWhile Tk.idb).length := ⟨_, rfl⟩
  have hle := tw_le Tk.idb s.data.toList (i + 1) hi
  rw [← hm0, len8] at hle
  have HLT := Lib.hid (fun m (h1 : i + 1 ≤ m) (h2 : m < m0) => tw_lt Tk.idb s.data.toList (i + 1) m h1 (by rw [← hm0]; exact h2))
  have HEND := Lib.hid (fun h => tw_end Tk.idb s.data.toList (i + 1) m0 hm0 h)
  have hcut := tw_cut Tk.idb s i m0 hi hm0
  have hlen : ((s.data.toList.drop (i + 1)).takeWhile Tk.idb).length + 1 = m0 - i := by omega
  rw [hlen] at hout
  have hmi : i + (m0 - i) = m0 := by omega
  generalize hT : s[i] :: (s.data.toList.drop (i + 1)).takeWhile Tk.idb = T at *
  have hi0 : (0 : Int) ≤ i := by omega
  have hii : (i : Int) < s.size := by omega
  have him : (i : Int) ≤ m0 := by omega
  have him1 : i + 1 ≤ m0 := by omega
  have hms : (m0 : Int) ≤ s.size := by omega
  have HL := Lib.hid (fun W => spec_letter s[i] W)
  rw [dig_letter hb] at HL
  have HD := Lib.hid (fun W => spec_digit s[i] W)
  rw [hb] at HD
  have htz : ((str8 T).size : Int) ≤ 1048576 := by rw [str8_size, ← hT, List.length_cons, hlen]; omega
  have HI := Lib.hid (fun W => spec_it (str8 T) W htz)
  rw [str8_list, hpos.1] at HI
  have HFM := Lib.hid (fun W => spec_fmt (itV T) W (by omega) (by omega))
  have HF0 := Lib.hid (FreeTok.new w 0 ByteArray.empty 0 29)
  have HOUT := Lib.hid hout
  have HMI := Lib.hid hmi
  have HSTR : Hid ((⟨(Dec.fmt (itV T)).toArray⟩ : ByteArray) = str8 (Dec.fmt (itV T))) := rfl
  clear hb hT hm0 hlen hdrop htz hout hmi hpos
  go_enter Tryd.func9, Tryd.ntmps9
  go_wp2_with (first | (go_at_call 16; refine (HL.out _).mono ?_; rintro e w1 ⟨rfl, rfl⟩) | (go_at_call 17; refine (HD.out _).mono ?_; rintro e w1 ⟨rfl, rfl⟩))
  go_loop [7] (fun n => ∃ m : Nat, n = .int .i64 m ∧ i + 1 ≤ m ∧ m ≤ m0) (fun n => m0 - (intOf n).toNat)
  case atStart => exact ⟨i + 1, by go_num, by omega, by omega⟩
  case round =>
    clear HL HD
    obtain ⟨m, rfl, hm1, hm2⟩ := hrel
    by_cases hlt : m < m0
    · obtain ⟨hml, hid⟩ := HLT.out m hm1 hlt
      have hms2 : m < s.size := hml
      have hmsi : (m : Int) < s.size := by omega
      have hid2 : Tk.idb s[m] = true := hid
      have H1 := Lib.hid (fun W => spec_letter s[m] W)
      have H2 := Lib.hid (fun W => spec_digit s[m] W)
      rcases idb_split hid2 with h | ⟨h, h'⟩
      · rw [h] at H1
        clear h hid hid2 H2
        go_wp2_with (go_at_call 16; refine (H1.out _).mono ?_; rintro e w3 ⟨rfl, rfl⟩)
        go_round
        case rel => exact ⟨m + 1, by go_num, by omega, by omega⟩
        case measure => first | (simp [intOf]; done) | (simp [intOf]; omega)
      · rw [h] at H1
        rw [h'] at H2
        clear h h' hid hid2
        go_wp2_with (first | (go_at_call 16; refine (H1.out _).mono ?_; rintro e w3 ⟨rfl, rfl⟩) | (go_at_call 17; refine (H2.out _).mono ?_; rintro e w4 ⟨rfl, rfl⟩))
        go_round
        case rel => exact ⟨m + 1, by go_num, by omega, by omega⟩
        case measure => first | (simp [intOf]; done) | (simp [intOf]; omega)
    · obtain rfl : m = m0 := by omega
      clear HLT
      have hstop : (∃ h : m < s.size, Tk.letter s[m] = false ∧ Dec.isDig s[m] = false) ∨ m = s.size := by
        rcases Nat.lt_or_ge m s.size with h | h
        · exact .inl ⟨h, idb_no (HEND.out h)⟩
        · exact .inr (by omega)
      clear HEND
      rcases HOUT.out with ⟨h1, ho⟩ | ⟨h1, ho⟩
      · have HO := Lib.hid ho
        rw [h1] at HI
        clear ho h1 HOUT
        generalize itV T = v at *
        rcases hstop with ⟨h, hl, hd⟩ | h
        · have H1 := Lib.hid (fun W => spec_letter s[m] W)
          have H2 := Lib.hid (fun W => spec_digit s[m] W)
          have hmsi : (m : Int) < s.size := by omega
          rw [hl] at H1
          rw [hd] at H2
          clear hl hd
          go_wp2_with (first | (go_at_call 16; refine (H1.out _).mono ?_; rintro e w3 ⟨rfl, rfl⟩) | (go_at_call 17; refine (H2.out _).mono ?_; rintro e w4 ⟨rfl, rfl⟩) | (go_at_call 20; refine (HI.out _).mono ?_; rintro e w5 ⟨rfl, rfl⟩) | (go_at_call 21; refine (HFM.out _).mono ?_; rintro e w6 ⟨rfl, hb6⟩; have HB6 := Lib.hid (below_step (bl1 _ _) hb6); obtain ⟨⟨r0, r1, r2⟩, f0, f1, f2⟩ := HF0.out.later hb6; clear hb6))
          exact bodyPost_ret (v := .tuple #[.agg #[.int .i64 3, .string (str8 (Dec.fmt v)), .int .i64 0], .int .i64 m]) (by simp [results, Tryd.results9, go_sem, r0, r1, r2]; rfl) rfl ⟨one_eq (k := 3) HO.out HMI.out, below_store3 HB6.out (Nat.le_refl _) _ _ _⟩
        · have hmsi : ¬ (m : Int) < s.size := by omega
          clear h
          go_wp2_with (first | (go_at_call 20; refine (HI.out _).mono ?_; rintro e w5 ⟨rfl, rfl⟩) | (go_at_call 21; refine (HFM.out _).mono ?_; rintro e w6 ⟨rfl, hb6⟩; have HB6 := Lib.hid (below_step (bl1 _ _) hb6); obtain ⟨⟨r0, r1, r2⟩, f0, f1, f2⟩ := HF0.out.later hb6; clear hb6))
          exact bodyPost_ret (v := .tuple #[.agg #[.int .i64 3, .string (str8 (Dec.fmt v)), .int .i64 0], .int .i64 m]) (by simp [results, Tryd.results9, go_sem, r0, r1, r2]; rfl) rfl ⟨one_eq (k := 3) HO.out HMI.out, below_store3 HB6.out (Nat.le_refl _) _ _ _⟩
      · have HO := Lib.hid ho
        rw [h1] at HI
        clear ho h1 HOUT HFM HSTR
        generalize itV T = v at *
        rcases hstop with ⟨h, hl, hd⟩ | h
        · have H1 := Lib.hid (fun W => spec_letter s[m] W)
          have H2 := Lib.hid (fun W => spec_digit s[m] W)
          have hmsi : (m : Int) < s.size := by omega
          rw [hl] at H1
          rw [hd] at H2
          clear hl hd
          go_wp2_with (first | (go_at_call 16; refine (H1.out _).mono ?_; rintro e w3 ⟨rfl, rfl⟩) | (go_at_call 17; refine (H2.out _).mono ?_; rintro e w4 ⟨rfl, rfl⟩) | (go_at_call 20; refine (HI.out _).mono ?_; rintro e w5 ⟨rfl, rfl⟩))
          exact bodyPost_ret (v := .tuple #[.agg #[.int .i64 0, .string ByteArray.empty, .int .i64 0], .int .i64 (-1)]) (by simp [results, Tryd.results9, go_sem]; rfl) rfl ⟨one_no HO.out, bl1 _ _⟩
        · have hmsi : ¬ (m : Int) < s.size := by omega
          clear h
          go_wp2_with (first | (go_at_call 20; refine (HI.out _).mono ?_; rintro e w5 ⟨rfl, rfl⟩))
          exact bodyPost_ret (v := .tuple #[.agg #[.int .i64 0, .string ByteArray.empty, .int .i64 0], .int .i64 (-1)]) (by simp [results, Tryd.results9, go_sem]; rfl) rfl ⟨one_no HO.out, bl1 _ _⟩
end Go.Proofs.YtfhakailbikjkaaDoor
