/- IntegerOfText of the reference model, and the walk of the law on it. No conditions. -/
import Derived.Test.YtlbidfegcfcaiaaDoorI1
import Derived.Lib.TrimByte
namespace Go.Proofs.YtlbidfegcfcaiaaDoor
open Go.RowKit
set_option linter.unusedVariables false

/-- Blanks stand from a to b. -/
def Bks (S : List UInt8) (a b : Nat) : Prop := ∀ (j : Nat) x, a ≤ j → j < b → S[j]? = some x → x = 32
theorem trim_at {S : List UInt8} {k m : Nat} (h1 : k ≤ m) (h2 : m ≤ S.length) (hk : Bks S 0 k) (hm : Bks S m S.length) (hx : ∀ x, S[k]? = some x → x ≠ 32) (hy : k < m → ∀ x, S[m - 1]? = some x → x ≠ 32) (hz : k < S.length → k < m) : Lib.trimB S 32 = (S.take m).drop k := by
  have lt : ∀ {j : Nat} {x : UInt8}, S[j]? = some x → j < S.length := fun h => (List.getElem?_eq_some_iff.1 h).1
  unfold Lib.trimB
  by_cases hl : k < S.length
  · have hkm := hz hl
    rw [Lib.trimRightB_take S 32 m h2 (fun j b hj hb => hm j b hj (lt hb) hb) (fun b _ hb => hy hkm b hb)]
    refine Lib.trimLeftB_drop _ 32 k (by rw [List.length_take]; omega) (fun j b hj hb => ?_) (fun b hb => ?_)
    · rw [List.getElem?_take_of_lt (by omega)] at hb
      exact hk j b (by omega) hj hb
    · rw [List.getElem?_take_of_lt (by omega)] at hb
      exact hx b hb
  · rw [Lib.trimRightB_take S 32 0 (by omega) (fun j b hj hb => hk j b hj (by have := lt hb; omega) hb) (fun b h0 _ => by omega)]
    rw [List.drop_eq_nil_of_le (by rw [List.length_take]; omega)]
    rfl
theorem bks_succ {S : List UInt8} {k : Nat} (h : Bks S 0 k) (hk : k < S.length) (hb : S[k] = 32) : Bks S 0 (k + 1) := by
  intro j x h0 h1 h2
  by_cases e : j = k
  · subst e; rw [List.getElem?_eq_getElem hk] at h2; cases h2; exact hb
  · exact h j x h0 (by omega) h2
theorem bks_back {S : List UInt8} {n : Nat} (h : Bks S (n + 1) S.length) (hk : n < S.length) (hb : S[n] = 32) : Bks S n S.length := by
  intro j x h0 h1 h2
  by_cases e : j = n
  · subst e; rw [List.getElem?_eq_getElem hk] at h2; cases h2; exact hb
  · exact h j x (by omega) h1 h2
/-- What stands from q to j. -/
def mid (S : List UInt8) (q j : Nat) : List UInt8 := (S.take j).drop q
theorem mid_len {S : List UInt8} {q j : Nat} (hj : j ≤ S.length) : (mid S q j).length = j - q := by unfold mid; rw [List.length_drop, List.length_take]; omega
theorem mid_succ {S : List UInt8} {q j : Nat} (hj : j < S.length) (hq : q ≤ j) : mid S q (j + 1) = mid S q j ++ [S[j]] := by
  unfold mid
  rw [List.take_succ_eq_append_getElem hj, List.drop_append_of_le_length (by rw [List.length_take]; omega)]
theorem mid_nil {S : List UInt8} (q : Nat) : mid S q q = [] := by unfold mid; exact List.drop_eq_nil_of_le (by rw [List.length_take]; omega)
theorem mid_head {S : List UInt8} {k m : Nat} (hm : m ≤ S.length) (h : k < m) : mid S k m = S[k]'(by omega) :: mid S (k + 1) m := by
  unfold mid
  rw [List.drop_eq_getElem_cons (by rw [List.length_take]; omega), List.getElem_take]
theorem mid_mem {S : List UInt8} {q j m : Nat} (hm : m ≤ S.length) (hq : q ≤ j) (hj : j < m) : S[j]'(by omega) ∈ mid S q m := by
  unfold mid
  rw [List.mem_drop_iff_getElem]
  exact ⟨j - q, by rw [List.length_take]; omega, by rw [List.getElem_take]; congr 1; omega⟩
/-- Digits so far. -/
def DigsM (S : List UInt8) (q j : Nat) : Prop := (mid S q j).all Dec.isDig = true
theorem mid_bound {S : List UInt8} {q j : Nat} (hj : j ≤ S.length) (h : j - q ≤ 12) (ha : DigsM S q j) : Dec.val (mid S q j) < 1000000000000 := by
  have h1 := Dec.val_lt _ ha
  rw [mid_len hj] at h1
  have h2 : 10 ^ (j - q) ≤ 10 ^ 12 := Nat.pow_le_pow_right (by omega) (by omega)
  have h3 : (10 : Nat) ^ 12 = 1000000000000 := by rfl
  omega
theorem it_none {T : List UInt8} (h : itB T = false) : itV T = 0 := by
  have e : Dec.dvv 12 (itD T) = 0 := by unfold Dec.dvv; rw [if_neg (by unfold itB at h; rw [h]; simp)]
  unfold itV
  rw [e]; simp
/-- The sign has been read. -/
def Sgn (T D : List UInt8) (neg : Bool) : Prop := itD T = D ∧ itN T = neg
theorem sgn_no {T D : List UInt8} {neg : Bool} (h : Hid (Sgn T D neg)) (hd : Dec.dok 12 D = false) : itB T = false ∧ itV T = 0 := by
  have e : itB T = false := by unfold itB; rw [h.out.1]; exact hd
  exact ⟨e, it_none e⟩
theorem sgn_yes {T D : List UInt8} {neg : Bool} (h : Hid (Sgn T D neg)) (hd : Dec.dok 12 D = true) : itB T = true ∧ itV T = if neg = true then -(Dec.val D : Int) else Dec.val D := by
  have e : itB T = true := by unfold itB; rw [h.out.1]; exact hd
  refine ⟨e, ?_⟩
  unfold itV
  rw [h.out.1, h.out.2]
  unfold Dec.dvv
  rw [if_pos hd]
theorem ne_nat8 {a b : UInt8} (h : a ≠ b) : ((a.toNat : Int) == (b.toNat : Int)) = false := by
  have h2 : ¬ a.toNat = b.toNat := fun e => h (UInt8.toNat_inj.1 e)
  simp; omega
theorem g8 (s : ByteArray) (k : Nat) (h : k < s.size) : s[k] = s.data.toList[k]'h := rfl

set_option maxHeartbeats 1600000 in
theorem spec_it (s : ByteArray) (w : World) (hs : (s.size : Int) ≤ 1048576) : Calls Tryd.prog 29 #[.string s] w fun e w' => e = .returned (.tuple #[.int .i64 (itV (Lib.trimB s.data.toList 32)), .bool (itB (Lib.trimB s.data.toList 32))]) ∧ w = w' := by
  generalize hT : Lib.trimB s.data.toList 32 = T
  have HT := Lib.hid hT
  have HL := Lib.hid (len8 s)
  clear hT
  go_enter Tryd.func29, Tryd.ntmps29
  go_wp2
  go_loop [4] (fun i => ∃ k : Nat, i = .int .i64 k ∧ k ≤ s.size ∧ Bks s.data.toList 0 k) (fun i => s.size - (intOf i).toNat)
  case atStart => exact ⟨0, rfl, by omega, fun j x _ h => by omega⟩
  case round =>
    obtain ⟨k, rfl, hk, hb⟩ := hrel
    have HB := Lib.hid hb
    clear hb
    rcases (show (∃ h : k < s.size, s[k] = 32) ∨ (∃ h : k < s.size, s[k] ≠ 32) ∨ k = s.size by
      rcases Nat.lt_or_ge k s.size with h | h
      · by_cases e : s[k] = 32
        · exact .inl ⟨h, e⟩
        · exact .inr (.inl ⟨h, e⟩)
      · exact .inr (.inr (by omega))) with ⟨h, e⟩ | ⟨h, e⟩ | h
    · have t : ((s[k].toNat : Int) == 32) = true := by rw [e]; rfl
      have HN := Lib.hid (bks_succ HB.out h e)
      clear e
      go_wp2
      go_round
      case rel => exact ⟨k + 1, by go_num, by omega, HN.out⟩
      case measure => first | (simp [intOf]; done) | (simp [intOf]; omega)
    · have t : ((s[k].toNat : Int) == 32) = false := ne_nat8 e
      have HX : Hid (∀ x, s.data.toList[k]? = some x → x ≠ 32) := fun x hx => by rw [List.getElem?_eq_getElem h] at hx; cases hx; exact e
      clear e
      go_wp2
      go_loop [5] (fun i => ∃ m : Nat, i = .int .i64 m ∧ k < m ∧ m ≤ s.size ∧ Bks s.data.toList m s.size) (fun i => (intOf i).toNat)
      case atStart => exact ⟨s.size, rfl, h, by omega, fun j x h1 h2 => by omega⟩
      case round =>
        obtain ⟨m, rfl, hkm, hm, hb2⟩ := hrel
        have HB2 := Lib.hid hb2
        clear hb2
        obtain ⟨n, rfl⟩ : ∃ n, m = n + 1 := ⟨m - 1, by omega⟩
        have hn : n < s.size := by omega
        have d1 : (k : Int) < (n : Int) + 1 := by omega
        by_cases e : s[n] = 32
        · have t2 : ((s[n].toNat : Int) == 32) = true := by rw [e]; rfl
          have hkn : k < n := by
            rcases Nat.lt_or_ge k n with h | h
            · exact h
            · obtain rfl : k = n := by omega
              exact absurd e (HX.out _ (by rw [List.getElem?_eq_getElem (show k < s.data.toList.length from hn)]; rfl))
          have HN := Lib.hid (bks_back (S := s.data.toList) (by rw [HL.out]; exact HB2.out) hn e)
          clear e
          go_wp2
          go_round
          case rel => exact ⟨n, by first | rfl | go_num | (congr 1; omega), hkn, by omega, by rw [← HL.out]; exact HN.out⟩
          case measure => first | (simp [intOf]; done) | (simp [intOf]; omega)
        · have t2 : ((s[n].toNat : Int) == 32) = false := ne_nat8 e
          have HM : Hid (T = mid s.data.toList k (n + 1)) := HT.out.symm.trans (trim_at (by omega) (by rw [HL.out]; omega) HB.out (by rw [HL.out]; exact HB2.out) HX.out (fun _ x hx => by rw [Nat.add_sub_cancel, List.getElem?_eq_getElem (show n < s.data.toList.length from hn)] at hx; cases hx; exact e) (fun _ => by omega))
          have HH : Hid (T = s[k] :: mid s.data.toList (k + 1) (n + 1)) := HM.out.trans (mid_head (by rw [HL.out]; omega) (by omega))
          clear e HT HX HB HB2 t
          generalize hs0 : s[k] = c at HH
          have HS0 := Lib.hid hs0
          clear hs0
          rcases (show c = 45 ∨ (c ≠ 45 ∧ c = 43) ∨ (c ≠ 45 ∧ c ≠ 43) by by_cases h1 : c = 45; exact .inl h1; by_cases h2 : c = 43; exact .inr (.inl ⟨h1, h2⟩); exact .inr (.inr ⟨h1, h2⟩)) with h1 | ⟨h1, h2⟩ | ⟨h1, h2⟩
          · have u1 : ((s[k].toNat : Int) == 45) = true := by rw [HS0.out, h1]; rfl
            have HG : Hid (Sgn T (mid s.data.toList (k + 1) (n + 1)) true) := by
              show _ ∧ _
              rw [HH.out, h1]; exact ⟨rfl, rfl⟩
            clear h1 HH HM HS0
            have hq : k + 1 ≤ n + 1 := by omega
            by_cases hr : 1 ≤ n + 1 - (k + 1) ∧ n + 1 - (k + 1) ≤ 12
            · have r1 : ¬ ((n : Int) + 1 - ((k : Int) + 1)) < 1 := by omega
              have r2 : ¬ (12 : Int) < ((n : Int) + 1 - ((k : Int) + 1)) := by omega
              go_wp2
              go_loop [4, 7] (fun i v => ∃ j : Nat, i = .int .i64 j ∧ k + 1 ≤ j ∧ j ≤ n + 1 ∧ v = .int .i64 (Dec.val (mid s.data.toList (k + 1) j)) ∧ DigsM s.data.toList (k + 1) j) (fun i _ => n + 1 - (intOf i).toNat)
              case atStart => exact ⟨k + 1, by first | rfl | go_num, by omega, by omega, by rw [mid_nil]; rfl, by unfold DigsM; rw [mid_nil]; rfl⟩
              case round =>
                obtain ⟨j, rfl, hj1, hj2, rfl, ha⟩ := hrel
                have hb := mid_bound (q := k + 1) (by rw [HL.out]; omega) (by omega) ha
                have HA := Lib.hid ha
                clear ha
                by_cases hlt : j < n + 1
                · have hjs : j < s.size := by omega
                  have hlti : (j : Int) < (n : Int) + 1 := by omega
                  rcases dig_cases s[j] with ⟨hd, d2, d3⟩ | ⟨hd, d2⟩ | ⟨hd, d2, d3⟩
                  · have HD := Lib.hid hd
                    clear hd
                    go_wp2
                    go_round
                    case rel => exact ⟨j + 1, by go_num, by omega, by omega, ret_val (by rw [mid_succ (by rw [HL.out]; omega) (by omega), Dec.val_snoc, ← g8 s j hjs]; omega), by unfold DigsM; rw [mid_succ (by rw [HL.out]; omega) (by omega), List.all_append, HA.out]; show (true && (Dec.isDig s[j] && true)) = true; rw [HD.out]; rfl⟩
                    case measure => first | (simp [intOf]; done) | (simp [intOf]; omega)
                  all_goals
                    have HD := Lib.hid hd
                    clear hd
                    go_wp2
                    go_ret2
                    have hno : Dec.dok 12 (mid s.data.toList (k + 1) (n + 1)) = false := Dec.dok_dig (by rw [List.all_eq_false]; exact ⟨s[j], mid_mem (by rw [HL.out]; omega) (by omega) hlt, by rw [HD.out]; simp⟩)
                    obtain ⟨e1, e2⟩ := sgn_no HG hno
                    exact ⟨ret_pair e2.symm e1.symm, rfl⟩
                · obtain rfl : j = n + 1 := by omega
                  have HY := Lib.hid (sgn_yes HG (Dec.dok_yes (by rw [mid_len (by rw [HL.out]; omega)]; omega) (by rw [mid_len (by rw [HL.out]; omega)]; omega) HA.out))
                  clear HA HG
                  generalize Dec.val (mid s.data.toList (k + 1) (n + 1)) = x at *
                  go_wp2
                  go_ret2
                  exact ⟨ret_pair (by rw [HY.out.2]; first | rfl | simp) HY.out.1.symm, rfl⟩
            · obtain ⟨e1, e2⟩ := sgn_no HG (Dec.dok_len (by rw [mid_len (by rw [HL.out]; omega)]; omega))
              have E1 := Lib.hid e1
              have E2 := Lib.hid e2
              clear e1 e2 HG
              rcases (show (n : Int) + 1 - ((k : Int) + 1) < 1 ∨ ((1 : Int) ≤ (n : Int) + 1 - ((k : Int) + 1) ∧ (12 : Int) < (n : Int) + 1 - ((k : Int) + 1)) by omega) with r1 | ⟨r1, r2⟩
              all_goals
                go_wp2
                go_ret2
                exact ⟨ret_pair E2.out.symm E1.out.symm, rfl⟩
          · have u1 : ((s[k].toNat : Int) == 45) = false := by rw [HS0.out, h2]; rfl
            have u2 : ((s[k].toNat : Int) == 43) = true := by rw [HS0.out, h2]; rfl
            have HG : Hid (Sgn T (mid s.data.toList (k + 1) (n + 1)) false) := by
              show _ ∧ _
              rw [HH.out, h2]; exact ⟨rfl, rfl⟩
            clear h1 h2 HH HM HS0
            have hq : k + 1 ≤ n + 1 := by omega
            by_cases hr : 1 ≤ n + 1 - (k + 1) ∧ n + 1 - (k + 1) ≤ 12
            · have r1 : ¬ ((n : Int) + 1 - ((k : Int) + 1)) < 1 := by omega
              have r2 : ¬ (12 : Int) < ((n : Int) + 1 - ((k : Int) + 1)) := by omega
              go_wp2
              go_loop [4, 7] (fun i v => ∃ j : Nat, i = .int .i64 j ∧ k + 1 ≤ j ∧ j ≤ n + 1 ∧ v = .int .i64 (Dec.val (mid s.data.toList (k + 1) j)) ∧ DigsM s.data.toList (k + 1) j) (fun i _ => n + 1 - (intOf i).toNat)
              case atStart => exact ⟨k + 1, by first | rfl | go_num, by omega, by omega, by rw [mid_nil]; rfl, by unfold DigsM; rw [mid_nil]; rfl⟩
              case round =>
                obtain ⟨j, rfl, hj1, hj2, rfl, ha⟩ := hrel
                have hb := mid_bound (q := k + 1) (by rw [HL.out]; omega) (by omega) ha
                have HA := Lib.hid ha
                clear ha
                by_cases hlt : j < n + 1
                · have hjs : j < s.size := by omega
                  have hlti : (j : Int) < (n : Int) + 1 := by omega
                  rcases dig_cases s[j] with ⟨hd, d2, d3⟩ | ⟨hd, d2⟩ | ⟨hd, d2, d3⟩
                  · have HD := Lib.hid hd
                    clear hd
                    go_wp2
                    go_round
                    case rel => exact ⟨j + 1, by go_num, by omega, by omega, ret_val (by rw [mid_succ (by rw [HL.out]; omega) (by omega), Dec.val_snoc, ← g8 s j hjs]; omega), by unfold DigsM; rw [mid_succ (by rw [HL.out]; omega) (by omega), List.all_append, HA.out]; show (true && (Dec.isDig s[j] && true)) = true; rw [HD.out]; rfl⟩
                    case measure => first | (simp [intOf]; done) | (simp [intOf]; omega)
                  all_goals
                    have HD := Lib.hid hd
                    clear hd
                    go_wp2
                    go_ret2
                    have hno : Dec.dok 12 (mid s.data.toList (k + 1) (n + 1)) = false := Dec.dok_dig (by rw [List.all_eq_false]; exact ⟨s[j], mid_mem (by rw [HL.out]; omega) (by omega) hlt, by rw [HD.out]; simp⟩)
                    obtain ⟨e1, e2⟩ := sgn_no HG hno
                    exact ⟨ret_pair e2.symm e1.symm, rfl⟩
                · obtain rfl : j = n + 1 := by omega
                  have HY := Lib.hid (sgn_yes HG (Dec.dok_yes (by rw [mid_len (by rw [HL.out]; omega)]; omega) (by rw [mid_len (by rw [HL.out]; omega)]; omega) HA.out))
                  clear HA HG
                  generalize Dec.val (mid s.data.toList (k + 1) (n + 1)) = x at *
                  go_wp2
                  go_ret2
                  exact ⟨ret_pair (by rw [HY.out.2]; first | rfl | simp) HY.out.1.symm, rfl⟩
            · obtain ⟨e1, e2⟩ := sgn_no HG (Dec.dok_len (by rw [mid_len (by rw [HL.out]; omega)]; omega))
              have E1 := Lib.hid e1
              have E2 := Lib.hid e2
              clear e1 e2 HG
              rcases (show (n : Int) + 1 - ((k : Int) + 1) < 1 ∨ ((1 : Int) ≤ (n : Int) + 1 - ((k : Int) + 1) ∧ (12 : Int) < (n : Int) + 1 - ((k : Int) + 1)) by omega) with r1 | ⟨r1, r2⟩
              all_goals
                go_wp2
                go_ret2
                exact ⟨ret_pair E2.out.symm E1.out.symm, rfl⟩
          · have u1 : ((s[k].toNat : Int) == 45) = false := by rw [HS0.out]; exact ne_nat8 h1
            have u2 : ((s[k].toNat : Int) == 43) = false := by rw [HS0.out]; exact ne_nat8 h2
            have HG : Hid (Sgn T (mid s.data.toList k (n + 1)) false) := by
              show _ ∧ _
              rw [← HM.out, HH.out]
              unfold itD itN
              refine ⟨if_neg ?_, ?_⟩
              · rintro (h | h)
                · exact h1 (by simpa using h)
                · exact h2 (by simpa using h)
              · simpa using h1
            clear h1 h2 HH HM HS0
            have hq : k ≤ n + 1 := by omega
            by_cases hr : 1 ≤ n + 1 - (k) ∧ n + 1 - (k) ≤ 12
            · have r1 : ¬ ((n : Int) + 1 - ((k : Int))) < 1 := by omega
              have r2 : ¬ (12 : Int) < ((n : Int) + 1 - ((k : Int))) := by omega
              go_wp2
              go_loop [4, 7] (fun i v => ∃ j : Nat, i = .int .i64 j ∧ k ≤ j ∧ j ≤ n + 1 ∧ v = .int .i64 (Dec.val (mid s.data.toList (k) j)) ∧ DigsM s.data.toList (k) j) (fun i _ => n + 1 - (intOf i).toNat)
              case atStart => exact ⟨k, by first | rfl | go_num, by omega, by omega, by rw [mid_nil]; rfl, by unfold DigsM; rw [mid_nil]; rfl⟩
              case round =>
                obtain ⟨j, rfl, hj1, hj2, rfl, ha⟩ := hrel
                have hb := mid_bound (q := k) (by rw [HL.out]; omega) (by omega) ha
                have HA := Lib.hid ha
                clear ha
                by_cases hlt : j < n + 1
                · have hjs : j < s.size := by omega
                  have hlti : (j : Int) < (n : Int) + 1 := by omega
                  rcases dig_cases s[j] with ⟨hd, d2, d3⟩ | ⟨hd, d2⟩ | ⟨hd, d2, d3⟩
                  · have HD := Lib.hid hd
                    clear hd
                    go_wp2
                    go_round
                    case rel => exact ⟨j + 1, by go_num, by omega, by omega, ret_val (by rw [mid_succ (by rw [HL.out]; omega) (by omega), Dec.val_snoc, ← g8 s j hjs]; omega), by unfold DigsM; rw [mid_succ (by rw [HL.out]; omega) (by omega), List.all_append, HA.out]; show (true && (Dec.isDig s[j] && true)) = true; rw [HD.out]; rfl⟩
                    case measure => first | (simp [intOf]; done) | (simp [intOf]; omega)
                  all_goals
                    have HD := Lib.hid hd
                    clear hd
                    go_wp2
                    go_ret2
                    have hno : Dec.dok 12 (mid s.data.toList (k) (n + 1)) = false := Dec.dok_dig (by rw [List.all_eq_false]; exact ⟨s[j], mid_mem (by rw [HL.out]; omega) (by omega) hlt, by rw [HD.out]; simp⟩)
                    obtain ⟨e1, e2⟩ := sgn_no HG hno
                    exact ⟨ret_pair e2.symm e1.symm, rfl⟩
                · obtain rfl : j = n + 1 := by omega
                  have HY := Lib.hid (sgn_yes HG (Dec.dok_yes (by rw [mid_len (by rw [HL.out]; omega)]; omega) (by rw [mid_len (by rw [HL.out]; omega)]; omega) HA.out))
                  clear HA HG
                  generalize Dec.val (mid s.data.toList (k) (n + 1)) = x at *
                  go_wp2
                  go_ret2
                  exact ⟨ret_pair (by rw [HY.out.2]; first | rfl | simp) HY.out.1.symm, rfl⟩
            · obtain ⟨e1, e2⟩ := sgn_no HG (Dec.dok_len (by rw [mid_len (by rw [HL.out]; omega)]; omega))
              have E1 := Lib.hid e1
              have E2 := Lib.hid e2
              clear e1 e2 HG
              rcases (show (n : Int) + 1 - ((k : Int)) < 1 ∨ ((1 : Int) ≤ (n : Int) + 1 - ((k : Int)) ∧ (12 : Int) < (n : Int) + 1 - ((k : Int))) by omega) with r1 | ⟨r1, r2⟩
              all_goals
                go_wp2
                go_ret2
                exact ⟨ret_pair E2.out.symm E1.out.symm, rfl⟩
    · obtain rfl := h
      have hT0 : T = [] := HT.out.symm.trans (trim_at (m := s.size) (by omega) (by rw [HL.out]; omega) HB.out (by rw [HL.out]; exact fun j x h1 h2 => by omega) (fun x hx => by have := (List.getElem?_eq_some_iff.1 hx).1; rw [HL.out] at this; omega) (fun h => by omega) (fun h => by rw [HL.out] at h; omega) |>.trans (mid_nil _))
      subst hT0
      clear HT
      go_wp2
      go_loop [5] (fun i => i = .int .i64 s.size) (fun i => (intOf i).toNat)
      case atStart => exact rfl
      case round =>
        obtain rfl := hrel
        go_wp2
        go_ret2
        exact ⟨rfl, rfl⟩

end Go.Proofs.YtlbidfegcfcaiaaDoor
