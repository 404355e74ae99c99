/- The reference model's reading of a sign and digits: what it answers at every string, for at most 12 digits. -/
import Derived.Test.YtjgnigalodebkaaW3
namespace Go.Proofs.Ytjgnigalodebkaa
open Go.RowKit

set_option maxHeartbeats 400000 in
theorem rd_plain (s : ByteArray) (m : Nat) (w : World) (hs : s.size ≤ maxLen) (h1 : (m : Int) ≤ 12) (c0 : 0 < s.size) (c1 : (s.size : Int) ≤ m) (c2 : ((s[0].toNat : Int) == 45) = false) :
    Calls Try.prog 35 #[.string s, .int .i64 m] w fun e w' => e = .returned (.tuple #[.int .i64 (Dec.pdv m s.data.toList), .bool (Dec.good m s.data.toList)]) ∧ Below w.heap.size w w' := by
  unfold maxLen at hs
  have HL := Lib.hid (size_eq s)
  have h13 : (s.size : Int) ≤ 12 := by omega
  go_enter Try.func35, Try.ntmps35
  go_wp2
  go_loop [4, 5, 8, 9] (fun _ _ n i => ∃ k : Nat, k ≤ s.size ∧ i = .int .i64 k ∧ n = .int .i64 (Dec.val (s.data.toList.take k)) ∧ DigTo s k) (fun _ _ _ i => s.size - (intOf i).toNat)
  case atStart => exact ⟨0, Nat.zero_le _, rfl, rfl, rfl⟩
  case round =>
    obtain ⟨k, hk, rfl, rfl, ha⟩ := hrel
    have hb := Dec.val_take_bound (k := k) (by omega) ha
    have HA := Lib.hid ha
    clear ha
    by_cases hlt : k < s.size
    · rcases dig_cases s[k] with ⟨hd, d1, d2⟩ | ⟨hd, d1⟩ | ⟨hd, d1, d2⟩
      · have HD := Lib.hid hd
        clear hd
        go_wp2
        go_round
        case rel =>
          (repeat apply Exists.intro)
          exact ⟨⟨k + 1, by omega, by go_num, ret_val (by rw [Dec.val_take_succ (by have := HL.out; omega), ← get_eq]; omega), Dec.all_take_succ (by have := HL.out; omega) HA.out (by rw [← get_eq]; exact HD.out)⟩, rfl, rfl, rfl, rfl⟩
        case measure => simp [intOf]; omega
      · have HD := Lib.hid hd
        clear hd
        go_wp2
        go_ret2
        have hg : Dec.good m s.data.toList = false := Dec.good_dig (Dec.not_all (k := k) (by have := HL.out; omega) (by rw [← get_eq]; exact HD.out))
        exact ⟨ret_pair (by unfold Dec.pdv; rw [hg]; rfl) hg.symm, Below.refl _ _⟩
      · have HD := Lib.hid hd
        clear hd
        go_wp2
        go_ret2
        have hg : Dec.good m s.data.toList = false := Dec.good_dig (Dec.not_all (k := k) (by have := HL.out; omega) (by rw [← get_eq]; exact HD.out))
        exact ⟨ret_pair (by unfold Dec.pdv; rw [hg]; rfl) hg.symm, Below.refl _ _⟩
    · have hk2 : s.size ≤ k := by omega
      have hf0 : Dec.good m s.data.toList = (Dec.fmt ↑(Dec.val (s.data.toList.take k)) == s.toList) := by
        have ha := HA.out
        have hl := HL.out
        unfold DigTo at ha
        rw [List.take_of_length_le (by omega)] at ha ⊢
        rw [Dec.good_form (by omega) (by omega) ha, Dec.fmt_nn _ (by omega), tl]; rfl
      have HF := Lib.hid hf0
      clear hf0
      cases hf : (Dec.fmt ↑(Dec.val (s.data.toList.take k)) == s.toList)
      · have hf1 : (!Dec.fmt ↑(Dec.val (s.data.toList.take k)) == s.toList) = true := by rw [hf]; rfl
        have hg : Dec.good m s.data.toList = false := HF.out.trans hf
        have HG := Lib.hid hg
        clear hg hf HF
        go_wp2_with (go_at_call 47; refine (spec_fmt _ _ (by omega) (by omega)).mono ?_; rintro e w1 ⟨rfl, b1⟩)
        go_ret2
        exact ⟨ret_pair (by unfold Dec.pdv; rw [HG.out]; rfl) HG.out.symm, b1⟩
      · have hf1 : (!Dec.fmt ↑(Dec.val (s.data.toList.take k)) == s.toList) = false := by rw [hf]; rfl
        have hg : Dec.good m s.data.toList = true := HF.out.trans hf
        have HG := Lib.hid hg
        clear hg hf HF
        go_wp2_with (go_at_call 47; refine (spec_fmt _ _ (by omega) (by omega)).mono ?_; rintro e w1 ⟨rfl, b1⟩)
        go_ret2
        exact ⟨ret_pair (by unfold Dec.pdv; rw [HG.out, List.take_of_length_le (by have := HL.out; omega)]; rfl) HG.out.symm, b1⟩

theorem ext_data (s : ByteArray) (a : Nat) : (s.extract a s.size).data.toList = s.data.toList.drop a := by
  simp only [ByteArray.data_extract, Array.toList_extract, List.extract_eq_take_drop]
  exact List.take_of_length_le (by rw [List.length_drop, ← size_eq]; exact Nat.le_refl _)

theorem tail_drop (s : ByteArray) {t : ByteArray} (h : t.data.toList = s.data.toList.drop 1) : t.data.toList = s.data.toList.tail := by rw [h, List.drop_one]

theorem minus_no (m : Nat) {s t : ByteArray} (hh : s.data.toList.head? = some 45) (ht : t.data.toList = s.data.toList.drop 1) (hg : Dec.good m t.data.toList = false) : Dec.rdb m s.data.toList = false := by
  unfold Dec.rdb; rw [if_pos hh, ← tail_drop s ht, hg]; rfl
theorem minus_val_no (m : Nat) {s t : ByteArray} (hh : s.data.toList.head? = some 45) (ht : t.data.toList = s.data.toList.drop 1) (hg : Dec.good m t.data.toList = false) : Dec.rdv m s.data.toList = 0 := by
  unfold Dec.rdv; rw [minus_no m hh ht hg]; rfl
theorem minus_form (m : Nat) {s t : ByteArray} (hh : s.data.toList.head? = some 45) (ht : t.data.toList = s.data.toList.drop 1) (h0 : 1 ≤ t.data.toList.length) (h1 : t.data.toList.length ≤ m) (ha : t.data.toList.all Dec.isDig = true) :
    Dec.rdb m s.data.toList = (Dec.fmt (-(Dec.val t.data.toList : Int)) == s.data.toList) := by
  unfold Dec.rdb
  rw [if_pos hh, ← tail_drop s ht, Dec.good_form h0 h1 ha]
  have e : s.data.toList = 45 :: t.data.toList := by
    rw [tail_drop s ht]
    cases h : s.data.toList with
    | nil => rw [h] at hh; simp at hh
    | cons c l => rw [h] at hh; simp at hh; simp [hh]
  rw [e]
  generalize t.data.toList = l
  by_cases hv : Dec.val l = 0
  · rw [hv]
    have e2 : Dec.fmt (-((0 : Nat) : Int)) = [48] := rfl
    rw [e2]; simp
  · rw [Dec.fmt_neg _ (by omega), show (-(-(Dec.val l : Int))).toNat = Dec.val l by omega]
    simp [show 0 < Dec.val l by omega]

set_option maxHeartbeats 400000 in
theorem rd_minus (s : ByteArray) (m : Nat) (w : World) (hs : s.size ≤ maxLen) (h1 : (m : Int) ≤ 12) (c0 : 0 < s.size) (c1 : 2 ≤ (s.size : Int)) (c3 : (s.size : Int) ≤ m + 1) (c2 : ((s[0].toNat : Int) == 45) = true) :
    Calls Try.prog 35 #[.string s, .int .i64 m] w fun e w' => e = .returned (.tuple #[.int .i64 (Dec.rdv m s.data.toList), .bool (Dec.rdb m s.data.toList)]) ∧ Below w.heap.size w w' := by
  unfold maxLen at hs
  have HH := Lib.hid ((head_eq s c0 45).2 (by simpa using c2))
  have c4 : ((s.size - 1 : Nat) : Int) ≤ m := by omega
  have c5 : 1 ≤ ((s.size - 1 : Nat) : Int) := by omega
  go_enter Try.func35, Try.ntmps35
  go_wp2
  have HT := Lib.hid (ext_data s 1)
  generalize s.extract 1 s.size = t at HT ⊢
  have HS : Hid (t.size = s.size - 1) := by
    have h := congrArg List.length HT.out
    rw [List.length_drop, ← size_eq, ← size_eq] at h; exact h
  have HL := Lib.hid (size_eq t)
  have ht1 : (t.size : Int) ≤ m := by have := HS.out; omega
  have ht2 : 1 ≤ (t.size : Int) := by have := HS.out; omega
  have h13 : (t.size : Int) ≤ 12 := by omega
  go_loop [4, 5, 8, 9] (fun _ _ n i => ∃ k : Nat, k ≤ t.size ∧ i = .int .i64 k ∧ n = .int .i64 (Dec.val (t.data.toList.take k)) ∧ DigTo t k) (fun _ _ _ i => t.size - (intOf i).toNat)
  case atStart => exact ⟨0, Nat.zero_le _, rfl, rfl, rfl⟩
  case round =>
    obtain ⟨k, hk, rfl, rfl, ha⟩ := hrel
    have hb := Dec.val_take_bound (k := k) (by omega) ha
    have HA := Lib.hid ha
    clear ha
    by_cases hlt : k < t.size
    · rcases dig_cases t[k] with ⟨hd, d1, d2⟩ | ⟨hd, d1⟩ | ⟨hd, d1, d2⟩
      · have HD := Lib.hid hd
        clear hd
        go_wp2
        go_round
        case rel =>
          (repeat apply Exists.intro)
          exact ⟨⟨k + 1, by omega, by go_num, ret_val (by rw [Dec.val_take_succ (by have := HL.out; omega), ← get_eq]; omega), Dec.all_take_succ (by have := HL.out; omega) HA.out (by rw [← get_eq]; exact HD.out)⟩, rfl, rfl, rfl, rfl⟩
        case measure => simp [intOf]; omega
      · have HD := Lib.hid hd
        clear hd
        go_wp2
        go_ret2
        have hg : Dec.good m t.data.toList = false := Dec.good_dig (Dec.not_all (k := k) (by have := HL.out; omega) (by rw [← get_eq]; exact HD.out))
        exact ⟨ret_pair (minus_val_no m HH.out HT.out hg).symm (minus_no m HH.out HT.out hg).symm, Below.refl _ _⟩
      · have HD := Lib.hid hd
        clear hd
        go_wp2
        go_ret2
        have hg : Dec.good m t.data.toList = false := Dec.good_dig (Dec.not_all (k := k) (by have := HL.out; omega) (by rw [← get_eq]; exact HD.out))
        exact ⟨ret_pair (minus_val_no m HH.out HT.out hg).symm (minus_no m HH.out HT.out hg).symm, Below.refl _ _⟩
    · have hk2 : t.size ≤ k := by omega
      have hf0 : Dec.rdb m s.data.toList = (Dec.fmt (-(Dec.val (t.data.toList.take k) : Int)) == s.toList) := by
        have ha := HA.out
        have hl := HL.out
        unfold DigTo at ha
        rw [List.take_of_length_le (by omega)] at ha ⊢
        rw [tl]; exact minus_form m HH.out HT.out (by omega) (by omega) ha
      have HF := Lib.hid hf0
      clear hf0
      cases hf : (Dec.fmt (-(Dec.val (t.data.toList.take k) : Int)) == s.toList)
      · have hf1 : (!Dec.fmt (-(Dec.val (t.data.toList.take k) : Int)) == s.toList) = true := by rw [hf]; rfl
        have hg : Dec.rdb m s.data.toList = false := HF.out.trans hf
        have HG := Lib.hid hg
        clear hg hf HF
        go_wp2_with (go_at_call 47; refine (spec_fmt _ _ (by omega) (by omega)).mono ?_; rintro e w1 ⟨rfl, b1⟩)
        go_ret2
        exact ⟨ret_pair (by unfold Dec.rdv; rw [HG.out]; rfl) HG.out.symm, b1⟩
      · have hf1 : (!Dec.fmt (-(Dec.val (t.data.toList.take k) : Int)) == s.toList) = false := by rw [hf]; rfl
        have hg : Dec.rdb m s.data.toList = true := HF.out.trans hf
        have HG := Lib.hid hg
        clear hg hf HF
        go_wp2_with (go_at_call 47; refine (spec_fmt _ _ (by omega) (by omega)).mono ?_; rintro e w1 ⟨rfl, b1⟩)
        go_ret2
        exact ⟨ret_pair (by unfold Dec.rdv; rw [HG.out, if_pos rfl, if_pos HH.out, ← tail_drop s HT.out, List.take_of_length_le (by have := HL.out; omega)]) HG.out.symm, b1⟩
/-- Letters of no or too many digits are no form. -/
theorem rd_no (s : ByteArray) (m : Nat) (w : World) (hs : s.size ≤ maxLen) (h1 : (m : Int) ≤ 12) (h : s.size = 0 ∨ (∃ h0 : 0 < s.size, ((s[0].toNat : Int) == 45) = true ∧ (s.size = 1 ∨ (m : Int) + 1 < s.size)) ∨ (∃ h0 : 0 < s.size, ((s[0].toNat : Int) == 45) = false ∧ (m : Int) < s.size)) :
    Calls Try.prog 35 #[.string s, .int .i64 m] w fun e w' => e = .returned (.tuple #[.int .i64 0, .bool false]) ∧ Below w.heap.size w w' := by
  unfold maxLen at hs
  rcases h with h | ⟨h0, h2, h3⟩ | ⟨h0, h2, h3⟩
  · have h4 : ¬ 0 < s.size := by omega
    have h5 : (s.size : Int) < 1 := by omega
    clear h
    go_enter Try.func35, Try.ntmps35
    go_wp2
    go_ret2
    exact ⟨rfl, Below.refl _ _⟩
  · have h4 : 1 ≤ (s.size : Int) := by omega
    rcases h3 with h3 | h3
    · have h5 : ((s.size - 1 : Nat) : Int) < 1 := by omega
      clear h3
      go_enter Try.func35, Try.ntmps35
      go_wp2
      go_ret2
      exact ⟨rfl, Below.refl _ _⟩
    · have h5 : (m : Int) < ((s.size - 1 : Nat) : Int) := by omega
      have h6 : 1 ≤ ((s.size - 1 : Nat) : Int) := by omega
      clear h3
      go_enter Try.func35, Try.ntmps35
      go_wp2
      go_ret2
      exact ⟨rfl, Below.refl _ _⟩
  · have h4 : 1 ≤ (s.size : Int) := by omega
    go_enter Try.func35, Try.ntmps35
    go_wp2
    go_ret2
    exact ⟨rfl, Below.refl _ _⟩

/-- What the reference model's reading answers. -/
theorem rd_any (s : ByteArray) (m : Nat) (w : World) (hs : s.size ≤ maxLen) (h1 : (m : Int) ≤ 12) :
    Calls Try.prog 35 #[.string s, .int .i64 m] w fun e w' => e = .returned (.tuple #[.int .i64 (Dec.rdv m s.data.toList), .bool (Dec.rdb m s.data.toList)]) ∧ Below w.heap.size w w' := by
  have hl := size_eq s
  by_cases h0 : 0 < s.size
  · by_cases c2 : ((s[0].toNat : Int) == 45) = true
    · by_cases c3 : 2 ≤ (s.size : Int) ∧ (s.size : Int) ≤ m + 1
      · exact rd_minus s m w hs h1 h0 c3.1 c3.2 c2
      · have h := rd_no s m w hs h1 (.inr (.inl ⟨h0, c2, by omega⟩))
        have hh := (head_eq s h0 45).2 (by simpa using c2)
        have hg : Dec.good m (s.extract 1 s.size).data.toList = false := Dec.good_len (by rw [ext_data, List.length_drop]; omega)
        rw [minus_val_no m hh (ext_data s 1) hg, minus_no m hh (ext_data s 1) hg]; exact h
    · have c2' : ((s[0].toNat : Int) == 45) = false := by simpa using c2
      have hh : ¬ s.data.toList.head? = some 45 := fun e => c2 (by simpa using (head_eq s h0 45).1 e)
      have e1 : Dec.rdb m s.data.toList = Dec.good m s.data.toList := by unfold Dec.rdb; rw [if_neg hh]
      have e2 : Dec.rdv m s.data.toList = Dec.pdv m s.data.toList := by unfold Dec.rdv Dec.pdv; rw [e1, if_neg hh]
      by_cases c3 : (s.size : Int) ≤ m
      · rw [e1, e2]; exact rd_plain s m w hs h1 h0 c3 c2'
      · have h := rd_no s m w hs h1 (.inr (.inr ⟨h0, c2', by omega⟩))
        have hg : Dec.good m s.data.toList = false := Dec.good_len (by omega)
        have e3 : Dec.pdv m s.data.toList = 0 := by unfold Dec.pdv; rw [hg]; rfl
        rw [e1, e2, e3, hg]; exact h
  · have h := rd_no s m w hs h1 (.inl (by omega))
    have hn : s.data.toList = [] := List.length_eq_zero_iff.1 (by omega)
    have hg : Dec.good m s.data.toList = false := Dec.good_len (by omega)
    have hh : ¬ s.data.toList.head? = some 45 := by rw [hn]; simp
    have e1 : Dec.rdb m s.data.toList = false := by unfold Dec.rdb; rw [if_neg hh]; exact hg
    have e2 : Dec.rdv m s.data.toList = 0 := by unfold Dec.rdv; rw [e1]; rfl
    rw [e1, e2]; exact h
end Go.Proofs.Ytjgnigalodebkaa
