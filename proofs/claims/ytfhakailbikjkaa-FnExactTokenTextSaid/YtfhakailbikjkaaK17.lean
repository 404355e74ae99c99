/- Tokens by value: the laws' helpers, TokenText of the reference model, the walks of the laws on tokens from contracts of the program's functions. No conditions. -/
import Derived.Test.YtfhakailbikjkaaKF
import Derived.Test.YtfhakailbikjkaaC9
import Derived.Test.YtfhakailbikjkaaL4
namespace Go.Proofs.Ytfhakailbikjkaa
open Go.RowKit
set_option linter.unusedVariables false

theorem to_tok (k : Int) (t : ByteArray) (l : Int) (w : World) : Calls Try.prog 17 #[tokV k t l] w fun e w' => e = .returned (tokV k t l) ∧ Below w.heap.size w w' := by
  unfold tokV
  go_enter Try.func17, Try.ntmps17
  go_wp2
  exact bodyPost_ret (v := .agg #[.int .i64 k, .string t, .int .i64 l]) (by simp [results, Try.results17, go_sem]) rfl ⟨rfl, ((bl2 _ _ _).alloc (bl2 _ _ _).size _)⟩
theorem sz_tok (k : Int) (t : ByteArray) (l : Int) (w : World) (hs : t.size ≤ maxLen) : Calls Try.prog 15 #[tokV k t l, .int .i64 1048576] w fun e w' => e = .returned (.int .i64 (if (t.size : Int) ≤ 1048576 then 1048576 - t.size else -1)) ∧ Below w.heap.size w w' := by
  unfold tokV
  have hm : (t.size : Int) ≤ 9223372036854775807 := by unfold maxLen at hs; omega
  by_cases h : (t.size : Int) ≤ 1048576
  · rw [if_pos h]
    go_enter Try.func15, Try.ntmps15
    go_wp2
    go_ret
    exact ⟨rfl, bl1 _ _⟩
  · rw [if_neg h]
    go_enter Try.func15, Try.ntmps15
    go_wp2
    go_ret
    exact ⟨rfl, bl1 _ _⟩
/-- The text of a token. -/
def ttS (k : Int) (t : ByteArray) : ByteArray := if k = 4 then qtS t else if k = 5 then qcS (Cs.newL t) (Cs.newH t) else if k = 6 then str8 (38 :: t.data.toList) else t
theorem ret_amp (t : ByteArray) : Ending.returned (.string ((⟨#[38]⟩ : ByteArray) ++ t)) = Ending.returned (.string (str8 (38 :: t.data.toList))) :=
  congrArg (fun x => Ending.returned (Value.string x)) (str8_inj (by simp [ByteArray.data_append]))
theorem spec_tt (k : Int) (t : ByteArray) (l : Int) (w : World) (hs : (t.size : Int) ≤ 1048576) : Calls Try.prog 21 #[tokV k t l] w (RetT w (ttS k t)) := by
  unfold RetT tokV
  by_cases h4 : k = 4
  · subst h4
    rw [show ttS 4 t = qtS t from rfl]
    have H := Lib.hid (fun W => spec_qt t W hs)
    unfold RetT at H
    generalize qtS t = v at H ⊢
    go_enter Try.func21, Try.ntmps21
    go_wp2_with (go_at_call 29; refine (H.out _).mono ?_; rintro e w1 ⟨rfl, hb1⟩; have HB1 := Lib.hid (below_step (bl1 _ _) hb1); clear hb1)
    go_ret
    exact ⟨rfl, HB1.out⟩
  · by_cases h5 : k = 5
    · subst h5
      rw [show ttS 5 t = qcS (Cs.newL t) (Cs.newH t) from rfl]
      have H := Lib.hid (fun W => spec_new t (by unfold maxLen; omega) W)
      have H2 := Lib.hid (fun W => spec_qc (Cs.newL t) (Cs.newH t) W)
      unfold RetNew at H
      unfold RetT at H2
      generalize qcS (Cs.newL t) (Cs.newH t) = v at H2 ⊢
      generalize Cs.newL t = a at H H2
      generalize Cs.newH t = b at H H2
      go_enter Try.func21, Try.ntmps21
      go_wp2_with (first | (go_at_call 30; refine (H.out _).mono ?_; rintro e w1 ⟨rfl, hb1⟩; have HB1 := Lib.hid (below_step (bl1 _ _) hb1); clear hb1) | (go_at_call 31; refine (H2.out _).mono ?_; rintro e w2 ⟨rfl, hb2⟩; have HB2 := Lib.hid (below_step (HB1.out.alloc HB1.out.size _) hb2); clear hb2))
      go_ret
      exact ⟨rfl, HB2.out⟩
    · by_cases h6 : k = 6
      · subst h6
        rw [show ttS 6 t = str8 (38 :: t.data.toList) from rfl]
        go_enter Try.func21, Try.ntmps21
        go_wp2
        go_ret
        exact ⟨ret_amp t, bl1 _ _⟩
      · have e : ttS k t = t := by unfold ttS; rw [if_neg h4, if_neg h5, if_neg h6]
        rw [e]
        have u4 : (k == 4) = false := by simpa using h4
        have u5 : (k == 5) = false := by simpa using h5
        have u6 : (k == 6) = false := by simpa using h6
        clear h4 h5 h6 e
        go_enter Try.func21, Try.ntmps21
        go_wp2
        go_ret
        exact ⟨rfl, bl1 _ _⟩

set_option maxHeartbeats 800000 in
theorem begins_law (hI : ∀ (k : Int) (t : ByteArray) (l : Int) (W : World), (t.size : Int) ≤ 1048576 → Calls Try.prog 18 #[tokV k t l] W (fun e w' => e = .returned (.bool (Tk.begins k t.data.toList)) ∧ Below W.heap.size W w'))
    (a0 : Int) (b0 : ByteArray) (c0 : Int) (w0 : b0.size ≤ maxLen) (w : World) :
    Calls Try.prog 6 #[tokV a0 b0 c0] w fun e w' => e = .returned (.bool true) ∧ Below w.heap.size w w' := by
  have HZ := Lib.hid (fun W => sz_tok a0 b0 c0 W w0)
  have HT := Lib.hid (fun W => to_tok a0 b0 c0 W)
  have HF0 := Lib.hid (FreeTok.new w a0 b0 c0 24)
  by_cases hlen : (b0.size : Int) ≤ 1048576
  · rw [if_pos hlen] at HZ
    have HS := Lib.hid (fun W => spec_begins a0 b0 c0 W)
    have HI := Lib.hid (fun W => hI a0 b0 c0 W hlen)
    clear hI
    generalize Tk.begins a0 b0.data.toList = b at HS HI
    have h0 : decide ((1048576 : Int) - b0.size < 0) = false := dec_no (by omega)
    go_enter Try.func6, Try.ntmps6
    go_wp2_with fail
    refine (HZ.out _).mono ?_
    rintro e w1 ⟨rfl, b1⟩
    have HF1 := Lib.hid (HF0.out.later b1)
    have HB1 := Lib.hid (below_step (bl1 _ _) b1)
    obtain ⟨⟨r0, r1, r2⟩, _⟩ := HF1.out
    clear b1
    go_wp2_with fail
    refine (HT.out _).mono ?_
    rintro e w2 ⟨rfl, b2⟩
    have HF2 := Lib.hid (HF1.out.later b2)
    have HB2 := Lib.hid (below_step HB1.out b2)
    clear r0 r1 r2 b2
    go_wp2_with fail
    refine (HS.out _).mono ?_
    rintro e w3 ⟨rfl, b3⟩
    have HF3 := Lib.hid (HF2.out.later b3)
    have HB3 := Lib.hid (below_step HB2.out b3)
    obtain ⟨⟨r0, r1, r2⟩, _⟩ := HF3.out
    clear b3
    go_wp2_with fail
    refine (HT.out _).mono ?_
    rintro e w4 ⟨rfl, b4⟩
    have HB4 := Lib.hid (below_step HB3.out b4)
    clear r0 r1 r2 b4
    go_wp2_with fail
    refine (HI.out _).mono ?_
    rintro e w5 ⟨rfl, b5⟩
    have HB5 := Lib.hid (below_step HB4.out b5)
    clear b5
    go_wp2
    go_ret
    exact ⟨rfl, HB5.out⟩
  · rw [if_neg hlen] at HZ
    go_enter Try.func6, Try.ntmps6
    go_wp2_with fail
    refine (HZ.out _).mono ?_
    rintro e w1 ⟨rfl, b1⟩
    have HB1 := Lib.hid (below_step (bl1 _ _) b1)
    clear b1
    go_wp2
    go_ret
    exact ⟨rfl, HB1.out⟩

set_option maxHeartbeats 800000 in
theorem ends_law (hI : ∀ (k : Int) (t : ByteArray) (l : Int) (W : World), (t.size : Int) ≤ 1048576 → Calls Try.prog 20 #[tokV k t l] W (fun e w' => e = .returned (.bool (Tk.ends k t.data.toList)) ∧ Below W.heap.size W w'))
    (a0 : Int) (b0 : ByteArray) (c0 : Int) (w0 : b0.size ≤ maxLen) (w : World) :
    Calls Try.prog 7 #[tokV a0 b0 c0] w fun e w' => e = .returned (.bool true) ∧ Below w.heap.size w w' := by
  have HZ := Lib.hid (fun W => sz_tok a0 b0 c0 W w0)
  have HT := Lib.hid (fun W => to_tok a0 b0 c0 W)
  have HF0 := Lib.hid (FreeTok.new w a0 b0 c0 24)
  by_cases hlen : (b0.size : Int) ≤ 1048576
  · rw [if_pos hlen] at HZ
    have HS := Lib.hid (fun W => spec_ends a0 b0 c0 W)
    have HI := Lib.hid (fun W => hI a0 b0 c0 W hlen)
    clear hI
    generalize Tk.ends a0 b0.data.toList = b at HS HI
    have h0 : decide ((1048576 : Int) - b0.size < 0) = false := dec_no (by omega)
    go_enter Try.func7, Try.ntmps7
    go_wp2_with fail
    refine (HZ.out _).mono ?_
    rintro e w1 ⟨rfl, b1⟩
    have HF1 := Lib.hid (HF0.out.later b1)
    have HB1 := Lib.hid (below_step (bl1 _ _) b1)
    obtain ⟨⟨r0, r1, r2⟩, _⟩ := HF1.out
    clear b1
    go_wp2_with fail
    refine (HT.out _).mono ?_
    rintro e w2 ⟨rfl, b2⟩
    have HF2 := Lib.hid (HF1.out.later b2)
    have HB2 := Lib.hid (below_step HB1.out b2)
    clear r0 r1 r2 b2
    go_wp2_with fail
    refine (HS.out _).mono ?_
    rintro e w3 ⟨rfl, b3⟩
    have HF3 := Lib.hid (HF2.out.later b3)
    have HB3 := Lib.hid (below_step HB2.out b3)
    obtain ⟨⟨r0, r1, r2⟩, _⟩ := HF3.out
    clear b3
    go_wp2_with fail
    refine (HT.out _).mono ?_
    rintro e w4 ⟨rfl, b4⟩
    have HB4 := Lib.hid (below_step HB3.out b4)
    clear r0 r1 r2 b4
    go_wp2_with fail
    refine (HI.out _).mono ?_
    rintro e w5 ⟨rfl, b5⟩
    have HB5 := Lib.hid (below_step HB4.out b5)
    clear b5
    go_wp2
    go_ret
    exact ⟨rfl, HB5.out⟩
  · rw [if_neg hlen] at HZ
    go_enter Try.func7, Try.ntmps7
    go_wp2_with fail
    refine (HZ.out _).mono ?_
    rintro e w1 ⟨rfl, b1⟩
    have HB1 := Lib.hid (below_step (bl1 _ _) b1)
    clear b1
    go_wp2
    go_ret
    exact ⟨rfl, HB1.out⟩

set_option maxHeartbeats 800000 in
theorem text_law (hI : ∀ (k : Int) (t : ByteArray) (l : Int) (W : World), (t.size : Int) ≤ 1048576 → Calls Try.prog 22 #[tokV k t l] W (RetT W (ttS k t)))
    (a0 : Int) (b0 : ByteArray) (c0 : Int) (w0 : b0.size ≤ maxLen) (w : World) :
    Calls Try.prog 8 #[tokV a0 b0 c0] w fun e w' => e = .returned (.bool true) ∧ Below w.heap.size w w' := by
  have HZ := Lib.hid (fun W => sz_tok a0 b0 c0 W w0)
  have HT := Lib.hid (fun W => to_tok a0 b0 c0 W)
  have HF0 := Lib.hid (FreeTok.new w a0 b0 c0 24)
  by_cases hlen : (b0.size : Int) ≤ 1048576
  · rw [if_pos hlen] at HZ
    have HS := Lib.hid (fun W => spec_tt a0 b0 c0 W hlen)
    have HI := Lib.hid (fun W => hI a0 b0 c0 W hlen)
    clear hI
    unfold RetT at HS HI
    generalize ttS a0 b0 = b at HS HI
    have h0 : decide ((1048576 : Int) - b0.size < 0) = false := dec_no (by omega)
    go_enter Try.func8, Try.ntmps8
    go_wp2_with fail
    refine (HZ.out _).mono ?_
    rintro e w1 ⟨rfl, b1⟩
    have HF1 := Lib.hid (HF0.out.later b1)
    have HB1 := Lib.hid (below_step (bl1 _ _) b1)
    obtain ⟨⟨r0, r1, r2⟩, _⟩ := HF1.out
    clear b1
    go_wp2_with fail
    refine (HT.out _).mono ?_
    rintro e w2 ⟨rfl, b2⟩
    have HF2 := Lib.hid (HF1.out.later b2)
    have HB2 := Lib.hid (below_step HB1.out b2)
    clear r0 r1 r2 b2
    go_wp2_with fail
    refine (HS.out _).mono ?_
    rintro e w3 ⟨rfl, b3⟩
    have HF3 := Lib.hid (HF2.out.later b3)
    have HB3 := Lib.hid (below_step HB2.out b3)
    obtain ⟨⟨r0, r1, r2⟩, _⟩ := HF3.out
    clear b3
    go_wp2_with fail
    refine (HT.out _).mono ?_
    rintro e w4 ⟨rfl, b4⟩
    have HB4 := Lib.hid (below_step HB3.out b4)
    clear r0 r1 r2 b4
    go_wp2_with fail
    refine (HI.out _).mono ?_
    rintro e w5 ⟨rfl, b5⟩
    have HB5 := Lib.hid (below_step HB4.out b5)
    clear b5
    go_wp2
    go_ret
    exact ⟨rfl, HB5.out⟩
  · rw [if_neg hlen] at HZ
    go_enter Try.func8, Try.ntmps8
    go_wp2_with fail
    refine (HZ.out _).mono ?_
    rintro e w1 ⟨rfl, b1⟩
    have HB1 := Lib.hid (below_step (bl1 _ _) b1)
    clear b1
    go_wp2
    go_ret
    exact ⟨rfl, HB1.out⟩
end Go.Proofs.Ytfhakailbikjkaa
