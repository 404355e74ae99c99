/- The law FnPadded answers true at every code. No conditions. -/
import Derived.Test.YtapdkdgabhnliaaD8
import Derived.Test.YtapdkdgabhnliaaE9
import Derived.Test.YtapdkdgabhnliaaF1
namespace Go.Proofs.Ytapdkdgabhnliaa
open Go.RowKit
set_option linter.unusedVariables false

/-- A text, an integer and a byte are drawn. -/
def DrawnPad (w : World) (e : Ending) (w' : World) : Prop := ∃ (s : ByteArray) (i : Int) (x : UInt8), e = .returned (.tuple #[.string s, .int .i64 i, .int .u8 (x.toNat : Int)]) ∧ (s.size : Int) ≤ 1000 ∧ (-9223372036854775808 ≤ i ∧ i ≤ 9223372036854775807) ∧ Below w.heap.size w w'

set_option maxHeartbeats 400000 in
theorem draw_pad (v : Value) (n : Nat) (w : World) (hc : Code w.heap.size w v n) (hn : (n : Int) ≤ 1048576) :
    Calls Try.prog 5 #[v] w (DrawnPad w) := by
  have HC := Lib.hid (draw_new v n w hc hn)
  clear hc
  go_enter Try.func5, Try.ntmps5
  go_wp2_with fail
  refine HC.out.mono ?_
  rintro e w1 ⟨cb, rfl, hcb, hlt, hcur, hb1⟩
  have HS := Lib.hid (draw_word w.heap.size cb w1 hcur hb1.size)
  have HB1 := Lib.hid hb1
  clear hcur hb1 HC
  go_wp2_with fail
  refine HS.out.mono ?_
  rintro e w2 ⟨s, rfl, hs, hc2, ho2⟩
  have HB2 := Lib.hid (HB1.out.trans (ho2.below hcb HB1.out.size))
  have HI := Lib.hid (draw_index w.heap.size cb w2 hc2 HB2.out.size)
  clear hc2 ho2 HS HB1
  go_wp2_with fail
  refine HI.out.mono ?_
  rintro e w3 ⟨i, rfl, hi0, hi1, hc3, ho3⟩
  have HB3 := Lib.hid (HB2.out.trans (ho3.below hcb HB2.out.size))
  have HJ := Lib.hid (draw_below w.heap.size cb 256 w3 hc3 (by omega) (by omega))
  clear hc3 ho3 HI HB2
  go_wp2_with fail
  refine HJ.out.mono ?_
  rintro e w4 ⟨j, rfl, hj0, hj1, hc4, ho4⟩
  have HB4 := Lib.hid (HB3.out.trans (ho4.below hcb HB3.out.size))
  obtain ⟨x, rfl⟩ : ∃ x : UInt8, j = (x.toNat : Int) := ⟨UInt8.ofNat j.toNat, by rw [UInt8.toNat_ofNat']; omega⟩
  clear hc4 ho4 HJ HB3
  go_wp2
  exact bodyPost_ret (v := .tuple #[.string s, .int .i64 i, .int .u8 (x.toNat : Int)]) (by simp [results, Try.results5, go_sem]) rfl ⟨s, i, x, rfl, hs, ⟨hi0, hi1⟩, HB4.out⟩

theorem left_len (l : List UInt8) (x : UInt8) (N : Nat) : (leftL l x N).length = N := by
  unfold leftL
  rw [List.length_append, List.length_take, List.length_replicate]; omega
theorem right_len (l : List UInt8) (x : UInt8) (N : Nat) : (rightL l x N).length = N := by
  unfold rightL
  rw [List.length_append, List.length_drop, List.length_replicate]; omega
theorem right_rev (l : List UInt8) (x : UInt8) (N : Nat) : (rightL l.reverse x N).reverse = leftL l x N := by
  unfold rightL leftL
  rw [List.reverse_append, List.reverse_drop, List.reverse_replicate, List.reverse_reverse, List.length_reverse]
  congr 1
  rcases Nat.le_total N l.length with h | h
  · congr 1; omega
  · rw [List.take_of_length_le (show l.length ≤ N from h), List.take_of_length_le (by omega)]
/-- Left padding and right padding of the reversed text. -/
theorem pad_both (s : ByteArray) (x : UInt8) (n : Int) : ∃ v u b, PadIs (leftL s.data.toList x) n v b ∧ PadIs (rightL (str8 s.data.toList.reverse).data.toList x) n u b ∧ (b = true → str8 u.data.toList.reverse = v ∧ (v.size : Int) = n ∧ (u.size : Int) ≤ 120) := by
  by_cases h1 : n < 0
  · exact ⟨_, _, _, .inl ⟨h1, rfl, rfl⟩, .inl ⟨h1, rfl, rfl⟩, fun h => by cases h⟩
  · by_cases h2 : 120 < n
    · exact ⟨_, _, _, .inr (.inl ⟨h2, rfl, rfl⟩), .inr (.inl ⟨h2, rfl, rfl⟩), fun h => by cases h⟩
    · refine ⟨_, _, _, .inr (.inr ⟨n.toNat, by omega, by omega, rfl, rfl⟩), .inr (.inr ⟨n.toNat, by omega, by omega, rfl, rfl⟩), fun _ => ⟨?_, ?_, ?_⟩⟩
      · rw [str8_list, str8_list, right_rev]
      · rw [str8_size, left_len]; omega
      · rw [str8_size, right_len]; omega
theorem cmp_same : ∀ l : List UInt8, Lib.compareBytes l l = 0
  | [] => rfl
  | a :: l => by
    unfold Lib.compareBytes
    have h : ¬ a < a := by simp
    rw [if_neg h, if_neg h]; exact cmp_same l

set_option maxHeartbeats 800000 in
theorem FnPadded_walk (a0 : Option Addr) (len0 cap0 : Nat) (z0 : List Int) (w : World) (w0 : IsRow .u8 w a0 len0 cap0 z0) :
    Calls Try.prog 3 #[.slice a0 len0 cap0] w fun e w' => e = .returned (.bool true) ∧ Below w.heap.size w w' := by
  have HC := Lib.hid (code_of_in w0)
  have hl : (len0 : Int) ≤ 9223372036854775807 := by
    rcases w0 with ⟨_, rfl, _⟩ | ⟨x, _, h1, h2, _⟩
    · omega
    · unfold maxLen at h2; omega
  clear w0
  by_cases hbig : (1048576 : Int) < len0
  · go_enter Try.func3, Try.ntmps3
    go_wp2
    go_ret
    exact ⟨rfl, Below.refl _ _⟩
  · have hs : (len0 : Int) ≤ 1048576 := by omega
    have HD := Lib.hid (draw_pad _ len0 w HC.out hs)
    clear HC
    go_enter Try.func3, Try.ntmps3
    go_wp2_with fail
    refine (big_no a0 len0 cap0 _ hs).mono ?_
    rintro e wz ⟨rfl, rfl⟩
    go_wp2_with fail
    refine HD.out.mono ?_
    rintro e w1 ⟨s, n, x, rfl, hz, hn, hb1⟩
    have HB1 := Lib.hid hb1
    obtain ⟨v, u, b, hv, hu, hvu⟩ := pad_both s x n
    have HL := Lib.hid (fun W => impl_left s n x v b W (by omega) hv)
    have HW := Lib.hid (fun W => spec_left s n x v b W (by omega) hv)
    have HV := Lib.hid (fun W => impl_rev s W (by omega))
    have HR := Lib.hid (fun W => impl_right (str8 s.data.toList.reverse) n x u b W (by rw [str8_size, List.length_reverse, len8]; omega) hn hu)
    unfold RetTB at HL HW HR
    unfold RetT at HV
    generalize str8 s.data.toList.reverse = r at HV HR
    clear hb1 HD hs hbig hl hv hu hn
    go_wp2_with fail
    refine (HL.out _).mono ?_
    rintro e wa ⟨rfl, hba⟩
    have HA := Lib.hid (below_then HB1.out hba)
    go_wp2_with fail
    refine (HV.out _).mono ?_
    rintro e wb ⟨rfl, hbb⟩
    have HBB := Lib.hid (below_then HA.out hbb)
    go_wp2_with fail
    refine (HR.out _).mono ?_
    rintro e wc ⟨rfl, hbc⟩
    have HCC := Lib.hid (below_then HBB.out hbc)
    go_wp2_with fail
    refine (HW.out _).mono ?_
    rintro e wd ⟨rfl, hbd⟩
    have HDD := Lib.hid (below_then HCC.out hbd)
    clear hba hbb hbc hbd HB1 HA HBB HCC
    cases b
    · go_wp2
      go_ret
      exact ⟨rfl, HDD.out⟩
    · obtain ⟨e1, e2, e3⟩ := hvu rfl
      have HU := Lib.hid (fun W => impl_rev u W (by omega))
      have HK := Lib.hid (fun W => impl_cmp v v W)
      unfold RetT at HU
      unfold RetCmp at HK
      rw [e1] at HU
      rw [show cmpTo v v 0 = 0 from cmp_same _] at HK
      clear hvu e1
      go_wp2_with fail
      refine (HU.out _).mono ?_
      rintro e we ⟨rfl, hbe⟩
      have HE := Lib.hid (below_then HDD.out hbe)
      go_wp2_with fail
      refine (HU.out _).mono ?_
      rintro e wf ⟨rfl, hbf⟩
      have HF := Lib.hid (below_then HE.out hbf)
      go_wp2_with fail
      refine (HK.out _).mono ?_
      rintro e wg ⟨rfl, hbg⟩
      have HG := Lib.hid (below_then HF.out hbg)
      clear hbe hbf hbg HDD HE HF
      go_wp2
      go_ret
      exact ⟨rfl, HG.out⟩
end Go.Proofs.Ytapdkdgabhnliaa
