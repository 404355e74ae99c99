/- The law FnPositions answers true at every code. No conditions. -/
import Derived.Test.YtdbfkgpmppdjlaaD8
import Derived.Test.YtdbfkgpmppdjlaaE7
namespace Go.Proofs.Ytdbfkgpmppdjlaa
open Go.RowKit
set_option linter.unusedVariables false

theorem pos_again {p n : Int} (h : posB p n = true) : posV (posV p n) n = posV p n ∧ posB (posV p n) n = true := by
  obtain ⟨h1, h2, h3⟩ := pos_true h
  have h4 : ¬ (n < 0 ∨ 120 < n) := by omega
  generalize posV p n = q at *
  unfold posV posB
  rw [if_neg h4, if_neg h4, if_pos ⟨h1, h2⟩, if_pos ⟨h1, h2⟩]; exact ⟨rfl, rfl⟩
theorem sec_left {s : ByteArray} {i : Int} {k : Nat} (h : posB i s.size = true) (hk : posV i s.size = (k : Int) + 1) : secS s 1 i = s.extract 0 k ∧ secB s 1 i = true := by
  obtain ⟨h1, h2, h3⟩ := pos_true h
  have h4 : ¬ ((s.size : Int) < 0 ∨ 120 < (s.size : Int)) := by omega
  have e1 : posV 1 s.size = 1 := by unfold posV; rw [if_neg h4, if_pos (by omega)]
  have e2 : posB 1 s.size = true := by unfold posB; rw [if_neg h4, if_pos (by omega)]
  have hb : secB s 1 i = true := by simp [secB, e2, h]
  refine ⟨?_, hb⟩
  unfold secS
  rw [if_pos hb, e1, hk]
  congr 1 <;> omega
theorem sec_right {s : ByteArray} {i : Int} {k : Nat} (h : posB i s.size = true) (hk : posV i s.size = (k : Int) + 1) : secS s i 0 = s.extract k s.size ∧ secB s i 0 = true := by
  obtain ⟨h1, h2, h3⟩ := pos_true h
  have h4 : ¬ ((s.size : Int) < 0 ∨ 120 < (s.size : Int)) := by omega
  have e1 : posV 0 s.size = s.size + 1 := by unfold posV; rw [if_neg h4, if_neg (by omega), if_pos (by omega)]; omega
  have e2 : posB 0 s.size = true := by unfold posB; rw [if_neg h4, if_neg (by omega), if_pos (by omega)]
  have hb : secB s i 0 = true := by simp [secB, e2, h]
  refine ⟨?_, hb⟩
  unfold secS
  rw [if_pos hb, e1, hk]
  congr 1 <;> omega
theorem cut_both (s : ByteArray) (k : Nat) (h : k ≤ s.size) : s.extract 0 k ++ s.extract k s.size = s := by
  rw [show s.extract 0 k ++ s.extract k s.size = str8 ((s.extract 0 k).data.toList ++ (s.extract k s.size).data.toList) from str8_inj (by rw [ByteArray.data_append, Array.toList_append])]
  rw [ext8 s 0 k, drop8, str8_list, List.drop_zero, Nat.sub_zero, List.take_append_drop, str8_data]

set_option maxHeartbeats 800000 in
theorem FnPositions_walk (a0 : Option Addr) (len0 cap0 : Nat) (z0 : List Int) (w : World) (w0 : IsRow .u8 w a0 len0 cap0 z0) :
    Calls Try.prog 3 #[.slice a0 len0 cap0] w fun e w' => e = .returned (.bool true) ∧ Below w.heap.size w w' := by
  have HC := Lib.hid (code_of_in w0)
  have hl : (len0 : Int) ≤ 9223372036854775807 := by
    rcases w0 with ⟨_, rfl, _⟩ | ⟨x, _, h1, h2, _⟩
    · omega
    · unfold maxLen at h2; omega
  clear w0
  by_cases hbig : (1048576 : Int) < len0
  · go_enter Try.func3, Try.ntmps3
    go_wp2
    go_ret
    exact ⟨rfl, Below.refl _ _⟩
  · have hs : (len0 : Int) ≤ 1048576 := by omega
    have HD := Lib.hid (draw_sec _ len0 w HC.out hs)
    clear HC
    go_enter Try.func3, Try.ntmps3
    go_wp2_with fail
    refine (big_no a0 len0 cap0 _ hs).mono ?_
    rintro e wz ⟨rfl, rfl⟩
    go_wp2_with fail
    refine HD.out.mono ?_
    rintro e w1 ⟨s, i, j, rfl, hz, _, hb1⟩
    have HB1 := Lib.hid hb1
    have H1 := Lib.hid (fun W => impl_pos i s.size W)
    have H2 := Lib.hid (fun W => spec_pos i s.size W)
    clear hb1 HD hs hbig hl
    unfold RetPos at H1 H2
    cases hB : posB i s.size
    · rw [hB] at H1 H2
      generalize posV i s.size = q at H1 H2
      clear hB
      go_wp2_with fail
      refine (H1.out _).mono ?_
      rintro e wa ⟨rfl, rfl⟩
      go_wp2_with fail
      refine (H2.out _).mono ?_
      rintro e wb ⟨rfl, rfl⟩
      go_wp2
      go_ret
      exact ⟨rfl, HB1.out⟩
    · obtain ⟨p1, p2, p3⟩ := pos_true hB
      obtain ⟨k, hk⟩ : ∃ k : Nat, posV i s.size = (k : Int) + 1 := ⟨(posV i s.size).toNat - 1, by omega⟩
      have hks : k ≤ s.size := by omega
      have H3 := Lib.hid (fun W => impl_pos (posV i s.size) s.size W)
      have H4 := Lib.hid (fun W => impl_sec s 1 i W (by omega))
      have H5 := Lib.hid (fun W => impl_sec s i 0 W (by omega))
      unfold RetPos at H3
      unfold RetTB at H4 H5
      rw [(pos_again hB).1, (pos_again hB).2, hk] at H3
      rw [(sec_left hB hk).1, (sec_left hB hk).2] at H4
      rw [(sec_right hB hk).1, (sec_right hB hk).2] at H5
      rw [hB, hk] at H1 H2
      have hab := cut_both s k hks
      have ha : (s.extract 0 k).size = k := by rw [ByteArray.size_extract]; omega
      have hb0 : (s.extract k s.size).size ≤ 1000 := by rw [ByteArray.size_extract]; omega
      generalize s.extract 0 k = a at H4 hab ha
      generalize s.extract k s.size = b at H5 hab hb0
      clear hB hk p1 p2
      have hk1 : (k : Int) ≤ 120 := by omega
      go_wp2_with fail
      refine (H1.out _).mono ?_
      rintro e wa ⟨rfl, rfl⟩
      go_wp2_with fail
      refine (H2.out _).mono ?_
      rintro e wb ⟨rfl, rfl⟩
      go_wp2_with fail
      refine (H3.out _).mono ?_
      rintro e wc ⟨rfl, rfl⟩
      go_wp2_with fail
      refine (H4.out _).mono ?_
      rintro e wd ⟨rfl, hbd⟩
      go_wp2_with fail
      refine (H5.out _).mono ?_
      rintro e we ⟨rfl, hbe⟩
      have HB2 := Lib.hid (HB1.out.trans ((hbd.trans (hbe.mono hbd.size)).mono HB1.out.size))
      clear hbd hbe
      go_wp2
      go_ret
      exact ⟨rfl, HB2.out⟩
end Go.Proofs.Ytdbfkgpmppdjlaa
