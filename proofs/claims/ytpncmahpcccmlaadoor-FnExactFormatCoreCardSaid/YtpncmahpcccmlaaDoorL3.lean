/- Literals are written: the literal of a text, in the program and in the reference model. No conditions. -/
import Derived.Test.YtpncmahpcccmlaaDoorL2
namespace Go.Proofs.YtpncmahpcccmlaaDoor
open Go.RowKit
set_option linter.unusedVariables false

theorem get8 (s : ByteArray) (k : Nat) (h : k < s.size) : s.data.toList[k]'h = s[k] := rfl
/-- The literal so far. -/
def qTo (d : UInt8) (s : ByteArray) (k : Nat) : List UInt8 := [d] ++ (s.data.toList.take k).flatMap (Lt.el d)
theorem qTo_zero (d : UInt8) (s : ByteArray) : qTo d s 0 = [d] := by simp [qTo]
theorem qTo_succ (d : UInt8) (s : ByteArray) (k : Nat) (h : k < s.size) : qTo d s k ++ Lt.el d s[k] = qTo d s (k + 1) := by
  have h2 : k < s.data.toList.length := h
  unfold qTo
  rw [Lt.els_snoc d _ k h2, List.append_assoc]; rfl
theorem qTo_len (d : UInt8) (s : ByteArray) (k : Nat) (h : k ≤ s.size) : (qTo d s k).length ≤ 4 * s.size + 1 := by
  have h1 := Lt.els_len d (s.data.toList.take k)
  rw [List.length_take] at h1
  unfold qTo
  rw [List.length_append, List.length_singleton]
  have := len8 s
  omega
theorem qTo_end (d : UInt8) (s : ByteArray) : qTo d s s.size ++ [d] = Lt.quo d s.data.toList := by
  unfold qTo Lt.quo
  rw [List.take_of_length_le (by rw [len8]; exact Nat.le_refl _)]; simp
theorem below_at {base : Nat} {w wa wb : World} (h : Below base w wa) (hb : Below base wa wb) : Below base w wb := h.trans hb

set_option maxHeartbeats 800000 in
theorem impl_quote (d : UInt8) (s : ByteArray) (w : World) (hs : (s.size : Int) ≤ 1048576) : Calls Tryd.prog 157 #[.string s, .int .u8 (d.toNat : Int)] w (RetT w (str8 (Lt.quo d s.data.toList))) := by
  unfold RetT
  obtain ⟨i0, hi, hz0, hz1, hz2⟩ := info_parts info8
  obtain ⟨w0, hmk0, hown0, hgr0⟩ := run_make_own (P := Tryd.prog) w w.heap.size 22 5 i0 (.int .u8 0) 1 Tryd.underlying22 hi hz0 hz1 .i64 .i64 (s.size + 2) (by rw [hz2]; omega) (max8b (by omega)) (Nat.le_refl _)
  have hmk : (Instr.makeSlice 22 (.int .i64 0) (.int .i64 ((s.size : Int) + 2))).run Tryd.prog w = .ok (.slice (some ⟨w.heap.size, 0, none⟩) 0 (s.size + 2)) w0 := hmk0
  have hbel0 : Below w.heap.size w w0 := (Below.refl _ _).grown hgr0 (Nat.le_refl _) (fun k hk => by cases hk)
  have HO0 : Hid (Own8 w0 w.heap.size (.slice (some ⟨w.heap.size, 0, none⟩) 0 (s.size + 2)) []) := hown0
  have HB0 := Lib.hid hbel0
  have hsz0 := hbel0.size
  have HE := Lib.hid (qTo_end d s)
  clear hmk0 hown0 hgr0 hbel0 hi hz0 hz1 hz2
  go_enter Tryd.func157, Tryd.ntmps157
  go_wp2_with (at_builtin; refine wpList_app8 rfl _ _ rfl w.heap.size _ [] [d] rfl HO0.out hsz0 1 rfl rfl (by simp) _ _ rfl ?_)
  intro v1 w1 HO1 HB1
  have HB1' := Lib.hid (below_at HB0.out HB1.out)
  rw [← qTo_zero d s] at HO1
  clear hmk HO0 HB0 HB1
  go_wp2
  go_loopw [5, 6, 17] (fun v _ i wr => ∃ k : Nat, i = .int .i64 k ∧ k ≤ s.size ∧ Own8 wr w.heap.size v (qTo d s k) ∧ Below w.heap.size w wr) (fun _ _ i _ => s.size - (intOf i).toNat)
  case atStart => exact ⟨0, rfl, by omega, HO1.out, HB1'.out⟩
  case round =>
    clear HO1 HB1'
    obtain ⟨k, rfl, hk, ho, hb⟩ := hrel
    have HO := Lib.hid ho
    have HB := Lib.hid hb
    have hsz := hb.size
    have hlen := qTo_len d s k hk
    clear ho hb
    by_cases hlt : (k : Int) < s.size
    · have hks : k < s.size := by omega
      have HS := Lib.hid (qTo_succ d s k hks)
      go_wp2_with fail
      refine (app_el w.heap.size _ (qTo d s k) d s[k] _ HO.out hsz (by omega)).mono ?_
      rintro e w2 ⟨v2, rfl, ho2, hb2⟩
      rw [HS.out] at ho2
      have HO2 := Lib.hid ho2
      have HB2 := Lib.hid (below_at HB.out hb2)
      clear ho2 hb2
      go_wp2
      go_roundw
      case rel => exact ⟨k + 1, by go_num, by omega, HO2.out, HB2.out⟩
      case measure => first | (simp [intOf]; done) | (simp [intOf]; omega)
    · obtain rfl : k = s.size := by omega
      go_wp2_with (at_builtin; refine wpList_app8 rfl _ _ rfl w.heap.size _ (qTo d s s.size) [d] rfl HO.out hsz 1 rfl rfl (by omega) _ _ rfl ?_)
      intro v2 w2 HO2 HB2
      have HB2' := Lib.hid (below_at HB.out HB2.out)
      rw [HE.out] at HO2
      have hcv := conv8 HO2.out
      clear HO2 HB2
      go_wp2
      go_ret
      exact ⟨rfl, HB2'.out⟩

theorem hex_z (z : Int) (n : Nat) (hz : z = n) (h : n < 16) (w : World) : Calls Tryd.prog 134 #[.int .i64 z] w fun e w' => e = .returned (.int .u8 ((Lt.hexC n).toNat : Int)) ∧ w = w' := by
  subst hz; exact hex_any n w (by omega)
/-- The state of the reference model's loop. -/
def QAt (w : World) (d : UInt8) (s : ByteArray) (k : Nat) (v : Value) (wr : World) : Prop := Own8 wr w.heap.size v (qTo d s k) ∧ Below w.heap.size w wr
theorem QAt.next {w wr w2 : World} {d b : UInt8} {s : ByteArray} {k : Nat} {v v2 : Value} {m : List UInt8} (h : Hid (QAt w d s k v wr)) (hk : k < s.size) (hb : Hid (s[k] = b)) (he : Hid (Lt.el d b = m)) (ho : Hid (Own8 w2 w.heap.size v2 (qTo d s k ++ m))) (h2 : Hid (Below w.heap.size wr w2)) : QAt w d s (k + 1) v2 w2 := by
  refine ⟨?_, below_at h.out.2 h2.out⟩
  have e := qTo_succ d s k hk
  rw [hb.out, he.out] at e
  rw [← e]; exact ho.out
set_option maxHeartbeats 1600000 in
theorem spec_quote (d : UInt8) (s : ByteArray) (w : World) (hs : (s.size : Int) ≤ 1048576) : Calls Tryd.prog 104 #[.string s, .int .u8 (d.toNat : Int)] w (RetT w (str8 (Lt.quo d s.data.toList))) := by
  unfold RetT
  have HE := Lib.hid (qTo_end d s)
  have HS0 : Hid (QAt w d s 0 (.slice (some ⟨w.heap.size, 0, none⟩) 1 1) (w.alloc (.cells (Lib.byteCells [d]).toArray 5))) :=
    ⟨by rw [qTo_zero]; exact own8_lit w w.heap.size [d] 1 (Nat.le_refl _) rfl (by decide), bl1 _ _⟩
  go_enter Tryd.func104, Tryd.ntmps104
  go_wp2
  go_loopw [5, 6, 7] (fun v i _ wr => ∃ k : Nat, i = .int .i64 k ∧ k ≤ s.size ∧ QAt w d s k v wr) (fun _ i _ _ => s.size - (intOf i).toNat)
  case atStart => exact ⟨0, rfl, by omega, HS0.out⟩
  case round =>
    clear HS0
    obtain ⟨k, rfl, hk, hq⟩ := hrel
    have HQ := Lib.hid hq
    have HO := Lib.hid hq.1
    have hsz := hq.2.size
    have hlen := qTo_len d s k hk
    clear hq
    by_cases hlt : (k : Int) < s.size
    · have hks : k < s.size := by omega
      generalize hbb : s[k] = b
      have HBB := Lib.hid hbb
      have hb8 := UInt8.toNat_lt b
      rcases Lt.el_cases d b with ⟨h1, e⟩ | ⟨h1, h2, e⟩ | ⟨h1, h2, h3, h4, e⟩ | ⟨h1, h2, e⟩ | ⟨h1, h2, e⟩ | ⟨h1, h2, h3, h4, h5, e⟩ | ⟨h1, h2, h3, h4, h5, e⟩
      · have HM := Lib.hid e
        clear e
        have t1 : ((b.toNat : Int) == (d.toNat : Int)) = true := by rw [h1]; simp
        clear h1
        go_wp2_with ((at_builtin; refine wpList_app8 rfl _ _ rfl w.heap.size _ (qTo d s k) [92, b] rfl HO.out hsz 2 rfl rfl (by omega) _ _ rfl ?_))
        intro v2 w2 HO2 HB2
        have HN := Lib.hid (QAt.next HQ hks HBB HM HO2 HB2)
        clear HO2 HB2
        go_wp2
        go_roundw
        case rel => exact ⟨k + 1, by go_num, by omega, HN.out⟩
        case measure => first | (simp [intOf]; done) | (simp [intOf]; omega)
      · have HM := Lib.hid e
        clear e
        have t1 := ne_int h1
        have t92 : ((b.toNat : Int) == 92) = true := by rw [h2]; rfl
        clear h1 h2
        go_wp2_with ((at_builtin; refine wpList_app8 rfl _ _ rfl w.heap.size _ (qTo d s k) [92, b] rfl HO.out hsz 2 rfl rfl (by omega) _ _ rfl ?_))
        intro v2 w2 HO2 HB2
        have HN := Lib.hid (QAt.next HQ hks HBB HM HO2 HB2)
        clear HO2 HB2
        go_wp2
        go_roundw
        case rel => exact ⟨k + 1, by go_num, by omega, HN.out⟩
        case measure => first | (simp [intOf]; done) | (simp [intOf]; omega)
      · have HM := Lib.hid e
        clear e
        have t1 := ne_int h1
        have t92 : ((b.toNat : Int) == 92) = false := ne_int (b := 92) h2
        have t10 : ((b.toNat : Int) == 10) = false := by simp; omega
        have t9 : ((b.toNat : Int) == 9) = false := by simp; omega
        have t5 : decide ((b.toNat : Int) < 32) = false := by simp; omega
        have t6 : ¬ (126 : Int) < b.toNat := by omega
        have t7 : decide ((126 : Int) < b.toNat) = false := by simp; omega
        clear h1 h2
        go_wp2_with ((at_builtin; refine wpList_app8 rfl _ _ rfl w.heap.size _ (qTo d s k) [b] rfl HO.out hsz 1 rfl rfl (by omega) _ _ rfl ?_))
        intro v2 w2 HO2 HB2
        have HN := Lib.hid (QAt.next HQ hks HBB HM HO2 HB2)
        clear HO2 HB2
        go_wp2
        go_roundw
        case rel => exact ⟨k + 1, by go_num, by omega, HN.out⟩
        case measure => first | (simp [intOf]; done) | (simp [intOf]; omega)
      · have HM := Lib.hid e
        clear e
        have t1 := ne_int h1
        have t92 : ((b.toNat : Int) == 92) = false := by rw [h2]; rfl
        have t10 : ((b.toNat : Int) == 10) = true := by rw [h2]; rfl
        clear h1 h2
        go_wp2_with ((at_builtin; refine wpList_app8 rfl _ _ rfl w.heap.size _ (qTo d s k) [92, 110] rfl HO.out hsz 2 rfl rfl (by omega) _ _ rfl ?_))
        intro v2 w2 HO2 HB2
        have HN := Lib.hid (QAt.next HQ hks HBB HM HO2 HB2)
        clear HO2 HB2
        go_wp2
        go_roundw
        case rel => exact ⟨k + 1, by go_num, by omega, HN.out⟩
        case measure => first | (simp [intOf]; done) | (simp [intOf]; omega)
      · have HM := Lib.hid e
        clear e
        have t1 := ne_int h1
        have t92 : ((b.toNat : Int) == 92) = false := by rw [h2]; rfl
        have t10 : ((b.toNat : Int) == 10) = false := by rw [h2]; rfl
        have t9 : ((b.toNat : Int) == 9) = true := by rw [h2]; rfl
        clear h1 h2
        go_wp2_with ((at_builtin; refine wpList_app8 rfl _ _ rfl w.heap.size _ (qTo d s k) [92, 116] rfl HO.out hsz 2 rfl rfl (by omega) _ _ rfl ?_))
        intro v2 w2 HO2 HB2
        have HN := Lib.hid (QAt.next HQ hks HBB HM HO2 HB2)
        clear HO2 HB2
        go_wp2
        go_roundw
        case rel => exact ⟨k + 1, by go_num, by omega, HN.out⟩
        case measure => first | (simp [intOf]; done) | (simp [intOf]; omega)
      · have HM := Lib.hid e
        clear e
        have t1 := ne_int h1
        have t92 : ((b.toNat : Int) == 92) = false := ne_int (b := 92) h2
        have t10 : ((b.toNat : Int) == 10) = false := ne_int (b := 10) h3
        have t9 : ((b.toNat : Int) == 9) = false := ne_int (b := 9) h4
        have t5 : decide ((b.toNat : Int) < 32) = true := by simp; omega
        have t6 : (b.toNat : Int) < 32 := by omega
        clear h1 h2 h3 h4
        go_wp2_with (first | (go_at_call 134; refine (hex_z _ (b.toNat / 16) (by omega) (by omega) _).mono ?_; rintro e w1 ⟨rfl, rfl⟩) | (go_at_call 134; refine (hex_z _ (b.toNat % 16) (by omega) (by omega) _).mono ?_; rintro e w1 ⟨rfl, rfl⟩) | (at_builtin; refine wpList_app8 rfl _ _ rfl w.heap.size _ (qTo d s k) [92, 120, Lt.hexC (b.toNat / 16), Lt.hexC (b.toNat % 16)] rfl HO.out hsz 4 rfl rfl (by omega) _ _ rfl ?_))
        intro v2 w2 HO2 HB2
        have HN := Lib.hid (QAt.next HQ hks HBB HM HO2 HB2)
        clear HO2 HB2
        go_wp2
        go_roundw
        case rel => exact ⟨k + 1, by go_num, by omega, HN.out⟩
        case measure => first | (simp [intOf]; done) | (simp [intOf]; omega)
      · have HM := Lib.hid e
        clear e
        have t1 := ne_int h1
        have t92 : ((b.toNat : Int) == 92) = false := ne_int (b := 92) h2
        have t10 : ((b.toNat : Int) == 10) = false := ne_int (b := 10) h3
        have t9 : ((b.toNat : Int) == 9) = false := ne_int (b := 9) h4
        have t5 : decide ((b.toNat : Int) < 32) = false := by simp; omega
        have t6 : (126 : Int) < b.toNat := by omega
        have t7 : decide ((126 : Int) < b.toNat) = true := by simp; omega
        clear h1 h2 h3 h4
        go_wp2_with (first | (go_at_call 134; refine (hex_z _ (b.toNat / 16) (by omega) (by omega) _).mono ?_; rintro e w1 ⟨rfl, rfl⟩) | (go_at_call 134; refine (hex_z _ (b.toNat % 16) (by omega) (by omega) _).mono ?_; rintro e w1 ⟨rfl, rfl⟩) | (at_builtin; refine wpList_app8 rfl _ _ rfl w.heap.size _ (qTo d s k) [92, 120, Lt.hexC (b.toNat / 16), Lt.hexC (b.toNat % 16)] rfl HO.out hsz 4 rfl rfl (by omega) _ _ rfl ?_))
        intro v2 w2 HO2 HB2
        have HN := Lib.hid (QAt.next HQ hks HBB HM HO2 HB2)
        clear HO2 HB2
        go_wp2
        go_roundw
        case rel => exact ⟨k + 1, by go_num, by omega, HN.out⟩
        case measure => first | (simp [intOf]; done) | (simp [intOf]; omega)
    · obtain rfl : k = s.size := by omega
      go_wp2_with (at_builtin; refine wpList_app8 rfl _ _ rfl w.heap.size _ (qTo d s s.size) [d] rfl HO.out hsz 1 rfl rfl (by omega) _ _ rfl ?_)
      intro v2 w2 HO2 HB2
      have HB2' := Lib.hid (below_at HQ.out.2 HB2.out)
      rw [HE.out] at HO2
      have hcv := conv8 HO2.out
      clear HO2 HB2
      go_wp2
      go_ret
      exact ⟨rfl, HB2'.out⟩
end Go.Proofs.YtpncmahpcccmlaaDoor
