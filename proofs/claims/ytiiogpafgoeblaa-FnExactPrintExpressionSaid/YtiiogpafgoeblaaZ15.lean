/- Joined texts: L3, L4, W1. No conditions besides those that each states. -/
import Derived.Test.YtiiogpafgoeblaaProg
import Derived.WalkKit
import Derived.ProofKit
import Derived.WalkLawsBesides
import Derived.WalkSpells
import Derived.Lib.Hide
import Derived.Laws.BytesArg
import Derived.Test.YtiiogpafgoeblaaZ2
import Derived.Test.YtiiogpafgoeblaaZ12
import Derived.Test.YtiiogpafgoeblaaZ14
/- Literals are written: the literal of a text, in the program and in the reference model. No conditions. -/
namespace Go.Proofs.Ytiiogpafgoeblaa
open Go.RowKit
set_option linter.unusedVariables false

theorem get8 (s : ByteArray) (k : Nat) (h : k < s.size) : s.data.toList[k]'h = s[k] := rfl
/-- The literal so far. -/
def qTo (d : UInt8) (s : ByteArray) (k : Nat) : List UInt8 := [d] ++ (s.data.toList.take k).flatMap (Lt.el d)
theorem qTo_zero (d : UInt8) (s : ByteArray) : qTo d s 0 = [d] := by simp [qTo]
theorem qTo_succ (d : UInt8) (s : ByteArray) (k : Nat) (h : k < s.size) : qTo d s k ++ Lt.el d s[k] = qTo d s (k + 1) := by
  have h2 : k < s.data.toList.length := h
  unfold qTo
  rw [Lt.els_snoc d _ k h2, List.append_assoc]; rfl
theorem qTo_len (d : UInt8) (s : ByteArray) (k : Nat) (h : k ≤ s.size) : (qTo d s k).length ≤ 4 * s.size + 1 := by
  have h1 := Lt.els_len d (s.data.toList.take k)
  rw [List.length_take] at h1
  unfold qTo
  rw [List.length_append, List.length_singleton]
  have := len8 s
  omega
theorem qTo_end (d : UInt8) (s : ByteArray) : qTo d s s.size ++ [d] = Lt.quo d s.data.toList := by
  unfold qTo Lt.quo
  rw [List.take_of_length_le (by rw [len8]; exact Nat.le_refl _)]; simp
theorem below_at {base : Nat} {w wa wb : World} (h : Below base w wa) (hb : Below base wa wb) : Below base w wb := h.trans hb

set_option maxHeartbeats 800000 in
theorem impl_quote (d : UInt8) (s : ByteArray) (w : World) (hs : (s.size : Int) ≤ 1048576) : Calls Try.prog 108 #[.string s, .int .u8 (d.toNat : Int)] w (RetT w (str8 (Lt.quo d s.data.toList))) := by
  unfold RetT
  obtain ⟨i0, hi, hz0, hz1, hz2⟩ := info_parts info8
  obtain ⟨w0, hmk0, hown0, hgr0⟩ := run_make_own (P := Try.prog) w w.heap.size 107 5 i0 (.int .u8 0) 1 Try.underlying107 hi hz0 hz1 .i64 .i64 (s.size + 2) (by rw [hz2]; omega) (max8b (by omega)) (Nat.le_refl _)
  have hmk : (Instr.makeSlice 107 (.int .i64 0) (.int .i64 ((s.size : Int) + 2))).run Try.prog w = .ok (.slice (some ⟨w.heap.size, 0, none⟩) 0 (s.size + 2)) w0 := hmk0
  have hbel0 : Below w.heap.size w w0 := (Below.refl _ _).grown hgr0 (Nat.le_refl _) (fun k hk => by cases hk)
  have HO0 : Hid (Own8 w0 w.heap.size (.slice (some ⟨w.heap.size, 0, none⟩) 0 (s.size + 2)) []) := hown0
  have HB0 := Lib.hid hbel0
  have hsz0 := hbel0.size
  have HE := Lib.hid (qTo_end d s)
  clear hmk0 hown0 hgr0 hbel0 hi hz0 hz1 hz2
  go_enter Try.func108, Try.ntmps108
  go_wp2_with (at_builtin; refine wpList_app8 rfl _ _ rfl w.heap.size _ [] [d] rfl HO0.out hsz0 1 rfl rfl (by simp) _ _ rfl ?_)
  intro v1 w1 HO1 HB1
  have HB1' := Lib.hid (below_at HB0.out HB1.out)
  rw [← qTo_zero d s] at HO1
  clear hmk HO0 HB0 HB1
  go_wp2
  go_loopw [5, 6, 17] (fun v _ i wr => ∃ k : Nat, i = .int .i64 k ∧ k ≤ s.size ∧ Own8 wr w.heap.size v (qTo d s k) ∧ Below w.heap.size w wr) (fun _ _ i _ => s.size - (intOf i).toNat)
  case atStart => exact ⟨0, rfl, by omega, HO1.out, HB1'.out⟩
  case round =>
    clear HO1 HB1'
    obtain ⟨k, rfl, hk, ho, hb⟩ := hrel
    have HO := Lib.hid ho
    have HB := Lib.hid hb
    have hsz := hb.size
    have hlen := qTo_len d s k hk
    clear ho hb
    by_cases hlt : (k : Int) < s.size
    · have hks : k < s.size := by omega
      have HS := Lib.hid (qTo_succ d s k hks)
      go_wp2_with fail
      refine (app_el w.heap.size _ (qTo d s k) d s[k] _ HO.out hsz (by omega)).mono ?_
      rintro e w2 ⟨v2, rfl, ho2, hb2⟩
      rw [HS.out] at ho2
      have HO2 := Lib.hid ho2
      have HB2 := Lib.hid (below_at HB.out hb2)
      clear ho2 hb2
      go_wp2
      go_roundw
      case rel => exact ⟨k + 1, by go_num, by omega, HO2.out, HB2.out⟩
      case measure => first | (simp [intOf]; done) | (simp [intOf]; omega)
    · obtain rfl : k = s.size := by omega
      go_wp2_with (at_builtin; refine wpList_app8 rfl _ _ rfl w.heap.size _ (qTo d s s.size) [d] rfl HO.out hsz 1 rfl rfl (by omega) _ _ rfl ?_)
      intro v2 w2 HO2 HB2
      have HB2' := Lib.hid (below_at HB.out HB2.out)
      rw [HE.out] at HO2
      have hcv := conv8 HO2.out
      clear HO2 HB2
      go_wp2
      go_ret
      exact ⟨rfl, HB2'.out⟩

theorem hex_z (z : Int) (n : Nat) (hz : z = n) (h : n < 16) (w : World) : Calls Try.prog 98 #[.int .i64 z] w fun e w' => e = .returned (.int .u8 ((Lt.hexC n).toNat : Int)) ∧ w = w' := by
  subst hz; exact hex_any n w (by omega)
/-- The state of the reference model's loop. -/
def QAt (w : World) (d : UInt8) (s : ByteArray) (k : Nat) (v : Value) (wr : World) : Prop := Own8 wr w.heap.size v (qTo d s k) ∧ Below w.heap.size w wr
theorem QAt.next {w wr w2 : World} {d b : UInt8} {s : ByteArray} {k : Nat} {v v2 : Value} {m : List UInt8} (h : Hid (QAt w d s k v wr)) (hk : k < s.size) (hb : Hid (s[k] = b)) (he : Hid (Lt.el d b = m)) (ho : Hid (Own8 w2 w.heap.size v2 (qTo d s k ++ m))) (h2 : Hid (Below w.heap.size wr w2)) : QAt w d s (k + 1) v2 w2 := by
  refine ⟨?_, below_at h.out.2 h2.out⟩
  have e := qTo_succ d s k hk
  rw [hb.out, he.out] at e
  rw [← e]; exact ho.out
set_option maxHeartbeats 1600000 in
theorem spec_quote (d : UInt8) (s : ByteArray) (w : World) (hs : (s.size : Int) ≤ 1048576) : Calls Try.prog 78 #[.string s, .int .u8 (d.toNat : Int)] w (RetT w (str8 (Lt.quo d s.data.toList))) := by
  unfold RetT
  have HE := Lib.hid (qTo_end d s)
  have HS0 : Hid (QAt w d s 0 (.slice (some ⟨w.heap.size, 0, none⟩) 1 1) (w.alloc (.cells (Lib.byteCells [d]).toArray 5))) :=
    ⟨by rw [qTo_zero]; exact own8_lit w w.heap.size [d] 1 (Nat.le_refl _) rfl (by decide), bl1 _ _⟩
  go_enter Try.func78, Try.ntmps78
  go_wp2
  go_loopw [5, 6, 7] (fun v i _ wr => ∃ k : Nat, i = .int .i64 k ∧ k ≤ s.size ∧ QAt w d s k v wr) (fun _ i _ _ => s.size - (intOf i).toNat)
  case atStart => exact ⟨0, rfl, by omega, HS0.out⟩
  case round =>
    clear HS0
    obtain ⟨k, rfl, hk, hq⟩ := hrel
    have HQ := Lib.hid hq
    have HO := Lib.hid hq.1
    have hsz := hq.2.size
    have hlen := qTo_len d s k hk
    clear hq
    by_cases hlt : (k : Int) < s.size
    · have hks : k < s.size := by omega
      generalize hbb : s[k] = b
      have HBB := Lib.hid hbb
      have hb8 := UInt8.toNat_lt b
      rcases Lt.el_cases d b with ⟨h1, e⟩ | ⟨h1, h2, e⟩ | ⟨h1, h2, h3, h4, e⟩ | ⟨h1, h2, e⟩ | ⟨h1, h2, e⟩ | ⟨h1, h2, h3, h4, h5, e⟩ | ⟨h1, h2, h3, h4, h5, e⟩
      · have HM := Lib.hid e
        clear e
        have t1 : ((b.toNat : Int) == (d.toNat : Int)) = true := by rw [h1]; simp
        clear h1
        go_wp2_with ((at_builtin; refine wpList_app8 rfl _ _ rfl w.heap.size _ (qTo d s k) [92, b] rfl HO.out hsz 2 rfl rfl (by omega) _ _ rfl ?_))
        intro v2 w2 HO2 HB2
        have HN := Lib.hid (QAt.next HQ hks HBB HM HO2 HB2)
        clear HO2 HB2
        go_wp2
        go_roundw
        case rel => exact ⟨k + 1, by go_num, by omega, HN.out⟩
        case measure => first | (simp [intOf]; done) | (simp [intOf]; omega)
      · have HM := Lib.hid e
        clear e
        have t1 := ne_int h1
        have t92 : ((b.toNat : Int) == 92) = true := by rw [h2]; rfl
        clear h1 h2
        go_wp2_with ((at_builtin; refine wpList_app8 rfl _ _ rfl w.heap.size _ (qTo d s k) [92, b] rfl HO.out hsz 2 rfl rfl (by omega) _ _ rfl ?_))
        intro v2 w2 HO2 HB2
        have HN := Lib.hid (QAt.next HQ hks HBB HM HO2 HB2)
        clear HO2 HB2
        go_wp2
        go_roundw
        case rel => exact ⟨k + 1, by go_num, by omega, HN.out⟩
        case measure => first | (simp [intOf]; done) | (simp [intOf]; omega)
      · have HM := Lib.hid e
        clear e
        have t1 := ne_int h1
        have t92 : ((b.toNat : Int) == 92) = false := ne_int (b := 92) h2
        have t10 : ((b.toNat : Int) == 10) = false := by simp; omega
        have t9 : ((b.toNat : Int) == 9) = false := by simp; omega
        have t5 : decide ((b.toNat : Int) < 32) = false := by simp; omega
        have t6 : ¬ (126 : Int) < b.toNat := by omega
        have t7 : decide ((126 : Int) < b.toNat) = false := by simp; omega
        clear h1 h2
        go_wp2_with ((at_builtin; refine wpList_app8 rfl _ _ rfl w.heap.size _ (qTo d s k) [b] rfl HO.out hsz 1 rfl rfl (by omega) _ _ rfl ?_))
        intro v2 w2 HO2 HB2
        have HN := Lib.hid (QAt.next HQ hks HBB HM HO2 HB2)
        clear HO2 HB2
        go_wp2
        go_roundw
        case rel => exact ⟨k + 1, by go_num, by omega, HN.out⟩
        case measure => first | (simp [intOf]; done) | (simp [intOf]; omega)
      · have HM := Lib.hid e
        clear e
        have t1 := ne_int h1
        have t92 : ((b.toNat : Int) == 92) = false := by rw [h2]; rfl
        have t10 : ((b.toNat : Int) == 10) = true := by rw [h2]; rfl
        clear h1 h2
        go_wp2_with ((at_builtin; refine wpList_app8 rfl _ _ rfl w.heap.size _ (qTo d s k) [92, 110] rfl HO.out hsz 2 rfl rfl (by omega) _ _ rfl ?_))
        intro v2 w2 HO2 HB2
        have HN := Lib.hid (QAt.next HQ hks HBB HM HO2 HB2)
        clear HO2 HB2
        go_wp2
        go_roundw
        case rel => exact ⟨k + 1, by go_num, by omega, HN.out⟩
        case measure => first | (simp [intOf]; done) | (simp [intOf]; omega)
      · have HM := Lib.hid e
        clear e
        have t1 := ne_int h1
        have t92 : ((b.toNat : Int) == 92) = false := by rw [h2]; rfl
        have t10 : ((b.toNat : Int) == 10) = false := by rw [h2]; rfl
        have t9 : ((b.toNat : Int) == 9) = true := by rw [h2]; rfl
        clear h1 h2
        go_wp2_with ((at_builtin; refine wpList_app8 rfl _ _ rfl w.heap.size _ (qTo d s k) [92, 116] rfl HO.out hsz 2 rfl rfl (by omega) _ _ rfl ?_))
        intro v2 w2 HO2 HB2
        have HN := Lib.hid (QAt.next HQ hks HBB HM HO2 HB2)
        clear HO2 HB2
        go_wp2
        go_roundw
        case rel => exact ⟨k + 1, by go_num, by omega, HN.out⟩
        case measure => first | (simp [intOf]; done) | (simp [intOf]; omega)
      · have HM := Lib.hid e
        clear e
        have t1 := ne_int h1
        have t92 : ((b.toNat : Int) == 92) = false := ne_int (b := 92) h2
        have t10 : ((b.toNat : Int) == 10) = false := ne_int (b := 10) h3
        have t9 : ((b.toNat : Int) == 9) = false := ne_int (b := 9) h4
        have t5 : decide ((b.toNat : Int) < 32) = true := by simp; omega
        have t6 : (b.toNat : Int) < 32 := by omega
        clear h1 h2 h3 h4
        go_wp2_with (first | (go_at_call 98; refine (hex_z _ (b.toNat / 16) (by omega) (by omega) _).mono ?_; rintro e w1 ⟨rfl, rfl⟩) | (go_at_call 98; refine (hex_z _ (b.toNat % 16) (by omega) (by omega) _).mono ?_; rintro e w1 ⟨rfl, rfl⟩) | (at_builtin; refine wpList_app8 rfl _ _ rfl w.heap.size _ (qTo d s k) [92, 120, Lt.hexC (b.toNat / 16), Lt.hexC (b.toNat % 16)] rfl HO.out hsz 4 rfl rfl (by omega) _ _ rfl ?_))
        intro v2 w2 HO2 HB2
        have HN := Lib.hid (QAt.next HQ hks HBB HM HO2 HB2)
        clear HO2 HB2
        go_wp2
        go_roundw
        case rel => exact ⟨k + 1, by go_num, by omega, HN.out⟩
        case measure => first | (simp [intOf]; done) | (simp [intOf]; omega)
      · have HM := Lib.hid e
        clear e
        have t1 := ne_int h1
        have t92 : ((b.toNat : Int) == 92) = false := ne_int (b := 92) h2
        have t10 : ((b.toNat : Int) == 10) = false := ne_int (b := 10) h3
        have t9 : ((b.toNat : Int) == 9) = false := ne_int (b := 9) h4
        have t5 : decide ((b.toNat : Int) < 32) = false := by simp; omega
        have t6 : (126 : Int) < b.toNat := by omega
        have t7 : decide ((126 : Int) < b.toNat) = true := by simp; omega
        clear h1 h2 h3 h4
        go_wp2_with (first | (go_at_call 98; refine (hex_z _ (b.toNat / 16) (by omega) (by omega) _).mono ?_; rintro e w1 ⟨rfl, rfl⟩) | (go_at_call 98; refine (hex_z _ (b.toNat % 16) (by omega) (by omega) _).mono ?_; rintro e w1 ⟨rfl, rfl⟩) | (at_builtin; refine wpList_app8 rfl _ _ rfl w.heap.size _ (qTo d s k) [92, 120, Lt.hexC (b.toNat / 16), Lt.hexC (b.toNat % 16)] rfl HO.out hsz 4 rfl rfl (by omega) _ _ rfl ?_))
        intro v2 w2 HO2 HB2
        have HN := Lib.hid (QAt.next HQ hks HBB HM HO2 HB2)
        clear HO2 HB2
        go_wp2
        go_roundw
        case rel => exact ⟨k + 1, by go_num, by omega, HN.out⟩
        case measure => first | (simp [intOf]; done) | (simp [intOf]; omega)
    · obtain rfl : k = s.size := by omega
      go_wp2_with (at_builtin; refine wpList_app8 rfl _ _ rfl w.heap.size _ (qTo d s s.size) [d] rfl HO.out hsz 1 rfl rfl (by omega) _ _ rfl ?_)
      intro v2 w2 HO2 HB2
      have HB2' := Lib.hid (below_at HQ.out.2 HB2.out)
      rw [HE.out] at HO2
      have hcv := conv8 HO2.out
      clear HO2 HB2
      go_wp2
      go_ret
      exact ⟨rfl, HB2'.out⟩
end Go.Proofs.Ytiiogpafgoeblaa
/- QuoteText and QuoteCset of the program and of the reference model, and the walks of their laws. No conditions. -/
namespace Go.Proofs.Ytiiogpafgoeblaa
open Go.RowKit
set_option linter.unusedVariables false

/-- The literal of a text, the literal of a set. -/
def qtS (s : ByteArray) : ByteArray := str8 (Lt.quo 34 s.data.toList)
def qcS (a b : Int) : ByteArray := str8 (Lt.quo 39 (txt (Cs.text a b)).data.toList)
theorem quote34 (s : ByteArray) (w : World) (hs : (s.size : Int) ≤ 1048576) : Calls Try.prog 108 #[.string s, .int .u8 34] w (RetT w (qtS s)) := impl_quote 34 s w hs
theorem impl_qt (s : ByteArray) (w : World) (hs : (s.size : Int) ≤ 1048576) : Calls Try.prog 88 #[.string s] w (RetT w (qtS s)) := by
  have H := Lib.hid (fun W => quote34 s W hs)
  unfold RetT at H ⊢
  go_enter Try.func88, Try.ntmps88
  go_wp2_with fail
  refine (H.out _).mono ?_
  rintro e w1 ⟨rfl, hb1⟩
  go_wp2
  go_ret
  exact ⟨rfl, hb1⟩
theorem squote34 (s : ByteArray) (w : World) (hs : (s.size : Int) ≤ 1048576) : Calls Try.prog 78 #[.string s, .int .u8 34] w (RetT w (qtS s)) := spec_quote 34 s w hs
theorem spec_qt (s : ByteArray) (w : World) (hs : (s.size : Int) ≤ 1048576) : Calls Try.prog 62 #[.string s] w (RetT w (qtS s)) := by
  have H := Lib.hid (fun W => squote34 s W hs)
  unfold RetT at H ⊢
  go_enter Try.func62, Try.ntmps62
  go_wp2_with fail
  refine (H.out _).mono ?_
  rintro e w1 ⟨rfl, hb1⟩
  go_wp2
  go_ret
  exact ⟨rfl, hb1⟩
theorem text_small (a b : Int) : ((txt (Cs.text a b)).size : Int) ≤ 1048576 := by
  have h : (Cs.text a b).length ≤ 128 := Cs.textTo_len a b 128
  rw [txt_size]; omega
theorem impl_qc (a b : Int) (w : World) : Calls Try.prog 90 #[.agg #[.int .i64 a, .int .i64 b]] w (RetT w (qcS a b)) := by
  have H1 := Lib.hid (fun W => impl_text a b W)
  have H2 : Hid (∀ W, Calls Try.prog 108 #[.string (txt (Cs.text a b)), .int .u8 39] W (RetT W (qcS a b))) := fun W => impl_quote 39 _ W (text_small a b)
  unfold RetT at H2 ⊢
  unfold RetText at H1
  generalize txt (Cs.text a b) = t at H1 H2
  generalize qcS a b = v at H2 ⊢
  go_enter Try.func90, Try.ntmps90
  go_wp2_with fail
  refine (H1.out _).mono ?_
  rintro e w1 ⟨rfl, hb1⟩
  have HB1 := Lib.hid (below_step (bl1 _ _) hb1)
  clear hb1
  go_wp2_with fail
  refine (H2.out _).mono ?_
  rintro e w2 ⟨rfl, hb2⟩
  have HB2 := Lib.hid (below_step HB1.out hb2)
  clear hb2
  go_wp2
  go_ret
  exact ⟨rfl, HB2.out⟩
theorem spec_qc (a b : Int) (w : World) : Calls Try.prog 64 #[.agg #[.int .i64 a, .int .i64 b]] w (RetT w (qcS a b)) := by
  have H1 := Lib.hid (fun W => spec_text a b W)
  have H2 : Hid (∀ W, Calls Try.prog 78 #[.string (txt (Cs.text a b)), .int .u8 39] W (RetT W (qcS a b))) := fun W => spec_quote 39 _ W (text_small a b)
  unfold RetT at H2 ⊢
  unfold RetText at H1
  generalize txt (Cs.text a b) = t at H1 H2
  generalize qcS a b = v at H2 ⊢
  go_enter Try.func64, Try.ntmps64
  go_wp2_with fail
  refine (H1.out _).mono ?_
  rintro e w1 ⟨rfl, hb1⟩
  have HB1 := Lib.hid (below_step (bl1 _ _) hb1)
  clear hb1
  go_wp2_with fail
  refine (H2.out _).mono ?_
  rintro e w2 ⟨rfl, hb2⟩
  have HB2 := Lib.hid (below_step HB1.out hb2)
  clear hb2
  go_wp2
  go_ret
  exact ⟨rfl, HB2.out⟩
end Go.Proofs.Ytiiogpafgoeblaa
/- The reference model's FormatInt returns the decimal form, at every integer. No conditions. -/
namespace Go.Proofs.Ytiiogpafgoeblaa
open Go.RowKit

theorem ret_pair {a c : Int} {b d : Bool} (h1 : a = c) (h2 : b = d) : Ending.returned (.tuple #[.int .i64 a, .bool b]) = .returned (.tuple #[.int .i64 c, .bool d]) := by rw [h1, h2]
theorem ret_val {a c : Int} (h1 : a = c) : Value.int .i64 a = .int .i64 c := by rw [h1]

/-- A block of one byte, made into a string. -/
theorem conv_one (x : Int) (w : World) : (convert 107 9 (.slice (some ⟨w.heap.size, 0, none⟩) 1 1)).run Try.prog (w.alloc (.cells #[.int .u8 x] 5)) = .ok (.string ⟨#[UInt8.ofNat x.toNat]⟩) (w.alloc (.cells #[.int .u8 x] 5)) := by
  have h := run_convert_bytes_arg (P := Try.prog) (w.alloc (.cells #[.int .u8 x] 5)) 107 5 Try.underlying107 Try.underlying5 w.heap.size 0 1 1 [x] rfl
    (fun i hi => by
      obtain rfl : i = 0 := by omega
      exact cell_one_new w (.int .u8 x) 5 0 (.int .u8 x) rfl) 9 Try.underlying9
  simpa [strOfNums] using h

theorem string_eq {s : ByteArray} {l : List UInt8} (h : s.data.toList = l) : s = ⟨l.toArray⟩ := by
  subst h; cases s; simp

theorem size_eq (s : ByteArray) : s.size = s.data.toList.length := rfl

/-- One round's fact. -/
theorem fmt_round {n m : Int} {s : ByteArray} (hm : 0 < m) (h : Dec.digs n.toNat = Dec.digs m.toNat ++ s.data.toList) :
    Dec.digs n.toNat = Dec.digs (m / 10).toNat ++ (({ data := #[UInt8.ofNat (48 + m % 10).toNat] } : ByteArray) ++ s).data.toList := by
  rw [h, Dec.digs_pos (by omega), Dec.dg_byte m (by omega), show m.toNat / 10 = (m / 10).toNat by omega]
  simp [ByteArray.data_append]

theorem fmt_size {n m : Int} {s : ByteArray} (h0 : 0 ≤ n) (h1 : n ≤ 9223372036854775808) (h : Dec.digs n.toNat = Dec.digs m.toNat ++ s.data.toList) : s.size ≤ 20 := by
  have h2 := congrArg List.length h
  have h3 := Dec.digs_lt 20 n.toNat (Nat.lt_of_le_of_lt (show n.toNat ≤ 9223372036854775808 by omega) (by decide))
  rw [List.length_append, ← size_eq] at h2; omega

set_option maxRecDepth 100000 in
set_option maxHeartbeats 400000 in
theorem spec_fmt_pos (n : Int) (w : World) (h0 : 0 < n) (h1 : n ≤ 9223372036854775807) :
    Calls Try.prog 61 #[.int .i64 n] w fun e w' => e = .returned (.string ⟨(Dec.digs n.toNat).toArray⟩) ∧ Below w.heap.size w w' := by
  have c0 : (n == 0) = false := by simp; omega
  go_enter Try.func61, Try.ntmps61
  go_wp2
  go_loopw [0, 4, 5] (fun x o d wr => ∃ (m : Int) (s : ByteArray), x = .int .i64 m ∧ 0 ≤ m ∧ m ≤ n ∧ o = .string s ∧ Below w.heap.size w wr ∧ Dec.digs n.toNat = Dec.digs m.toNat ++ s.data.toList) (fun x _ _ _ => (intOf x).toNat)
  case atStart => exact ⟨n, _, rfl, by omega, by omega, rfl, Below.refl _ _, by simp⟩
  case round =>
    obtain ⟨m, s, rfl, h2, h3, rfl, h4, h5⟩ := hrel
    have hsz := fmt_size (by omega) (by omega) h5
    have H5 := Lib.hid h5
    clear h5
    by_cases hm : m = 0
    · subst hm
      go_wp2
      go_ret
      exact ⟨by rw [H5.out]; simp [Dec.digs_zero, ← string_eq (s := s) rfl], h4⟩
    · have hcv := conv_one (48 + m % 10) wr
      have hm' : (m == 0) = false := by simpa using hm
      go_wp2
      all_goals go_roundw
      case rel => exact ⟨m / 10, _, rfl, by omega, by omega, rfl, h4.alloc h4.size _, fmt_round (by omega) H5.out⟩
      case measure => simp [intOf]; omega

theorem cons_eq (b : UInt8) (s : ByteArray) : ({ data := #[b] } : ByteArray) ++ s = ⟨(b :: s.data.toList).toArray⟩ :=
  string_eq (by simp [ByteArray.data_append])

theorem quo_neg (m : Int) (h0 : 0 ≤ m) (h1 : m ≤ 9223372036854775808) : wrap64 (-m.tdiv 10) = -(m / 10) := by
  rw [Int.tdiv_eq_ediv_of_nonneg h0]
  unfold wrap64; omega

set_option maxRecDepth 100000 in
set_option maxHeartbeats 400000 in
theorem spec_fmt_neg (n : Int) (w : World) (h0 : 0 < n) (h1 : n ≤ 9223372036854775808) :
    Calls Try.prog 61 #[.int .i64 (-n)] w fun e w' => e = .returned (.string ⟨(45 :: Dec.digs n.toNat).toArray⟩) ∧ Below w.heap.size w w' := by
  have c0 : (-n == 0) = false := by simp; omega
  go_enter Try.func61, Try.ntmps61
  go_wp2
  go_loopw [0, 4, 5] (fun x o d wr => ∃ (m : Int) (s : ByteArray), x = .int .i64 (-m) ∧ 0 ≤ m ∧ m ≤ n ∧ o = .string s ∧ Below w.heap.size w wr ∧ Dec.digs n.toNat = Dec.digs m.toNat ++ s.data.toList) (fun x _ _ _ => (- intOf x).toNat)
  case atStart => exact ⟨n, _, rfl, by omega, by omega, rfl, Below.refl _ _, by simp⟩
  case round =>
    obtain ⟨m, s, rfl, h2, h3, rfl, h4, h5⟩ := hrel
    have hsz := fmt_size (by omega) h1 h5
    have H5 := Lib.hid h5
    clear h5
    by_cases hm : m = 0
    · subst hm
      go_wp2
      go_ret
      exact ⟨by rw [H5.out]; simp only [Dec.digs_zero, Int.toNat_zero, List.nil_append]; rw [← cons_eq]; rfl, h4⟩
    · have hcv := conv_one (48 + m % 10) wr
      have hcv2 := conv_one (48 + -(m % 10)) wr
      have hm' : (-m == 0) = false := by simpa using hm
      go_wp2
      all_goals go_roundw
      case rel => exact ⟨m / 10, _, by rw [quo_neg m h2 (by omega)], by omega, by omega, rfl, h4.alloc h4.size _, fmt_round (by omega) H5.out⟩
      case measure => rw [quo_neg m h2 (by omega)]; simp [intOf]; omega
      case rel => exact ⟨m / 10, _, by rw [quo_neg m h2 (by omega)], by omega, by omega, rfl, h4.alloc h4.size _, by rw [show (48 : Int) + -(m % 10) = 48 + m % 10 by omega]; exact fmt_round (by omega) H5.out⟩
      case measure => rw [quo_neg m h2 (by omega)]; simp [intOf]; omega
set_option maxRecDepth 100000 in
set_option maxHeartbeats 400000 in
theorem spec_fmt_zero (w : World) :
    Calls Try.prog 61 #[.int .i64 0] w fun e w' => e = .returned (.string ⟨#[48]⟩) ∧ Below w.heap.size w w' := by
  go_enter Try.func61, Try.ntmps61
  go_wp2
  go_ret
  exact ⟨rfl, Below.refl _ _⟩

/-- The reference model's FormatInt. -/
theorem spec_fmt (n : Int) (w : World) (h0 : -9223372036854775808 ≤ n) (h1 : n ≤ 9223372036854775807) :
    Calls Try.prog 61 #[.int .i64 n] w fun e w' => e = .returned (.string ⟨(Dec.fmt n).toArray⟩) ∧ Below w.heap.size w w' := by
  rcases Int.lt_trichotomy n 0 with h | h | h
  · have h2 := spec_fmt_neg (-n) w (by omega) (by omega)
    rw [Int.neg_neg] at h2
    have e : Dec.fmt n = 45 :: Dec.digs (-n).toNat := by
      unfold Dec.fmt; rw [if_neg (by omega), if_pos h, show n.natAbs = (-n).toNat by omega]
    rw [e]; exact h2
  · subst h; exact spec_fmt_zero w
  · have h2 := spec_fmt_pos n w h h1
    have e : Dec.fmt n = Dec.digs n.toNat := by
      unfold Dec.fmt; rw [if_neg (by omega), if_neg (by omega), show n.natAbs = n.toNat by omega]
    rw [e]; exact h2
end Go.Proofs.Ytiiogpafgoeblaa
