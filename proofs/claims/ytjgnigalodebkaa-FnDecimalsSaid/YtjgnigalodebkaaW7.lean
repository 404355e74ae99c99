/- The program's SplitByte returns the parts of a string, in memory of its own. -/
import Derived.Test.YtjgnigalodebkaaW6
import Derived.Test.YtjgnigalodebkaaShelf
namespace Go.Proofs.Ytjgnigalodebkaa
open Go.RowKit
set_option linter.unusedVariables false

theorem impl_count (s : ByteArray) (b : Int) (w : World) (hs : (s.size : Int) ≤ 1048576) (hb0 : 0 ≤ b) (hb1 : b ≤ 255) :
    Calls Try.prog 33 #[.string s, .int .u8 b] w fun e w' => e = .returned (.int .i64 (Cut.to s b s.size).1.length) ∧ w = w' := by
  go_enter Try.func33, Try.ntmps33
  go_wp2
  go_loop [5, 6, 9] (fun c _ i => ∃ k : Nat, i = .int .i64 k ∧ k ≤ s.size ∧ c = .int .i64 (Cut.to s b k).1.length) (fun _ _ i => s.size - (intOf i).toNat)
  case atStart => exact ⟨0, rfl, Nat.zero_le _, rfl⟩
  case round =>
    obtain ⟨k, rfl, hk, rfl⟩ := hrel
    have hle := (Cut.to_le s b k).1
    by_cases hlt : k < s.size
    · by_cases hhit : (s[k].toNat : Int) = b
      · have hh : ((s[k].toNat : Int) == b) = true := by simpa using hhit
        have H1 := Lib.hid (Cut.to_hit hlt hhit)
        clear hhit
        go_wp2
        go_round
        case rel => exact ⟨k + 1, by go_num, hlt, by rw [H1.out]; simp⟩
        case measure => first | (simp [intOf]; done) | (simp [intOf]; omega)
      · have hh : ((s[k].toNat : Int) == b) = false := by simpa using hhit
        have H1 := Lib.hid (Cut.to_miss hlt hhit)
        clear hhit
        go_wp2
        go_round
        case rel => exact ⟨k + 1, by go_num, hlt, by rw [H1.out]⟩
        case measure => first | (simp [intOf]; done) | (simp [intOf]; omega)
    · obtain rfl : k = s.size := by omega
      go_wp2
      go_ret
      exact ⟨rfl, rfl⟩

theorem clone_any (s : ByteArray) (w : World) (h : s.size ≤ 1048576) :
    Calls Try.prog 34 #[.string s] w fun e w' => e = .returned (.string s) ∧ Below w.heap.size w w' := by
  go_enter Try.func34, Try.ntmps34
  go_wp2_with (go_at_call 46; refine (Try.stringslite_Clone s _ (by omega)).mono ?_; rintro e w1 ⟨rfl, b1⟩)
  go_ret
  exact ⟨rfl, b1⟩

theorem ext_size (s : ByteArray) (a c : Nat) (h : (s.size : Int) ≤ 1048576) : (s.extract a c).size ≤ 1048576 := by
  rw [ByteArray.size_extract]; omega

set_option maxHeartbeats 400000 in
theorem impl_split (s : ByteArray) (b : Int) (w : World) (hs : (s.size : Int) ≤ 1048576) (hb0 : 0 ≤ b) (hb1 : b ≤ 255) :
    Calls Try.prog 14 #[.string s, .int .u8 b] w fun e w' => ∃ v, e = .returned v ∧ Owns w' w.heap.size v (Cut.all s b) ∧ Below w.heap.size w w' := by
  obtain ⟨i0, hi, hz0, hz1, hz2⟩ := info_parts info_string
  have hle := (Cut.to_le s b s.size).1
  obtain ⟨w0, hmk0, hown0, hgr0⟩ := run_make_own (P := Try.prog) w w.heap.size 31 9 i0 (.string ByteArray.empty) 1 Try.underlying31 hi hz0 hz1 .i64 .i64 ((Cut.to s b s.size).1.length + 1) (by rw [hz2]; omega) (max_small (by omega)) (Nat.le_refl _)
  have hmk : (Instr.makeSlice 31 (.int .i64 0) (.int .i64 ((Cut.to s b s.size).1.length + 1 : Int))).run Try.prog w = .ok (.slice (some ⟨w.heap.size, 0, none⟩) 0 ((Cut.to s b s.size).1.length + 1)) w0 := hmk0
  have hbel0 : Below w.heap.size w w0 := (Below.refl _ _).grown hgr0 (Nat.le_refl _) (fun k hk => by cases hk)
  clear hmk0
  have HO0 := Lib.hid hown0
  have HB0 := Lib.hid hbel0
  clear hown0 hgr0 hbel0
  go_enter Try.func14, Try.ntmps14
  go_wp2_with (go_at_call 33; refine (impl_count s b _ hs hb0 hb1).mono ?_; rintro e w1 ⟨rfl, rfl⟩)
  go_loopw [5, 6, 7, 15] (fun v f _ i wr => ∃ (k f' : Nat) (l : List ByteArray), i = .int .i64 k ∧ f = .int .i64 f' ∧ k ≤ s.size ∧ Owns wr w.heap.size v l ∧ Below w.heap.size w wr ∧ Cut.At s b k l f') (fun _ _ _ i _ => s.size - (intOf i).toNat)
  case atStart => exact ⟨0, 0, [], rfl, rfl, by omega, HO0.out, HB0.out, Cut.at_start s b⟩
  case round =>
    clear hmk
    obtain ⟨k, f, l, rfl, rfl, hk, hown, hbel, hat⟩ := hrel
    obtain ⟨hb2, hb3⟩ := Cut.at_bound hat (by omega)
    have HO := Lib.hid hown
    have HA := Lib.hid hat
    have HB := Lib.hid hbel
    have hsz := hbel.size
    clear hown hat hbel
    by_cases hlt : k < s.size
    · by_cases hhit : (s[k].toNat : Int) = b
      · have hh : ((s[k].toNat : Int) == b) = true := by simpa using hhit
        have HH := Lib.hid hhit
        clear hhit
        have HC := Lib.hid fun W => clone_any (s.extract f k) W (ext_size s f k hs)
        go_wp2_with (first | (go_at_call 34; refine (HC.out _).mono ?_; rintro e w1 ⟨rfl, b1⟩; have HO1 := Lib.hid (owns_below HO.out b1); have HB1 := Lib.hid (HB.out.trans (b1.mono hsz)); have hsz1 := HB1.out.size; clear b1) | (at_builtin; refine wpList_append_own _ rfl _ _ 31 rfl w.heap.size 9 i0 (.string ByteArray.empty) 1 16 Try.underlying31 hi hz0 hz1 hz2 rfl (by decide) _ _ _ rfl (HO1.out.alloc _) ⟨w1.heap.size, 0, none⟩ 1 1 [.string (s.extract f k)] rfl rfl ?c1 ?c2 ?c3 ?c4 ?c5 ?_))
        case c1 => exact new_cell _ _ _
        case c2 => exact one_string _
        case c3 => exact max_small (by omega)
        case c4 => omega
        case c5 => simp; omega
        intro v' w2 hown' hgrow _
        have ho := Lib.hid (owns_app hown')
        have hb := Lib.hid (below_app HB1.out HO1.out hgrow)
        clear hown' hgrow
        go_wp2
        go_roundw
        case rel => exact ⟨k + 1, k + 1, _, by go_num, by go_num, by omega, ho.out, hb.out, Cut.at_hit HA.out hlt HH.out⟩
        case measure => first | (simp [intOf]; done) | (simp [intOf]; omega)
      · have hh : ((s[k].toNat : Int) == b) = false := by simpa using hhit
        have HH := Lib.hid hhit
        clear hhit
        go_wp2
        go_roundw
        case rel => exact ⟨k + 1, f, l, by go_num, by go_num, by omega, HO.out, HB.out, Cut.at_miss HA.out hlt HH.out⟩
        case measure => first | (simp [intOf]; done) | (simp [intOf]; omega)
    · obtain rfl : k = s.size := by omega
      have HC := Lib.hid fun W => clone_any (s.extract f s.size) W (ext_size s f s.size hs)
      go_wp2_with (first | (go_at_call 34; refine (HC.out _).mono ?_; rintro e w1 ⟨rfl, b1⟩; have HO1 := Lib.hid (owns_below HO.out b1); have HB1 := Lib.hid (HB.out.trans (b1.mono hsz)); have hsz1 := HB1.out.size; clear b1) | (at_builtin; refine wpList_append_own _ rfl _ _ 31 rfl w.heap.size 9 i0 (.string ByteArray.empty) 1 16 Try.underlying31 hi hz0 hz1 hz2 rfl (by decide) _ _ _ rfl (HO1.out.alloc _) ⟨w1.heap.size, 0, none⟩ 1 1 [.string (s.extract f s.size)] rfl rfl ?d1 ?d2 ?d3 ?d4 ?d5 ?_))
      case d1 => exact new_cell _ _ _
      case d2 => exact one_string _
      case d3 => exact max_small (by omega)
      case d4 => omega
      case d5 => simp; omega
      intro v' w2 hown' hgrow _
      have ho := Lib.hid (owns_app hown')
      have hb := Lib.hid (below_app HB1.out HO1.out hgrow)
      clear hown' hgrow
      go_wp2
      go_ret
      exact ⟨_, rfl, by rw [← Cut.at_end (Cut.at_last (g := 0) HA.out) (Nat.lt_succ_self _)]; exact ho.out, hb.out⟩
end Go.Proofs.Ytjgnigalodebkaa
