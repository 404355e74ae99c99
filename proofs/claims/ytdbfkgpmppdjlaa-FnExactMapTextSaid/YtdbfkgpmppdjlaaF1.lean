/- ReverseText of the program and of the reference model, and the walk of the law on it. No conditions. -/
import Derived.Test.YtdbfkgpmppdjlaaT2
import Derived.Sort.WalkB12
import Derived.Deep.LoopGhost
import Derived.Lib.SlicesMore
import Derived.Lib.ConvBytes
import Derived.Lib.OwnBridge
namespace Go.Proofs.Ytdbfkgpmppdjlaa
open Go.RowKit Go.Sort
set_option linter.unusedVariables false

abbrev enc8 : UInt8 → Value := fun x => Value.int .u8 (x.toNat : Int)
set_option maxHeartbeats 1600000 in
set_option maxRecDepth 1000000 in
theorem reverse_arr (blk off cap : Nat) (d : Array UInt8) (w : World) (hH : Holds enc8 w blk off d) (hsz : d.size ≤ 1048576) :
    Calls Try.prog 44 #[.slice (some ⟨blk, off, none⟩) d.size cap] w fun e w' => e = .returned (.tuple #[]) ∧ ∃ n, w' = putRow enc8 (Sort.ahead w n) blk off d.reverse := by
  go_enter Try.func44, Try.ntmps44
  go_wp2
  go_loopg [2, 3] d.size (fun k s2 s3 wr => ∃ (i jn : Nat) (jz : Int) (dk : Array UInt8) (n : Nat), s2 = .int .i64 i ∧ s3 = .int .i64 jz ∧ ((i : Int) < jz → jz = jn ∧ jn < d.size) ∧ (¬ (i : Int) < jz → ¬ i < jn) ∧ jn - i ≤ k ∧
    dk.size = d.size ∧ wr = putRow enc8 (Sort.ahead w n) blk off dk ∧ reverseLoop i jn dk = reverseLoop 0 (d.size - 1) d)
  case atStart => exact ⟨0, d.size - 1, (d.size : Int) - 1, d, 0, rfl, rfl, fun h => ⟨by omega, by omega⟩, fun h => by omega, by omega, rfl, (putRow_self enc8 w blk off d hH).symm, rfl⟩
  case round =>
    obtain ⟨i, jn, jz, dk, n, rfl, rfl, h1, h2, hk, hds, hwr, heq⟩ := hrel
    by_cases hlt : (i : Int) < jz
    · obtain ⟨rfl, hjn⟩ := h1 hlt
      have hij : i < jn := by omega
      have hHk : Holds enc8 wr blk off dk := by rw [hwr]; exact holds_putRow enc8 _ blk off d dk (holds_ahead enc8 w n blk off d hH) hds
      obtain ⟨ci, fi⟩ := hHk i (by omega)
      obtain ⟨cj, fj⟩ := hHk jn (by omega)
      have A := Lib.hid hwr
      clear hwr hHk hH h1 h2
      go_wp2_with fail
      go_region
      go_wp2
      go_roundg (jn - 1 - (i + 1))
      case measure => omega
      case rel =>
        rw [reverseLoop, if_pos hij] at heq
        exact ⟨i + 1, jn - 1, (jn : Int) - 1, swp dk i jn, n + 1, by simp, rfl, fun h => ⟨by omega, by omega⟩, fun h => by omega, Nat.le_refl _, by rw [size_swp]; exact hds,
          swap_world enc8 (by omega) (by omega) A.out (by first | rfl | simp [getElem!_pos, show jn < dk.size by omega]) (by first | rfl | simp [getElem!_pos, show i < dk.size by omega]), heq⟩
    · have hnot := h2 hlt
      go_wp2
      go_end0
      refine ⟨rfl, n, ?_⟩
      rw [reverseLoop, if_neg hnot] at heq
      rw [← Lib.reverseLoop_reverse, ← heq]

theorem bytes_below (w : World) (s : ByteArray) : Below w.heap.size w (Lib.bytesWorld w 5 s) := by
  refine ⟨?_, ?_, ?_, ?_, ?_⟩
  · simp [Lib.bytesWorld, World.freeze, World.alloc, World.drew, -World.alloc_eq, -World.drew_eq]
  · simp [Lib.bytesWorld, World.freeze, World.alloc, World.drew, -World.alloc_eq, -World.drew_eq]
  · simp [Lib.bytesWorld, World.freeze, World.alloc, World.drew, -World.alloc_eq, -World.drew_eq]
  · rw [Lib.bytesWorld_size]; omega
  · intro k hk; exact Lib.bytesWorld_at_old w _ s k hk
theorem bytes_holds (w : World) (s : ByteArray) : Holds enc8 (Lib.bytesWorld w 5 s) w.heap.size 0 s.data := by
  intro j hj
  have hj2 : j < s.size := hj
  rw [Nat.zero_add]
  refine ⟨?_, ?_⟩
  · rw [Lib.bytesWorld_cell w _ s j hj2, List.getD_eq_getElem?_getD, List.getElem?_eq_getElem (show j < s.data.toList.length from hj)]
    rw [getElem!_pos s.data j hj]; simp
  · unfold World.frozen?
    rw [Lib.bytesWorld_at_new]
    have hc : s.size ≤ (Lib.bytesCells w 5 s).size := by simp [Lib.bytesCells]
    simp; omega
/-- The cells behind a row that was put. -/
theorem put_conv (w : World) (g : Nat) (d d' : Array UInt8) (l : List UInt8) (h0 : Holds enc8 w g 0 d) (hs : d'.size = d.size) (hl : d'.toList = l) : ∀ j, j < l.length → (putRow enc8 w g 0 d').cell? ⟨g, j, none⟩ = (Lib.byteCells l)[j]? := by
  intro j hj
  have hj2 : j < d'.size := by rw [← hl] at hj; simpa using hj
  have e := cell?_putRow enc8 w g 0 d d' h0 hs j hj2
  rw [Nat.zero_add] at e
  rw [e]
  subst hl
  simp [Lib.byteCells, getElem!_pos, hj2]

set_option maxHeartbeats 400000 in
theorem impl_rev (s : ByteArray) (w : World) (hs : (s.size : Int) ≤ 1048576) : Calls Try.prog 26 #[.string s] w (RetT w (str8 s.data.toList.reverse)) := by
  unfold RetT
  have HR : Hid (∀ cap, Calls Try.prog 44 #[.slice (some ⟨w.heap.size, 0, none⟩) s.size cap] (Lib.bytesWorld w 5 s) fun e w' => e = .returned (.tuple #[]) ∧ ∃ n, w' = putRow enc8 (Sort.ahead (Lib.bytesWorld w 5 s) n) w.heap.size 0 s.data.reverse) :=
    fun cap => reverse_arr w.heap.size 0 cap s.data _ (bytes_holds w s) (by show s.size ≤ _; omega)
  have hcv := Lib.run_convert_string_bytes (P := Try.prog) w 9 22 5 s Try.underlying9 Try.underlying22 Try.underlying5
  have HB : Hid (∀ n, Below w.heap.size w (putRow enc8 (Sort.ahead (Lib.bytesWorld w 5 s) n) w.heap.size 0 s.data.reverse)) := fun n => Lib.below_putRow (bytes_below w s) (Nat.le_refl _)
  have HC : Hid (∀ n cap, (convert 22 9 (.slice (some ⟨w.heap.size, 0, none⟩) s.size cap)).run Try.prog (putRow enc8 (Sort.ahead (Lib.bytesWorld w 5 s) n) w.heap.size 0 s.data.reverse) = .ok (.string (str8 s.data.toList.reverse)) (putRow enc8 (Sort.ahead (Lib.bytesWorld w 5 s) n) w.heap.size 0 s.data.reverse)) := by
    intro n cap
    have hl : s.data.toList.reverse.length = s.size := by rw [List.length_reverse, len8]
    have e := conv8_cells w.heap.size cap s.data.toList.reverse (put_conv (Sort.ahead (Lib.bytesWorld w 5 s) n) w.heap.size s.data s.data.reverse s.data.toList.reverse (holds_ahead enc8 _ n _ 0 s.data (bytes_holds w s)) (by simp) (by simp))
    rw [hl] at e
    exact e
  generalize Lib.bytesWorld w 5 s = wb at HR hcv HB HC
  generalize grownCap w s.size 0 5 = cap at hcv
  go_enter Try.func26, Try.ntmps26
  go_wp2_with fail
  refine (HR.out _).mono ?_
  rintro e w1 ⟨rfl, n, hw⟩
  have hc2 := HC.out n cap
  have HB1 := Lib.hid (HB.out n)
  rw [← hw] at hc2 HB1
  clear hw HC HR hcv HB
  go_wp2
  go_ret
  exact ⟨rfl, HB1.out⟩

theorem rev_step (s : ByteArray) (n : Nat) (h : n < s.size) : (s.data.toList.drop (n + 1)).reverse ++ [s[n]] = (s.data.toList.drop n).reverse := by
  have h2 : n < s.data.toList.length := h
  rw [List.drop_eq_getElem_cons h2, List.reverse_cons]; rfl
set_option maxHeartbeats 400000 in
theorem spec_rev (s : ByteArray) (w : World) (hs : (s.size : Int) ≤ 1048576) : Calls Try.prog 25 #[.string s] w (RetT w (str8 s.data.toList.reverse)) := by
  unfold RetT
  obtain ⟨i0, hi, hz0, hz1, hz2⟩ := info_parts info8
  generalize hr : str8 s.data.toList.reverse = r
  have HR : Hid (str8 (s.data.toList.drop 0).reverse = r) := hr
  clear hr
  go_enter Try.func25, Try.ntmps25
  go_wp2
  go_loopw [3, 4] (fun v i wr => Below w.heap.size w wr ∧ ((∃ n : Nat, i = .int .i64 n ∧ n < s.size ∧ Own8 wr w.heap.size v (s.data.toList.drop (n + 1)).reverse) ∨ (i = .int .i64 (-1) ∧ Own8 wr w.heap.size v (s.data.toList.drop 0).reverse))) (fun _ i _ => (intOf i + 1).toNat)
  case atStart =>
    refine ⟨bl1 _ _, ?_⟩
    have hown : Own8 (w.alloc (.cells #[] 5)) w.heap.size (.slice (some ⟨w.heap.size, 0, none⟩) 0 0) [] := World.ownsRow_made w #[] 0 (Nat.le_refl _) (by unfold maxLen; omega) rfl
    rcases Nat.eq_zero_or_pos s.size with h0 | h0
    · right
      refine ⟨by rw [h0]; rfl, ?_⟩
      rw [List.drop_zero, List.eq_nil_of_length_eq_zero (l := s.data.toList) (by rw [len8]; exact h0)]; exact hown
    · left
      refine ⟨s.size - 1, by first | go_num | (congr 1; omega), by omega, ?_⟩
      rw [List.drop_eq_nil_of_le (by rw [len8]; omega)]; exact hown
  case round =>
    obtain ⟨hb, ⟨n, rfl, hn, ho⟩ | ⟨rfl, ho⟩⟩ := hrel
    · have HO := Lib.hid ho
      have HB := Lib.hid hb
      have hsz := hb.size
      have hlen : (s.data.toList.drop (n + 1)).reverse.length ≤ 1048576 := by rw [List.length_reverse, List.length_drop, len8]; omega
      have HS := Lib.hid (rev_step s n hn)
      clear ho hb
      go_wp2_with (at_builtin; refine wpList_append_own _ rfl _ _ 22 rfl w.heap.size 5 i0 (.int .u8 0) 1 1 Try.underlying22 hi hz0 hz1 hz2 rfl (by decide) _ _ _ rfl (HO.out.alloc _) ⟨wr.heap.size, 0, none⟩ 1 1 [.int .u8 (s[n].toNat : Int)] rfl rfl ?c1 ?c2 ?c3 ?c4 ?c5 ?_)
      case c1 => exact new8 _ _ _
      case c2 => exact one8 _ _
      case c3 => exact max8 (by omega)
      case c4 => omega
      case c5 => simp; omega
      intro v' w2 hown' hgrow _
      have HO2 := Lib.hid (own8_app (l := (s.data.toList.drop (n + 1)).reverse) (x := s[n]) (by rw [show (s.data.toList.drop (n + 1)).reverse.length = s.size - (n + 1) by rw [List.length_reverse, List.length_drop, len8]]; exact hown'))
      have HB2 := Lib.hid (below8_app HB.out HO.out hgrow)
      rw [HS.out] at HO2
      clear hown' hgrow
      go_wp2
      go_roundw
      case rel =>
        refine ⟨HB2.out, ?_⟩
        rcases n with _ | m
        · right; exact ⟨by first | rfl | go_num, HO2.out⟩
        · left; exact ⟨m, by first | rfl | go_num | (congr 1; omega), by omega, HO2.out⟩
      case measure => first | (simp [intOf]; done) | (simp [intOf]; omega)
    · have hc := conv8 ho
      rw [HR.out] at hc
      have HB := Lib.hid hb
      clear ho hb
      go_wp2
      go_ret
      exact ⟨rfl, HB.out⟩

theorem FnExactReverseText_walk (a0 : ByteArray) (w0 : a0.size ≤ maxLen) (w : World) :
    Calls Try.prog 8 #[.string a0] w fun e w' => e = .returned (.bool true) ∧ Below w.heap.size w w' := by
  have hm0 : (a0.size : Int) ≤ 9223372036854775807 := by unfold maxLen at w0; omega
  clear w0
  by_cases hl0 : (1048576 : Int) < a0.size
  · go_enter Try.func8, Try.ntmps8
    go_wp2
    go_ret
    exact ⟨rfl, Below.refl _ _⟩
  · have H1 := Lib.hid (fun W => spec_rev a0 W (by omega))
    have H2 := Lib.hid (fun W => impl_rev a0 W (by omega))
    unfold RetT at H1 H2
    generalize str8 a0.data.toList.reverse = v at H1 H2
    go_enter Try.func8, Try.ntmps8
    go_wp2_with fail
    refine (H1.out _).mono ?_
    rintro e w1 ⟨rfl, hb1⟩
    go_wp2_with fail
    refine (H2.out _).mono ?_
    rintro e w2 ⟨rfl, hb2⟩
    have HB := Lib.hid (hb1.trans (hb2.mono hb1.size))
    clear hb1 hb2
    go_wp2
    go_ret
    exact ⟨rfl, HB.out⟩
end Go.Proofs.Ytdbfkgpmppdjlaa
