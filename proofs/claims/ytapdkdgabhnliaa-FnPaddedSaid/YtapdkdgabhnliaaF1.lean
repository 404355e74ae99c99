/- ReverseText of the program and of the reference model, and the walk of the law on it. No conditions. -/
import Derived.Test.YtapdkdgabhnliaaT2
import Derived.Sort.WalkB12
import Derived.Deep.LoopGhost
import Derived.Lib.SlicesMore
import Derived.Lib.ConvBytes
import Derived.Lib.OwnBridge
namespace Go.Proofs.Ytapdkdgabhnliaa
open Go.RowKit Go.Sort
set_option linter.unusedVariables false

abbrev enc8 : UInt8 → Value := fun x => Value.int .u8 (x.toNat : Int)
set_option maxHeartbeats 1600000 in
set_option maxRecDepth 1000000 in
theorem reverse_arr (blk off cap : Nat) (d : Array UInt8) (w : World) (hH : Holds enc8 w blk off d) (hsz : d.size ≤ 1048576) :
    Calls Try.prog 16 #[.slice (some ⟨blk, off, none⟩) d.size cap] w fun e w' => e = .returned (.tuple #[]) ∧ ∃ n, w' = putRow enc8 (Sort.ahead w n) blk off d.reverse := by
  go_enter Try.func16, Try.ntmps16
  go_wp2
  go_loopg [2, 3] d.size (fun k s2 s3 wr => ∃ (i jn : Nat) (jz : Int) (dk : Array UInt8) (n : Nat), s2 = .int .i64 i ∧ s3 = .int .i64 jz ∧ ((i : Int) < jz → jz = jn ∧ jn < d.size) ∧ (¬ (i : Int) < jz → ¬ i < jn) ∧ jn - i ≤ k ∧
    dk.size = d.size ∧ wr = putRow enc8 (Sort.ahead w n) blk off dk ∧ reverseLoop i jn dk = reverseLoop 0 (d.size - 1) d)
  case atStart => exact ⟨0, d.size - 1, (d.size : Int) - 1, d, 0, rfl, rfl, fun h => ⟨by omega, by omega⟩, fun h => by omega, by omega, rfl, (putRow_self enc8 w blk off d hH).symm, rfl⟩
  case round =>
    obtain ⟨i, jn, jz, dk, n, rfl, rfl, h1, h2, hk, hds, hwr, heq⟩ := hrel
    by_cases hlt : (i : Int) < jz
    · obtain ⟨rfl, hjn⟩ := h1 hlt
      have hij : i < jn := by omega
      have hHk : Holds enc8 wr blk off dk := by rw [hwr]; exact holds_putRow enc8 _ blk off d dk (holds_ahead enc8 w n blk off d hH) hds
      obtain ⟨ci, fi⟩ := hHk i (by omega)
      obtain ⟨cj, fj⟩ := hHk jn (by omega)
      have A := Lib.hid hwr
      clear hwr hHk hH h1 h2
      go_wp2_with fail
      go_region
      go_wp2
      go_roundg (jn - 1 - (i + 1))
      case measure => omega
      case rel =>
        rw [reverseLoop, if_pos hij] at heq
        exact ⟨i + 1, jn - 1, (jn : Int) - 1, swp dk i jn, n + 1, by simp, rfl, fun h => ⟨by omega, by omega⟩, fun h => by omega, Nat.le_refl _, by rw [size_swp]; exact hds,
          swap_world enc8 (by omega) (by omega) A.out (by first | rfl | simp [getElem!_pos, show jn < dk.size by omega]) (by first | rfl | simp [getElem!_pos, show i < dk.size by omega]), heq⟩
    · have hnot := h2 hlt
      go_wp2
      go_end0
      refine ⟨rfl, n, ?_⟩
      rw [reverseLoop, if_neg hnot] at heq
      rw [← Lib.reverseLoop_reverse, ← heq]

theorem bytes_below (w : World) (s : ByteArray) : Below w.heap.size w (Lib.bytesWorld w 5 s) := by
  refine ⟨?_, ?_, ?_, ?_, ?_⟩
  · simp [Lib.bytesWorld, World.freeze, World.alloc, World.drew, -World.alloc_eq, -World.drew_eq]
  · simp [Lib.bytesWorld, World.freeze, World.alloc, World.drew, -World.alloc_eq, -World.drew_eq]
  · simp [Lib.bytesWorld, World.freeze, World.alloc, World.drew, -World.alloc_eq, -World.drew_eq]
  · rw [Lib.bytesWorld_size]; omega
  · intro k hk; exact Lib.bytesWorld_at_old w _ s k hk
theorem bytes_holds (w : World) (s : ByteArray) : Holds enc8 (Lib.bytesWorld w 5 s) w.heap.size 0 s.data := by
  intro j hj
  have hj2 : j < s.size := hj
  rw [Nat.zero_add]
  refine ⟨?_, ?_⟩
  · rw [Lib.bytesWorld_cell w _ s j hj2, List.getD_eq_getElem?_getD, List.getElem?_eq_getElem (show j < s.data.toList.length from hj)]
    rw [getElem!_pos s.data j hj]; simp
  · unfold World.frozen?
    rw [Lib.bytesWorld_at_new]
    have hc : s.size ≤ (Lib.bytesCells w 5 s).size := by simp [Lib.bytesCells]
    simp; omega
/-- The cells behind a row that was put. -/
theorem put_conv (w : World) (g : Nat) (d d' : Array UInt8) (l : List UInt8) (h0 : Holds enc8 w g 0 d) (hs : d'.size = d.size) (hl : d'.toList = l) : ∀ j, j < l.length → (putRow enc8 w g 0 d').cell? ⟨g, j, none⟩ = (Lib.byteCells l)[j]? := by
  intro j hj
  have hj2 : j < d'.size := by rw [← hl] at hj; simpa using hj
  have e := cell?_putRow enc8 w g 0 d d' h0 hs j hj2
  rw [Nat.zero_add] at e
  rw [e]
  subst hl
  simp [Lib.byteCells, getElem!_pos, hj2]

set_option maxHeartbeats 400000 in
theorem impl_rev (s : ByteArray) (w : World) (hs : (s.size : Int) ≤ 1048576) : Calls Try.prog 8 #[.string s] w (RetT w (str8 s.data.toList.reverse)) := by
  unfold RetT
  have HR : Hid (∀ cap, Calls Try.prog 16 #[.slice (some ⟨w.heap.size, 0, none⟩) s.size cap] (Lib.bytesWorld w 5 s) fun e w' => e = .returned (.tuple #[]) ∧ ∃ n, w' = putRow enc8 (Sort.ahead (Lib.bytesWorld w 5 s) n) w.heap.size 0 s.data.reverse) :=
    fun cap => reverse_arr w.heap.size 0 cap s.data _ (bytes_holds w s) (by show s.size ≤ _; omega)
  have hcv := Lib.run_convert_string_bytes (P := Try.prog) w 9 22 5 s Try.underlying9 Try.underlying22 Try.underlying5
  have HB : Hid (∀ n, Below w.heap.size w (putRow enc8 (Sort.ahead (Lib.bytesWorld w 5 s) n) w.heap.size 0 s.data.reverse)) := fun n => Lib.below_putRow (bytes_below w s) (Nat.le_refl _)
  have HC : Hid (∀ n cap, (convert 22 9 (.slice (some ⟨w.heap.size, 0, none⟩) s.size cap)).run Try.prog (putRow enc8 (Sort.ahead (Lib.bytesWorld w 5 s) n) w.heap.size 0 s.data.reverse) = .ok (.string (str8 s.data.toList.reverse)) (putRow enc8 (Sort.ahead (Lib.bytesWorld w 5 s) n) w.heap.size 0 s.data.reverse)) := by
    intro n cap
    have hl : s.data.toList.reverse.length = s.size := by rw [List.length_reverse, len8]
    have e := conv8_cells w.heap.size cap s.data.toList.reverse (put_conv (Sort.ahead (Lib.bytesWorld w 5 s) n) w.heap.size s.data s.data.reverse s.data.toList.reverse (holds_ahead enc8 _ n _ 0 s.data (bytes_holds w s)) (by simp) (by simp))
    rw [hl] at e
    exact e
  generalize Lib.bytesWorld w 5 s = wb at HR hcv HB HC
  generalize grownCap w s.size 0 5 = cap at hcv
  go_enter Try.func8, Try.ntmps8
  go_wp2_with fail
  refine (HR.out _).mono ?_
  rintro e w1 ⟨rfl, n, hw⟩
  have hc2 := HC.out n cap
  have HB1 := Lib.hid (HB.out n)
  rw [← hw] at hc2 HB1
  clear hw HC HR hcv HB
  go_wp2
  go_ret
  exact ⟨rfl, HB1.out⟩

theorem rev_step (s : ByteArray) (n : Nat) (h : n < s.size) : (s.data.toList.drop (n + 1)).reverse ++ [s[n]] = (s.data.toList.drop n).reverse := by
  have h2 : n < s.data.toList.length := h
  rw [List.drop_eq_getElem_cons h2, List.reverse_cons]; rfl
end Go.Proofs.Ytapdkdgabhnliaa
