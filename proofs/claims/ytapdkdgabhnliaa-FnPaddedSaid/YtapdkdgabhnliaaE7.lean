/- placeText: n bytes with a text from an index on, and a byte elsewhere. No conditions. -/
import Derived.Test.YtapdkdgabhnliaaE6
import Derived.Test.YtapdkdgabhnliaaE1
namespace Go.Proofs.Ytapdkdgabhnliaa
open Go.RowKit
set_option linter.unusedVariables false

theorem ext8 (s : ByteArray) (a b : Nat) : s.extract a b = str8 ((s.data.toList.drop a).take (b - a)) := str8_inj (by simp [ByteArray.data_extract])
theorem splice_pad (N a : Nat) (x : UInt8) (l : List UInt8) (h : a + l.length ≤ N) : splice (List.replicate N x) a l = List.replicate a x ++ (l ++ List.replicate (N - a - l.length) x) := by
  unfold splice
  rw [List.take_replicate, List.drop_replicate, Nat.min_eq_left (by omega)]
  congr 3; omega
/-- What lies in the row: the bytes from the index on, as far as they go in. -/
def placed (s : ByteArray) (at' : Int) (N : Nat) (x : UInt8) : List UInt8 := splice (List.replicate N x) at'.toNat ((s.data.toList.drop (-at').toNat).take (N - at'.toNat))

theorem place_bad (s : ByteArray) (at' n : Int) (x : Int) (w : World) (h : n < 0 ∨ 120 < n) : Calls Try.prog 15 #[.string s, .int .i64 at', .int .i64 n, .int .u8 x] w (RetTB w ByteArray.empty false) := by
  unfold RetTB
  rcases h with h | h
  · go_enter Try.func15, Try.ntmps15
    go_wp2
    go_ret2
    exact ⟨rfl, Below.refl _ _⟩
  · go_enter Try.func15, Try.ntmps15
    go_wp2
    go_ret2
    exact ⟨rfl, Below.refl _ _⟩

theorem drop8 (s : ByteArray) (a : Nat) : (s.extract a s.size).data.toList = s.data.toList.drop a := by
  rw [ext8, str8_list, List.take_of_length_le]
  rw [List.length_drop, len8]; omega

set_option maxHeartbeats 800000 in
/-- The part behind the check and the cut: t is what is left of the text. -/
theorem place_pos (s : ByteArray) (a N : Nat) (x : UInt8) (w : World) (hs : (s.size : Int) ≤ 1048576) (hN : (N : Int) ≤ 120) (ha : (a : Int) ≤ N) : Calls Try.prog 15 #[.string s, .int .i64 a, .int .i64 N, .int .u8 (x.toNat : Int)] w (RetTB w (str8 (splice (List.replicate N x) a (s.data.toList.take (N - a)))) true) := by
  unfold RetTB
  have HR := Lib.hid (fun W h => repeat_one w.heap.size N x W (by omega) h)
  have HC : Hid ((w.alloc (.cells #[.int .u8 (x.toNat : Int)] 5)).cell? ⟨w.heap.size, 0, none⟩ = some (.int .u8 (x.toNat : Int))) := by
    show _ = _
    simp
  have HZ : Hid ((splice (List.replicate N x) a (s.data.toList.take (N - a))).length = N) := by
    show _ = _
    rw [length_splice, List.length_replicate]
    rw [List.length_replicate, List.length_take]; omega
  by_cases haN : (a : Int) = N
  · obtain rfl : a = N := by omega
    rw [Nat.sub_self, List.take_zero] at HZ ⊢
    have hX : splice (List.replicate a x) a ([] : List UInt8) = List.replicate a x := by simp [splice]
    rw [hX] at HZ ⊢
    clear hX
    go_enter Try.func15, Try.ntmps15
    go_wp2_with fail
    refine (HR.out _ HC.out).mono ?_
    rintro e w1 ⟨g, r, rfl, hg, hr, hb⟩
    have HB := Lib.hid (below_then (bl1 _ _) hb)
    clear hb
    have hc2 := row8_conv hr a a HZ.out
    clear hr
    have hcp := run_copy_str0 (P := Try.prog) w1 22 9 3 5 (some ⟨g, 0, none⟩) 0 0 s Try.underlying22 info8s (Nat.min_zero _)
    go_wp2
    go_ret2
    exact ⟨rfl, HB.out⟩
  · have hlt : (a : Int) < N := by omega
    have hne : ¬ N = a := by omega
    generalize hX : splice (List.replicate N x) a (s.data.toList.take (N - a)) = X at HZ ⊢
    have HX := Lib.hid hX
    clear hX
    go_enter Try.func15, Try.ntmps15
    go_wp2_with fail
    refine (HR.out _ HC.out).mono ?_
    rintro e w1 ⟨g, r, rfl, hg, hr, hb⟩
    have HB := Lib.hid (below_then (bl1 _ _) hb)
    clear hb
    have hg2 : w.heap.size ≤ g := by simp at hg; omega
    go_wp2_with (with_reducible show wpList _ _ _ _ _ _; refine wpList_copy_row8 rfl (.tmp 29) (.tmp 30) rfl _ _ _ s rfl rfl g a _ _ _ hr (s.data.toList.take (N - a)) (by first | rfl | simp) (fun h => rfl) (by rw [List.length_replicate, List.length_take]; omega) HX.out w.heap.size w HB.out hg2 ?_)
    intro w2 hr2 hb2
    have HB2 := Lib.hid hb2
    clear hb2 hr
    have hc2 := row8_conv hr2.out N N HZ.out
    go_wp2
    go_ret2
    exact ⟨rfl, HB2.out⟩

/-- The same at an index ahead of the row: the text is cut first. -/
theorem place_neg (s : ByteArray) (a N : Nat) (x : UInt8) (w : World) (hs : (s.size : Int) ≤ 1048576) (hN : (N : Int) ≤ 120) (ha : 0 < a) (ha2 : a ≤ s.size) : Calls Try.prog 15 #[.string s, .int .i64 (-(a : Int)), .int .i64 N, .int .u8 (x.toNat : Int)] w (RetTB w (str8 (splice (List.replicate N x) 0 ((s.data.toList.drop a).take N))) true) := by
  unfold RetTB
  have HR := Lib.hid (fun W h => repeat_one w.heap.size N x W (by omega) h)
  have HC : Hid ((w.alloc (.cells #[.int .u8 (x.toNat : Int)] 5)).cell? ⟨w.heap.size, 0, none⟩ = some (.int .u8 (x.toNat : Int))) := by
    show _ = _
    simp
  have hl : ((s.data.toList.drop a).take N).length ≤ N := by rw [List.length_take]; omega
  have HZ : Hid ((splice (List.replicate N x) 0 ((s.data.toList.drop a).take N)).length = N) := by
    show _ = _
    rw [length_splice, List.length_replicate]
    rw [List.length_replicate]; omega
  generalize hX : splice (List.replicate N x) 0 ((s.data.toList.drop a).take N) = X at HZ ⊢
  have HX := Lib.hid hX
  have HD := Lib.hid (drop8 s a)
  clear hX
  have ha3 : (0 : Int) < a := by omega
  have ha4 : (a : Int) ≤ s.size := by omega
  go_enter Try.func15, Try.ntmps15
  go_wp2_with fail
  refine (HR.out _ HC.out).mono ?_
  rintro e w1 ⟨g, r, rfl, hg, hr, hb⟩
  have HB := Lib.hid (below_then (bl1 _ _) hb)
  clear hb
  have hg2 : w.heap.size ≤ g := by simp at hg; omega
  go_wp2_with (with_reducible show wpList _ _ _ _ _ _; refine wpList_copy_row8 rfl (.tmp 29) (.tmp 30) rfl _ _ _ (s.extract a s.size) rfl rfl g 0 _ _ _ hr ((s.data.toList.drop a).take N) (by rw [HD.out]) (fun h => rfl) (by rw [List.length_replicate]; omega) HX.out w.heap.size w HB.out hg2 ?_)
  intro w2 hr2 hb2
  have HB2 := Lib.hid hb2
  clear hb2 hr
  have hc2 := row8_conv hr2.out N N HZ.out
  go_wp2
  go_ret2
  exact ⟨rfl, HB2.out⟩
end Go.Proofs.Ytapdkdgabhnliaa
