/- The law FnDecimals answers true at every code. No conditions. -/
import Derived.Test.YtjgnigalodebkaaW5
import Derived.Test.YtjgnigalodebkaaW7
import Derived.Test.YtjgnigalodebkaaW11
import Derived.Test.YtjgnigalodebkaaD3
import Derived.Test.YtjgnigalodebkaaM5
import Derived.Test.YtjgnigalodebkaaB0
import Derived.Deep.RegionWith
namespace Go.Proofs.Ytjgnigalodebkaa
open Go.RowKit
set_option linter.unusedVariables false

theorem fmt_small (n : Int) (h0 : -9223372036854775808 ≤ n) (h1 : n ≤ 9223372036854775807) : (⟨(Dec.fmt n).toArray⟩ : ByteArray).size ≤ maxLen := by
  have h2 : (Dec.fmt n).length ≤ 21 := by
    unfold Dec.fmt
    have h3 := Dec.digs_lt 20 n.natAbs (Nat.lt_of_le_of_lt (show n.natAbs ≤ 9223372036854775808 by omega) (by decide))
    split
    · simp
    · split
      · simp; omega
      · omega
  have h3 : (⟨(Dec.fmt n).toArray⟩ : ByteArray).size = (Dec.fmt n).length := by simp [ByteArray.size]
  rw [h3]; unfold maxLen; omega

theorem data_mk (l : List UInt8) : (⟨l.toArray⟩ : ByteArray).data.toList = l := by simp

theorem bcell {W w1 : World} (hb : Below W.heap.size W w1) : ∀ b o, b < W.heap.size → w1.cell? ⟨b, o, none⟩ = W.cell? ⟨b, o, none⟩ := fun b o h => hb.cell (p := ⟨b, o, none⟩) h

theorem conv_byte (b : Int) (g : Nat) (w : World) (h : w.cell? ⟨g, 0, none⟩ = some (.int .u8 b)) : (convert 22 9 (.slice (some ⟨g, 0, none⟩) 1 1)).run Try.prog w = .ok (.string ⟨#[UInt8.ofNat b.toNat]⟩) w := by
  have h := run_convert_bytes_arg (P := Try.prog) w 22 5 Try.underlying22 Try.underlying5 g 0 1 1 [b] rfl
    (fun i hi => by
      obtain rfl : i = 0 := by omega
      exact h) 9 Try.underlying9
  simpa [strOfNums] using h

theorem small_of (s : ByteArray) (b : Int) (h : s.size ≤ 20) : Small (Cut.all s b) := by
  refine ⟨by have := Cut.all_len s b; omega, fun i hi => ?_⟩
  have h1 : (Cut.all s b).getD i ByteArray.empty = (Cut.all s b)[i] := by simp [List.getD, List.getElem?_eq_getElem hi]
  rw [h1]
  have h2 := Cut.all_mem s b _ (List.getElem_mem hi)
  omega

theorem owns_alloc {w : World} {base : Nat} {v : Value} {l : List ByteArray} (h : Owns w base v l) (o : Obj) : Owns (w.alloc o) base v l := World.ownsRow.alloc h o

/-- Joining the parts of a short string gives it again. -/
theorem join_back (v : Value) (s : ByteArray) (b : Int) (w : World) (hr : Reads w v (Cut.all s b)) (hs : s.size ≤ 20) :
    Calls Try.prog 13 #[v, .string ⟨#[UInt8.ofNat b.toNat]⟩] w fun e w' => e = .returned (.string s) ∧ Below w.heap.size w w' := by
  have h := impl_join v (Cut.all s b) ⟨#[UInt8.ofNat b.toNat]⟩ w hr (small_of s b hs) (by show ((1 : Nat) : Int) ≤ 1048576; omega)
  have e : (⟨#[UInt8.ofNat b.toNat]⟩ : ByteArray).data.toList = [UInt8.ofNat b.toNat] := rfl
  rw [e, cut_join s b (by omega), ← string_eq (s := s) rfl] at h
  exact h

set_option maxHeartbeats 800000 in
theorem FnDecimals_walk (a0 : Option Addr) (len0 cap0 : Nat) (z0 : List Int) (w : World) (w0 : IsRow .u8 w a0 len0 cap0 z0) :
    Calls Try.prog 3 #[.slice a0 len0 cap0] w fun e w' => e = .returned (.bool true) ∧ Below w.heap.size w w' := by
  have HC := Lib.hid (code_of_in w0)
  have hl : (len0 : Int) ≤ 9223372036854775807 := by
    rcases w0 with ⟨_, rfl, _⟩ | ⟨x, _, h1, h2, _⟩
    · omega
    · unfold maxLen at h2; omega
  clear w0
  by_cases hbig : (1048576 : Int) < len0
  · go_enter Try.func3, Try.ntmps3
    go_wp2
    go_ret
    exact ⟨rfl, Below.refl _ _⟩
  · have hs : (len0 : Int) ≤ 1048576 := by omega
    have HF := Lib.hid (draw_format _ len0 w HC.out hs)
    go_enter Try.func3, Try.ntmps3
    go_wp2_with fail
    refine (big_no a0 len0 cap0 _ hs).mono ?_
    rintro e wz ⟨rfl, rfl⟩
    go_wp2_with fail
    refine HF.out.mono ?_
    rintro e w1 ⟨n, rfl, hn0, hn1, b1⟩
    have HP := Lib.hid (draw_split (.slice a0 len0 cap0) len0 w1 (by
      have h := code_below HC.out b1
      rcases h with h | ⟨g, off, c, hv, hg, r⟩
      · exact .inl h
      · exact .inr ⟨g, off, c, hv, Nat.lt_of_lt_of_le hg b1.size, r⟩) hs)
    have B1 := Lib.hid b1
    clear b1 HF HC
    go_wp2_with fail
    refine HP.out.mono ?_
    rintro e w2 ⟨s, b, rfl, hsz, hb0, hb1, b2⟩
    have B2 := Lib.hid (B1.out.trans (b2.mono B1.out.size))
    clear b2 HP
    go_wp2_with fail
    refine (impl_fmt n _ hn0 hn1).mono ?_
    rintro e w3 ⟨rfl, b3⟩
    have B3 := Lib.hid (B2.out.trans (b3.mono B2.out.size))
    clear b3
    go_wp2_with fail
    refine (impl_pi _ _ (fmt_small n hn0 hn1)).mono ?_
    rintro e w4 ⟨rfl, rfl⟩
    rw [data_mk]
    have hra := Dec.read_again n
    generalize Dec.rdb 12 (Dec.fmt n) = ok at *
    generalize Dec.rdv 12 (Dec.fmt n) = x at *
    have hcb := conv_byte b
    have hs20 : (s.size : Int) ≤ 1048576 := by omega
    have HB3 := B3.out.size
    rcases hra with ⟨rfl, h1, h2, rfl⟩ | ⟨rfl, h1 | h1⟩
    all_goals
      go_wp2
      go_region_with ((first | (go_at_call 14; refine (impl_split s b _ hs20 hb0 hb1).mono ?_; rintro e w5 ⟨v5, rfl, o5, b5⟩; have hcc := bcell b5) | (go_at_call 13; (first | (with_reducible refine (join_back v5 s b _ (reads_of_owns o5) hsz).mono ?_) | (with_reducible refine (join_back v5 s b _ (reads_of_owns (owns_alloc o5 _)) hsz).mono ?_)); rintro e w6 ⟨rfl, b6⟩)))
      all_goals
        have z5 := b5.size
        have z6 := b6.size
        simp at z5 z6
        first
          | have hbel := ((B3.out.drew.trans (b5.mono HB3)).alloc (by omega) (.cells #[.int .u8 b] 5)).trans (b6.mono (by simp; omega))
          | have hbel := ((B3.out.drew.alloc HB3 (.cells #[.int .u8 b] 5)).trans (b5.mono (by simp; omega))).trans (b6.mono (by omega))
        have HBE := Lib.hid hbel
        clear hbel z5 z6 b5 b6 o5
        go_wp2
        go_ret
        exact ⟨by rfl, HBE.out⟩
end Go.Proofs.Ytjgnigalodebkaa
