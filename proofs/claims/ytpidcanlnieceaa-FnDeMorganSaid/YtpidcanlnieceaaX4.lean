/- The law FnDeMorgan answers true at every code. No conditions. -/
import Derived.Test.YtpidcanlnieceaaD7
import Derived.Test.YtpidcanlnieceaaC8
import Derived.Deep.DeepCutAuto
namespace Go.Proofs.Ytpidcanlnieceaa
open Go.RowKit
attribute [local go_sem ↓] Go.wp_at_zero Go.wp_at_succ
set_option linter.unusedVariables false

theorem Cs.txt_bytes (l : List Nat) (h : ∀ x ∈ l, x < 128) : (txt l).data.toList.map UInt8.toNat = l := by
  unfold txt
  simp only [List.map_map]
  rw [show (l.map (UInt8.toNat ∘ UInt8.ofNat)) = l.map id from List.map_congr_left fun x hx => by
    have := h x hx
    simp; omega, List.map_id]
theorem Cs.txt_good (l : List Nat) (h : ∀ x ∈ l, x < 128) : Cs.good (txt l) = true := by
  unfold Cs.good txt
  simp only [List.all_map, List.all_eq_true]
  intro x hx
  have := h x hx
  simp; omega
/-- A set is made again of its text. -/
theorem Cs.again {a b : Int} (f1 : Cs.Fits a) (f2 : Cs.Fits b) : Cs.good (txt (Cs.text a b)) = true ∧ Cs.newL (txt (Cs.text a b)) = a ∧ Cs.newH (txt (Cs.text a b)) = b := by
  have hb := Cs.text_below a b
  have hg := Cs.txt_good _ hb
  obtain ⟨e1, e2⟩ := Cs.all_text f1 f2
  refine ⟨hg, ?_, ?_⟩
  · unfold Cs.newL; rw [if_pos hg, Cs.txt_bytes _ hb, e1]
  · unfold Cs.newH; rw [if_pos hg, Cs.txt_bytes _ hb, e2]
theorem Cs.txt_small (a b : Int) : (txt (Cs.text a b)).size ≤ maxLen := by
  have h : (Cs.text a b).length ≤ 128 := Cs.textTo_len a b 128
  rw [txt_size]; unfold maxLen; omega

def RetInt (w : World) (n : Nat) (e : Ending) (w' : World) : Prop := e = .returned (.int .i64 (n : Nat)) ∧ Below w.heap.size w w'

set_option maxHeartbeats 3200000 in
theorem FnDeMorgan_walk (a0 : Option Addr) (len0 cap0 : Nat) (z0 : List Int) (w : World) (w0 : IsRow .u8 w a0 len0 cap0 z0) :
    Calls Try.prog 3 #[.slice a0 len0 cap0] w fun e w' => e = .returned (.bool true) ∧ Below w.heap.size w w' := by
  have HC := Lib.hid (code_of_in w0)
  have hl : (len0 : Int) ≤ 9223372036854775807 := by
    rcases w0 with ⟨_, rfl, _⟩ | ⟨x, _, h1, h2, _⟩
    · omega
    · unfold maxLen at h2; omega
  clear w0
  by_cases hbig : (1048576 : Int) < len0
  · go_enter Try.func3, Try.ntmps3
    go_wp2
    go_ret
    exact ⟨rfl, Below.refl _ _⟩
  · have hs : (len0 : Int) ≤ 1048576 := by omega
    have HD := Lib.hid (draw_two _ len0 w HC.out hs)
    clear HC
    go_enter Try.func3, Try.ntmps3
    go_wp2_with fail
    refine (big_no a0 len0 cap0 _ hs).mono ?_
    rintro e wz ⟨rfl, rfl⟩
    go_wp2_with fail
    refine HD.out.mono ?_
    rintro e w1 ⟨a, b, c, d, rfl, fab, fcd, hb1⟩
    have HT := Lib.hid (fun W => impl_text a b W)
    have HN := Lib.hid (fun W => impl_new (txt (Cs.text a b)) (Cs.txt_small a b) W)
    obtain ⟨g1, g2, g3⟩ := Cs.again fab.1 fab.2
    rw [g1, g2, g3] at HN
    generalize txt (Cs.text a b) = t at HT HN
    clear g1 g2 g3
    have HB1 := Lib.hid ((hb1.alloc hb1.size (.cells #[.int .i64 a, .int .i64 b] 25)).alloc (by have := hb1.size; simp; omega) (.cells #[.int .i64 c, .int .i64 d] 25))
    have hz : (w1.alloc (.cells #[.int .i64 a, .int .i64 b] 25)).heap.size = w1.heap.size + 1 := by simp
    have h2 := SetAt.new (w1.alloc (.cells #[.int .i64 a, .int .i64 b] 25)) c d 25
    rw [hz] at h2
    have HA1 := Lib.hid (show Sets2 w w1.heap.size (w1.heap.size + 1) a b c d ((w1.alloc (.cells #[.int .i64 a, .int .i64 b] 25)).alloc (.cells #[.int .i64 c, .int .i64 d] 25)) from ⟨⟨(SetAt.new w1 a b _).later (bl1 _ _), h2⟩, HB1.out⟩)
    clear hb1 hz h2 HB1 HD
    go_wp2_with fail
    refine (HT.out _).mono ?_
    rintro e w2 ⟨rfl, hb2⟩
    have HA2 := Lib.hid (HA1.out.later hb2)
    clear hb2 HA1 HT
    go_wp2_with fail
    refine (HN.out _).mono ?_
    rintro e w3 ⟨rfl, hb3⟩
    have HA3 := Lib.hid (show Sets3 w w1.heap.size (w1.heap.size + 1) w3.heap.size a b c d a b (w3.alloc (.cells #[.int .i64 a, .int .i64 b] 25)) from ⟨⟨(HA2.out.later hb3).1.1.later (bl1 _ _), (HA2.out.later hb3).1.2.later (bl1 _ _), SetAt.new w3 a b _⟩, below_step (HA2.out.later hb3).2 (bl1 _ _)⟩)
    clear hb3 HA2 HN
    -- what the operations return
    have hsz := Cs.text_sizes a b c d
    have hl1 : (Cs.text a b).length ≤ 128 := Cs.textTo_len a b 128
    have hl2 : (Cs.text c d).length ≤ 128 := Cs.textTo_len c d 128
    have HU := Lib.hid (fun W => impl_or a b c d W)
    have HI := Lib.hid (fun W => impl_and a b c d W)
    have HSU := Lib.hid (fun W => impl_size (bits .or .i64 a c) (bits .or .i64 b d) W)
    have HSI := Lib.hid (fun W => impl_size (bits .and .i64 a c) (bits .and .i64 b d) W)
    have HSA := Lib.hid (fun W => impl_size a b W)
    have HSB := Lib.hid (fun W => impl_size c d W)
    have HNU := Lib.hid (fun W => impl_not (bits .or .i64 a c) (bits .or .i64 b d) W)
    have HNA := Lib.hid (fun W => impl_not a b W)
    have HNB := Lib.hid (fun W => impl_not c d W)
    have HIN := Lib.hid (fun W => impl_and (bits .xor .i64 (-1) a) (bits .xor .i64 (-1) b) (bits .xor .i64 (-1) c) (bits .xor .i64 (-1) d) W)
    have HSub := Lib.hid (fun W => impl_sub a b c d W)
    have HIS := Lib.hid (fun W => impl_and a b (bits .xor .i64 (-1) c) (bits .xor .i64 (-1) d) W)
    rw [Cs.de_morgan a c, Cs.de_morgan b d] at HNU
    rw [Cs.and_not a 0 c 0, Cs.and_not b 0 d 0] at HSub
    generalize (Cs.text a b).length = u at *
    generalize (Cs.text c d).length = v at *
    generalize (Cs.text (bits .or .i64 a c) (bits .or .i64 b d)).length = x at *
    generalize (Cs.text (bits .and .i64 a c) (bits .and .i64 b d)).length = y at *
    generalize bits .or .i64 a c = p1 at *
    generalize bits .or .i64 b d = q1 at *
    generalize bits .and .i64 a c = p2 at *
    generalize bits .and .i64 b d = q2 at *
    generalize bits .xor .i64 (-1) a = na at *
    generalize bits .xor .i64 (-1) b = nb at *
    generalize bits .xor .i64 (-1) c = nc at *
    generalize bits .xor .i64 (-1) d = nd at *
    generalize bits .and .i64 na nc = P at *
    generalize bits .and .i64 nb nd = Q at *
    generalize bits .and .i64 a nc = S at *
    generalize bits .and .i64 b nd = T at *
    have hx : (x : Int) + y ≤ 256 := by omega
    have hu : (u : Int) + v ≤ 256 := by omega
    have hq : ((x : Int) + y == (u : Int) + v) = true := by simp; omega
    clear hsz hl1 hl2
    generalize hW : w3.alloc (.cells #[.int .i64 a, .int .i64 b] 25) = wv at HA3
    have HW := Lib.hid hW
    clear hW
    obtain ⟨⟨⟨x0, x1⟩, ⟨y0, y1⟩, ⟨z0, z1⟩⟩, hB⟩ := HA3.out
    rw [← HW.out] at x0 x1 y0 y1 z0 z1
    clear hB
    have hwx : IntKind.i64.wrap ((x : Int) + y) = x + y := IntWalk.i64_in _ (by omega)
    have hwu : IntKind.i64.wrap ((u : Int) + v) = u + v := IntWalk.i64_in _ (by omega)
    clear hx hu hl hs hbig
    go_wp2_with fail
    rw [HW.out]
    go_region_held3 (fun w' => Sets3 w w1.heap.size (w1.heap.size + 1) w3.heap.size a b c d a b w')
      (first | exact ⟨⟨HA3.out.1.1.drew, HA3.out.1.2.1.drew, HA3.out.1.2.2.drew⟩, HA3.out.2.drew⟩ | (exact Sets3.later (by assumption) hba))
      (first | (go_at_call 18; (with_reducible refine (HU.out _).mono ?_); rintro e wa ⟨rfl, hba⟩) | (go_at_call 17; (with_reducible refine (HSU.out _).mono ?_); rintro e wa ⟨rfl, hba⟩) | (go_at_call 19; (with_reducible refine (HI.out _).mono ?_); rintro e wa ⟨rfl, hba⟩) | (go_at_call 17; (with_reducible refine (HSI.out _).mono ?_); rintro e wa ⟨rfl, hba⟩))
    have h4 := ‹Sets3 w w1.heap.size (w1.heap.size + 1) w3.heap.size a b c d a b wa›
    have HA4 := Lib.hid h4
    clear HA3 HSU HSI HI
    obtain ⟨⟨⟨k0, k1⟩, ⟨l0, l1⟩, ⟨m0, m1⟩⟩, hB4⟩ := h4
    clear hB4
    go_wp2_with fail
    go_region_held3 (fun w' => Sets3 w w1.heap.size (w1.heap.size + 1) w3.heap.size a b c d a b w')
      (first | exact ⟨⟨HA4.out.1.1.drew, HA4.out.1.2.1.drew, HA4.out.1.2.2.drew⟩, HA4.out.2.drew⟩ | (exact Sets3.later (by assumption) hba))
      (first | (go_at_call 17; (with_reducible refine (HSA.out _).mono ?_); rintro e wa ⟨rfl, hba⟩) | (go_at_call 17; (with_reducible refine (HSB.out _).mono ?_); rintro e wa ⟨rfl, hba⟩) | (go_at_call 18; (with_reducible refine (HU.out _).mono ?_); rintro e wa ⟨rfl, hba⟩) | (go_at_call 20; (with_reducible refine (HNU.out _).mono ?_); rintro e wa ⟨rfl, hba⟩) | (go_at_call 20; (with_reducible refine (HNA.out _).mono ?_); rintro e wa ⟨rfl, hba⟩) | (go_at_call 20; (with_reducible refine (HNB.out _).mono ?_); rintro e wa ⟨rfl, hba⟩) | (go_at_call 19; (with_reducible refine (HIN.out _).mono ?_); rintro e wa ⟨rfl, hba⟩) | (go_at_call 21; (with_reducible refine (HSub.out _).mono ?_); rintro e wa ⟨rfl, hba⟩) | (go_at_call 19; (with_reducible refine (HIS.out _).mono ?_); rintro e wa ⟨rfl, hba⟩))
    have HB := Lib.hid (show Below w.heap.size w wa from (‹Sets3 w w1.heap.size (w1.heap.size + 1) w3.heap.size a b c d a b wa›).2)
    clear HSA HSB HU HNU HNA HNB HIN HSub HIS
    go_wp2
    go_ret
    exact ⟨rfl, HB.out⟩
end Go.Proofs.Ytpidcanlnieceaa
