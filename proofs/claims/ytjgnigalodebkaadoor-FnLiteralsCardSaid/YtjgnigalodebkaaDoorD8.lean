/- The reference model's draws of a word, of an index, and of a word with two indexes. -/
import Derived.Test.YtjgnigalodebkaaDoorD4
import Derived.Test.YtjgnigalodebkaaDoorE6
import Derived.Test.YtjgnigalodebkaaDoorE1
namespace Go.Proofs.YtjgnigalodebkaaDoor
open Go.RowKit
set_option linter.unusedVariables false

theorem draw_once (B cb : Nat) (n : Int) (w : World) (hp : IsCur B w cb) (h0 : 0 < n) (h1 : n ≤ 2147483647) :
    Calls Tryd.prog 34 #[.pointer (some ⟨cb, 0, none⟩), .int .i64 n] w fun e w' => ∃ b : Bool, e = .returned (.bool b) ∧ IsCur B w' cb ∧ Only cb w w' := by
  have HB := Lib.hid (draw_below B cb n w hp h0 h1)
  clear hp
  go_enter Tryd.func34, Tryd.ntmps34
  go_wp2_with fail
  refine HB.out.mono ?_
  rintro e w1 ⟨x, rfl, hx0, hx1, hc, ho⟩
  have HC := Lib.hid hc
  have HO := Lib.hid ho
  clear hc ho
  go_wp2
  go_ret
  exact ⟨_, rfl, HC.out, HO.out⟩

/-- A text is drawn, of at most 1000 bytes. -/
def DrawnWord (B cb : Nat) (w : World) (e : Ending) (w' : World) : Prop := ∃ s : ByteArray, e = .returned (.string s) ∧ (s.size : Int) ≤ 1000 ∧ IsCur B w' cb ∧ Only cb w w'
theorem pad_q : Hid (∀ (z : Int) (d : Nat), z = d → (d : Int) ≤ 1000 → ∀ W, Calls Tryd.prog 35 #[.int .i64 z, .int .u8 113] W (RetT W (str8 (List.replicate d 113)))) := by
  intro z d hz hd W
  subst hz
  exact spec_pad d 113 W hd

set_option maxHeartbeats 400000 in
theorem draw_word (B cb : Nat) (w : World) (hp : IsCur B w cb) (hB : B ≤ w.heap.size) :
    Calls Tryd.prog 21 #[.pointer (some ⟨cb, 0, none⟩)] w (DrawnWord B cb w) := by
  have HP := Lib.hid hp
  have hcb := cur_lt hp
  clear hp
  go_enter Tryd.func21, Tryd.ntmps21
  go_wp2_with fail
  refine (pick_text B cb w.heap.size 12 [⟨#[]⟩, ⟨#[97]⟩, ⟨#[98]⟩, ⟨#[97, 98]⟩, ⟨#[97, 98, 99]⟩, ⟨#[98, 97, 110, 97, 110, 97]⟩, ⟨#[104, 101, 108, 108, 111, 44, 32, 119, 111, 114, 108, 100]⟩, ⟨#[97, 44, 98, 44, 44, 99]⟩, ⟨#[49, 43, 50, 42, 51]⟩, ⟨#[40, 40, 41, 41]⟩, ⟨#[32, 120, 32]⟩, ⟨#[114, 97, 99, 101, 99, 97, 114]⟩] _ (cur_alloc HP.out hB _) (by decide) (by decide) (by omega) (new_cells Value.string _ ByteArray.empty w _ _ rfl)).mono ?_
  rintro e w2 ⟨s, hs, rfl, hc2, ho2⟩
  have HC2 := Lib.hid hc2
  have HO2 := Lib.hid ((only_alloc _).trans ho2)
  have hz : (s.size : Int) ≤ 12 := by
    have h : ∀ x ∈ ([⟨#[]⟩, ⟨#[97]⟩, ⟨#[98]⟩, ⟨#[97, 98]⟩, ⟨#[97, 98, 99]⟩, ⟨#[98, 97, 110, 97, 110, 97]⟩, ⟨#[104, 101, 108, 108, 111, 44, 32, 119, 111, 114, 108, 100]⟩, ⟨#[97, 44, 98, 44, 44, 99]⟩, ⟨#[49, 43, 50, 42, 51]⟩, ⟨#[40, 40, 41, 41]⟩, ⟨#[32, 120, 32]⟩, ⟨#[114, 97, 99, 101, 99, 97, 114]⟩] : List ByteArray), x.size ≤ 12 := by decide
    have := h s hs
    omega
  clear hs hc2 ho2
  have HB := Lib.hid (draw_once B cb 12 w2 HC2.out (by omega) (by omega))
  go_wp2_with fail
  refine HB.out.mono ?_
  rintro e w3 ⟨b, rfl, hc3, ho3⟩
  have HC3 := Lib.hid hc3
  have HO3 := Lib.hid (HO2.out.trans ho3)
  clear hc3 ho3 HB
  cases b
  · go_wp2
    go_ret
    exact ⟨s, rfl, by omega, HC3.out, HO3.out⟩
  · have HD := Lib.hid (draw_below B cb 4 w3 HC3.out (by omega) (by omega))
    go_wp2_with fail
    refine HD.out.mono ?_
    rintro e w4 ⟨y, rfl, hy0, hy1, hc4, ho4⟩
    have HC4 := Lib.hid hc4
    have HO4 := Lib.hid (HO3.out.trans ho4)
    clear hc4 ho4 HD
    obtain ⟨d, hd⟩ : ∃ d : Nat, 118 - (s.size : Int) + y = d := ⟨(118 - (s.size : Int) + y).toNat, by omega⟩
    have hd2 : (d : Int) ≤ 121 := by omega
    go_wp2_with fail
    refine (pad_q.out _ d (by first | exact hd | rfl | omega) (by omega) _).mono ?_
    rintro e w5 ⟨rfl, hb5⟩
    have HC5 := Lib.hid (cur_below HC4.out (Nat.le_trans hB HO4.out.size) hb5)
    have HO5 := Lib.hid (HO4.out.trans (Only.of_below hb5))
    have hpz : (str8 (List.replicate d 113)).size = d := by rw [str8_size, List.length_replicate]
    clear hb5 hd
    generalize str8 (List.replicate d 113) = p at hpz
    go_wp2
    go_ret
    refine ⟨_, rfl, ?_, HC5.out, HO5.out⟩
    rw [ByteArray.size_append]; omega

/-- A text and two integers are drawn. -/
def DrawnSec (w : World) (e : Ending) (w' : World) : Prop := ∃ (s : ByteArray) (i j : Int), e = .returned (.tuple #[.string s, .int .i64 i, .int .i64 j]) ∧ (s.size : Int) ≤ 1000 ∧ (-9223372036854775808 ≤ i ∧ i ≤ 9223372036854775807) ∧ Below w.heap.size w w'

end Go.Proofs.YtjgnigalodebkaaDoor
