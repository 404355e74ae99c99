/- The laws on words: their walks from contracts of the program's functions. No conditions. -/
import Derived.Test.YtfhakailbikjkaaK5
namespace Go.Proofs.Ytfhakailbikjkaa
open Go.RowKit
set_option linter.unusedVariables false

theorem reserved_law (hI : ∀ (s : ByteArray) (W : World), (s.size : Int) ≤ 1048576 → Calls Try.prog 10 #[.string s] W (fun e w' => e = .returned (.bool (hasW Tk.reserved s.data.toList)) ∧ Below W.heap.size W w'))
    (a0 : ByteArray) (w0 : a0.size ≤ maxLen) (w : World) :
    Calls Try.prog 3 #[.string a0] w fun e w' => e = .returned (.bool true) ∧ Below w.heap.size w w' := by
  have hm0 : (a0.size : Int) ≤ 9223372036854775807 := by unfold maxLen at w0; omega
  by_cases hlen : (1048576 : Int) < a0.size
  · go_enter Try.func3, Try.ntmps3
    go_wp2
    go_ret
    exact ⟨rfl, Below.refl _ _⟩
  · have hs : (a0.size : Int) ≤ 1048576 := by omega
    have HS := Lib.hid (fun W => spec_reserved a0 W)
    have HI := Lib.hid (fun W => hI a0 W hs)
    clear hI
    generalize hasW Tk.reserved a0.data.toList = b at HS HI
    go_enter Try.func3, Try.ntmps3
    go_wp2_with fail
    refine (HS.out _).mono ?_
    rintro e w1 ⟨rfl, b1⟩
    have HB1 := Lib.hid b1
    clear b1
    go_wp2_with fail
    refine (HI.out _).mono ?_
    rintro e w2 ⟨rfl, b2⟩
    have HB2 := Lib.hid (HB1.out.trans (b2.mono HB1.out.size))
    clear b2
    go_wp2
    go_ret
    exact ⟨rfl, HB2.out⟩

theorem keyword_law (hI : ∀ (s : ByteArray) (W : World), (s.size : Int) ≤ 1048576 → Calls Try.prog 14 #[.string s] W (fun e w' => e = .returned (.bool (hasW Tk.keywords s.data.toList)) ∧ Below W.heap.size W w'))
    (a0 : ByteArray) (w0 : a0.size ≤ maxLen) (w : World) :
    Calls Try.prog 5 #[.string a0] w fun e w' => e = .returned (.bool true) ∧ Below w.heap.size w w' := by
  have hm0 : (a0.size : Int) ≤ 9223372036854775807 := by unfold maxLen at w0; omega
  by_cases hlen : (1048576 : Int) < a0.size
  · go_enter Try.func5, Try.ntmps5
    go_wp2
    go_ret
    exact ⟨rfl, Below.refl _ _⟩
  · have hs : (a0.size : Int) ≤ 1048576 := by omega
    have HS := Lib.hid (fun W => spec_keyword a0 W)
    have HI := Lib.hid (fun W => hI a0 W hs)
    clear hI
    generalize hasW Tk.keywords a0.data.toList = b at HS HI
    go_enter Try.func5, Try.ntmps5
    go_wp2_with fail
    refine (HS.out _).mono ?_
    rintro e w1 ⟨rfl, b1⟩
    have HB1 := Lib.hid b1
    clear b1
    go_wp2_with fail
    refine (HI.out _).mono ?_
    rintro e w2 ⟨rfl, b2⟩
    have HB2 := Lib.hid (HB1.out.trans (b2.mono HB1.out.size))
    clear b2
    go_wp2
    go_ret
    exact ⟨rfl, HB2.out⟩

theorem name_law (hI : ∀ (s : ByteArray) (W : World), (s.size : Int) ≤ 1048576 → Calls Try.prog 12 #[.string s] W (fun e w' => e = .returned (.bool (Tk.isName s.data.toList)) ∧ Below W.heap.size W w'))
    (a0 : ByteArray) (w0 : a0.size ≤ maxLen) (w : World) :
    Calls Try.prog 4 #[.string a0] w fun e w' => e = .returned (.bool true) ∧ Below w.heap.size w w' := by
  have hm0 : (a0.size : Int) ≤ 9223372036854775807 := by unfold maxLen at w0; omega
  by_cases hlen : (1048576 : Int) < a0.size
  · go_enter Try.func4, Try.ntmps4
    go_wp2
    go_ret
    exact ⟨rfl, Below.refl _ _⟩
  · have hs : (a0.size : Int) ≤ 1048576 := by omega
    have HS := Lib.hid (fun W => spec_name a0 W hs)
    have HI := Lib.hid (fun W => hI a0 W hs)
    clear hI
    generalize Tk.isName a0.data.toList = b at HS HI
    go_enter Try.func4, Try.ntmps4
    go_wp2_with fail
    refine (HS.out _).mono ?_
    rintro e w1 ⟨rfl, b1⟩
    have HB1 := Lib.hid b1
    clear b1
    go_wp2_with fail
    refine (HI.out _).mono ?_
    rintro e w2 ⟨rfl, b2⟩
    have HB2 := Lib.hid (HB1.out.trans (b2.mono HB1.out.size))
    clear b2
    go_wp2
    go_ret
    exact ⟨rfl, HB2.out⟩
end Go.Proofs.Ytfhakailbikjkaa
