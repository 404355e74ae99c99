/- QuoteText and QuoteCset of the program and of the reference model, and the walks of their laws. No conditions. -/
import Derived.Test.YtfhakailbikjkaaL3
import Derived.Test.YtfhakailbikjkaaC8
namespace Go.Proofs.Ytfhakailbikjkaa
open Go.RowKit
set_option linter.unusedVariables false

/-- The literal of a text, the literal of a set. -/
def qtS (s : ByteArray) : ByteArray := str8 (Lt.quo 34 s.data.toList)
def qcS (a b : Int) : ByteArray := str8 (Lt.quo 39 (txt (Cs.text a b)).data.toList)
theorem quote34 (s : ByteArray) (w : World) (hs : (s.size : Int) ≤ 1048576) : Calls Try.prog 40 #[.string s, .int .u8 34] w (RetT w (qtS s)) := impl_quote 34 s w hs
theorem impl_qt (s : ByteArray) (w : World) (hs : (s.size : Int) ≤ 1048576) : Calls Try.prog 32 #[.string s] w (RetT w (qtS s)) := by
  have H := Lib.hid (fun W => quote34 s W hs)
  unfold RetT at H ⊢
  go_enter Try.func32, Try.ntmps32
  go_wp2_with fail
  refine (H.out _).mono ?_
  rintro e w1 ⟨rfl, hb1⟩
  go_wp2
  go_ret
  exact ⟨rfl, hb1⟩
theorem squote34 (s : ByteArray) (w : World) (hs : (s.size : Int) ≤ 1048576) : Calls Try.prog 37 #[.string s, .int .u8 34] w (RetT w (qtS s)) := spec_quote 34 s w hs
theorem spec_qt (s : ByteArray) (w : World) (hs : (s.size : Int) ≤ 1048576) : Calls Try.prog 29 #[.string s] w (RetT w (qtS s)) := by
  have H := Lib.hid (fun W => squote34 s W hs)
  unfold RetT at H ⊢
  go_enter Try.func29, Try.ntmps29
  go_wp2_with fail
  refine (H.out _).mono ?_
  rintro e w1 ⟨rfl, hb1⟩
  go_wp2
  go_ret
  exact ⟨rfl, hb1⟩
theorem text_small (a b : Int) : ((txt (Cs.text a b)).size : Int) ≤ 1048576 := by
  have h : (Cs.text a b).length ≤ 128 := Cs.textTo_len a b 128
  rw [txt_size]; omega
theorem impl_qc (a b : Int) (w : World) : Calls Try.prog 34 #[.agg #[.int .i64 a, .int .i64 b]] w (RetT w (qcS a b)) := by
  have H1 := Lib.hid (fun W => impl_text a b W)
  have H2 : Hid (∀ W, Calls Try.prog 40 #[.string (txt (Cs.text a b)), .int .u8 39] W (RetT W (qcS a b))) := fun W => impl_quote 39 _ W (text_small a b)
  unfold RetT at H2 ⊢
  unfold RetText at H1
  generalize txt (Cs.text a b) = t at H1 H2
  generalize qcS a b = v at H2 ⊢
  go_enter Try.func34, Try.ntmps34
  go_wp2_with fail
  refine (H1.out _).mono ?_
  rintro e w1 ⟨rfl, hb1⟩
  have HB1 := Lib.hid (below_step (bl1 _ _) hb1)
  clear hb1
  go_wp2_with fail
  refine (H2.out _).mono ?_
  rintro e w2 ⟨rfl, hb2⟩
  have HB2 := Lib.hid (below_step HB1.out hb2)
  clear hb2
  go_wp2
  go_ret
  exact ⟨rfl, HB2.out⟩
theorem spec_qc (a b : Int) (w : World) : Calls Try.prog 31 #[.agg #[.int .i64 a, .int .i64 b]] w (RetT w (qcS a b)) := by
  have H1 := Lib.hid (fun W => spec_text a b W)
  have H2 : Hid (∀ W, Calls Try.prog 37 #[.string (txt (Cs.text a b)), .int .u8 39] W (RetT W (qcS a b))) := fun W => spec_quote 39 _ W (text_small a b)
  unfold RetT at H2 ⊢
  unfold RetText at H1
  generalize txt (Cs.text a b) = t at H1 H2
  generalize qcS a b = v at H2 ⊢
  go_enter Try.func31, Try.ntmps31
  go_wp2_with fail
  refine (H1.out _).mono ?_
  rintro e w1 ⟨rfl, hb1⟩
  have HB1 := Lib.hid (below_step (bl1 _ _) hb1)
  clear hb1
  go_wp2_with fail
  refine (H2.out _).mono ?_
  rintro e w2 ⟨rfl, hb2⟩
  have HB2 := Lib.hid (below_step HB1.out hb2)
  clear hb2
  go_wp2
  go_ret
  exact ⟨rfl, HB2.out⟩
end Go.Proofs.Ytfhakailbikjkaa
