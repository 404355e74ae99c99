/- QuoteText and QuoteCset of the program and of the reference model, and the walks of their laws. No conditions. -/
import Derived.Test.YtjgnigalodebkaaL3
import Derived.Test.YtjgnigalodebkaaC8
namespace Go.Proofs.Ytjgnigalodebkaa
open Go.RowKit
set_option linter.unusedVariables false

/-- The literal of a text, the literal of a set. -/
def qtS (s : ByteArray) : ByteArray := str8 (Lt.quo 34 s.data.toList)
def qcS (a b : Int) : ByteArray := str8 (Lt.quo 39 (txt (Cs.text a b)).data.toList)
theorem quote34 (s : ByteArray) (w : World) (hs : (s.size : Int) ≤ 1048576) : Calls Try.prog 37 #[.string s, .int .u8 34] w (RetT w (qtS s)) := impl_quote 34 s w hs
theorem impl_qt (s : ByteArray) (w : World) (hs : (s.size : Int) ≤ 1048576) : Calls Try.prog 19 #[.string s] w (RetT w (qtS s)) := by
  have H := Lib.hid (fun W => quote34 s W hs)
  unfold RetT at H ⊢
  go_enter Try.func19, Try.ntmps19
  go_wp2_with fail
  refine (H.out _).mono ?_
  rintro e w1 ⟨rfl, hb1⟩
  go_wp2
  go_ret
  exact ⟨rfl, hb1⟩
theorem squote34 (s : ByteArray) (w : World) (hs : (s.size : Int) ≤ 1048576) : Calls Try.prog 36 #[.string s, .int .u8 34] w (RetT w (qtS s)) := spec_quote 34 s w hs
theorem spec_qt (s : ByteArray) (w : World) (hs : (s.size : Int) ≤ 1048576) : Calls Try.prog 18 #[.string s] w (RetT w (qtS s)) := by
  have H := Lib.hid (fun W => squote34 s W hs)
  unfold RetT at H ⊢
  go_enter Try.func18, Try.ntmps18
  go_wp2_with fail
  refine (H.out _).mono ?_
  rintro e w1 ⟨rfl, hb1⟩
  go_wp2
  go_ret
  exact ⟨rfl, hb1⟩
theorem text_small (a b : Int) : ((txt (Cs.text a b)).size : Int) ≤ 1048576 := by
  have h : (Cs.text a b).length ≤ 128 := Cs.textTo_len a b 128
  rw [txt_size]; omega
theorem impl_qc (a b : Int) (w : World) : Calls Try.prog 22 #[.agg #[.int .i64 a, .int .i64 b]] w (RetT w (qcS a b)) := by
  have H1 := Lib.hid (fun W => impl_text a b W)
  have H2 : Hid (∀ W, Calls Try.prog 37 #[.string (txt (Cs.text a b)), .int .u8 39] W (RetT W (qcS a b))) := fun W => impl_quote 39 _ W (text_small a b)
  unfold RetT at H2 ⊢
  unfold RetText at H1
  generalize txt (Cs.text a b) = t at H1 H2
  generalize qcS a b = v at H2 ⊢
  go_enter Try.func22, Try.ntmps22
  go_wp2_with fail
  refine (H1.out _).mono ?_
  rintro e w1 ⟨rfl, hb1⟩
  have HB1 := Lib.hid (below_step (bl1 _ _) hb1)
  clear hb1
  go_wp2_with fail
  refine (H2.out _).mono ?_
  rintro e w2 ⟨rfl, hb2⟩
  have HB2 := Lib.hid (below_step HB1.out hb2)
  clear hb2
  go_wp2
  go_ret
  exact ⟨rfl, HB2.out⟩
theorem spec_qc (a b : Int) (w : World) : Calls Try.prog 20 #[.agg #[.int .i64 a, .int .i64 b]] w (RetT w (qcS a b)) := by
  have H1 := Lib.hid (fun W => spec_text a b W)
  have H2 : Hid (∀ W, Calls Try.prog 36 #[.string (txt (Cs.text a b)), .int .u8 39] W (RetT W (qcS a b))) := fun W => spec_quote 39 _ W (text_small a b)
  unfold RetT at H2 ⊢
  unfold RetText at H1
  generalize txt (Cs.text a b) = t at H1 H2
  generalize qcS a b = v at H2 ⊢
  go_enter Try.func20, Try.ntmps20
  go_wp2_with fail
  refine (H1.out _).mono ?_
  rintro e w1 ⟨rfl, hb1⟩
  have HB1 := Lib.hid (below_step (bl1 _ _) hb1)
  clear hb1
  go_wp2_with fail
  refine (H2.out _).mono ?_
  rintro e w2 ⟨rfl, hb2⟩
  have HB2 := Lib.hid (below_step HB1.out hb2)
  clear hb2
  go_wp2
  go_ret
  exact ⟨rfl, HB2.out⟩
theorem FnExactQuoteText_walk (a0 : ByteArray) (w0 : a0.size ≤ maxLen) (w : World) :
    Calls Try.prog 6 #[.string a0] w fun e w' => e = .returned (.bool true) ∧ Below w.heap.size w w' := by
  have hm0 : (a0.size : Int) ≤ 9223372036854775807 := by unfold maxLen at w0; omega
  clear w0
  by_cases hl0 : (1048576 : Int) < a0.size
  · go_enter Try.func6, Try.ntmps6
    go_wp2
    go_ret
    exact ⟨rfl, Below.refl _ _⟩
  · have H1 := Lib.hid (fun W => spec_qt a0 W (by omega))
    have H2 := Lib.hid (fun W => impl_qt a0 W (by omega))
    unfold RetT at H1 H2
    generalize qtS a0 = v at H1 H2
    go_enter Try.func6, Try.ntmps6
    go_wp2_with fail
    refine (H1.out _).mono ?_
    rintro e w1 ⟨rfl, hb1⟩
    go_wp2_with fail
    refine (H2.out _).mono ?_
    rintro e w2 ⟨rfl, hb2⟩
    have HB := Lib.hid (hb1.trans (hb2.mono hb1.size))
    clear hb1 hb2
    go_wp2
    go_ret
    exact ⟨rfl, HB.out⟩
theorem FnExactQuoteCset_walk (a0 b0 : Int) (w0 : (Lit.int .i64 a0).wf = true) (x0 : (Lit.int .i64 b0).wf = true) (w : World) :
    Calls Try.prog 7 #[.agg #[.int .i64 a0, .int .i64 b0]] w fun e w' => e = .returned (.bool true) ∧ Below w.heap.size w w' := by
  clear w0 x0
  have HS := Lib.hid (fun W => spec_qc a0 b0 W)
  have HI := Lib.hid (fun W => impl_qc a0 b0 W)
  unfold RetT at HS HI
  generalize qcS a0 b0 = t at HS HI
  go_enter Try.func7, Try.ntmps7
  go_wp2_with fail
  refine (to_set _ _ _).mono ?_
  rintro e wa ⟨rfl, ha⟩
  have HA := Lib.hid (below_step (bl1 _ _) ha)
  have SA := Lib.hid ((SetAt.new w a0 b0 _).later ha)
  clear ha
  go_wp2_with fail
  refine (HS.out _).mono ?_
  rintro e wb ⟨rfl, hb⟩
  have HB := Lib.hid (below_step HA.out hb)
  obtain ⟨c0, c1⟩ := SA.out.later hb
  clear hb
  go_wp2_with fail
  refine (to_set _ _ _).mono ?_
  rintro e wc ⟨rfl, hc⟩
  have HC := Lib.hid (below_step HB.out hc)
  clear hc c0 c1
  go_wp2_with fail
  refine (HI.out _).mono ?_
  rintro e wd ⟨rfl, hd⟩
  have HD := Lib.hid (below_step HC.out hd)
  clear hd
  go_wp2
  go_ret
  exact ⟨rfl, HD.out⟩
end Go.Proofs.Ytjgnigalodebkaa
