/- UnquoteText and UnquoteCset of the program and of the reference model, and the walks of their laws. No conditions beside what the variable holds. -/
import Derived.Test.YtjgnigalodebkaaDoorJ4
import Derived.Test.YtjgnigalodebkaaDoorJ7
import Derived.Test.YtjgnigalodebkaaDoorC10
import Derived.LaidLaws
import Derived.MakeChecks
namespace Go.Proofs.YtjgnigalodebkaaDoor
open Go.RowKit
set_option linter.unusedVariables false

theorem gBad : Tryd.prog.globalNamed "loop.example/g03106/impl.errBadEscape" = some 0 := by kernel_rfl
theorem gBadType : (Tryd.prog.globals[0]?).map (·.type) = some 56 := by kernel_rfl
theorem rowErr (u : TypeId) (h : Tryd.prog.typeName? 3 u = some "*errors.errorString") : u = 111 := typeName_ptr_named (nm := "errors.errorString") (by kernel_rfl) (by kernel_rfl) (by decide) u h
theorem cellsErr : Tryd.prog.cellsOf 137 = 1 := by kernel_rfl
theorem cellsStr : Tryd.prog.cellsOf 9 = 1 := by kernel_rfl
/-- What the row's list gives: the variable holds a pointer. -/
theorem sent_of {W : World} (hL : laidMetH Tryd.prog [("loop.example/g03106/impl.errBadEscape", Rows.laid_loop_example_g03106_impl_errBadEscape)] W) : Sent W := by
  rw [MakeChecks.laidMetH_plain _ _ _ (by kernel_rfl)] at hL
  obtain ⟨a, s, hv, _, _, _⟩ := laid_sentinel hL gBad gBadType Tryd.underlying56 rowErr Tryd.underlying111 Tryd.underlying137 rfl rfl Tryd.underlying9 cellsErr cellsStr
  exact ⟨a, by unfold SentAt; rw [World.var?_cell gBad hv 0]; rfl⟩
theorem impl_unq (a : Addr) (d : UInt8) (s : ByteArray) (w : World) (hS : SentAt a w) (hs : (s.size : Int) ≤ 1048576) :
    Calls Tryd.prog 23 #[.string s, .int .u8 (d.toNat : Int)] w (RetLit w d s.data.toList) := by
  rcases lit_cases d s with h | ⟨n, hn, h1, h | h | ⟨h2, h3, h4, h5⟩⟩
  · exact unq_no d s w hs (.inl h)
  · exact unq_no d s w hs (.inr ⟨n, hn, h1, .inl h⟩)
  · exact unq_no d s w hs (.inr ⟨n, hn, h1, .inr h⟩)
  · exact unq_yes a d s w hS hs n hn h1 h2 h3 h5
theorem spec_unq (d : UInt8) (hd : d = 34 ∨ d = 39) (s : ByteArray) (w : World) (hs : (s.size : Int) ≤ 1048576) :
    Calls Tryd.prog 27 #[.string s, .int .u8 (d.toNat : Int)] w (RetLit w d s.data.toList) := by
  rcases slit_cases d hd s with h | ⟨h1, h | h | ⟨h2, h3, h4⟩⟩
  · exact sunq_no d s w hs (.inl h)
  · exact sunq_no d s w hs (.inr ⟨h1, .inl h⟩)
  · exact sunq_no d s w hs (.inr ⟨h1, .inr h⟩)
  · exact sunq_yes d hd s w hs h1 h2 h3 h4
theorem lit_size (d : UInt8) (s : ByteArray) (hs : (s.size : Int) ≤ 1048576) : (str8 (Lt.litL d s.data.toList)).size ≤ maxLen := by
  rw [str8_size]
  cases h : Lt.lit d s.data.toList with
  | none => rw [(Lt.lit_none h).2]; unfold maxLen; simp
  | some A =>
    rw [(Lt.lit_some h).2]
    unfold Lt.lit at h
    split at h
    · cases h
    · have h2 := Lt.rd_len _ (Nat.le_refl _) h
      rw [List.length_dropLast, List.length_drop, len8] at h2
      unfold maxLen; omega

/-- The set that a literal denotes, and whether it denotes one. -/
def ucL (S : List UInt8) : Int := if Lt.litB 39 S = true then Cs.newL (str8 (Lt.litL 39 S)) else 0
def ucH (S : List UInt8) : Int := if Lt.litB 39 S = true then Cs.newH (str8 (Lt.litL 39 S)) else 0
def ucB (S : List UInt8) : Bool := if Lt.litB 39 S = true then Cs.good (str8 (Lt.litL 39 S)) else false

theorem impl_ut (a : Addr) (s : ByteArray) (w : World) (hS : SentAt a w) (hs : (s.size : Int) ≤ 1048576) : Calls Tryd.prog 10 #[.string s] w (RetLit w 34 s.data.toList) := by
  have H : Hid (Calls Tryd.prog 23 #[.string s, .int .u8 34] w (RetLit w 34 s.data.toList)) := impl_unq a 34 s w hS hs
  unfold RetLit at H ⊢
  generalize str8 (Lt.litL 34 s.data.toList) = t at H ⊢
  generalize Lt.litB 34 s.data.toList = b at H ⊢
  clear hS
  go_enter Tryd.func10, Tryd.ntmps10
  go_wp2_with fail
  refine H.out.mono ?_
  rintro e w1 ⟨rfl, hb1⟩
  go_wp2
  go_ret2
  exact ⟨rfl, hb1⟩
theorem spec_ut (s : ByteArray) (w : World) (hs : (s.size : Int) ≤ 1048576) : Calls Tryd.prog 14 #[.string s] w (RetLit w 34 s.data.toList) := by
  have H : Hid (Calls Tryd.prog 27 #[.string s, .int .u8 34] w (RetLit w 34 s.data.toList)) := spec_unq 34 (.inl rfl) s w hs
  unfold RetLit at H ⊢
  generalize str8 (Lt.litL 34 s.data.toList) = t at H ⊢
  generalize Lt.litB 34 s.data.toList = b at H ⊢
  go_enter Tryd.func14, Tryd.ntmps14
  go_wp2_with fail
  refine H.out.mono ?_
  rintro e w1 ⟨rfl, hb1⟩
  go_wp2
  go_ret2
  exact ⟨rfl, hb1⟩

set_option maxHeartbeats 800000 in
theorem impl_uc (a : Addr) (s : ByteArray) (w : World) (hS : SentAt a w) (hs : (s.size : Int) ≤ 1048576) : Calls Tryd.prog 12 #[.string s] w (RetNew w (ucL s.data.toList) (ucH s.data.toList) (ucB s.data.toList)) := by
  unfold RetNew
  have H : Hid (∀ W, SentAt a W → Calls Tryd.prog 23 #[.string s, .int .u8 39] W (RetLit W 39 s.data.toList)) := fun W h => impl_unq a 39 s W h hs
  have HN := Lib.hid (fun W => impl_new (str8 (Lt.litL 39 s.data.toList)) (lit_size 39 s hs) W)
  unfold RetLit at H
  unfold RetNew at HN
  unfold ucL ucH ucB
  generalize str8 (Lt.litL 39 s.data.toList) = t at H HN ⊢
  have HS0 := Lib.hid (sentAt_below hS (bl1 w (.cells #[.int .i64 0, .int .i64 0] 26)))
  have HF0 := Lib.hid (FreeSet.new w 0 0 26)
  clear hS
  cases hb : Lt.litB 39 s.data.toList
  · rw [hb] at H
    clear hb
    go_enter Tryd.func12, Tryd.ntmps12
    go_wp2_with fail
    refine (H.out _ HS0.out).mono ?_
    rintro e w1 ⟨rfl, hb1⟩
    have HF1 := Lib.hid (HF0.out.later hb1)
    have HB1 := Lib.hid (below_step (bl1 _ _) hb1)
    obtain ⟨⟨r0, r1⟩, r2, r3⟩ := HF1.out
    clear hb1
    go_wp2
    exact bodyPost_ret (v := .tuple #[.agg #[.int .i64 0, .int .i64 0], .bool false]) (by simp [results, Tryd.results12, go_sem, r0, r1]) rfl ⟨rfl, below_store HB1.out (Nat.le_refl _) _ _⟩
  · rw [hb] at H
    clear hb
    generalize Cs.newL t = l at HN ⊢
    generalize Cs.newH t = z at HN ⊢
    generalize Cs.good t = g at HN ⊢
    go_enter Tryd.func12, Tryd.ntmps12
    go_wp2_with fail
    refine (H.out _ HS0.out).mono ?_
    rintro e w1 ⟨rfl, hb1⟩
    have HF1 := Lib.hid (HF0.out.later hb1)
    have HB1 := Lib.hid (below_step (bl1 _ _) hb1)
    clear hb1
    go_wp2_with fail
    refine (HN.out _).mono ?_
    rintro e w2 ⟨rfl, hb2⟩
    have HB2 := Lib.hid (below_step HB1.out hb2)
    obtain ⟨⟨r0, r1⟩, r2, r3⟩ := HF1.out.later hb2
    clear hb2
    go_wp2
    exact bodyPost_ret (v := .tuple #[.agg #[.int .i64 l, .int .i64 z], .bool g]) (by simp [results, Tryd.results12, go_sem, r0, r1]) rfl ⟨rfl, below_store HB2.out (Nat.le_refl _) _ _⟩
set_option maxHeartbeats 800000 in
theorem spec_uc (s : ByteArray) (w : World) (hs : (s.size : Int) ≤ 1048576) : Calls Tryd.prog 15 #[.string s] w (RetNew w (ucL s.data.toList) (ucH s.data.toList) (ucB s.data.toList)) := by
  unfold RetNew
  have H : Hid (∀ W, Calls Tryd.prog 27 #[.string s, .int .u8 39] W (RetLit W 39 s.data.toList)) := fun W => spec_unq 39 (.inr rfl) s W hs
  have HN := Lib.hid (fun W => spec_new (str8 (Lt.litL 39 s.data.toList)) (lit_size 39 s hs) W)
  unfold RetLit at H
  unfold RetNew at HN
  unfold ucL ucH ucB
  generalize str8 (Lt.litL 39 s.data.toList) = t at H HN ⊢
  have HF0 := Lib.hid (FreeSet.new w 0 0 26)
  cases hb : Lt.litB 39 s.data.toList
  · rw [hb] at H
    clear hb
    go_enter Tryd.func15, Tryd.ntmps15
    go_wp2_with fail
    refine (H.out _).mono ?_
    rintro e w1 ⟨rfl, hb1⟩
    have HF1 := Lib.hid (HF0.out.later hb1)
    have HB1 := Lib.hid (below_step (bl1 _ _) hb1)
    obtain ⟨⟨r0, r1⟩, r2, r3⟩ := HF1.out
    clear hb1
    go_wp2
    exact bodyPost_ret (v := .tuple #[.agg #[.int .i64 0, .int .i64 0], .bool false]) (by simp [results, Tryd.results15, go_sem, r0, r1]) rfl ⟨rfl, below_store HB1.out (Nat.le_refl _) _ _⟩
  · rw [hb] at H
    clear hb
    generalize Cs.newL t = l at HN ⊢
    generalize Cs.newH t = z at HN ⊢
    generalize Cs.good t = g at HN ⊢
    go_enter Tryd.func15, Tryd.ntmps15
    go_wp2_with fail
    refine (H.out _).mono ?_
    rintro e w1 ⟨rfl, hb1⟩
    have HF1 := Lib.hid (HF0.out.later hb1)
    have HB1 := Lib.hid (below_step (bl1 _ _) hb1)
    clear hb1
    go_wp2_with fail
    refine (HN.out _).mono ?_
    rintro e w2 ⟨rfl, hb2⟩
    have HB2 := Lib.hid (below_step HB1.out hb2)
    obtain ⟨⟨r0, r1⟩, r2, r3⟩ := HF1.out.later hb2
    clear hb2
    go_wp2
    exact bodyPost_ret (v := .tuple #[.agg #[.int .i64 l, .int .i64 z], .bool g]) (by simp [results, Tryd.results15, go_sem, r0, r1]) rfl ⟨rfl, below_store HB2.out (Nat.le_refl _) _ _⟩

theorem FnExactUnquoteText_walk (a0 : ByteArray) (w0 : a0.size ≤ maxLen) (w : World) (hS : Sent w) :
    Calls Tryd.prog 4 #[.string a0] w fun e w' => e = .returned (.bool true) ∧ Below w.heap.size w w' := by
  have hm0 : (a0.size : Int) ≤ 9223372036854775807 := by unfold maxLen at w0; omega
  clear w0
  by_cases hl0 : (1048576 : Int) < a0.size
  · clear hS
    go_enter Tryd.func4, Tryd.ntmps4
    go_wp2
    go_ret
    exact ⟨rfl, Below.refl _ _⟩
  · obtain ⟨p, hp⟩ := hS
    have HS := Lib.hid hp
    have H1 := Lib.hid (fun W => spec_ut a0 W (by omega))
    have H2 := Lib.hid (fun W h => impl_ut p a0 W h (by omega))
    unfold RetLit at H1 H2
    generalize str8 (Lt.litL 34 a0.data.toList) = v at H1 H2
    generalize Lt.litB 34 a0.data.toList = b at H1 H2
    clear hp
    go_enter Tryd.func4, Tryd.ntmps4
    go_wp2_with fail
    refine (H1.out _).mono ?_
    rintro e w1 ⟨rfl, hb1⟩
    have HB1 := Lib.hid hb1
    clear hb1
    go_wp2_with fail
    refine (H2.out _ (sentAt_below HS.out HB1.out)).mono ?_
    rintro e w2 ⟨rfl, hb2⟩
    have HB := Lib.hid (below_then HB1.out hb2)
    clear hb2
    cases b
    all_goals
      go_wp2
      go_ret
      exact ⟨rfl, HB.out⟩
theorem FnExactUnquoteCset_walk (a0 : ByteArray) (w0 : a0.size ≤ maxLen) (w : World) (hS : Sent w) :
    Calls Tryd.prog 5 #[.string a0] w fun e w' => e = .returned (.bool true) ∧ Below w.heap.size w w' := by
  have hm0 : (a0.size : Int) ≤ 9223372036854775807 := by unfold maxLen at w0; omega
  clear w0
  by_cases hl0 : (1048576 : Int) < a0.size
  · clear hS
    go_enter Tryd.func5, Tryd.ntmps5
    go_wp2
    go_ret
    exact ⟨rfl, Below.refl _ _⟩
  obtain ⟨p, hp⟩ := hS
  have HS := Lib.hid hp
  have H1 := Lib.hid (fun W => spec_uc a0 W (by omega))
  have H2 := Lib.hid (fun W hw => impl_uc p a0 W hw (by omega))
  unfold RetNew at H1 H2
  generalize ucL a0.data.toList = l at H1 H2
  generalize ucH a0.data.toList = h at H1 H2
  generalize ucB a0.data.toList = ok at H1 H2
  clear hp
  go_enter Tryd.func5, Tryd.ntmps5
  go_wp2_with fail
  refine (H1.out _).mono ?_
  rintro e wa ⟨rfl, ha⟩
  have HA := Lib.hid (ha.alloc ha.size (.cells #[.int .i64 l, .int .i64 h] 26))
  have SA := Lib.hid (SetAt.new wa l h 26)
  clear ha
  go_wp2_with fail
  refine (H2.out _ (sentAt_below HS.out HA.out)).mono ?_
  rintro e wb ⟨rfl, hb⟩
  have HB := Lib.hid ((below_step HA.out hb).alloc (below_step HA.out hb).size (.cells #[.int .i64 l, .int .i64 h] 26))
  obtain ⟨c0, c1⟩ := (SA.out.later hb).later (bl1 wb (.cells #[.int .i64 l, .int .i64 h] 26))
  clear hb
  go_wp2_with fail
  refine (eq_set _ _ _).mono ?_
  rintro e wc ⟨rfl, hc⟩
  have HC := Lib.hid (below_step HB.out hc)
  clear hc
  go_wp2
  all_goals go_ret
  all_goals exact ⟨rfl, HC.out⟩
end Go.Proofs.YtjgnigalodebkaaDoor
