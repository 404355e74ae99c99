/- ConcatTexts of the program and of the reference model, and the walk of the law on it. No conditions. -/
import Derived.Test.YtdbfkgpmppdjlaaT2
import Derived.Test.YtdbfkgpmppdjlaaE1
namespace Go.Proofs.Ytdbfkgpmppdjlaa
open Go.RowKit
set_option linter.unusedVariables false

def catB (a b : ByteArray) : Bool := decide (a.size + b.size ≤ 120)
def catS (a b : ByteArray) : ByteArray := if a.size + b.size ≤ 120 then a ++ b else ByteArray.empty
theorem cat_str (a b : ByteArray) : a ++ b = str8 (a.data.toList ++ b.data.toList) := str8_inj (by simp [ByteArray.data_append])

theorem spec_cat (a b : ByteArray) (w : World) (ha : (a.size : Int) ≤ 1048576) (hb : (b.size : Int) ≤ 1048576) : Calls Try.prog 21 #[.string a, .string b] w (RetTB w (catS a b) (catB a b)) := by
  unfold RetTB
  by_cases h : a.size + b.size ≤ 120
  · have e1 : catS a b = a ++ b := if_pos h
    have e2 : catB a b = true := by simp [catB, h]
    rw [e1, e2]
    clear e1 e2
    have h1 : ¬ (120 : Int) < a.size := by omega
    have h2 : ¬ (120 - (a.size : Int)) < b.size := by omega
    go_enter Try.func21, Try.ntmps21
    go_wp2
    go_ret2
    exact ⟨rfl, Below.refl _ _⟩
  · have e1 : catS a b = ByteArray.empty := if_neg h
    have e2 : catB a b = false := by simp [catB, h]
    rw [e1, e2]
    clear e1 e2
    by_cases h1 : (120 : Int) < a.size
    · go_enter Try.func21, Try.ntmps21
      go_wp2
      go_ret2
      exact ⟨rfl, Below.refl _ _⟩
    · have h2 : (120 - (a.size : Int)) < b.size := by omega
      go_enter Try.func21, Try.ntmps21
      go_wp2
      go_ret2
      exact ⟨rfl, Below.refl _ _⟩

theorem splice2 {α : Type} (Z X Y : List α) (h : Z.length = X.length + Y.length) : splice (splice Z 0 X) X.length Y = X ++ Y := by
  have e1 : splice Z 0 X = X ++ Z.drop X.length := by simp [splice]
  rw [e1]
  unfold splice
  rw [List.take_left, List.drop_eq_nil_of_le (by simp; omega), List.append_nil]

theorem splice0 {α : Type} (Z X : List α) (h : Z.length = X.length) : splice Z 0 X = X := by
  unfold splice
  rw [List.drop_eq_nil_of_le (by omega)]; simp
set_option maxHeartbeats 400000 in
theorem impl_cat_yes (a b : ByteArray) (w : World) (h : a.size + b.size ≤ 120) : Calls Try.prog 22 #[.string a, .string b] w (RetTB w (str8 (a.data.toList ++ b.data.toList)) true) := by
  unfold RetTB
  obtain ⟨i0, hi, hz0, hz1, hz2⟩ := info_parts info8
  have hle : ((a.size : Int) + b.size) ≤ 120 := by omega
  by_cases hb0 : b = ByteArray.empty
  · subst hb0
    have hs : a.size ≤ 120 := by simpa using h
    have hl1 : (List.replicate a.size (0 : UInt8)).length = a.data.toList.length := by rw [List.length_replicate, len8]
    have HS := Lib.hid (splice0 (List.replicate a.size (0 : UInt8)) a.data.toList hl1)
    have he : a.data.toList ++ ByteArray.empty.data.toList = a.data.toList := by simp
    rw [he]
    clear hle h he
    have hle : (a.size : Int) ≤ 120 := by omega
    go_enter Try.func22, Try.ntmps22
    go_wp2_with (at_make; refine wpList_make_full _ rfl _ _ 22 rfl w.heap.size 5 i0 (.int .u8 0) 1 Try.underlying22 hi hz0 hz1 _ _ _ _ a.size rfl rfl (by omega) (by omega) (by rw [hz2]; omega) (by unfold maxLen; omega) (Nat.le_refl _) ?_)
    intro w1 hown hgr
    have HG := Lib.hid (row8_full hown)
    have HB := Lib.hid (show Below w.heap.size w w1 from (Below.refl _ _).grown hgr (Nat.le_refl _) (fun k hk => by cases hk))
    clear hown hgr
    go_wp2_with (with_reducible show wpList _ _ _ _ _ _; refine wpList_copy_row8 rfl (.tmp 17) (.tmp 18) rfl _ _ _ a rfl rfl w.heap.size 0 _ _ _ HG.out a.data.toList (take8 (by omega)) (fun _ => rfl) (by rw [hl1]; omega) HS.out w.heap.size w HB.out (Nat.le_refl _) ?_)
    intro w2 hg2 hb2
    have HB2 := Lib.hid hb2
    clear hb2
    have hc2 := row8_conv hg2.out a.size a.size rfl
    have hcp := run_copy_str0 (P := Try.prog) w2 22 9 3 5 (some ⟨w.heap.size, 0, none⟩) 0 0 ByteArray.empty Try.underlying22 info8s rfl
    go_wp2
    go_ret2
    exact ⟨rfl, HB2.out⟩
  · have hl1 : (List.replicate (a.size + b.size) (0 : UInt8)).length = a.data.toList.length + b.data.toList.length := by rw [List.length_replicate, len8, len8]
    have HS : Hid (splice (splice (List.replicate (a.size + b.size) (0 : UInt8)) 0 a.data.toList) a.size b.data.toList = a.data.toList ++ b.data.toList) := splice2 (List.replicate (a.size + b.size) (0 : UInt8)) a.data.toList b.data.toList hl1
    have HL : Hid ((a.data.toList ++ b.data.toList).length = a.size + b.size) := by show _ = _; rw [List.length_append, len8, len8]
    generalize hr : a.data.toList ++ b.data.toList = r at HS HL ⊢
    go_enter Try.func22, Try.ntmps22
    go_wp2_with (at_make; refine wpList_make_full _ rfl _ _ 22 rfl w.heap.size 5 i0 (.int .u8 0) 1 Try.underlying22 hi hz0 hz1 _ _ _ _ (a.size + b.size) rfl rfl (by omega) (by omega) (by rw [hz2]; omega) (by unfold maxLen; omega) (Nat.le_refl _) ?_)
    intro w1 hown hgr
    have HG := Lib.hid (row8_full hown)
    have HB := Lib.hid (show Below w.heap.size w w1 from (Below.refl _ _).grown hgr (Nat.le_refl _) (fun k hk => by cases hk))
    clear hown hgr
    go_wp2_with (with_reducible show wpList _ _ _ _ _ _; refine wpList_copy_row8 rfl (.tmp 17) (.tmp 18) rfl _ _ _ a rfl rfl w.heap.size 0 _ _ _ HG.out a.data.toList (take8 (by omega)) (fun _ => rfl) (by rw [hl1]; omega) rfl w.heap.size w HB.out (Nat.le_refl _) ?_)
    intro w2 hg2 hb2
    have HB2 := Lib.hid hb2
    clear hb2
    go_wp2_with (with_reducible show wpList _ _ _ _ _ _; refine wpList_copy_row8 rfl (.tmp 23) (.tmp 24) rfl _ _ _ b rfl rfl w.heap.size a.size _ _ _ hg2.out b.data.toList (take8 (by omega)) (fun _ => rfl) (by rw [length_splice _ _ _ (by rw [hl1]; omega), hl1, len8, len8]; exact Nat.le_refl _) HS.out w.heap.size w HB2.out (Nat.le_refl _) ?_)
    intro w3 hg3 hb3
    have HB3 := Lib.hid hb3
    clear hb3
    have hc2 := row8_conv hg3.out (a.size + b.size) (a.size + b.size) HL.out
    go_wp2
    go_ret2
    exact ⟨rfl, HB3.out⟩

theorem impl_cat (a b : ByteArray) (w : World) (ha : (a.size : Int) ≤ 1048576) (hb : (b.size : Int) ≤ 1048576) : Calls Try.prog 22 #[.string a, .string b] w (RetTB w (catS a b) (catB a b)) := by
  by_cases h : a.size + b.size ≤ 120
  · have e1 : catS a b = a ++ b := if_pos h
    have e2 : catB a b = true := by simp [catB, h]
    rw [e1, e2, cat_str]
    exact impl_cat_yes a b w h
  · unfold RetTB
    have e1 : catS a b = ByteArray.empty := if_neg h
    have e2 : catB a b = false := by simp [catB, h]
    rw [e1, e2]
    clear e1 e2
    have h1 : (120 : Int) < (a.size : Int) + b.size := by omega
    go_enter Try.func22, Try.ntmps22
    go_wp2
    go_ret2
    exact ⟨rfl, Below.refl _ _⟩

theorem FnExactConcatTexts_walk (a0 : ByteArray) (a1 : ByteArray) (w0 : a0.size ≤ maxLen) (w1 : a1.size ≤ maxLen) (w : World) :
    Calls Try.prog 6 #[.string a0, .string a1] w fun e w' => e = .returned (.bool true) ∧ Below w.heap.size w w' := by
  have hm0 : (a0.size : Int) ≤ 9223372036854775807 := by unfold maxLen at w0; omega
  have hm1 : (a1.size : Int) ≤ 9223372036854775807 := by unfold maxLen at w1; omega
  clear w0 w1
  by_cases hl0 : (1048576 : Int) < a0.size
  · go_enter Try.func6, Try.ntmps6
    go_wp2
    go_ret
    exact ⟨rfl, Below.refl _ _⟩
  · by_cases hl1 : (1048576 : Int) < a1.size
    · go_enter Try.func6, Try.ntmps6
      go_wp2
      go_ret
      exact ⟨rfl, Below.refl _ _⟩
    · have H1 := Lib.hid (fun W => spec_cat a0 a1 W (by omega) (by omega))
      have H2 := Lib.hid (fun W => impl_cat a0 a1 W (by omega) (by omega))
      unfold RetTB at H1 H2
      generalize catS a0 a1 = v at H1 H2
      generalize catB a0 a1 = b at H1 H2
      go_enter Try.func6, Try.ntmps6
      go_wp2_with fail
      refine (H1.out _).mono ?_
      rintro e w1 ⟨rfl, hb1⟩
      go_wp2_with fail
      refine (H2.out _).mono ?_
      rintro e w2 ⟨rfl, hb2⟩
      have HB := Lib.hid (hb1.trans (hb2.mono hb1.size))
      clear hb1 hb2
      cases b
      all_goals
        go_wp2
        go_ret
        exact ⟨rfl, HB.out⟩
end Go.Proofs.Ytdbfkgpmppdjlaa
