/- The law FnLiterals answers true at every code. No conditions beside what the variable holds. -/
import Derived.Test.YtjgnigalodebkaaDoorJ9
import Derived.Test.YtjgnigalodebkaaDoorL4
import Derived.Test.YtjgnigalodebkaaDoorD7
import Derived.Test.YtjgnigalodebkaaDoorD8
namespace Go.Proofs.YtjgnigalodebkaaDoor
open Go.RowKit
set_option linter.unusedVariables false

/-- A text is drawn. -/
def DrawnTxt (w : World) (e : Ending) (w' : World) : Prop := ∃ s : ByteArray, e = .returned (.string s) ∧ (s.size : Int) ≤ 2000 ∧ Below w.heap.size w w'
/-- A set is drawn. -/
def DrawnOne (w : World) (e : Ending) (w' : World) : Prop := ∃ a b : Int, e = .returned (.agg #[.int .i64 a, .int .i64 b]) ∧ (Cs.Fits a ∧ Cs.Fits b) ∧ Below w.heap.size w w'

def litTexts : List ByteArray := [⟨#[]⟩, ⟨#[97, 34, 98]⟩, ⟨#[105, 116, 39, 115]⟩, ⟨#[116, 97, 98, 9, 104, 101, 114, 101]⟩, ⟨#[108, 105, 110, 101, 10, 101, 110, 100]⟩, ⟨#[98, 97, 99, 107, 92, 115, 108, 97, 115, 104]⟩, ⟨#[0, 127]⟩, ⟨#[255]⟩, ⟨#[112, 108, 97, 105, 110]⟩]
theorem litTexts_small : ∀ s ∈ litTexts, s.size ≤ 10 := by decide

set_option maxHeartbeats 400000 in
theorem draw_lit (B cb : Nat) (w : World) (hp : IsCur B w cb) (hB : B ≤ w.heap.size) :
    Calls Tryd.prog 20 #[.pointer (some ⟨cb, 0, none⟩)] w (DrawnWord B cb w) := by
  have hcb := cur_lt hp
  have HP := Lib.hid (pick_text B cb w.heap.size 9 litTexts _ (cur_alloc hp hB _) (by decide) (by decide) (by omega) (new_cells Value.string litTexts ByteArray.empty w 9 _ rfl))
  clear hp
  go_enter Tryd.func20, Tryd.ntmps20
  go_wp2_with fail
  refine HP.out.mono ?_
  rintro e w2 ⟨s, hs, rfl, hc2, ho2⟩
  have HC2 := Lib.hid hc2
  have HO2 := Lib.hid ((only_alloc _).trans ho2)
  have hz : (s.size : Int) ≤ 1000 := by have := litTexts_small s hs; omega
  clear hs hc2 ho2
  go_wp2
  go_ret
  exact ⟨s, rfl, hz, HC2.out, HO2.out⟩

set_option maxHeartbeats 400000 in
theorem draw_qt (v : Value) (n : Nat) (w : World) (hc : Code w.heap.size w v n) (hn : (n : Int) ≤ 1048576) :
    Calls Tryd.prog 8 #[v] w (DrawnTxt w) := by
  have HC := Lib.hid (draw_new v n w hc hn)
  clear hc
  go_enter Tryd.func8, Tryd.ntmps8
  go_wp2_with fail
  refine HC.out.mono ?_
  rintro e w1 ⟨cb, rfl, hcb, hlt, hcur, hb1⟩
  have HS := Lib.hid (draw_lit w.heap.size cb w1 hcur hb1.size)
  have HB1 := Lib.hid hb1
  clear hcur hb1 HC
  go_wp2_with fail
  refine HS.out.mono ?_
  rintro e w2 ⟨s, rfl, hs, hc2, ho2⟩
  have HB2 := Lib.hid (HB1.out.trans (ho2.below hcb HB1.out.size))
  have HI := Lib.hid (draw_word w.heap.size cb w2 hc2 HB2.out.size)
  clear hc2 ho2 HS HB1
  go_wp2_with fail
  refine HI.out.mono ?_
  rintro e w3 ⟨t, rfl, ht, hc3, ho3⟩
  have HB3 := Lib.hid (HB2.out.trans (ho3.below hcb HB2.out.size))
  clear hc3 ho3 HI HB2
  go_wp2
  go_ret
  refine ⟨_, rfl, ?_, HB3.out⟩
  rw [ByteArray.size_append]; omega

set_option maxHeartbeats 400000 in
theorem draw_ct (v : Value) (n : Nat) (w : World) (hc : Code w.heap.size w v n) (hn : (n : Int) ≤ 1048576) :
    Calls Tryd.prog 22 #[v] w (DrawnOne w) := by
  obtain ⟨w0, hw0⟩ : ∃ w0, w0 = w.alloc (.cells #[.int .i64 0, .int .i64 0] 26) := ⟨_, rfl⟩
  have hsz : w0.heap.size = w.heap.size + 1 := by rw [hw0]; simp
  have hf : FreeSet w0 w.heap.size 0 0 := by rw [hw0]; exact FreeSet.new _ _ _ _
  have hb0 : Below w.heap.size w w0 := by rw [hw0]; exact bl1 _ _
  have HC := Lib.hid (draw_new v n w0 (code_later (code_below hc hb0) (by omega)) hn)
  have HF := Lib.hid hf
  have HB0 := Lib.hid hb0
  have HW0 := Lib.hid hw0
  rw [hw0] at HC
  clear hf hb0 hc hw0
  have HZ := Lib.hid hsz
  clear hsz
  go_enter Tryd.func22, Tryd.ntmps22
  go_wp2_with fail
  refine HC.out.mono ?_
  rw [← HW0.out]
  rintro e w1 ⟨cb, rfl, hcb, hlt, hcur, hb1⟩
  have HF1 := Lib.hid (HF.out.later hb1)
  have HB1 := Lib.hid (below_step HB0.out hb1)
  have HS := Lib.hid (draw_set w0.heap.size cb w1 hcur hb1.size)
  have hne1 : w.heap.size ≠ cb := by have := HZ.out; omega
  have hlc : w.heap.size ≤ cb := by have := HZ.out; omega
  clear hcur hb1
  go_wp2_with fail
  refine HS.out.mono ?_
  rintro e w2 ⟨a, b, rfl, hab, hc2, ho2⟩
  have HF2 := Lib.hid (HF1.out.only ho2 hne1)
  have HB2 := Lib.hid (HB1.out.trans (ho2.below hlc HB1.out.size))
  obtain ⟨⟨r0, r1⟩, r2, r3⟩ := HF2.out
  clear hc2 ho2 HS
  go_wp2
  exact bodyPost_ret (v := .agg #[.int .i64 a, .int .i64 b]) (by simp [results, Tryd.results22, go_sem, r0, r1]) rfl ⟨a, b, rfl, hab, below_store HB2.out (Nat.le_refl _) _ _⟩
set_option maxHeartbeats 400000 in
theorem draw_qc (v : Value) (n : Nat) (w : World) (hc : Code w.heap.size w v n) (hn : (n : Int) ≤ 1048576) :
    Calls Tryd.prog 9 #[v] w (DrawnOne w) := by
  have HF := Lib.hid (FreeSet.new w 0 0 26)
  have HC := Lib.hid (draw_ct v n (w.alloc (.cells #[.int .i64 0, .int .i64 0] 26)) (code_later (code_below hc (bl1 _ _)) (by simp)) hn)
  clear hc
  go_enter Tryd.func9, Tryd.ntmps9
  go_wp2_with fail
  refine HC.out.mono ?_
  rintro e w1 ⟨a, b, rfl, hab, hb1⟩
  have HB1 := Lib.hid (below_step (bl1 _ _) hb1)
  obtain ⟨⟨r0, r1⟩, r2, r3⟩ := HF.out.later hb1
  clear hb1
  go_wp2
  exact bodyPost_ret (v := .agg #[.int .i64 a, .int .i64 b]) (by simp [results, Tryd.results9, go_sem, r0, r1]) rfl ⟨a, b, rfl, hab, below_store HB1.out (Nat.le_refl _) _ _⟩

theorem txt_nat (l : List Nat) (h : ∀ x ∈ l, x < 128) : (txt l).data.toList.map UInt8.toNat = l := by
  show (l.map UInt8.ofNat).toArray.toList.map UInt8.toNat = l
  rw [List.map_map]
  conv => rhs; rw [← List.map_id l]
  exact List.map_congr_left fun x hx => by
    show (UInt8.ofNat x).toNat = x
    rw [UInt8.toNat_ofNat']; have := h x hx; omega
theorem txt_good (l : List Nat) (h : ∀ x ∈ l, x < 128) : Cs.good (txt l) = true := by
  unfold Cs.good
  rw [List.all_eq_true]
  intro c hc
  have h2 : c.toNat ∈ (txt l).data.toList.map UInt8.toNat := List.mem_map_of_mem hc
  rw [txt_nat l h] at h2
  simpa using h _ h2
/-- A set's literal denotes it. -/
theorem set_back {a b : Int} (f1 : Cs.Fits a) (f2 : Cs.Fits b) : ucL (qcS a b).data.toList = a ∧ ucH (qcS a b).data.toList = b ∧ ucB (qcS a b).data.toList = true := by
  have h1 : Lt.lit 39 (qcS a b).data.toList = some (txt (Cs.text a b)).data.toList := by
    unfold qcS
    rw [str8_list]
    exact Lt.lit_quo 39 (.inr rfl) _
  obtain ⟨h2, h3⟩ := Lt.lit_some h1
  have h4 : ∀ x ∈ Cs.text a b, x < 128 := Cs.text_below a b
  have h5 := txt_good _ h4
  obtain ⟨h6, h7⟩ := Cs.all_text f1 f2
  unfold ucL ucH ucB
  rw [if_pos h2, if_pos h2, if_pos h2, h3, str8_data]
  unfold Cs.newL Cs.newH
  rw [if_pos h5, if_pos h5, txt_nat _ h4]
  exact ⟨h6, h7, h5⟩
/-- A text's literal denotes it. -/
theorem text_back (s : ByteArray) : Lt.litB 34 (qtS s).data.toList = true ∧ str8 (Lt.litL 34 (qtS s).data.toList) = s := by
  have h1 : Lt.lit 34 (qtS s).data.toList = some s.data.toList := by
    unfold qtS
    rw [str8_list]
    exact Lt.lit_quo 34 (.inl rfl) _
  obtain ⟨h2, h3⟩ := Lt.lit_some h1
  exact ⟨h2, by rw [h3, str8_data]⟩
theorem quo_len (d : UInt8) (l : List UInt8) : (Lt.quo d l).length ≤ 4 * l.length + 2 := by
  have := Lt.els_len d l
  unfold Lt.quo
  simp only [List.length_cons, List.length_append, List.length_nil]; omega

set_option maxHeartbeats 800000 in
theorem FnLiterals_walk (a0 : Option Addr) (len0 cap0 : Nat) (z0 : List Int) (w : World) (w0 : IsRow .u8 w a0 len0 cap0 z0) (hS : Sent w) :
    Calls Tryd.prog 3 #[.slice a0 len0 cap0] w fun e w' => e = .returned (.bool true) ∧ Below w.heap.size w w' := by
  have HC := Lib.hid (code_of_in w0)
  have hl : (len0 : Int) ≤ 9223372036854775807 := by
    rcases w0 with ⟨_, rfl, _⟩ | ⟨x, _, h1, h2, _⟩
    · omega
    · unfold maxLen at h2; omega
  obtain ⟨p, hp⟩ := hS
  have HS := Lib.hid hp
  clear w0 hp
  by_cases hbig : (1048576 : Int) < len0
  · go_enter Tryd.func3, Tryd.ntmps3
    go_wp2
    go_ret
    exact ⟨rfl, Below.refl _ _⟩
  · have hs : (len0 : Int) ≤ 1048576 := by omega
    have HD := Lib.hid (draw_qt _ len0 w HC.out hs)
    go_enter Tryd.func3, Tryd.ntmps3
    go_wp2_with fail
    refine (big_no a0 len0 cap0 _ hs).mono ?_
    rintro e wz ⟨rfl, rfl⟩
    go_wp2_with fail
    refine HD.out.mono ?_
    rintro e w1 ⟨s, rfl, hz, hb1⟩
    have HB1 := Lib.hid hb1
    have HD2 := Lib.hid (draw_qc _ len0 w1 (code_later (code_below HC.out hb1) hb1.size) hs)
    clear hb1 HD
    go_wp2_with fail
    refine HD2.out.mono ?_
    rintro e w2 ⟨a, b, rfl, hab, hb2⟩
    have HB2 := Lib.hid ((below_step HB1.out hb2).alloc (below_step HB1.out hb2).size (.cells #[.int .i64 a, .int .i64 b] 26))
    have SA := Lib.hid (SetAt.new w2 a b 26)
    obtain ⟨q1, q2, q3⟩ := set_back hab.1 hab.2
    obtain ⟨t1, t2⟩ := text_back s
    have z1 : ((qtS s).size : Int) ≤ 1048576 := by
      have := quo_len 34 s.data.toList
      rw [len8] at this
      unfold qtS; rw [str8_size]; omega
    have z2 : ((qcS a b).size : Int) ≤ 1048576 := by
      have h := quo_len 39 (txt (Cs.text a b)).data.toList
      have h2 : (txt (Cs.text a b)).data.toList.length ≤ 128 := by rw [len8, txt_size]; exact Cs.textTo_len a b 128
      unfold qcS; rw [str8_size]; omega
    have H1 := Lib.hid (fun W => impl_qt s W (by omega))
    have H2 := Lib.hid (fun W h => impl_ut p (qtS s) W h z1)
    have H3 := Lib.hid (fun W => impl_qc a b W)
    have H4 := Lib.hid (fun W h => impl_uc p (qcS a b) W h z2)
    unfold RetT at H1 H3
    unfold RetLit at H2
    unfold RetNew at H4
    rw [t1, t2] at H2
    rw [q1, q2, q3] at H4
    generalize qtS s = u at H1 H2
    generalize qcS a b = v at H3 H4
    clear q1 q2 q3 t1 t2 z1 z2 hb2 HD2 HC hab hs hbig hl hz
    go_wp2_with fail
    refine (H1.out _).mono ?_
    rintro e w3 ⟨rfl, hb3⟩
    have HB3 := Lib.hid (below_step HB2.out hb3)
    have SA3 := Lib.hid (SA.out.later hb3)
    clear hb3
    go_wp2_with fail
    refine (H2.out _ (sentAt_below HS.out HB3.out)).mono ?_
    rintro e w4 ⟨rfl, hb4⟩
    have HB4 := Lib.hid (below_step HB3.out hb4)
    have SA4 := Lib.hid (SA3.out.later hb4)
    obtain ⟨c0, c1⟩ := SA4.out
    clear hb4
    go_wp2_with fail
    refine (H3.out _).mono ?_
    rintro e w5 ⟨rfl, hb5⟩
    have HB5 := Lib.hid (below_step HB4.out hb5)
    have SA5 := Lib.hid (SA4.out.later hb5)
    clear hb5 c0 c1
    go_wp2_with fail
    refine (H4.out _ (sentAt_below HS.out HB5.out)).mono ?_
    rintro e w6 ⟨rfl, hb6⟩
    have HB6 := Lib.hid ((below_step HB5.out hb6).alloc (below_step HB5.out hb6).size (.cells #[.int .i64 a, .int .i64 b] 26))
    obtain ⟨c0, c1⟩ := (SA5.out.later hb6).later (bl1 w6 (.cells #[.int .i64 a, .int .i64 b] 26))
    clear hb6
    go_wp2
    go_ret
    exact ⟨rfl, HB6.out⟩
end Go.Proofs.YtjgnigalodebkaaDoor
