/- The reference model's FormatCore. No conditions. -/
import Derived.Test.YtpncmahpcccmlaaDoorA2
import Derived.Test.YtpncmahpcccmlaaDoorA3
import Derived.Test.YtpncmahpcccmlaaDoorA7
import Derived.Test.YtpncmahpcccmlaaDoorH4
import Derived.Test.YtpncmahpcccmlaaDoorL3
import Derived.Test.YtpncmahpcccmlaaDoorW1
namespace Go.Proofs.YtpncmahpcccmlaaDoor.Cr
open Go.RowKit
set_option linter.unusedVariables false

theorem cat_run (a b : ByteArray) (h : a.size + b.size ≤ 9223372036854775807) : ∀ w : World, (Op.stringOp .add a b).run Tryd.prog w = .ok (.string (a ++ b)) w := fun w => run_string_add_sum w a b h
theorem spec_in_yes (x lo hi : Int) (h1 : lo ≤ x) (h2 : x ≤ hi) (w : World) : Calls Tryd.prog 49 #[.int .i64 x, .int .i64 lo, .int .i64 hi] w fun e w' => e = .returned (.bool true) ∧ w = w' := by
  go_enter Tryd.func49, Tryd.ntmps49
  go_wp2
  go_ret
  exact ⟨rfl, rfl⟩
theorem spec_in_no (x lo hi : Int) (h : x < lo ∨ hi < x) (w : World) : Calls Tryd.prog 49 #[.int .i64 x, .int .i64 lo, .int .i64 hi] w fun e w' => e = .returned (.bool false) ∧ w = w' := by
  by_cases h1 : lo ≤ x
  · have h2 : ¬ x ≤ hi := by omega
    clear h
    go_enter Tryd.func49, Tryd.ntmps49
    go_wp2
    go_ret
    exact ⟨rfl, rfl⟩
  · clear h
    go_enter Tryd.func49, Tryd.ntmps49
    go_wp2
    go_ret
    exact ⟨rfl, rfl⟩
theorem quote_text (s : ByteArray) (w : World) (hs : (s.size : Int) ≤ 1048576) : Calls Tryd.prog 62 #[.string s] w fun e w' => e = .returned (.string (str8 (Lt.quo 34 s.data.toList))) ∧ Below w.heap.size w w' := by
  have H : Hid (∀ W, Calls Tryd.prog 104 #[.string s, .int .u8 34] W fun e w' => e = .returned (.string (str8 (Lt.quo 34 s.data.toList))) ∧ Below W.heap.size W w') := Lib.hid (fun W => spec_quote 34 s W hs)
  go_enter Tryd.func62, Tryd.ntmps62
  go_wp2_with fail
  refine (H.out _).mono ?_
  rintro e w1 ⟨rfl, hb1⟩
  go_wp2
  go_ret
  exact ⟨rfl, hb1⟩
/-- The forms of the first kids, as strings. -/
def fS (ks : List Co.T) : List ByteArray := (Co.forms ks).map str8
theorem fS_next (ks : List Co.T) (k : Nat) (h : k < ks.length) : fS (ks.take k) ++ [str8 ks[k].form] = fS (ks.take (k + 1)) := by
  unfold fS
  rw [List.take_succ_eq_append_getElem h, Co.forms_map, Co.forms_map, List.map_append, List.map_append]; rfl
theorem fS_len (ks : List Co.T) : (fS ks).length = ks.length := by unfold fS; rw [List.length_map, Co.forms_map, List.length_map]
theorem fS_join (ks : List Co.T) (sep : List UInt8) : Lib.join ((fS ks).map fun s => s.data.toList) sep = Lib.join (Co.forms ks) sep := by
  unfold fS
  rw [List.map_map]
  congr 1
  conv => rhs; rw [← List.map_id (Co.forms ks)]
  exact List.map_congr_left fun l _ => rfl
/-- A variable's six cells. -/
def Cells6 (w : World) (b : Nat) (k p n l : Int) (s : ByteArray) (v : Value) : Prop := w.cell? ⟨b, 0, none⟩ = some (.int .i64 k) ∧ w.cell? ⟨b, 1, none⟩ = some (.int .i64 p) ∧ w.cell? ⟨b, 2, none⟩ = some (.int .i64 n) ∧ w.cell? ⟨b, 3, none⟩ = some (.int .i64 l) ∧ w.cell? ⟨b, 4, none⟩ = some (.string s) ∧ w.cell? ⟨b, 5, none⟩ = some v
theorem Cells6.later {w w' : World} {b : Nat} {k p n l : Int} {s : ByteArray} {v : Value} (h : Cells6 w b k p n l s v) (hb : Below w.heap.size w w') : Cells6 w' b k p n l s v :=
  ⟨subw_below hb _ _ _ h.1, subw_below hb _ _ _ h.2.1, subw_below hb _ _ _ h.2.2.1, subw_below hb _ _ _ h.2.2.2.1, subw_below hb _ _ _ h.2.2.2.2.1, subw_below hb _ _ _ h.2.2.2.2.2⟩
theorem Cells6.new (W : World) (k p n l : Int) (s : ByteArray) (v : Value) (T : TypeId) : Cells6 (W.alloc (.cells #[.int .i64 k, .int .i64 p, .int .i64 n, .int .i64 l, .string s, v] T)) W.heap.size k p n l s v := by
  refine ⟨?_, ?_, ?_, ?_, ?_, ?_⟩ <;> go_simp
theorem app_below {w w1 w2 : World} {B : Nat} {v1 : Value} {l : List ByteArray} {ob : Obj} (hb : Below w.heap.size w w1) (ho : Owns w1 B v1 l) (hB : w.heap.size ≤ B) (hg : (w1.alloc ob).grownBy w2 v1.ownBlock) : Below w.heap.size w w2 :=
  (hb.alloc hb.size ob).grown hg (by have := hb.size; simp; omega) (fun k hk => Nat.le_trans hB (ho.lt k hk).1)
theorem app_cells {w1 w2 : World} {B b : Nat} {v1 : Value} {ls : List ByteArray} {ob : Obj} {k p n l : Int} {s : ByteArray} {v : Value} (h : Cells6 w1 b k p n l s v) (ho : Owns w1 B v1 ls) (hB : b < B) (hg : (w1.alloc ob).grownBy w2 v1.ownBlock) : Cells6 w2 b k p n l s v := by
  have h1 := h.later (bl1 w1 ob)
  have hlt : b < (w1.alloc ob).heap.size := World.block_lt_of_cell? _ _ h1.1
  have hbk : w2.heap[b]? = (w1.alloc ob).heap[b]? := hg.block b hlt (fun e => by have := (ho.lt b e.symm).1; omega)
  obtain ⟨c0, c1, c2, c3, c4, c5⟩ := h1
  exact ⟨(cell_keep hbk _).trans c0, (cell_keep hbk _).trans c1, (cell_keep hbk _).trans c2, (cell_keep hbk _).trans c3, (cell_keep hbk _).trans c4, (cell_keep hbk _).trans c5⟩
theorem coN_out {k : Int} (hr : k < 1 ∨ 28 < k) : coN k = (⟨#[63]⟩ : ByteArray) := by
  rcases hr with h | h
  · rcases Int.lt_or_le k 0 with h2 | h2
    · exact coN_neg h2
    · obtain rfl : k = 0 := by omega
      rfl
  · exact coN_far (by omega)
def FmtT (x : Co.T) : Prop := ∀ (w : World) (v : Value), Kids w v x.kids → Calls Tryd.prog 24 #[exV x v] w (RetT w (str8 x.form))
theorem str8_app (a b : List UInt8) : str8 a ++ str8 b = str8 (a ++ b) := by apply ByteArray.ext; simp [str8]
theorem bytes_str8 (s : ByteArray) : s = str8 s.data.toList := by cases s; rfl
theorem lab_size {k p n : Int} {t : ByteArray} (h0 : -9223372036854775808 ≤ n) (h1 : n ≤ 9223372036854775807) (ht : (t.size : Int) ≤ 1048576) {x : ByteArray} (hx : x = str8 (Co.lab k p n t)) : x.size ≤ 4194344 := by
  have := Co.lab_len (k := k) (p := p) (t := t) h0 h1
  rw [hx, str8_size]; omega
/-- What stands behind the label. -/
theorem form_some {k p n : Int} {t : ByteArray} {ks : List Co.T} (h : ks ≠ []) {x : ByteArray} (hx : x = str8 (Co.lab k p n t)) : x ++ (⟨#[40]⟩ : ByteArray) ++ str8 (Lib.join (Co.forms ks) [44, 32]) ++ (⟨#[41]⟩ : ByteArray) = str8 (Co.lab k p n t ++ Co.inB (Co.forms ks)) := by
  have h2 : Co.forms ks ≠ [] := by
    intro e
    have := congrArg List.length e
    rw [Co.forms_map, List.length_map, List.length_nil] at this
    exact h (List.length_eq_zero_iff.1 this)
  unfold Co.inB
  rw [if_neg h2, hx]
  apply ByteArray.ext; simp [str8]
theorem form_none {k p n : Int} {t : ByteArray} {x : ByteArray} (hx : x = str8 (Co.lab k p n t)) : x = str8 (Co.lab k p n t ++ Co.inB (Co.forms [])) := by
  rw [hx]
  show _ = str8 (Co.lab k p n t ++ [])
  rw [List.append_nil]

set_option maxRecDepth 100000 in
set_option maxHeartbeats 3200000 in
theorem fmt_2 (p n l : Int) (s : ByteArray) (ks : List Co.T) (hI : ∀ x ∈ ks, FmtT x) (hj : (Lib.join (Co.forms ks) [44, 32]).length ≤ 100000000) (hks : ks.length ≤ 1048576) (zs : (s.size : Int) ≤ 1048576) (z0 : -9223372036854775808 ≤ n) (z1 : n ≤ 9223372036854775807) (w : World) (v : Value) (hk : Kids w v ks) :
    Calls Tryd.prog 24 #[.agg #[.int .i64 2, .int .i64 p, .int .i64 n, .int .i64 l, .string s, v]] w (RetT w (str8 (Co.lab 2 p n s ++ Co.inB (Co.forms ks)))) := by
  unfold RetT
  obtain ⟨x, hx⟩ : ∃ x, coL[2]? = some x := ⟨_, List.getElem?_eq_getElem (by rw [coL_len]; omega)⟩
  have hxs : x.size ≤ 11 := of_decide_eq_true (List.all_eq_true.1 (show (coL.all fun x => decide (x.size ≤ 11)) = true by rfl) x (List.mem_of_getElem? hx))
  have hcN : coN 2 = x := coN_at (k := 2) (by omega) hx
  have hlb : x ++ (⟨#[58]⟩ : ByteArray) ++ str8 (Lt.quo 34 s.data.toList) = str8 (Co.lab 2 p n s) := by
    unfold Co.lab
    rw [if_pos (by omega)]
    rw [hcN]
    apply ByteArray.ext; simp [str8]
  have hls := lab_size z0 z1 zs hlb
  have HLB := Lib.hid hlb
  have HC := Lib.hid (cell_list (w.alloc (.cells #[.int .i64 2, .int .i64 p, .int .i64 n, .int .i64 l, .string s, v] 57)) coL 9 2 x hx)
  rw [World.size_alloc] at HC
  have hE := Cells6.new w 2 p n l s v 57
  have HE0 := Lib.hid (hE.later (bl1 _ (.cells (coL.map Value.string).toArray 9)))
  have HB0 := Lib.hid (below_then (bl1 w (.cells #[.int .i64 2, .int .i64 p, .int .i64 n, .int .i64 l, .string s, v] 57)) (bl1 _ (.cells (coL.map Value.string).toArray 9)))
  have HR := Lib.hid (fun W => spec_in_yes 2 1 28 (by omega) (by omega) W)
  have HQ := Lib.hid (fun W => quote_text s W zs)
  have hqs : (str8 (Lt.quo 34 s.data.toList)).size ≤ 4194306 := by rw [str8_size]; have := Co.quo_len s; omega
  have HJ : Hid (∀ W v', StrsAt W v' (fS ks) → Calls Tryd.prog 64 #[v', .string ⟨#[44, 32]⟩] W fun e w' => e = .returned (.string (str8 (Lib.join (Co.forms ks) [44, 32]))) ∧ Below W.heap.size W w') := Lib.hid (fun W v' (hv : StrsAt W v' (fS ks)) => by
    have h := spec_joined v' (fS ks) ⟨#[44, 32]⟩ W hv (by rw [fS_join]; exact hj) (by rw [fS_len]; omega) (by decide)
    rw [fS_join] at h
    exact h)
  have hjs : (str8 (Lib.join (Co.forms ks) [44, 32])).size ≤ 100000000 := by rw [str8_size]; exact hj
  have HFS := Lib.hid (fun (h : ks ≠ []) => form_some h hlb)
  have HFN : Hid (ks = [] → x ++ (⟨#[58]⟩ : ByteArray) ++ str8 (Lt.quo 34 s.data.toList) = str8 (Co.lab 2 p n s ++ Co.inB (Co.forms ks))) := Lib.hid (fun (h : ks = []) => by rw [h]; exact form_none hlb)
  generalize str8 (Lt.quo 34 s.data.toList) = y at HLB HFS HFN HQ hqs hlb hls
  have c1 := cat_run x (⟨#[58]⟩ : ByteArray) (by have l0 : (⟨#[58]⟩ : ByteArray).size = 1 := rfl; omega)
  have c2 := cat_run (x ++ (⟨#[58]⟩ : ByteArray)) y (by simp only [ByteArray.size_append]; have l0 : (⟨#[58]⟩ : ByteArray).size = 1 := rfl; omega)
  obtain ⟨z, hz⟩ : ∃ z, x ++ (⟨#[58]⟩ : ByteArray) ++ y = z := ⟨_, rfl⟩
  rw [hz] at c2 HFS HFN hls
  clear hz hlb HLB
  clear hcN hx
  obtain ⟨t, ht⟩ : ∃ t, str8 (Co.lab 2 p n s ++ Co.inB (Co.forms ks)) = t := ⟨_, rfl⟩
  rw [ht] at HFS HFN ⊢
  generalize str8 (Lib.join (Co.forms ks) [44, 32]) = j at HJ HFS hjs
  have d1 := cat_run (z) (⟨#[40]⟩ : ByteArray) (by have l0 : (⟨#[40]⟩ : ByteArray).size = 1 := rfl; omega)
  have d2 := cat_run (z ++ (⟨#[40]⟩ : ByteArray)) j (by simp only [ByteArray.size_append]; have l0 : (⟨#[40]⟩ : ByteArray).size = 1 := rfl; omega)
  have d3 := cat_run (z ++ (⟨#[40]⟩ : ByteArray) ++ j) (⟨#[41]⟩ : ByteArray) (by simp only [ByteArray.size_append]; have l0 : (⟨#[40]⟩ : ByteArray).size = 1 := rfl; have l1 : (⟨#[41]⟩ : ByteArray).size = 1 := rfl; omega)
  clear ht hj hE
  obtain ⟨a, c, rfl⟩ := kids_len hk
  obtain ⟨i0, hi, hz0, hz1, hz2⟩ := info_parts info_string
  have HK := Lib.hid hk
  have HI := Lib.hid hI
  unfold FmtT RetT at HI
  have HKS := Lib.hid hks
  clear hk hI zs z0 z1 hls hjs hqs hxs
  go_enter Tryd.func24, Tryd.ntmps24
  go_wp2_with fail
  refine (HR.out _).mono ?_
  rintro e w1 ⟨rfl, hw⟩
  have hw' : (w.alloc (.cells #[.int .i64 2, .int .i64 p, .int .i64 n, .int .i64 l, .string s, .slice a ks.length c] 57)).alloc (.cells (coL.map Value.string).toArray 9) = w1 := hw
  clear hw
  rw [hw'] at HE0 HB0 HC
  clear hw'
  have hc := HC.out
  obtain ⟨e0, e1, e2, e3, e4, e5⟩ := HE0.out
  go_wp2_with fail
  refine (HQ.out _).mono ?_
  rintro e w3 ⟨rfl, b3⟩
  have HB1 := Lib.hid (below_then HB0.out b3)
  have HE1 := Lib.hid (HE0.out.later b3)
  clear b3 e0 e1 e2 e3 e4 e5 HB0 HE0 hc HC
  obtain ⟨e0, e1, e2, e3, e4, e5⟩ := HE1.out
  skip
  by_cases h0 : ks = []
  · have HN := Lib.hid (HFN.out h0)
    have hl0 : ks.length = 0 := by rw [h0]; rfl
    rw [hl0] at e5
    clear HFN HFS h0
    go_wp2
    go_ret
    exact ⟨ret_st2 HN.out, HB1.out⟩
  · have HN := Lib.hid (HFS.out h0)
    have hp : decide (0 < ks.length) = true := decide_eq_true (List.length_pos_iff.2 h0)
    have hsz1 : w.heap.size + 1 ≤ w3.heap.size := World.block_lt_of_cell? _ _ HE1.out.1
    clear HFN HFS h0
    go_wp2
    go_loopw [5, 6] (fun v i wr => ∃ q : Nat, i = .int .i64 q ∧ q ≤ ks.length ∧ Owns wr (w.heap.size + 1) v (fS (ks.take q)) ∧ Cells6 wr w.heap.size 2 p n l s (.slice a ks.length c) ∧ Below w.heap.size w wr) (fun _ i _ => ks.length - (intOf i).toNat)
    case atStart => exact ⟨0, rfl, Nat.zero_le _, World.ownsRow_made w3 #[] 0 hsz1 (by unfold maxLen; omega) rfl, HE1.out.later (bl1 _ _), below_then HB1.out (bl1 _ _)⟩
    case round =>
      clear e0 e1 e2 e3 e4 e5 HB1 HE1 hsz1
      obtain ⟨k', rfl, hk, ho, hce, hb⟩ := hrel
      have HO := Lib.hid ho
      have HB := Lib.hid hb
      have HE := Lib.hid hce
      have HK2 := Lib.hid (HK.out.later hb)
      obtain ⟨e0, e1, e2, e3, e4, e5⟩ := hce
      clear ho hb e0 e1 e2 e3 e4
      by_cases hlt : k' < ks.length
      · obtain ⟨g, o, rfl, ht⟩ := kids_at HK2.out k' hlt
        obtain ⟨⟨q0, q1, q2, q3, q4⟩, vx, q5, hkv⟩ := tree_cells ht
        have HC := Lib.hid (HI.out ks[k'] (List.getElem_mem hlt) wr vx hkv)
        have HN2 := Lib.hid (fS_next ks k' hlt)
        have hln : (fS (ks.take k')).length = k' := by rw [fS_len, List.length_take]; omega
        have HLN := Lib.hid hln
        have k0 : (0 : Int) ≤ k' := by omega
        have k1 : (k' : Int) < ks.length := by omega
        clear ht hkv
        generalize ks[k'] = x' at q0 q1 q2 q3 q4 q5 HC HN2
        generalize str8 x'.form = y' at HC HN2
        clear hln
        go_wp2_with fail
        refine HC.out.mono ?_
        rintro e w4 ⟨rfl, b1⟩
        have HB1 := Lib.hid (below_then HB.out b1)
        have HE1 := Lib.hid (HE.out.later b1)
        have HO1 := Lib.hid (owns_below HO.out b1)
        have hs1 : w.heap.size + 1 ≤ w4.heap.size := World.block_lt_of_cell? _ _ HE1.out.1
        clear b1 q0 q1 q2 q3 q4 q5 e5
        go_wp2_with (at_builtin; refine wpList_append_own _ rfl _ _ 25 rfl (w.heap.size + 1) 9 i0 (.string ByteArray.empty) 1 16 Tryd.underlying25 hi hz0 hz1 hz2 rfl (by decide) _ _ _ rfl (HO1.out.alloc _) ⟨w4.heap.size, 0, none⟩ 1 1 [.string y'] rfl rfl ?c1 ?c2 ?c3 ?c4 ?c5 ?_)
        case c1 => exact new_cell _ _ _
        case c2 => exact one_string _
        case c3 => have := HLN.out; have := HKS.out; exact max_small (by omega)
        case c4 => have := HLN.out; have := HKS.out; omega
        case c5 => simp; omega
        intro v' w5 hown' hgrow _
        have ho := owns_app hown'
        rw [HN2.out] at ho
        have HO2 := Lib.hid ho
        have HB2 := Lib.hid (app_below HB1.out HO1.out (Nat.le_succ _) hgrow)
        have HE2 := Lib.hid (app_cells HE1.out HO1.out (Nat.lt_succ_self _) hgrow)
        clear hown' hgrow ho
        go_wp2
        go_roundw
        case rel => exact ⟨k' + 1, by go_num, by omega, HO2.out, HE2.out, HB2.out⟩
        case measure => first | (simp [intOf]; done) | (simp [intOf]; omega)
      · obtain rfl : k' = ks.length := by omega
        have HA : Hid (StrsAt wr _ (fS ks)) := Lib.hid (by have h := strsAt_owns HO.out; rw [List.take_length] at h; exact h)
        have HJ1 := Lib.hid (HJ.out _ _ HA.out)
        clear HJ HA HO
        go_wp2_with fail
        refine HJ1.out.mono ?_
        rintro e w6 ⟨rfl, b1⟩
        have HB1 := Lib.hid (below_then HB.out b1)
        clear b1
        go_wp2
        go_ret
        exact ⟨ret_st2 HN.out, HB1.out⟩
set_option maxRecDepth 100000 in
set_option maxHeartbeats 3200000 in
theorem fmt_3 (p n l : Int) (s : ByteArray) (ks : List Co.T) (hI : ∀ x ∈ ks, FmtT x) (hj : (Lib.join (Co.forms ks) [44, 32]).length ≤ 100000000) (hks : ks.length ≤ 1048576) (zs : (s.size : Int) ≤ 1048576) (z0 : -9223372036854775808 ≤ n) (z1 : n ≤ 9223372036854775807) (w : World) (v : Value) (hk : Kids w v ks) :
    Calls Tryd.prog 24 #[.agg #[.int .i64 3, .int .i64 p, .int .i64 n, .int .i64 l, .string s, v]] w (RetT w (str8 (Co.lab 3 p n s ++ Co.inB (Co.forms ks)))) := by
  unfold RetT
  obtain ⟨x, hx⟩ : ∃ x, coL[3]? = some x := ⟨_, List.getElem?_eq_getElem (by rw [coL_len]; omega)⟩
  have hxs : x.size ≤ 11 := of_decide_eq_true (List.all_eq_true.1 (show (coL.all fun x => decide (x.size ≤ 11)) = true by rfl) x (List.mem_of_getElem? hx))
  have hcN : coN 3 = x := coN_at (k := 3) (by omega) hx
  have hlb : x ++ (⟨#[58]⟩ : ByteArray) ++ str8 (Lt.quo 34 s.data.toList) = str8 (Co.lab 3 p n s) := by
    unfold Co.lab
    rw [if_pos (by omega)]
    rw [hcN]
    apply ByteArray.ext; simp [str8]
  have hls := lab_size z0 z1 zs hlb
  have HLB := Lib.hid hlb
  have HC := Lib.hid (cell_list (w.alloc (.cells #[.int .i64 3, .int .i64 p, .int .i64 n, .int .i64 l, .string s, v] 57)) coL 9 3 x hx)
  rw [World.size_alloc] at HC
  have hE := Cells6.new w 3 p n l s v 57
  have HE0 := Lib.hid (hE.later (bl1 _ (.cells (coL.map Value.string).toArray 9)))
  have HB0 := Lib.hid (below_then (bl1 w (.cells #[.int .i64 3, .int .i64 p, .int .i64 n, .int .i64 l, .string s, v] 57)) (bl1 _ (.cells (coL.map Value.string).toArray 9)))
  have HR := Lib.hid (fun W => spec_in_yes 3 1 28 (by omega) (by omega) W)
  have HQ := Lib.hid (fun W => quote_text s W zs)
  have hqs : (str8 (Lt.quo 34 s.data.toList)).size ≤ 4194306 := by rw [str8_size]; have := Co.quo_len s; omega
  have HJ : Hid (∀ W v', StrsAt W v' (fS ks) → Calls Tryd.prog 64 #[v', .string ⟨#[44, 32]⟩] W fun e w' => e = .returned (.string (str8 (Lib.join (Co.forms ks) [44, 32]))) ∧ Below W.heap.size W w') := Lib.hid (fun W v' (hv : StrsAt W v' (fS ks)) => by
    have h := spec_joined v' (fS ks) ⟨#[44, 32]⟩ W hv (by rw [fS_join]; exact hj) (by rw [fS_len]; omega) (by decide)
    rw [fS_join] at h
    exact h)
  have hjs : (str8 (Lib.join (Co.forms ks) [44, 32])).size ≤ 100000000 := by rw [str8_size]; exact hj
  have HFS := Lib.hid (fun (h : ks ≠ []) => form_some h hlb)
  have HFN : Hid (ks = [] → x ++ (⟨#[58]⟩ : ByteArray) ++ str8 (Lt.quo 34 s.data.toList) = str8 (Co.lab 3 p n s ++ Co.inB (Co.forms ks))) := Lib.hid (fun (h : ks = []) => by rw [h]; exact form_none hlb)
  generalize str8 (Lt.quo 34 s.data.toList) = y at HLB HFS HFN HQ hqs hlb hls
  have c1 := cat_run x (⟨#[58]⟩ : ByteArray) (by have l0 : (⟨#[58]⟩ : ByteArray).size = 1 := rfl; omega)
  have c2 := cat_run (x ++ (⟨#[58]⟩ : ByteArray)) y (by simp only [ByteArray.size_append]; have l0 : (⟨#[58]⟩ : ByteArray).size = 1 := rfl; omega)
  obtain ⟨z, hz⟩ : ∃ z, x ++ (⟨#[58]⟩ : ByteArray) ++ y = z := ⟨_, rfl⟩
  rw [hz] at c2 HFS HFN hls
  clear hz hlb HLB
  clear hcN hx
  obtain ⟨t, ht⟩ : ∃ t, str8 (Co.lab 3 p n s ++ Co.inB (Co.forms ks)) = t := ⟨_, rfl⟩
  rw [ht] at HFS HFN ⊢
  generalize str8 (Lib.join (Co.forms ks) [44, 32]) = j at HJ HFS hjs
  have d1 := cat_run (z) (⟨#[40]⟩ : ByteArray) (by have l0 : (⟨#[40]⟩ : ByteArray).size = 1 := rfl; omega)
  have d2 := cat_run (z ++ (⟨#[40]⟩ : ByteArray)) j (by simp only [ByteArray.size_append]; have l0 : (⟨#[40]⟩ : ByteArray).size = 1 := rfl; omega)
  have d3 := cat_run (z ++ (⟨#[40]⟩ : ByteArray) ++ j) (⟨#[41]⟩ : ByteArray) (by simp only [ByteArray.size_append]; have l0 : (⟨#[40]⟩ : ByteArray).size = 1 := rfl; have l1 : (⟨#[41]⟩ : ByteArray).size = 1 := rfl; omega)
  clear ht hj hE
  obtain ⟨a, c, rfl⟩ := kids_len hk
  obtain ⟨i0, hi, hz0, hz1, hz2⟩ := info_parts info_string
  have HK := Lib.hid hk
  have HI := Lib.hid hI
  unfold FmtT RetT at HI
  have HKS := Lib.hid hks
  clear hk hI zs z0 z1 hls hjs hqs hxs
  go_enter Tryd.func24, Tryd.ntmps24
  go_wp2_with fail
  refine (HR.out _).mono ?_
  rintro e w1 ⟨rfl, hw⟩
  have hw' : (w.alloc (.cells #[.int .i64 3, .int .i64 p, .int .i64 n, .int .i64 l, .string s, .slice a ks.length c] 57)).alloc (.cells (coL.map Value.string).toArray 9) = w1 := hw
  clear hw
  rw [hw'] at HE0 HB0 HC
  clear hw'
  have hc := HC.out
  obtain ⟨e0, e1, e2, e3, e4, e5⟩ := HE0.out
  go_wp2_with fail
  refine (HQ.out _).mono ?_
  rintro e w3 ⟨rfl, b3⟩
  have HB1 := Lib.hid (below_then HB0.out b3)
  have HE1 := Lib.hid (HE0.out.later b3)
  clear b3 e0 e1 e2 e3 e4 e5 HB0 HE0 hc HC
  obtain ⟨e0, e1, e2, e3, e4, e5⟩ := HE1.out
  skip
  by_cases h0 : ks = []
  · have HN := Lib.hid (HFN.out h0)
    have hl0 : ks.length = 0 := by rw [h0]; rfl
    rw [hl0] at e5
    clear HFN HFS h0
    go_wp2
    go_ret
    exact ⟨ret_st2 HN.out, HB1.out⟩
  · have HN := Lib.hid (HFS.out h0)
    have hp : decide (0 < ks.length) = true := decide_eq_true (List.length_pos_iff.2 h0)
    have hsz1 : w.heap.size + 1 ≤ w3.heap.size := World.block_lt_of_cell? _ _ HE1.out.1
    clear HFN HFS h0
    go_wp2
    go_loopw [5, 6] (fun v i wr => ∃ q : Nat, i = .int .i64 q ∧ q ≤ ks.length ∧ Owns wr (w.heap.size + 1) v (fS (ks.take q)) ∧ Cells6 wr w.heap.size 3 p n l s (.slice a ks.length c) ∧ Below w.heap.size w wr) (fun _ i _ => ks.length - (intOf i).toNat)
    case atStart => exact ⟨0, rfl, Nat.zero_le _, World.ownsRow_made w3 #[] 0 hsz1 (by unfold maxLen; omega) rfl, HE1.out.later (bl1 _ _), below_then HB1.out (bl1 _ _)⟩
    case round =>
      clear e0 e1 e2 e3 e4 e5 HB1 HE1 hsz1
      obtain ⟨k', rfl, hk, ho, hce, hb⟩ := hrel
      have HO := Lib.hid ho
      have HB := Lib.hid hb
      have HE := Lib.hid hce
      have HK2 := Lib.hid (HK.out.later hb)
      obtain ⟨e0, e1, e2, e3, e4, e5⟩ := hce
      clear ho hb e0 e1 e2 e3 e4
      by_cases hlt : k' < ks.length
      · obtain ⟨g, o, rfl, ht⟩ := kids_at HK2.out k' hlt
        obtain ⟨⟨q0, q1, q2, q3, q4⟩, vx, q5, hkv⟩ := tree_cells ht
        have HC := Lib.hid (HI.out ks[k'] (List.getElem_mem hlt) wr vx hkv)
        have HN2 := Lib.hid (fS_next ks k' hlt)
        have hln : (fS (ks.take k')).length = k' := by rw [fS_len, List.length_take]; omega
        have HLN := Lib.hid hln
        have k0 : (0 : Int) ≤ k' := by omega
        have k1 : (k' : Int) < ks.length := by omega
        clear ht hkv
        generalize ks[k'] = x' at q0 q1 q2 q3 q4 q5 HC HN2
        generalize str8 x'.form = y' at HC HN2
        clear hln
        go_wp2_with fail
        refine HC.out.mono ?_
        rintro e w4 ⟨rfl, b1⟩
        have HB1 := Lib.hid (below_then HB.out b1)
        have HE1 := Lib.hid (HE.out.later b1)
        have HO1 := Lib.hid (owns_below HO.out b1)
        have hs1 : w.heap.size + 1 ≤ w4.heap.size := World.block_lt_of_cell? _ _ HE1.out.1
        clear b1 q0 q1 q2 q3 q4 q5 e5
        go_wp2_with (at_builtin; refine wpList_append_own _ rfl _ _ 25 rfl (w.heap.size + 1) 9 i0 (.string ByteArray.empty) 1 16 Tryd.underlying25 hi hz0 hz1 hz2 rfl (by decide) _ _ _ rfl (HO1.out.alloc _) ⟨w4.heap.size, 0, none⟩ 1 1 [.string y'] rfl rfl ?c1 ?c2 ?c3 ?c4 ?c5 ?_)
        case c1 => exact new_cell _ _ _
        case c2 => exact one_string _
        case c3 => have := HLN.out; have := HKS.out; exact max_small (by omega)
        case c4 => have := HLN.out; have := HKS.out; omega
        case c5 => simp; omega
        intro v' w5 hown' hgrow _
        have ho := owns_app hown'
        rw [HN2.out] at ho
        have HO2 := Lib.hid ho
        have HB2 := Lib.hid (app_below HB1.out HO1.out (Nat.le_succ _) hgrow)
        have HE2 := Lib.hid (app_cells HE1.out HO1.out (Nat.lt_succ_self _) hgrow)
        clear hown' hgrow ho
        go_wp2
        go_roundw
        case rel => exact ⟨k' + 1, by go_num, by omega, HO2.out, HE2.out, HB2.out⟩
        case measure => first | (simp [intOf]; done) | (simp [intOf]; omega)
      · obtain rfl : k' = ks.length := by omega
        have HA : Hid (StrsAt wr _ (fS ks)) := Lib.hid (by have h := strsAt_owns HO.out; rw [List.take_length] at h; exact h)
        have HJ1 := Lib.hid (HJ.out _ _ HA.out)
        clear HJ HA HO
        go_wp2_with fail
        refine HJ1.out.mono ?_
        rintro e w6 ⟨rfl, b1⟩
        have HB1 := Lib.hid (below_then HB.out b1)
        clear b1
        go_wp2
        go_ret
        exact ⟨ret_st2 HN.out, HB1.out⟩
set_option maxRecDepth 100000 in
set_option maxHeartbeats 3200000 in
theorem fmt_11 (p n l : Int) (s : ByteArray) (ks : List Co.T) (hI : ∀ x ∈ ks, FmtT x) (hj : (Lib.join (Co.forms ks) [44, 32]).length ≤ 100000000) (hks : ks.length ≤ 1048576) (zs : (s.size : Int) ≤ 1048576) (z0 : -9223372036854775808 ≤ n) (z1 : n ≤ 9223372036854775807) (w : World) (v : Value) (hk : Kids w v ks) :
    Calls Tryd.prog 24 #[.agg #[.int .i64 11, .int .i64 p, .int .i64 n, .int .i64 l, .string s, v]] w (RetT w (str8 (Co.lab 11 p n s ++ Co.inB (Co.forms ks)))) := by
  unfold RetT
  obtain ⟨x, hx⟩ : ∃ x, coL[11]? = some x := ⟨_, List.getElem?_eq_getElem (by rw [coL_len]; omega)⟩
  have hxs : x.size ≤ 11 := of_decide_eq_true (List.all_eq_true.1 (show (coL.all fun x => decide (x.size ≤ 11)) = true by rfl) x (List.mem_of_getElem? hx))
  have hcN : coN 11 = x := coN_at (k := 11) (by omega) hx
  have hlb : x ++ (⟨#[58]⟩ : ByteArray) ++ opT p = str8 (Co.lab 11 p n s) := by
    unfold Co.lab
    rw [if_neg (by omega), if_pos (by omega)]
    rw [hcN]
    apply ByteArray.ext; simp [str8]
  have hls := lab_size z0 z1 zs hlb
  have HLB := Lib.hid hlb
  have HC := Lib.hid (cell_list (w.alloc (.cells #[.int .i64 11, .int .i64 p, .int .i64 n, .int .i64 l, .string s, v] 57)) coL 9 11 x hx)
  rw [World.size_alloc] at HC
  have hE := Cells6.new w 11 p n l s v 57
  have HE0 := Lib.hid (hE.later (bl1 _ (.cells (coL.map Value.string).toArray 9)))
  have HB0 := Lib.hid (below_then (bl1 w (.cells #[.int .i64 11, .int .i64 p, .int .i64 n, .int .i64 l, .string s, v] 57)) (bl1 _ (.cells (coL.map Value.string).toArray 9)))
  have HR := Lib.hid (fun W => spec_in_yes 11 1 28 (by omega) (by omega) W)
  have HQ := Lib.hid (fun W => spec_opText p W)
  have hqs := Co.opT_len p
  have HJ : Hid (∀ W v', StrsAt W v' (fS ks) → Calls Tryd.prog 64 #[v', .string ⟨#[44, 32]⟩] W fun e w' => e = .returned (.string (str8 (Lib.join (Co.forms ks) [44, 32]))) ∧ Below W.heap.size W w') := Lib.hid (fun W v' (hv : StrsAt W v' (fS ks)) => by
    have h := spec_joined v' (fS ks) ⟨#[44, 32]⟩ W hv (by rw [fS_join]; exact hj) (by rw [fS_len]; omega) (by decide)
    rw [fS_join] at h
    exact h)
  have hjs : (str8 (Lib.join (Co.forms ks) [44, 32])).size ≤ 100000000 := by rw [str8_size]; exact hj
  have HFS := Lib.hid (fun (h : ks ≠ []) => form_some h hlb)
  have HFN : Hid (ks = [] → x ++ (⟨#[58]⟩ : ByteArray) ++ opT p = str8 (Co.lab 11 p n s ++ Co.inB (Co.forms ks))) := Lib.hid (fun (h : ks = []) => by rw [h]; exact form_none hlb)
  generalize opT p = y at HLB HFS HFN HQ hqs hlb hls
  have c1 := cat_run x (⟨#[58]⟩ : ByteArray) (by have l0 : (⟨#[58]⟩ : ByteArray).size = 1 := rfl; omega)
  have c2 := cat_run (x ++ (⟨#[58]⟩ : ByteArray)) y (by simp only [ByteArray.size_append]; have l0 : (⟨#[58]⟩ : ByteArray).size = 1 := rfl; omega)
  obtain ⟨z, hz⟩ : ∃ z, x ++ (⟨#[58]⟩ : ByteArray) ++ y = z := ⟨_, rfl⟩
  rw [hz] at c2 HFS HFN hls
  clear hz hlb HLB
  clear hcN hx
  obtain ⟨t, ht⟩ : ∃ t, str8 (Co.lab 11 p n s ++ Co.inB (Co.forms ks)) = t := ⟨_, rfl⟩
  rw [ht] at HFS HFN ⊢
  generalize str8 (Lib.join (Co.forms ks) [44, 32]) = j at HJ HFS hjs
  have d1 := cat_run (z) (⟨#[40]⟩ : ByteArray) (by have l0 : (⟨#[40]⟩ : ByteArray).size = 1 := rfl; omega)
  have d2 := cat_run (z ++ (⟨#[40]⟩ : ByteArray)) j (by simp only [ByteArray.size_append]; have l0 : (⟨#[40]⟩ : ByteArray).size = 1 := rfl; omega)
  have d3 := cat_run (z ++ (⟨#[40]⟩ : ByteArray) ++ j) (⟨#[41]⟩ : ByteArray) (by simp only [ByteArray.size_append]; have l0 : (⟨#[40]⟩ : ByteArray).size = 1 := rfl; have l1 : (⟨#[41]⟩ : ByteArray).size = 1 := rfl; omega)
  clear ht hj hE
  obtain ⟨a, c, rfl⟩ := kids_len hk
  obtain ⟨i0, hi, hz0, hz1, hz2⟩ := info_parts info_string
  have HK := Lib.hid hk
  have HI := Lib.hid hI
  unfold FmtT RetT at HI
  have HKS := Lib.hid hks
  clear hk hI zs z0 z1 hls hjs hqs hxs
  go_enter Tryd.func24, Tryd.ntmps24
  go_wp2_with fail
  refine (HR.out _).mono ?_
  rintro e w1 ⟨rfl, hw⟩
  have hw' : (w.alloc (.cells #[.int .i64 11, .int .i64 p, .int .i64 n, .int .i64 l, .string s, .slice a ks.length c] 57)).alloc (.cells (coL.map Value.string).toArray 9) = w1 := hw
  clear hw
  rw [hw'] at HE0 HB0 HC
  clear hw'
  have hc := HC.out
  obtain ⟨e0, e1, e2, e3, e4, e5⟩ := HE0.out
  go_wp2_with fail
  refine (HQ.out _).mono ?_
  rintro e w3 ⟨rfl, b3⟩
  have HB1 := Lib.hid (below_then HB0.out b3)
  have HE1 := Lib.hid (HE0.out.later b3)
  clear b3 e0 e1 e2 e3 e4 e5 HB0 HE0 hc HC
  obtain ⟨e0, e1, e2, e3, e4, e5⟩ := HE1.out
  skip
  by_cases h0 : ks = []
  · have HN := Lib.hid (HFN.out h0)
    have hl0 : ks.length = 0 := by rw [h0]; rfl
    rw [hl0] at e5
    clear HFN HFS h0
    go_wp2
    go_ret
    exact ⟨ret_st2 HN.out, HB1.out⟩
  · have HN := Lib.hid (HFS.out h0)
    have hp : decide (0 < ks.length) = true := decide_eq_true (List.length_pos_iff.2 h0)
    have hsz1 : w.heap.size + 1 ≤ w3.heap.size := World.block_lt_of_cell? _ _ HE1.out.1
    clear HFN HFS h0
    go_wp2
    go_loopw [5, 6] (fun v i wr => ∃ q : Nat, i = .int .i64 q ∧ q ≤ ks.length ∧ Owns wr (w.heap.size + 1) v (fS (ks.take q)) ∧ Cells6 wr w.heap.size 11 p n l s (.slice a ks.length c) ∧ Below w.heap.size w wr) (fun _ i _ => ks.length - (intOf i).toNat)
    case atStart => exact ⟨0, rfl, Nat.zero_le _, World.ownsRow_made w3 #[] 0 hsz1 (by unfold maxLen; omega) rfl, HE1.out.later (bl1 _ _), below_then HB1.out (bl1 _ _)⟩
    case round =>
      clear e0 e1 e2 e3 e4 e5 HB1 HE1 hsz1
      obtain ⟨k', rfl, hk, ho, hce, hb⟩ := hrel
      have HO := Lib.hid ho
      have HB := Lib.hid hb
      have HE := Lib.hid hce
      have HK2 := Lib.hid (HK.out.later hb)
      obtain ⟨e0, e1, e2, e3, e4, e5⟩ := hce
      clear ho hb e0 e1 e2 e3 e4
      by_cases hlt : k' < ks.length
      · obtain ⟨g, o, rfl, ht⟩ := kids_at HK2.out k' hlt
        obtain ⟨⟨q0, q1, q2, q3, q4⟩, vx, q5, hkv⟩ := tree_cells ht
        have HC := Lib.hid (HI.out ks[k'] (List.getElem_mem hlt) wr vx hkv)
        have HN2 := Lib.hid (fS_next ks k' hlt)
        have hln : (fS (ks.take k')).length = k' := by rw [fS_len, List.length_take]; omega
        have HLN := Lib.hid hln
        have k0 : (0 : Int) ≤ k' := by omega
        have k1 : (k' : Int) < ks.length := by omega
        clear ht hkv
        generalize ks[k'] = x' at q0 q1 q2 q3 q4 q5 HC HN2
        generalize str8 x'.form = y' at HC HN2
        clear hln
        go_wp2_with fail
        refine HC.out.mono ?_
        rintro e w4 ⟨rfl, b1⟩
        have HB1 := Lib.hid (below_then HB.out b1)
        have HE1 := Lib.hid (HE.out.later b1)
        have HO1 := Lib.hid (owns_below HO.out b1)
        have hs1 : w.heap.size + 1 ≤ w4.heap.size := World.block_lt_of_cell? _ _ HE1.out.1
        clear b1 q0 q1 q2 q3 q4 q5 e5
        go_wp2_with (at_builtin; refine wpList_append_own _ rfl _ _ 25 rfl (w.heap.size + 1) 9 i0 (.string ByteArray.empty) 1 16 Tryd.underlying25 hi hz0 hz1 hz2 rfl (by decide) _ _ _ rfl (HO1.out.alloc _) ⟨w4.heap.size, 0, none⟩ 1 1 [.string y'] rfl rfl ?c1 ?c2 ?c3 ?c4 ?c5 ?_)
        case c1 => exact new_cell _ _ _
        case c2 => exact one_string _
        case c3 => have := HLN.out; have := HKS.out; exact max_small (by omega)
        case c4 => have := HLN.out; have := HKS.out; omega
        case c5 => simp; omega
        intro v' w5 hown' hgrow _
        have ho := owns_app hown'
        rw [HN2.out] at ho
        have HO2 := Lib.hid ho
        have HB2 := Lib.hid (app_below HB1.out HO1.out (Nat.le_succ _) hgrow)
        have HE2 := Lib.hid (app_cells HE1.out HO1.out (Nat.lt_succ_self _) hgrow)
        clear hown' hgrow ho
        go_wp2
        go_roundw
        case rel => exact ⟨k' + 1, by go_num, by omega, HO2.out, HE2.out, HB2.out⟩
        case measure => first | (simp [intOf]; done) | (simp [intOf]; omega)
      · obtain rfl : k' = ks.length := by omega
        have HA : Hid (StrsAt wr _ (fS ks)) := Lib.hid (by have h := strsAt_owns HO.out; rw [List.take_length] at h; exact h)
        have HJ1 := Lib.hid (HJ.out _ _ HA.out)
        clear HJ HA HO
        go_wp2_with fail
        refine HJ1.out.mono ?_
        rintro e w6 ⟨rfl, b1⟩
        have HB1 := Lib.hid (below_then HB.out b1)
        clear b1
        go_wp2
        go_ret
        exact ⟨ret_st2 HN.out, HB1.out⟩
set_option maxRecDepth 100000 in
set_option maxHeartbeats 3200000 in
theorem fmt_1 (p n l : Int) (s : ByteArray) (ks : List Co.T) (hI : ∀ x ∈ ks, FmtT x) (hj : (Lib.join (Co.forms ks) [44, 32]).length ≤ 100000000) (hks : ks.length ≤ 1048576) (zs : (s.size : Int) ≤ 1048576) (z0 : -9223372036854775808 ≤ n) (z1 : n ≤ 9223372036854775807) (w : World) (v : Value) (hk : Kids w v ks) :
    Calls Tryd.prog 24 #[.agg #[.int .i64 1, .int .i64 p, .int .i64 n, .int .i64 l, .string s, v]] w (RetT w (str8 (Co.lab 1 p n s ++ Co.inB (Co.forms ks)))) := by
  unfold RetT
  obtain ⟨x, hx⟩ : ∃ x, coL[1]? = some x := ⟨_, List.getElem?_eq_getElem (by rw [coL_len]; omega)⟩
  have hxs : x.size ≤ 11 := of_decide_eq_true (List.all_eq_true.1 (show (coL.all fun x => decide (x.size ≤ 11)) = true by rfl) x (List.mem_of_getElem? hx))
  have hcN : coN 1 = x := coN_at (k := 1) (by omega) hx
  have hlb : x ++ (⟨#[58]⟩ : ByteArray) ++ str8 (Dec.fmt n) = str8 (Co.lab 1 p n s) := by
    unfold Co.lab
    rw [if_neg (by omega), if_neg (by omega), if_pos (by omega)]
    rw [hcN]
    apply ByteArray.ext; simp [str8]
  have hls := lab_size z0 z1 zs hlb
  have HLB := Lib.hid hlb
  have HC := Lib.hid (cell_list (w.alloc (.cells #[.int .i64 1, .int .i64 p, .int .i64 n, .int .i64 l, .string s, v] 57)) coL 9 1 x hx)
  rw [World.size_alloc] at HC
  have hE := Cells6.new w 1 p n l s v 57
  have HE0 := Lib.hid (hE.later (bl1 _ (.cells (coL.map Value.string).toArray 9)))
  have HB0 := Lib.hid (below_then (bl1 w (.cells #[.int .i64 1, .int .i64 p, .int .i64 n, .int .i64 l, .string s, v] 57)) (bl1 _ (.cells (coL.map Value.string).toArray 9)))
  have HR := Lib.hid (fun W => spec_in_yes 1 1 28 (by omega) (by omega) W)
  have HQ : Hid (∀ W, Calls Tryd.prog 63 #[.int .i64 n] W fun e w' => e = .returned (.string (str8 (Dec.fmt n))) ∧ Below W.heap.size W w') := Lib.hid (fun W => spec_fmt n W z0 z1)
  have hqs : (str8 (Dec.fmt n)).size ≤ 21 := by rw [str8_size]; exact Co.fmt_len z0 z1
  have HJ : Hid (∀ W v', StrsAt W v' (fS ks) → Calls Tryd.prog 64 #[v', .string ⟨#[44, 32]⟩] W fun e w' => e = .returned (.string (str8 (Lib.join (Co.forms ks) [44, 32]))) ∧ Below W.heap.size W w') := Lib.hid (fun W v' (hv : StrsAt W v' (fS ks)) => by
    have h := spec_joined v' (fS ks) ⟨#[44, 32]⟩ W hv (by rw [fS_join]; exact hj) (by rw [fS_len]; omega) (by decide)
    rw [fS_join] at h
    exact h)
  have hjs : (str8 (Lib.join (Co.forms ks) [44, 32])).size ≤ 100000000 := by rw [str8_size]; exact hj
  have HFS := Lib.hid (fun (h : ks ≠ []) => form_some h hlb)
  have HFN : Hid (ks = [] → x ++ (⟨#[58]⟩ : ByteArray) ++ str8 (Dec.fmt n) = str8 (Co.lab 1 p n s ++ Co.inB (Co.forms ks))) := Lib.hid (fun (h : ks = []) => by rw [h]; exact form_none hlb)
  generalize str8 (Dec.fmt n) = y at HLB HFS HFN HQ hqs hlb hls
  have c1 := cat_run x (⟨#[58]⟩ : ByteArray) (by have l0 : (⟨#[58]⟩ : ByteArray).size = 1 := rfl; omega)
  have c2 := cat_run (x ++ (⟨#[58]⟩ : ByteArray)) y (by simp only [ByteArray.size_append]; have l0 : (⟨#[58]⟩ : ByteArray).size = 1 := rfl; omega)
  obtain ⟨z, hz⟩ : ∃ z, x ++ (⟨#[58]⟩ : ByteArray) ++ y = z := ⟨_, rfl⟩
  rw [hz] at c2 HFS HFN hls
  clear hz hlb HLB
  clear hcN hx
  obtain ⟨t, ht⟩ : ∃ t, str8 (Co.lab 1 p n s ++ Co.inB (Co.forms ks)) = t := ⟨_, rfl⟩
  rw [ht] at HFS HFN ⊢
  generalize str8 (Lib.join (Co.forms ks) [44, 32]) = j at HJ HFS hjs
  have d1 := cat_run (z) (⟨#[40]⟩ : ByteArray) (by have l0 : (⟨#[40]⟩ : ByteArray).size = 1 := rfl; omega)
  have d2 := cat_run (z ++ (⟨#[40]⟩ : ByteArray)) j (by simp only [ByteArray.size_append]; have l0 : (⟨#[40]⟩ : ByteArray).size = 1 := rfl; omega)
  have d3 := cat_run (z ++ (⟨#[40]⟩ : ByteArray) ++ j) (⟨#[41]⟩ : ByteArray) (by simp only [ByteArray.size_append]; have l0 : (⟨#[40]⟩ : ByteArray).size = 1 := rfl; have l1 : (⟨#[41]⟩ : ByteArray).size = 1 := rfl; omega)
  clear ht hj hE
  obtain ⟨a, c, rfl⟩ := kids_len hk
  obtain ⟨i0, hi, hz0, hz1, hz2⟩ := info_parts info_string
  have HK := Lib.hid hk
  have HI := Lib.hid hI
  unfold FmtT RetT at HI
  have HKS := Lib.hid hks
  clear hk hI zs z0 z1 hls hjs hqs hxs
  go_enter Tryd.func24, Tryd.ntmps24
  go_wp2_with fail
  refine (HR.out _).mono ?_
  rintro e w1 ⟨rfl, hw⟩
  have hw' : (w.alloc (.cells #[.int .i64 1, .int .i64 p, .int .i64 n, .int .i64 l, .string s, .slice a ks.length c] 57)).alloc (.cells (coL.map Value.string).toArray 9) = w1 := hw
  clear hw
  rw [hw'] at HE0 HB0 HC
  clear hw'
  have hc := HC.out
  obtain ⟨e0, e1, e2, e3, e4, e5⟩ := HE0.out
  go_wp2_with fail
  refine (HQ.out _).mono ?_
  rintro e w3 ⟨rfl, b3⟩
  have HB1 := Lib.hid (below_then HB0.out b3)
  have HE1 := Lib.hid (HE0.out.later b3)
  clear b3 e0 e1 e2 e3 e4 e5 HB0 HE0 hc HC
  obtain ⟨e0, e1, e2, e3, e4, e5⟩ := HE1.out
  skip
  by_cases h0 : ks = []
  · have HN := Lib.hid (HFN.out h0)
    have hl0 : ks.length = 0 := by rw [h0]; rfl
    rw [hl0] at e5
    clear HFN HFS h0
    go_wp2
    go_ret
    exact ⟨ret_st2 HN.out, HB1.out⟩
  · have HN := Lib.hid (HFS.out h0)
    have hp : decide (0 < ks.length) = true := decide_eq_true (List.length_pos_iff.2 h0)
    have hsz1 : w.heap.size + 1 ≤ w3.heap.size := World.block_lt_of_cell? _ _ HE1.out.1
    clear HFN HFS h0
    go_wp2
    go_loopw [5, 6] (fun v i wr => ∃ q : Nat, i = .int .i64 q ∧ q ≤ ks.length ∧ Owns wr (w.heap.size + 1) v (fS (ks.take q)) ∧ Cells6 wr w.heap.size 1 p n l s (.slice a ks.length c) ∧ Below w.heap.size w wr) (fun _ i _ => ks.length - (intOf i).toNat)
    case atStart => exact ⟨0, rfl, Nat.zero_le _, World.ownsRow_made w3 #[] 0 hsz1 (by unfold maxLen; omega) rfl, HE1.out.later (bl1 _ _), below_then HB1.out (bl1 _ _)⟩
    case round =>
      clear e0 e1 e2 e3 e4 e5 HB1 HE1 hsz1
      obtain ⟨k', rfl, hk, ho, hce, hb⟩ := hrel
      have HO := Lib.hid ho
      have HB := Lib.hid hb
      have HE := Lib.hid hce
      have HK2 := Lib.hid (HK.out.later hb)
      obtain ⟨e0, e1, e2, e3, e4, e5⟩ := hce
      clear ho hb e0 e1 e2 e3 e4
      by_cases hlt : k' < ks.length
      · obtain ⟨g, o, rfl, ht⟩ := kids_at HK2.out k' hlt
        obtain ⟨⟨q0, q1, q2, q3, q4⟩, vx, q5, hkv⟩ := tree_cells ht
        have HC := Lib.hid (HI.out ks[k'] (List.getElem_mem hlt) wr vx hkv)
        have HN2 := Lib.hid (fS_next ks k' hlt)
        have hln : (fS (ks.take k')).length = k' := by rw [fS_len, List.length_take]; omega
        have HLN := Lib.hid hln
        have k0 : (0 : Int) ≤ k' := by omega
        have k1 : (k' : Int) < ks.length := by omega
        clear ht hkv
        generalize ks[k'] = x' at q0 q1 q2 q3 q4 q5 HC HN2
        generalize str8 x'.form = y' at HC HN2
        clear hln
        go_wp2_with fail
        refine HC.out.mono ?_
        rintro e w4 ⟨rfl, b1⟩
        have HB1 := Lib.hid (below_then HB.out b1)
        have HE1 := Lib.hid (HE.out.later b1)
        have HO1 := Lib.hid (owns_below HO.out b1)
        have hs1 : w.heap.size + 1 ≤ w4.heap.size := World.block_lt_of_cell? _ _ HE1.out.1
        clear b1 q0 q1 q2 q3 q4 q5 e5
        go_wp2_with (at_builtin; refine wpList_append_own _ rfl _ _ 25 rfl (w.heap.size + 1) 9 i0 (.string ByteArray.empty) 1 16 Tryd.underlying25 hi hz0 hz1 hz2 rfl (by decide) _ _ _ rfl (HO1.out.alloc _) ⟨w4.heap.size, 0, none⟩ 1 1 [.string y'] rfl rfl ?c1 ?c2 ?c3 ?c4 ?c5 ?_)
        case c1 => exact new_cell _ _ _
        case c2 => exact one_string _
        case c3 => have := HLN.out; have := HKS.out; exact max_small (by omega)
        case c4 => have := HLN.out; have := HKS.out; omega
        case c5 => simp; omega
        intro v' w5 hown' hgrow _
        have ho := owns_app hown'
        rw [HN2.out] at ho
        have HO2 := Lib.hid ho
        have HB2 := Lib.hid (app_below HB1.out HO1.out (Nat.le_succ _) hgrow)
        have HE2 := Lib.hid (app_cells HE1.out HO1.out (Nat.lt_succ_self _) hgrow)
        clear hown' hgrow ho
        go_wp2
        go_roundw
        case rel => exact ⟨k' + 1, by go_num, by omega, HO2.out, HE2.out, HB2.out⟩
        case measure => first | (simp [intOf]; done) | (simp [intOf]; omega)
      · obtain rfl : k' = ks.length := by omega
        have HA : Hid (StrsAt wr _ (fS ks)) := Lib.hid (by have h := strsAt_owns HO.out; rw [List.take_length] at h; exact h)
        have HJ1 := Lib.hid (HJ.out _ _ HA.out)
        clear HJ HA HO
        go_wp2_with fail
        refine HJ1.out.mono ?_
        rintro e w6 ⟨rfl, b1⟩
        have HB1 := Lib.hid (below_then HB.out b1)
        clear b1
        go_wp2
        go_ret
        exact ⟨ret_st2 HN.out, HB1.out⟩
set_option maxRecDepth 100000 in
set_option maxHeartbeats 3200000 in
theorem fmt_m (m : Nat) (m1 : 5 ≤ m) (m2 : m ≤ 10) (p n l : Int) (s : ByteArray) (ks : List Co.T) (hI : ∀ x ∈ ks, FmtT x) (hj : (Lib.join (Co.forms ks) [44, 32]).length ≤ 100000000) (hks : ks.length ≤ 1048576) (zs : (s.size : Int) ≤ 1048576) (z0 : -9223372036854775808 ≤ n) (z1 : n ≤ 9223372036854775807) (w : World) (v : Value) (hk : Kids w v ks) :
    Calls Tryd.prog 24 #[.agg #[.int .i64 (m : Int), .int .i64 p, .int .i64 n, .int .i64 l, .string s, v]] w (RetT w (str8 (Co.lab (m : Int) p n s ++ Co.inB (Co.forms ks)))) := by
  unfold RetT
  have b1 : ((m : Int) == 1) = false := beq_eq_false_iff_ne.2 (by omega)
  have b2 : ((m : Int) == 2) = false := beq_eq_false_iff_ne.2 (by omega)
  have b3 : ((m : Int) == 3) = false := beq_eq_false_iff_ne.2 (by omega)
  have b11 : ((m : Int) == 11) = false := beq_eq_false_iff_ne.2 (by omega)
  have i0 : (0 : Int) ≤ (m : Int) := by omega
  have i1 : (m : Int) < 29 := by omega
  obtain ⟨x, hx⟩ : ∃ x, coL[m]? = some x := ⟨_, List.getElem?_eq_getElem (by rw [coL_len]; omega)⟩
  have hxs : x.size ≤ 11 := of_decide_eq_true (List.all_eq_true.1 (show (coL.all fun x => decide (x.size ≤ 11)) = true by rfl) x (List.mem_of_getElem? hx))
  have hcN : coN (m : Int) = x := coN_at (k := m) (by omega) hx
  have hlb : x ++ (⟨#[58]⟩ : ByteArray) ++ str8 (Dec.fmt n) = str8 (Co.lab (m : Int) p n s) := by
    unfold Co.lab
    rw [if_neg (by omega), if_neg (by omega), if_pos (by omega)]
    rw [hcN]
    apply ByteArray.ext; simp [str8]
  have hls := lab_size z0 z1 zs hlb
  have HLB := Lib.hid hlb
  have HC := Lib.hid (cell_list (w.alloc (.cells #[.int .i64 (m : Int), .int .i64 p, .int .i64 n, .int .i64 l, .string s, v] 57)) coL 9 m x hx)
  rw [World.size_alloc] at HC
  have hE := Cells6.new w (m : Int) p n l s v 57
  have HE0 := Lib.hid (hE.later (bl1 _ (.cells (coL.map Value.string).toArray 9)))
  have HB0 := Lib.hid (below_then (bl1 w (.cells #[.int .i64 (m : Int), .int .i64 p, .int .i64 n, .int .i64 l, .string s, v] 57)) (bl1 _ (.cells (coL.map Value.string).toArray 9)))
  have HR := Lib.hid (fun W => spec_in_yes (m : Int) 1 28 (by omega) (by omega) W)
  have HQ : Hid (∀ W, Calls Tryd.prog 63 #[.int .i64 n] W fun e w' => e = .returned (.string (str8 (Dec.fmt n))) ∧ Below W.heap.size W w') := Lib.hid (fun W => spec_fmt n W z0 z1)
  have hqs : (str8 (Dec.fmt n)).size ≤ 21 := by rw [str8_size]; exact Co.fmt_len z0 z1
  have H5 := Lib.hid (fun W => spec_in_yes (m : Int) 5 10 (by omega) (by omega) W)
  have HJ : Hid (∀ W v', StrsAt W v' (fS ks) → Calls Tryd.prog 64 #[v', .string ⟨#[44, 32]⟩] W fun e w' => e = .returned (.string (str8 (Lib.join (Co.forms ks) [44, 32]))) ∧ Below W.heap.size W w') := Lib.hid (fun W v' (hv : StrsAt W v' (fS ks)) => by
    have h := spec_joined v' (fS ks) ⟨#[44, 32]⟩ W hv (by rw [fS_join]; exact hj) (by rw [fS_len]; omega) (by decide)
    rw [fS_join] at h
    exact h)
  have hjs : (str8 (Lib.join (Co.forms ks) [44, 32])).size ≤ 100000000 := by rw [str8_size]; exact hj
  have HFS := Lib.hid (fun (h : ks ≠ []) => form_some h hlb)
  have HFN : Hid (ks = [] → x ++ (⟨#[58]⟩ : ByteArray) ++ str8 (Dec.fmt n) = str8 (Co.lab (m : Int) p n s ++ Co.inB (Co.forms ks))) := Lib.hid (fun (h : ks = []) => by rw [h]; exact form_none hlb)
  generalize str8 (Dec.fmt n) = y at HLB HFS HFN HQ hqs hlb hls
  have c1 := cat_run x (⟨#[58]⟩ : ByteArray) (by have l0 : (⟨#[58]⟩ : ByteArray).size = 1 := rfl; omega)
  have c2 := cat_run (x ++ (⟨#[58]⟩ : ByteArray)) y (by simp only [ByteArray.size_append]; have l0 : (⟨#[58]⟩ : ByteArray).size = 1 := rfl; omega)
  obtain ⟨z, hz⟩ : ∃ z, x ++ (⟨#[58]⟩ : ByteArray) ++ y = z := ⟨_, rfl⟩
  rw [hz] at c2 HFS HFN hls
  clear hz hlb HLB
  clear hcN hx
  obtain ⟨t, ht⟩ : ∃ t, str8 (Co.lab (m : Int) p n s ++ Co.inB (Co.forms ks)) = t := ⟨_, rfl⟩
  rw [ht] at HFS HFN ⊢
  generalize str8 (Lib.join (Co.forms ks) [44, 32]) = j at HJ HFS hjs
  have d1 := cat_run (z) (⟨#[40]⟩ : ByteArray) (by have l0 : (⟨#[40]⟩ : ByteArray).size = 1 := rfl; omega)
  have d2 := cat_run (z ++ (⟨#[40]⟩ : ByteArray)) j (by simp only [ByteArray.size_append]; have l0 : (⟨#[40]⟩ : ByteArray).size = 1 := rfl; omega)
  have d3 := cat_run (z ++ (⟨#[40]⟩ : ByteArray) ++ j) (⟨#[41]⟩ : ByteArray) (by simp only [ByteArray.size_append]; have l0 : (⟨#[40]⟩ : ByteArray).size = 1 := rfl; have l1 : (⟨#[41]⟩ : ByteArray).size = 1 := rfl; omega)
  clear ht hj hE
  obtain ⟨a, c, rfl⟩ := kids_len hk
  obtain ⟨i0, hi, hz0, hz1, hz2⟩ := info_parts info_string
  have HK := Lib.hid hk
  have HI := Lib.hid hI
  unfold FmtT RetT at HI
  have HKS := Lib.hid hks
  clear hk hI zs z0 z1 hls hjs hqs hxs
  go_enter Tryd.func24, Tryd.ntmps24
  go_wp2_with fail
  refine (HR.out _).mono ?_
  rintro e w1 ⟨rfl, hw⟩
  have hw' : (w.alloc (.cells #[.int .i64 (m : Int), .int .i64 p, .int .i64 n, .int .i64 l, .string s, .slice a ks.length c] 57)).alloc (.cells (coL.map Value.string).toArray 9) = w1 := hw
  clear hw
  rw [hw'] at HE0 HB0 HC
  clear hw'
  have hc := HC.out
  obtain ⟨e0, e1, e2, e3, e4, e5⟩ := HE0.out
  go_wp2_with fail
  refine (H5.out _).mono ?_
  rintro e w2 ⟨rfl, rfl⟩
  go_wp2_with fail
  refine (HQ.out _).mono ?_
  rintro e w3 ⟨rfl, b3⟩
  have HB1 := Lib.hid (below_then HB0.out b3)
  have HE1 := Lib.hid (HE0.out.later b3)
  clear b3 e0 e1 e2 e3 e4 e5 HB0 HE0 hc HC
  obtain ⟨e0, e1, e2, e3, e4, e5⟩ := HE1.out
  skip
  by_cases h0 : ks = []
  · have HN := Lib.hid (HFN.out h0)
    have hl0 : ks.length = 0 := by rw [h0]; rfl
    rw [hl0] at e5
    clear HFN HFS h0
    go_wp2
    go_ret
    exact ⟨ret_st2 HN.out, HB1.out⟩
  · have HN := Lib.hid (HFS.out h0)
    have hp : decide (0 < ks.length) = true := decide_eq_true (List.length_pos_iff.2 h0)
    have hsz1 : w.heap.size + 1 ≤ w3.heap.size := World.block_lt_of_cell? _ _ HE1.out.1
    clear HFN HFS h0
    go_wp2
    go_loopw [5, 6] (fun v i wr => ∃ q : Nat, i = .int .i64 q ∧ q ≤ ks.length ∧ Owns wr (w.heap.size + 1) v (fS (ks.take q)) ∧ Cells6 wr w.heap.size (m : Int) p n l s (.slice a ks.length c) ∧ Below w.heap.size w wr) (fun _ i _ => ks.length - (intOf i).toNat)
    case atStart => exact ⟨0, rfl, Nat.zero_le _, World.ownsRow_made w3 #[] 0 hsz1 (by unfold maxLen; omega) rfl, HE1.out.later (bl1 _ _), below_then HB1.out (bl1 _ _)⟩
    case round =>
      clear e0 e1 e2 e3 e4 e5 HB1 HE1 hsz1
      obtain ⟨k', rfl, hk, ho, hce, hb⟩ := hrel
      have HO := Lib.hid ho
      have HB := Lib.hid hb
      have HE := Lib.hid hce
      have HK2 := Lib.hid (HK.out.later hb)
      obtain ⟨e0, e1, e2, e3, e4, e5⟩ := hce
      clear ho hb e0 e1 e2 e3 e4
      by_cases hlt : k' < ks.length
      · obtain ⟨g, o, rfl, ht⟩ := kids_at HK2.out k' hlt
        obtain ⟨⟨q0, q1, q2, q3, q4⟩, vx, q5, hkv⟩ := tree_cells ht
        have HC := Lib.hid (HI.out ks[k'] (List.getElem_mem hlt) wr vx hkv)
        have HN2 := Lib.hid (fS_next ks k' hlt)
        have hln : (fS (ks.take k')).length = k' := by rw [fS_len, List.length_take]; omega
        have HLN := Lib.hid hln
        have k0 : (0 : Int) ≤ k' := by omega
        have k1 : (k' : Int) < ks.length := by omega
        clear ht hkv
        generalize ks[k'] = x' at q0 q1 q2 q3 q4 q5 HC HN2
        generalize str8 x'.form = y' at HC HN2
        clear hln
        go_wp2_with fail
        refine HC.out.mono ?_
        rintro e w4 ⟨rfl, b1⟩
        have HB1 := Lib.hid (below_then HB.out b1)
        have HE1 := Lib.hid (HE.out.later b1)
        have HO1 := Lib.hid (owns_below HO.out b1)
        have hs1 : w.heap.size + 1 ≤ w4.heap.size := World.block_lt_of_cell? _ _ HE1.out.1
        clear b1 q0 q1 q2 q3 q4 q5 e5
        go_wp2_with (at_builtin; refine wpList_append_own _ rfl _ _ 25 rfl (w.heap.size + 1) 9 i0 (.string ByteArray.empty) 1 16 Tryd.underlying25 hi hz0 hz1 hz2 rfl (by decide) _ _ _ rfl (HO1.out.alloc _) ⟨w4.heap.size, 0, none⟩ 1 1 [.string y'] rfl rfl ?c1 ?c2 ?c3 ?c4 ?c5 ?_)
        case c1 => exact new_cell _ _ _
        case c2 => exact one_string _
        case c3 => have := HLN.out; have := HKS.out; exact max_small (by omega)
        case c4 => have := HLN.out; have := HKS.out; omega
        case c5 => simp; omega
        intro v' w5 hown' hgrow _
        have ho := owns_app hown'
        rw [HN2.out] at ho
        have HO2 := Lib.hid ho
        have HB2 := Lib.hid (app_below HB1.out HO1.out (Nat.le_succ _) hgrow)
        have HE2 := Lib.hid (app_cells HE1.out HO1.out (Nat.lt_succ_self _) hgrow)
        clear hown' hgrow ho
        go_wp2
        go_roundw
        case rel => exact ⟨k' + 1, by go_num, by omega, HO2.out, HE2.out, HB2.out⟩
        case measure => first | (simp [intOf]; done) | (simp [intOf]; omega)
      · obtain rfl : k' = ks.length := by omega
        have HA : Hid (StrsAt wr _ (fS ks)) := Lib.hid (by have h := strsAt_owns HO.out; rw [List.take_length] at h; exact h)
        have HJ1 := Lib.hid (HJ.out _ _ HA.out)
        clear HJ HA HO
        go_wp2_with fail
        refine HJ1.out.mono ?_
        rintro e w6 ⟨rfl, b1⟩
        have HB1 := Lib.hid (below_then HB.out b1)
        clear b1
        go_wp2
        go_ret
        exact ⟨ret_st2 HN.out, HB1.out⟩
set_option maxRecDepth 100000 in
set_option maxHeartbeats 3200000 in
theorem fmt_n (m : Nat) (m1 : m = 4 ∨ (12 ≤ m ∧ m ≤ 28)) (p n l : Int) (s : ByteArray) (ks : List Co.T) (hI : ∀ x ∈ ks, FmtT x) (hj : (Lib.join (Co.forms ks) [44, 32]).length ≤ 100000000) (hks : ks.length ≤ 1048576) (zs : (s.size : Int) ≤ 1048576) (z0 : -9223372036854775808 ≤ n) (z1 : n ≤ 9223372036854775807) (w : World) (v : Value) (hk : Kids w v ks) :
    Calls Tryd.prog 24 #[.agg #[.int .i64 (m : Int), .int .i64 p, .int .i64 n, .int .i64 l, .string s, v]] w (RetT w (str8 (Co.lab (m : Int) p n s ++ Co.inB (Co.forms ks)))) := by
  unfold RetT
  have b1 : ((m : Int) == 1) = false := beq_eq_false_iff_ne.2 (by omega)
  have b2 : ((m : Int) == 2) = false := beq_eq_false_iff_ne.2 (by omega)
  have b3 : ((m : Int) == 3) = false := beq_eq_false_iff_ne.2 (by omega)
  have b11 : ((m : Int) == 11) = false := beq_eq_false_iff_ne.2 (by omega)
  have i0 : (0 : Int) ≤ (m : Int) := by omega
  have i1 : (m : Int) < 29 := by omega
  obtain ⟨x, hx⟩ : ∃ x, coL[m]? = some x := ⟨_, List.getElem?_eq_getElem (by rw [coL_len]; omega)⟩
  have hxs : x.size ≤ 11 := of_decide_eq_true (List.all_eq_true.1 (show (coL.all fun x => decide (x.size ≤ 11)) = true by rfl) x (List.mem_of_getElem? hx))
  have hcN : coN (m : Int) = x := coN_at (k := m) (by omega) hx
  have hlb : x = str8 (Co.lab (m : Int) p n s) := by
    unfold Co.lab
    rw [if_neg (by omega), if_neg (by omega), if_neg (by omega)]
    rw [hcN]
    apply ByteArray.ext; simp [str8]
  have hls := lab_size z0 z1 zs hlb
  have HLB := Lib.hid hlb
  have HC := Lib.hid (cell_list (w.alloc (.cells #[.int .i64 (m : Int), .int .i64 p, .int .i64 n, .int .i64 l, .string s, v] 57)) coL 9 m x hx)
  rw [World.size_alloc] at HC
  have hE := Cells6.new w (m : Int) p n l s v 57
  have HE0 := Lib.hid (hE.later (bl1 _ (.cells (coL.map Value.string).toArray 9)))
  have HB0 := Lib.hid (below_then (bl1 w (.cells #[.int .i64 (m : Int), .int .i64 p, .int .i64 n, .int .i64 l, .string s, v] 57)) (bl1 _ (.cells (coL.map Value.string).toArray 9)))
  have HR := Lib.hid (fun W => spec_in_yes (m : Int) 1 28 (by omega) (by omega) W)
  have H5 := Lib.hid (fun W => spec_in_no (m : Int) 5 10 (by omega) W)
  have HJ : Hid (∀ W v', StrsAt W v' (fS ks) → Calls Tryd.prog 64 #[v', .string ⟨#[44, 32]⟩] W fun e w' => e = .returned (.string (str8 (Lib.join (Co.forms ks) [44, 32]))) ∧ Below W.heap.size W w') := Lib.hid (fun W v' (hv : StrsAt W v' (fS ks)) => by
    have h := spec_joined v' (fS ks) ⟨#[44, 32]⟩ W hv (by rw [fS_join]; exact hj) (by rw [fS_len]; omega) (by decide)
    rw [fS_join] at h
    exact h)
  have hjs : (str8 (Lib.join (Co.forms ks) [44, 32])).size ≤ 100000000 := by rw [str8_size]; exact hj
  have HFS := Lib.hid (fun (h : ks ≠ []) => form_some h hlb)
  have HFN : Hid (ks = [] → x = str8 (Co.lab (m : Int) p n s ++ Co.inB (Co.forms ks))) := Lib.hid (fun (h : ks = []) => by rw [h]; exact form_none hlb)
  clear hlb HLB
  clear hcN hx
  obtain ⟨t, ht⟩ : ∃ t, str8 (Co.lab (m : Int) p n s ++ Co.inB (Co.forms ks)) = t := ⟨_, rfl⟩
  rw [ht] at HFS HFN ⊢
  generalize str8 (Lib.join (Co.forms ks) [44, 32]) = j at HJ HFS hjs
  have d1 := cat_run (x) (⟨#[40]⟩ : ByteArray) (by have l0 : (⟨#[40]⟩ : ByteArray).size = 1 := rfl; omega)
  have d2 := cat_run (x ++ (⟨#[40]⟩ : ByteArray)) j (by simp only [ByteArray.size_append]; have l0 : (⟨#[40]⟩ : ByteArray).size = 1 := rfl; omega)
  have d3 := cat_run (x ++ (⟨#[40]⟩ : ByteArray) ++ j) (⟨#[41]⟩ : ByteArray) (by simp only [ByteArray.size_append]; have l0 : (⟨#[40]⟩ : ByteArray).size = 1 := rfl; have l1 : (⟨#[41]⟩ : ByteArray).size = 1 := rfl; omega)
  clear ht hj hE
  obtain ⟨a, c, rfl⟩ := kids_len hk
  obtain ⟨i0, hi, hz0, hz1, hz2⟩ := info_parts info_string
  have HK := Lib.hid hk
  have HI := Lib.hid hI
  unfold FmtT RetT at HI
  have HKS := Lib.hid hks
  clear hk hI zs z0 z1 hls hjs hxs
  go_enter Tryd.func24, Tryd.ntmps24
  go_wp2_with fail
  refine (HR.out _).mono ?_
  rintro e w1 ⟨rfl, hw⟩
  have hw' : (w.alloc (.cells #[.int .i64 (m : Int), .int .i64 p, .int .i64 n, .int .i64 l, .string s, .slice a ks.length c] 57)).alloc (.cells (coL.map Value.string).toArray 9) = w1 := hw
  clear hw
  rw [hw'] at HE0 HB0 HC
  clear hw'
  have hc := HC.out
  obtain ⟨e0, e1, e2, e3, e4, e5⟩ := HE0.out
  go_wp2_with fail
  refine (H5.out _).mono ?_
  rintro e w2 ⟨rfl, rfl⟩
  have HB1 := HB0
  have HE1 := HE0
  skip
  by_cases h0 : ks = []
  · have HN := Lib.hid (HFN.out h0)
    have hl0 : ks.length = 0 := by rw [h0]; rfl
    rw [hl0] at e5
    clear HFN HFS h0
    go_wp2
    go_ret
    exact ⟨ret_st2 HN.out, HB1.out⟩
  · have HN := Lib.hid (HFS.out h0)
    have hp : decide (0 < ks.length) = true := decide_eq_true (List.length_pos_iff.2 h0)
    have hsz1 : w.heap.size + 1 ≤ w1.heap.size := World.block_lt_of_cell? _ _ HE1.out.1
    clear HFN HFS h0
    go_wp2
    go_loopw [5, 6] (fun v i wr => ∃ q : Nat, i = .int .i64 q ∧ q ≤ ks.length ∧ Owns wr (w.heap.size + 1) v (fS (ks.take q)) ∧ Cells6 wr w.heap.size (m : Int) p n l s (.slice a ks.length c) ∧ Below w.heap.size w wr) (fun _ i _ => ks.length - (intOf i).toNat)
    case atStart => exact ⟨0, rfl, Nat.zero_le _, World.ownsRow_made w1 #[] 0 hsz1 (by unfold maxLen; omega) rfl, HE1.out.later (bl1 _ _), below_then HB1.out (bl1 _ _)⟩
    case round =>
      clear e0 e1 e2 e3 e4 e5 HB1 HE1 hsz1 hc HC HE0 HB0
      obtain ⟨k', rfl, hk, ho, hce, hb⟩ := hrel
      have HO := Lib.hid ho
      have HB := Lib.hid hb
      have HE := Lib.hid hce
      have HK2 := Lib.hid (HK.out.later hb)
      obtain ⟨e0, e1, e2, e3, e4, e5⟩ := hce
      clear ho hb e0 e1 e2 e3 e4
      by_cases hlt : k' < ks.length
      · obtain ⟨g, o, rfl, ht⟩ := kids_at HK2.out k' hlt
        obtain ⟨⟨q0, q1, q2, q3, q4⟩, vx, q5, hkv⟩ := tree_cells ht
        have HC := Lib.hid (HI.out ks[k'] (List.getElem_mem hlt) wr vx hkv)
        have HN2 := Lib.hid (fS_next ks k' hlt)
        have hln : (fS (ks.take k')).length = k' := by rw [fS_len, List.length_take]; omega
        have HLN := Lib.hid hln
        have k0 : (0 : Int) ≤ k' := by omega
        have k1 : (k' : Int) < ks.length := by omega
        clear ht hkv
        generalize ks[k'] = x' at q0 q1 q2 q3 q4 q5 HC HN2
        generalize str8 x'.form = y' at HC HN2
        clear hln
        go_wp2_with fail
        refine HC.out.mono ?_
        rintro e w4 ⟨rfl, b1⟩
        have HB1 := Lib.hid (below_then HB.out b1)
        have HE1 := Lib.hid (HE.out.later b1)
        have HO1 := Lib.hid (owns_below HO.out b1)
        have hs1 : w.heap.size + 1 ≤ w4.heap.size := World.block_lt_of_cell? _ _ HE1.out.1
        clear b1 q0 q1 q2 q3 q4 q5 e5
        go_wp2_with (at_builtin; refine wpList_append_own _ rfl _ _ 25 rfl (w.heap.size + 1) 9 i0 (.string ByteArray.empty) 1 16 Tryd.underlying25 hi hz0 hz1 hz2 rfl (by decide) _ _ _ rfl (HO1.out.alloc _) ⟨w4.heap.size, 0, none⟩ 1 1 [.string y'] rfl rfl ?c1 ?c2 ?c3 ?c4 ?c5 ?_)
        case c1 => exact new_cell _ _ _
        case c2 => exact one_string _
        case c3 => have := HLN.out; have := HKS.out; exact max_small (by omega)
        case c4 => have := HLN.out; have := HKS.out; omega
        case c5 => simp; omega
        intro v' w5 hown' hgrow _
        have ho := owns_app hown'
        rw [HN2.out] at ho
        have HO2 := Lib.hid ho
        have HB2 := Lib.hid (app_below HB1.out HO1.out (Nat.le_succ _) hgrow)
        have HE2 := Lib.hid (app_cells HE1.out HO1.out (Nat.lt_succ_self _) hgrow)
        clear hown' hgrow ho
        go_wp2
        go_roundw
        case rel => exact ⟨k' + 1, by go_num, by omega, HO2.out, HE2.out, HB2.out⟩
        case measure => first | (simp [intOf]; done) | (simp [intOf]; omega)
      · obtain rfl : k' = ks.length := by omega
        have HA : Hid (StrsAt wr _ (fS ks)) := Lib.hid (by have h := strsAt_owns HO.out; rw [List.take_length] at h; exact h)
        have HJ1 := Lib.hid (HJ.out _ _ HA.out)
        clear HJ HA HO
        go_wp2_with fail
        refine HJ1.out.mono ?_
        rintro e w6 ⟨rfl, b1⟩
        have HB1 := Lib.hid (below_then HB.out b1)
        clear b1
        go_wp2
        go_ret
        exact ⟨ret_st2 HN.out, HB1.out⟩
set_option maxRecDepth 100000 in
set_option maxHeartbeats 3200000 in
theorem fmt_0 (k : Int) (hr : k < 1 ∨ 28 < k) (p n l : Int) (s : ByteArray) (ks : List Co.T) (hI : ∀ x ∈ ks, FmtT x) (hj : (Lib.join (Co.forms ks) [44, 32]).length ≤ 100000000) (hks : ks.length ≤ 1048576) (zs : (s.size : Int) ≤ 1048576) (z0 : -9223372036854775808 ≤ n) (z1 : n ≤ 9223372036854775807) (w : World) (v : Value) (hk : Kids w v ks) :
    Calls Tryd.prog 24 #[.agg #[.int .i64 k, .int .i64 p, .int .i64 n, .int .i64 l, .string s, v]] w (RetT w (str8 (Co.lab k p n s ++ Co.inB (Co.forms ks)))) := by
  unfold RetT
  have b1 : (k == 1) = false := beq_eq_false_iff_ne.2 (by omega)
  have b2 : (k == 2) = false := beq_eq_false_iff_ne.2 (by omega)
  have b3 : (k == 3) = false := beq_eq_false_iff_ne.2 (by omega)
  have b11 : (k == 11) = false := beq_eq_false_iff_ne.2 (by omega)
  have hcN : coN k = (⟨#[63]⟩ : ByteArray) := coN_out hr
  have hlb : (⟨#[63]⟩ : ByteArray) = str8 (Co.lab k p n s) := by
    unfold Co.lab
    rw [if_neg (by omega), if_neg (by omega), if_neg (by omega)]
    rw [hcN]
    apply ByteArray.ext; simp [str8]
  have hls := lab_size z0 z1 zs hlb
  have HLB := Lib.hid hlb
  have hE := Cells6.new w k p n l s v 57
  have HE0 := Lib.hid (hE.later (bl1 _ (.cells (coL.map Value.string).toArray 9)))
  have HB0 := Lib.hid (below_then (bl1 w (.cells #[.int .i64 k, .int .i64 p, .int .i64 n, .int .i64 l, .string s, v] 57)) (bl1 _ (.cells (coL.map Value.string).toArray 9)))
  have HR := Lib.hid (fun W => spec_in_no k 1 28 (by omega) W)
  have H5 := Lib.hid (fun W => spec_in_no k 5 10 (by omega) W)
  have HJ : Hid (∀ W v', StrsAt W v' (fS ks) → Calls Tryd.prog 64 #[v', .string ⟨#[44, 32]⟩] W fun e w' => e = .returned (.string (str8 (Lib.join (Co.forms ks) [44, 32]))) ∧ Below W.heap.size W w') := Lib.hid (fun W v' (hv : StrsAt W v' (fS ks)) => by
    have h := spec_joined v' (fS ks) ⟨#[44, 32]⟩ W hv (by rw [fS_join]; exact hj) (by rw [fS_len]; omega) (by decide)
    rw [fS_join] at h
    exact h)
  have hjs : (str8 (Lib.join (Co.forms ks) [44, 32])).size ≤ 100000000 := by rw [str8_size]; exact hj
  have HFS := Lib.hid (fun (h : ks ≠ []) => form_some h hlb)
  have HFN : Hid (ks = [] → (⟨#[63]⟩ : ByteArray) = str8 (Co.lab k p n s ++ Co.inB (Co.forms ks))) := Lib.hid (fun (h : ks = []) => by rw [h]; exact form_none hlb)
  clear hlb HLB
  skip
  clear hcN
  obtain ⟨t, ht⟩ : ∃ t, str8 (Co.lab k p n s ++ Co.inB (Co.forms ks)) = t := ⟨_, rfl⟩
  rw [ht] at HFS HFN ⊢
  generalize str8 (Lib.join (Co.forms ks) [44, 32]) = j at HJ HFS hjs
  have d1 := cat_run ((⟨#[63]⟩ : ByteArray)) (⟨#[40]⟩ : ByteArray) (by have l0 : (⟨#[40]⟩ : ByteArray).size = 1 := rfl; omega)
  have d2 := cat_run ((⟨#[63]⟩ : ByteArray) ++ (⟨#[40]⟩ : ByteArray)) j (by simp only [ByteArray.size_append]; have l0 : (⟨#[40]⟩ : ByteArray).size = 1 := rfl; omega)
  have d3 := cat_run ((⟨#[63]⟩ : ByteArray) ++ (⟨#[40]⟩ : ByteArray) ++ j) (⟨#[41]⟩ : ByteArray) (by simp only [ByteArray.size_append]; have l0 : (⟨#[40]⟩ : ByteArray).size = 1 := rfl; have l1 : (⟨#[41]⟩ : ByteArray).size = 1 := rfl; omega)
  clear ht hj hE
  obtain ⟨a, c, rfl⟩ := kids_len hk
  obtain ⟨i0, hi, hz0, hz1, hz2⟩ := info_parts info_string
  have HK := Lib.hid hk
  have HI := Lib.hid hI
  unfold FmtT RetT at HI
  have HKS := Lib.hid hks
  clear hk hI zs z0 z1 hls hjs
  go_enter Tryd.func24, Tryd.ntmps24
  go_wp2_with fail
  refine (HR.out _).mono ?_
  rintro e w1 ⟨rfl, hw⟩
  have hw' : (w.alloc (.cells #[.int .i64 k, .int .i64 p, .int .i64 n, .int .i64 l, .string s, .slice a ks.length c] 57)).alloc (.cells (coL.map Value.string).toArray 9) = w1 := hw
  clear hw
  rw [hw'] at HE0 HB0
  clear hw'
  obtain ⟨e0, e1, e2, e3, e4, e5⟩ := HE0.out
  go_wp2_with fail
  refine (H5.out _).mono ?_
  rintro e w2 ⟨rfl, rfl⟩
  have HB1 := HB0
  have HE1 := HE0
  skip
  by_cases h0 : ks = []
  · have HN := Lib.hid (HFN.out h0)
    have hl0 : ks.length = 0 := by rw [h0]; rfl
    rw [hl0] at e5
    clear HFN HFS h0
    go_wp2
    go_ret
    exact ⟨ret_st2 HN.out, HB1.out⟩
  · have HN := Lib.hid (HFS.out h0)
    have hp : decide (0 < ks.length) = true := decide_eq_true (List.length_pos_iff.2 h0)
    have hsz1 : w.heap.size + 1 ≤ w1.heap.size := World.block_lt_of_cell? _ _ HE1.out.1
    clear HFN HFS h0
    go_wp2
    go_loopw [5, 6] (fun v i wr => ∃ q : Nat, i = .int .i64 q ∧ q ≤ ks.length ∧ Owns wr (w.heap.size + 1) v (fS (ks.take q)) ∧ Cells6 wr w.heap.size k p n l s (.slice a ks.length c) ∧ Below w.heap.size w wr) (fun _ i _ => ks.length - (intOf i).toNat)
    case atStart => exact ⟨0, rfl, Nat.zero_le _, World.ownsRow_made w1 #[] 0 hsz1 (by unfold maxLen; omega) rfl, HE1.out.later (bl1 _ _), below_then HB1.out (bl1 _ _)⟩
    case round =>
      clear e0 e1 e2 e3 e4 e5 HB1 HE1 hsz1 HE0 HB0
      obtain ⟨k', rfl, hk, ho, hce, hb⟩ := hrel
      have HO := Lib.hid ho
      have HB := Lib.hid hb
      have HE := Lib.hid hce
      have HK2 := Lib.hid (HK.out.later hb)
      obtain ⟨e0, e1, e2, e3, e4, e5⟩ := hce
      clear ho hb e0 e1 e2 e3 e4
      by_cases hlt : k' < ks.length
      · obtain ⟨g, o, rfl, ht⟩ := kids_at HK2.out k' hlt
        obtain ⟨⟨q0, q1, q2, q3, q4⟩, vx, q5, hkv⟩ := tree_cells ht
        have HC := Lib.hid (HI.out ks[k'] (List.getElem_mem hlt) wr vx hkv)
        have HN2 := Lib.hid (fS_next ks k' hlt)
        have hln : (fS (ks.take k')).length = k' := by rw [fS_len, List.length_take]; omega
        have HLN := Lib.hid hln
        have k0 : (0 : Int) ≤ k' := by omega
        have k1 : (k' : Int) < ks.length := by omega
        clear ht hkv
        generalize ks[k'] = x' at q0 q1 q2 q3 q4 q5 HC HN2
        generalize str8 x'.form = y' at HC HN2
        clear hln
        go_wp2_with fail
        refine HC.out.mono ?_
        rintro e w4 ⟨rfl, b1⟩
        have HB1 := Lib.hid (below_then HB.out b1)
        have HE1 := Lib.hid (HE.out.later b1)
        have HO1 := Lib.hid (owns_below HO.out b1)
        have hs1 : w.heap.size + 1 ≤ w4.heap.size := World.block_lt_of_cell? _ _ HE1.out.1
        clear b1 q0 q1 q2 q3 q4 q5 e5
        go_wp2_with (at_builtin; refine wpList_append_own _ rfl _ _ 25 rfl (w.heap.size + 1) 9 i0 (.string ByteArray.empty) 1 16 Tryd.underlying25 hi hz0 hz1 hz2 rfl (by decide) _ _ _ rfl (HO1.out.alloc _) ⟨w4.heap.size, 0, none⟩ 1 1 [.string y'] rfl rfl ?c1 ?c2 ?c3 ?c4 ?c5 ?_)
        case c1 => exact new_cell _ _ _
        case c2 => exact one_string _
        case c3 => have := HLN.out; have := HKS.out; exact max_small (by omega)
        case c4 => have := HLN.out; have := HKS.out; omega
        case c5 => simp; omega
        intro v' w5 hown' hgrow _
        have ho := owns_app hown'
        rw [HN2.out] at ho
        have HO2 := Lib.hid ho
        have HB2 := Lib.hid (app_below HB1.out HO1.out (Nat.le_succ _) hgrow)
        have HE2 := Lib.hid (app_cells HE1.out HO1.out (Nat.lt_succ_self _) hgrow)
        clear hown' hgrow ho
        go_wp2
        go_roundw
        case rel => exact ⟨k' + 1, by go_num, by omega, HO2.out, HE2.out, HB2.out⟩
        case measure => first | (simp [intOf]; done) | (simp [intOf]; omega)
      · obtain rfl : k' = ks.length := by omega
        have HA : Hid (StrsAt wr _ (fS ks)) := Lib.hid (by have h := strsAt_owns HO.out; rw [List.take_length] at h; exact h)
        have HJ1 := Lib.hid (HJ.out _ _ HA.out)
        clear HJ HA HO
        go_wp2_with fail
        refine HJ1.out.mono ?_
        rintro e w6 ⟨rfl, b1⟩
        have HB1 := Lib.hid (below_then HB.out b1)
        clear b1
        go_wp2
        go_ret
        exact ⟨ret_st2 HN.out, HB1.out⟩
/-- The model's form of every tree that the law measures. -/
theorem spec_format : ∀ (N : Nat) (t : Co.T), t.count ≤ N → t.Ok → t.bulk ≤ 1048576 → FmtT t := by
  intro N
  induction N with
  | zero => intro t h; have := Co.count_pos t; omega
  | succ N ih =>
    intro t hN hok hb
    have hbe := bulk_eq t
    have hcs : t.count ≤ 1048577 := by have := Co.count_bulk _ t (Nat.le_refl _); omega
    have hfl := Co.form_len _ t (Nat.le_refl _) hok
    have hfe := Co.form_eq t
    have hoks := (Co.ok_node hok).2.2
    have hI : ∀ x ∈ t.kids, FmtT x := fun x hx => ih x (by have := kids_count hx; omega) (Co.oks_mem hoks hx) (by have := Co.bulks_mem hx; omega)
    have hj : (Lib.join (Co.forms t.kids) [44, 32]).length ≤ 100000000 := by
      rw [hfe, List.length_append] at hfl
      by_cases h0 : Co.forms t.kids = []
      · rw [h0]; simp [Lib.join_nil]
      · have e : Co.inB (Co.forms t.kids) = [40] ++ Lib.join (Co.forms t.kids) [44, 32] ++ [41] := by unfold Co.inB; rw [if_neg h0]
        rw [e] at hfl
        simp only [List.length_append] at hfl
        omega
    have hks : t.kids.length ≤ 1048576 := by omega
    have zs : (t.text.size : Int) ≤ 1048576 := by omega
    intro w v hk
    rw [hfe]
    cases t with
    | node k p n l s ks =>
      rw [Co.T.Ok] at hok
      have z0 := hok.2.2.1.1
      have z1 := hok.2.2.1.2
      show Calls Tryd.prog 24 #[.agg #[.int .i64 k, .int .i64 p, .int .i64 n, .int .i64 l, .string s, v]] w (RetT w (str8 (Co.lab k p n s ++ Co.inB (Co.forms ks))))
      have hc : k = 2 ∨ k = 3 ∨ k = 11 ∨ k = 1 ∨ (5 ≤ k ∧ k ≤ 10) ∨ (k = 4 ∨ (12 ≤ k ∧ k ≤ 28)) ∨ (k < 1 ∨ 28 < k) := by omega
      rcases hc with rfl | rfl | rfl | rfl | h | h | h
      · exact fmt_2 p n l s ks hI hj hks zs z0 z1 w v hk
      · exact fmt_3 p n l s ks hI hj hks zs z0 z1 w v hk
      · exact fmt_11 p n l s ks hI hj hks zs z0 z1 w v hk
      · exact fmt_1 p n l s ks hI hj hks zs z0 z1 w v hk
      · obtain ⟨m, rfl⟩ : ∃ m : Nat, (m : Int) = k := ⟨k.toNat, by omega⟩
        exact fmt_m m (by omega) (by omega) p n l s ks hI hj hks zs z0 z1 w v hk
      · obtain ⟨m, rfl⟩ : ∃ m : Nat, (m : Int) = k := ⟨k.toNat, by omega⟩
        exact fmt_n m (by omega) p n l s ks hI hj hks zs z0 z1 w v hk
      · exact fmt_0 k h p n l s ks hI hj hks zs z0 z1 w v hk
end Go.Proofs.YtpncmahpcccmlaaDoor.Cr
