/- Joined texts: Y4, Y5, Y6. No conditions besides those that each states. -/
import Derived.Lib.Join
import Derived.Lib.AppendStr
import Derived.Test.YtiiogpafgoeblaaZ4
import Derived.Test.YtiiogpafgoeblaaZ17
/- Joined texts, in the reference model. No conditions. -/
namespace Go.Proofs.Ytiiogpafgoeblaa
open Go.RowKit
set_option linter.unusedVariables false

theorem join_snoc (xs : List (List UInt8)) (y sep : List UInt8) : Lib.join (xs ++ [y]) sep = Lib.join xs sep ++ (if xs = [] then [] else sep) ++ y := by
  cases xs with
  | nil => simp [Lib.join_one, Lib.join_nil]
  | cons x r =>
    rw [List.cons_append, Lib.join_cons, Lib.join_cons, if_neg (by simp)]
    simp [Lib.joinTail]
theorem upto_join (l : List ByteArray) (sep : List UInt8) : ∀ k, k ≤ l.length → Glue.upto l sep k = Lib.join ((l.take k).map fun s => s.data.toList) sep := by
  intro k
  induction k with
  | zero => intro _; simp [Glue.upto, Lib.join_nil]
  | succ k ih =>
    intro hk
    have hk2 : k < l.length := by omega
    rw [List.take_succ_eq_append_getElem hk2, List.map_append, List.map_singleton, join_snoc, ← ih (by omega)]
    show Glue.upto l sep k ++ (if k = 0 then [] else sep) ++ (l.getD k ByteArray.empty).data.toList = _
    rw [List.getD_eq_getElem?_getD, List.getElem?_eq_getElem hk2]
    congr 2
    by_cases h0 : k = 0
    · subst h0; simp
    · rw [if_neg h0, if_neg]
      intro e
      have := congrArg List.length e
      rw [List.length_map, List.length_take, List.length_nil] at this
      omega
theorem upto_all (l : List ByteArray) (sep : List UInt8) : Glue.upto l sep l.length = Lib.join (l.map fun s => s.data.toList) sep := by
  rw [upto_join l sep _ (Nat.le_refl _), List.take_length]
/-- A slice of strings, no longer than its capacity. -/
def StrsAt (w : World) (v : Value) (l : List ByteArray) : Prop := (l = [] ∧ ∃ a c, v = .slice a 0 c) ∨ ∃ g o c, v = .slice (some ⟨g, o, none⟩) l.length c ∧ l.length ≤ c ∧ ∀ (j : Nat) (h : j < l.length), w.cell? ⟨g, o + j, none⟩ = some (.string l[j])
theorem StrsAt.later {w w' : World} {v : Value} {l : List ByteArray} (h : StrsAt w v l) (hb : Below w.heap.size w w') : StrsAt w' v l := by
  rcases h with h | ⟨g, o, c, e, hc, h⟩
  · exact .inl h
  · exact .inr ⟨g, o, c, e, hc, fun j hj => subw_below hb _ _ _ (h j hj)⟩
theorem add_zero_at (g i : Nat) : (⟨g, 0, none⟩ : Addr).add i = ⟨g, i, none⟩ := by
  unfold Addr.add; split <;> simp_all
theorem strsAt_owns {w : World} {base : Nat} {v : Value} {l : List ByteArray} (h : Owns w base v l) : StrsAt w v l := by
  rcases h.2 with ⟨rfl, h0⟩ | ⟨g, cap, cur, rfl, hb, hg, hn, hm, hs, ht⟩
  · exact .inl ⟨List.length_eq_zero_iff.1 h0, _, _, rfl⟩
  · refine .inr ⟨g, 0, cap, rfl, hn, fun i hi => ?_⟩
    have h1 := h.cells (g := g) rfl i (.string l[i]) (by simp [hi])
    rw [Nat.zero_add]
    rw [add_zero_at] at h1
    exact h1
theorem strsAt_empty {w : World} {v : Value} (h : StrsAt w v []) : ∃ a c, v = .slice a 0 c := by
  rcases h with ⟨_, h⟩ | ⟨g, o, c, rfl, _⟩
  · exact h
  · exact ⟨_, _, rfl⟩
theorem strsAt_some {w : World} {v : Value} {l : List ByteArray} (h : StrsAt w v l) (hl : l ≠ []) : ∃ g o c, v = .slice (some ⟨g, o, none⟩) l.length c ∧ l.length ≤ c ∧ ∀ (j : Nat) (h : j < l.length), w.cell? ⟨g, o + j, none⟩ = some (.string l[j]) := by
  rcases h with ⟨h, _⟩ | h
  · exact absurd h hl
  · exact h
theorem upto_step (l : List ByteArray) (sep : List UInt8) {k : Nat} (hk : k < l.length) (h0 : 0 < k) : Glue.upto l sep k ++ sep ++ l[k].data.toList = Glue.upto l sep (k + 1) := by
  rw [Glue.upto_next l sep h0, List.getD_eq_getElem?_getD, List.getElem?_eq_getElem hk]; rfl
theorem upto_start (l : List ByteArray) (sep : List UInt8) (hk : 0 < l.length) : Glue.upto l sep 0 ++ l[0].data.toList = Glue.upto l sep 1 := by
  rw [Glue.upto_first, List.getD_eq_getElem?_getD, List.getElem?_eq_getElem hk]; rfl
theorem own8_slice {w : World} {base : Nat} {v : Value} {l : List UInt8} (h : Own8 w base v l) : ∃ a c, v = .slice a l.length c := by
  rcases h.2 with ⟨hv, h0⟩ | ⟨g, cap, cur, hv, _⟩
  · exact ⟨_, _, by rw [hv, h0]⟩
  · exact ⟨_, _, hv⟩
set_option maxHeartbeats 1600000 in
theorem spec_joined (v : Value) (l : List ByteArray) (s : ByteArray) (w : World) (hr : StrsAt w v l) (hb : (Lib.join (l.map fun s => s.data.toList) s.data.toList).length ≤ 1048576) (hl : l.length ≤ 1048576) (hs : s.size ≤ 16) :
    Calls Try.prog 69 #[v, .string s] w (RetT w (str8 (Lib.join (l.map fun s => s.data.toList) s.data.toList))) := by
  unfold RetT
  rw [← upto_all] at hb ⊢
  obtain ⟨i0, hi, hz0, hz1, hz2⟩ := info_parts info8
  by_cases h0 : l = []
  · subst h0
    obtain ⟨a, c, rfl⟩ := strsAt_empty hr
    clear hr hb
    go_enter Try.func69, Try.ntmps69
    go_wp2
    go_loopw [5, 6] (fun v i wr => i = .int .i64 0 ∧ Own8 wr w.heap.size v [] ∧ Below w.heap.size w wr) (fun _ _ _ => 0)
    case atStart => exact ⟨rfl, World.ownsRow_made w #[] 0 (Nat.le_refl _) (by unfold maxLen; omega) rfl, (Below.refl _ _).alloc (Nat.le_refl _) _⟩
    case round =>
      obtain ⟨rfl, ho, hb⟩ := hrel
      have hcv := conv8 ho
      clear ho
      go_wp2
      go_ret
      exact ⟨rfl, hb⟩
  · obtain ⟨g, off, cap, rfl, hm, hc⟩ := strsAt_some hr h0
    have HC := Lib.hid hc
    have HL : Hid (∀ k, k ≤ l.length → ((Glue.upto l s.data.toList k).length : Int) ≤ 1048576) := Lib.hid (fun k hk => by have := Nat.le_trans (Glue.upto_le l s.data.toList (k := k) (n := l.length) hk) hb; omega)
    have hp := List.length_pos_iff.2 h0
    have HS0 := Lib.hid (upto_start l s.data.toList hp)
    have HSN := Lib.hid (fun k hk h0 => upto_step l s.data.toList (k := k) hk h0)
    clear hr h0 hc hb hm
    go_enter Try.func69, Try.ntmps69
    go_wp2
    go_loopw [5, 6] (fun v i wr => ∃ k : Nat, i = .int .i64 k ∧ k ≤ l.length ∧ Own8 wr w.heap.size v (Glue.upto l s.data.toList k) ∧ Below w.heap.size w wr) (fun _ i _ => l.length - (intOf i).toNat)
    case atStart => exact ⟨0, rfl, Nat.zero_le _, World.ownsRow_made w #[] 0 (Nat.le_refl _) (by unfold maxLen; omega) rfl, (Below.refl _ _).alloc (Nat.le_refl _) _⟩
    case round =>
      obtain ⟨k, rfl, hk, ho, hb⟩ := hrel
      have HO := Lib.hid ho
      have HB := Lib.hid hb
      have hsz := hb.size
      have hle := HL.out k hk
      clear ho hb
      by_cases hlt : k < l.length
      · have d1 := subw_below HB.out _ _ _ (HC.out k hlt)
        have hle1 := HL.out (k + 1) hlt
        have k0 : (0 : Int) ≤ k := by omega
        have k1 : (k : Int) < l.length := by omega
        by_cases hk0 : k = 0
        · subst hk0
          have hx : (l[0].size : Int) ≤ 1048576 := by
            have h := HS0.out
            have h2 := congrArg List.length h
            rw [List.length_append, len8] at h2
            have h3 := HL.out 1 hlt
            omega
          have HP := Lib.hid HS0.out
          have d0 : wr.cell? ⟨g, off, none⟩ = some (.string l[0]) := d1
          generalize l[0] = x at d0 hx HP
          clear hle1 d1
          go_wp2_with (at_builtin; refine Lib.wpList_append_own_string _ rfl _ _ 107 9 rfl w.heap.size 5 i0 Try.underlying107 Try.underlying9 hi hz0 hz1 hz2 _ _ _ rfl HO.out x rfl ?c3 ?c4 ?c5 ?_)
          case c3 => unfold maxLen; omega
          case c4 => omega
          case c5 => exact hsz
          intro v' w2 hown' hgrow _
          have ho2 := own8_str hown'
          rw [HP.out] at ho2
          have HO2 := Lib.hid ho2
          have HB2 := Lib.hid (below8_str HB.out HO.out hgrow)
          clear hown' hgrow ho2
          obtain ⟨a2, c2, rfl⟩ := own8_slice HO2.out
          go_wp2
          go_roundw
          case rel => exact ⟨0 + 1, by go_num, by omega, HO2.out, HB2.out⟩
          case measure => first | (simp [intOf]; done) | (simp [intOf]; omega)
        · have hk1 : 0 < k := by omega
          have hx : ((Glue.upto l s.data.toList k).length : Int) + s.size + l[k].size ≤ 1048576 := by
            have h2 := congrArg List.length (HSN.out k hlt hk1)
            rw [List.length_append, List.length_append, len8, len8] at h2
            have h3 := HL.out (k + 1) hlt
            omega
          have HP := Lib.hid (HSN.out k hlt hk1)
          have HD : Hid (∀ W, Below w.heap.size w W → W.cell? ⟨g, off + k, none⟩ = some (.string l[k])) := Lib.hid (fun W hW => subw_below hW _ _ _ (HC.out k hlt))
          generalize l[k] = x at d1 hx HP HD
          clear hle1
          go_wp2_with (at_builtin; refine Lib.wpList_append_own_string _ rfl _ _ 107 9 rfl w.heap.size 5 i0 Try.underlying107 Try.underlying9 hi hz0 hz1 hz2 _ _ _ rfl HO.out s rfl ?d3 ?d4 ?d5 ?_)
          case d3 => unfold maxLen; omega
          case d4 => omega
          case d5 => exact hsz
          intro v' w2 hown' hgrow _
          have HO2 := Lib.hid (own8_str hown')
          have hb2 := below8_str HB.out HO.out hgrow
          have HB2 := Lib.hid hb2
          have hsz2 := hb2.size
          have d2 := HD.out _ hb2
          have hlen2 : ((Glue.upto l s.data.toList k ++ s.data.toList).length : Int) + x.size ≤ 1048576 := by
            rw [List.length_append, len8]; omega
          clear hown' hgrow hb2 HD d1
          go_wp2_with (at_builtin; refine Lib.wpList_append_own_string _ rfl _ _ 107 9 rfl w.heap.size 5 i0 Try.underlying107 Try.underlying9 hi hz0 hz1 hz2 _ _ _ rfl HO2.out x rfl ?e3 ?e4 ?e5 ?_)
          case e3 => unfold maxLen; omega
          case e4 => omega
          case e5 => exact hsz2
          intro v3 w3 hown3 hgrow3 _
          have ho3 := own8_str (l := Glue.upto l s.data.toList k ++ s.data.toList) (by rw [List.length_append, len8]; exact hown3)
          rw [HP.out] at ho3
          have HO3 := Lib.hid ho3
          have HB3 := Lib.hid (below8_str HB2.out HO2.out hgrow3)
          clear hown3 hgrow3 ho3 hlen2
          obtain ⟨a3, c3, rfl⟩ := own8_slice HO3.out
          go_wp2
          go_roundw
          case rel => exact ⟨k + 1, by go_num, by omega, HO3.out, HB3.out⟩
          case measure => first | (simp [intOf]; done) | (simp [intOf]; omega)
      · obtain rfl : k = l.length := by omega
        have hcv := conv8 HO.out
        go_wp2
        go_ret
        exact ⟨rfl, HB.out⟩
end Go.Proofs.Ytiiogpafgoeblaa
/- Lists of forms, in the reference model. No conditions. -/
namespace Go.Proofs.Ytiiogpafgoeblaa
open Go.RowKit
set_option linter.unusedVariables false

/-- The texts of kids. -/
def fitsS (ks : List Ex.T) (n : Int) : List ByteArray := ks.map fun x => str8 (x.fit n)
theorem fitsS_len (ks : List Ex.T) (n : Int) : (fitsS ks n).length = ks.length := by unfold fitsS; rw [List.length_map]
theorem fitsS_next (ks : List Ex.T) (n : Int) (k : Nat) (h : k < ks.length) : fitsS (ks.take k) n ++ [str8 (ks[k].fit n)] = fitsS (ks.take (k + 1)) n := by
  unfold fitsS; rw [List.take_succ_eq_append_getElem h, List.map_append]; rfl
theorem fitsS_seps (ks : List Ex.T) (sep : List UInt8) : Lib.join ((fitsS ks 0).map fun s => s.data.toList) sep = Ex.seps (Ex.parts ks) sep := by
  unfold fitsS Ex.seps
  rw [Ex.parts_map, List.map_map, List.map_map]
  congr 1
theorem kid_bound {ks : List Ex.T} {sep : List UInt8} (hb : (Ex.seps (Ex.parts ks) sep).length ≤ 1048576) {k : Nat} (hk : k < ks.length) : (Lib.join ((fitsS (ks.take k) 0).map fun s => s.data.toList) sep).length ≤ 1048576 := by
  rw [← fitsS_seps, ← upto_all] at hb
  have h := Glue.upto_le (fitsS ks 0) sep (k := k) (n := (fitsS ks 0).length) (by rw [fitsS_len]; omega)
  rw [upto_join _ _ k (by rw [fitsS_len]; omega)] at h
  have e : (fitsS ks 0).take k = fitsS (ks.take k) 0 := by unfold fitsS; rw [List.map_take]
  rw [e] at h
  omega
set_option maxHeartbeats 1600000 in
theorem spec_list (ks : List Ex.T) (hI : ∀ x ∈ ks, AtC x) (s : ByteArray) (hs : s.size ≤ 16) (hl : ks.length ≤ 24) (hb : (Ex.seps (Ex.parts ks) s.data.toList).length ≤ 1048576) (w : World) (v : Value) (hk : Kids w v ks) :
    Calls Try.prog 65 #[v, .string s] w (RetT w (str8 (Ex.seps (Ex.parts ks) s.data.toList))) := by
  unfold RetT
  obtain ⟨i0, hi, hz0, hz1, hz2⟩ := info_parts info_string
  have HJ := Lib.hid (fun W v' (hv : StrsAt W v' (fitsS ks 0)) => spec_joined v' (fitsS ks 0) s W hv (by rw [fitsS_seps]; exact hb) (by rw [fitsS_len]; omega) hs)
  rw [fitsS_seps] at HJ
  unfold RetT at HJ
  obtain ⟨a, c, rfl⟩ := kids_len hk
  have HK := Lib.hid hk
  have HI := Lib.hid hI
  unfold AtC RetT at HI
  clear hk hI hb
  go_enter Try.func65, Try.ntmps65
  go_wp2
  go_loopw [5, 6] (fun v i wr => ∃ k : Nat, i = .int .i64 k ∧ k ≤ ks.length ∧ Owns wr w.heap.size v (fitsS (ks.take k) 0) ∧ Below w.heap.size w wr) (fun _ i _ => ks.length - (intOf i).toNat)
  case atStart => exact ⟨0, rfl, Nat.zero_le _, World.ownsRow_made w #[] 0 (Nat.le_refl _) (by unfold maxLen; omega) rfl, (Below.refl _ _).alloc (Nat.le_refl _) _⟩
  case round =>
    obtain ⟨k, rfl, hk, ho, hb⟩ := hrel
    have HO := Lib.hid ho
    have HB := Lib.hid hb
    have HK2 := Lib.hid (HK.out.later hb)
    clear ho hb
    by_cases hlt : k < ks.length
    · obtain ⟨g, o, rfl, ht⟩ := kids_at HK2.out k hlt
      obtain ⟨⟨q0, q1, q2, q3⟩, vx, q4, hkv⟩ := tree_cells ht
      have HC := Lib.hid (HI.out ks[k] (List.getElem_mem hlt) 0 wr vx hkv)
      have HN := Lib.hid (fitsS_next ks 0 k hlt)
      have hln : (fitsS (ks.take k) 0).length = k := by rw [fitsS_len, List.length_take]; omega
      have HLN := Lib.hid hln
      have k0 : (0 : Int) ≤ k := by omega
      have k1 : (k : Int) < ks.length := by omega
      clear ht hkv
      generalize ks[k] = x at q0 q1 q2 q3 HC HN
      generalize str8 (x.fit 0) = y at HC HN
      clear hln
      go_wp2_with fail
      refine HC.out.mono ?_
      rintro e w1 ⟨rfl, b1⟩
      have HB1 := Lib.hid (below_then HB.out b1)
      have HO1 := Lib.hid (owns_below HO.out b1)
      have hs1 := HB1.out.size
      clear b1 q0 q1 q2 q3 q4
      go_wp2_with (at_builtin; refine wpList_append_own _ rfl _ _ 23 rfl w.heap.size 9 i0 (.string ByteArray.empty) 1 16 Try.underlying23 hi hz0 hz1 hz2 rfl (by decide) _ _ _ rfl (HO1.out.alloc _) ⟨w1.heap.size, 0, none⟩ 1 1 [.string y] rfl rfl ?c1 ?c2 ?c3 ?c4 ?c5 ?_)
      case c1 => exact new_cell _ _ _
      case c2 => exact one_string _
      case c3 => have := HLN.out; exact max_small (by omega)
      case c4 => have := HLN.out; omega
      case c5 => simp; omega
      intro v' w2 hown' hgrow _
      have ho := owns_app hown'
      rw [HN.out] at ho
      have HO2 := Lib.hid ho
      have HB2 := Lib.hid (below_app HB1.out HO1.out hgrow)
      clear hown' hgrow ho
      go_wp2
      go_roundw
      case rel => exact ⟨k + 1, by go_num, by omega, HO2.out, HB2.out⟩
      case measure => first | (simp [intOf]; done) | (simp [intOf]; omega)
    · obtain rfl : k = ks.length := by omega
      have HA : Hid (StrsAt wr _ (fitsS ks 0)) := Lib.hid (by have h := strsAt_owns HO.out; rw [List.take_length] at h; exact h)
      have HJ1 := Lib.hid (HJ.out _ _ HA.out)
      clear HJ HA HO
      go_wp2_with fail
      refine HJ1.out.mono ?_
      rintro e w1 ⟨rfl, b1⟩
      have HB1 := Lib.hid (below_then HB.out b1)
      clear b1
      go_wp2
      go_ret
      exact ⟨rfl, HB1.out⟩
end Go.Proofs.Ytiiogpafgoeblaa
/- Words before kids, in the reference model. No conditions. -/
namespace Go.Proofs.Ytiiogpafgoeblaa
open Go.RowKit
set_option linter.unusedVariables false

def bytesL (ws : List ByteArray) : List (List UInt8) := ws.map fun s => s.data.toList
theorem words_zero (ws : List ByteArray) (ps : List Ex.Pk) (h : 0 < ws.length) : str8 (Ex.wordsTo (bytesL ws) ps 0) = ws[0] := by
  cases ws with
  | nil => simp at h
  | cons a r => rw [Ex.wordsTo]; exact str8_data a
theorem words_one (ws : List ByteArray) (ks : List Ex.T) (h : 0 < ks.length) : str8 (Ex.wordsTo (bytesL ws) (Ex.parts ks) 0) ++ (⟨#[32]⟩ : ByteArray) ++ str8 (ks[0].fit 1) = str8 (Ex.wordsTo (bytesL ws) (Ex.parts ks) 1) := by
  show _ = str8 (Ex.wordsTo (bytesL ws) (Ex.parts ks) 0 ++ [] ++ [32] ++ (Ex.nth (Ex.parts ks) 0).fit 1)
  rw [Ex.nth_at h]
  apply ByteArray.ext
  simp [str8, Ex.fit_pk]
theorem words_more (ws : List ByteArray) (ks : List Ex.T) {k : Nat} (h0 : 0 < k) (h : k < ks.length) (hw : k < ws.length) : str8 (Ex.wordsTo (bytesL ws) (Ex.parts ks) k) ++ (⟨#[32]⟩ : ByteArray) ++ ws[k] ++ (⟨#[32]⟩ : ByteArray) ++ str8 (ks[k].fit 1) = str8 (Ex.wordsTo (bytesL ws) (Ex.parts ks) (k + 1)) := by
  rw [Ex.wordsTo, if_neg (by omega), Ex.nth_at h]
  have e : (bytesL ws).getD k [] = ws[k].data.toList := by
    unfold bytesL
    rw [List.getD_eq_getElem?_getD, List.getElem?_map, List.getElem?_eq_getElem hw]; rfl
  rw [e]
  apply ByteArray.ext
  simp [str8, Ex.fit_pk]
theorem size_app (a b : ByteArray) : (a ++ b).size = a.size + b.size := by simp
set_option maxHeartbeats 3200000 in
theorem spec_words8 (t : Ex.T) (hI : ∀ x ∈ t.kids, AtC x) (ws : List ByteArray) (hw0 : 0 < ws.length) (hw : t.kids.length ≤ ws.length) (hl : ws.length ≤ 24) (hs : ∀ k (h : k < ws.length), (ws[k].size : Int) ≤ 7)
    (hb : ∀ k, k ≤ t.kids.length → ((str8 (Ex.wordsTo (bytesL ws) (Ex.parts t.kids) k)).size : Int) ≤ 1048576) (hf : ∀ k (h : k < t.kids.length), ((str8 (t.kids[k].fit 1)).size : Int) ≤ 1048576) (w : World) (v vw : Value) (hk : Kids w v t.kids) (hws : StrsAt w vw ws) :
    Calls Try.prog 68 #[exV t v, vw] w (RetT w (str8 (Ex.wordsF (bytesL ws) (Ex.parts t.kids)))) := by
  unfold RetT
  obtain ⟨a, c, rfl⟩ := kids_len hk
  obtain ⟨gw, ow, cw, rfl, hcw, hcell⟩ := strsAt_some hws (fun e => by rw [e] at hw0; simp at hw0)
  have HK := Lib.hid hk
  have HI := Lib.hid hI
  unfold AtC RetT at HI
  have HW := Lib.hid hcell
  have HB := Lib.hid hb
  have HF := Lib.hid hf
  have HSZ := Lib.hid hs
  have HE0 := Lib.hid (CellsE.new w t (.slice a t.kids.length c) 45)
  have HZ := Lib.hid (words_zero ws (Ex.parts t.kids) hw0)
  have hd0 := subw_below (bl1 w (.cells #[.int .i64 t.kind, .string t.text, .int .i64 t.num, .int .i64 t.line, .slice a t.kids.length c] 45)) _ _ _ (hcell 0 hw0)
  rw [← HZ.out, Nat.add_zero] at hd0
  have HWL := Lib.hid hw
  have w0 : (0 : Int) < ws.length := by omega
  have HE : Hid (Ex.wordsF (bytesL ws) (Ex.parts t.kids) = Ex.wordsTo (bytesL ws) (Ex.parts t.kids) t.kids.length) := Lib.hid (by unfold Ex.wordsF; rw [Ex.parts_len])
  clear hk hI hws hcell hb hf hs hcw
  go_enter Try.func68, Try.ntmps68
  go_wp2
  go_loopw [5, 6] (fun r i wr => ∃ k : Nat, i = .int .i64 k ∧ k ≤ t.kids.length ∧ r = .string (str8 (Ex.wordsTo (bytesL ws) (Ex.parts t.kids) k)) ∧ CellsE wr w.heap.size t (.slice a t.kids.length c) ∧ Below w.heap.size w wr) (fun _ i _ => t.kids.length - (intOf i).toNat)
  case atStart => exact ⟨0, rfl, Nat.zero_le _, rfl, HE0.out, bl1 _ _⟩
  case round =>
    clear HE0 hd0 HZ
    obtain ⟨k, rfl, hk, rfl, hce, hb⟩ := hrel
    have HBL := Lib.hid hb
    have HCE := Lib.hid hce
    have HK2 := Lib.hid (HK.out.later hb)
    obtain ⟨e0, e1, e2, e3, e4⟩ := hce
    clear hb e0 e1 e2 e3
    by_cases hlt : k < t.kids.length
    · obtain ⟨g, o, rfl, ht⟩ := kids_at HK2.out k hlt
      obtain ⟨⟨q0, q1, q2, q3⟩, vx, q4, hkv⟩ := tree_cells ht
      have hkw : k < ws.length := by have := HWL.out; omega
      have HC := Lib.hid (HI.out t.kids[k] (List.getElem_mem hlt) 1 wr vx hkv)
      have hz0 := HB.out k (by omega)
      have hz1 := HF.out k hlt
      have k0 : (0 : Int) ≤ k := by omega
      have k1 : (k : Int) < t.kids.length := by omega
      have k2 : (k : Int) < ws.length := by omega
      by_cases hk0 : k = 0
      · subst hk0
        have HN := Lib.hid (words_one ws t.kids hlt)
        simp only [Nat.zero_mul, Nat.add_zero] at q0 q1 q2 q3 q4
        clear ht hkv
        generalize t.kids[0] = x at q0 q1 q2 q3 HC HN hz1
        generalize str8 (x.fit 1) = y at HC HN hz1
        generalize str8 (Ex.wordsTo (bytesL ws) (Ex.parts t.kids) 0) = z at HN hz0 ⊢
        go_wp2_with (go_at_call 66; refine HC.out.mono ?_; rintro e w1 ⟨rfl, b1⟩; have HB1 := Lib.hid (below_then HBL.out b1); have HE1 := Lib.hid (HCE.out.later b1); clear b1)
        go_roundw
        case rel => exact ⟨0 + 1, by go_num, by omega, by rw [← HN.out], HE1.out, HB1.out⟩
        case measure => first | (simp [intOf]; done) | (simp [intOf]; omega)
      · have hk1 : 0 < k := by omega
        have HN := Lib.hid (words_more ws t.kids hk1 hlt hkw)
        have d1 := subw_below HBL.out _ _ _ (HW.out k hkw)
        have hz2 := HSZ.out k hkw
        clear ht hkv
        generalize t.kids[k] = x at q0 q1 q2 q3 HC HN hz1
        generalize str8 (x.fit 1) = y at HC HN hz1
        generalize str8 (Ex.wordsTo (bytesL ws) (Ex.parts t.kids) k) = z at HN hz0 ⊢
        generalize ws[k] = u at HN d1 hz2
        have k3 : (k == 0) = false := by simp; omega
        have k4 : (0 : Int) < k := by omega
        go_wp2_with (go_at_call 66; refine HC.out.mono ?_; rintro e w1 ⟨rfl, b1⟩; have HB1 := Lib.hid (below_then HBL.out b1); have HE1 := Lib.hid (HCE.out.later b1); clear b1)
        go_roundw
        case rel => exact ⟨k + 1, by go_num, by omega, by rw [← HN.out], HE1.out, HB1.out⟩
        case measure => first | (simp [intOf]; done) | (simp [intOf]; omega)
    · obtain rfl : k = t.kids.length := by omega
      go_wp2
      go_ret
      exact ⟨by rw [HE.out]; rfl, HBL.out⟩
end Go.Proofs.Ytiiogpafgoeblaa
