/- Joined texts, in the reference model. No conditions. -/
import Derived.Test.YtpncmahpcccmlaaDoorH2
import Derived.Test.YtpncmahpcccmlaaDoorT1
import Derived.Test.YtpncmahpcccmlaaDoorW6
import Derived.Test.YtpncmahpcccmlaaDoorM4
import Derived.Lib.Join
import Derived.Lib.AppendStr
namespace Go.Proofs.YtpncmahpcccmlaaDoor.Cr
open Go.RowKit
set_option linter.unusedVariables false

theorem join_snoc (xs : List (List UInt8)) (y sep : List UInt8) : Lib.join (xs ++ [y]) sep = Lib.join xs sep ++ (if xs = [] then [] else sep) ++ y := by
  cases xs with
  | nil => simp [Lib.join_one, Lib.join_nil]
  | cons x r =>
    rw [List.cons_append, Lib.join_cons, Lib.join_cons, if_neg (by simp)]
    simp [Lib.joinTail]
theorem upto_join (l : List ByteArray) (sep : List UInt8) : ∀ k, k ≤ l.length → Glue.upto l sep k = Lib.join ((l.take k).map fun s => s.data.toList) sep := by
  intro k
  induction k with
  | zero => intro _; simp [Glue.upto, Lib.join_nil]
  | succ k ih =>
    intro hk
    have hk2 : k < l.length := by omega
    rw [List.take_succ_eq_append_getElem hk2, List.map_append, List.map_singleton, join_snoc, ← ih (by omega)]
    show Glue.upto l sep k ++ (if k = 0 then [] else sep) ++ (l.getD k ByteArray.empty).data.toList = _
    rw [List.getD_eq_getElem?_getD, List.getElem?_eq_getElem hk2]
    congr 2
    by_cases h0 : k = 0
    · subst h0; simp
    · rw [if_neg h0, if_neg]
      intro e
      have := congrArg List.length e
      rw [List.length_map, List.length_take, List.length_nil] at this
      omega
theorem upto_all (l : List ByteArray) (sep : List UInt8) : Glue.upto l sep l.length = Lib.join (l.map fun s => s.data.toList) sep := by
  rw [upto_join l sep _ (Nat.le_refl _), List.take_length]
/-- A slice of strings, no longer than its capacity. -/
def StrsAt (w : World) (v : Value) (l : List ByteArray) : Prop := (l = [] ∧ ∃ a c, v = .slice a 0 c) ∨ ∃ g o c, v = .slice (some ⟨g, o, none⟩) l.length c ∧ l.length ≤ c ∧ ∀ (j : Nat) (h : j < l.length), w.cell? ⟨g, o + j, none⟩ = some (.string l[j])
theorem StrsAt.later {w w' : World} {v : Value} {l : List ByteArray} (h : StrsAt w v l) (hb : Below w.heap.size w w') : StrsAt w' v l := by
  rcases h with h | ⟨g, o, c, e, hc, h⟩
  · exact .inl h
  · exact .inr ⟨g, o, c, e, hc, fun j hj => subw_below hb _ _ _ (h j hj)⟩
theorem add_zero_at (g i : Nat) : (⟨g, 0, none⟩ : Addr).add i = ⟨g, i, none⟩ := by
  unfold Addr.add; split <;> simp_all
theorem strsAt_owns {w : World} {base : Nat} {v : Value} {l : List ByteArray} (h : Owns w base v l) : StrsAt w v l := by
  rcases h.2 with ⟨rfl, h0⟩ | ⟨g, cap, cur, rfl, hb, hg, hn, hm, hs, ht⟩
  · exact .inl ⟨List.length_eq_zero_iff.1 h0, _, _, rfl⟩
  · refine .inr ⟨g, 0, cap, rfl, hn, fun i hi => ?_⟩
    have h1 := h.cells (g := g) rfl i (.string l[i]) (by simp [hi])
    rw [Nat.zero_add]
    rw [add_zero_at] at h1
    exact h1
theorem strsAt_empty {w : World} {v : Value} (h : StrsAt w v []) : ∃ a c, v = .slice a 0 c := by
  rcases h with ⟨_, h⟩ | ⟨g, o, c, rfl, _⟩
  · exact h
  · exact ⟨_, _, rfl⟩
theorem strsAt_some {w : World} {v : Value} {l : List ByteArray} (h : StrsAt w v l) (hl : l ≠ []) : ∃ g o c, v = .slice (some ⟨g, o, none⟩) l.length c ∧ l.length ≤ c ∧ ∀ (j : Nat) (h : j < l.length), w.cell? ⟨g, o + j, none⟩ = some (.string l[j]) := by
  rcases h with ⟨h, _⟩ | h
  · exact absurd h hl
  · exact h
theorem upto_step (l : List ByteArray) (sep : List UInt8) {k : Nat} (hk : k < l.length) (h0 : 0 < k) : Glue.upto l sep k ++ sep ++ l[k].data.toList = Glue.upto l sep (k + 1) := by
  rw [Glue.upto_next l sep h0, List.getD_eq_getElem?_getD, List.getElem?_eq_getElem hk]; rfl
theorem upto_start (l : List ByteArray) (sep : List UInt8) (hk : 0 < l.length) : Glue.upto l sep 0 ++ l[0].data.toList = Glue.upto l sep 1 := by
  rw [Glue.upto_first, List.getD_eq_getElem?_getD, List.getElem?_eq_getElem hk]; rfl
theorem own8_slice {w : World} {base : Nat} {v : Value} {l : List UInt8} (h : Own8 w base v l) : ∃ a c, v = .slice a l.length c := by
  rcases h.2 with ⟨hv, h0⟩ | ⟨g, cap, cur, hv, _⟩
  · exact ⟨_, _, by rw [hv, h0]⟩
  · exact ⟨_, _, hv⟩
set_option maxHeartbeats 1600000 in
theorem spec_joined (v : Value) (l : List ByteArray) (s : ByteArray) (w : World) (hr : StrsAt w v l) (hb : (Lib.join (l.map fun s => s.data.toList) s.data.toList).length ≤ 100000000) (hl : l.length ≤ 1048576) (hs : s.size ≤ 16) :
    Calls Tryd.prog 64 #[v, .string s] w (RetT w (str8 (Lib.join (l.map fun s => s.data.toList) s.data.toList))) := by
  unfold RetT
  rw [← upto_all] at hb ⊢
  obtain ⟨i0, hi, hz0, hz1, hz2⟩ := info_parts info8
  by_cases h0 : l = []
  · subst h0
    obtain ⟨a, c, rfl⟩ := strsAt_empty hr
    clear hr hb
    go_enter Tryd.func64, Tryd.ntmps64
    go_wp2
    go_loopw [5, 6] (fun v i wr => i = .int .i64 0 ∧ Own8 wr w.heap.size v [] ∧ Below w.heap.size w wr) (fun _ _ _ => 0)
    case atStart => exact ⟨rfl, World.ownsRow_made w #[] 0 (Nat.le_refl _) (by unfold maxLen; omega) rfl, (Below.refl _ _).alloc (Nat.le_refl _) _⟩
    case round =>
      obtain ⟨rfl, ho, hb⟩ := hrel
      have hcv := conv8 ho
      clear ho
      go_wp2
      go_ret
      exact ⟨rfl, hb⟩
  · obtain ⟨g, off, cap, rfl, hm, hc⟩ := strsAt_some hr h0
    have HC := Lib.hid hc
    have HL : Hid (∀ k, k ≤ l.length → ((Glue.upto l s.data.toList k).length : Int) ≤ 100000000) := Lib.hid (fun k hk => by have := Nat.le_trans (Glue.upto_le l s.data.toList (k := k) (n := l.length) hk) hb; omega)
    have hp := List.length_pos_iff.2 h0
    have HS0 := Lib.hid (upto_start l s.data.toList hp)
    have HSN := Lib.hid (fun k hk h0 => upto_step l s.data.toList (k := k) hk h0)
    clear hr h0 hc hb hm
    go_enter Tryd.func64, Tryd.ntmps64
    go_wp2
    go_loopw [5, 6] (fun v i wr => ∃ k : Nat, i = .int .i64 k ∧ k ≤ l.length ∧ Own8 wr w.heap.size v (Glue.upto l s.data.toList k) ∧ Below w.heap.size w wr) (fun _ i _ => l.length - (intOf i).toNat)
    case atStart => exact ⟨0, rfl, Nat.zero_le _, World.ownsRow_made w #[] 0 (Nat.le_refl _) (by unfold maxLen; omega) rfl, (Below.refl _ _).alloc (Nat.le_refl _) _⟩
    case round =>
      obtain ⟨k, rfl, hk, ho, hb⟩ := hrel
      have HO := Lib.hid ho
      have HB := Lib.hid hb
      have hsz := hb.size
      have hle := HL.out k hk
      clear ho hb
      by_cases hlt : k < l.length
      · have d1 := subw_below HB.out _ _ _ (HC.out k hlt)
        have hle1 := HL.out (k + 1) hlt
        have k0 : (0 : Int) ≤ k := by omega
        have k1 : (k : Int) < l.length := by omega
        by_cases hk0 : k = 0
        · subst hk0
          have hx : (l[0].size : Int) ≤ 100000000 := by
            have h := HS0.out
            have h2 := congrArg List.length h
            rw [List.length_append, len8] at h2
            have h3 := HL.out 1 hlt
            omega
          have HP := Lib.hid HS0.out
          have d0 : wr.cell? ⟨g, off, none⟩ = some (.string l[0]) := d1
          generalize l[0] = x at d0 hx HP
          clear hle1 d1
          go_wp2_with (at_builtin; refine Lib.wpList_append_own_string _ rfl _ _ 22 9 rfl w.heap.size 5 i0 Tryd.underlying22 Tryd.underlying9 hi hz0 hz1 hz2 _ _ _ rfl HO.out x rfl ?c3 ?c4 ?c5 ?_)
          case c3 => unfold maxLen; omega
          case c4 => omega
          case c5 => exact hsz
          intro v' w2 hown' hgrow _
          have ho2 := own8_str hown'
          rw [HP.out] at ho2
          have HO2 := Lib.hid ho2
          have HB2 := Lib.hid (below8_str HB.out HO.out hgrow)
          clear hown' hgrow ho2
          obtain ⟨a2, c2, rfl⟩ := own8_slice HO2.out
          go_wp2
          go_roundw
          case rel => exact ⟨0 + 1, by go_num, by omega, HO2.out, HB2.out⟩
          case measure => first | (simp [intOf]; done) | (simp [intOf]; omega)
        · have hk1 : 0 < k := by omega
          have hx : ((Glue.upto l s.data.toList k).length : Int) + s.size + l[k].size ≤ 100000000 := by
            have h2 := congrArg List.length (HSN.out k hlt hk1)
            rw [List.length_append, List.length_append, len8, len8] at h2
            have h3 := HL.out (k + 1) hlt
            omega
          have HP := Lib.hid (HSN.out k hlt hk1)
          have HD : Hid (∀ W, Below w.heap.size w W → W.cell? ⟨g, off + k, none⟩ = some (.string l[k])) := Lib.hid (fun W hW => subw_below hW _ _ _ (HC.out k hlt))
          generalize l[k] = x at d1 hx HP HD
          clear hle1
          go_wp2_with (at_builtin; refine Lib.wpList_append_own_string _ rfl _ _ 22 9 rfl w.heap.size 5 i0 Tryd.underlying22 Tryd.underlying9 hi hz0 hz1 hz2 _ _ _ rfl HO.out s rfl ?d3 ?d4 ?d5 ?_)
          case d3 => unfold maxLen; omega
          case d4 => omega
          case d5 => exact hsz
          intro v' w2 hown' hgrow _
          have HO2 := Lib.hid (own8_str hown')
          have hb2 := below8_str HB.out HO.out hgrow
          have HB2 := Lib.hid hb2
          have hsz2 := hb2.size
          have d2 := HD.out _ hb2
          have hlen2 : ((Glue.upto l s.data.toList k ++ s.data.toList).length : Int) + x.size ≤ 100000000 := by
            rw [List.length_append, len8]; omega
          clear hown' hgrow hb2 HD d1
          go_wp2_with (at_builtin; refine Lib.wpList_append_own_string _ rfl _ _ 22 9 rfl w.heap.size 5 i0 Tryd.underlying22 Tryd.underlying9 hi hz0 hz1 hz2 _ _ _ rfl HO2.out x rfl ?e3 ?e4 ?e5 ?_)
          case e3 => unfold maxLen; omega
          case e4 => omega
          case e5 => exact hsz2
          intro v3 w3 hown3 hgrow3 _
          have ho3 := own8_str (l := Glue.upto l s.data.toList k ++ s.data.toList) (by rw [List.length_append, len8]; exact hown3)
          rw [HP.out] at ho3
          have HO3 := Lib.hid ho3
          have HB3 := Lib.hid (below8_str HB2.out HO2.out hgrow3)
          clear hown3 hgrow3 ho3 hlen2
          obtain ⟨a3, c3, rfl⟩ := own8_slice HO3.out
          go_wp2
          go_roundw
          case rel => exact ⟨k + 1, by go_num, by omega, HO3.out, HB3.out⟩
          case measure => first | (simp [intOf]; done) | (simp [intOf]; omega)
      · obtain rfl : k = l.length := by omega
        have hcv := conv8 HO.out
        go_wp2
        go_ret
        exact ⟨rfl, HB.out⟩
end Go.Proofs.YtpncmahpcccmlaaDoor.Cr
