/- The reference model's SplitByte returns the parts of a string, in memory of its own. -/
import Derived.Test.YtmaahoanlgjpgaaW2
import Derived.Test.YtmaahoanlgjpgaaM3
namespace Go.Proofs.Ytmaahoanlgjpgaa
open Go.RowKit
set_option linter.unusedVariables false

theorem info_string : (Try.prog.info? 9).map (fun i => (i.zero, i.size, i.bytes)) = some (some (.string ByteArray.empty), 1, 16) := by kernel_rfl

/-- Strings of the call's own: a slice whose elements are l, in a block from base on. -/
def Owns (w : World) (base : Nat) (v : Value) (l : List ByteArray) : Prop := w.ownsRow base 9 1 v l.length (l.map Value.string)

theorem map_snoc (l : List ByteArray) (x : ByteArray) : (l ++ [x]).map Value.string = l.map Value.string ++ [Value.string x] := by simp

theorem owns_app {w1 : World} {base : Nat} {v' : Value} {l : List ByteArray} {x : ByteArray} (h : w1.ownsRow base 9 1 v' (l.length + 1) (l.map Value.string ++ [Value.string x])) : Owns w1 base v' (l ++ [x]) := by
  unfold Owns; rw [map_snoc, List.length_append]; exact h

theorem below_app {w wr w1 : World} {v : Value} {l : List ByteArray} {o : Obj} (hb : Below w.heap.size w wr) (hown : Owns wr w.heap.size v l) (hg : (wr.alloc o).grownBy w1 v.ownBlock) : Below w.heap.size w w1 :=
  (hb.alloc hb.size o).grown hg (by have := hb.size; simp; omega) (fun k hk => (hown.lt k hk).1)

theorem owns_below {w w1 : World} {base : Nat} {v : Value} {l : List ByteArray} (h : Owns w base v l) (hb : Below w.heap.size w w1) : Owns w1 base v l := by
  refine ⟨h.1, ?_⟩
  rcases h.2 with hn | ⟨g, cap, cur, hv, hg, hgg, r⟩
  · exact .inl hn
  · exact .inr ⟨g, cap, cur, hv, hg, by rw [hb.block g (Array.getElem?_eq_some_iff.1 hgg).1]; exact hgg, r⟩

theorem new_cell (w : World) (x : Value) (t : TypeId) : ∀ (j : Nat) (u : Value), [x][j]? = some u → (w.alloc (.cells #[x] t)).cell? ((⟨w.heap.size, 0, none⟩ : Addr).add j) = some u := by
  intro j u hj
  match j, hj with
  | 0, hj => simp at hj; subst hj; simp [Addr.add]

theorem one_string (x : ByteArray) : ∀ u ∈ [Value.string x], u.oneCell' = true := by
  intro u hu; simp at hu; subst hu; rfl

theorem max_small {n : Nat} (h : n ≤ 1048577) : n ≤ maxLen := by unfold maxLen; omega

set_option maxHeartbeats 400000 in
theorem spec_split (s : ByteArray) (b : Int) (w : World) (hs : (s.size : Int) ≤ 1048576) (hb0 : 0 ≤ b) (hb1 : b ≤ 255) :
    Calls Try.prog 20 #[.string s, .int .u8 b] w fun e w' => ∃ v, e = .returned v ∧ Owns w' w.heap.size v (Cut.all s b) ∧ Below w.heap.size w w' := by
  obtain ⟨i0, hi, hz0, hz1, hz2⟩ := info_parts info_string
  go_enter Try.func20, Try.ntmps20
  go_wp2
  go_loopw [5, 6, 7] (fun v f i wr => ∃ (k f' : Nat) (l : List ByteArray), i = .int .i64 k ∧ f = .int .i64 f' ∧ k ≤ s.size + 1 ∧ Owns wr w.heap.size v l ∧ Below w.heap.size w wr ∧ Cut.At s b k l f') (fun _ _ i _ => s.size + 1 - (intOf i).toNat)
  case atStart => exact ⟨0, 0, [], rfl, rfl, by omega, World.ownsRow_made w #[] 0 (Nat.le_refl _) (by unfold maxLen; omega) rfl, (Below.refl _ _).alloc (Nat.le_refl _) _, Cut.at_start s b⟩
  case round =>
    obtain ⟨k, f, l, rfl, rfl, hk, hown, hbel, hat⟩ := hrel
    by_cases hend : s.size < k
    · have HE := Lib.hid (Cut.at_end hat hend)
      have hk2 : ¬ (k : Int) ≤ s.size := by omega
      clear hat
      go_wp2
      go_ret
      exact ⟨_, rfl, by rw [← HE.out]; exact hown, hbel⟩
    · have hk2 : (k : Int) ≤ s.size := by omega
      obtain ⟨hb1, hb2⟩ := Cut.at_bound hat (by omega)
      have HO := Lib.hid hown
      have HA := Lib.hid hat
      have HB := Lib.hid hbel
      have hsz := hbel.size
      clear hown hat hbel
      by_cases hlast : k = s.size
      · subst hlast
        go_wp2_with (at_builtin; refine wpList_append_own _ rfl _ _ 31 rfl w.heap.size 9 i0 (.string ByteArray.empty) 1 16 Try.underlying31 hi hz0 hz1 hz2 rfl (by decide) _ _ _ rfl (HO.out.alloc _) ⟨wr.heap.size, 0, none⟩ 1 1 [.string (s.extract f s.size)] rfl rfl ?c1 ?c2 ?c3 ?c4 ?c5 ?_)
        case c1 => exact new_cell _ _ _
        case c2 => exact one_string _
        case c3 => exact max_small (by omega)
        case c4 => omega
        case c5 => simp; omega
        intro v' w1 hown' hgrow _
        have ho := Lib.hid (owns_app hown')
        have hb := Lib.hid (below_app HB.out HO.out hgrow)
        clear hown' hgrow
        go_wp2
        go_roundw
        case rel => exact ⟨s.size + 1, s.size + 1, _, by go_num, by go_num, by omega, ho.out, hb.out, Cut.at_last HA.out⟩
        case measure => first | (simp [intOf]; done) | (simp [intOf]; omega)
      · have hlt : k < s.size := by omega
        have hne : ((k : Int) == (s.size : Int)) = false := by simp; omega
        have hne2 : (k == s.size) = false := by simp; omega
        by_cases hhit : (s[k].toNat : Int) = b
        · have hh : ((s[k].toNat : Int) == b) = true := by simpa using hhit
          have HH := Lib.hid hhit
          clear hhit
          go_wp2_with (at_builtin; refine wpList_append_own _ rfl _ _ 31 rfl w.heap.size 9 i0 (.string ByteArray.empty) 1 16 Try.underlying31 hi hz0 hz1 hz2 rfl (by decide) _ _ _ rfl (HO.out.alloc _) ⟨wr.heap.size, 0, none⟩ 1 1 [.string (s.extract f k)] rfl rfl ?d1 ?d2 ?d3 ?d4 ?d5 ?_)
          case d1 => exact new_cell _ _ _
          case d2 => exact one_string _
          case d3 => exact max_small (by omega)
          case d4 => omega
          case d5 => simp; omega
          intro v' w1 hown' hgrow _
          have ho := Lib.hid (owns_app hown')
          have hb := Lib.hid (below_app HB.out HO.out hgrow)
          clear hown' hgrow
          go_wp2
          go_roundw
          case rel => exact ⟨k + 1, k + 1, _, by go_num, by go_num, by omega, ho.out, hb.out, Cut.at_hit HA.out hlt HH.out⟩
          case measure => first | (simp [intOf]; done) | (simp [intOf]; omega)
        · have hh : ((s[k].toNat : Int) == b) = false := by simpa using hhit
          have HH := Lib.hid hhit
          clear hhit
          go_wp2
          go_roundw
          case rel => exact ⟨k + 1, f, l, by go_num, by go_num, by omega, HO.out, HB.out, Cut.at_miss HA.out hlt HH.out⟩
          case measure => first | (simp [intOf]; done) | (simp [intOf]; omega)
end Go.Proofs.Ytmaahoanlgjpgaa
