/- The reference model's and the program's Join, and the helpers of the law on it. -/
import Derived.Test.YtmaahoanlgjpgaaW8
import Derived.Test.YtmaahoanlgjpgaaM4
import Derived.Test.YtmaahoanlgjpgaaShelf
import Derived.Lib.AppendStr
import Derived.Lib.Builder
namespace Go.Proofs.Ytmaahoanlgjpgaa
open Go.RowKit
set_option linter.unusedVariables false

theorem info_byte : (Try.prog.info? 5).map (fun i => (i.zero, i.size, i.bytes)) = some (some (.int .u8 0), 1, 1) := by kernel_rfl

/-- Letters of the call's own. -/
def OwnB (w : World) (base : Nat) (v : Value) (l : List UInt8) : Prop := w.ownsRow base 5 1 v l.length (Lib.byteCells l)

theorem ownb_slice {w : World} {base : Nat} {v : Value} {l : List UInt8} (h : OwnB w base v l) : ∃ a c, v = .slice a l.length c := by
  rcases h.2 with ⟨hv, h0⟩ | ⟨g, cap, cur, hv, _⟩
  · exact ⟨_, _, by rw [hv, h0]⟩
  · exact ⟨_, _, hv⟩
theorem ownb_app {w1 : World} {base : Nat} {v' : Value} {l : List UInt8} {s : ByteArray} (h : w1.ownsRow base 5 1 v' (l.length + s.size) (Lib.byteCells l ++ Lib.strCells s)) : OwnB w1 base v' (l ++ s.data.toList) := by
  unfold OwnB; rw [Lib.byteCells_append, List.length_append, ← size_eq]; exact h
theorem belowb_app {w wr w1 : World} {v : Value} {l : List UInt8} (hb : Below w.heap.size w wr) (hown : OwnB wr w.heap.size v l) (hg : wr.grownBy w1 v.ownBlock) : Below w.heap.size w w1 :=
  hb.grown hg hb.size (fun k hk => (hown.lt k hk).1)

theorem conv_own {w : World} {base : Nat} {v : Value} {l : List UInt8} (h : OwnB w base v l) : (convert 22 9 v).run Try.prog w = .ok (.string ⟨l.toArray⟩) w := by
  rcases h.2 with ⟨rfl, h0⟩ | ⟨g, cap, cur, rfl, _, _, _, _, _, _⟩
  · obtain rfl : l = [] := List.length_eq_zero_iff.1 h0
    exact run_convert_bytes_nil w 22 5 Try.underlying22 Try.underlying5 0 0 9 Try.underlying9
  · exact run_convert_bytes_back w 22 9 5 ⟨g, 0, none⟩ cap l Try.underlying22 Try.underlying5 Try.underlying9 (fun j hj =>
      h.cells (g := g) rfl j _ (by simp [Lib.byteCells, hj]))

/-- Strings that are read, each of at most 1048576 letters. -/
def Small (l : List ByteArray) : Prop := l.length ≤ 1048576 ∧ ∀ i, i < l.length → (l.getD i ByteArray.empty).size ≤ 1048576

set_option maxHeartbeats 800000 in
theorem spec_join (v : Value) (l : List ByteArray) (s : ByteArray) (w : World) (hr : Reads w v l) (hsm : Small l) (hs : (s.size : Int) ≤ 1048576) :
    Calls Try.prog 25 #[v, .string s] w fun e w' => e = .returned (.string ⟨(Glue.joined l s.data.toList).toArray⟩) ∧ Below w.heap.size w w' := by
  obtain ⟨i0, hi, hz0, hz1, hz2⟩ := info_parts info_byte
  by_cases hl : l = []
  · subst hl
    obtain ⟨a, c, rfl⟩ := reads_empty hr
    clear hr hsm
    go_enter Try.func25, Try.ntmps25
    go_wp2
    go_loopw [4, 5, 6] (fun r v i wr => i = .int .i64 0 ∧ OwnB wr w.heap.size v [] ∧ Below w.heap.size w wr) (fun _ _ _ _ => 0)
    case atStart => exact ⟨rfl, World.ownsRow_made w #[] 0 (Nat.le_refl _) (by unfold maxLen; omega) rfl, (Below.refl _ _).alloc (Nat.le_refl _) _⟩
    case round =>
      obtain ⟨rfl, ho, hb⟩ := hrel
      have HO := Lib.hid ho
      have hcv := conv_own ho
      clear ho
      go_wp2
      go_ret
      exact ⟨rfl, hb⟩
  · obtain ⟨g, off, cap, rfl, hm, hc⟩ := reads_some hr hl
    have HC := Lib.hid hc
    have HS := Lib.hid hsm
    have hn1 : l.length ≤ 1048576 := hsm.1
    clear hr hl hc hsm
    generalize hn : l.length = n at *
    have HN := Lib.hid hn
    clear hn hm
    go_enter Try.func25, Try.ntmps25
    go_wp2
    go_loopw [4, 5, 6] (fun r v i wr => ∃ k : Nat, i = .int .i64 k ∧ k ≤ n ∧ OwnB wr w.heap.size v (Glue.upto l s.data.toList k) ∧ (Glue.upto l s.data.toList k).length ≤ 1048576 ∧ Below w.heap.size w wr) (fun _ _ i _ => n - (intOf i).toNat)
    case atStart => exact ⟨0, rfl, Nat.zero_le _, World.ownsRow_made w #[] 0 (Nat.le_refl _) (by unfold maxLen; omega) rfl, Nat.zero_le _, (Below.refl _ _).alloc (Nat.le_refl _) _⟩
    case round =>
      obtain ⟨k, rfl, hk, ho, hle, hb⟩ := hrel
      have HO := Lib.hid ho
      have HB := Lib.hid hb
      have hsz := hb.size
      clear ho hb
      by_cases hlt : k < n
      · have hcell := HC.out k hlt
        have hlg := World.block_lt_of_cell? w _ hcell
        have d1 : wr.cell? ⟨g, off + k, none⟩ = some (.string (l.getD k ByteArray.empty)) := (HB.out.cell hlg).trans hcell
        have hpz : (l.getD k ByteArray.empty).size ≤ 1048576 := HS.out.2 k (by have := HN.out; omega)
        clear hcell
        generalize hx : l.getD k ByteArray.empty = x at d1 hpz
        have HX := Lib.hid hx
        clear hx
        have hmono : k + 1 ≤ n := hlt
        by_cases hk0 : k = 0
        · subst hk0
          have happ : Glue.upto l s.data.toList 0 ++ x.data.toList = Glue.upto l s.data.toList (0 + 1) := by rw [← HX.out]; exact (Glue.upto_first l s.data.toList).symm
          have HP := Lib.hid happ
          have d0 : wr.cell? ⟨g, off, none⟩ = some (.string x) := d1
          clear happ d1
          go_wp2_with (at_builtin; refine Lib.wpList_append_own_string _ rfl _ _ 22 9 rfl w.heap.size 5 i0 Try.underlying22 Try.underlying9 hi hz0 hz1 hz2 _ _ _ rfl HO.out x rfl ?c3 ?c4 ?c5 ?_)
          case c3 => unfold maxLen; omega
          case c4 => omega
          intro v' w2 hown' hgrow _
          have ho2 := ownb_app hown'
          rw [HP.out] at ho2
          have HO2 := Lib.hid ho2
          have HB2 := Lib.hid (belowb_app HB.out HO.out hgrow)
          clear hown' hgrow ho2
          obtain ⟨a2, c2, rfl⟩ := ownb_slice HO2.out
          by_cases hbig : (1048576 : Int) < (Glue.upto l s.data.toList (0 + 1)).length
          · have hj := Lib.hid (Glue.joined_no (k := 0 + 1) (by rw [HN.out]; omega) (by omega : 1048576 < (Glue.upto l s.data.toList (0 + 1)).length))
            go_wp2
            go_ret
            exact ⟨by rw [hj.out]; rfl, HB2.out⟩
          · go_wp2
            go_roundw
            case rel => exact ⟨0 + 1, by go_num, by omega, HO2.out, by omega, HB2.out⟩
            case measure => first | (simp [intOf]; done) | (simp [intOf]; omega)
        · have hk1 : 0 < k := by omega
          have happ : Glue.upto l s.data.toList k ++ s.data.toList ++ x.data.toList = Glue.upto l s.data.toList (k + 1) := by rw [← HX.out]; exact (Glue.upto_next l s.data.toList hk1).symm
          have HP := Lib.hid happ
          clear happ
          go_wp2_with (at_builtin; refine Lib.wpList_append_own_string _ rfl _ _ 22 9 rfl w.heap.size 5 i0 Try.underlying22 Try.underlying9 hi hz0 hz1 hz2 _ _ _ rfl HO.out s rfl ?d3 ?d4 ?d5 ?_)
          case d3 => unfold maxLen; omega
          case d4 => omega
          intro v' w2 hown' hgrow _
          have HO2 := Lib.hid (ownb_app hown')
          have HB2 := Lib.hid (belowb_app HB.out HO.out hgrow)
          clear hown' hgrow
          have hsz2 := HB2.out.size
          have hcell := HC.out k hlt
          have d2 : w2.cell? ⟨g, off + k, none⟩ = some (.string x) := by rw [← HX.out]; exact (HB2.out.cell hlg).trans hcell
          clear hcell d1
          have hlen2 : (Glue.upto l s.data.toList k ++ s.data.toList).length ≤ 2097152 := by
            rw [List.length_append, ← size_eq]; omega
          go_wp2_with (at_builtin; refine Lib.wpList_append_own_string _ rfl _ _ 22 9 rfl w.heap.size 5 i0 Try.underlying22 Try.underlying9 hi hz0 hz1 hz2 _ _ _ rfl HO2.out x rfl ?e3 ?e4 ?e5 ?_)
          case e3 => unfold maxLen; omega
          case e4 => omega
          case e5 => exact hsz2
          intro v3 w3 hown3 hgrow3 _
          have ho3 := ownb_app (l := Glue.upto l s.data.toList k ++ s.data.toList) (by rw [List.length_append, ← size_eq]; exact hown3)
          rw [HP.out] at ho3
          have HO3 := Lib.hid ho3
          have HB3 := Lib.hid (belowb_app HB2.out HO2.out hgrow3)
          clear hown3 hgrow3 ho3 hlen2
          obtain ⟨a3, c3, rfl⟩ := ownb_slice HO3.out
          by_cases hbig : (1048576 : Int) < (Glue.upto l s.data.toList (k + 1)).length
          · have hj := Lib.hid (Glue.joined_no (k := k + 1) (by rw [HN.out]; omega) (by omega : 1048576 < (Glue.upto l s.data.toList (k + 1)).length))
            go_wp2
            go_ret
            exact ⟨by rw [hj.out]; rfl, HB3.out⟩
          · go_wp2
            go_roundw
            case rel => exact ⟨k + 1, by go_num, by omega, HO3.out, by omega, HB3.out⟩
            case measure => first | (simp [intOf]; done) | (simp [intOf]; omega)
      · obtain rfl : k = n := by omega
        have hcv := conv_own HO.out
        go_wp2
        go_ret
        exact ⟨by rw [Glue.joined_yes (by rw [HN.out]; exact hle), HN.out]; rfl, HB.out⟩
end Go.Proofs.Ytmaahoanlgjpgaa
