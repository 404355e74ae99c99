/- CsetText of the program and of the reference model: the elements in ascending order. No conditions. -/
import Derived.Test.YtlbidfegcfcaiaaDoorC4
import Derived.Test.YtlbidfegcfcaiaaDoorC7
import Derived.Laws.BytesArg
import Derived.OwnWalk
namespace Go.Proofs.YtlbidfegcfcaiaaDoor
open Go.RowKit
set_option linter.unusedVariables false

theorem info_u8 : (Tryd.prog.info? 5).map (fun i => (i.zero, i.size, i.bytes)) = some (some (.int .u8 0), 1, 1) := by kernel_rfl

/-- Bytes of the call's own: a slice whose elements are l, in a block from base on. -/
def OwnB (w : World) (base : Nat) (v : Value) (l : List Nat) : Prop := w.ownsRow base 5 1 v l.length (l.map fun n : Nat => Value.int .u8 n)
/-- Bytes as a string. -/
def txt (l : List Nat) : ByteArray := ⟨(l.map UInt8.ofNat).toArray⟩
theorem txt_size (l : List Nat) : (txt l).size = l.length := by simp [txt, ByteArray.size]
theorem txt_nums (l : List Nat) : strOfNums (l.map fun n : Nat => (n : Int)) = txt l := by
  unfold strOfNums txt; simp
theorem ownB_app {w1 : World} {base : Nat} {v' : Value} {l : List Nat} {x : Nat} (h : w1.ownsRow base 5 1 v' (l.length + 1) ((l.map fun n : Nat => Value.int .u8 n) ++ [Value.int .u8 x])) : OwnB w1 base v' (l ++ [x]) := by
  unfold OwnB; rw [List.map_append, List.length_append]; exact h
theorem belowB_app {w wr w1 : World} {B : Nat} {v : Value} {l : List Nat} {o : Obj} (hb : Below w.heap.size w wr) (hB : w.heap.size ≤ B) (hB2 : B ≤ wr.heap.size) (hown : OwnB wr B v l) (hg : (wr.alloc o).grownBy w1 v.ownBlock) : Below w.heap.size w w1 :=
  (hb.alloc hb.size o).grown hg (by have := hb.size; simp; omega) (fun k hk => Nat.le_trans hB (hown.lt k hk).1)
/-- What lies below the row is as it was. -/
theorem belowB_row {wr w1 : World} {B : Nat} {v : Value} {l : List Nat} {o : Obj} (hB2 : B ≤ wr.heap.size) (hown : OwnB wr B v l) (hg : (wr.alloc o).grownBy w1 v.ownBlock) : Below B wr w1 :=
  ((Below.refl B wr).alloc hB2 o).grown hg (by simp; omega) (fun k hk => (hown.lt k hk).1)
theorem ownB_below {w w1 : World} {base : Nat} {v : Value} {l : List Nat} (h : OwnB w base v l) (hb : Below w.heap.size w w1) : OwnB w1 base v l := by
  refine ⟨h.1, ?_⟩
  rcases h.2 with hn | ⟨g, cap, cur, hv, hg, hgg, r⟩
  · exact .inl hn
  · exact .inr ⟨g, cap, cur, hv, hg, by rw [hb.block g (Array.getElem?_eq_some_iff.1 hgg).1]; exact hgg, r⟩
theorem new_byte (w : World) (x : Value) (t : TypeId) : ∀ (j : Nat) (u : Value), [x][j]? = some u → (w.alloc (.cells #[x] t)).cell? ((⟨w.heap.size, 0, none⟩ : Addr).add j) = some u := by
  intro j u hj
  match j, hj with
  | 0, hj => simp at hj; subst hj; simp [Addr.add]
theorem one_byte (k : IntKind) (x : Int) : ∀ u ∈ [Value.int k x], u.oneCell' = true := by
  intro u hu; simp at hu; subst hu; rfl
theorem conv_own {w : World} {base : Nat} {v : Value} {l : List Nat} (h : OwnB w base v l) : (convert 22 9 v).run Tryd.prog w = .ok (.string (txt l)) w := by
  have h2 := h.2
  rcases h2 with ⟨rfl, h0⟩ | ⟨g, cap, cur, rfl, hg⟩
  · have : l = [] := List.length_eq_zero_iff.1 h0
    subst this
    exact run_convert_bytes_nil (P := Tryd.prog) w 22 5 Tryd.underlying22 Tryd.underlying5 0 0 9 Tryd.underlying9
  · have e := run_convert_bytes_arg (P := Tryd.prog) w 22 5 Tryd.underlying22 Tryd.underlying5 g 0 l.length cap (l.map fun n : Nat => (n : Int)) (by simp) (fun i hi => by
      rw [Nat.zero_add, h.cellAt i (by omega)]
      simp [List.getD, List.getElem?_eq_getElem hi]) 9 Tryd.underlying9
    rw [txt_nums] at e
    exact e

theorem SetAt.below {w wx : World} {B b : Nat} {l h : Int} (s : SetAt w b l h) (hb : Below B w wx) (hB : b < B) : SetAt wx b l h :=
  ⟨(hb.cell (p := ⟨b, 0, none⟩) hB).trans s.1, (hb.cell (p := ⟨b, 1, none⟩) hB).trans s.2⟩

/-- The state of the loops: the set's variable, the bytes so far. -/
def TextAt (w : World) (a b : Int) (k : Nat) (v : Value) (wr : World) : Prop := SetAt wr w.heap.size a b ∧ OwnB wr (w.heap.size + 1) v (Cs.textTo a b k) ∧ Below w.heap.size w wr
theorem TextAt.lt {w wr : World} {a b : Int} {k : Nat} {v : Value} (h : TextAt w a b k v wr) : w.heap.size < wr.heap.size := h.1.lt
theorem TextAt.later {w wr wx : World} {a b : Int} {k : Nat} {v : Value} (h : TextAt w a b k v wr) (hb : Below wr.heap.size wr wx) : TextAt w a b k v wx :=
  ⟨h.1.later hb, ownB_below h.2.1 hb, below_step h.2.2 hb⟩
theorem TextAt.no {w wr : World} {a b : Int} {k : Nat} {v : Value} (h : TextAt w a b k v wr) (hm : Cs.mem a b k = false) : TextAt w a b (k + 1) v wr := by
  refine ⟨h.1, ?_, h.2.2⟩
  rw [Cs.textTo_succ, if_neg (by simp [hm]), List.append_nil]; exact h.2.1
theorem TextAt.yes {w wr w1 : World} {a b : Int} {k : Nat} {v v' : Value} {o : Obj} (h : TextAt w a b k v wr) (hm : Cs.mem a b k = true)
    (hown : w1.ownsRow (w.heap.size + 1) 5 1 v' ((Cs.textTo a b k).length + 1) (((Cs.textTo a b k).map fun n : Nat => Value.int .u8 n) ++ [Value.int .u8 k])) (hg : (wr.alloc o).grownBy w1 v.ownBlock) : TextAt w a b (k + 1) v' w1 := by
  refine ⟨h.1.below (belowB_row h.lt h.2.1 hg) (Nat.lt_succ_self _), ?_, belowB_app h.2.2 (Nat.le_succ _) h.lt h.2.1 hg⟩
  rw [Cs.textTo_succ, if_pos hm]; exact ownB_app hown
theorem TextAt.start (w : World) (a b : Int) (T : TypeId) : TextAt w a b 0 (.slice (some ⟨w.heap.size + 1, 0, none⟩) 0 0) ((w.alloc (.cells #[.int .i64 a, .int .i64 b] T)).alloc (.cells #[] 5)) := by
  have hz : (w.alloc (.cells #[.int .i64 a, .int .i64 b] T)).heap.size = w.heap.size + 1 := by simp
  have h := World.ownsRow_made (base := w.heap.size + 1) (e := 5) (size := 1) (w.alloc (.cells #[.int .i64 a, .int .i64 b] T)) #[] 0 (Nat.le_of_eq hz.symm) (by unfold maxLen; omega) rfl
  rw [hz] at h
  exact ⟨(SetAt.new w a b T).later (bl1 _ _), h, bl2 _ _ _⟩
theorem len_small {n : Nat} (h : n ≤ 128) : n + 1 ≤ maxLen := by unfold maxLen; omega
def RetText (w : World) (s : ByteArray) (e : Ending) (w' : World) : Prop := e = .returned (.string s) ∧ Below w.heap.size w w'

set_option maxHeartbeats 800000 in
theorem spec_text (a b : Int) (w : World) : Calls Tryd.prog 42 #[.agg #[.int .i64 a, .int .i64 b]] w (RetText w (txt (Cs.text a b))) := by
  obtain ⟨i0, hi, hz0, hz1, hz2⟩ := info_parts info_u8
  go_enter Tryd.func42, Tryd.ntmps42
  go_wp2
  go_loopw [3, 4] (fun v i wr => ∃ k : Nat, i = .int .i64 k ∧ k ≤ 128 ∧ TextAt w a b k v wr) (fun _ i _ => 128 - (intOf i).toNat)
  case atStart => exact ⟨0, rfl, by omega, TextAt.start w a b _⟩
  case round =>
    obtain ⟨k, rfl, hk, ht⟩ := hrel
    have HT := Lib.hid ht
    by_cases hlt : (k : Int) < 128
    · obtain ⟨c0, c1⟩ := ht.1
      have hl := ht.lt
      have hle := Cs.textTo_len a b k
      clear ht
      go_wp2_with fail
      refine (spec_has _ _ _ _ (by omega) (by omega)).mono ?_
      rw [Int.toNat_natCast]
      rintro e w1 ⟨rfl, hb1⟩
      have HT1 := Lib.hid (HT.out.later hb1)
      have hl1 := HT1.out.lt
      clear hb1 c0 c1
      by_cases hm : Cs.mem a b k = true
      · go_wp2_with (at_builtin; refine wpList_append_own _ rfl _ _ 22 rfl (w.heap.size + 1) 5 i0 (.int .u8 0) 1 1 Tryd.underlying22 hi hz0 hz1 hz2 rfl (by decide) _ _ _ rfl (HT1.out.2.1.alloc _) ⟨w1.heap.size, 0, none⟩ 1 1 [.int .u8 k] rfl rfl ?c1 ?c2 ?c3 ?c4 ?c5 ?_)
        case c1 => exact new_byte _ _ _
        case c2 => exact one_byte _ _
        case c3 => exact len_small (by omega)
        case c4 => omega
        case c5 => simp; omega
        intro v' w2 hown' hgrow _
        have ho := Lib.hid (HT1.out.yes hm hown' hgrow)
        clear hown' hgrow
        go_wp2
        go_roundw
        case rel => exact ⟨k + 1, by go_num, by omega, ho.out⟩
        case measure => first | (simp [intOf]; done) | (simp [intOf]; omega)
      · have hm2 : Cs.mem a b k = false := by simpa using hm
        clear hm
        have ho := Lib.hid (HT1.out.no hm2)
        go_wp2
        go_roundw
        case rel => exact ⟨k + 1, by go_num, by omega, ho.out⟩
        case measure => first | (simp [intOf]; done) | (simp [intOf]; omega)
    · obtain rfl : k = 128 := by omega
      have hc := conv_own ht.2.1
      have HB := Lib.hid ht.2.2
      clear ht
      go_wp2
      go_ret
      exact ⟨rfl, HB.out⟩

set_option maxHeartbeats 800000 in
theorem impl_text (a b : Int) (w : World) : Calls Tryd.prog 35 #[.agg #[.int .i64 a, .int .i64 b]] w (RetText w (txt (Cs.text a b))) := by
  obtain ⟨i0, hi, hz0, hz1, hz2⟩ := info_parts info_u8
  have hsz := Cs.textTo_len a b 128
  have HS := Lib.hid (fun W => impl_size a b W)
  go_enter Tryd.func35, Tryd.ntmps35
  go_wp2_with fail
  refine (HS.out _).mono ?_
  rintro e w0 ⟨rfl, hb0⟩
  have HS0 := Lib.hid ((SetAt.new w a b _).later hb0)
  have HB0 := Lib.hid (below_step (bl1 _ _) hb0)
  have hl0 := HS0.out.lt
  clear hb0
  have hsz2 : (Cs.text a b).length ≤ 128 := hsz
  obtain ⟨w1, hmk, hown, hgr⟩ := run_make_own (P := Tryd.prog) w0 (w.heap.size + 1) 22 5 i0 (.int .u8 0) 1 Tryd.underlying22 hi hz0 hz1 .i64 .i64 (Cs.text a b).length (by rw [hz2]; omega) (by unfold maxLen; omega) hl0
  have hb1 : Below w0.heap.size w0 w1 := (Below.refl _ _).grown hgr (Nat.le_refl _) (fun k hk => by cases hk)
  have HT := Lib.hid (show TextAt w a b 0 _ w1 from ⟨HS0.out.later hb1, hown, below_step HB0.out hb1⟩)
  clear hown hgr hb1
  go_wp2
  go_loopw [3, 4, 8] (fun v _ i wr => ∃ k : Nat, i = .int .u8 k ∧ k ≤ 128 ∧ TextAt w a b k v wr) (fun _ _ i _ => 128 - (intOf i).toNat)
  case atStart => exact ⟨0, rfl, by omega, HT.out⟩
  case round =>
    clear hmk HT HS0 HB0
    obtain ⟨k, rfl, hk, ht⟩ := hrel
    have HT := Lib.hid ht
    by_cases hlt : (k : Int) < 128
    · obtain ⟨c0, c1⟩ := ht.1
      have hl := ht.lt
      have hle := Cs.textTo_len a b k
      clear ht
      go_wp2_with fail
      refine (impl_has _ _ _ _ (by omega) (by omega)).mono ?_
      rw [Int.toNat_natCast]
      rintro e w2 ⟨rfl, hb2⟩
      have HT1 := Lib.hid (HT.out.later hb2)
      have hl1 := HT1.out.lt
      clear hb2 c0 c1
      by_cases hm : Cs.mem a b k = true
      · go_wp2_with (at_builtin; refine wpList_append_own _ rfl _ _ 22 rfl (w.heap.size + 1) 5 i0 (.int .u8 0) 1 1 Tryd.underlying22 hi hz0 hz1 hz2 rfl (by decide) _ _ _ rfl (HT1.out.2.1.alloc _) ⟨w2.heap.size, 0, none⟩ 1 1 [.int .u8 k] rfl rfl ?c1 ?c2 ?c3 ?c4 ?c5 ?_)
        case c1 => exact new_byte _ _ _
        case c2 => exact one_byte _ _
        case c3 => exact len_small (by omega)
        case c4 => omega
        case c5 => simp; omega
        intro v' w3 hown' hgrow _
        have ho := Lib.hid (HT1.out.yes hm hown' hgrow)
        clear hown' hgrow
        go_wp2
        go_roundw
        case rel => exact ⟨k + 1, by go_num, by omega, ho.out⟩
        case measure => first | (simp [intOf]; done) | (simp [intOf]; omega)
      · have hm2 : Cs.mem a b k = false := by simpa using hm
        clear hm
        have ho := Lib.hid (HT1.out.no hm2)
        go_wp2
        go_roundw
        case rel => exact ⟨k + 1, by go_num, by omega, ho.out⟩
        case measure => first | (simp [intOf]; done) | (simp [intOf]; omega)
    · obtain rfl : k = 128 := by omega
      have hc := conv_own ht.2.1
      have HB := Lib.hid ht.2.2
      clear ht
      go_wp2
      go_ret
      exact ⟨rfl, HB.out⟩

end Go.Proofs.YtlbidfegcfcaiaaDoor
