/- Joined texts: C7, C8, W1, W2, W3, I1, I2. No conditions besides those that each states. -/
import Derived.Deep.QuietTactic
import Derived.BigQuiet
import Derived.Laws.BytesArg
import Derived.OwnWalk
import Derived.Test.YtfhakailbikjkaaGreatDoorProg
import Derived.WalkKit
import Derived.ProofKit
import Derived.WalkLawsBesides
import Derived.WalkSpells
import Derived.Lib.Hide
import Derived.Test.YtfhakailbikjkaaGreatDoorShelf
import Derived.Lib.TrimByte
import Derived.Test.YtfhakailbikjkaaGreatDoorZ1
import Derived.Test.YtfhakailbikjkaaGreatDoorZ4
import Derived.Test.YtfhakailbikjkaaGreatDoorZ7
/- CsetSize of the program: how many elements a set has. No conditions. -/
namespace Go.Proofs.YtfhakailbikjkaaGreatDoor
open Go.RowKit
set_option linter.unusedVariables false

/-- A word as a number without sign. -/
def Cs.word (l : Int) : Nat := (BitVec.ofInt 64 l).toNat
theorem Cs.word_lt (l : Int) : Cs.word l < 18446744073709551616 := (BitVec.ofInt 64 l).isLt
theorem Cs.wrap_word (l : Int) : IntKind.u64.wrap l = (Cs.word l : Int) := by
  have : IntKind.u64.wrap l = l % 18446744073709551616 := by simp [IntKind.wrap, IntKind.bits, IntKind.signed]
  rw [this]; unfold Cs.word
  rw [BitVec.toNat_ofInt]
  omega
/-- How many elements lie in a word. -/
def Cs.pop (l : Int) : Nat := ((List.range 64).filter (Cs.bitAt l)).length
theorem Cs.dsum_pop (l : Int) : Cs.dsum 1 64 (Cs.word l) = Cs.pop l := Cs.dsum_bits 64 _
theorem Cs.pop_le (l : Int) : Cs.pop l ≤ 64 := by
  have := List.length_filter_le (Cs.bitAt l) (List.range 64)
  simpa [Cs.pop] using this
theorem Cs.text_pop (l h : Int) : (Cs.text l h).length = Cs.pop l + Cs.pop h := by
  unfold Cs.text Cs.pop
  rw [show List.range 128 = List.range 64 ++ (List.range 64).map (64 + ·) from by decide, List.filter_append, List.length_append, List.filter_map, List.length_map]
  have e1 : List.filter (Cs.mem l h) (List.range 64) = List.filter (Cs.bitAt l) (List.range 64) := List.filter_congr fun x hx => Cs.mem_low (by rw [List.mem_range] at hx; exact hx)
  have e2 : List.filter (Cs.mem l h ∘ fun x => 64 + x) (List.range 64) = List.filter (Cs.bitAt h) (List.range 64) := List.filter_congr fun x hx => by
    rw [List.mem_range] at hx
    show Cs.mem l h (64 + x) = _
    rw [Cs.mem_high (by omega) (by omega), Nat.add_sub_cancel_left]
  rw [e1, e2]

theorem ones_word (l : Int) (w : World) : Calls Tryz.prog 87 #[.int .u64 (IntKind.u64.wrap l)] w fun e w' => e = .returned (.int .i64 (Cs.pop l)) ∧ w' = w := by
  rw [← Cs.dsum_pop, Cs.wrap_word]
  exact (ones _ (Cs.word_lt l) w).mono fun e w' ⟨h1, h2⟩ => ⟨h1, h2.symm⟩
theorem impl_size (a b : Int) (w : World) : Calls Tryz.prog 69 #[.agg #[.int .i64 a, .int .i64 b]] w fun e w' => e = .returned (.int .i64 ((Cs.text a b).length : Nat)) ∧ Below w.heap.size w w' := by
  rw [Cs.text_pop]
  have h1 := Cs.pop_le a
  have h2 := Cs.pop_le b
  go_enter Tryz.func69, Tryz.ntmps69
  go_wp2
  go_quiet ((go_at_call 87; exact Calls.quiet_of_same (ones_word _ _)))
  go_wp2
  go_ret
  exact ⟨ret_i (Int.natCast_add _ _).symm, below_drewN (bl1 _ _) _⟩
end Go.Proofs.YtfhakailbikjkaaGreatDoor
/- CsetText of the program and of the reference model: the elements in ascending order. No conditions. -/
namespace Go.Proofs.YtfhakailbikjkaaGreatDoor
open Go.RowKit
set_option linter.unusedVariables false

theorem info_u8 : (Tryz.prog.info? 5).map (fun i => (i.zero, i.size, i.bytes)) = some (some (.int .u8 0), 1, 1) := by kernel_rfl

/-- Bytes of the call's own: a slice whose elements are l, in a block from base on. -/
def OwnB (w : World) (base : Nat) (v : Value) (l : List Nat) : Prop := w.ownsRow base 5 1 v l.length (l.map fun n : Nat => Value.int .u8 n)
/-- Bytes as a string. -/
def txt (l : List Nat) : ByteArray := ⟨(l.map UInt8.ofNat).toArray⟩
theorem txt_size (l : List Nat) : (txt l).size = l.length := by simp [txt, ByteArray.size]
theorem txt_nums (l : List Nat) : strOfNums (l.map fun n : Nat => (n : Int)) = txt l := by
  unfold strOfNums txt; simp
theorem ownB_app {w1 : World} {base : Nat} {v' : Value} {l : List Nat} {x : Nat} (h : w1.ownsRow base 5 1 v' (l.length + 1) ((l.map fun n : Nat => Value.int .u8 n) ++ [Value.int .u8 x])) : OwnB w1 base v' (l ++ [x]) := by
  unfold OwnB; rw [List.map_append, List.length_append]; exact h
theorem belowB_app {w wr w1 : World} {B : Nat} {v : Value} {l : List Nat} {o : Obj} (hb : Below w.heap.size w wr) (hB : w.heap.size ≤ B) (hB2 : B ≤ wr.heap.size) (hown : OwnB wr B v l) (hg : (wr.alloc o).grownBy w1 v.ownBlock) : Below w.heap.size w w1 :=
  (hb.alloc hb.size o).grown hg (by have := hb.size; simp; omega) (fun k hk => Nat.le_trans hB (hown.lt k hk).1)
/-- What lies below the row is as it was. -/
theorem belowB_row {wr w1 : World} {B : Nat} {v : Value} {l : List Nat} {o : Obj} (hB2 : B ≤ wr.heap.size) (hown : OwnB wr B v l) (hg : (wr.alloc o).grownBy w1 v.ownBlock) : Below B wr w1 :=
  ((Below.refl B wr).alloc hB2 o).grown hg (by simp; omega) (fun k hk => (hown.lt k hk).1)
theorem ownB_below {w w1 : World} {base : Nat} {v : Value} {l : List Nat} (h : OwnB w base v l) (hb : Below w.heap.size w w1) : OwnB w1 base v l := by
  refine ⟨h.1, ?_⟩
  rcases h.2 with hn | ⟨g, cap, cur, hv, hg, hgg, r⟩
  · exact .inl hn
  · exact .inr ⟨g, cap, cur, hv, hg, by rw [hb.block g (Array.getElem?_eq_some_iff.1 hgg).1]; exact hgg, r⟩
theorem new_byte (w : World) (x : Value) (t : TypeId) : ∀ (j : Nat) (u : Value), [x][j]? = some u → (w.alloc (.cells #[x] t)).cell? ((⟨w.heap.size, 0, none⟩ : Addr).add j) = some u := by
  intro j u hj
  match j, hj with
  | 0, hj => simp at hj; subst hj; simp [Addr.add]
theorem one_byte (k : IntKind) (x : Int) : ∀ u ∈ [Value.int k x], u.oneCell' = true := by
  intro u hu; simp at hu; subst hu; rfl
theorem conv_own {w : World} {base : Nat} {v : Value} {l : List Nat} (h : OwnB w base v l) : (convert 22 9 v).run Tryz.prog w = .ok (.string (txt l)) w := by
  have h2 := h.2
  rcases h2 with ⟨rfl, h0⟩ | ⟨g, cap, cur, rfl, hg⟩
  · have : l = [] := List.length_eq_zero_iff.1 h0
    subst this
    exact run_convert_bytes_nil (P := Tryz.prog) w 22 5 Tryz.underlying22 Tryz.underlying5 0 0 9 Tryz.underlying9
  · have e := run_convert_bytes_arg (P := Tryz.prog) w 22 5 Tryz.underlying22 Tryz.underlying5 g 0 l.length cap (l.map fun n : Nat => (n : Int)) (by simp) (fun i hi => by
      rw [Nat.zero_add, h.cellAt i (by omega)]
      simp [List.getD, List.getElem?_eq_getElem hi]) 9 Tryz.underlying9
    rw [txt_nums] at e
    exact e

theorem SetAt.below {w wx : World} {B b : Nat} {l h : Int} (s : SetAt w b l h) (hb : Below B w wx) (hB : b < B) : SetAt wx b l h :=
  ⟨(hb.cell (p := ⟨b, 0, none⟩) hB).trans s.1, (hb.cell (p := ⟨b, 1, none⟩) hB).trans s.2⟩

/-- The state of the loops: the set's variable, the bytes so far. -/
def TextAt (w : World) (a b : Int) (k : Nat) (v : Value) (wr : World) : Prop := SetAt wr w.heap.size a b ∧ OwnB wr (w.heap.size + 1) v (Cs.textTo a b k) ∧ Below w.heap.size w wr
theorem TextAt.lt {w wr : World} {a b : Int} {k : Nat} {v : Value} (h : TextAt w a b k v wr) : w.heap.size < wr.heap.size := h.1.lt
theorem TextAt.later {w wr wx : World} {a b : Int} {k : Nat} {v : Value} (h : TextAt w a b k v wr) (hb : Below wr.heap.size wr wx) : TextAt w a b k v wx :=
  ⟨h.1.later hb, ownB_below h.2.1 hb, below_step h.2.2 hb⟩
theorem TextAt.no {w wr : World} {a b : Int} {k : Nat} {v : Value} (h : TextAt w a b k v wr) (hm : Cs.mem a b k = false) : TextAt w a b (k + 1) v wr := by
  refine ⟨h.1, ?_, h.2.2⟩
  rw [Cs.textTo_succ, if_neg (by simp [hm]), List.append_nil]; exact h.2.1
theorem TextAt.yes {w wr w1 : World} {a b : Int} {k : Nat} {v v' : Value} {o : Obj} (h : TextAt w a b k v wr) (hm : Cs.mem a b k = true)
    (hown : w1.ownsRow (w.heap.size + 1) 5 1 v' ((Cs.textTo a b k).length + 1) (((Cs.textTo a b k).map fun n : Nat => Value.int .u8 n) ++ [Value.int .u8 k])) (hg : (wr.alloc o).grownBy w1 v.ownBlock) : TextAt w a b (k + 1) v' w1 := by
  refine ⟨h.1.below (belowB_row h.lt h.2.1 hg) (Nat.lt_succ_self _), ?_, belowB_app h.2.2 (Nat.le_succ _) h.lt h.2.1 hg⟩
  rw [Cs.textTo_succ, if_pos hm]; exact ownB_app hown
theorem TextAt.start (w : World) (a b : Int) (T : TypeId) : TextAt w a b 0 (.slice (some ⟨w.heap.size + 1, 0, none⟩) 0 0) ((w.alloc (.cells #[.int .i64 a, .int .i64 b] T)).alloc (.cells #[] 5)) := by
  have hz : (w.alloc (.cells #[.int .i64 a, .int .i64 b] T)).heap.size = w.heap.size + 1 := by simp
  have h := World.ownsRow_made (base := w.heap.size + 1) (e := 5) (size := 1) (w.alloc (.cells #[.int .i64 a, .int .i64 b] T)) #[] 0 (Nat.le_of_eq hz.symm) (by unfold maxLen; omega) rfl
  rw [hz] at h
  exact ⟨(SetAt.new w a b T).later (bl1 _ _), h, bl2 _ _ _⟩
theorem len_small {n : Nat} (h : n ≤ 128) : n + 1 ≤ maxLen := by unfold maxLen; omega
def RetText (w : World) (s : ByteArray) (e : Ending) (w' : World) : Prop := e = .returned (.string s) ∧ Below w.heap.size w w'

set_option maxHeartbeats 800000 in
theorem spec_text (a b : Int) (w : World) : Calls Tryz.prog 47 #[.agg #[.int .i64 a, .int .i64 b]] w (RetText w (txt (Cs.text a b))) := by
  obtain ⟨i0, hi, hz0, hz1, hz2⟩ := info_parts info_u8
  go_enter Tryz.func47, Tryz.ntmps47
  go_wp2
  go_loopw [3, 4] (fun v i wr => ∃ k : Nat, i = .int .i64 k ∧ k ≤ 128 ∧ TextAt w a b k v wr) (fun _ i _ => 128 - (intOf i).toNat)
  case atStart => exact ⟨0, rfl, by omega, TextAt.start w a b _⟩
  case round =>
    obtain ⟨k, rfl, hk, ht⟩ := hrel
    have HT := Lib.hid ht
    by_cases hlt : (k : Int) < 128
    · obtain ⟨c0, c1⟩ := ht.1
      have hl := ht.lt
      have hle := Cs.textTo_len a b k
      clear ht
      go_wp2_with fail
      refine (spec_has _ _ _ _ (by omega) (by omega)).mono ?_
      rw [Int.toNat_natCast]
      rintro e w1 ⟨rfl, hb1⟩
      have HT1 := Lib.hid (HT.out.later hb1)
      have hl1 := HT1.out.lt
      clear hb1 c0 c1
      by_cases hm : Cs.mem a b k = true
      · go_wp2_with (at_builtin; refine wpList_append_own _ rfl _ _ 22 rfl (w.heap.size + 1) 5 i0 (.int .u8 0) 1 1 Tryz.underlying22 hi hz0 hz1 hz2 rfl (by decide) _ _ _ rfl (HT1.out.2.1.alloc _) ⟨w1.heap.size, 0, none⟩ 1 1 [.int .u8 k] rfl rfl ?c1 ?c2 ?c3 ?c4 ?c5 ?_)
        case c1 => exact new_byte _ _ _
        case c2 => exact one_byte _ _
        case c3 => exact len_small (by omega)
        case c4 => omega
        case c5 => simp; omega
        intro v' w2 hown' hgrow _
        have ho := Lib.hid (HT1.out.yes hm hown' hgrow)
        clear hown' hgrow
        go_wp2
        go_roundw
        case rel => exact ⟨k + 1, by go_num, by omega, ho.out⟩
        case measure => first | (simp [intOf]; done) | (simp [intOf]; omega)
      · have hm2 : Cs.mem a b k = false := by simpa using hm
        clear hm
        have ho := Lib.hid (HT1.out.no hm2)
        go_wp2
        go_roundw
        case rel => exact ⟨k + 1, by go_num, by omega, ho.out⟩
        case measure => first | (simp [intOf]; done) | (simp [intOf]; omega)
    · obtain rfl : k = 128 := by omega
      have hc := conv_own ht.2.1
      have HB := Lib.hid ht.2.2
      clear ht
      go_wp2
      go_ret
      exact ⟨rfl, HB.out⟩

set_option maxHeartbeats 800000 in
theorem impl_text (a b : Int) (w : World) : Calls Tryz.prog 53 #[.agg #[.int .i64 a, .int .i64 b]] w (RetText w (txt (Cs.text a b))) := by
  obtain ⟨i0, hi, hz0, hz1, hz2⟩ := info_parts info_u8
  have hsz := Cs.textTo_len a b 128
  have HS := Lib.hid (fun W => impl_size a b W)
  go_enter Tryz.func53, Tryz.ntmps53
  go_wp2_with fail
  refine (HS.out _).mono ?_
  rintro e w0 ⟨rfl, hb0⟩
  have HS0 := Lib.hid ((SetAt.new w a b _).later hb0)
  have HB0 := Lib.hid (below_step (bl1 _ _) hb0)
  have hl0 := HS0.out.lt
  clear hb0
  have hsz2 : (Cs.text a b).length ≤ 128 := hsz
  obtain ⟨w1, hmk, hown, hgr⟩ := run_make_own (P := Tryz.prog) w0 (w.heap.size + 1) 22 5 i0 (.int .u8 0) 1 Tryz.underlying22 hi hz0 hz1 .i64 .i64 (Cs.text a b).length (by rw [hz2]; omega) (by unfold maxLen; omega) hl0
  have hb1 : Below w0.heap.size w0 w1 := (Below.refl _ _).grown hgr (Nat.le_refl _) (fun k hk => by cases hk)
  have HT := Lib.hid (show TextAt w a b 0 _ w1 from ⟨HS0.out.later hb1, hown, below_step HB0.out hb1⟩)
  clear hown hgr hb1
  go_wp2
  go_loopw [3, 4, 8] (fun v _ i wr => ∃ k : Nat, i = .int .u8 k ∧ k ≤ 128 ∧ TextAt w a b k v wr) (fun _ _ i _ => 128 - (intOf i).toNat)
  case atStart => exact ⟨0, rfl, by omega, HT.out⟩
  case round =>
    clear hmk HT HS0 HB0
    obtain ⟨k, rfl, hk, ht⟩ := hrel
    have HT := Lib.hid ht
    by_cases hlt : (k : Int) < 128
    · obtain ⟨c0, c1⟩ := ht.1
      have hl := ht.lt
      have hle := Cs.textTo_len a b k
      clear ht
      go_wp2_with fail
      refine (impl_has _ _ _ _ (by omega) (by omega)).mono ?_
      rw [Int.toNat_natCast]
      rintro e w2 ⟨rfl, hb2⟩
      have HT1 := Lib.hid (HT.out.later hb2)
      have hl1 := HT1.out.lt
      clear hb2 c0 c1
      by_cases hm : Cs.mem a b k = true
      · go_wp2_with (at_builtin; refine wpList_append_own _ rfl _ _ 22 rfl (w.heap.size + 1) 5 i0 (.int .u8 0) 1 1 Tryz.underlying22 hi hz0 hz1 hz2 rfl (by decide) _ _ _ rfl (HT1.out.2.1.alloc _) ⟨w2.heap.size, 0, none⟩ 1 1 [.int .u8 k] rfl rfl ?c1 ?c2 ?c3 ?c4 ?c5 ?_)
        case c1 => exact new_byte _ _ _
        case c2 => exact one_byte _ _
        case c3 => exact len_small (by omega)
        case c4 => omega
        case c5 => simp; omega
        intro v' w3 hown' hgrow _
        have ho := Lib.hid (HT1.out.yes hm hown' hgrow)
        clear hown' hgrow
        go_wp2
        go_roundw
        case rel => exact ⟨k + 1, by go_num, by omega, ho.out⟩
        case measure => first | (simp [intOf]; done) | (simp [intOf]; omega)
      · have hm2 : Cs.mem a b k = false := by simpa using hm
        clear hm
        have ho := Lib.hid (HT1.out.no hm2)
        go_wp2
        go_roundw
        case rel => exact ⟨k + 1, by go_num, by omega, ho.out⟩
        case measure => first | (simp [intOf]; done) | (simp [intOf]; omega)
    · obtain rfl : k = 128 := by omega
      have hc := conv_own ht.2.1
      have HB := Lib.hid ht.2.2
      clear ht
      go_wp2
      go_ret
      exact ⟨rfl, HB.out⟩

end Go.Proofs.YtfhakailbikjkaaGreatDoor
/- The reference model's FormatInt returns the decimal form, at every integer. No conditions. -/
namespace Go.Proofs.YtfhakailbikjkaaGreatDoor
open Go.RowKit

theorem ret_pair {a c : Int} {b d : Bool} (h1 : a = c) (h2 : b = d) : Ending.returned (.tuple #[.int .i64 a, .bool b]) = .returned (.tuple #[.int .i64 c, .bool d]) := by rw [h1, h2]
theorem ret_val {a c : Int} (h1 : a = c) : Value.int .i64 a = .int .i64 c := by rw [h1]

/-- A block of one byte, made into a string. -/
theorem conv_one (x : Int) (w : World) : (convert 22 9 (.slice (some ⟨w.heap.size, 0, none⟩) 1 1)).run Tryz.prog (w.alloc (.cells #[.int .u8 x] 5)) = .ok (.string ⟨#[UInt8.ofNat x.toNat]⟩) (w.alloc (.cells #[.int .u8 x] 5)) := by
  have h := run_convert_bytes_arg (P := Tryz.prog) (w.alloc (.cells #[.int .u8 x] 5)) 22 5 Tryz.underlying22 Tryz.underlying5 w.heap.size 0 1 1 [x] rfl
    (fun i hi => by
      obtain rfl : i = 0 := by omega
      exact cell_one_new w (.int .u8 x) 5 0 (.int .u8 x) rfl) 9 Tryz.underlying9
  simpa [strOfNums] using h

theorem string_eq {s : ByteArray} {l : List UInt8} (h : s.data.toList = l) : s = ⟨l.toArray⟩ := by
  subst h; cases s; simp

theorem size_eq (s : ByteArray) : s.size = s.data.toList.length := rfl

/-- One round's fact. -/
theorem fmt_round {n m : Int} {s : ByteArray} (hm : 0 < m) (h : Dec.digs n.toNat = Dec.digs m.toNat ++ s.data.toList) :
    Dec.digs n.toNat = Dec.digs (m / 10).toNat ++ (({ data := #[UInt8.ofNat (48 + m % 10).toNat] } : ByteArray) ++ s).data.toList := by
  rw [h, Dec.digs_pos (by omega), Dec.dg_byte m (by omega), show m.toNat / 10 = (m / 10).toNat by omega]
  simp [ByteArray.data_append]

theorem fmt_size {n m : Int} {s : ByteArray} (h0 : 0 ≤ n) (h1 : n ≤ 9223372036854775808) (h : Dec.digs n.toNat = Dec.digs m.toNat ++ s.data.toList) : s.size ≤ 20 := by
  have h2 := congrArg List.length h
  have h3 := Dec.digs_lt 20 n.toNat (Nat.lt_of_le_of_lt (show n.toNat ≤ 9223372036854775808 by omega) (by decide))
  rw [List.length_append, ← size_eq] at h2; omega

set_option maxRecDepth 100000 in
set_option maxHeartbeats 400000 in
theorem spec_fmt_pos (n : Int) (w : World) (h0 : 0 < n) (h1 : n ≤ 9223372036854775807) :
    Calls Tryz.prog 43 #[.int .i64 n] w fun e w' => e = .returned (.string ⟨(Dec.digs n.toNat).toArray⟩) ∧ Below w.heap.size w w' := by
  have c0 : (n == 0) = false := by simp; omega
  go_enter Tryz.func43, Tryz.ntmps43
  go_wp2
  go_loopw [0, 4, 5] (fun x o d wr => ∃ (m : Int) (s : ByteArray), x = .int .i64 m ∧ 0 ≤ m ∧ m ≤ n ∧ o = .string s ∧ Below w.heap.size w wr ∧ Dec.digs n.toNat = Dec.digs m.toNat ++ s.data.toList) (fun x _ _ _ => (intOf x).toNat)
  case atStart => exact ⟨n, _, rfl, by omega, by omega, rfl, Below.refl _ _, by simp⟩
  case round =>
    obtain ⟨m, s, rfl, h2, h3, rfl, h4, h5⟩ := hrel
    have hsz := fmt_size (by omega) (by omega) h5
    have H5 := Lib.hid h5
    clear h5
    by_cases hm : m = 0
    · subst hm
      go_wp2
      go_ret
      exact ⟨by rw [H5.out]; simp [Dec.digs_zero, ← string_eq (s := s) rfl], h4⟩
    · have hcv := conv_one (48 + m % 10) wr
      have hm' : (m == 0) = false := by simpa using hm
      go_wp2
      all_goals go_roundw
      case rel => exact ⟨m / 10, _, rfl, by omega, by omega, rfl, h4.alloc h4.size _, fmt_round (by omega) H5.out⟩
      case measure => simp [intOf]; omega

theorem cons_eq (b : UInt8) (s : ByteArray) : ({ data := #[b] } : ByteArray) ++ s = ⟨(b :: s.data.toList).toArray⟩ :=
  string_eq (by simp [ByteArray.data_append])

theorem quo_neg (m : Int) (h0 : 0 ≤ m) (h1 : m ≤ 9223372036854775808) : wrap64 (-m.tdiv 10) = -(m / 10) := by
  rw [Int.tdiv_eq_ediv_of_nonneg h0]
  unfold wrap64; omega

set_option maxRecDepth 100000 in
set_option maxHeartbeats 400000 in
theorem spec_fmt_neg (n : Int) (w : World) (h0 : 0 < n) (h1 : n ≤ 9223372036854775808) :
    Calls Tryz.prog 43 #[.int .i64 (-n)] w fun e w' => e = .returned (.string ⟨(45 :: Dec.digs n.toNat).toArray⟩) ∧ Below w.heap.size w w' := by
  have c0 : (-n == 0) = false := by simp; omega
  go_enter Tryz.func43, Tryz.ntmps43
  go_wp2
  go_loopw [0, 4, 5] (fun x o d wr => ∃ (m : Int) (s : ByteArray), x = .int .i64 (-m) ∧ 0 ≤ m ∧ m ≤ n ∧ o = .string s ∧ Below w.heap.size w wr ∧ Dec.digs n.toNat = Dec.digs m.toNat ++ s.data.toList) (fun x _ _ _ => (- intOf x).toNat)
  case atStart => exact ⟨n, _, rfl, by omega, by omega, rfl, Below.refl _ _, by simp⟩
  case round =>
    obtain ⟨m, s, rfl, h2, h3, rfl, h4, h5⟩ := hrel
    have hsz := fmt_size (by omega) h1 h5
    have H5 := Lib.hid h5
    clear h5
    by_cases hm : m = 0
    · subst hm
      go_wp2
      go_ret
      exact ⟨by rw [H5.out]; simp only [Dec.digs_zero, Int.toNat_zero, List.nil_append]; rw [← cons_eq]; rfl, h4⟩
    · have hcv := conv_one (48 + m % 10) wr
      have hcv2 := conv_one (48 + -(m % 10)) wr
      have hm' : (-m == 0) = false := by simpa using hm
      go_wp2
      all_goals go_roundw
      case rel => exact ⟨m / 10, _, by rw [quo_neg m h2 (by omega)], by omega, by omega, rfl, h4.alloc h4.size _, fmt_round (by omega) H5.out⟩
      case measure => rw [quo_neg m h2 (by omega)]; simp [intOf]; omega
      case rel => exact ⟨m / 10, _, by rw [quo_neg m h2 (by omega)], by omega, by omega, rfl, h4.alloc h4.size _, by rw [show (48 : Int) + -(m % 10) = 48 + m % 10 by omega]; exact fmt_round (by omega) H5.out⟩
      case measure => rw [quo_neg m h2 (by omega)]; simp [intOf]; omega
set_option maxRecDepth 100000 in
set_option maxHeartbeats 400000 in
theorem spec_fmt_zero (w : World) :
    Calls Tryz.prog 43 #[.int .i64 0] w fun e w' => e = .returned (.string ⟨#[48]⟩) ∧ Below w.heap.size w w' := by
  go_enter Tryz.func43, Tryz.ntmps43
  go_wp2
  go_ret
  exact ⟨rfl, Below.refl _ _⟩

/-- The reference model's FormatInt. -/
theorem spec_fmt (n : Int) (w : World) (h0 : -9223372036854775808 ≤ n) (h1 : n ≤ 9223372036854775807) :
    Calls Tryz.prog 43 #[.int .i64 n] w fun e w' => e = .returned (.string ⟨(Dec.fmt n).toArray⟩) ∧ Below w.heap.size w w' := by
  rcases Int.lt_trichotomy n 0 with h | h | h
  · have h2 := spec_fmt_neg (-n) w (by omega) (by omega)
    rw [Int.neg_neg] at h2
    have e : Dec.fmt n = 45 :: Dec.digs (-n).toNat := by
      unfold Dec.fmt; rw [if_neg (by omega), if_pos h, show n.natAbs = (-n).toNat by omega]
    rw [e]; exact h2
  · subst h; exact spec_fmt_zero w
  · have h2 := spec_fmt_pos n w h h1
    have e : Dec.fmt n = Dec.digs n.toNat := by
      unfold Dec.fmt; rw [if_neg (by omega), if_neg (by omega), show n.natAbs = n.toNat by omega]
    rw [e]; exact h2
end Go.Proofs.YtfhakailbikjkaaGreatDoor
/- The program's FormatInt returns the decimal form, at every integer. No conditions. -/
namespace Go.Proofs.YtfhakailbikjkaaGreatDoor
open Go.RowKit

/-- The block B holds the letters l at its end, from place at on. -/
def Holds (w : World) (B at_ : Nat) (l : List UInt8) : Prop :=
  (∀ j, j < 20 → ∃ v, w.cell? ⟨B, j, none⟩ = some v) ∧ (∀ j, w.frozen? ⟨B, j, none⟩ = false) ∧ (∀ j (h : j < l.length), w.cell? ⟨B, at_ + j, none⟩ = some (.int .u8 (l[j].toNat : Int)))

theorem holds_start (w : World) (C : Array Value) (t : TypeId) (hC : C.size = 20) : Holds (w.alloc (.cells C t)) w.heap.size 20 [] := by
  refine ⟨fun j hj => ⟨C[j]'(by omega), ?_⟩, fun j => ?_, fun j h => by simp at h⟩
  · rw [World.cell?_alloc_mark]; exact Array.getElem?_eq_getElem _
  · rw [World.frozen?_alloc_mark]; simp

theorem holds_next {w : World} {B p : Nat} {l : List UInt8} (h : Holds w B (p + 1) l) (hp : p < 20) (b : UInt8) (v : Value) (hv : v = .int .u8 (b.toNat : Int)) : Holds (w.setCell ⟨B, p, none⟩ v) B p (b :: l) := by
  subst hv
  obtain ⟨h1, h2, h3⟩ := h
  have hset : ∀ j, j ≠ p → (w.setCell ⟨B, p, none⟩ (.int .u8 (b.toNat : Int))).cell? ⟨B, j, none⟩ = w.cell? ⟨B, j, none⟩ := fun j hj => by
    go_simp
  refine ⟨fun j hj => ?_, fun j => by rw [World.frozen?_setCell]; exact h2 j, fun j hj => ?_⟩
  · obtain ⟨u, hu⟩ := h1 j hj
    by_cases e : j = p
    · subst e; exact ⟨_, by go_simp; exact rfl⟩
    · exact ⟨u, by rw [hset j e]; exact hu⟩
  · obtain ⟨u, hu⟩ := h1 p hp
    cases j with
    | zero => simp; go_simp
    | succ j => rw [hset _ (by omega), show p + (j + 1) = p + 1 + j by omega]; simpa using h3 j (by simpa using hj)

/-- The last letters of the array, as a slice. -/
theorem slice_at (B p : Nat) (hp : p < 20) (w : World) : (Instr.sliceAt 98 (.pointer (some ⟨B, 0, none⟩)) (some (.int .i64 (p : Int))) none none).run Tryz.prog w = .ok (.slice (some ⟨B, p, none⟩) (20 - p) (20 - p)) w := by
  have e : Tryz.prog.arrayLen 98 = 20 := by kernel_rfl
  have hs : ∀ wx : World, (sizeOf (Tryz.prog.elem 98)).run Tryz.prog wx = .ok 1 wx := fun _ => by kernel_rfl
  rw [run_sliceAt_array_l w 98 ⟨B, 0, none⟩ (by kernel_rfl) .i64 p (by omega) (by rw [e]; omega), hs, e]
  have e0 : ¬ (20 = p) := by omega
  by_cases e1 : p = 0
  · subst e1; simp [Result.andThen, slicedAt, Addr.add]
  · simp [Result.andThen, slicedAt, Addr.add, e0, e1]

/-- And those letters as a string. -/
theorem conv_at {w : World} {B p : Nat} {l : List UInt8} (h : Holds w B p l) (n : Nat) (hn : n = l.length) : (convert 22 9 (.slice (some ⟨B, p, none⟩) n n)).run Tryz.prog w = .ok (.string ⟨l.toArray⟩) w := by
  subst hn
  exact run_convert_bytes_back w 22 9 5 ⟨B, p, none⟩ _ l Tryz.underlying22 Tryz.underlying5 Tryz.underlying9 (fun j hj => by
    rw [show (⟨B, p, none⟩ : Addr).add j = ⟨B, p + j, none⟩ from by simp [Addr.add]]
    exact h.2.2 j hj)

set_option maxRecDepth 100000 in
set_option maxHeartbeats 400000 in
theorem impl_fmt_nn (n : Nat) (w : World) (h1 : (n : Int) ≤ 9223372036854775807) :
    Calls Tryz.prog 76 #[.int .i64 n] w fun e w' => e = .returned (.string ⟨(Dec.fmtN n).toArray⟩) ∧ Below w.heap.size w w' := by
  go_enter Tryz.func76, Tryz.ntmps76
  go_wp2
  go_loopw [3, 5, 12] (fun x a i wr => ∃ (m p : Nat) (l : List UInt8), x = .int .u64 m ∧ m ≤ n ∧ a = .int .i64 (p + 1) ∧ i = .int .i64 l.length ∧ Below w.heap.size w wr ∧ Holds wr w.heap.size (p + 1) l ∧ p + 1 + l.length = 20 ∧ Dec.Left n m l) (fun x _ _ _ => (intOf x).toNat)
  case atStart =>
    exact ⟨n, 19, [], rfl, by omega, by rfl, by rfl, (Below.refl _ _).alloc (Nat.le_refl _) _, holds_start w _ _ rfl, by rfl, Dec.left_start n⟩
  case round =>
    obtain ⟨m, p, l, rfl, h2, rfl, rfl, h3, h4, h5, h6⟩ := hrel
    have h7 := Dec.left_short (by omega) h6
    have H5 := Lib.hid h5
    have H6 := Lib.hid h6
    have h8 : p < 20 := by omega
    obtain ⟨v, hv⟩ := h4.1 p h8
    have hf := h4.2.1 p
    have H4 := Lib.hid h4
    clear h4 h5 h6
    have h9 : (l.length : Int) < 19 := by omega
    by_cases hm : m / 10 = 0
    · have hsl := slice_at w.heap.size p h8
      have hcv := conv_at (holds_next H4.out h8 (Dec.dg m) (.int .u8 (48 + ↑m % 10)) (by rw [Dec.dg_toNat]; go_num)) (20 - p) (by have := H5.out; simp; omega)
      go_wp2
      go_ret
      exact ⟨by rw [Dec.left_end H6.out hm]; rfl, h3.setCell (Nat.le_refl _) _⟩
    · go_wp2
      go_roundw
      case rel =>
        obtain ⟨p, rfl⟩ : ∃ q, p = q + 1 := ⟨p - 1, by have := H5.out; omega⟩
        exact ⟨m / 10, p, Dec.dg m :: l, by go_num, by omega, by go_num, by simp, h3.setCell (Nat.le_refl _) _, holds_next H4.out h8 _ _ (by rw [Dec.dg_toNat]; go_num), by have := H5.out; simp; omega, Dec.left_next H6.out (by omega)⟩
      case measure => simp [intOf]; omega
theorem neg_size (n : Nat) (h1 : (n : Int) ≤ 9223372036854775808) : IntKind.u64.wrap (-IntKind.u64.wrap (-(n : Int))) = n := by
  simp only [IntKind.wrap, IntKind.signed, IntKind.bits]
  simp
  omega

set_option maxRecDepth 100000 in
set_option maxHeartbeats 400000 in
theorem impl_fmt_neg (n : Nat) (w : World) (h0 : 0 < (n : Int)) (h1 : (n : Int) ≤ 9223372036854775808) :
    Calls Tryz.prog 76 #[.int .i64 (-(n : Int))] w fun e w' => e = .returned (.string ⟨(45 :: Dec.fmtN n).toArray⟩) ∧ Below w.heap.size w w' := by
  go_enter Tryz.func76, Tryz.ntmps76
  go_wp2
  go_loopw [3, 5, 12] (fun x a i wr => ∃ (m p : Nat) (l : List UInt8), x = .int .u64 m ∧ m ≤ n ∧ a = .int .i64 (p + 1) ∧ i = .int .i64 l.length ∧ Below w.heap.size w wr ∧ Holds wr w.heap.size (p + 1) l ∧ p + 1 + l.length = 20 ∧ Dec.Left n m l) (fun x _ _ _ => (intOf x).toNat)
  case atStart =>
    exact ⟨n, 19, [], by rw [neg_size n h1], by omega, by rfl, by rfl, (Below.refl _ _).alloc (Nat.le_refl _) _, holds_start w _ _ rfl, by rfl, Dec.left_start n⟩
  case round =>
    obtain ⟨m, p, l, rfl, h2, rfl, rfl, h3, h4, h5, h6⟩ := hrel
    have h7 := Dec.left_short (by omega) h6
    obtain ⟨q, rfl⟩ : ∃ q, p = q + 1 := ⟨p - 1, by omega⟩
    have H5 := Lib.hid h5
    have H6 := Lib.hid h6
    have h8 : q + 1 < 20 := by omega
    obtain ⟨v, hv⟩ := h4.1 (q + 1) h8
    obtain ⟨v2, hv2⟩ := h4.1 q (by omega)
    have hf := h4.2.1 (q + 1)
    have hf2 := h4.2.1 q
    have H4 := Lib.hid h4
    clear h4 h5 h6
    have h9 : (l.length : Int) < 19 := by omega
    by_cases hm : m / 10 = 0
    · have hsl := slice_at w.heap.size q (by omega)
      have hcv := conv_at (holds_next (holds_next H4.out h8 (Dec.dg m) (.int .u8 (48 + ↑m % 10)) (by rw [Dec.dg_toNat]; go_num)) (by omega) 45 (.int .u8 45) (by rfl)) (20 - q) (by have := H5.out; simp; omega)
      go_wp2
      go_ret
      exact ⟨by rw [Dec.left_end H6.out hm]; rfl, (h3.setCell (Nat.le_refl _) _).setCell (Nat.le_refl _) _⟩
    · go_wp2
      go_roundw
      case rel =>
        exact ⟨m / 10, q, Dec.dg m :: l, by go_num, by omega, by go_num, by simp, h3.setCell (Nat.le_refl _) _, holds_next H4.out h8 _ _ (by rw [Dec.dg_toNat]; go_num), by have := H5.out; simp; omega, Dec.left_next H6.out (by omega)⟩
      case measure => simp [intOf]; omega

/-- The program's FormatInt. -/
theorem impl_fmt (n : Int) (w : World) (h0 : -9223372036854775808 ≤ n) (h1 : n ≤ 9223372036854775807) :
    Calls Tryz.prog 76 #[.int .i64 n] w fun e w' => e = .returned (.string ⟨(Dec.fmt n).toArray⟩) ∧ Below w.heap.size w w' := by
  by_cases h : 0 ≤ n
  · have h2 := impl_fmt_nn n.toNat w (by omega)
    rw [Int.toNat_of_nonneg h, ← Dec.fmt_nn n h] at h2
    exact h2
  · have h2 := impl_fmt_neg (-n).toNat w (by omega) (by omega)
    rw [Int.toNat_of_nonneg (by omega), Int.neg_neg, ← Dec.fmt_neg n (by omega)] at h2
    exact h2
end Go.Proofs.YtfhakailbikjkaaGreatDoor
/- The program's digitsValue and parseDigits: what they answer at every string, for at most 12 digits. -/
namespace Go.Proofs.YtfhakailbikjkaaGreatDoor
open Go.RowKit

theorem tl (s : ByteArray) : s.toList = s.data.toList := ByteArray.toList_eq s
theorem get_eq (s : ByteArray) (k : Nat) (h : k < s.size) : s[k] = s.data.toList[k]'h := rfl

theorem head_eq (s : ByteArray) (h : 0 < s.size) (b : UInt8) : s.data.toList.head? = some b ↔ (s[0].toNat : Int) = (b.toNat : Int) := by
  rw [get_eq s 0 h, List.head?_eq_getElem?, List.getElem?_eq_getElem (by have := size_eq s; omega)]
  simp [← UInt8.toNat_inj]
  omega


/-- The first k letters are digits. -/
def DigTo (s : ByteArray) (k : Nat) : Prop := (s.data.toList.take k).all Dec.isDig = true


/-- A letter is a digit, or lies below, or above. -/
theorem dig_cases (b : UInt8) : (Dec.isDig b = true ∧ (48 : Int) ≤ (b.toNat : Int) ∧ (b.toNat : Int) ≤ 57) ∨ (Dec.isDig b = false ∧ (b.toNat : Int) < 48) ∨ (Dec.isDig b = false ∧ (48 : Int) ≤ (b.toNat : Int) ∧ (57 : Int) < (b.toNat : Int)) := by
  by_cases h : Dec.isDig b = true
  · have := Dec.isDig_le h; exact .inl ⟨h, by omega, by omega⟩
  · have h1 : Dec.isDig b = false := by simpa using h
    have h2 : ¬ (48 ≤ b.toNat ∧ b.toNat ≤ 57) := by simpa [Dec.isDig] using h
    rcases Nat.lt_or_ge b.toNat 48 with h3 | h3
    · exact .inr (.inl ⟨h1, by omega⟩)
    · exact .inr (.inr ⟨h1, by omega, by omega⟩)

/-- The answer where the letters are too many or none. -/
theorem dv_no (s : ByteArray) (m : Nat) (w : World) (hs : s.size ≤ maxLen) (h1 : (m : Int) ≤ 12) (c1 : ¬ (1 ≤ s.data.toList.length ∧ s.data.toList.length ≤ m)) :
    Calls Tryz.prog 75 #[.string s, .int .i64 m] w fun e w' => e = .returned (.tuple #[.int .i64 0, .bool false]) ∧ w = w' := by
  unfold maxLen at hs
  have hsz := size_eq s
  by_cases c2 : s.size = 0
  · have c3 : s.toList = [] := by rw [tl]; exact List.length_eq_zero_iff.1 (by omega)
    have c4 : s.toList.isEmpty = true := by rw [c3]; rfl
    clear c1 hsz
    go_enter Tryz.func75, Tryz.ntmps75
    go_wp2
    go_ret2
    exact ⟨rfl, rfl⟩
  · have c5 : (m : Int) < s.size := by omega
    have c3 : ¬ s.toList = [] := by rw [tl]; intro e; rw [e, List.length_nil] at hsz; omega
    have c4 : s.toList.isEmpty = false := by simpa using c3
    clear c1 hsz
    go_enter Tryz.func75, Tryz.ntmps75
    go_wp2
    go_ret2
    exact ⟨rfl, rfl⟩

set_option maxRecDepth 100000 in
set_option maxHeartbeats 400000 in
theorem dv_loop (s : ByteArray) (m : Nat) (w : World) (hs : s.size ≤ maxLen) (h1 : (m : Int) ≤ 12) (c0 : 0 < s.size) (c1 : (s.size : Int) ≤ m) :
    Calls Tryz.prog 75 #[.string s, .int .i64 m] w fun e w' => e = .returned (.tuple #[.int .i64 (Dec.dvv m s.data.toList), .bool (Dec.dok m s.data.toList)]) ∧ w = w' := by
  unfold maxLen at hs
  have c4 : ¬ s.toList = [] := by rw [tl]; intro e; have hsz := size_eq s; rw [e, List.length_nil] at hsz; omega
  have c5 : s.toList.isEmpty = false := by simpa using c4
  have HL := Lib.hid (size_eq s)
  have h13 : (s.size : Int) ≤ 12 := by omega
  go_enter Tryz.func75, Tryz.ntmps75
  go_wp2
  go_loop [4, 5, 6, 7, 18] (fun _ _ n _ i => ∃ k : Nat, k ≤ s.size ∧ i = .int .i64 k ∧ n = .int .i64 (Dec.val (s.data.toList.take k)) ∧ DigTo s k) (fun _ _ _ _ i => s.size - (intOf i).toNat)
  case atStart => exact ⟨0, Nat.zero_le _, rfl, rfl, rfl⟩
  case round =>
    obtain ⟨k, hk, rfl, rfl, ha⟩ := hrel
    have hb := Dec.val_take_bound (k := k) (by omega) ha
    have HA := Lib.hid ha
    clear ha
    by_cases hlt : k < s.size
    · rcases dig_cases s[k] with ⟨hd, d1, d2⟩ | ⟨hd, d1⟩ | ⟨hd, d1, d2⟩
      · have HD := Lib.hid hd
        clear hd
        go_wp2
        go_round
        case rel =>
          (repeat apply Exists.intro)
          exact ⟨⟨k + 1, by omega, by go_num, ret_val (by rw [Dec.val_take_succ (by have := HL.out; omega), ← get_eq]; omega), Dec.all_take_succ (by have := HL.out; omega) HA.out (by rw [← get_eq]; exact HD.out)⟩, rfl, rfl, rfl, rfl, rfl⟩
        case measure => simp [intOf]; omega
      · have HD := Lib.hid hd
        clear hd
        go_wp2
        go_ret2
        have hg : Dec.dok m s.data.toList = false := Dec.dok_dig (Dec.not_all (k := k) (by have := HL.out; omega) (by rw [← get_eq]; exact HD.out))
        exact ⟨ret_pair (by unfold Dec.dvv; rw [hg]; rfl) hg.symm, rfl⟩
      · have HD := Lib.hid hd
        clear hd
        go_wp2
        go_ret2
        have hg : Dec.dok m s.data.toList = false := Dec.dok_dig (Dec.not_all (k := k) (by have := HL.out; omega) (by rw [← get_eq]; exact HD.out))
        exact ⟨ret_pair (by unfold Dec.dvv; rw [hg]; rfl) hg.symm, rfl⟩
    · have hk2 : s.size ≤ k := by omega
      go_wp2
      go_ret2
      have hl := HL.out
      have ha := HA.out
      unfold DigTo at ha
      rw [List.take_of_length_le (by omega)] at ha ⊢
      have hg : Dec.dok m s.data.toList = true := Dec.dok_yes (by omega) (by omega) ha
      exact ⟨ret_pair (by unfold Dec.dvv; rw [hg]; rfl) hg.symm, rfl⟩

/-- What digitsValue answers. -/
theorem dv_any (s : ByteArray) (m : Nat) (w : World) (hs : s.size ≤ maxLen) (h1 : (m : Int) ≤ 12) :
    Calls Tryz.prog 75 #[.string s, .int .i64 m] w fun e w' => e = .returned (.tuple #[.int .i64 (Dec.dvv m s.data.toList), .bool (Dec.dok m s.data.toList)]) ∧ w = w' := by
  have hl := size_eq s
  by_cases c1 : 1 ≤ s.data.toList.length ∧ s.data.toList.length ≤ m
  · exact dv_loop s m w hs h1 (by omega) (by omega)
  · have h := dv_no s m w hs h1 c1
    have hg := Dec.dok_len c1
    have hv : Dec.dvv m s.data.toList = 0 := by unfold Dec.dvv; rw [hg]; rfl
    rw [hg, hv]; exact h

theorem head1 (s : ByteArray) (h : 1 ≤ (s.size : Int)) : (s.extract 0 1).toList = [s[0]'(by omega)] := by
  have hl := size_eq s
  obtain ⟨c, l, h2⟩ : ∃ c l, s.data.toList = c :: l := by
    cases h2 : s.data.toList with
    | nil => rw [h2, List.length_nil] at hl; omega
    | cons c l => exact ⟨c, l, rfl⟩
  have h3 : s[0]'(by omega) = c := by
    rw [get_eq s 0 (by omega)]
    have h4 := List.getElem_of_eq h2 (i := 0) (by omega)
    simpa using h4
  rw [tl, h3]
  simp only [ByteArray.data_extract, Array.toList_extract, List.extract_eq_take_drop, List.drop_zero]
  rw [h2]; rfl

/-- Does the text begin with 0? -/
def zeroB (s : ByteArray) : Bool := s.data.toList.head? == some 48
end Go.Proofs.YtfhakailbikjkaaGreatDoor
/- IntegerOfText of the program: blanks around, a sign, up to 12 digits. No conditions. -/
namespace Go.Proofs.YtfhakailbikjkaaGreatDoor
open Go.RowKit
set_option linter.unusedVariables false

/-- What a text without blanks around it denotes as data. -/
def itN (T : List UInt8) : Bool := T.head? == some 45
def itD (T : List UInt8) : List UInt8 := if T.head? = some 45 ∨ T.head? = some 43 then T.tail else T
def itV (T : List UInt8) : Int := if itN T = true then -Dec.dvv 12 (itD T) else Dec.dvv 12 (itD T)
def itB (T : List UInt8) : Bool := Dec.dok 12 (itD T)
theorem dvv_bound (t : List UInt8) : 0 ≤ Dec.dvv 12 t ∧ Dec.dvv 12 t < 1000000000000 := by
  unfold Dec.dvv
  split
  · rename_i h
    unfold Dec.dok at h
    simp only [Bool.and_eq_true, decide_eq_true_eq] at h
    have h1 := Dec.val_lt t h.2
    have h2 : 10 ^ t.length ≤ 10 ^ 12 := Nat.pow_le_pow_right (by omega) (by omega)
    have h3 : (10 : Nat) ^ 12 = 1000000000000 := by rfl
    omega
  · omega
theorem hasP (T : List UInt8) (c : UInt8) : Lib.hasPrefix T [c] = (T.head? == some c) := by
  unfold Lib.hasPrefix
  cases T with
  | nil => rfl
  | cons b l =>
    by_cases h : b = c
    · subst h; simp
    · have h2 : (c == b) = false := by simpa using fun e => h e.symm
      simp [List.isPrefixOf, h, h2]
theorem trimP (T : List UInt8) (c : UInt8) : Lib.trimPrefix T [c] = if T.head? = some c then T.tail else T := by
  unfold Lib.trimPrefix
  rw [hasP]
  by_cases h : T.head? = some c
  · rw [if_pos h, if_pos (by simpa using h)]; simp
  · rw [if_neg h, if_neg (by simpa using h)]
theorem str8_max {T : List UInt8} {s : ByteArray} (hs : s.size ≤ maxLen) (h : T.length ≤ s.size) : (str8 T).size ≤ maxLen := by rw [str8_size]; omega

theorem call_dig (D : List UInt8) (w : World) (hs : (D.length : Int) ≤ 1048576) : Calls Tryz.prog 75 #[.string (str8 D), .int .i64 12] w fun e w' => e = .returned (.tuple #[.int .i64 (Dec.dvv 12 D), .bool (Dec.dok 12 D)]) ∧ w = w' := by
  have h := dv_any (str8 D) 12 w (by rw [str8_size]; unfold maxLen; omega) (by omega)
  rw [str8_list] at h
  exact h
theorem trim_len (l : List UInt8) (c : UInt8) : (Lib.trimB l c).length ≤ l.length := by
  unfold Lib.trimB Lib.trimLeftB Lib.trimRightB
  have h1 := (List.dropWhile_sublist (p := (· == c)) (l := (l.reverse.dropWhile (· == c)).reverse)).length_le
  have h2 := (List.dropWhile_sublist (p := (· == c)) (l := l.reverse)).length_le
  rw [List.length_reverse] at h1 h2
  omega
/-- What IntegerOfText answers. -/
def RetIt (w : World) (T : List UInt8) (e : Ending) (w' : World) : Prop := e = .returned (.tuple #[.int .i64 (itV T), .bool (itB T)]) ∧ Below w.heap.size w w'

end Go.Proofs.YtfhakailbikjkaaGreatDoor
/- IntegerOfText of the reference model, and the walk of the law on it. No conditions. -/
namespace Go.Proofs.YtfhakailbikjkaaGreatDoor
open Go.RowKit
set_option linter.unusedVariables false

/-- Blanks stand from a to b. -/
def Bks (S : List UInt8) (a b : Nat) : Prop := ∀ (j : Nat) x, a ≤ j → j < b → S[j]? = some x → x = 32
theorem trim_at {S : List UInt8} {k m : Nat} (h1 : k ≤ m) (h2 : m ≤ S.length) (hk : Bks S 0 k) (hm : Bks S m S.length) (hx : ∀ x, S[k]? = some x → x ≠ 32) (hy : k < m → ∀ x, S[m - 1]? = some x → x ≠ 32) (hz : k < S.length → k < m) : Lib.trimB S 32 = (S.take m).drop k := by
  have lt : ∀ {j : Nat} {x : UInt8}, S[j]? = some x → j < S.length := fun h => (List.getElem?_eq_some_iff.1 h).1
  unfold Lib.trimB
  by_cases hl : k < S.length
  · have hkm := hz hl
    rw [Lib.trimRightB_take S 32 m h2 (fun j b hj hb => hm j b hj (lt hb) hb) (fun b _ hb => hy hkm b hb)]
    refine Lib.trimLeftB_drop _ 32 k (by rw [List.length_take]; omega) (fun j b hj hb => ?_) (fun b hb => ?_)
    · rw [List.getElem?_take_of_lt (by omega)] at hb
      exact hk j b (by omega) hj hb
    · rw [List.getElem?_take_of_lt (by omega)] at hb
      exact hx b hb
  · rw [Lib.trimRightB_take S 32 0 (by omega) (fun j b hj hb => hk j b hj (by have := lt hb; omega) hb) (fun b h0 _ => by omega)]
    rw [List.drop_eq_nil_of_le (by rw [List.length_take]; omega)]
    rfl
theorem bks_succ {S : List UInt8} {k : Nat} (h : Bks S 0 k) (hk : k < S.length) (hb : S[k] = 32) : Bks S 0 (k + 1) := by
  intro j x h0 h1 h2
  by_cases e : j = k
  · subst e; rw [List.getElem?_eq_getElem hk] at h2; cases h2; exact hb
  · exact h j x h0 (by omega) h2
theorem bks_back {S : List UInt8} {n : Nat} (h : Bks S (n + 1) S.length) (hk : n < S.length) (hb : S[n] = 32) : Bks S n S.length := by
  intro j x h0 h1 h2
  by_cases e : j = n
  · subst e; rw [List.getElem?_eq_getElem hk] at h2; cases h2; exact hb
  · exact h j x (by omega) h1 h2
/-- What stands from q to j. -/
def mid (S : List UInt8) (q j : Nat) : List UInt8 := (S.take j).drop q
theorem mid_len {S : List UInt8} {q j : Nat} (hj : j ≤ S.length) : (mid S q j).length = j - q := by unfold mid; rw [List.length_drop, List.length_take]; omega
theorem mid_succ {S : List UInt8} {q j : Nat} (hj : j < S.length) (hq : q ≤ j) : mid S q (j + 1) = mid S q j ++ [S[j]] := by
  unfold mid
  rw [List.take_succ_eq_append_getElem hj, List.drop_append_of_le_length (by rw [List.length_take]; omega)]
theorem mid_nil {S : List UInt8} (q : Nat) : mid S q q = [] := by unfold mid; exact List.drop_eq_nil_of_le (by rw [List.length_take]; omega)
theorem mid_head {S : List UInt8} {k m : Nat} (hm : m ≤ S.length) (h : k < m) : mid S k m = S[k]'(by omega) :: mid S (k + 1) m := by
  unfold mid
  rw [List.drop_eq_getElem_cons (by rw [List.length_take]; omega), List.getElem_take]
theorem mid_mem {S : List UInt8} {q j m : Nat} (hm : m ≤ S.length) (hq : q ≤ j) (hj : j < m) : S[j]'(by omega) ∈ mid S q m := by
  unfold mid
  rw [List.mem_drop_iff_getElem]
  exact ⟨j - q, by rw [List.length_take]; omega, by rw [List.getElem_take]; congr 1; omega⟩
/-- Digits so far. -/
def DigsM (S : List UInt8) (q j : Nat) : Prop := (mid S q j).all Dec.isDig = true
theorem mid_bound {S : List UInt8} {q j : Nat} (hj : j ≤ S.length) (h : j - q ≤ 12) (ha : DigsM S q j) : Dec.val (mid S q j) < 1000000000000 := by
  have h1 := Dec.val_lt _ ha
  rw [mid_len hj] at h1
  have h2 : 10 ^ (j - q) ≤ 10 ^ 12 := Nat.pow_le_pow_right (by omega) (by omega)
  have h3 : (10 : Nat) ^ 12 = 1000000000000 := by rfl
  omega
theorem it_none {T : List UInt8} (h : itB T = false) : itV T = 0 := by
  have e : Dec.dvv 12 (itD T) = 0 := by unfold Dec.dvv; rw [if_neg (by unfold itB at h; rw [h]; simp)]
  unfold itV
  rw [e]; simp
/-- The sign has been read. -/
def Sgn (T D : List UInt8) (neg : Bool) : Prop := itD T = D ∧ itN T = neg
theorem sgn_no {T D : List UInt8} {neg : Bool} (h : Hid (Sgn T D neg)) (hd : Dec.dok 12 D = false) : itB T = false ∧ itV T = 0 := by
  have e : itB T = false := by unfold itB; rw [h.out.1]; exact hd
  exact ⟨e, it_none e⟩
theorem sgn_yes {T D : List UInt8} {neg : Bool} (h : Hid (Sgn T D neg)) (hd : Dec.dok 12 D = true) : itB T = true ∧ itV T = if neg = true then -(Dec.val D : Int) else Dec.val D := by
  have e : itB T = true := by unfold itB; rw [h.out.1]; exact hd
  refine ⟨e, ?_⟩
  unfold itV
  rw [h.out.1, h.out.2]
  unfold Dec.dvv
  rw [if_pos hd]
theorem ne_nat8 {a b : UInt8} (h : a ≠ b) : ((a.toNat : Int) == (b.toNat : Int)) = false := by
  have h2 : ¬ a.toNat = b.toNat := fun e => h (UInt8.toNat_inj.1 e)
  simp; omega
theorem g8 (s : ByteArray) (k : Nat) (h : k < s.size) : s[k] = s.data.toList[k]'h := rfl

set_option maxHeartbeats 1600000 in
theorem spec_it (s : ByteArray) (w : World) (hs : (s.size : Int) ≤ 1048576) : Calls Tryz.prog 42 #[.string s] w fun e w' => e = .returned (.tuple #[.int .i64 (itV (Lib.trimB s.data.toList 32)), .bool (itB (Lib.trimB s.data.toList 32))]) ∧ w = w' := by
  generalize hT : Lib.trimB s.data.toList 32 = T
  have HT := Lib.hid hT
  have HL := Lib.hid (len8 s)
  clear hT
  go_enter Tryz.func42, Tryz.ntmps42
  go_wp2
  go_loop [4] (fun i => ∃ k : Nat, i = .int .i64 k ∧ k ≤ s.size ∧ Bks s.data.toList 0 k) (fun i => s.size - (intOf i).toNat)
  case atStart => exact ⟨0, rfl, by omega, fun j x _ h => by omega⟩
  case round =>
    obtain ⟨k, rfl, hk, hb⟩ := hrel
    have HB := Lib.hid hb
    clear hb
    rcases (show (∃ h : k < s.size, s[k] = 32) ∨ (∃ h : k < s.size, s[k] ≠ 32) ∨ k = s.size by
      rcases Nat.lt_or_ge k s.size with h | h
      · by_cases e : s[k] = 32
        · exact .inl ⟨h, e⟩
        · exact .inr (.inl ⟨h, e⟩)
      · exact .inr (.inr (by omega))) with ⟨h, e⟩ | ⟨h, e⟩ | h
    · have t : ((s[k].toNat : Int) == 32) = true := by rw [e]; rfl
      have HN := Lib.hid (bks_succ HB.out h e)
      clear e
      go_wp2
      go_round
      case rel => exact ⟨k + 1, by go_num, by omega, HN.out⟩
      case measure => first | (simp [intOf]; done) | (simp [intOf]; omega)
    · have t : ((s[k].toNat : Int) == 32) = false := ne_nat8 e
      have HX : Hid (∀ x, s.data.toList[k]? = some x → x ≠ 32) := fun x hx => by rw [List.getElem?_eq_getElem h] at hx; cases hx; exact e
      clear e
      go_wp2
      go_loop [5] (fun i => ∃ m : Nat, i = .int .i64 m ∧ k < m ∧ m ≤ s.size ∧ Bks s.data.toList m s.size) (fun i => (intOf i).toNat)
      case atStart => exact ⟨s.size, rfl, h, by omega, fun j x h1 h2 => by omega⟩
      case round =>
        obtain ⟨m, rfl, hkm, hm, hb2⟩ := hrel
        have HB2 := Lib.hid hb2
        clear hb2
        obtain ⟨n, rfl⟩ : ∃ n, m = n + 1 := ⟨m - 1, by omega⟩
        have hn : n < s.size := by omega
        have d1 : (k : Int) < (n : Int) + 1 := by omega
        by_cases e : s[n] = 32
        · have t2 : ((s[n].toNat : Int) == 32) = true := by rw [e]; rfl
          have hkn : k < n := by
            rcases Nat.lt_or_ge k n with h | h
            · exact h
            · obtain rfl : k = n := by omega
              exact absurd e (HX.out _ (by rw [List.getElem?_eq_getElem (show k < s.data.toList.length from hn)]; rfl))
          have HN := Lib.hid (bks_back (S := s.data.toList) (by rw [HL.out]; exact HB2.out) hn e)
          clear e
          go_wp2
          go_round
          case rel => exact ⟨n, by first | rfl | go_num | (congr 1; omega), hkn, by omega, by rw [← HL.out]; exact HN.out⟩
          case measure => first | (simp [intOf]; done) | (simp [intOf]; omega)
        · have t2 : ((s[n].toNat : Int) == 32) = false := ne_nat8 e
          have HM : Hid (T = mid s.data.toList k (n + 1)) := HT.out.symm.trans (trim_at (by omega) (by rw [HL.out]; omega) HB.out (by rw [HL.out]; exact HB2.out) HX.out (fun _ x hx => by rw [Nat.add_sub_cancel, List.getElem?_eq_getElem (show n < s.data.toList.length from hn)] at hx; cases hx; exact e) (fun _ => by omega))
          have HH : Hid (T = s[k] :: mid s.data.toList (k + 1) (n + 1)) := HM.out.trans (mid_head (by rw [HL.out]; omega) (by omega))
          clear e HT HX HB HB2 t
          generalize hs0 : s[k] = c at HH
          have HS0 := Lib.hid hs0
          clear hs0
          rcases (show c = 45 ∨ (c ≠ 45 ∧ c = 43) ∨ (c ≠ 45 ∧ c ≠ 43) by by_cases h1 : c = 45; exact .inl h1; by_cases h2 : c = 43; exact .inr (.inl ⟨h1, h2⟩); exact .inr (.inr ⟨h1, h2⟩)) with h1 | ⟨h1, h2⟩ | ⟨h1, h2⟩
          · have u1 : ((s[k].toNat : Int) == 45) = true := by rw [HS0.out, h1]; rfl
            have HG : Hid (Sgn T (mid s.data.toList (k + 1) (n + 1)) true) := by
              show _ ∧ _
              rw [HH.out, h1]; exact ⟨rfl, rfl⟩
            clear h1 HH HM HS0
            have hq : k + 1 ≤ n + 1 := by omega
            by_cases hr : 1 ≤ n + 1 - (k + 1) ∧ n + 1 - (k + 1) ≤ 12
            · have r1 : ¬ ((n : Int) + 1 - ((k : Int) + 1)) < 1 := by omega
              have r2 : ¬ (12 : Int) < ((n : Int) + 1 - ((k : Int) + 1)) := by omega
              go_wp2
              go_loop [4, 7] (fun i v => ∃ j : Nat, i = .int .i64 j ∧ k + 1 ≤ j ∧ j ≤ n + 1 ∧ v = .int .i64 (Dec.val (mid s.data.toList (k + 1) j)) ∧ DigsM s.data.toList (k + 1) j) (fun i _ => n + 1 - (intOf i).toNat)
              case atStart => exact ⟨k + 1, by first | rfl | go_num, by omega, by omega, by rw [mid_nil]; rfl, by unfold DigsM; rw [mid_nil]; rfl⟩
              case round =>
                obtain ⟨j, rfl, hj1, hj2, rfl, ha⟩ := hrel
                have hb := mid_bound (q := k + 1) (by rw [HL.out]; omega) (by omega) ha
                have HA := Lib.hid ha
                clear ha
                by_cases hlt : j < n + 1
                · have hjs : j < s.size := by omega
                  have hlti : (j : Int) < (n : Int) + 1 := by omega
                  rcases dig_cases s[j] with ⟨hd, d2, d3⟩ | ⟨hd, d2⟩ | ⟨hd, d2, d3⟩
                  · have HD := Lib.hid hd
                    clear hd
                    go_wp2
                    go_round
                    case rel => exact ⟨j + 1, by go_num, by omega, by omega, ret_val (by rw [mid_succ (by rw [HL.out]; omega) (by omega), Dec.val_snoc, ← g8 s j hjs]; omega), by unfold DigsM; rw [mid_succ (by rw [HL.out]; omega) (by omega), List.all_append, HA.out]; show (true && (Dec.isDig s[j] && true)) = true; rw [HD.out]; rfl⟩
                    case measure => first | (simp [intOf]; done) | (simp [intOf]; omega)
                  all_goals
                    have HD := Lib.hid hd
                    clear hd
                    go_wp2
                    go_ret2
                    have hno : Dec.dok 12 (mid s.data.toList (k + 1) (n + 1)) = false := Dec.dok_dig (by rw [List.all_eq_false]; exact ⟨s[j], mid_mem (by rw [HL.out]; omega) (by omega) hlt, by rw [HD.out]; simp⟩)
                    obtain ⟨e1, e2⟩ := sgn_no HG hno
                    exact ⟨ret_pair e2.symm e1.symm, rfl⟩
                · obtain rfl : j = n + 1 := by omega
                  have HY := Lib.hid (sgn_yes HG (Dec.dok_yes (by rw [mid_len (by rw [HL.out]; omega)]; omega) (by rw [mid_len (by rw [HL.out]; omega)]; omega) HA.out))
                  clear HA HG
                  generalize Dec.val (mid s.data.toList (k + 1) (n + 1)) = x at *
                  go_wp2
                  go_ret2
                  exact ⟨ret_pair (by rw [HY.out.2]; first | rfl | simp) HY.out.1.symm, rfl⟩
            · obtain ⟨e1, e2⟩ := sgn_no HG (Dec.dok_len (by rw [mid_len (by rw [HL.out]; omega)]; omega))
              have E1 := Lib.hid e1
              have E2 := Lib.hid e2
              clear e1 e2 HG
              rcases (show (n : Int) + 1 - ((k : Int) + 1) < 1 ∨ ((1 : Int) ≤ (n : Int) + 1 - ((k : Int) + 1) ∧ (12 : Int) < (n : Int) + 1 - ((k : Int) + 1)) by omega) with r1 | ⟨r1, r2⟩
              all_goals
                go_wp2
                go_ret2
                exact ⟨ret_pair E2.out.symm E1.out.symm, rfl⟩
          · have u1 : ((s[k].toNat : Int) == 45) = false := by rw [HS0.out, h2]; rfl
            have u2 : ((s[k].toNat : Int) == 43) = true := by rw [HS0.out, h2]; rfl
            have HG : Hid (Sgn T (mid s.data.toList (k + 1) (n + 1)) false) := by
              show _ ∧ _
              rw [HH.out, h2]; exact ⟨rfl, rfl⟩
            clear h1 h2 HH HM HS0
            have hq : k + 1 ≤ n + 1 := by omega
            by_cases hr : 1 ≤ n + 1 - (k + 1) ∧ n + 1 - (k + 1) ≤ 12
            · have r1 : ¬ ((n : Int) + 1 - ((k : Int) + 1)) < 1 := by omega
              have r2 : ¬ (12 : Int) < ((n : Int) + 1 - ((k : Int) + 1)) := by omega
              go_wp2
              go_loop [4, 7] (fun i v => ∃ j : Nat, i = .int .i64 j ∧ k + 1 ≤ j ∧ j ≤ n + 1 ∧ v = .int .i64 (Dec.val (mid s.data.toList (k + 1) j)) ∧ DigsM s.data.toList (k + 1) j) (fun i _ => n + 1 - (intOf i).toNat)
              case atStart => exact ⟨k + 1, by first | rfl | go_num, by omega, by omega, by rw [mid_nil]; rfl, by unfold DigsM; rw [mid_nil]; rfl⟩
              case round =>
                obtain ⟨j, rfl, hj1, hj2, rfl, ha⟩ := hrel
                have hb := mid_bound (q := k + 1) (by rw [HL.out]; omega) (by omega) ha
                have HA := Lib.hid ha
                clear ha
                by_cases hlt : j < n + 1
                · have hjs : j < s.size := by omega
                  have hlti : (j : Int) < (n : Int) + 1 := by omega
                  rcases dig_cases s[j] with ⟨hd, d2, d3⟩ | ⟨hd, d2⟩ | ⟨hd, d2, d3⟩
                  · have HD := Lib.hid hd
                    clear hd
                    go_wp2
                    go_round
                    case rel => exact ⟨j + 1, by go_num, by omega, by omega, ret_val (by rw [mid_succ (by rw [HL.out]; omega) (by omega), Dec.val_snoc, ← g8 s j hjs]; omega), by unfold DigsM; rw [mid_succ (by rw [HL.out]; omega) (by omega), List.all_append, HA.out]; show (true && (Dec.isDig s[j] && true)) = true; rw [HD.out]; rfl⟩
                    case measure => first | (simp [intOf]; done) | (simp [intOf]; omega)
                  all_goals
                    have HD := Lib.hid hd
                    clear hd
                    go_wp2
                    go_ret2
                    have hno : Dec.dok 12 (mid s.data.toList (k + 1) (n + 1)) = false := Dec.dok_dig (by rw [List.all_eq_false]; exact ⟨s[j], mid_mem (by rw [HL.out]; omega) (by omega) hlt, by rw [HD.out]; simp⟩)
                    obtain ⟨e1, e2⟩ := sgn_no HG hno
                    exact ⟨ret_pair e2.symm e1.symm, rfl⟩
                · obtain rfl : j = n + 1 := by omega
                  have HY := Lib.hid (sgn_yes HG (Dec.dok_yes (by rw [mid_len (by rw [HL.out]; omega)]; omega) (by rw [mid_len (by rw [HL.out]; omega)]; omega) HA.out))
                  clear HA HG
                  generalize Dec.val (mid s.data.toList (k + 1) (n + 1)) = x at *
                  go_wp2
                  go_ret2
                  exact ⟨ret_pair (by rw [HY.out.2]; first | rfl | simp) HY.out.1.symm, rfl⟩
            · obtain ⟨e1, e2⟩ := sgn_no HG (Dec.dok_len (by rw [mid_len (by rw [HL.out]; omega)]; omega))
              have E1 := Lib.hid e1
              have E2 := Lib.hid e2
              clear e1 e2 HG
              rcases (show (n : Int) + 1 - ((k : Int) + 1) < 1 ∨ ((1 : Int) ≤ (n : Int) + 1 - ((k : Int) + 1) ∧ (12 : Int) < (n : Int) + 1 - ((k : Int) + 1)) by omega) with r1 | ⟨r1, r2⟩
              all_goals
                go_wp2
                go_ret2
                exact ⟨ret_pair E2.out.symm E1.out.symm, rfl⟩
          · have u1 : ((s[k].toNat : Int) == 45) = false := by rw [HS0.out]; exact ne_nat8 h1
            have u2 : ((s[k].toNat : Int) == 43) = false := by rw [HS0.out]; exact ne_nat8 h2
            have HG : Hid (Sgn T (mid s.data.toList k (n + 1)) false) := by
              show _ ∧ _
              rw [← HM.out, HH.out]
              unfold itD itN
              refine ⟨if_neg ?_, ?_⟩
              · rintro (h | h)
                · exact h1 (by simpa using h)
                · exact h2 (by simpa using h)
              · simpa using h1
            clear h1 h2 HH HM HS0
            have hq : k ≤ n + 1 := by omega
            by_cases hr : 1 ≤ n + 1 - (k) ∧ n + 1 - (k) ≤ 12
            · have r1 : ¬ ((n : Int) + 1 - ((k : Int))) < 1 := by omega
              have r2 : ¬ (12 : Int) < ((n : Int) + 1 - ((k : Int))) := by omega
              go_wp2
              go_loop [4, 7] (fun i v => ∃ j : Nat, i = .int .i64 j ∧ k ≤ j ∧ j ≤ n + 1 ∧ v = .int .i64 (Dec.val (mid s.data.toList (k) j)) ∧ DigsM s.data.toList (k) j) (fun i _ => n + 1 - (intOf i).toNat)
              case atStart => exact ⟨k, by first | rfl | go_num, by omega, by omega, by rw [mid_nil]; rfl, by unfold DigsM; rw [mid_nil]; rfl⟩
              case round =>
                obtain ⟨j, rfl, hj1, hj2, rfl, ha⟩ := hrel
                have hb := mid_bound (q := k) (by rw [HL.out]; omega) (by omega) ha
                have HA := Lib.hid ha
                clear ha
                by_cases hlt : j < n + 1
                · have hjs : j < s.size := by omega
                  have hlti : (j : Int) < (n : Int) + 1 := by omega
                  rcases dig_cases s[j] with ⟨hd, d2, d3⟩ | ⟨hd, d2⟩ | ⟨hd, d2, d3⟩
                  · have HD := Lib.hid hd
                    clear hd
                    go_wp2
                    go_round
                    case rel => exact ⟨j + 1, by go_num, by omega, by omega, ret_val (by rw [mid_succ (by rw [HL.out]; omega) (by omega), Dec.val_snoc, ← g8 s j hjs]; omega), by unfold DigsM; rw [mid_succ (by rw [HL.out]; omega) (by omega), List.all_append, HA.out]; show (true && (Dec.isDig s[j] && true)) = true; rw [HD.out]; rfl⟩
                    case measure => first | (simp [intOf]; done) | (simp [intOf]; omega)
                  all_goals
                    have HD := Lib.hid hd
                    clear hd
                    go_wp2
                    go_ret2
                    have hno : Dec.dok 12 (mid s.data.toList (k) (n + 1)) = false := Dec.dok_dig (by rw [List.all_eq_false]; exact ⟨s[j], mid_mem (by rw [HL.out]; omega) (by omega) hlt, by rw [HD.out]; simp⟩)
                    obtain ⟨e1, e2⟩ := sgn_no HG hno
                    exact ⟨ret_pair e2.symm e1.symm, rfl⟩
                · obtain rfl : j = n + 1 := by omega
                  have HY := Lib.hid (sgn_yes HG (Dec.dok_yes (by rw [mid_len (by rw [HL.out]; omega)]; omega) (by rw [mid_len (by rw [HL.out]; omega)]; omega) HA.out))
                  clear HA HG
                  generalize Dec.val (mid s.data.toList (k) (n + 1)) = x at *
                  go_wp2
                  go_ret2
                  exact ⟨ret_pair (by rw [HY.out.2]; first | rfl | simp) HY.out.1.symm, rfl⟩
            · obtain ⟨e1, e2⟩ := sgn_no HG (Dec.dok_len (by rw [mid_len (by rw [HL.out]; omega)]; omega))
              have E1 := Lib.hid e1
              have E2 := Lib.hid e2
              clear e1 e2 HG
              rcases (show (n : Int) + 1 - ((k : Int)) < 1 ∨ ((1 : Int) ≤ (n : Int) + 1 - ((k : Int)) ∧ (12 : Int) < (n : Int) + 1 - ((k : Int))) by omega) with r1 | ⟨r1, r2⟩
              all_goals
                go_wp2
                go_ret2
                exact ⟨ret_pair E2.out.symm E1.out.symm, rfl⟩
    · obtain rfl := h
      have hT0 : T = [] := HT.out.symm.trans (trim_at (m := s.size) (by omega) (by rw [HL.out]; omega) HB.out (by rw [HL.out]; exact fun j x h1 h2 => by omega) (fun x hx => by have := (List.getElem?_eq_some_iff.1 hx).1; rw [HL.out] at this; omega) (fun h => by omega) (fun h => by rw [HL.out] at h; omega) |>.trans (mid_nil _))
      subst hT0
      clear HT
      go_wp2
      go_loop [5] (fun i => i = .int .i64 s.size) (fun i => (intOf i).toNat)
      case atStart => exact rfl
      case round =>
        obtain rfl := hrel
        go_wp2
        go_ret2
        exact ⟨rfl, rfl⟩

end Go.Proofs.YtfhakailbikjkaaGreatDoor
