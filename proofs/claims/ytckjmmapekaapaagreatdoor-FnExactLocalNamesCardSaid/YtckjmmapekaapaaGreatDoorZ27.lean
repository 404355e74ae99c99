/- Joined texts: C8, C9. No conditions besides those that each states. -/
import Derived.Laws.BytesArg
import Derived.OwnWalk
import Derived.Test.YtckjmmapekaapaaGreatDoorZ26
/- CsetText of the program and of the reference model: the elements in ascending order. No conditions. -/
namespace Go.Proofs.YtckjmmapekaapaaGreatDoor
open Go.RowKit
set_option linter.unusedVariables false

theorem info_u8 : (Tryz.prog.info? 5).map (fun i => (i.zero, i.size, i.bytes)) = some (some (.int .u8 0), 1, 1) := by kernel_rfl

/-- Bytes of the call's own: a slice whose elements are l, in a block from base on. -/
def OwnB (w : World) (base : Nat) (v : Value) (l : List Nat) : Prop := w.ownsRow base 5 1 v l.length (l.map fun n : Nat => Value.int .u8 n)
/-- Bytes as a string. -/
def txt (l : List Nat) : ByteArray := ⟨(l.map UInt8.ofNat).toArray⟩
theorem txt_size (l : List Nat) : (txt l).size = l.length := by simp [txt, ByteArray.size]
theorem txt_nums (l : List Nat) : strOfNums (l.map fun n : Nat => (n : Int)) = txt l := by
  unfold strOfNums txt; simp
theorem ownB_app {w1 : World} {base : Nat} {v' : Value} {l : List Nat} {x : Nat} (h : w1.ownsRow base 5 1 v' (l.length + 1) ((l.map fun n : Nat => Value.int .u8 n) ++ [Value.int .u8 x])) : OwnB w1 base v' (l ++ [x]) := by
  unfold OwnB; rw [List.map_append, List.length_append]; exact h
theorem belowB_app {w wr w1 : World} {B : Nat} {v : Value} {l : List Nat} {o : Obj} (hb : Below w.heap.size w wr) (hB : w.heap.size ≤ B) (hB2 : B ≤ wr.heap.size) (hown : OwnB wr B v l) (hg : (wr.alloc o).grownBy w1 v.ownBlock) : Below w.heap.size w w1 :=
  (hb.alloc hb.size o).grown hg (by have := hb.size; simp; omega) (fun k hk => Nat.le_trans hB (hown.lt k hk).1)
/-- What lies below the row is as it was. -/
theorem belowB_row {wr w1 : World} {B : Nat} {v : Value} {l : List Nat} {o : Obj} (hB2 : B ≤ wr.heap.size) (hown : OwnB wr B v l) (hg : (wr.alloc o).grownBy w1 v.ownBlock) : Below B wr w1 :=
  ((Below.refl B wr).alloc hB2 o).grown hg (by simp; omega) (fun k hk => (hown.lt k hk).1)
theorem ownB_below {w w1 : World} {base : Nat} {v : Value} {l : List Nat} (h : OwnB w base v l) (hb : Below w.heap.size w w1) : OwnB w1 base v l := by
  refine ⟨h.1, ?_⟩
  rcases h.2 with hn | ⟨g, cap, cur, hv, hg, hgg, r⟩
  · exact .inl hn
  · exact .inr ⟨g, cap, cur, hv, hg, by rw [hb.block g (Array.getElem?_eq_some_iff.1 hgg).1]; exact hgg, r⟩
theorem new_byte (w : World) (x : Value) (t : TypeId) : ∀ (j : Nat) (u : Value), [x][j]? = some u → (w.alloc (.cells #[x] t)).cell? ((⟨w.heap.size, 0, none⟩ : Addr).add j) = some u := by
  intro j u hj
  match j, hj with
  | 0, hj => simp at hj; subst hj; simp [Addr.add]
theorem one_byte (k : IntKind) (x : Int) : ∀ u ∈ [Value.int k x], u.oneCell' = true := by
  intro u hu; simp at hu; subst hu; rfl
theorem conv_own {w : World} {base : Nat} {v : Value} {l : List Nat} (h : OwnB w base v l) : (convert 105 9 v).run Tryz.prog w = .ok (.string (txt l)) w := by
  have h2 := h.2
  rcases h2 with ⟨rfl, h0⟩ | ⟨g, cap, cur, rfl, hg⟩
  · have : l = [] := List.length_eq_zero_iff.1 h0
    subst this
    exact run_convert_bytes_nil (P := Tryz.prog) w 105 5 Tryz.underlying105 Tryz.underlying5 0 0 9 Tryz.underlying9
  · have e := run_convert_bytes_arg (P := Tryz.prog) w 105 5 Tryz.underlying105 Tryz.underlying5 g 0 l.length cap (l.map fun n : Nat => (n : Int)) (by simp) (fun i hi => by
      rw [Nat.zero_add, h.cellAt i (by omega)]
      simp [List.getD, List.getElem?_eq_getElem hi]) 9 Tryz.underlying9
    rw [txt_nums] at e
    exact e

theorem SetAt.below {w wx : World} {B b : Nat} {l h : Int} (s : SetAt w b l h) (hb : Below B w wx) (hB : b < B) : SetAt wx b l h :=
  ⟨(hb.cell (p := ⟨b, 0, none⟩) hB).trans s.1, (hb.cell (p := ⟨b, 1, none⟩) hB).trans s.2⟩

/-- The state of the loops: the set's variable, the bytes so far. -/
def TextAt (w : World) (a b : Int) (k : Nat) (v : Value) (wr : World) : Prop := SetAt wr w.heap.size a b ∧ OwnB wr (w.heap.size + 1) v (Cs.textTo a b k) ∧ Below w.heap.size w wr
theorem TextAt.lt {w wr : World} {a b : Int} {k : Nat} {v : Value} (h : TextAt w a b k v wr) : w.heap.size < wr.heap.size := h.1.lt
theorem TextAt.later {w wr wx : World} {a b : Int} {k : Nat} {v : Value} (h : TextAt w a b k v wr) (hb : Below wr.heap.size wr wx) : TextAt w a b k v wx :=
  ⟨h.1.later hb, ownB_below h.2.1 hb, below_step h.2.2 hb⟩
theorem TextAt.no {w wr : World} {a b : Int} {k : Nat} {v : Value} (h : TextAt w a b k v wr) (hm : Cs.mem a b k = false) : TextAt w a b (k + 1) v wr := by
  refine ⟨h.1, ?_, h.2.2⟩
  rw [Cs.textTo_succ, if_neg (by simp [hm]), List.append_nil]; exact h.2.1
theorem TextAt.yes {w wr w1 : World} {a b : Int} {k : Nat} {v v' : Value} {o : Obj} (h : TextAt w a b k v wr) (hm : Cs.mem a b k = true)
    (hown : w1.ownsRow (w.heap.size + 1) 5 1 v' ((Cs.textTo a b k).length + 1) (((Cs.textTo a b k).map fun n : Nat => Value.int .u8 n) ++ [Value.int .u8 k])) (hg : (wr.alloc o).grownBy w1 v.ownBlock) : TextAt w a b (k + 1) v' w1 := by
  refine ⟨h.1.below (belowB_row h.lt h.2.1 hg) (Nat.lt_succ_self _), ?_, belowB_app h.2.2 (Nat.le_succ _) h.lt h.2.1 hg⟩
  rw [Cs.textTo_succ, if_pos hm]; exact ownB_app hown
theorem TextAt.start (w : World) (a b : Int) (T : TypeId) : TextAt w a b 0 (.slice (some ⟨w.heap.size + 1, 0, none⟩) 0 0) ((w.alloc (.cells #[.int .i64 a, .int .i64 b] T)).alloc (.cells #[] 5)) := by
  have hz : (w.alloc (.cells #[.int .i64 a, .int .i64 b] T)).heap.size = w.heap.size + 1 := by simp
  have h := World.ownsRow_made (base := w.heap.size + 1) (e := 5) (size := 1) (w.alloc (.cells #[.int .i64 a, .int .i64 b] T)) #[] 0 (Nat.le_of_eq hz.symm) (by unfold maxLen; omega) rfl
  rw [hz] at h
  exact ⟨(SetAt.new w a b T).later (bl1 _ _), h, bl2 _ _ _⟩
theorem len_small {n : Nat} (h : n ≤ 128) : n + 1 ≤ maxLen := by unfold maxLen; omega
def RetText (w : World) (s : ByteArray) (e : Ending) (w' : World) : Prop := e = .returned (.string s) ∧ Below w.heap.size w w'

set_option maxHeartbeats 800000 in
theorem spec_text (a b : Int) (w : World) : Calls Tryz.prog 104 #[.agg #[.int .i64 a, .int .i64 b]] w (RetText w (txt (Cs.text a b))) := by
  obtain ⟨i0, hi, hz0, hz1, hz2⟩ := info_parts info_u8
  go_enter Tryz.func104, Tryz.ntmps104
  go_wp2
  go_loopw [3, 4] (fun v i wr => ∃ k : Nat, i = .int .i64 k ∧ k ≤ 128 ∧ TextAt w a b k v wr) (fun _ i _ => 128 - (intOf i).toNat)
  case atStart => exact ⟨0, rfl, by omega, TextAt.start w a b _⟩
  case round =>
    obtain ⟨k, rfl, hk, ht⟩ := hrel
    have HT := Lib.hid ht
    by_cases hlt : (k : Int) < 128
    · obtain ⟨c0, c1⟩ := ht.1
      have hl := ht.lt
      have hle := Cs.textTo_len a b k
      clear ht
      go_wp2_with fail
      refine (spec_has _ _ _ _ (by omega) (by omega)).mono ?_
      rw [Int.toNat_natCast]
      rintro e w1 ⟨rfl, hb1⟩
      have HT1 := Lib.hid (HT.out.later hb1)
      have hl1 := HT1.out.lt
      clear hb1 c0 c1
      by_cases hm : Cs.mem a b k = true
      · go_wp2_with (at_builtin; refine wpList_append_own _ rfl _ _ 105 rfl (w.heap.size + 1) 5 i0 (.int .u8 0) 1 1 Tryz.underlying105 hi hz0 hz1 hz2 rfl (by decide) _ _ _ rfl (HT1.out.2.1.alloc _) ⟨w1.heap.size, 0, none⟩ 1 1 [.int .u8 k] rfl rfl ?c1 ?c2 ?c3 ?c4 ?c5 ?_)
        case c1 => exact new_byte _ _ _
        case c2 => exact one_byte _ _
        case c3 => exact len_small (by omega)
        case c4 => omega
        case c5 => simp; omega
        intro v' w2 hown' hgrow _
        have ho := Lib.hid (HT1.out.yes hm hown' hgrow)
        clear hown' hgrow
        go_wp2
        go_roundw
        case rel => exact ⟨k + 1, by go_num, by omega, ho.out⟩
        case measure => first | (simp [intOf]; done) | (simp [intOf]; omega)
      · have hm2 : Cs.mem a b k = false := by simpa using hm
        clear hm
        have ho := Lib.hid (HT1.out.no hm2)
        go_wp2
        go_roundw
        case rel => exact ⟨k + 1, by go_num, by omega, ho.out⟩
        case measure => first | (simp [intOf]; done) | (simp [intOf]; omega)
    · obtain rfl : k = 128 := by omega
      have hc := conv_own ht.2.1
      have HB := Lib.hid ht.2.2
      clear ht
      go_wp2
      go_ret
      exact ⟨rfl, HB.out⟩

set_option maxHeartbeats 800000 in
theorem impl_text (a b : Int) (w : World) : Calls Tryz.prog 117 #[.agg #[.int .i64 a, .int .i64 b]] w (RetText w (txt (Cs.text a b))) := by
  obtain ⟨i0, hi, hz0, hz1, hz2⟩ := info_parts info_u8
  have hsz := Cs.textTo_len a b 128
  have HS := Lib.hid (fun W => impl_size a b W)
  go_enter Tryz.func117, Tryz.ntmps117
  go_wp2_with fail
  refine (HS.out _).mono ?_
  rintro e w0 ⟨rfl, hb0⟩
  have HS0 := Lib.hid ((SetAt.new w a b _).later hb0)
  have HB0 := Lib.hid (below_step (bl1 _ _) hb0)
  have hl0 := HS0.out.lt
  clear hb0
  have hsz2 : (Cs.text a b).length ≤ 128 := hsz
  obtain ⟨w1, hmk, hown, hgr⟩ := run_make_own (P := Tryz.prog) w0 (w.heap.size + 1) 105 5 i0 (.int .u8 0) 1 Tryz.underlying105 hi hz0 hz1 .i64 .i64 (Cs.text a b).length (by rw [hz2]; omega) (by unfold maxLen; omega) hl0
  have hb1 : Below w0.heap.size w0 w1 := (Below.refl _ _).grown hgr (Nat.le_refl _) (fun k hk => by cases hk)
  have HT := Lib.hid (show TextAt w a b 0 _ w1 from ⟨HS0.out.later hb1, hown, below_step HB0.out hb1⟩)
  clear hown hgr hb1
  go_wp2
  go_loopw [3, 4, 8] (fun v _ i wr => ∃ k : Nat, i = .int .u8 k ∧ k ≤ 128 ∧ TextAt w a b k v wr) (fun _ _ i _ => 128 - (intOf i).toNat)
  case atStart => exact ⟨0, rfl, by omega, HT.out⟩
  case round =>
    clear hmk HT HS0 HB0
    obtain ⟨k, rfl, hk, ht⟩ := hrel
    have HT := Lib.hid ht
    by_cases hlt : (k : Int) < 128
    · obtain ⟨c0, c1⟩ := ht.1
      have hl := ht.lt
      have hle := Cs.textTo_len a b k
      clear ht
      go_wp2_with fail
      refine (impl_has _ _ _ _ (by omega) (by omega)).mono ?_
      rw [Int.toNat_natCast]
      rintro e w2 ⟨rfl, hb2⟩
      have HT1 := Lib.hid (HT.out.later hb2)
      have hl1 := HT1.out.lt
      clear hb2 c0 c1
      by_cases hm : Cs.mem a b k = true
      · go_wp2_with (at_builtin; refine wpList_append_own _ rfl _ _ 105 rfl (w.heap.size + 1) 5 i0 (.int .u8 0) 1 1 Tryz.underlying105 hi hz0 hz1 hz2 rfl (by decide) _ _ _ rfl (HT1.out.2.1.alloc _) ⟨w2.heap.size, 0, none⟩ 1 1 [.int .u8 k] rfl rfl ?c1 ?c2 ?c3 ?c4 ?c5 ?_)
        case c1 => exact new_byte _ _ _
        case c2 => exact one_byte _ _
        case c3 => exact len_small (by omega)
        case c4 => omega
        case c5 => simp; omega
        intro v' w3 hown' hgrow _
        have ho := Lib.hid (HT1.out.yes hm hown' hgrow)
        clear hown' hgrow
        go_wp2
        go_roundw
        case rel => exact ⟨k + 1, by go_num, by omega, ho.out⟩
        case measure => first | (simp [intOf]; done) | (simp [intOf]; omega)
      · have hm2 : Cs.mem a b k = false := by simpa using hm
        clear hm
        have ho := Lib.hid (HT1.out.no hm2)
        go_wp2
        go_roundw
        case rel => exact ⟨k + 1, by go_num, by omega, ho.out⟩
        case measure => first | (simp [intOf]; done) | (simp [intOf]; omega)
    · obtain rfl : k = 128 := by omega
      have hc := conv_own ht.2.1
      have HB := Lib.hid ht.2.2
      clear ht
      go_wp2
      go_ret
      exact ⟨rfl, HB.out⟩

end Go.Proofs.YtckjmmapekaapaaGreatDoor
/- NewCset of the reference model: the set of a string's bytes. No conditions. -/
namespace Go.Proofs.YtckjmmapekaapaaGreatDoor
open Go.RowKit
attribute [local go_sem ↓] Go.wp_at_zero Go.wp_at_succ
set_option linter.unusedVariables false

/-- The first k bytes. -/
def Cs.pre (s : ByteArray) (k : Nat) : List Nat := (s.data.toList.take k).map UInt8.toNat
/-- None of the first k bytes is above 127. -/
def Cs.okTo (s : ByteArray) (k : Nat) : Bool := (s.data.toList.take k).all fun c => decide (c.toNat < 128)
def Cs.good (s : ByteArray) : Bool := s.data.toList.all fun c => decide (c.toNat < 128)
def Cs.newL (s : ByteArray) : Int := if Cs.good s = true then Cs.allL (s.data.toList.map UInt8.toNat) else 0
def Cs.newH (s : ByteArray) : Int := if Cs.good s = true then Cs.allH (s.data.toList.map UInt8.toNat) else 0
theorem Cs.take_snoc (s : ByteArray) (k : Nat) (h : k < s.size) : s.data.toList.take (k + 1) = s.data.toList.take k ++ [s[k]] := by
  rw [List.take_succ_eq_append_getElem (by simpa using h)]; rfl
theorem Cs.pre_succ (s : ByteArray) (k : Nat) (h : k < s.size) : Cs.pre s (k + 1) = Cs.pre s k ++ [s[k].toNat] := by
  unfold Cs.pre; rw [Cs.take_snoc s k h, List.map_append]; rfl
theorem Cs.okTo_succ (s : ByteArray) (k : Nat) (h : k < s.size) : Cs.okTo s (k + 1) = (Cs.okTo s k && decide (s[k].toNat < 128)) := by
  unfold Cs.okTo; rw [Cs.take_snoc s k h, List.all_append]; simp
theorem Cs.good_end (s : ByteArray) (h : Cs.okTo s s.size = true) : Cs.good s = true ∧ Cs.newL s = Cs.allL (Cs.pre s s.size) ∧ Cs.newH s = Cs.allH (Cs.pre s s.size) := by
  have e : s.data.toList.take s.size = s.data.toList := List.take_of_length_le (by simp)
  unfold Cs.okTo at h; rw [e] at h
  refine ⟨h, ?_, ?_⟩
  · unfold Cs.newL Cs.pre Cs.good; rw [if_pos h, e]
  · unfold Cs.newH Cs.pre Cs.good; rw [if_pos h, e]
theorem Cs.good_bad (s : ByteArray) (k : Nat) (hk : k < s.size) (h : 128 ≤ s[k].toNat) : Cs.good s = false ∧ Cs.newL s = 0 ∧ Cs.newH s = 0 := by
  have hg : Cs.good s = false := by
    rw [Cs.good, List.all_eq_false]
    exact ⟨s[k], by have := List.getElem_mem (l := s.data.toList) (n := k) (by simpa using hk); exact this, by simp; omega⟩
  refine ⟨hg, ?_, ?_⟩
  · unfold Cs.newL; rw [if_neg (by rw [hg]; simp)]
  · unfold Cs.newH; rw [if_neg (by rw [hg]; simp)]

/-- A set's variable that may be written. -/
def FreeSet (w : World) (b : Nat) (l h : Int) : Prop := SetAt w b l h ∧ w.frozen? ⟨b, 0, none⟩ = false ∧ w.frozen? ⟨b, 1, none⟩ = false
theorem FreeSet.later {wa wb : World} {g : Nat} {l k : Int} (h : FreeSet wa g l k) (hb : Below wa.heap.size wa wb) : FreeSet wb g l k :=
  ⟨h.1.later hb, free_later hb h.1.lt h.2.1, free_later hb h.1.lt h.2.2⟩
theorem FreeSet.new (W : World) (l k : Int) (T : TypeId) : FreeSet (W.alloc (.cells #[.int .i64 l, .int .i64 k] T)) W.heap.size l k := by
  refine ⟨SetAt.new _ _ _ _, ?_, ?_⟩ <;> go_simp
theorem FreeSet.stored {w : World} {g : Nat} {l0 k0 : Int} (h : FreeSet w g l0 k0) (l k : Int) : FreeSet ((w.setCell ⟨g, 0, none⟩ (.int .i64 l)).setCell ⟨g, 1, none⟩ (.int .i64 k)) g l k := by
  obtain ⟨⟨h0, h1⟩, h2, h3⟩ := h
  refine ⟨⟨?_, ?_⟩, ?_, ?_⟩ <;> go_simp
theorem FreeSet.far {w : World} {b g : Nat} {l h : Int} (s : FreeSet w b l h) (hne : b ≠ g) (x y : Value) : FreeSet ((w.setCell ⟨g, 0, none⟩ x).setCell ⟨g, 1, none⟩ y) b l h := by
  obtain ⟨s0, s1, s2⟩ := s
  refine ⟨s0.far hne x y, ?_, ?_⟩ <;> simp [s1, s2]
theorem FreeSet.drew {w : World} {b : Nat} {l h : Int} (s : FreeSet w b l h) : FreeSet w.drew b l h := s

/-- A set and a bool are returned. -/
def RetNew (w : World) (l h : Int) (b : Bool) (e : Ending) (w' : World) : Prop := e = .returned (.tuple #[.agg #[.int .i64 l, .int .i64 h], .bool b]) ∧ Below w.heap.size w w'
/-- The state of the loops: the result's variable and the set so far. -/
def NewAt (w : World) (l h : Int) (wr : World) : Prop := FreeSet wr w.heap.size 0 0 ∧ FreeSet wr (w.heap.size + 1) l h ∧ Below w.heap.size w wr
theorem NewAt.later {w wr wx : World} {l h : Int} (s : NewAt w l h wr) (hb : Below wr.heap.size wr wx) : NewAt w l h wx := ⟨s.1.later hb, s.2.1.later hb, below_step s.2.2 hb⟩
theorem NewAt.drew {w wr : World} {l h : Int} (s : NewAt w l h wr) : NewAt w l h wr.drew := ⟨s.1.drew, s.2.1.drew, s.2.2.drew⟩
theorem NewAt.stored {w wr : World} {l h : Int} (s : NewAt w l h wr) (l2 h2 : Int) : NewAt w l2 h2 ((wr.setCell ⟨w.heap.size + 1, 0, none⟩ (.int .i64 l2)).setCell ⟨w.heap.size + 1, 1, none⟩ (.int .i64 h2)) :=
  ⟨s.1.far (by omega) _ _, s.2.1.stored l2 h2, below_store s.2.2 (by omega) _ _⟩
theorem NewAt.start (w : World) (T : TypeId) : NewAt w 0 0 ((w.alloc (.cells #[.int .i64 0, .int .i64 0] T)).alloc (.cells #[.int .i64 0, .int .i64 0] T)) := by
  have h := FreeSet.new (w.alloc (.cells #[.int .i64 0, .int .i64 0] T)) 0 0 T
  rw [show (w.alloc (.cells #[.int .i64 0, .int .i64 0] T)).heap.size = w.heap.size + 1 by simp] at h
  exact ⟨(FreeSet.new w 0 0 T).later (bl1 _ _), h, bl2 _ _ _⟩

theorem Cs.or_one {l h : Int} (f1 : Cs.Fits l) (f2 : Cs.Fits h) {x : Int} (h0 : 0 ≤ x) (h1 : x < 128) : bits .or .i64 l (Cs.oneL x) = Cs.addL l x.toNat ∧ bits .or .i64 h (Cs.oneH x) = Cs.addH h x.toNat := by
  unfold Cs.oneL Cs.oneH Cs.addL Cs.addH
  by_cases ha : x < 64
  · have hb : x.toNat < 64 := by omega
    rw [if_pos ha, if_pos ha, if_pos hb, if_pos hb, Cs.or_zero f2]; exact ⟨rfl, rfl⟩
  · have hb : ¬ x.toNat < 64 := by omega
    have e0 : x.toNat - 64 = (x - 64).toNat := by omega
    rw [if_neg ha, if_neg ha, if_neg hb, if_neg hb, if_pos h1, Cs.or_zero f1, e0]; exact ⟨rfl, rfl⟩
set_option maxHeartbeats 800000 in
theorem spec_new (s : ByteArray) (hs : s.size ≤ maxLen) (w : World) : Calls Tryz.prog 103 #[.string s] w (RetNew w (Cs.newL s) (Cs.newH s) (Cs.good s)) := by
  unfold maxLen at hs
  go_enter Tryz.func103, Tryz.ntmps103
  go_wp2
  go_loopw [5] (fun i wr => ∃ k : Nat, i = .int .i64 k ∧ k ≤ s.size ∧ Cs.okTo s k = true ∧ NewAt w (Cs.allL (Cs.pre s k)) (Cs.allH (Cs.pre s k)) wr) (fun i _ => s.size - (intOf i).toNat)
  case atStart => exact ⟨0, rfl, by omega, rfl, NewAt.start w _⟩
  case round =>
    obtain ⟨k, rfl, hk, hok, hn⟩ := hrel
    have HO := Lib.hid hok
    have HN := Lib.hid hn
    clear hok
    by_cases hlt : k < s.size
    · by_cases hbad : 128 ≤ (s[k].toNat : Int)
      · obtain ⟨⟨⟨r0, r1⟩, r2, r3⟩, _, hB⟩ := hn
        have HB := Lib.hid hB
        have HG := Lib.hid (Cs.good_bad s k hlt (by omega))
        clear hB
        go_wp2
        exact bodyPost_ret (v := .tuple #[.agg #[.int .i64 0, .int .i64 0], .bool false]) (by simp [results, Tryz.results103, go_sem, r0, r1]) rfl ⟨by rw [HG.out.1, HG.out.2.1, HG.out.2.2], below_store HB.out (Nat.le_refl _) _ _⟩
      · obtain ⟨⟨⟨r0, r1⟩, r2, r3⟩, ⟨⟨t0, t1⟩, t2, t3⟩, hB⟩ := hn
        have hx : s[k].toNat < 128 := by omega
        have HX := Lib.hid (Cs.okTo_succ s k hlt)
        have HP := Lib.hid (Cs.pre_succ s k hlt)
        have HL := Lib.hid (Cs.all_snoc (Cs.pre s k) s[k].toNat)
        clear hB
        have k0 : (0 : Int) ≤ k := by omega
        have k1 : (k : Int) < s.size := by omega
        go_wp2_with fail
        go_region_with (first | (go_at_call 113; refine (spec_add _ _ _ _ (by omega) (by omega)).mono ?_; rw [Int.toNat_natCast]; rintro e w1 ⟨rfl, hb1⟩; have HN1 := Lib.hid (HN.out.drew.later hb1); obtain ⟨⟨q0, q1⟩, q2, q3⟩ := HN1.out.2.1))
        all_goals go_wp2
        all_goals go_roundw
        all_goals first
          | exact ⟨k + 1, by go_num, by omega, by rw [HX.out, HO.out]; simpa using hx, by rw [HP.out, HL.out.1, HL.out.2]; exact HN1.out.stored _ _⟩
          | (simp [intOf]; done)
          | (simp [intOf]; omega)
    · obtain rfl : k = s.size := by omega
      obtain ⟨⟨⟨r0, r1⟩, r2, r3⟩, ⟨⟨t0, t1⟩, t2, t3⟩, hB⟩ := hn
      have HB := Lib.hid hB
      have HG := Lib.hid (Cs.good_end s HO.out)
      clear hB
      go_wp2
      exact bodyPost_ret (v := .tuple #[.agg #[.int .i64 (Cs.allL (Cs.pre s s.size)), .int .i64 (Cs.allH (Cs.pre s s.size))], .bool true]) (by simp [results, Tryz.results103, go_sem, r0, r1]) rfl ⟨by rw [HG.out.1, HG.out.2.1, HG.out.2.2], below_store HB.out (Nat.le_refl _) _ _⟩

set_option maxHeartbeats 800000 in
theorem impl_new (s : ByteArray) (hs : s.size ≤ maxLen) (w : World) : Calls Tryz.prog 116 #[.string s] w (RetNew w (Cs.newL s) (Cs.newH s) (Cs.good s)) := by
  unfold maxLen at hs
  go_enter Tryz.func116, Tryz.ntmps116
  go_wp2
  go_loopw [5, 8] (fun _ i wr => ∃ k : Nat, i = .int .i64 k ∧ k ≤ s.size ∧ Cs.okTo s k = true ∧ NewAt w (Cs.allL (Cs.pre s k)) (Cs.allH (Cs.pre s k)) wr) (fun _ i _ => s.size - (intOf i).toNat)
  case atStart => exact ⟨0, rfl, by omega, rfl, NewAt.start w _⟩
  case round =>
    obtain ⟨k, rfl, hk, hok, hn⟩ := hrel
    have HO := Lib.hid hok
    have HN := Lib.hid hn
    clear hok
    by_cases hlt : k < s.size
    · by_cases hbad : 128 ≤ (s[k].toNat : Int)
      · obtain ⟨⟨⟨r0, r1⟩, r2, r3⟩, _, hB⟩ := hn
        have HB := Lib.hid hB
        have HG := Lib.hid (Cs.good_bad s k hlt (by omega))
        clear hB
        go_wp2
        exact bodyPost_ret (v := .tuple #[.agg #[.int .i64 0, .int .i64 0], .bool false]) (by simp [results, Tryz.results116, go_sem, r0, r1]) rfl ⟨by rw [HG.out.1, HG.out.2.1, HG.out.2.2], below_store HB.out (Nat.le_refl _) _ _⟩
      · obtain ⟨⟨⟨r0, r1⟩, r2, r3⟩, ⟨⟨t0, t1⟩, t2, t3⟩, hB⟩ := hn
        have hx : s[k].toNat < 128 := by omega
        have HX := Lib.hid (Cs.okTo_succ s k hlt)
        have HP := Lib.hid (Cs.pre_succ s k hlt)
        have HL := Lib.hid (Cs.all_snoc (Cs.pre s k) s[k].toNat)
        clear hB
        have k0 : (0 : Int) ≤ k := by omega
        have k1 : (k : Int) < s.size := by omega
        go_wp2_with fail
        have HR := Lib.hid (Cs.or_one (Cs.allL_fits (Cs.pre s k)) (Cs.allH_fits (Cs.pre s k)) (x := s[k].toNat) (by omega) (by omega))
        go_region_with (first | (go_at_call 122; refine (impl_one _ _ (by omega) (by omega)).mono ?_; rintro e w1 ⟨rfl, hb1⟩; have HN1 := Lib.hid (HN.out.drew.later hb1); obtain ⟨⟨q0, q1⟩, q2, q3⟩ := HN1.out.2.1) | (go_at_call 121; refine (impl_or _ _ _ _ _).mono ?_; rintro e w2 ⟨rfl, hb2⟩; have HN2 := Lib.hid (HN1.out.later hb2); obtain ⟨⟨q0, q1⟩, q2, q3⟩ := HN2.out.2.1))
        all_goals go_wp2
        all_goals go_roundw
        all_goals first
          | exact ⟨k + 1, by go_num, by omega, by rw [HX.out, HO.out]; simpa using hx, by rw [HP.out, HL.out.1, HL.out.2]; rw [HR.out.1, HR.out.2]; exact HN2.out.stored _ _⟩
          | (simp [intOf]; done)
          | (simp [intOf]; omega)
    · obtain rfl : k = s.size := by omega
      obtain ⟨⟨⟨r0, r1⟩, r2, r3⟩, ⟨⟨t0, t1⟩, t2, t3⟩, hB⟩ := hn
      have HB := Lib.hid hB
      have HG := Lib.hid (Cs.good_end s HO.out)
      clear hB
      go_wp2
      exact bodyPost_ret (v := .tuple #[.agg #[.int .i64 (Cs.allL (Cs.pre s s.size)), .int .i64 (Cs.allH (Cs.pre s s.size))], .bool true]) (by simp [results, Tryz.results116, go_sem, r0, r1]) rfl ⟨by rw [HG.out.1, HG.out.2.1, HG.out.2.2], below_store HB.out (Nat.le_refl _) _ _⟩
end Go.Proofs.YtckjmmapekaapaaGreatDoor
