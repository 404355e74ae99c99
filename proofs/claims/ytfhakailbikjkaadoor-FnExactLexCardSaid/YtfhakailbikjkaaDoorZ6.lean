/- Joined texts: C9, C10, J9, C6, C7, C8, W1, W2. No conditions besides those that each states. -/
import Derived.Laws.Bits128
import Derived.Deep.QuietTactic
import Derived.BigQuiet
import Derived.Laws.BytesArg
import Derived.OwnWalk
import Derived.Test.YtfhakailbikjkaaDoorProg
import Derived.WalkKit
import Derived.ProofKit
import Derived.WalkLawsBesides
import Derived.WalkSpells
import Derived.Lib.Hide
import Derived.Test.YtfhakailbikjkaaDoorZ1
import Derived.Test.YtfhakailbikjkaaDoorZ2
import Derived.Test.YtfhakailbikjkaaDoorZ3
import Derived.Test.YtfhakailbikjkaaDoorZ5
/- NewCset of the reference model: the set of a string's bytes. No conditions. -/
namespace Go.Proofs.YtfhakailbikjkaaDoor
open Go.RowKit
attribute [local go_sem ↓] Go.wp_at_zero Go.wp_at_succ
set_option linter.unusedVariables false

/-- The first k bytes. -/
def Cs.pre (s : ByteArray) (k : Nat) : List Nat := (s.data.toList.take k).map UInt8.toNat
/-- None of the first k bytes is above 127. -/
def Cs.okTo (s : ByteArray) (k : Nat) : Bool := (s.data.toList.take k).all fun c => decide (c.toNat < 128)
def Cs.good (s : ByteArray) : Bool := s.data.toList.all fun c => decide (c.toNat < 128)
def Cs.newL (s : ByteArray) : Int := if Cs.good s = true then Cs.allL (s.data.toList.map UInt8.toNat) else 0
def Cs.newH (s : ByteArray) : Int := if Cs.good s = true then Cs.allH (s.data.toList.map UInt8.toNat) else 0
theorem Cs.take_snoc (s : ByteArray) (k : Nat) (h : k < s.size) : s.data.toList.take (k + 1) = s.data.toList.take k ++ [s[k]] := by
  rw [List.take_succ_eq_append_getElem (by simpa using h)]; rfl
theorem Cs.pre_succ (s : ByteArray) (k : Nat) (h : k < s.size) : Cs.pre s (k + 1) = Cs.pre s k ++ [s[k].toNat] := by
  unfold Cs.pre; rw [Cs.take_snoc s k h, List.map_append]; rfl
theorem Cs.okTo_succ (s : ByteArray) (k : Nat) (h : k < s.size) : Cs.okTo s (k + 1) = (Cs.okTo s k && decide (s[k].toNat < 128)) := by
  unfold Cs.okTo; rw [Cs.take_snoc s k h, List.all_append]; simp
theorem Cs.good_end (s : ByteArray) (h : Cs.okTo s s.size = true) : Cs.good s = true ∧ Cs.newL s = Cs.allL (Cs.pre s s.size) ∧ Cs.newH s = Cs.allH (Cs.pre s s.size) := by
  have e : s.data.toList.take s.size = s.data.toList := List.take_of_length_le (by simp)
  unfold Cs.okTo at h; rw [e] at h
  refine ⟨h, ?_, ?_⟩
  · unfold Cs.newL Cs.pre Cs.good; rw [if_pos h, e]
  · unfold Cs.newH Cs.pre Cs.good; rw [if_pos h, e]
theorem Cs.good_bad (s : ByteArray) (k : Nat) (hk : k < s.size) (h : 128 ≤ s[k].toNat) : Cs.good s = false ∧ Cs.newL s = 0 ∧ Cs.newH s = 0 := by
  have hg : Cs.good s = false := by
    rw [Cs.good, List.all_eq_false]
    exact ⟨s[k], by have := List.getElem_mem (l := s.data.toList) (n := k) (by simpa using hk); exact this, by simp; omega⟩
  refine ⟨hg, ?_, ?_⟩
  · unfold Cs.newL; rw [if_neg (by rw [hg]; simp)]
  · unfold Cs.newH; rw [if_neg (by rw [hg]; simp)]

/-- A set's variable that may be written. -/
def FreeSet (w : World) (b : Nat) (l h : Int) : Prop := SetAt w b l h ∧ w.frozen? ⟨b, 0, none⟩ = false ∧ w.frozen? ⟨b, 1, none⟩ = false
theorem FreeSet.later {wa wb : World} {g : Nat} {l k : Int} (h : FreeSet wa g l k) (hb : Below wa.heap.size wa wb) : FreeSet wb g l k :=
  ⟨h.1.later hb, free_later hb h.1.lt h.2.1, free_later hb h.1.lt h.2.2⟩
theorem FreeSet.new (W : World) (l k : Int) (T : TypeId) : FreeSet (W.alloc (.cells #[.int .i64 l, .int .i64 k] T)) W.heap.size l k := by
  refine ⟨SetAt.new _ _ _ _, ?_, ?_⟩ <;> go_simp
theorem FreeSet.stored {w : World} {g : Nat} {l0 k0 : Int} (h : FreeSet w g l0 k0) (l k : Int) : FreeSet ((w.setCell ⟨g, 0, none⟩ (.int .i64 l)).setCell ⟨g, 1, none⟩ (.int .i64 k)) g l k := by
  obtain ⟨⟨h0, h1⟩, h2, h3⟩ := h
  refine ⟨⟨?_, ?_⟩, ?_, ?_⟩ <;> go_simp
theorem FreeSet.far {w : World} {b g : Nat} {l h : Int} (s : FreeSet w b l h) (hne : b ≠ g) (x y : Value) : FreeSet ((w.setCell ⟨g, 0, none⟩ x).setCell ⟨g, 1, none⟩ y) b l h := by
  obtain ⟨s0, s1, s2⟩ := s
  refine ⟨s0.far hne x y, ?_, ?_⟩ <;> simp [s1, s2]
theorem FreeSet.drew {w : World} {b : Nat} {l h : Int} (s : FreeSet w b l h) : FreeSet w.drew b l h := s

/-- A set and a bool are returned. -/
def RetNew (w : World) (l h : Int) (b : Bool) (e : Ending) (w' : World) : Prop := e = .returned (.tuple #[.agg #[.int .i64 l, .int .i64 h], .bool b]) ∧ Below w.heap.size w w'
/-- The state of the loops: the result's variable and the set so far. -/
def NewAt (w : World) (l h : Int) (wr : World) : Prop := FreeSet wr w.heap.size 0 0 ∧ FreeSet wr (w.heap.size + 1) l h ∧ Below w.heap.size w wr
theorem NewAt.later {w wr wx : World} {l h : Int} (s : NewAt w l h wr) (hb : Below wr.heap.size wr wx) : NewAt w l h wx := ⟨s.1.later hb, s.2.1.later hb, below_step s.2.2 hb⟩
theorem NewAt.drew {w wr : World} {l h : Int} (s : NewAt w l h wr) : NewAt w l h wr.drew := ⟨s.1.drew, s.2.1.drew, s.2.2.drew⟩
theorem NewAt.stored {w wr : World} {l h : Int} (s : NewAt w l h wr) (l2 h2 : Int) : NewAt w l2 h2 ((wr.setCell ⟨w.heap.size + 1, 0, none⟩ (.int .i64 l2)).setCell ⟨w.heap.size + 1, 1, none⟩ (.int .i64 h2)) :=
  ⟨s.1.far (by omega) _ _, s.2.1.stored l2 h2, below_store s.2.2 (by omega) _ _⟩
theorem NewAt.start (w : World) (T : TypeId) : NewAt w 0 0 ((w.alloc (.cells #[.int .i64 0, .int .i64 0] T)).alloc (.cells #[.int .i64 0, .int .i64 0] T)) := by
  have h := FreeSet.new (w.alloc (.cells #[.int .i64 0, .int .i64 0] T)) 0 0 T
  rw [show (w.alloc (.cells #[.int .i64 0, .int .i64 0] T)).heap.size = w.heap.size + 1 by simp] at h
  exact ⟨(FreeSet.new w 0 0 T).later (bl1 _ _), h, bl2 _ _ _⟩

theorem Cs.or_one {l h : Int} (f1 : Cs.Fits l) (f2 : Cs.Fits h) {x : Int} (h0 : 0 ≤ x) (h1 : x < 128) : bits .or .i64 l (Cs.oneL x) = Cs.addL l x.toNat ∧ bits .or .i64 h (Cs.oneH x) = Cs.addH h x.toNat := by
  unfold Cs.oneL Cs.oneH Cs.addL Cs.addH
  by_cases ha : x < 64
  · have hb : x.toNat < 64 := by omega
    rw [if_pos ha, if_pos ha, if_pos hb, if_pos hb, Cs.or_zero f2]; exact ⟨rfl, rfl⟩
  · have hb : ¬ x.toNat < 64 := by omega
    have e0 : x.toNat - 64 = (x - 64).toNat := by omega
    rw [if_neg ha, if_neg ha, if_neg hb, if_neg hb, if_pos h1, Cs.or_zero f1, e0]; exact ⟨rfl, rfl⟩
set_option maxHeartbeats 800000 in
theorem spec_new (s : ByteArray) (hs : s.size ≤ maxLen) (w : World) : Calls Tryd.prog 36 #[.string s] w (RetNew w (Cs.newL s) (Cs.newH s) (Cs.good s)) := by
  unfold maxLen at hs
  go_enter Tryd.func36, Tryd.ntmps36
  go_wp2
  go_loopw [5] (fun i wr => ∃ k : Nat, i = .int .i64 k ∧ k ≤ s.size ∧ Cs.okTo s k = true ∧ NewAt w (Cs.allL (Cs.pre s k)) (Cs.allH (Cs.pre s k)) wr) (fun i _ => s.size - (intOf i).toNat)
  case atStart => exact ⟨0, rfl, by omega, rfl, NewAt.start w _⟩
  case round =>
    obtain ⟨k, rfl, hk, hok, hn⟩ := hrel
    have HO := Lib.hid hok
    have HN := Lib.hid hn
    clear hok
    by_cases hlt : k < s.size
    · by_cases hbad : 128 ≤ (s[k].toNat : Int)
      · obtain ⟨⟨⟨r0, r1⟩, r2, r3⟩, _, hB⟩ := hn
        have HB := Lib.hid hB
        have HG := Lib.hid (Cs.good_bad s k hlt (by omega))
        clear hB
        go_wp2
        exact bodyPost_ret (v := .tuple #[.agg #[.int .i64 0, .int .i64 0], .bool false]) (by simp [results, Tryd.results36, go_sem, r0, r1]) rfl ⟨by rw [HG.out.1, HG.out.2.1, HG.out.2.2], below_store HB.out (Nat.le_refl _) _ _⟩
      · obtain ⟨⟨⟨r0, r1⟩, r2, r3⟩, ⟨⟨t0, t1⟩, t2, t3⟩, hB⟩ := hn
        have hx : s[k].toNat < 128 := by omega
        have HX := Lib.hid (Cs.okTo_succ s k hlt)
        have HP := Lib.hid (Cs.pre_succ s k hlt)
        have HL := Lib.hid (Cs.all_snoc (Cs.pre s k) s[k].toNat)
        clear hB
        have k0 : (0 : Int) ≤ k := by omega
        have k1 : (k : Int) < s.size := by omega
        go_wp2_with fail
        go_region_with (first | (go_at_call 47; refine (spec_add _ _ _ _ (by omega) (by omega)).mono ?_; rw [Int.toNat_natCast]; rintro e w1 ⟨rfl, hb1⟩; have HN1 := Lib.hid (HN.out.drew.later hb1); obtain ⟨⟨q0, q1⟩, q2, q3⟩ := HN1.out.2.1))
        all_goals go_wp2
        all_goals go_roundw
        all_goals first
          | exact ⟨k + 1, by go_num, by omega, by rw [HX.out, HO.out]; simpa using hx, by rw [HP.out, HL.out.1, HL.out.2]; exact HN1.out.stored _ _⟩
          | (simp [intOf]; done)
          | (simp [intOf]; omega)
    · obtain rfl : k = s.size := by omega
      obtain ⟨⟨⟨r0, r1⟩, r2, r3⟩, ⟨⟨t0, t1⟩, t2, t3⟩, hB⟩ := hn
      have HB := Lib.hid hB
      have HG := Lib.hid (Cs.good_end s HO.out)
      clear hB
      go_wp2
      exact bodyPost_ret (v := .tuple #[.agg #[.int .i64 (Cs.allL (Cs.pre s s.size)), .int .i64 (Cs.allH (Cs.pre s s.size))], .bool true]) (by simp [results, Tryd.results36, go_sem, r0, r1]) rfl ⟨by rw [HG.out.1, HG.out.2.1, HG.out.2.2], below_store HB.out (Nat.le_refl _) _ _⟩

set_option maxHeartbeats 800000 in
theorem impl_new (s : ByteArray) (hs : s.size ≤ maxLen) (w : World) : Calls Tryd.prog 63 #[.string s] w (RetNew w (Cs.newL s) (Cs.newH s) (Cs.good s)) := by
  unfold maxLen at hs
  go_enter Tryd.func63, Tryd.ntmps63
  go_wp2
  go_loopw [5, 8] (fun _ i wr => ∃ k : Nat, i = .int .i64 k ∧ k ≤ s.size ∧ Cs.okTo s k = true ∧ NewAt w (Cs.allL (Cs.pre s k)) (Cs.allH (Cs.pre s k)) wr) (fun _ i _ => s.size - (intOf i).toNat)
  case atStart => exact ⟨0, rfl, by omega, rfl, NewAt.start w _⟩
  case round =>
    obtain ⟨k, rfl, hk, hok, hn⟩ := hrel
    have HO := Lib.hid hok
    have HN := Lib.hid hn
    clear hok
    by_cases hlt : k < s.size
    · by_cases hbad : 128 ≤ (s[k].toNat : Int)
      · obtain ⟨⟨⟨r0, r1⟩, r2, r3⟩, _, hB⟩ := hn
        have HB := Lib.hid hB
        have HG := Lib.hid (Cs.good_bad s k hlt (by omega))
        clear hB
        go_wp2
        exact bodyPost_ret (v := .tuple #[.agg #[.int .i64 0, .int .i64 0], .bool false]) (by simp [results, Tryd.results63, go_sem, r0, r1]) rfl ⟨by rw [HG.out.1, HG.out.2.1, HG.out.2.2], below_store HB.out (Nat.le_refl _) _ _⟩
      · obtain ⟨⟨⟨r0, r1⟩, r2, r3⟩, ⟨⟨t0, t1⟩, t2, t3⟩, hB⟩ := hn
        have hx : s[k].toNat < 128 := by omega
        have HX := Lib.hid (Cs.okTo_succ s k hlt)
        have HP := Lib.hid (Cs.pre_succ s k hlt)
        have HL := Lib.hid (Cs.all_snoc (Cs.pre s k) s[k].toNat)
        clear hB
        have k0 : (0 : Int) ≤ k := by omega
        have k1 : (k : Int) < s.size := by omega
        go_wp2_with fail
        have HR := Lib.hid (Cs.or_one (Cs.allL_fits (Cs.pre s k)) (Cs.allH_fits (Cs.pre s k)) (x := s[k].toNat) (by omega) (by omega))
        go_region_with (first | (go_at_call 70; refine (impl_one _ _ (by omega) (by omega)).mono ?_; rintro e w1 ⟨rfl, hb1⟩; have HN1 := Lib.hid (HN.out.drew.later hb1); obtain ⟨⟨q0, q1⟩, q2, q3⟩ := HN1.out.2.1) | (go_at_call 69; refine (impl_or _ _ _ _ _).mono ?_; rintro e w2 ⟨rfl, hb2⟩; have HN2 := Lib.hid (HN1.out.later hb2); obtain ⟨⟨q0, q1⟩, q2, q3⟩ := HN2.out.2.1))
        all_goals go_wp2
        all_goals go_roundw
        all_goals first
          | exact ⟨k + 1, by go_num, by omega, by rw [HX.out, HO.out]; simpa using hx, by rw [HP.out, HL.out.1, HL.out.2]; rw [HR.out.1, HR.out.2]; exact HN2.out.stored _ _⟩
          | (simp [intOf]; done)
          | (simp [intOf]; omega)
    · obtain rfl : k = s.size := by omega
      obtain ⟨⟨⟨r0, r1⟩, r2, r3⟩, ⟨⟨t0, t1⟩, t2, t3⟩, hB⟩ := hn
      have HB := Lib.hid hB
      have HG := Lib.hid (Cs.good_end s HO.out)
      clear hB
      go_wp2
      exact bodyPost_ret (v := .tuple #[.agg #[.int .i64 (Cs.allL (Cs.pre s s.size)), .int .i64 (Cs.allH (Cs.pre s s.size))], .bool true]) (by simp [results, Tryd.results63, go_sem, r0, r1]) rfl ⟨by rw [HG.out.1, HG.out.2.1, HG.out.2.2], below_store HB.out (Nat.le_refl _) _ _⟩
end Go.Proofs.YtfhakailbikjkaaDoor
/- RangeCset of the program and of the reference model, and the walks of the laws on NewCset and RangeCset. No conditions. -/
namespace Go.Proofs.YtfhakailbikjkaaDoor
open Go.RowKit
attribute [local go_sem ↓] Go.wp_at_zero Go.wp_at_succ
set_option linter.unusedVariables false

/-- Is there such a range? -/
def Cs.rngOk (f t : Nat) : Bool := decide (f ≤ t) && decide (t < 128)
def Cs.rngL (f t : Nat) : Int := if Cs.rngOk f t = true then Cs.allL (List.range' f (t + 1 - f)) else 0
def Cs.rngH (f t : Nat) : Int := if Cs.rngOk f t = true then Cs.allH (List.range' f (t + 1 - f)) else 0
theorem Cs.rng_no {f t : Nat} (h : t < f ∨ 128 ≤ t) : Cs.rngOk f t = false ∧ Cs.rngL f t = 0 ∧ Cs.rngH f t = 0 := by
  have e : Cs.rngOk f t = false := by unfold Cs.rngOk; rcases h with h | h <;> simp <;> omega
  exact ⟨e, by unfold Cs.rngL; rw [if_neg (by rw [e]; simp)], by unfold Cs.rngH; rw [if_neg (by rw [e]; simp)]⟩
theorem Cs.rng_yes {f t : Nat} (h1 : f ≤ t) (h2 : t < 128) : Cs.rngOk f t = true ∧ Cs.rngL f t = Cs.allL (List.range' f (t + 1 - f)) ∧ Cs.rngH f t = Cs.allH (List.range' f (t + 1 - f)) := by
  have e : Cs.rngOk f t = true := by unfold Cs.rngOk; simp; omega
  exact ⟨e, by unfold Cs.rngL; rw [if_pos e], by unfold Cs.rngH; rw [if_pos e]⟩
theorem Cs.rng_snoc (f k : Nat) : Cs.allL (List.range' f (k + 1)) = Cs.addL (Cs.allL (List.range' f k)) (f + k) ∧ Cs.allH (List.range' f (k + 1)) = Cs.addH (Cs.allH (List.range' f k)) (f + k) := by
  rw [List.range'_1_concat]; exact Cs.all_snoc _ _

end Go.Proofs.YtfhakailbikjkaaDoor
/- UnquoteText and UnquoteCset of the program and of the reference model, and the walks of their laws. No conditions beside what the variable holds. -/
namespace Go.Proofs.YtfhakailbikjkaaDoor
open Go.RowKit
set_option linter.unusedVariables false

theorem impl_unq (a : Addr) (d : UInt8) (s : ByteArray) (w : World) (hS : SentAt a w) (hs : (s.size : Int) ≤ 1048576) :
    Calls Tryd.prog 62 #[.string s, .int .u8 (d.toNat : Int)] w (RetLit w d s.data.toList) := by
  rcases lit_cases d s with h | ⟨n, hn, h1, h | h | ⟨h2, h3, h4, h5⟩⟩
  · exact unq_no d s w hs (.inl h)
  · exact unq_no d s w hs (.inr ⟨n, hn, h1, .inl h⟩)
  · exact unq_no d s w hs (.inr ⟨n, hn, h1, .inr h⟩)
  · exact unq_yes a d s w hS hs n hn h1 h2 h3 h5
theorem spec_unq (d : UInt8) (hd : d = 34 ∨ d = 39) (s : ByteArray) (w : World) (hs : (s.size : Int) ≤ 1048576) :
    Calls Tryd.prog 35 #[.string s, .int .u8 (d.toNat : Int)] w (RetLit w d s.data.toList) := by
  rcases slit_cases d hd s with h | ⟨h1, h | h | ⟨h2, h3, h4⟩⟩
  · exact sunq_no d s w hs (.inl h)
  · exact sunq_no d s w hs (.inr ⟨h1, .inl h⟩)
  · exact sunq_no d s w hs (.inr ⟨h1, .inr h⟩)
  · exact sunq_yes d hd s w hs h1 h2 h3 h4
theorem lit_size (d : UInt8) (s : ByteArray) (hs : (s.size : Int) ≤ 1048576) : (str8 (Lt.litL d s.data.toList)).size ≤ maxLen := by
  rw [str8_size]
  cases h : Lt.lit d s.data.toList with
  | none => rw [(Lt.lit_none h).2]; unfold maxLen; simp
  | some A =>
    rw [(Lt.lit_some h).2]
    unfold Lt.lit at h
    split at h
    · cases h
    · have h2 := Lt.rd_len _ (Nat.le_refl _) h
      rw [List.length_dropLast, List.length_drop, len8] at h2
      unfold maxLen; omega

/-- The set that a literal denotes, and whether it denotes one. -/
def ucL (S : List UInt8) : Int := if Lt.litB 39 S = true then Cs.newL (str8 (Lt.litL 39 S)) else 0
def ucH (S : List UInt8) : Int := if Lt.litB 39 S = true then Cs.newH (str8 (Lt.litL 39 S)) else 0
def ucB (S : List UInt8) : Bool := if Lt.litB 39 S = true then Cs.good (str8 (Lt.litL 39 S)) else false

theorem impl_ut (a : Addr) (s : ByteArray) (w : World) (hS : SentAt a w) (hs : (s.size : Int) ≤ 1048576) : Calls Tryd.prog 56 #[.string s] w (RetLit w 34 s.data.toList) := by
  have H : Hid (Calls Tryd.prog 62 #[.string s, .int .u8 34] w (RetLit w 34 s.data.toList)) := impl_unq a 34 s w hS hs
  unfold RetLit at H ⊢
  generalize str8 (Lt.litL 34 s.data.toList) = t at H ⊢
  generalize Lt.litB 34 s.data.toList = b at H ⊢
  clear hS
  go_enter Tryd.func56, Tryd.ntmps56
  go_wp2_with fail
  refine H.out.mono ?_
  rintro e w1 ⟨rfl, hb1⟩
  go_wp2
  go_ret2
  exact ⟨rfl, hb1⟩
theorem spec_ut (s : ByteArray) (w : World) (hs : (s.size : Int) ≤ 1048576) : Calls Tryd.prog 23 #[.string s] w (RetLit w 34 s.data.toList) := by
  have H : Hid (Calls Tryd.prog 35 #[.string s, .int .u8 34] w (RetLit w 34 s.data.toList)) := spec_unq 34 (.inl rfl) s w hs
  unfold RetLit at H ⊢
  generalize str8 (Lt.litL 34 s.data.toList) = t at H ⊢
  generalize Lt.litB 34 s.data.toList = b at H ⊢
  go_enter Tryd.func23, Tryd.ntmps23
  go_wp2_with fail
  refine H.out.mono ?_
  rintro e w1 ⟨rfl, hb1⟩
  go_wp2
  go_ret2
  exact ⟨rfl, hb1⟩

set_option maxHeartbeats 800000 in
theorem impl_uc (a : Addr) (s : ByteArray) (w : World) (hS : SentAt a w) (hs : (s.size : Int) ≤ 1048576) : Calls Tryd.prog 57 #[.string s] w (RetNew w (ucL s.data.toList) (ucH s.data.toList) (ucB s.data.toList)) := by
  unfold RetNew
  have H : Hid (∀ W, SentAt a W → Calls Tryd.prog 62 #[.string s, .int .u8 39] W (RetLit W 39 s.data.toList)) := fun W h => impl_unq a 39 s W h hs
  have HN := Lib.hid (fun W => impl_new (str8 (Lt.litL 39 s.data.toList)) (lit_size 39 s hs) W)
  unfold RetLit at H
  unfold RetNew at HN
  unfold ucL ucH ucB
  generalize str8 (Lt.litL 39 s.data.toList) = t at H HN ⊢
  have HS0 := Lib.hid (sentAt_below hS (bl1 w (.cells #[.int .i64 0, .int .i64 0] 45)))
  have HF0 := Lib.hid (FreeSet.new w 0 0 45)
  clear hS
  cases hb : Lt.litB 39 s.data.toList
  · rw [hb] at H
    clear hb
    go_enter Tryd.func57, Tryd.ntmps57
    go_wp2_with fail
    refine (H.out _ HS0.out).mono ?_
    rintro e w1 ⟨rfl, hb1⟩
    have HF1 := Lib.hid (HF0.out.later hb1)
    have HB1 := Lib.hid (below_step (bl1 _ _) hb1)
    obtain ⟨⟨r0, r1⟩, r2, r3⟩ := HF1.out
    clear hb1
    go_wp2
    exact bodyPost_ret (v := .tuple #[.agg #[.int .i64 0, .int .i64 0], .bool false]) (by simp [results, Tryd.results57, go_sem, r0, r1]) rfl ⟨rfl, below_store HB1.out (Nat.le_refl _) _ _⟩
  · rw [hb] at H
    clear hb
    generalize Cs.newL t = l at HN ⊢
    generalize Cs.newH t = z at HN ⊢
    generalize Cs.good t = g at HN ⊢
    go_enter Tryd.func57, Tryd.ntmps57
    go_wp2_with fail
    refine (H.out _ HS0.out).mono ?_
    rintro e w1 ⟨rfl, hb1⟩
    have HF1 := Lib.hid (HF0.out.later hb1)
    have HB1 := Lib.hid (below_step (bl1 _ _) hb1)
    clear hb1
    go_wp2_with fail
    refine (HN.out _).mono ?_
    rintro e w2 ⟨rfl, hb2⟩
    have HB2 := Lib.hid (below_step HB1.out hb2)
    obtain ⟨⟨r0, r1⟩, r2, r3⟩ := HF1.out.later hb2
    clear hb2
    go_wp2
    exact bodyPost_ret (v := .tuple #[.agg #[.int .i64 l, .int .i64 z], .bool g]) (by simp [results, Tryd.results57, go_sem, r0, r1]) rfl ⟨rfl, below_store HB2.out (Nat.le_refl _) _ _⟩
set_option maxHeartbeats 800000 in
theorem spec_uc (s : ByteArray) (w : World) (hs : (s.size : Int) ≤ 1048576) : Calls Tryd.prog 24 #[.string s] w (RetNew w (ucL s.data.toList) (ucH s.data.toList) (ucB s.data.toList)) := by
  unfold RetNew
  have H : Hid (∀ W, Calls Tryd.prog 35 #[.string s, .int .u8 39] W (RetLit W 39 s.data.toList)) := fun W => spec_unq 39 (.inr rfl) s W hs
  have HN := Lib.hid (fun W => spec_new (str8 (Lt.litL 39 s.data.toList)) (lit_size 39 s hs) W)
  unfold RetLit at H
  unfold RetNew at HN
  unfold ucL ucH ucB
  generalize str8 (Lt.litL 39 s.data.toList) = t at H HN ⊢
  have HF0 := Lib.hid (FreeSet.new w 0 0 45)
  cases hb : Lt.litB 39 s.data.toList
  · rw [hb] at H
    clear hb
    go_enter Tryd.func24, Tryd.ntmps24
    go_wp2_with fail
    refine (H.out _).mono ?_
    rintro e w1 ⟨rfl, hb1⟩
    have HF1 := Lib.hid (HF0.out.later hb1)
    have HB1 := Lib.hid (below_step (bl1 _ _) hb1)
    obtain ⟨⟨r0, r1⟩, r2, r3⟩ := HF1.out
    clear hb1
    go_wp2
    exact bodyPost_ret (v := .tuple #[.agg #[.int .i64 0, .int .i64 0], .bool false]) (by simp [results, Tryd.results24, go_sem, r0, r1]) rfl ⟨rfl, below_store HB1.out (Nat.le_refl _) _ _⟩
  · rw [hb] at H
    clear hb
    generalize Cs.newL t = l at HN ⊢
    generalize Cs.newH t = z at HN ⊢
    generalize Cs.good t = g at HN ⊢
    go_enter Tryd.func24, Tryd.ntmps24
    go_wp2_with fail
    refine (H.out _).mono ?_
    rintro e w1 ⟨rfl, hb1⟩
    have HF1 := Lib.hid (HF0.out.later hb1)
    have HB1 := Lib.hid (below_step (bl1 _ _) hb1)
    clear hb1
    go_wp2_with fail
    refine (HN.out _).mono ?_
    rintro e w2 ⟨rfl, hb2⟩
    have HB2 := Lib.hid (below_step HB1.out hb2)
    obtain ⟨⟨r0, r1⟩, r2, r3⟩ := HF1.out.later hb2
    clear hb2
    go_wp2
    exact bodyPost_ret (v := .tuple #[.agg #[.int .i64 l, .int .i64 z], .bool g]) (by simp [results, Tryd.results24, go_sem, r0, r1]) rfl ⟨rfl, below_store HB2.out (Nat.le_refl _) _ _⟩

end Go.Proofs.YtfhakailbikjkaaDoor
/- OnesCount64 counts the ones of a word. No conditions. -/
namespace Go.Proofs.YtfhakailbikjkaaDoor
open Go.RowKit
set_option linter.unusedVariables false

theorem Cs.wrap_u64 {n : Int} (h0 : 0 ≤ n) (h1 : n < 18446744073709551616) : IntKind.u64.wrap n = n := by
  have : IntKind.u64.wrap n = n % 18446744073709551616 := by simp [IntKind.wrap, IntKind.bits, IntKind.signed]
  rw [this]; omega
theorem Cs.mask1 : Cs.mask 1 32 = 6148914691236517205 := by decide
theorem Cs.mask2 : Cs.mask 2 16 = 3689348814741910323 := by decide
theorem Cs.mask4 : Cs.mask 4 8 = 1085102592571150095 := by decide
theorem Cs.step_and (x d m : Nat) (hx : x < 18446744073709551616) (hm : m < 18446744073709551616) : bits .and .u64 ((x : Int) / (d : Nat)) (m : Nat) = ((x / d &&& m : Nat) : Int) := by
  rw [← Int.natCast_ediv]
  exact u64_and_nat _ _ (Nat.lt_of_le_of_lt (Nat.div_le_self _ _) hx) hm
theorem Cs.step1 (x : Nat) (hx : x < 18446744073709551616) : IntKind.u64.wrap (bits .and .u64 ((x : Int) / 2) 6148914691236517205 + bits .and .u64 (x : Int) 6148914691236517205) = ((Cs.pair 1 32 x : Nat) : Int) := by
  have h1 : bits .and .u64 ((x : Int) / 2) 6148914691236517205 = ((x / 2 &&& 6148914691236517205 : Nat) : Int) := Cs.step_and x 2 6148914691236517205 hx (by decide)
  have h2 : bits .and .u64 (x : Int) 6148914691236517205 = ((x &&& 6148914691236517205 : Nat) : Int) := u64_and_nat x 6148914691236517205 hx (by decide)
  have h3 := Cs.pair_lt 1 32 x
  have e : Cs.pair 1 32 x = (x / 2 &&& 6148914691236517205) + (x &&& 6148914691236517205) := by unfold Cs.pair; rw [Cs.mask1]
  rw [Cs.mask1] at h3
  rw [e] at h3
  rw [h1, h2, e]
  rw [Cs.wrap_u64 (by omega) (by omega)]; rfl
theorem Cs.step2 (x : Nat) (hx : x < 18446744073709551616) : IntKind.u64.wrap (bits .and .u64 ((x : Int) / 4) 3689348814741910323 + bits .and .u64 (x : Int) 3689348814741910323) = ((Cs.pair 2 16 x : Nat) : Int) := by
  have h1 : bits .and .u64 ((x : Int) / 4) 3689348814741910323 = ((x / 4 &&& 3689348814741910323 : Nat) : Int) := Cs.step_and x 4 3689348814741910323 hx (by decide)
  have h2 : bits .and .u64 (x : Int) 3689348814741910323 = ((x &&& 3689348814741910323 : Nat) : Int) := u64_and_nat x 3689348814741910323 hx (by decide)
  have h3 := Cs.pair_lt 2 16 x
  have e : Cs.pair 2 16 x = (x / 4 &&& 3689348814741910323) + (x &&& 3689348814741910323) := by unfold Cs.pair; rw [Cs.mask2]
  rw [Cs.mask2] at h3
  rw [e] at h3
  rw [h1, h2, e]
  rw [Cs.wrap_u64 (by omega) (by omega)]; rfl
theorem Cs.step3 (x : Nat) (hx : x ≤ 7378697629483820646) (hs : Cs.small 4 4 16 x) : bits .and .u64 (IntKind.u64.wrap ((x : Int) / 16 + x)) 1085102592571150095 = ((Cs.pair 4 8 x : Nat) : Int) := by
  have e := Cs.lump_step 4 4 (by decide) 8 x hs
  rw [Cs.mask4, show (2 : Nat) ^ 4 = 16 from rfl] at e
  rw [Cs.wrap_u64 (by omega) (by omega), ← e]
  have := u64_and_nat (x / 16 + x) 1085102592571150095 (by omega) (by decide)
  rw [← this]; rfl
theorem Cs.step4 (x d : Nat) (hx : x + x / d < 18446744073709551616) : IntKind.u64.wrap ((x : Int) + (x : Int) / (d : Nat)) = ((x + x / d : Nat) : Int) := by
  rw [← Int.natCast_ediv, ← Int.natCast_add]
  exact Cs.wrap_u64 (Int.natCast_nonneg _) (by omega)
/-- The steps together. -/
theorem Cs.steps (x : Nat) (hx : x < 18446744073709551616) (y1 y2 y3 z1 z2 z3 : Nat) (h1 : y1 = Cs.pair 1 32 x) (h2 : y2 = Cs.pair 2 16 y1) (h3 : y3 = Cs.pair 4 8 y2) (e1 : z1 = y3 + y3 / 256) (e2 : z2 = z1 + z1 / 65536) (e3 : z3 = z2 + z2 / 4294967296) :
    y1 < 18446744073709551616 ∧ y2 ≤ 7378697629483820646 ∧ Cs.small 4 4 16 y2 ∧ y3 < 18446744073709551616 ∧ z1 < 18446744073709551616 ∧ z2 < 18446744073709551616 ∧ z3 < 18446744073709551616 ∧ z3 % 128 = Cs.dsum 1 64 x := by
  obtain ⟨s1, t1⟩ := Cs.pair_step 1 1 (by decide) 32 x (Cs.small_one 64 x)
  rw [← h1] at s1 t1
  obtain ⟨s2, t2⟩ := Cs.pair_step 2 2 (by decide) 16 y1 t1
  rw [← h2] at s2 t2
  obtain ⟨s3, t3⟩ := Cs.pair_step 4 4 (by decide) 8 y2 t2
  rw [← h3] at s3 t3
  have l1 := Cs.pair_lt 1 32 x
  have l2 := Cs.pair_lt 2 16 y1
  have l3 := Cs.pair_lt 4 8 y2
  rw [← h1, Cs.mask1] at l1
  rw [← h2, Cs.mask2] at l2
  rw [← h3, Cs.mask4] at l3
  obtain ⟨f1, f2, f3, f4⟩ := Cs.fold_bytes y3 t3 (by omega) z1 z2 z3 e1 e2 e3
  exact ⟨by omega, by omega, t2, by omega, f1, f2, f3, by rw [f4, s3, s2, s1]⟩
theorem ret_i {k : IntKind} {a b : Int} (h : a = b) : Ending.returned (.int k a) = .returned (.int k b) := by rw [h]

theorem Cs.last (z s : Nat) (h : z % 128 = s) : wrap64 (z : Int) % 128 = (s : Int) := by
  unfold wrap64; omega
theorem ones (x : Nat) (hx : x < 18446744073709551616) (w : World) : Calls Tryd.prog 71 #[.int .u64 x] w fun e w' => e = .returned (.int .i64 ((Cs.dsum 1 64 x : Nat) : Int)) ∧ w = w' := by
  go_enter Tryd.func71, Tryd.ntmps71
  go_wp2
  go_ret
  refine ⟨ret_i ?_, rfl⟩
  obtain ⟨a1, a2, a3, a4, b1, b2, b3, b4⟩ := Cs.steps x hx _ _ _ _ _ _ rfl rfl rfl rfl rfl rfl
  rw [Cs.step1 x hx, Cs.step2 _ a1, Cs.step3 _ a2 a3]
  generalize Cs.pair 4 8 (Cs.pair 2 16 (Cs.pair 1 32 x)) = y at *
  have c1 : IntKind.u64.wrap ((y : Int) + (y : Int) / 256) = ((y + y / 256 : Nat) : Int) := Cs.step4 y 256 b1
  rw [c1]
  generalize y + y / 256 = y1 at *
  have c2 : IntKind.u64.wrap ((y1 : Int) + (y1 : Int) / 65536) = ((y1 + y1 / 65536 : Nat) : Int) := Cs.step4 y1 65536 b2
  rw [c2]
  generalize y1 + y1 / 65536 = y2 at *
  have c3 : IntKind.u64.wrap ((y2 : Int) + (y2 : Int) / 4294967296) = ((y2 + y2 / 4294967296 : Nat) : Int) := Cs.step4 y2 4294967296 b3
  rw [c3, i64_and127]
  exact Cs.last _ _ b4
end Go.Proofs.YtfhakailbikjkaaDoor
/- CsetSize of the program: how many elements a set has. No conditions. -/
namespace Go.Proofs.YtfhakailbikjkaaDoor
open Go.RowKit
set_option linter.unusedVariables false

/-- A word as a number without sign. -/
def Cs.word (l : Int) : Nat := (BitVec.ofInt 64 l).toNat
theorem Cs.word_lt (l : Int) : Cs.word l < 18446744073709551616 := (BitVec.ofInt 64 l).isLt
theorem Cs.wrap_word (l : Int) : IntKind.u64.wrap l = (Cs.word l : Int) := by
  have : IntKind.u64.wrap l = l % 18446744073709551616 := by simp [IntKind.wrap, IntKind.bits, IntKind.signed]
  rw [this]; unfold Cs.word
  rw [BitVec.toNat_ofInt]
  omega
/-- How many elements lie in a word. -/
def Cs.pop (l : Int) : Nat := ((List.range 64).filter (Cs.bitAt l)).length
theorem Cs.dsum_pop (l : Int) : Cs.dsum 1 64 (Cs.word l) = Cs.pop l := Cs.dsum_bits 64 _
theorem Cs.pop_le (l : Int) : Cs.pop l ≤ 64 := by
  have := List.length_filter_le (Cs.bitAt l) (List.range 64)
  simpa [Cs.pop] using this
theorem Cs.text_pop (l h : Int) : (Cs.text l h).length = Cs.pop l + Cs.pop h := by
  unfold Cs.text Cs.pop
  rw [show List.range 128 = List.range 64 ++ (List.range 64).map (64 + ·) from by decide, List.filter_append, List.length_append, List.filter_map, List.length_map]
  have e1 : List.filter (Cs.mem l h) (List.range 64) = List.filter (Cs.bitAt l) (List.range 64) := List.filter_congr fun x hx => Cs.mem_low (by rw [List.mem_range] at hx; exact hx)
  have e2 : List.filter (Cs.mem l h ∘ fun x => 64 + x) (List.range 64) = List.filter (Cs.bitAt h) (List.range 64) := List.filter_congr fun x hx => by
    rw [List.mem_range] at hx
    show Cs.mem l h (64 + x) = _
    rw [Cs.mem_high (by omega) (by omega), Nat.add_sub_cancel_left]
  rw [e1, e2]

theorem ones_word (l : Int) (w : World) : Calls Tryd.prog 71 #[.int .u64 (IntKind.u64.wrap l)] w fun e w' => e = .returned (.int .i64 (Cs.pop l)) ∧ w' = w := by
  rw [← Cs.dsum_pop, Cs.wrap_word]
  exact (ones _ (Cs.word_lt l) w).mono fun e w' ⟨h1, h2⟩ => ⟨h1, h2.symm⟩
theorem impl_size (a b : Int) (w : World) : Calls Tryd.prog 64 #[.agg #[.int .i64 a, .int .i64 b]] w fun e w' => e = .returned (.int .i64 ((Cs.text a b).length : Nat)) ∧ Below w.heap.size w w' := by
  rw [Cs.text_pop]
  have h1 := Cs.pop_le a
  have h2 := Cs.pop_le b
  go_enter Tryd.func64, Tryd.ntmps64
  go_wp2
  go_quiet ((go_at_call 71; exact Calls.quiet_of_same (ones_word _ _)))
  go_wp2
  go_ret
  exact ⟨ret_i (Int.natCast_add _ _).symm, below_drewN (bl1 _ _) _⟩
end Go.Proofs.YtfhakailbikjkaaDoor
/- CsetText of the program and of the reference model: the elements in ascending order. No conditions. -/
namespace Go.Proofs.YtfhakailbikjkaaDoor
open Go.RowKit
set_option linter.unusedVariables false

theorem info_u8 : (Tryd.prog.info? 5).map (fun i => (i.zero, i.size, i.bytes)) = some (some (.int .u8 0), 1, 1) := by kernel_rfl

/-- Bytes of the call's own: a slice whose elements are l, in a block from base on. -/
def OwnB (w : World) (base : Nat) (v : Value) (l : List Nat) : Prop := w.ownsRow base 5 1 v l.length (l.map fun n : Nat => Value.int .u8 n)
/-- Bytes as a string. -/
def txt (l : List Nat) : ByteArray := ⟨(l.map UInt8.ofNat).toArray⟩
theorem txt_size (l : List Nat) : (txt l).size = l.length := by simp [txt, ByteArray.size]
theorem txt_nums (l : List Nat) : strOfNums (l.map fun n : Nat => (n : Int)) = txt l := by
  unfold strOfNums txt; simp
theorem ownB_app {w1 : World} {base : Nat} {v' : Value} {l : List Nat} {x : Nat} (h : w1.ownsRow base 5 1 v' (l.length + 1) ((l.map fun n : Nat => Value.int .u8 n) ++ [Value.int .u8 x])) : OwnB w1 base v' (l ++ [x]) := by
  unfold OwnB; rw [List.map_append, List.length_append]; exact h
theorem belowB_app {w wr w1 : World} {B : Nat} {v : Value} {l : List Nat} {o : Obj} (hb : Below w.heap.size w wr) (hB : w.heap.size ≤ B) (hB2 : B ≤ wr.heap.size) (hown : OwnB wr B v l) (hg : (wr.alloc o).grownBy w1 v.ownBlock) : Below w.heap.size w w1 :=
  (hb.alloc hb.size o).grown hg (by have := hb.size; simp; omega) (fun k hk => Nat.le_trans hB (hown.lt k hk).1)
/-- What lies below the row is as it was. -/
theorem belowB_row {wr w1 : World} {B : Nat} {v : Value} {l : List Nat} {o : Obj} (hB2 : B ≤ wr.heap.size) (hown : OwnB wr B v l) (hg : (wr.alloc o).grownBy w1 v.ownBlock) : Below B wr w1 :=
  ((Below.refl B wr).alloc hB2 o).grown hg (by simp; omega) (fun k hk => (hown.lt k hk).1)
theorem ownB_below {w w1 : World} {base : Nat} {v : Value} {l : List Nat} (h : OwnB w base v l) (hb : Below w.heap.size w w1) : OwnB w1 base v l := by
  refine ⟨h.1, ?_⟩
  rcases h.2 with hn | ⟨g, cap, cur, hv, hg, hgg, r⟩
  · exact .inl hn
  · exact .inr ⟨g, cap, cur, hv, hg, by rw [hb.block g (Array.getElem?_eq_some_iff.1 hgg).1]; exact hgg, r⟩
theorem new_byte (w : World) (x : Value) (t : TypeId) : ∀ (j : Nat) (u : Value), [x][j]? = some u → (w.alloc (.cells #[x] t)).cell? ((⟨w.heap.size, 0, none⟩ : Addr).add j) = some u := by
  intro j u hj
  match j, hj with
  | 0, hj => simp at hj; subst hj; simp [Addr.add]
theorem one_byte (k : IntKind) (x : Int) : ∀ u ∈ [Value.int k x], u.oneCell' = true := by
  intro u hu; simp at hu; subst hu; rfl
theorem conv_own {w : World} {base : Nat} {v : Value} {l : List Nat} (h : OwnB w base v l) : (convert 55 9 v).run Tryd.prog w = .ok (.string (txt l)) w := by
  have h2 := h.2
  rcases h2 with ⟨rfl, h0⟩ | ⟨g, cap, cur, rfl, hg⟩
  · have : l = [] := List.length_eq_zero_iff.1 h0
    subst this
    exact run_convert_bytes_nil (P := Tryd.prog) w 55 5 Tryd.underlying55 Tryd.underlying5 0 0 9 Tryd.underlying9
  · have e := run_convert_bytes_arg (P := Tryd.prog) w 55 5 Tryd.underlying55 Tryd.underlying5 g 0 l.length cap (l.map fun n : Nat => (n : Int)) (by simp) (fun i hi => by
      rw [Nat.zero_add, h.cellAt i (by omega)]
      simp [List.getD, List.getElem?_eq_getElem hi]) 9 Tryd.underlying9
    rw [txt_nums] at e
    exact e

theorem SetAt.below {w wx : World} {B b : Nat} {l h : Int} (s : SetAt w b l h) (hb : Below B w wx) (hB : b < B) : SetAt wx b l h :=
  ⟨(hb.cell (p := ⟨b, 0, none⟩) hB).trans s.1, (hb.cell (p := ⟨b, 1, none⟩) hB).trans s.2⟩

/-- The state of the loops: the set's variable, the bytes so far. -/
def TextAt (w : World) (a b : Int) (k : Nat) (v : Value) (wr : World) : Prop := SetAt wr w.heap.size a b ∧ OwnB wr (w.heap.size + 1) v (Cs.textTo a b k) ∧ Below w.heap.size w wr
theorem TextAt.lt {w wr : World} {a b : Int} {k : Nat} {v : Value} (h : TextAt w a b k v wr) : w.heap.size < wr.heap.size := h.1.lt
theorem TextAt.later {w wr wx : World} {a b : Int} {k : Nat} {v : Value} (h : TextAt w a b k v wr) (hb : Below wr.heap.size wr wx) : TextAt w a b k v wx :=
  ⟨h.1.later hb, ownB_below h.2.1 hb, below_step h.2.2 hb⟩
theorem TextAt.no {w wr : World} {a b : Int} {k : Nat} {v : Value} (h : TextAt w a b k v wr) (hm : Cs.mem a b k = false) : TextAt w a b (k + 1) v wr := by
  refine ⟨h.1, ?_, h.2.2⟩
  rw [Cs.textTo_succ, if_neg (by simp [hm]), List.append_nil]; exact h.2.1
theorem TextAt.yes {w wr w1 : World} {a b : Int} {k : Nat} {v v' : Value} {o : Obj} (h : TextAt w a b k v wr) (hm : Cs.mem a b k = true)
    (hown : w1.ownsRow (w.heap.size + 1) 5 1 v' ((Cs.textTo a b k).length + 1) (((Cs.textTo a b k).map fun n : Nat => Value.int .u8 n) ++ [Value.int .u8 k])) (hg : (wr.alloc o).grownBy w1 v.ownBlock) : TextAt w a b (k + 1) v' w1 := by
  refine ⟨h.1.below (belowB_row h.lt h.2.1 hg) (Nat.lt_succ_self _), ?_, belowB_app h.2.2 (Nat.le_succ _) h.lt h.2.1 hg⟩
  rw [Cs.textTo_succ, if_pos hm]; exact ownB_app hown
theorem TextAt.start (w : World) (a b : Int) (T : TypeId) : TextAt w a b 0 (.slice (some ⟨w.heap.size + 1, 0, none⟩) 0 0) ((w.alloc (.cells #[.int .i64 a, .int .i64 b] T)).alloc (.cells #[] 5)) := by
  have hz : (w.alloc (.cells #[.int .i64 a, .int .i64 b] T)).heap.size = w.heap.size + 1 := by simp
  have h := World.ownsRow_made (base := w.heap.size + 1) (e := 5) (size := 1) (w.alloc (.cells #[.int .i64 a, .int .i64 b] T)) #[] 0 (Nat.le_of_eq hz.symm) (by unfold maxLen; omega) rfl
  rw [hz] at h
  exact ⟨(SetAt.new w a b T).later (bl1 _ _), h, bl2 _ _ _⟩
theorem len_small {n : Nat} (h : n ≤ 128) : n + 1 ≤ maxLen := by unfold maxLen; omega
def RetText (w : World) (s : ByteArray) (e : Ending) (w' : World) : Prop := e = .returned (.string s) ∧ Below w.heap.size w w'

set_option maxHeartbeats 800000 in
theorem spec_text (a b : Int) (w : World) : Calls Tryd.prog 25 #[.agg #[.int .i64 a, .int .i64 b]] w (RetText w (txt (Cs.text a b))) := by
  obtain ⟨i0, hi, hz0, hz1, hz2⟩ := info_parts info_u8
  go_enter Tryd.func25, Tryd.ntmps25
  go_wp2
  go_loopw [3, 4] (fun v i wr => ∃ k : Nat, i = .int .i64 k ∧ k ≤ 128 ∧ TextAt w a b k v wr) (fun _ i _ => 128 - (intOf i).toNat)
  case atStart => exact ⟨0, rfl, by omega, TextAt.start w a b _⟩
  case round =>
    obtain ⟨k, rfl, hk, ht⟩ := hrel
    have HT := Lib.hid ht
    by_cases hlt : (k : Int) < 128
    · obtain ⟨c0, c1⟩ := ht.1
      have hl := ht.lt
      have hle := Cs.textTo_len a b k
      clear ht
      go_wp2_with fail
      refine (spec_has _ _ _ _ (by omega) (by omega)).mono ?_
      rw [Int.toNat_natCast]
      rintro e w1 ⟨rfl, hb1⟩
      have HT1 := Lib.hid (HT.out.later hb1)
      have hl1 := HT1.out.lt
      clear hb1 c0 c1
      by_cases hm : Cs.mem a b k = true
      · go_wp2_with (at_builtin; refine wpList_append_own _ rfl _ _ 55 rfl (w.heap.size + 1) 5 i0 (.int .u8 0) 1 1 Tryd.underlying55 hi hz0 hz1 hz2 rfl (by decide) _ _ _ rfl (HT1.out.2.1.alloc _) ⟨w1.heap.size, 0, none⟩ 1 1 [.int .u8 k] rfl rfl ?c1 ?c2 ?c3 ?c4 ?c5 ?_)
        case c1 => exact new_byte _ _ _
        case c2 => exact one_byte _ _
        case c3 => exact len_small (by omega)
        case c4 => omega
        case c5 => simp; omega
        intro v' w2 hown' hgrow _
        have ho := Lib.hid (HT1.out.yes hm hown' hgrow)
        clear hown' hgrow
        go_wp2
        go_roundw
        case rel => exact ⟨k + 1, by go_num, by omega, ho.out⟩
        case measure => first | (simp [intOf]; done) | (simp [intOf]; omega)
      · have hm2 : Cs.mem a b k = false := by simpa using hm
        clear hm
        have ho := Lib.hid (HT1.out.no hm2)
        go_wp2
        go_roundw
        case rel => exact ⟨k + 1, by go_num, by omega, ho.out⟩
        case measure => first | (simp [intOf]; done) | (simp [intOf]; omega)
    · obtain rfl : k = 128 := by omega
      have hc := conv_own ht.2.1
      have HB := Lib.hid ht.2.2
      clear ht
      go_wp2
      go_ret
      exact ⟨rfl, HB.out⟩

set_option maxHeartbeats 800000 in
theorem impl_text (a b : Int) (w : World) : Calls Tryd.prog 58 #[.agg #[.int .i64 a, .int .i64 b]] w (RetText w (txt (Cs.text a b))) := by
  obtain ⟨i0, hi, hz0, hz1, hz2⟩ := info_parts info_u8
  have hsz := Cs.textTo_len a b 128
  have HS := Lib.hid (fun W => impl_size a b W)
  go_enter Tryd.func58, Tryd.ntmps58
  go_wp2_with fail
  refine (HS.out _).mono ?_
  rintro e w0 ⟨rfl, hb0⟩
  have HS0 := Lib.hid ((SetAt.new w a b _).later hb0)
  have HB0 := Lib.hid (below_step (bl1 _ _) hb0)
  have hl0 := HS0.out.lt
  clear hb0
  have hsz2 : (Cs.text a b).length ≤ 128 := hsz
  obtain ⟨w1, hmk, hown, hgr⟩ := run_make_own (P := Tryd.prog) w0 (w.heap.size + 1) 55 5 i0 (.int .u8 0) 1 Tryd.underlying55 hi hz0 hz1 .i64 .i64 (Cs.text a b).length (by rw [hz2]; omega) (by unfold maxLen; omega) hl0
  have hb1 : Below w0.heap.size w0 w1 := (Below.refl _ _).grown hgr (Nat.le_refl _) (fun k hk => by cases hk)
  have HT := Lib.hid (show TextAt w a b 0 _ w1 from ⟨HS0.out.later hb1, hown, below_step HB0.out hb1⟩)
  clear hown hgr hb1
  go_wp2
  go_loopw [3, 4, 8] (fun v _ i wr => ∃ k : Nat, i = .int .u8 k ∧ k ≤ 128 ∧ TextAt w a b k v wr) (fun _ _ i _ => 128 - (intOf i).toNat)
  case atStart => exact ⟨0, rfl, by omega, HT.out⟩
  case round =>
    clear hmk HT HS0 HB0
    obtain ⟨k, rfl, hk, ht⟩ := hrel
    have HT := Lib.hid ht
    by_cases hlt : (k : Int) < 128
    · obtain ⟨c0, c1⟩ := ht.1
      have hl := ht.lt
      have hle := Cs.textTo_len a b k
      clear ht
      go_wp2_with fail
      refine (impl_has _ _ _ _ (by omega) (by omega)).mono ?_
      rw [Int.toNat_natCast]
      rintro e w2 ⟨rfl, hb2⟩
      have HT1 := Lib.hid (HT.out.later hb2)
      have hl1 := HT1.out.lt
      clear hb2 c0 c1
      by_cases hm : Cs.mem a b k = true
      · go_wp2_with (at_builtin; refine wpList_append_own _ rfl _ _ 55 rfl (w.heap.size + 1) 5 i0 (.int .u8 0) 1 1 Tryd.underlying55 hi hz0 hz1 hz2 rfl (by decide) _ _ _ rfl (HT1.out.2.1.alloc _) ⟨w2.heap.size, 0, none⟩ 1 1 [.int .u8 k] rfl rfl ?c1 ?c2 ?c3 ?c4 ?c5 ?_)
        case c1 => exact new_byte _ _ _
        case c2 => exact one_byte _ _
        case c3 => exact len_small (by omega)
        case c4 => omega
        case c5 => simp; omega
        intro v' w3 hown' hgrow _
        have ho := Lib.hid (HT1.out.yes hm hown' hgrow)
        clear hown' hgrow
        go_wp2
        go_roundw
        case rel => exact ⟨k + 1, by go_num, by omega, ho.out⟩
        case measure => first | (simp [intOf]; done) | (simp [intOf]; omega)
      · have hm2 : Cs.mem a b k = false := by simpa using hm
        clear hm
        have ho := Lib.hid (HT1.out.no hm2)
        go_wp2
        go_roundw
        case rel => exact ⟨k + 1, by go_num, by omega, ho.out⟩
        case measure => first | (simp [intOf]; done) | (simp [intOf]; omega)
    · obtain rfl : k = 128 := by omega
      have hc := conv_own ht.2.1
      have HB := Lib.hid ht.2.2
      clear ht
      go_wp2
      go_ret
      exact ⟨rfl, HB.out⟩

end Go.Proofs.YtfhakailbikjkaaDoor
/- The reference model's FormatInt returns the decimal form, at every integer. No conditions. -/
namespace Go.Proofs.YtfhakailbikjkaaDoor
open Go.RowKit

theorem ret_pair {a c : Int} {b d : Bool} (h1 : a = c) (h2 : b = d) : Ending.returned (.tuple #[.int .i64 a, .bool b]) = .returned (.tuple #[.int .i64 c, .bool d]) := by rw [h1, h2]
theorem ret_val {a c : Int} (h1 : a = c) : Value.int .i64 a = .int .i64 c := by rw [h1]

/-- A block of one byte, made into a string. -/
theorem conv_one (x : Int) (w : World) : (convert 55 9 (.slice (some ⟨w.heap.size, 0, none⟩) 1 1)).run Tryd.prog (w.alloc (.cells #[.int .u8 x] 5)) = .ok (.string ⟨#[UInt8.ofNat x.toNat]⟩) (w.alloc (.cells #[.int .u8 x] 5)) := by
  have h := run_convert_bytes_arg (P := Tryd.prog) (w.alloc (.cells #[.int .u8 x] 5)) 55 5 Tryd.underlying55 Tryd.underlying5 w.heap.size 0 1 1 [x] rfl
    (fun i hi => by
      obtain rfl : i = 0 := by omega
      exact cell_one_new w (.int .u8 x) 5 0 (.int .u8 x) rfl) 9 Tryd.underlying9
  simpa [strOfNums] using h

theorem string_eq {s : ByteArray} {l : List UInt8} (h : s.data.toList = l) : s = ⟨l.toArray⟩ := by
  subst h; cases s; simp

theorem size_eq (s : ByteArray) : s.size = s.data.toList.length := rfl

/-- One round's fact. -/
theorem fmt_round {n m : Int} {s : ByteArray} (hm : 0 < m) (h : Dec.digs n.toNat = Dec.digs m.toNat ++ s.data.toList) :
    Dec.digs n.toNat = Dec.digs (m / 10).toNat ++ (({ data := #[UInt8.ofNat (48 + m % 10).toNat] } : ByteArray) ++ s).data.toList := by
  rw [h, Dec.digs_pos (by omega), Dec.dg_byte m (by omega), show m.toNat / 10 = (m / 10).toNat by omega]
  simp [ByteArray.data_append]

theorem fmt_size {n m : Int} {s : ByteArray} (h0 : 0 ≤ n) (h1 : n ≤ 9223372036854775808) (h : Dec.digs n.toNat = Dec.digs m.toNat ++ s.data.toList) : s.size ≤ 20 := by
  have h2 := congrArg List.length h
  have h3 := Dec.digs_lt 20 n.toNat (Nat.lt_of_le_of_lt (show n.toNat ≤ 9223372036854775808 by omega) (by decide))
  rw [List.length_append, ← size_eq] at h2; omega

set_option maxRecDepth 100000 in
set_option maxHeartbeats 400000 in
theorem spec_fmt_pos (n : Int) (w : World) (h0 : 0 < n) (h1 : n ≤ 9223372036854775807) :
    Calls Tryd.prog 21 #[.int .i64 n] w fun e w' => e = .returned (.string ⟨(Dec.digs n.toNat).toArray⟩) ∧ Below w.heap.size w w' := by
  have c0 : (n == 0) = false := by simp; omega
  go_enter Tryd.func21, Tryd.ntmps21
  go_wp2
  go_loopw [0, 4, 5] (fun x o d wr => ∃ (m : Int) (s : ByteArray), x = .int .i64 m ∧ 0 ≤ m ∧ m ≤ n ∧ o = .string s ∧ Below w.heap.size w wr ∧ Dec.digs n.toNat = Dec.digs m.toNat ++ s.data.toList) (fun x _ _ _ => (intOf x).toNat)
  case atStart => exact ⟨n, _, rfl, by omega, by omega, rfl, Below.refl _ _, by simp⟩
  case round =>
    obtain ⟨m, s, rfl, h2, h3, rfl, h4, h5⟩ := hrel
    have hsz := fmt_size (by omega) (by omega) h5
    have H5 := Lib.hid h5
    clear h5
    by_cases hm : m = 0
    · subst hm
      go_wp2
      go_ret
      exact ⟨by rw [H5.out]; simp [Dec.digs_zero, ← string_eq (s := s) rfl], h4⟩
    · have hcv := conv_one (48 + m % 10) wr
      have hm' : (m == 0) = false := by simpa using hm
      go_wp2
      all_goals go_roundw
      case rel => exact ⟨m / 10, _, rfl, by omega, by omega, rfl, h4.alloc h4.size _, fmt_round (by omega) H5.out⟩
      case measure => simp [intOf]; omega

theorem cons_eq (b : UInt8) (s : ByteArray) : ({ data := #[b] } : ByteArray) ++ s = ⟨(b :: s.data.toList).toArray⟩ :=
  string_eq (by simp [ByteArray.data_append])

theorem quo_neg (m : Int) (h0 : 0 ≤ m) (h1 : m ≤ 9223372036854775808) : wrap64 (-m.tdiv 10) = -(m / 10) := by
  rw [Int.tdiv_eq_ediv_of_nonneg h0]
  unfold wrap64; omega

set_option maxRecDepth 100000 in
set_option maxHeartbeats 400000 in
theorem spec_fmt_neg (n : Int) (w : World) (h0 : 0 < n) (h1 : n ≤ 9223372036854775808) :
    Calls Tryd.prog 21 #[.int .i64 (-n)] w fun e w' => e = .returned (.string ⟨(45 :: Dec.digs n.toNat).toArray⟩) ∧ Below w.heap.size w w' := by
  have c0 : (-n == 0) = false := by simp; omega
  go_enter Tryd.func21, Tryd.ntmps21
  go_wp2
  go_loopw [0, 4, 5] (fun x o d wr => ∃ (m : Int) (s : ByteArray), x = .int .i64 (-m) ∧ 0 ≤ m ∧ m ≤ n ∧ o = .string s ∧ Below w.heap.size w wr ∧ Dec.digs n.toNat = Dec.digs m.toNat ++ s.data.toList) (fun x _ _ _ => (- intOf x).toNat)
  case atStart => exact ⟨n, _, rfl, by omega, by omega, rfl, Below.refl _ _, by simp⟩
  case round =>
    obtain ⟨m, s, rfl, h2, h3, rfl, h4, h5⟩ := hrel
    have hsz := fmt_size (by omega) h1 h5
    have H5 := Lib.hid h5
    clear h5
    by_cases hm : m = 0
    · subst hm
      go_wp2
      go_ret
      exact ⟨by rw [H5.out]; simp only [Dec.digs_zero, Int.toNat_zero, List.nil_append]; rw [← cons_eq]; rfl, h4⟩
    · have hcv := conv_one (48 + m % 10) wr
      have hcv2 := conv_one (48 + -(m % 10)) wr
      have hm' : (-m == 0) = false := by simpa using hm
      go_wp2
      all_goals go_roundw
      case rel => exact ⟨m / 10, _, by rw [quo_neg m h2 (by omega)], by omega, by omega, rfl, h4.alloc h4.size _, fmt_round (by omega) H5.out⟩
      case measure => rw [quo_neg m h2 (by omega)]; simp [intOf]; omega
      case rel => exact ⟨m / 10, _, by rw [quo_neg m h2 (by omega)], by omega, by omega, rfl, h4.alloc h4.size _, by rw [show (48 : Int) + -(m % 10) = 48 + m % 10 by omega]; exact fmt_round (by omega) H5.out⟩
      case measure => rw [quo_neg m h2 (by omega)]; simp [intOf]; omega
set_option maxRecDepth 100000 in
set_option maxHeartbeats 400000 in
theorem spec_fmt_zero (w : World) :
    Calls Tryd.prog 21 #[.int .i64 0] w fun e w' => e = .returned (.string ⟨#[48]⟩) ∧ Below w.heap.size w w' := by
  go_enter Tryd.func21, Tryd.ntmps21
  go_wp2
  go_ret
  exact ⟨rfl, Below.refl _ _⟩

/-- The reference model's FormatInt. -/
theorem spec_fmt (n : Int) (w : World) (h0 : -9223372036854775808 ≤ n) (h1 : n ≤ 9223372036854775807) :
    Calls Tryd.prog 21 #[.int .i64 n] w fun e w' => e = .returned (.string ⟨(Dec.fmt n).toArray⟩) ∧ Below w.heap.size w w' := by
  rcases Int.lt_trichotomy n 0 with h | h | h
  · have h2 := spec_fmt_neg (-n) w (by omega) (by omega)
    rw [Int.neg_neg] at h2
    have e : Dec.fmt n = 45 :: Dec.digs (-n).toNat := by
      unfold Dec.fmt; rw [if_neg (by omega), if_pos h, show n.natAbs = (-n).toNat by omega]
    rw [e]; exact h2
  · subst h; exact spec_fmt_zero w
  · have h2 := spec_fmt_pos n w h h1
    have e : Dec.fmt n = Dec.digs n.toNat := by
      unfold Dec.fmt; rw [if_neg (by omega), if_neg (by omega), show n.natAbs = n.toNat by omega]
    rw [e]; exact h2
end Go.Proofs.YtfhakailbikjkaaDoor
/- The program's FormatInt returns the decimal form, at every integer. No conditions. -/
namespace Go.Proofs.YtfhakailbikjkaaDoor
open Go.RowKit

/-- The block B holds the letters l at its end, from place at on. -/
def Holds (w : World) (B at_ : Nat) (l : List UInt8) : Prop :=
  (∀ j, j < 20 → ∃ v, w.cell? ⟨B, j, none⟩ = some v) ∧ (∀ j, w.frozen? ⟨B, j, none⟩ = false) ∧ (∀ j (h : j < l.length), w.cell? ⟨B, at_ + j, none⟩ = some (.int .u8 (l[j].toNat : Int)))

theorem holds_start (w : World) (C : Array Value) (t : TypeId) (hC : C.size = 20) : Holds (w.alloc (.cells C t)) w.heap.size 20 [] := by
  refine ⟨fun j hj => ⟨C[j]'(by omega), ?_⟩, fun j => ?_, fun j h => by simp at h⟩
  · rw [World.cell?_alloc_mark]; exact Array.getElem?_eq_getElem _
  · rw [World.frozen?_alloc_mark]; simp

theorem holds_next {w : World} {B p : Nat} {l : List UInt8} (h : Holds w B (p + 1) l) (hp : p < 20) (b : UInt8) (v : Value) (hv : v = .int .u8 (b.toNat : Int)) : Holds (w.setCell ⟨B, p, none⟩ v) B p (b :: l) := by
  subst hv
  obtain ⟨h1, h2, h3⟩ := h
  have hset : ∀ j, j ≠ p → (w.setCell ⟨B, p, none⟩ (.int .u8 (b.toNat : Int))).cell? ⟨B, j, none⟩ = w.cell? ⟨B, j, none⟩ := fun j hj => by
    go_simp
  refine ⟨fun j hj => ?_, fun j => by rw [World.frozen?_setCell]; exact h2 j, fun j hj => ?_⟩
  · obtain ⟨u, hu⟩ := h1 j hj
    by_cases e : j = p
    · subst e; exact ⟨_, by go_simp; exact rfl⟩
    · exact ⟨u, by rw [hset j e]; exact hu⟩
  · obtain ⟨u, hu⟩ := h1 p hp
    cases j with
    | zero => simp; go_simp
    | succ j => rw [hset _ (by omega), show p + (j + 1) = p + 1 + j by omega]; simpa using h3 j (by simpa using hj)

/-- The last letters of the array, as a slice. -/
theorem slice_at (B p : Nat) (hp : p < 20) (w : World) : (Instr.sliceAt 65 (.pointer (some ⟨B, 0, none⟩)) (some (.int .i64 (p : Int))) none none).run Tryd.prog w = .ok (.slice (some ⟨B, p, none⟩) (20 - p) (20 - p)) w := by
  have e : Tryd.prog.arrayLen 65 = 20 := by kernel_rfl
  have hs : ∀ wx : World, (sizeOf (Tryd.prog.elem 65)).run Tryd.prog wx = .ok 1 wx := fun _ => by kernel_rfl
  rw [run_sliceAt_array_l w 65 ⟨B, 0, none⟩ (by kernel_rfl) .i64 p (by omega) (by rw [e]; omega), hs, e]
  have e0 : ¬ (20 = p) := by omega
  by_cases e1 : p = 0
  · subst e1; simp [Result.andThen, slicedAt, Addr.add]
  · simp [Result.andThen, slicedAt, Addr.add, e0, e1]

/-- And those letters as a string. -/
theorem conv_at {w : World} {B p : Nat} {l : List UInt8} (h : Holds w B p l) (n : Nat) (hn : n = l.length) : (convert 55 9 (.slice (some ⟨B, p, none⟩) n n)).run Tryd.prog w = .ok (.string ⟨l.toArray⟩) w := by
  subst hn
  exact run_convert_bytes_back w 55 9 5 ⟨B, p, none⟩ _ l Tryd.underlying55 Tryd.underlying5 Tryd.underlying9 (fun j hj => by
    rw [show (⟨B, p, none⟩ : Addr).add j = ⟨B, p + j, none⟩ from by simp [Addr.add]]
    exact h.2.2 j hj)

set_option maxRecDepth 100000 in
set_option maxHeartbeats 400000 in
theorem impl_fmt_nn (n : Nat) (w : World) (h1 : (n : Int) ≤ 9223372036854775807) :
    Calls Tryd.prog 51 #[.int .i64 n] w fun e w' => e = .returned (.string ⟨(Dec.fmtN n).toArray⟩) ∧ Below w.heap.size w w' := by
  go_enter Tryd.func51, Tryd.ntmps51
  go_wp2
  go_loopw [3, 5, 12] (fun x a i wr => ∃ (m p : Nat) (l : List UInt8), x = .int .u64 m ∧ m ≤ n ∧ a = .int .i64 (p + 1) ∧ i = .int .i64 l.length ∧ Below w.heap.size w wr ∧ Holds wr w.heap.size (p + 1) l ∧ p + 1 + l.length = 20 ∧ Dec.Left n m l) (fun x _ _ _ => (intOf x).toNat)
  case atStart =>
    exact ⟨n, 19, [], rfl, by omega, by rfl, by rfl, (Below.refl _ _).alloc (Nat.le_refl _) _, holds_start w _ _ rfl, by rfl, Dec.left_start n⟩
  case round =>
    obtain ⟨m, p, l, rfl, h2, rfl, rfl, h3, h4, h5, h6⟩ := hrel
    have h7 := Dec.left_short (by omega) h6
    have H5 := Lib.hid h5
    have H6 := Lib.hid h6
    have h8 : p < 20 := by omega
    obtain ⟨v, hv⟩ := h4.1 p h8
    have hf := h4.2.1 p
    have H4 := Lib.hid h4
    clear h4 h5 h6
    have h9 : (l.length : Int) < 19 := by omega
    by_cases hm : m / 10 = 0
    · have hsl := slice_at w.heap.size p h8
      have hcv := conv_at (holds_next H4.out h8 (Dec.dg m) (.int .u8 (48 + ↑m % 10)) (by rw [Dec.dg_toNat]; go_num)) (20 - p) (by have := H5.out; simp; omega)
      go_wp2
      go_ret
      exact ⟨by rw [Dec.left_end H6.out hm]; rfl, h3.setCell (Nat.le_refl _) _⟩
    · go_wp2
      go_roundw
      case rel =>
        obtain ⟨p, rfl⟩ : ∃ q, p = q + 1 := ⟨p - 1, by have := H5.out; omega⟩
        exact ⟨m / 10, p, Dec.dg m :: l, by go_num, by omega, by go_num, by simp, h3.setCell (Nat.le_refl _) _, holds_next H4.out h8 _ _ (by rw [Dec.dg_toNat]; go_num), by have := H5.out; simp; omega, Dec.left_next H6.out (by omega)⟩
      case measure => simp [intOf]; omega
theorem neg_size (n : Nat) (h1 : (n : Int) ≤ 9223372036854775808) : IntKind.u64.wrap (-IntKind.u64.wrap (-(n : Int))) = n := by
  simp only [IntKind.wrap, IntKind.signed, IntKind.bits]
  simp
  omega

set_option maxRecDepth 100000 in
set_option maxHeartbeats 400000 in
theorem impl_fmt_neg (n : Nat) (w : World) (h0 : 0 < (n : Int)) (h1 : (n : Int) ≤ 9223372036854775808) :
    Calls Tryd.prog 51 #[.int .i64 (-(n : Int))] w fun e w' => e = .returned (.string ⟨(45 :: Dec.fmtN n).toArray⟩) ∧ Below w.heap.size w w' := by
  go_enter Tryd.func51, Tryd.ntmps51
  go_wp2
  go_loopw [3, 5, 12] (fun x a i wr => ∃ (m p : Nat) (l : List UInt8), x = .int .u64 m ∧ m ≤ n ∧ a = .int .i64 (p + 1) ∧ i = .int .i64 l.length ∧ Below w.heap.size w wr ∧ Holds wr w.heap.size (p + 1) l ∧ p + 1 + l.length = 20 ∧ Dec.Left n m l) (fun x _ _ _ => (intOf x).toNat)
  case atStart =>
    exact ⟨n, 19, [], by rw [neg_size n h1], by omega, by rfl, by rfl, (Below.refl _ _).alloc (Nat.le_refl _) _, holds_start w _ _ rfl, by rfl, Dec.left_start n⟩
  case round =>
    obtain ⟨m, p, l, rfl, h2, rfl, rfl, h3, h4, h5, h6⟩ := hrel
    have h7 := Dec.left_short (by omega) h6
    obtain ⟨q, rfl⟩ : ∃ q, p = q + 1 := ⟨p - 1, by omega⟩
    have H5 := Lib.hid h5
    have H6 := Lib.hid h6
    have h8 : q + 1 < 20 := by omega
    obtain ⟨v, hv⟩ := h4.1 (q + 1) h8
    obtain ⟨v2, hv2⟩ := h4.1 q (by omega)
    have hf := h4.2.1 (q + 1)
    have hf2 := h4.2.1 q
    have H4 := Lib.hid h4
    clear h4 h5 h6
    have h9 : (l.length : Int) < 19 := by omega
    by_cases hm : m / 10 = 0
    · have hsl := slice_at w.heap.size q (by omega)
      have hcv := conv_at (holds_next (holds_next H4.out h8 (Dec.dg m) (.int .u8 (48 + ↑m % 10)) (by rw [Dec.dg_toNat]; go_num)) (by omega) 45 (.int .u8 45) (by rfl)) (20 - q) (by have := H5.out; simp; omega)
      go_wp2
      go_ret
      exact ⟨by rw [Dec.left_end H6.out hm]; rfl, (h3.setCell (Nat.le_refl _) _).setCell (Nat.le_refl _) _⟩
    · go_wp2
      go_roundw
      case rel =>
        exact ⟨m / 10, q, Dec.dg m :: l, by go_num, by omega, by go_num, by simp, h3.setCell (Nat.le_refl _) _, holds_next H4.out h8 _ _ (by rw [Dec.dg_toNat]; go_num), by have := H5.out; simp; omega, Dec.left_next H6.out (by omega)⟩
      case measure => simp [intOf]; omega

/-- The program's FormatInt. -/
theorem impl_fmt (n : Int) (w : World) (h0 : -9223372036854775808 ≤ n) (h1 : n ≤ 9223372036854775807) :
    Calls Tryd.prog 51 #[.int .i64 n] w fun e w' => e = .returned (.string ⟨(Dec.fmt n).toArray⟩) ∧ Below w.heap.size w w' := by
  by_cases h : 0 ≤ n
  · have h2 := impl_fmt_nn n.toNat w (by omega)
    rw [Int.toNat_of_nonneg h, ← Dec.fmt_nn n h] at h2
    exact h2
  · have h2 := impl_fmt_neg (-n).toNat w (by omega) (by omega)
    rw [Int.toNat_of_nonneg (by omega), Int.neg_neg, ← Dec.fmt_neg n (by omega)] at h2
    exact h2
end Go.Proofs.YtfhakailbikjkaaDoor
