/- NewCset of the reference model: the set of a string's bytes. No conditions. -/
import Derived.Test.YtlbidfegcfcaiaaC4
namespace Go.Proofs.Ytlbidfegcfcaiaa
open Go.RowKit
attribute [local go_sem ↓] Go.wp_at_zero Go.wp_at_succ
set_option linter.unusedVariables false

/-- The first k bytes. -/
def Cs.pre (s : ByteArray) (k : Nat) : List Nat := (s.data.toList.take k).map UInt8.toNat
/-- None of the first k bytes is above 127. -/
def Cs.okTo (s : ByteArray) (k : Nat) : Bool := (s.data.toList.take k).all fun c => decide (c.toNat < 128)
def Cs.good (s : ByteArray) : Bool := s.data.toList.all fun c => decide (c.toNat < 128)
def Cs.newL (s : ByteArray) : Int := if Cs.good s = true then Cs.allL (s.data.toList.map UInt8.toNat) else 0
def Cs.newH (s : ByteArray) : Int := if Cs.good s = true then Cs.allH (s.data.toList.map UInt8.toNat) else 0
theorem Cs.take_snoc (s : ByteArray) (k : Nat) (h : k < s.size) : s.data.toList.take (k + 1) = s.data.toList.take k ++ [s[k]] := by
  rw [List.take_succ_eq_append_getElem (by simpa using h)]; rfl
theorem Cs.pre_succ (s : ByteArray) (k : Nat) (h : k < s.size) : Cs.pre s (k + 1) = Cs.pre s k ++ [s[k].toNat] := by
  unfold Cs.pre; rw [Cs.take_snoc s k h, List.map_append]; rfl
theorem Cs.okTo_succ (s : ByteArray) (k : Nat) (h : k < s.size) : Cs.okTo s (k + 1) = (Cs.okTo s k && decide (s[k].toNat < 128)) := by
  unfold Cs.okTo; rw [Cs.take_snoc s k h, List.all_append]; simp
theorem Cs.good_end (s : ByteArray) (h : Cs.okTo s s.size = true) : Cs.good s = true ∧ Cs.newL s = Cs.allL (Cs.pre s s.size) ∧ Cs.newH s = Cs.allH (Cs.pre s s.size) := by
  have e : s.data.toList.take s.size = s.data.toList := List.take_of_length_le (by simp)
  unfold Cs.okTo at h; rw [e] at h
  refine ⟨h, ?_, ?_⟩
  · unfold Cs.newL Cs.pre Cs.good; rw [if_pos h, e]
  · unfold Cs.newH Cs.pre Cs.good; rw [if_pos h, e]
theorem Cs.good_bad (s : ByteArray) (k : Nat) (hk : k < s.size) (h : 128 ≤ s[k].toNat) : Cs.good s = false ∧ Cs.newL s = 0 ∧ Cs.newH s = 0 := by
  have hg : Cs.good s = false := by
    rw [Cs.good, List.all_eq_false]
    exact ⟨s[k], by have := List.getElem_mem (l := s.data.toList) (n := k) (by simpa using hk); exact this, by simp; omega⟩
  refine ⟨hg, ?_, ?_⟩
  · unfold Cs.newL; rw [if_neg (by rw [hg]; simp)]
  · unfold Cs.newH; rw [if_neg (by rw [hg]; simp)]

/-- A set's variable that may be written. -/
def FreeSet (w : World) (b : Nat) (l h : Int) : Prop := SetAt w b l h ∧ w.frozen? ⟨b, 0, none⟩ = false ∧ w.frozen? ⟨b, 1, none⟩ = false
theorem FreeSet.later {wa wb : World} {g : Nat} {l k : Int} (h : FreeSet wa g l k) (hb : Below wa.heap.size wa wb) : FreeSet wb g l k :=
  ⟨h.1.later hb, free_later hb h.1.lt h.2.1, free_later hb h.1.lt h.2.2⟩
theorem FreeSet.new (W : World) (l k : Int) (T : TypeId) : FreeSet (W.alloc (.cells #[.int .i64 l, .int .i64 k] T)) W.heap.size l k := by
  refine ⟨SetAt.new _ _ _ _, ?_, ?_⟩ <;> go_simp
theorem FreeSet.stored {w : World} {g : Nat} {l0 k0 : Int} (h : FreeSet w g l0 k0) (l k : Int) : FreeSet ((w.setCell ⟨g, 0, none⟩ (.int .i64 l)).setCell ⟨g, 1, none⟩ (.int .i64 k)) g l k := by
  obtain ⟨⟨h0, h1⟩, h2, h3⟩ := h
  refine ⟨⟨?_, ?_⟩, ?_, ?_⟩ <;> go_simp
theorem FreeSet.far {w : World} {b g : Nat} {l h : Int} (s : FreeSet w b l h) (hne : b ≠ g) (x y : Value) : FreeSet ((w.setCell ⟨g, 0, none⟩ x).setCell ⟨g, 1, none⟩ y) b l h := by
  obtain ⟨s0, s1, s2⟩ := s
  refine ⟨s0.far hne x y, ?_, ?_⟩ <;> simp [s1, s2]
theorem FreeSet.drew {w : World} {b : Nat} {l h : Int} (s : FreeSet w b l h) : FreeSet w.drew b l h := s

/-- A set and a bool are returned. -/
def RetNew (w : World) (l h : Int) (b : Bool) (e : Ending) (w' : World) : Prop := e = .returned (.tuple #[.agg #[.int .i64 l, .int .i64 h], .bool b]) ∧ Below w.heap.size w w'
/-- The state of the loops: the result's variable and the set so far. -/
def NewAt (w : World) (l h : Int) (wr : World) : Prop := FreeSet wr w.heap.size 0 0 ∧ FreeSet wr (w.heap.size + 1) l h ∧ Below w.heap.size w wr
theorem NewAt.later {w wr wx : World} {l h : Int} (s : NewAt w l h wr) (hb : Below wr.heap.size wr wx) : NewAt w l h wx := ⟨s.1.later hb, s.2.1.later hb, below_step s.2.2 hb⟩
theorem NewAt.drew {w wr : World} {l h : Int} (s : NewAt w l h wr) : NewAt w l h wr.drew := ⟨s.1.drew, s.2.1.drew, s.2.2.drew⟩
theorem NewAt.stored {w wr : World} {l h : Int} (s : NewAt w l h wr) (l2 h2 : Int) : NewAt w l2 h2 ((wr.setCell ⟨w.heap.size + 1, 0, none⟩ (.int .i64 l2)).setCell ⟨w.heap.size + 1, 1, none⟩ (.int .i64 h2)) :=
  ⟨s.1.far (by omega) _ _, s.2.1.stored l2 h2, below_store s.2.2 (by omega) _ _⟩
theorem NewAt.start (w : World) (T : TypeId) : NewAt w 0 0 ((w.alloc (.cells #[.int .i64 0, .int .i64 0] T)).alloc (.cells #[.int .i64 0, .int .i64 0] T)) := by
  have h := FreeSet.new (w.alloc (.cells #[.int .i64 0, .int .i64 0] T)) 0 0 T
  rw [show (w.alloc (.cells #[.int .i64 0, .int .i64 0] T)).heap.size = w.heap.size + 1 by simp] at h
  exact ⟨(FreeSet.new w 0 0 T).later (bl1 _ _), h, bl2 _ _ _⟩

theorem Cs.or_one {l h : Int} (f1 : Cs.Fits l) (f2 : Cs.Fits h) {x : Int} (h0 : 0 ≤ x) (h1 : x < 128) : bits .or .i64 l (Cs.oneL x) = Cs.addL l x.toNat ∧ bits .or .i64 h (Cs.oneH x) = Cs.addH h x.toNat := by
  unfold Cs.oneL Cs.oneH Cs.addL Cs.addH
  by_cases ha : x < 64
  · have hb : x.toNat < 64 := by omega
    rw [if_pos ha, if_pos ha, if_pos hb, if_pos hb, Cs.or_zero f2]; exact ⟨rfl, rfl⟩
  · have hb : ¬ x.toNat < 64 := by omega
    have e0 : x.toNat - 64 = (x - 64).toNat := by omega
    rw [if_neg ha, if_neg ha, if_neg hb, if_neg hb, if_pos h1, Cs.or_zero f1, e0]; exact ⟨rfl, rfl⟩
set_option maxHeartbeats 800000 in
theorem spec_new (s : ByteArray) (hs : s.size ≤ maxLen) (w : World) : Calls Try.prog 18 #[.string s] w (RetNew w (Cs.newL s) (Cs.newH s) (Cs.good s)) := by
  unfold maxLen at hs
  go_enter Try.func18, Try.ntmps18
  go_wp2
  go_loopw [5] (fun i wr => ∃ k : Nat, i = .int .i64 k ∧ k ≤ s.size ∧ Cs.okTo s k = true ∧ NewAt w (Cs.allL (Cs.pre s k)) (Cs.allH (Cs.pre s k)) wr) (fun i _ => s.size - (intOf i).toNat)
  case atStart => exact ⟨0, rfl, by omega, rfl, NewAt.start w _⟩
  case round =>
    obtain ⟨k, rfl, hk, hok, hn⟩ := hrel
    have HO := Lib.hid hok
    have HN := Lib.hid hn
    clear hok
    by_cases hlt : k < s.size
    · by_cases hbad : 128 ≤ (s[k].toNat : Int)
      · obtain ⟨⟨⟨r0, r1⟩, r2, r3⟩, _, hB⟩ := hn
        have HB := Lib.hid hB
        have HG := Lib.hid (Cs.good_bad s k hlt (by omega))
        clear hB
        go_wp2
        exact bodyPost_ret (v := .tuple #[.agg #[.int .i64 0, .int .i64 0], .bool false]) (by simp [results, Try.results18, go_sem, r0, r1]) rfl ⟨by rw [HG.out.1, HG.out.2.1, HG.out.2.2], below_store HB.out (Nat.le_refl _) _ _⟩
      · obtain ⟨⟨⟨r0, r1⟩, r2, r3⟩, ⟨⟨t0, t1⟩, t2, t3⟩, hB⟩ := hn
        have hx : s[k].toNat < 128 := by omega
        have HX := Lib.hid (Cs.okTo_succ s k hlt)
        have HP := Lib.hid (Cs.pre_succ s k hlt)
        have HL := Lib.hid (Cs.all_snoc (Cs.pre s k) s[k].toNat)
        clear hB
        have k0 : (0 : Int) ≤ k := by omega
        have k1 : (k : Int) < s.size := by omega
        go_wp2_with fail
        go_region_with (first | (go_at_call 25; refine (spec_add _ _ _ _ (by omega) (by omega)).mono ?_; rw [Int.toNat_natCast]; rintro e w1 ⟨rfl, hb1⟩; have HN1 := Lib.hid (HN.out.drew.later hb1); obtain ⟨⟨q0, q1⟩, q2, q3⟩ := HN1.out.2.1))
        all_goals go_wp2
        all_goals go_roundw
        all_goals first
          | exact ⟨k + 1, by go_num, by omega, by rw [HX.out, HO.out]; simpa using hx, by rw [HP.out, HL.out.1, HL.out.2]; exact HN1.out.stored _ _⟩
          | (simp [intOf]; done)
          | (simp [intOf]; omega)
    · obtain rfl : k = s.size := by omega
      obtain ⟨⟨⟨r0, r1⟩, r2, r3⟩, ⟨⟨t0, t1⟩, t2, t3⟩, hB⟩ := hn
      have HB := Lib.hid hB
      have HG := Lib.hid (Cs.good_end s HO.out)
      clear hB
      go_wp2
      exact bodyPost_ret (v := .tuple #[.agg #[.int .i64 (Cs.allL (Cs.pre s s.size)), .int .i64 (Cs.allH (Cs.pre s s.size))], .bool true]) (by simp [results, Try.results18, go_sem, r0, r1]) rfl ⟨by rw [HG.out.1, HG.out.2.1, HG.out.2.2], below_store HB.out (Nat.le_refl _) _ _⟩

set_option maxHeartbeats 800000 in
theorem impl_new (s : ByteArray) (hs : s.size ≤ maxLen) (w : World) : Calls Try.prog 20 #[.string s] w (RetNew w (Cs.newL s) (Cs.newH s) (Cs.good s)) := by
  unfold maxLen at hs
  go_enter Try.func20, Try.ntmps20
  go_wp2
  go_loopw [5, 8] (fun _ i wr => ∃ k : Nat, i = .int .i64 k ∧ k ≤ s.size ∧ Cs.okTo s k = true ∧ NewAt w (Cs.allL (Cs.pre s k)) (Cs.allH (Cs.pre s k)) wr) (fun _ i _ => s.size - (intOf i).toNat)
  case atStart => exact ⟨0, rfl, by omega, rfl, NewAt.start w _⟩
  case round =>
    obtain ⟨k, rfl, hk, hok, hn⟩ := hrel
    have HO := Lib.hid hok
    have HN := Lib.hid hn
    clear hok
    by_cases hlt : k < s.size
    · by_cases hbad : 128 ≤ (s[k].toNat : Int)
      · obtain ⟨⟨⟨r0, r1⟩, r2, r3⟩, _, hB⟩ := hn
        have HB := Lib.hid hB
        have HG := Lib.hid (Cs.good_bad s k hlt (by omega))
        clear hB
        go_wp2
        exact bodyPost_ret (v := .tuple #[.agg #[.int .i64 0, .int .i64 0], .bool false]) (by simp [results, Try.results20, go_sem, r0, r1]) rfl ⟨by rw [HG.out.1, HG.out.2.1, HG.out.2.2], below_store HB.out (Nat.le_refl _) _ _⟩
      · obtain ⟨⟨⟨r0, r1⟩, r2, r3⟩, ⟨⟨t0, t1⟩, t2, t3⟩, hB⟩ := hn
        have hx : s[k].toNat < 128 := by omega
        have HX := Lib.hid (Cs.okTo_succ s k hlt)
        have HP := Lib.hid (Cs.pre_succ s k hlt)
        have HL := Lib.hid (Cs.all_snoc (Cs.pre s k) s[k].toNat)
        clear hB
        have k0 : (0 : Int) ≤ k := by omega
        have k1 : (k : Int) < s.size := by omega
        go_wp2_with fail
        have HR := Lib.hid (Cs.or_one (Cs.allL_fits (Cs.pre s k)) (Cs.allH_fits (Cs.pre s k)) (x := s[k].toNat) (by omega) (by omega))
        go_region_with (first | (go_at_call 27; refine (impl_one _ _ (by omega) (by omega)).mono ?_; rintro e w1 ⟨rfl, hb1⟩; have HN1 := Lib.hid (HN.out.drew.later hb1); obtain ⟨⟨q0, q1⟩, q2, q3⟩ := HN1.out.2.1) | (go_at_call 26; refine (impl_or _ _ _ _ _).mono ?_; rintro e w2 ⟨rfl, hb2⟩; have HN2 := Lib.hid (HN1.out.later hb2); obtain ⟨⟨q0, q1⟩, q2, q3⟩ := HN2.out.2.1))
        all_goals go_wp2
        all_goals go_roundw
        all_goals first
          | exact ⟨k + 1, by go_num, by omega, by rw [HX.out, HO.out]; simpa using hx, by rw [HP.out, HL.out.1, HL.out.2]; rw [HR.out.1, HR.out.2]; exact HN2.out.stored _ _⟩
          | (simp [intOf]; done)
          | (simp [intOf]; omega)
    · obtain rfl : k = s.size := by omega
      obtain ⟨⟨⟨r0, r1⟩, r2, r3⟩, ⟨⟨t0, t1⟩, t2, t3⟩, hB⟩ := hn
      have HB := Lib.hid hB
      have HG := Lib.hid (Cs.good_end s HO.out)
      clear hB
      go_wp2
      exact bodyPost_ret (v := .tuple #[.agg #[.int .i64 (Cs.allL (Cs.pre s s.size)), .int .i64 (Cs.allH (Cs.pre s s.size))], .bool true]) (by simp [results, Try.results20, go_sem, r0, r1]) rfl ⟨by rw [HG.out.1, HG.out.2.1, HG.out.2.2], below_store HB.out (Nat.le_refl _) _ _⟩
end Go.Proofs.Ytlbidfegcfcaiaa
