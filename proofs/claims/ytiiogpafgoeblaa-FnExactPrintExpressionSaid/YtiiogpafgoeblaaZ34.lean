/- Joined texts: G5, G6, N12, R0. No conditions besides those that each states. -/
import Derived.StillTailTactics
import Derived.IntWalk
import Derived.Test.YtiiogpafgoeblaaShelf
import Derived.Test.YtiiogpafgoeblaaZ7
import Derived.Test.YtiiogpafgoeblaaZ27
import Derived.Test.YtiiogpafgoeblaaZ33
/- The laws' copy of a tree. No conditions. -/
namespace Go.Proofs.Ytiiogpafgoeblaa
open Go.RowKit
set_option linter.unusedVariables false

theorem info_expr : (Try.prog.info? 45).map (fun i => (i.zero, i.size, i.bytes)) = some (some (.agg #[.int .i64 0, .string ByteArray.empty, .int .i64 0, .int .i64 0, .slice none 0 0]), 5, 64) := by kernel_rfl
def ToT (t : Ex.T) : Prop := t.bulk ≤ 1048576 → ∀ (w : World) (v : Value), Kids w v t.kids → Calls Try.prog 14 #[exV t v] w (RetE w t)
theorem foot_if {B : Nat} {w : World} {g : Nat} {G : List Nat} {l : List Ex.T} (hB : B ≤ g) (h : ∀ b ∈ G, g < b ∧ b < w.heap.size) (hg : g < w.heap.size) : Foot B w (if l = [] then [] else g :: G) := by
  intro b hb
  split at hb
  · cases hb
  · rcases List.mem_cons.1 hb with rfl | hb
    · exact ⟨hB, hg⟩
    · have := h b hb; exact ⟨by omega, this.2⟩
theorem FillAt.done {w wr : World} {g : Nat} {ks : List Ex.T} (h : FillAt w g ks ks.length wr) (hg : w.heap.size ≤ g) : RetK w ks (.returned (.slice (some ⟨g, 0, none⟩) ks.length ks.length)) wr := by
  obtain ⟨xs, G, hr, hR, hG, hB⟩ := h
  rw [List.take_length] at hR
  exact ⟨_, _, rfl, ownK_of hr hR (fun h => by have := (hG g h).1; omega), foot_if hg hG hr.lt, hB⟩
theorem FillAt.later {w wr w1 : World} {g k : Nat} {ks : List Ex.T} (h : FillAt w g ks k wr) (j : Nat) (hj : j < ks.length * 5) (hb : Below wr.heap.size wr w1) : (∃ u, w1.cell? ⟨g, j, none⟩ = some u) ∧ w1.frozen? ⟨g, j, none⟩ = false := by
  obtain ⟨xs, G, hr, _⟩ := h
  exact (hr.keep (hb.block g hr.lt)).cell j hj

set_option maxHeartbeats 1600000 in
theorem to_list (ks : List Ex.T) (hI : ∀ x ∈ ks, ToT x) (hl : ks.length + Ex.bulks ks ≤ 1048576) (w : World) (v : Value) (hk : Kids w v ks) : Calls Try.prog 41 #[v] w (RetK w ks) := by
  obtain ⟨i0, hi, hz0, hz1, hz2⟩ := info_parts info_expr
  obtain ⟨a, c, rfl⟩ := kids_len hk
  have HK := Lib.hid hk
  have HI := Lib.hid hI
  have HL := Lib.hid hl
  have hln : ks.length ≤ 1048576 := by omega
  clear hk hI hl
  go_enter Try.func41, Try.ntmps41
  go_wp2_with (at_make; refine wpList_make_full _ rfl _ _ 43 rfl 0 45 i0 (.agg #[.int .i64 0, .string ByteArray.empty, .int .i64 0, .int .i64 0, .slice none 0 0]) 5 Try.underlying43 hi hz0 hz1 _ _ _ _ ks.length rfl rfl (by omega) (by omega) (by rw [hz2]; omega) (by unfold maxLen; omega) (Nat.zero_le _) ?_)
  intro w1 hown hgr
  have HB1 := Lib.hid (show Below w.heap.size w w1 from (Below.refl _ _).grown hgr (Nat.le_refl _) (fun k hk => by cases hk))
  have HST : Hid (FillAt w w.heap.size ks 0 w1) := Lib.hid ⟨_, [], hown, by rw [List.take_zero, OwnR], (fun b hb => by cases hb), HB1.out⟩
  clear hown hgr
  go_wp2
  go_loopw [4] (fun i wr => ∃ k : Nat, i = .int .i64 k ∧ k ≤ ks.length ∧ FillAt w w.heap.size ks k wr) (fun i _ => ks.length - (intOf i).toNat)
  case atStart => exact ⟨0, rfl, Nat.zero_le _, HST.out⟩
  case round =>
    clear HST
    obtain ⟨k, rfl, hk, hat⟩ := hrel
    have HAT := Lib.hid hat
    have HK2 := Lib.hid (HK.out.later hat.choose_spec.choose_spec.2.2.2)
    clear hat
    by_cases hlt : k < ks.length
    · obtain ⟨g, o, rfl, ht⟩ := kids_at HK2.out k hlt
      obtain ⟨⟨q0, q1, q2, q3⟩, v, q4, hkv⟩ := tree_cells ht
      have hbk : ks[k].bulk ≤ 1048576 := by have h1 := Ex.bulks_mem (List.getElem_mem hlt); have h2 := HL.out; omega
      have HC := Lib.hid (HI.out ks[k] (List.getElem_mem hlt) hbk wr v hkv)
      unfold RetE at HC
      have HN := Lib.hid (fun w1 v F h1 h2 h3 => HAT.out.next (w1 := w1) (v := v) (F := F) (Nat.le_refl _) hlt h1 h2 h3)
      have HF := Lib.hid (fun w1 j hj hb => HAT.out.later (w1 := w1) j hj hb)
      have hlt5 : k * 5 + 4 < ks.length * 5 := by omega
      have k0 : (0 : Int) ≤ k := by omega
      have k1 : (k : Int) < ks.length := by omega
      clear hbk ht hkv HAT
      generalize ks[k] = x at q0 q1 q2 q3 HC HN
      go_wp2_with (go_at_call 14; refine HC.out.mono ?_; rintro e w2 ⟨v2, F2, rfl, ho2, hf2, hb2⟩; obtain ⟨z2, d2, rfl⟩ := kids_len (OwnK.kids _ ho2); have HN2 := Lib.hid (HN.out w2 _ F2 hb2 ho2 hf2); obtain ⟨⟨u0, c0⟩, f0⟩ := HF.out w2 (k * 5) (by omega) hb2; obtain ⟨⟨u1, c1⟩, f1⟩ := HF.out w2 (k * 5 + 1) (by omega) hb2; obtain ⟨⟨u2, c2⟩, f2⟩ := HF.out w2 (k * 5 + 2) (by omega) hb2; obtain ⟨⟨u3, c3⟩, f3⟩ := HF.out w2 (k * 5 + 3) (by omega) hb2; obtain ⟨⟨u4, c4⟩, f4⟩ := HF.out w2 (k * 5 + 4) (by omega) hb2; clear hb2 ho2 hf2)
      go_roundw
      case rel => exact ⟨k + 1, by go_num, by omega, HN2.out⟩
      case measure => first | (simp [intOf]; done) | (simp [intOf]; omega)
    · obtain rfl : k = ks.length := by omega
      have HD := Lib.hid (HAT.out.done (Nat.le_refl _))
      go_wp2
      go_ret
      exact HD.out
set_option maxHeartbeats 1600000 in
theorem to_tree : ∀ (N : Nat) (t : Ex.T), t.count ≤ N → ToT t := by
  intro N
  induction N with
  | zero => intro t h; have := Ex.count_pos t; omega
  | succ N ih =>
    intro t hN hb w v hk
    have HB := bulk_eq t
    have HL := Lib.hid (fun W hW => to_list t.kids (fun x hx => ih x (by have := kids_count hx; omega)) (by omega) W v (hk.later hW))
    unfold RetK at HL
    unfold RetE
    obtain ⟨a, c, rfl⟩ := kids_len hk
    clear ih hN hb HB hk
    generalize hW1 : w.alloc (.cells #[.int .i64 t.kind, .string t.text, .int .i64 t.num, .int .i64 t.line, .slice a t.kids.length c] 39) = W1 at *
    have B1 : Below w.heap.size w W1 := by rw [← hW1]; exact bl1 _ _
    have Z1 : W1.heap.size = w.heap.size + 1 := by rw [← hW1]; simp
    have B2 := Below.alloc B1 B1.size (.cells #[.int .i64 0, .string ⟨#[]⟩, .int .i64 0, .int .i64 0, .slice none 0 0] 45)
    have B3 := Below.alloc B2 B2.size (.cells #[.int .i64 t.kind, .string t.text, .int .i64 t.num, .int .i64 t.line, .slice none 0 0] 45)
    have HL3 := Lib.hid (HL.out _ B3)
    have F2 := Lib.hid ((FreeE.new W1 0 ⟨#[]⟩ 0 0 (.slice none 0 0) 45).later (bl1 _ (.cells #[.int .i64 t.kind, .string t.text, .int .i64 t.num, .int .i64 t.line, .slice none 0 0] 45)))
    have F3 := Lib.hid (FreeE.new (W1.alloc (.cells #[.int .i64 0, .string ⟨#[]⟩, .int .i64 0, .int .i64 0, .slice none 0 0] 45)) t.kind t.text t.num t.line (.slice none 0 0) 45)
    have Z2 : (W1.alloc (.cells #[.int .i64 0, .string ⟨#[]⟩, .int .i64 0, .int .i64 0, .slice none 0 0] 45)).heap.size = w.heap.size + 2 := by simp; omega
    have Z3 : ((W1.alloc (.cells #[.int .i64 0, .string ⟨#[]⟩, .int .i64 0, .int .i64 0, .slice none 0 0] 45)).alloc (.cells #[.int .i64 t.kind, .string t.text, .int .i64 t.num, .int .i64 t.line, .slice none 0 0] 45)).heap.size = w.heap.size + 3 := by simp; omega
    rw [Z1] at F2
    rw [Z2] at F3
    have HZ3 := Lib.hid Z3
    have HB3 := Lib.hid B3
    subst hW1
    clear B1 Z1 B2 B3 Z2 Z3 HL
    go_enter Try.func14, Try.ntmps14
    go_wp2_with (go_at_call 41; refine HL3.out.mono ?_; rintro e w1 ⟨v1, F, rfl, ho, hf, hb⟩; obtain ⟨z2, d2, rfl⟩ := kids_len (OwnK.kids _ ho); obtain ⟨⟨r0, r1, r2, r3, r4⟩, s0, s1, s2, s3, s4⟩ := F2.out.later hb; obtain ⟨⟨t0, t1, t2, t3, t4⟩, u0, u1, u2, u3, u4⟩ := F3.out.later hb; have HO := Lib.hid ho; have HF := Lib.hid hf; have HB := Lib.hid hb; clear ho hf hb)
    have hne : ∀ b ∈ F, b ≠ w.heap.size + 1 ∧ b ≠ w.heap.size + 1 + 1 := fun b hb => by have h1 := (HF.out b hb).1; rw [HZ3.out] at h1; omega
    have hbw : Below w.heap.size w w1 := HB3.out.trans (HB.out.mono HB3.out.size)
    refine bodyPost_ret (v := exV t (.slice z2 t.kids.length d2)) (by simp [results, Try.results14, go_sem, r0, r1, r2, r3, r4]) rfl ⟨_, F, rfl, OwnK.keep _ (fun b hb => ?_) HO.out, fun b hb => ?_, ?_⟩
    · obtain ⟨h1, h2⟩ := hne b hb
      rw [Below.heap_setCell _ _ _ _ h1, Below.heap_setCell _ _ _ _ h1, Below.heap_setCell _ _ _ _ h1, Below.heap_setCell _ _ _ _ h1, Below.heap_setCell _ _ _ _ h1, Below.heap_setCell _ _ _ _ h2]
    · have h1 := HF.out b hb
      rw [HZ3.out] at h1
      have h2 := h1.2
      refine ⟨by omega, ?_⟩
      simpa [World.setCell] using h2
    · exact ((((((hbw.setCell (p := ⟨w.heap.size + 1 + 1, 4, none⟩) (by show _ ≤ _ + 1 + 1; omega) _).setCell (p := ⟨w.heap.size + 1, 0, none⟩) (Nat.le_succ _) _).setCell (p := ⟨w.heap.size + 1, 1, none⟩) (Nat.le_succ _) _).setCell (p := ⟨w.heap.size + 1, 2, none⟩) (Nat.le_succ _) _).setCell (p := ⟨w.heap.size + 1, 3, none⟩) (Nat.le_succ _) _).setCell (p := ⟨w.heap.size + 1, 4, none⟩) (Nat.le_succ _) _)
end Go.Proofs.Ytiiogpafgoeblaa
/- The laws' comparison of a tree with itself. No conditions. -/
namespace Go.Proofs.Ytiiogpafgoeblaa
open Go.RowKit
set_option linter.unusedVariables false

def EqT (t : Ex.T) : Prop := t.bulk ≤ 1048576 → ∀ (w : World) (v1 v2 : Value), Kids w v1 t.kids → Kids w v2 t.kids → Calls Try.prog 16 #[exV t v1, exV t v2] w fun e w' => e = .returned (.bool true) ∧ Below w.heap.size w w'
set_option maxRecDepth 100000 in
set_option maxHeartbeats 1600000 in
theorem eq_list (ks : List Ex.T) (hI : ∀ x ∈ ks, EqT x) (hl : ks.length + Ex.bulks ks ≤ 1048576) (w : World) (v1 v2 : Value) (h1 : Kids w v1 ks) (h2 : Kids w v2 ks) : Calls Try.prog 45 #[v1, v2] w fun e w' => e = .returned (.bool true) ∧ Below w.heap.size w w' := by
  obtain ⟨a1, c1, rfl⟩ := kids_len h1
  obtain ⟨a2, c2, rfl⟩ := kids_len h2
  have H1 := Lib.hid h1
  have H2 := Lib.hid h2
  have HI := Lib.hid hI
  have HL := Lib.hid hl
  have hln : ks.length ≤ 1048576 := by omega
  clear h1 h2 hI hl
  go_enter Try.func45, Try.ntmps45
  go_wp2
  go_loopw [5] (fun i wr => ∃ k : Nat, i = .int .i64 k ∧ k ≤ ks.length ∧ Below w.heap.size w wr) (fun i _ => ks.length - (intOf i).toNat)
  case atStart => exact ⟨0, rfl, Nat.zero_le _, Below.refl _ _⟩
  case round =>
    obtain ⟨k, rfl, hk, hb⟩ := hrel
    have HB := Lib.hid hb
    have HK1 := Lib.hid (H1.out.later hb)
    have HK2 := Lib.hid (H2.out.later hb)
    clear hb
    by_cases hlt : k < ks.length
    · obtain ⟨g1, o1, rfl, ht1⟩ := kids_at HK1.out k hlt
      obtain ⟨g2, o2, rfl, ht2⟩ := kids_at HK2.out k hlt
      obtain ⟨⟨q0, q1, q2, q3⟩, u1, q4, hk1⟩ := tree_cells ht1
      obtain ⟨⟨p0, p1, p2, p3⟩, u2, p4, hk2⟩ := tree_cells ht2
      have hbk : ks[k].bulk ≤ 1048576 := by have h1 := Ex.bulks_mem (List.getElem_mem hlt); have h2 := HL.out; omega
      have HC := Lib.hid (fun W hW => HI.out ks[k] (List.getElem_mem hlt) hbk W u1 u2 (hk1.later hW) (hk2.later hW))
      have k0 : (0 : Int) ≤ k := by omega
      have k1 : (k : Int) < ks.length := by omega
      clear ht1 ht2 hk1 hk2 hbk
      generalize ks[k] = x at q0 q1 q2 q3 p0 p1 p2 p3 HC
      go_wp2_with fail
      go_still_tail 8, (by kernel_rfl)
      change wpList _ _ _ _ _ wr.drew
      have HC2 := Lib.hid (HC.out wr.drew ((Below.refl _ _).drew))
      have HB2 := Lib.hid HB.out.drew
      clear q0 q1 q2 q3 q4 p0 p1 p2 p3 p4 HK1 HK2 HB HC
      generalize wr.drew = w5 at HC2 HB2 ⊢
      go_wp2_with (go_at_call 16; refine HC2.out.mono ?_; rintro e w6 ⟨rfl, hb6⟩; have HB6 := Lib.hid (below_then HB2.out hb6); clear hb6)
      go_roundw
      case rel => exact ⟨k + 1, by go_num, by omega, HB6.out⟩
      case measure => first | (simp [intOf]; done) | (simp [intOf]; omega)
    · obtain rfl : k = ks.length := by omega
      go_wp2
      go_ret
      exact ⟨rfl, HB.out⟩
set_option maxHeartbeats 1600000 in
theorem eq_tree : ∀ (N : Nat) (t : Ex.T), t.count ≤ N → EqT t := by
  intro N
  induction N with
  | zero => intro t h; have := Ex.count_pos t; omega
  | succ N ih =>
    intro t hN hbt w v1 v2 h1 h2
    have HBE := bulk_eq t
    have HL := Lib.hid (fun W hW => eq_list t.kids (fun x hx => ih x (by have := kids_count hx; omega)) (by omega) W v1 v2 (h1.later hW) (h2.later hW))
    obtain ⟨a1, c1, rfl⟩ := kids_len h1
    obtain ⟨a2, c2, rfl⟩ := kids_len h2
    have HL2 := Lib.hid (HL.out _ (Below.alloc (bl1 w (.cells #[.int .i64 t.kind, .string t.text, .int .i64 t.num, .int .i64 t.line, .slice a1 t.kids.length c1] 45)) (bl1 w (.cells #[.int .i64 t.kind, .string t.text, .int .i64 t.num, .int .i64 t.line, .slice a1 t.kids.length c1] 45)).size (.cells #[.int .i64 t.kind, .string t.text, .int .i64 t.num, .int .i64 t.line, .slice a2 t.kids.length c2] 45)))
    have HB := Lib.hid (Below.alloc (bl1 w (.cells #[.int .i64 t.kind, .string t.text, .int .i64 t.num, .int .i64 t.line, .slice a1 t.kids.length c1] 45)) (bl1 w (.cells #[.int .i64 t.kind, .string t.text, .int .i64 t.num, .int .i64 t.line, .slice a1 t.kids.length c1] 45)).size (.cells #[.int .i64 t.kind, .string t.text, .int .i64 t.num, .int .i64 t.line, .slice a2 t.kids.length c2] 45))
    clear ih hN h1 h2 HL hbt HBE
    go_enter Try.func16, Try.ntmps16
    go_wp2_with (go_at_call 45; refine HL2.out.mono ?_; rintro e w1 ⟨rfl, hb1⟩; have HB1 := Lib.hid (below_then HB.out hb1); clear hb1)
    go_ret
    exact ⟨rfl, HB1.out⟩
end Go.Proofs.Ytiiogpafgoeblaa
/- IsValidExpr of the program and of the reference model say the same; the walk of its law. No conditions. -/
namespace Go.Proofs.Ytiiogpafgoeblaa
open Go.RowKit
set_option linter.unusedVariables false

theorem wrap64_in (x : Int) (h : -9223372036854775808 ≤ x ∧ x ≤ 9223372036854775807) : wrap64 x = x := by unfold wrap64; omega
theorem head_20 (n l lo hi : Int) (b : Bool) (z d : Nat) (hz : z ≤ 1048576) (hlo : lo = 1) :
    ((decide ((d : Int) ≤ 40) && decide (0 ≤ l) && decide (lo ≤ z) && decide ((z : Int) ≤ hi) && b) && (decide (0 ≤ n) && decide (n ≤ 1) && decide (((z : Int) - 1 - n).tmod 2 = 0) && decide (1 + n ≤ z)))
      = (decide (d ≤ 40) && (decide (0 ≤ l) && ((!((wrap64 ((z : Int) - 1 - n)).tmod 2 != 0)) && (decide (lo ≤ z) && decide ((z : Int) ≤ hi))) && b && (n == 0 || n == 1))) := by
  by_cases hn : n = 0 ∨ n = 1
  · rw [wrap64_in _ (by omega)]
    have hm : ((z : Int) - 1 - n).tmod 2 = 0 → 1 ≤ z → 1 + n ≤ z := by
      intro h h1
      rcases hn with rfl | rfl
      · omega
      · by_cases hz1 : z = 1
        · subst hz1; revert h; decide
        · omega
    by_cases hr : ((z : Int) - 1 - n).tmod 2 = 0
    · have hm2 := hm hr
      rw [decide_eq_true hr, hr]
      subst hlo
      have e1 : (n == 0 || n == 1) = true := by rcases hn with rfl | rfl <;> rfl
      have e2 : decide (0 ≤ n) = true := decide_eq_true (by omega)
      have e3 : decide (n ≤ 1) = true := decide_eq_true (by omega)
      rw [e1, e2, e3]
      by_cases hz1 : 1 ≤ z
      · have e4 : decide (1 + n ≤ z) = true := decide_eq_true (hm2 hz1)
        rw [e4]
        rw [Bool.eq_iff_iff]
        simp
        cases b <;> simp <;> omega
      · have e5 : decide ((1 : Int) ≤ z) = false := decide_eq_false (by omega)
        rw [e5]; simp
    · rw [decide_eq_false hr]
      have e0 : (((z : Int) - 1 - n).tmod 2 != 0) = true := bne_iff_ne.2 hr
      rw [e0]; simp
  · have e1 : (n == 0 || n == 1) = false := by
      rw [Bool.or_eq_false_iff]; exact ⟨beq_eq_false_iff_ne.2 fun h => hn (.inl h), beq_eq_false_iff_ne.2 fun h => hn (.inr h)⟩
    rw [e1]
    by_cases h0 : 0 ≤ n
    · have e3 : decide (n ≤ 1) = false := decide_eq_false (by omega)
      rw [e3]; simp
    · rw [decide_eq_false h0]; simp
theorem head_ok (k n l : Int) (s : ByteArray) (z d : Nat) (hz : z ≤ 1048576) : Ex.headB k s n l z d = (decide (d ≤ 40) && (decide (0 ≤ l) && Ex.kidsB k n z && Ex.words k s && Ex.numberB k n)) := by
  unfold Ex.headB Ex.kidsB Ex.numberB
  generalize Ex.words k s = b
  by_cases hk : 1 ≤ k ∧ k ≤ 29
  · rw [show Ex.rangeOf k = Ex.kidsOf k by unfold Ex.rangeOf; rw [if_pos hk]]
    rw [decide_eq_true hk.1, decide_eq_true hk.2, Bool.and_true, Bool.and_true]
    by_cases k20 : k = 20
    · subst k20
      rw [if_neg (by decide), if_pos rfl, if_pos rfl, if_neg (by decide), if_pos rfl]
      exact head_20 n l _ _ b z d hz (by decide)
    · rw [if_neg k20, if_neg k20]
      by_cases k1 : k = 1
      · rw [if_pos k1, if_pos k1]
        rw [Bool.eq_iff_iff]
        simp
        cases b <;> simp <;> omega
      · rw [if_neg k1, if_neg k1, if_neg k20]
        rw [Bool.eq_iff_iff]
        simp
        cases b <;> simp <;> omega
  · rw [show Ex.rangeOf k = (0, -1) by unfold Ex.rangeOf; rw [if_neg hk]]
    have e : decide ((z : Int) ≤ -1) = false := decide_eq_false (by omega)
    rw [e]
    have e2 : (decide (1 ≤ k) && decide (k ≤ 29)) = false := by
      rw [← Bool.decide_and]; exact decide_eq_false hk
    rw [Bool.and_assoc (decide ((d : Int) ≤ 40)), e2]
    simp
mutual
theorem valid_pre : ∀ (t : Ex.T) (d : Nat), t.bulk ≤ 1048576 → t.valid d = (t.pre d).all okP
  | .node k s n l ks, d, hb => by
    rw [Ex.T.bulk] at hb
    rw [Ex.T.valid, Ex.T.pre, List.all_cons, head_ok _ _ _ _ _ _ (by omega)]
    have h := valids_pres ks (d + 1) (by omega)
    rw [show ((d + 1 : Nat) : Int) = (d : Int) + 1 by omega] at h
    rw [h]; rfl
theorem valids_pres : ∀ (l : List Ex.T) (d : Nat), Ex.bulks l ≤ 1048576 → Ex.valids l d = (Ex.pres l d).all okP
  | [], d, hb => by rw [Ex.valids, Ex.pres]; rfl
  | x :: r, d, hb => by
    rw [Ex.bulks] at hb
    rw [Ex.valids, Ex.pres, List.all_append, valid_pre x d (by omega), valids_pres r d (by omega)]
end
theorem impl_isvalid (t : Ex.T) (hb : t.bulk ≤ 1048576) (w : World) (v : Value) (hk : Kids w v t.kids) : Calls Try.prog 42 #[exV t v] w fun e w' => e = .returned (.bool (decide (t.count ≤ 600) && t.valid 1)) ∧ Below w.heap.size w w' := by
  have h := (callsIn_wide (n := 6)).1 (valid_in t hb v w hk)
  rw [← valid_pre t 1 hb] at h
  exact h
end Go.Proofs.Ytiiogpafgoeblaa
/- strings.Clone: the string itself. -/
namespace Go.Proofs.Ytiiogpafgoeblaa
open Go.RowKit
set_option linter.unusedVariables false

theorem clone8 (s : ByteArray) (w : World) (h : (s.size : Int) ≤ 1048576) :
    Calls Try.prog 27 #[.string s] w fun e w' => e = .returned (.string s) ∧ Below w.heap.size w w' := by
  have HC := Lib.hid (fun W => Try.stringslite_Clone s W (by omega))
  go_enter Try.func27, Try.ntmps27
  go_wp2_with (go_at_call 51; refine (HC.out _).mono ?_; rintro e w1 ⟨rfl, b1⟩)
  go_ret
  exact ⟨rfl, b1⟩
end Go.Proofs.Ytiiogpafgoeblaa
