/- The laws' copy of a tree. No conditions. -/
import Derived.Test.YtpncmahpcccmlaaDoorG5
import Derived.Test.YtpncmahpcccmlaaDoorH4
namespace Go.Proofs.YtpncmahpcccmlaaDoor.Cr
open Go.RowKit
set_option linter.unusedVariables false

theorem info_core : (Tryd.prog.info? 57).map (fun i => (i.zero, i.size, i.bytes)) = some (some (.agg #[.int .i64 0, .int .i64 0, .int .i64 0, .int .i64 0, .string ByteArray.empty, .slice none 0 0]), 6, 72) := by kernel_rfl
def ToT (t : Co.T) : Prop := t.bulk ≤ 1048576 → ∀ (w : World) (v : Value), Kids w v t.kids → Calls Tryd.prog 25 #[exV t v] w (RetE w t)
theorem foot_if {B : Nat} {w : World} {g : Nat} {G : List Nat} {l : List Co.T} (hB : B ≤ g) (h : ∀ b ∈ G, g < b ∧ b < w.heap.size) (hg : g < w.heap.size) : Foot B w (if l = [] then [] else g :: G) := by
  intro b hb
  split at hb
  · cases hb
  · rcases List.mem_cons.1 hb with rfl | hb
    · exact ⟨hB, hg⟩
    · have := h b hb; exact ⟨by omega, this.2⟩
theorem FillAt.done {w wr : World} {g : Nat} {ks : List Co.T} (h : FillAt w g ks ks.length wr) (hg : w.heap.size ≤ g) : RetK w ks (.returned (.slice (some ⟨g, 0, none⟩) ks.length ks.length)) wr := by
  obtain ⟨xs, G, hr, hR, hG, hB⟩ := h
  rw [List.take_length] at hR
  exact ⟨_, _, rfl, ownK_of hr hR (fun h => by have := (hG g h).1; omega), foot_if hg hG hr.lt, hB⟩
theorem FillAt.later {w wr w1 : World} {g k : Nat} {ks : List Co.T} (h : FillAt w g ks k wr) (j : Nat) (hj : j < ks.length * 6) (hb : Below wr.heap.size wr w1) : (∃ u, w1.cell? ⟨g, j, none⟩ = some u) ∧ w1.frozen? ⟨g, j, none⟩ = false := by
  obtain ⟨xs, G, hr, _⟩ := h
  exact (hr.keep (hb.block g hr.lt)).cell j hj

set_option maxHeartbeats 1600000 in
theorem to_list (ks : List Co.T) (hI : ∀ x ∈ ks, ToT x) (hl : ks.length + Co.bulks ks ≤ 1048576) (w : World) (v : Value) (hk : Kids w v ks) : Calls Tryd.prog 65 #[v] w (RetK w ks) := by
  obtain ⟨i0, hi, hz0, hz1, hz2⟩ := info_parts info_core
  obtain ⟨a, c, rfl⟩ := kids_len hk
  have HK := Lib.hid hk
  have HI := Lib.hid hI
  have HL := Lib.hid hl
  have hln : ks.length ≤ 1048576 := by omega
  clear hk hI hl
  go_enter Tryd.func65, Tryd.ntmps65
  go_wp2_with (at_make; refine wpList_make_full _ rfl _ _ 55 rfl 0 57 i0 (.agg #[.int .i64 0, .int .i64 0, .int .i64 0, .int .i64 0, .string ByteArray.empty, .slice none 0 0]) 6 Tryd.underlying55 hi hz0 hz1 _ _ _ _ ks.length rfl rfl (by omega) (by omega) (by rw [hz2]; omega) (by unfold maxLen; omega) (Nat.zero_le _) ?_)
  intro w1 hown hgr
  have HB1 := Lib.hid (show Below w.heap.size w w1 from (Below.refl _ _).grown hgr (Nat.le_refl _) (fun k hk => by cases hk))
  have HST : Hid (FillAt w w.heap.size ks 0 w1) := Lib.hid ⟨_, [], hown, by rw [List.take_zero, OwnR], (fun b hb => by cases hb), HB1.out⟩
  clear hown hgr
  go_wp2
  go_loopw [4] (fun i wr => ∃ k : Nat, i = .int .i64 k ∧ k ≤ ks.length ∧ FillAt w w.heap.size ks k wr) (fun i _ => ks.length - (intOf i).toNat)
  case atStart => exact ⟨0, rfl, Nat.zero_le _, HST.out⟩
  case round =>
    clear HST
    obtain ⟨k, rfl, hk, hat⟩ := hrel
    have HAT := Lib.hid hat
    have HK2 := Lib.hid (HK.out.later hat.choose_spec.choose_spec.2.2.2)
    clear hat
    by_cases hlt : k < ks.length
    · obtain ⟨g, o, rfl, ht⟩ := kids_at HK2.out k hlt
      obtain ⟨⟨q0, q1, q2, q3, q4⟩, v, q5, hkv⟩ := tree_cells ht
      have hbk : ks[k].bulk ≤ 1048576 := by have h1 := Co.bulks_mem (List.getElem_mem hlt); have h2 := HL.out; omega
      have HC := Lib.hid (HI.out ks[k] (List.getElem_mem hlt) hbk wr v hkv)
      unfold RetE at HC
      have HN := Lib.hid (fun w1 v F h1 h2 h3 => HAT.out.next (w1 := w1) (v := v) (F := F) (Nat.le_refl _) hlt h1 h2 h3)
      have HF := Lib.hid (fun w1 j hj hb => HAT.out.later (w1 := w1) j hj hb)
      have hlt5 : k * 6 + 5 < ks.length * 6 := by omega
      have k0 : (0 : Int) ≤ k := by omega
      have k1 : (k : Int) < ks.length := by omega
      clear hbk ht hkv HAT
      generalize ks[k] = x at q0 q1 q2 q3 q4 HC HN
      go_wp2_with (go_at_call 25; refine HC.out.mono ?_; rintro e w2 ⟨v2, F2, rfl, ho2, hf2, hb2⟩; obtain ⟨z2, d2, rfl⟩ := kids_len (OwnK.kids _ ho2); have HN2 := Lib.hid (HN.out w2 _ F2 hb2 ho2 hf2); obtain ⟨⟨u0, c0⟩, f0⟩ := HF.out w2 (k * 6) (by omega) hb2; obtain ⟨⟨u1, c1⟩, f1⟩ := HF.out w2 (k * 6 + 1) (by omega) hb2; obtain ⟨⟨u2, c2⟩, f2⟩ := HF.out w2 (k * 6 + 2) (by omega) hb2; obtain ⟨⟨u3, c3⟩, f3⟩ := HF.out w2 (k * 6 + 3) (by omega) hb2; obtain ⟨⟨u4, c4⟩, f4⟩ := HF.out w2 (k * 6 + 4) (by omega) hb2; obtain ⟨⟨u5, c5⟩, f5⟩ := HF.out w2 (k * 6 + 5) (by omega) hb2; clear hb2 ho2 hf2)
      go_roundw
      case rel => exact ⟨k + 1, by go_num, by omega, HN2.out⟩
      case measure => first | (simp [intOf]; done) | (simp [intOf]; omega)
    · obtain rfl : k = ks.length := by omega
      have HD := Lib.hid (HAT.out.done (Nat.le_refl _))
      go_wp2
      go_ret
      exact HD.out
set_option maxHeartbeats 1600000 in
theorem to_tree : ∀ (N : Nat) (t : Co.T), t.count ≤ N → ToT t := by
  intro N
  induction N with
  | zero => intro t h; have := Co.count_pos t; omega
  | succ N ih =>
    intro t hN hb w v hk
    have HB := bulk_eq t
    have HL := Lib.hid (fun W hW => to_list t.kids (fun x hx => ih x (by have := kids_count hx; omega)) (by omega) W v (hk.later hW))
    unfold RetK at HL
    unfold RetE
    obtain ⟨a, c, rfl⟩ := kids_len hk
    clear ih hN hb HB hk
    generalize hW1 : w.alloc (.cells #[.int .i64 t.kind, .int .i64 t.op, .int .i64 t.num, .int .i64 t.line, .string t.text, .slice a t.kids.length c] 52) = W1 at *
    have B1 : Below w.heap.size w W1 := by rw [← hW1]; exact bl1 _ _
    have Z1 : W1.heap.size = w.heap.size + 1 := by rw [← hW1]; simp
    have B2 := Below.alloc B1 B1.size (.cells #[.int .i64 0, .int .i64 0, .int .i64 0, .int .i64 0, .string ⟨#[]⟩, .slice none 0 0] 57)
    have B3 := Below.alloc B2 B2.size (.cells #[.int .i64 t.kind, .int .i64 t.op, .int .i64 t.num, .int .i64 t.line, .string t.text, .slice none 0 0] 57)
    have HL3 := Lib.hid (HL.out _ B3)
    have F2 := Lib.hid ((FreeE.new W1 0 0 0 0 ⟨#[]⟩ (.slice none 0 0) 57).later (bl1 _ (.cells #[.int .i64 t.kind, .int .i64 t.op, .int .i64 t.num, .int .i64 t.line, .string t.text, .slice none 0 0] 57)))
    have F3 := Lib.hid (FreeE.new (W1.alloc (.cells #[.int .i64 0, .int .i64 0, .int .i64 0, .int .i64 0, .string ⟨#[]⟩, .slice none 0 0] 57)) t.kind t.op t.num t.line t.text (.slice none 0 0) 57)
    have Z2 : (W1.alloc (.cells #[.int .i64 0, .int .i64 0, .int .i64 0, .int .i64 0, .string ⟨#[]⟩, .slice none 0 0] 57)).heap.size = w.heap.size + 2 := by simp; omega
    have Z3 : ((W1.alloc (.cells #[.int .i64 0, .int .i64 0, .int .i64 0, .int .i64 0, .string ⟨#[]⟩, .slice none 0 0] 57)).alloc (.cells #[.int .i64 t.kind, .int .i64 t.op, .int .i64 t.num, .int .i64 t.line, .string t.text, .slice none 0 0] 57)).heap.size = w.heap.size + 3 := by simp; omega
    rw [Z1] at F2
    rw [Z2] at F3
    have HZ3 := Lib.hid Z3
    have HB3 := Lib.hid B3
    subst hW1
    clear B1 Z1 B2 B3 Z2 Z3 HL
    go_enter Tryd.func25, Tryd.ntmps25
    go_wp2_with (go_at_call 65; refine HL3.out.mono ?_; rintro e w1 ⟨v1, F, rfl, ho, hf, hb⟩; obtain ⟨z2, d2, rfl⟩ := kids_len (OwnK.kids _ ho); obtain ⟨⟨r0, r1, r2, r3, r4, r5⟩, s0, s1, s2, s3, s4, s5⟩ := F2.out.later hb; obtain ⟨⟨t0, t1, t2, t3, t4, t5⟩, u0, u1, u2, u3, u4, u5⟩ := F3.out.later hb; have HO := Lib.hid ho; have HF := Lib.hid hf; have HB := Lib.hid hb; clear ho hf hb)
    have hne : ∀ b ∈ F, b ≠ w.heap.size + 1 ∧ b ≠ w.heap.size + 1 + 1 := fun b hb => by have h1 := (HF.out b hb).1; rw [HZ3.out] at h1; omega
    have hbw : Below w.heap.size w w1 := HB3.out.trans (HB.out.mono HB3.out.size)
    refine bodyPost_ret (v := exV t (.slice z2 t.kids.length d2)) (by simp [results, Tryd.results25, go_sem, r0, r1, r2, r3, r4, r5]) rfl ⟨_, F, rfl, OwnK.keep _ (fun b hb => ?_) HO.out, fun b hb => ?_, ?_⟩
    · obtain ⟨h1, h2⟩ := hne b hb
      rw [Below.heap_setCell _ _ _ _ h1, Below.heap_setCell _ _ _ _ h1, Below.heap_setCell _ _ _ _ h1, Below.heap_setCell _ _ _ _ h1, Below.heap_setCell _ _ _ _ h1, Below.heap_setCell _ _ _ _ h1, Below.heap_setCell _ _ _ _ h2]
    · have h1 := HF.out b hb
      rw [HZ3.out] at h1
      have h2 := h1.2
      refine ⟨by omega, ?_⟩
      simpa [World.setCell] using h2
    · exact (((((((hbw.setCell (p := ⟨w.heap.size + 1 + 1, 5, none⟩) (by show _ ≤ _ + 1 + 1; omega) _).setCell (p := ⟨w.heap.size + 1, 0, none⟩) (Nat.le_succ _) _).setCell (p := ⟨w.heap.size + 1, 1, none⟩) (Nat.le_succ _) _).setCell (p := ⟨w.heap.size + 1, 2, none⟩) (Nat.le_succ _) _).setCell (p := ⟨w.heap.size + 1, 3, none⟩) (Nat.le_succ _) _).setCell (p := ⟨w.heap.size + 1, 4, none⟩) (Nat.le_succ _) _).setCell (p := ⟨w.heap.size + 1, 5, none⟩) (Nat.le_succ _) _)
end Go.Proofs.YtpncmahpcccmlaaDoor.Cr
