/- The laws' comparison of a tree with itself. No conditions. -/
import Derived.Test.YtpncmahpcccmlaaDoorH5
import Derived.StillTailTactics
import Derived.IntWalk
namespace Go.Proofs.YtpncmahpcccmlaaDoor.Cr
open Go.RowKit
set_option linter.unusedVariables false

def EqT (t : Co.T) : Prop := t.bulk ≤ 1048576 → ∀ (w : World) (v1 v2 : Value), Kids w v1 t.kids → Kids w v2 t.kids → Calls Tryd.prog 27 #[exV t v1, exV t v2] w fun e w' => e = .returned (.bool true) ∧ Below w.heap.size w w'
set_option maxRecDepth 100000 in
set_option maxHeartbeats 1600000 in
theorem eq_list (ks : List Co.T) (hI : ∀ x ∈ ks, EqT x) (hl : ks.length + Co.bulks ks ≤ 1048576) (w : World) (v1 v2 : Value) (h1 : Kids w v1 ks) (h2 : Kids w v2 ks) : Calls Tryd.prog 68 #[v1, v2] w fun e w' => e = .returned (.bool true) ∧ Below w.heap.size w w' := by
  obtain ⟨a1, c1, rfl⟩ := kids_len h1
  obtain ⟨a2, c2, rfl⟩ := kids_len h2
  have H1 := Lib.hid h1
  have H2 := Lib.hid h2
  have HI := Lib.hid hI
  have HL := Lib.hid hl
  have hln : ks.length ≤ 1048576 := by omega
  clear h1 h2 hI hl
  go_enter Tryd.func68, Tryd.ntmps68
  go_wp2
  go_loopw [5] (fun i wr => ∃ k : Nat, i = .int .i64 k ∧ k ≤ ks.length ∧ Below w.heap.size w wr) (fun i _ => ks.length - (intOf i).toNat)
  case atStart => exact ⟨0, rfl, Nat.zero_le _, Below.refl _ _⟩
  case round =>
    obtain ⟨k, rfl, hk, hb⟩ := hrel
    have HB := Lib.hid hb
    have HK1 := Lib.hid (H1.out.later hb)
    have HK2 := Lib.hid (H2.out.later hb)
    clear hb
    by_cases hlt : k < ks.length
    · obtain ⟨g1, o1, rfl, ht1⟩ := kids_at HK1.out k hlt
      obtain ⟨g2, o2, rfl, ht2⟩ := kids_at HK2.out k hlt
      obtain ⟨⟨q0, q1, q2, q3, q4⟩, u1, q5, hk1⟩ := tree_cells ht1
      obtain ⟨⟨p0, p1, p2, p3, p4⟩, u2, p5, hk2⟩ := tree_cells ht2
      have hbk : ks[k].bulk ≤ 1048576 := by have h1 := Co.bulks_mem (List.getElem_mem hlt); have h2 := HL.out; omega
      have HC := Lib.hid (fun W hW => HI.out ks[k] (List.getElem_mem hlt) hbk W u1 u2 (hk1.later hW) (hk2.later hW))
      have k0 : (0 : Int) ≤ k := by omega
      have k1 : (k : Int) < ks.length := by omega
      clear ht1 ht2 hk1 hk2 hbk
      generalize ks[k] = x at q0 q1 q2 q3 q4 p0 p1 p2 p3 p4 HC
      go_wp2_with fail
      go_still_tail 8, (by kernel_rfl)
      change wpList _ _ _ _ _ wr.drew
      have HC2 := Lib.hid (HC.out wr.drew ((Below.refl _ _).drew))
      have HB2 := Lib.hid HB.out.drew
      clear q0 q1 q2 q3 q4 q5 p0 p1 p2 p3 p4 p5 HK1 HK2 HB HC
      generalize wr.drew = w5 at HC2 HB2 ⊢
      go_wp2_with (go_at_call 27; refine HC2.out.mono ?_; rintro e w6 ⟨rfl, hb6⟩; have HB6 := Lib.hid (below_then HB2.out hb6); clear hb6)
      go_roundw
      case rel => exact ⟨k + 1, by go_num, by omega, HB6.out⟩
      case measure => first | (simp [intOf]; done) | (simp [intOf]; omega)
    · obtain rfl : k = ks.length := by omega
      go_wp2
      go_ret
      exact ⟨rfl, HB.out⟩
set_option maxHeartbeats 1600000 in
theorem eq_tree : ∀ (N : Nat) (t : Co.T), t.count ≤ N → EqT t := by
  intro N
  induction N with
  | zero => intro t h; have := Co.count_pos t; omega
  | succ N ih =>
    intro t hN hbt w v1 v2 h1 h2
    have HBE := bulk_eq t
    have HL := Lib.hid (fun W hW => eq_list t.kids (fun x hx => ih x (by have := kids_count hx; omega)) (by omega) W v1 v2 (h1.later hW) (h2.later hW))
    obtain ⟨a1, c1, rfl⟩ := kids_len h1
    obtain ⟨a2, c2, rfl⟩ := kids_len h2
    have HL2 := Lib.hid (HL.out _ (Below.alloc (bl1 w (.cells #[.int .i64 t.kind, .int .i64 t.op, .int .i64 t.num, .int .i64 t.line, .string t.text, .slice a1 t.kids.length c1] 57)) (bl1 w (.cells #[.int .i64 t.kind, .int .i64 t.op, .int .i64 t.num, .int .i64 t.line, .string t.text, .slice a1 t.kids.length c1] 57)).size (.cells #[.int .i64 t.kind, .int .i64 t.op, .int .i64 t.num, .int .i64 t.line, .string t.text, .slice a2 t.kids.length c2] 57)))
    have HB := Lib.hid (Below.alloc (bl1 w (.cells #[.int .i64 t.kind, .int .i64 t.op, .int .i64 t.num, .int .i64 t.line, .string t.text, .slice a1 t.kids.length c1] 57)) (bl1 w (.cells #[.int .i64 t.kind, .int .i64 t.op, .int .i64 t.num, .int .i64 t.line, .string t.text, .slice a1 t.kids.length c1] 57)).size (.cells #[.int .i64 t.kind, .int .i64 t.op, .int .i64 t.num, .int .i64 t.line, .string t.text, .slice a2 t.kids.length c2] 57))
    clear ih hN h1 h2 HL hbt HBE
    go_enter Tryd.func27, Tryd.ntmps27
    go_wp2_with (go_at_call 68; refine HL2.out.mono ?_; rintro e w1 ⟨rfl, hb1⟩; have HB1 := Lib.hid (below_then HB.out hb1); clear hb1)
    go_ret
    exact ⟨rfl, HB1.out⟩
end Go.Proofs.YtpncmahpcccmlaaDoor.Cr
