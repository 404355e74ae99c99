/- Joined texts: N5, N6. No conditions besides those that each states. -/
import Derived.Deep.QuietTactic
import Derived.BigQuiet
import Derived.OneCell
import Derived.Test.YtkkopnhbafjnaaaZ33
/- EqualExpr of the program. No conditions. -/
namespace Go.Proofs.Ytkkopnhbafjnaaa
open Go.RowKit
set_option linter.unusedVariables false

def EqpT (a : Ex.T) : Prop := a.bulk ≤ 1048576 → ∀ (b : Ex.T), b.bulk ≤ 1048576 → ∀ (w : World) (g1 o1 g2 o2 : Nat), TreeAt w g1 o1 a → TreeAt w g2 o2 b → Calls Try.prog 36 #[.pointer (some ⟨g1, o1, none⟩), .pointer (some ⟨g2, o2, none⟩)] w fun e w' => e = .returned (.bool (a.eqb b)) ∧ Below w.heap.size w w'
abbrev EqSays (a b : Ex.T) (r : Bool) (w : World) (g1 o1 g2 o2 : Nat) : Prop := Calls Try.prog 36 #[.pointer (some ⟨g1, o1, none⟩), .pointer (some ⟨g2, o2, none⟩)] w fun e w' => e = .returned (.bool r) ∧ Below w.heap.size w w'
set_option maxRecDepth 100000 in
set_option maxHeartbeats 1600000 in
theorem equal_no0 (a b : Ex.T) (w : World) (g1 o1 g2 o2 : Nat) (h1 : TreeAt w g1 o1 a) (h2 : TreeAt w g2 o2 b) (hl1 : a.kids.length ≤ 1048576) (hl2 : b.kids.length ≤ 1048576) (u1 : (a.kind != b.kind) = true) : EqSays a b false w g1 o1 g2 o2 := by
  obtain ⟨⟨q0, q1, q2, q3⟩, v1, q4, hk1⟩ := tree_cells h1
  obtain ⟨⟨p0, p1, p2, p3⟩, v2, p4, hk2⟩ := tree_cells h2
  obtain ⟨a1, c1, rfl⟩ := kids_len hk1
  obtain ⟨a2, c2, rfl⟩ := kids_len hk2
  clear h1 h2 hk1 hk2
  go_enter Try.func36, Try.ntmps36
  go_wp2_with fail
  go_quiet (fail)
  go_wp2
  go_ret
  exact ⟨rfl, below_drewN (Below.refl _ _) _⟩
set_option maxRecDepth 100000 in
set_option maxHeartbeats 1600000 in
theorem equal_no1 (a b : Ex.T) (w : World) (g1 o1 g2 o2 : Nat) (h1 : TreeAt w g1 o1 a) (h2 : TreeAt w g2 o2 b) (hl1 : a.kids.length ≤ 1048576) (hl2 : b.kids.length ≤ 1048576) (u1 : a.kind = b.kind) (u2 : (a.text.toList == b.text.toList) = false) : EqSays a b false w g1 o1 g2 o2 := by
  obtain ⟨⟨q0, q1, q2, q3⟩, v1, q4, hk1⟩ := tree_cells h1
  obtain ⟨⟨p0, p1, p2, p3⟩, v2, p4, hk2⟩ := tree_cells h2
  obtain ⟨a1, c1, rfl⟩ := kids_len hk1
  obtain ⟨a2, c2, rfl⟩ := kids_len hk2
  clear h1 h2 hk1 hk2
  have u2b : ¬ a.text.toList = b.text.toList := beq_eq_false_iff_ne.1 u2
  have u1b : (a.kind != b.kind) = false := by rw [u1]; simp
  clear u1
  go_enter Try.func36, Try.ntmps36
  go_wp2_with fail
  go_quiet (fail)
  go_wp2
  go_ret
  exact ⟨rfl, below_drewN (Below.refl _ _) _⟩
set_option maxRecDepth 100000 in
set_option maxHeartbeats 1600000 in
theorem equal_no2 (a b : Ex.T) (w : World) (g1 o1 g2 o2 : Nat) (h1 : TreeAt w g1 o1 a) (h2 : TreeAt w g2 o2 b) (hl1 : a.kids.length ≤ 1048576) (hl2 : b.kids.length ≤ 1048576) (u1 : a.kind = b.kind) (u2 : a.text.toList = b.text.toList) (u3 : (a.num != b.num) = true) : EqSays a b false w g1 o1 g2 o2 := by
  obtain ⟨⟨q0, q1, q2, q3⟩, v1, q4, hk1⟩ := tree_cells h1
  obtain ⟨⟨p0, p1, p2, p3⟩, v2, p4, hk2⟩ := tree_cells h2
  obtain ⟨a1, c1, rfl⟩ := kids_len hk1
  obtain ⟨a2, c2, rfl⟩ := kids_len hk2
  clear h1 h2 hk1 hk2
  have u2b : (a.text.toList == b.text.toList) = true := beq_iff_eq.2 u2
  have u1b : (a.kind != b.kind) = false := by rw [u1]; simp
  clear u1
  go_enter Try.func36, Try.ntmps36
  go_wp2_with fail
  go_quiet (fail)
  go_wp2
  go_ret
  exact ⟨rfl, below_drewN (Below.refl _ _) _⟩
set_option maxRecDepth 100000 in
set_option maxHeartbeats 1600000 in
theorem equal_no3 (a b : Ex.T) (w : World) (g1 o1 g2 o2 : Nat) (h1 : TreeAt w g1 o1 a) (h2 : TreeAt w g2 o2 b) (hl1 : a.kids.length ≤ 1048576) (hl2 : b.kids.length ≤ 1048576) (u1 : a.kind = b.kind) (u2 : a.text.toList = b.text.toList) (u3 : a.num = b.num) (u4 : (a.line != b.line) = true) : EqSays a b false w g1 o1 g2 o2 := by
  obtain ⟨⟨q0, q1, q2, q3⟩, v1, q4, hk1⟩ := tree_cells h1
  obtain ⟨⟨p0, p1, p2, p3⟩, v2, p4, hk2⟩ := tree_cells h2
  obtain ⟨a1, c1, rfl⟩ := kids_len hk1
  obtain ⟨a2, c2, rfl⟩ := kids_len hk2
  clear h1 h2 hk1 hk2
  have u2b : (a.text.toList == b.text.toList) = true := beq_iff_eq.2 u2
  have u1b : (a.kind != b.kind) = false := by rw [u1]; simp
  have u3b : (a.num != b.num) = false := by rw [u3]; simp
  clear u1
  clear u3
  go_enter Try.func36, Try.ntmps36
  go_wp2_with fail
  go_quiet (fail)
  go_wp2
  go_ret
  exact ⟨rfl, below_drewN (Below.refl _ _) _⟩
set_option maxRecDepth 100000 in
set_option maxHeartbeats 1600000 in
theorem equal_no4 (a b : Ex.T) (w : World) (g1 o1 g2 o2 : Nat) (h1 : TreeAt w g1 o1 a) (h2 : TreeAt w g2 o2 b) (hl1 : a.kids.length ≤ 1048576) (hl2 : b.kids.length ≤ 1048576) (u1 : a.kind = b.kind) (u2 : a.text.toList = b.text.toList) (u3 : a.num = b.num) (u4 : a.line = b.line) (u5 : ((a.kids.length : Int) != b.kids.length) = true) : EqSays a b false w g1 o1 g2 o2 := by
  obtain ⟨⟨q0, q1, q2, q3⟩, v1, q4, hk1⟩ := tree_cells h1
  obtain ⟨⟨p0, p1, p2, p3⟩, v2, p4, hk2⟩ := tree_cells h2
  obtain ⟨a1, c1, rfl⟩ := kids_len hk1
  obtain ⟨a2, c2, rfl⟩ := kids_len hk2
  clear h1 h2 hk1 hk2
  have u2b : (a.text.toList == b.text.toList) = true := beq_iff_eq.2 u2
  have u1b : (a.kind != b.kind) = false := by rw [u1]; simp
  have u3b : (a.num != b.num) = false := by rw [u3]; simp
  have u4b : (a.line != b.line) = false := by rw [u4]; simp
  clear u1
  clear u3
  clear u4
  go_enter Try.func36, Try.ntmps36
  go_wp2_with fail
  go_quiet (fail)
  go_wp2
  go_ret
  exact ⟨rfl, below_drewN (Below.refl _ _) _⟩
end Go.Proofs.Ytkkopnhbafjnaaa
/- EqualExpr of the program: trees whose roots agree; the whole. No conditions. -/
namespace Go.Proofs.Ytkkopnhbafjnaaa
open Go.RowKit
set_option linter.unusedVariables false

set_option maxRecDepth 100000 in
set_option maxHeartbeats 3200000 in
theorem equal_yes (a b : Ex.T) (w : World) (g1 o1 g2 o2 : Nat) (h1 : TreeAt w g1 o1 a) (h2 : TreeAt w g2 o2 b) (hl1 : a.kids.length ≤ 1048576) (hl2 : b.kids.length ≤ 1048576) (u1 : a.kind = b.kind) (u2 : a.text.toList = b.text.toList) (u3 : a.num = b.num) (u4 : a.line = b.line) (hz : a.kids.length = b.kids.length) (HI : Hid (∀ x ∈ a.kids, EqpT x)) (HA : Hid (∀ x ∈ a.kids, x.bulk ≤ 1048576)) (HBB : Hid (∀ x ∈ b.kids, x.bulk ≤ 1048576)) : EqSays a b (Ex.eqbs a.kids b.kids) w g1 o1 g2 o2 := by
  have T1 := Lib.hid h1
  have T2 := Lib.hid h2
  obtain ⟨⟨q0, q1, q2, q3⟩, v1, q4, hk1⟩ := tree_cells h1
  obtain ⟨⟨p0, p1, p2, p3⟩, v2, p4, hk2⟩ := tree_cells h2
  have H1 := Lib.hid hk1
  have H2 := Lib.hid hk2
  obtain ⟨a1, c1, rfl⟩ := kids_len hk1
  obtain ⟨a2, c2, rfl⟩ := kids_len hk2
  have HZ := Lib.hid hz
  have Q4 := Lib.hid (fun wr (hh : Below w.heap.size w wr) => subw_below hh _ _ _ q4)
  have P4 := Lib.hid (fun wr (hh : Below w.heap.size w wr) => subw_below hh _ _ _ p4)
  clear h1 h2 hk1 hk2
  have u2b : (a.text.toList == b.text.toList) = true := beq_iff_eq.2 u2
  have u1b : (a.kind != b.kind) = false := by rw [u1]; simp
  have u3b : (a.num != b.num) = false := by rw [u3]; simp
  have u4b : (a.line != b.line) = false := by rw [u4]; simp
  have u5b : ((a.kids.length : Int) != b.kids.length) = false := by rw [hz]; simp
  clear u1 u3 u4 hz
  go_enter Try.func36, Try.ntmps36
  go_wp2_with fail
  go_quiet (fail)
  clear u1b u3b u4b u5b u2b u2 q0 q1 q2 q3 p0 p1 p2 p3
  go_wp2
  have HB0 := Lib.hid (below_drewN (Below.refl w.heap.size w) nq)
  generalize w.drewN nq = w0 at HB0 ⊢
  go_loopw [5, 66] (fun _ i wr => ∃ k : Nat, i = .int .i64 k ∧ k ≤ a.kids.length ∧ Ex.EqTo a.kids b.kids k ∧ Below w.heap.size w wr) (fun _ i _ => a.kids.length - (intOf i).toNat)
  case atStart => exact ⟨0, rfl, Nat.zero_le _, Ex.EqTo.start _ _, HB0.out⟩
  case round =>
    clear HB0 q4 p4
    obtain ⟨k, rfl, hkk, hat, hbw⟩ := hrel
    have HAT := Lib.hid hat
    have HB := Lib.hid hbw
    have HK1 := Lib.hid (H1.out.later hbw)
    have HK2 := Lib.hid (H2.out.later hbw)
    have q4 := Q4.out _ hbw
    have p4 := P4.out _ hbw
    clear hat hbw
    by_cases hlt : k < a.kids.length
    · have hlb : k < b.kids.length := by rw [← HZ.out]; exact hlt
      obtain ⟨g3, o3, rfl, ht1⟩ := kids_at HK1.out k hlt
      obtain ⟨g4, o4, rfl, ht2⟩ := kids_at HK2.out k hlb
      have HC := Lib.hid (fun W hW => HI.out a.kids[k] (List.getElem_mem hlt) (HA.out _ (List.getElem_mem hlt)) b.kids[k] (HBB.out _ (List.getElem_mem hlb)) W g3 (o3 + k * 5) g4 (o4 + k * 5) (ht1.later hW) (ht2.later hW))
      have HNX := Lib.hid (fun he => HAT.out.next hlt hlb he)
      have HNO := Lib.hid (fun he => HAT.out.no hlt hlb he)
      have k0 : (0 : Int) ≤ k := by omega
      have k1 : (k : Int) < a.kids.length := by omega
      have k2 : (k : Int) < b.kids.length := by omega
      clear ht1 ht2 HAT
      generalize a.kids[k] = x at HC HNX HNO
      generalize b.kids[k] = y at HC HNX HNO
      go_wp2_with fail
      go_still_tail 12, (by kernel_rfl)
      change wpList _ _ _ _ _ wr.drew
      have HC2 := Lib.hid (HC.out wr.drew ((Below.refl _ _).drew))
      have HB2 := Lib.hid HB.out.drew
      clear HK1 HK2 HB HC q4 p4
      generalize wr.drew = w5 at HC2 HB2 ⊢
      cases he : x.eqb y
      · have HN := Lib.hid (HNO.out he)
        rw [he] at HC2
        clear he HNO HNX
        go_wp2_with (go_at_call 36; refine HC2.out.mono ?_; rintro e w6 ⟨rfl, hb6⟩; have HB6 := Lib.hid (below_then HB2.out hb6); clear hb6)
        go_ret
        exact ⟨ret_bool HN.out, HB6.out⟩
      · have HN := Lib.hid (HNX.out he)
        rw [he] at HC2
        clear he HNO HNX
        go_wp2_with (go_at_call 36; refine HC2.out.mono ?_; rintro e w6 ⟨rfl, hb6⟩; have HB6 := Lib.hid (below_then HB2.out hb6); clear hb6)
        go_roundw
        case rel => exact ⟨k + 1, by go_num, by omega, HN.out, HB6.out⟩
        case measure => first | (simp [intOf]; done) | (simp [intOf]; omega)
    · obtain rfl : k = a.kids.length := by omega
      have HN := Lib.hid (Ex.EqTo.over HAT.out HZ.out)
      go_wp2
      go_ret
      exact ⟨ret_bool HN.out, HB.out⟩
theorem equal_trees : ∀ (N : Nat) (a : Ex.T), a.count ≤ N → EqpT a := by
  intro N
  induction N with
  | zero => intro t h; have := Ex.count_pos t; omega
  | succ N ih =>
    intro a hN hb b hb2 w g1 o1 g2 o2 h1 h2
    have hbe := bulk_eq a
    have hbe2 := bulk_eq b
    have hl1 : a.kids.length ≤ 1048576 := by omega
    have hl2 : b.kids.length ≤ 1048576 := by omega
    have HE := Ex.eqb_eq a b
    by_cases hk : a.kind = b.kind
    · by_cases ht : a.text.data.toList = b.text.data.toList
      · have u2 : a.text.toList = b.text.toList := by rw [ByteArray.toList_eq, ByteArray.toList_eq, ht]
        by_cases hn : a.num = b.num
        · by_cases hl : a.line = b.line
          · by_cases hz : a.kids.length = b.kids.length
            · have HV : a.eqb b = Ex.eqbs a.kids b.kids := by rw [HE, hk, ht, hn, hl]; simp
              rw [HV]
              exact equal_yes a b w g1 o1 g2 o2 h1 h2 hl1 hl2 hk u2 hn hl hz (Lib.hid fun x hx => ih x (by have := kids_count hx; omega)) (Lib.hid fun x hx => by have := Ex.bulks_mem hx; omega) (Lib.hid fun x hx => by have := Ex.bulks_mem hx; omega)
            · rw [show a.eqb b = false by rw [HE, Ex.eqbs_len hz]; simp]
              exact equal_no4 a b w g1 o1 g2 o2 h1 h2 hl1 hl2 hk u2 hn hl (neqb (by omega))
          · rw [show a.eqb b = false by rw [HE, beq_eq_false_iff_ne.2 hl]; simp]
            exact equal_no3 a b w g1 o1 g2 o2 h1 h2 hl1 hl2 hk u2 hn (neqb hl)
        · rw [show a.eqb b = false by rw [HE, beq_eq_false_iff_ne.2 hn]; simp]
          exact equal_no2 a b w g1 o1 g2 o2 h1 h2 hl1 hl2 hk u2 (neqb hn)
      · rw [show a.eqb b = false by rw [HE, beq_eq_false_iff_ne.2 ht]; simp]
        exact equal_no1 a b w g1 o1 g2 o2 h1 h2 hl1 hl2 hk (beq_eq_false_iff_ne.2 (by rw [ByteArray.toList_eq, ByteArray.toList_eq]; exact ht))
    · rw [show a.eqb b = false by rw [HE, beq_eq_false_iff_ne.2 hk]; simp]
      exact equal_no0 a b w g1 o1 g2 o2 h1 h2 hl1 hl2 (neqb hk)
theorem box_at {w : World} {t : Ex.T} {v : Value} (hk : Kids w v t.kids) : TreeAt (w.alloc (.cells #[.int .i64 t.kind, .string t.text, .int .i64 t.num, .int .i64 t.line, v] 26)) w.heap.size 0 t := by
  obtain ⟨a0, a1, a2, a3, a4⟩ := CellsE.new w t v 26
  exact tree_of ⟨a0, a1, a2, a3⟩ a4 (hk.later (bl1 _ _))
theorem impl_equal (a b : Ex.T) (ha : a.bulk ≤ 1048576) (hb : b.bulk ≤ 1048576) (w : World) (v1 v2 : Value) (h1 : Kids w v1 a.kids) (h2 : Kids w v2 b.kids) : Calls Try.prog 14 #[exV a v1, exV b v2] w fun e w' => e = .returned (.bool (a.eqb b)) ∧ Below w.heap.size w w' := by
  obtain ⟨a1, c1, rfl⟩ := kids_len h1
  obtain ⟨a2, c2, rfl⟩ := kids_len h2
  have T1 := (box_at h1).later (bl1 (w.alloc (.cells #[.int .i64 a.kind, .string a.text, .int .i64 a.num, .int .i64 a.line, .slice a1 a.kids.length c1] 26)) (.cells #[.int .i64 b.kind, .string b.text, .int .i64 b.num, .int .i64 b.line, .slice a2 b.kids.length c2] 26))
  have T2 := box_at (h2.later (bl1 w (.cells #[.int .i64 a.kind, .string a.text, .int .i64 a.num, .int .i64 a.line, .slice a1 a.kids.length c1] 26)))
  rw [World.size_alloc] at T2
  have HC := Lib.hid (equal_trees _ a (Nat.le_refl _) ha b hb _ _ _ _ _ T1 T2)
  have HB := Lib.hid (bl2 w (.cells #[.int .i64 a.kind, .string a.text, .int .i64 a.num, .int .i64 a.line, .slice a1 a.kids.length c1] 26) (.cells #[.int .i64 b.kind, .string b.text, .int .i64 b.num, .int .i64 b.line, .slice a2 b.kids.length c2] 26))
  generalize a.eqb b = r at HC ⊢
  clear T1 T2 h1 h2
  go_enter Try.func14, Try.ntmps14
  go_wp2_with fail
  refine HC.out.mono ?_
  rintro e w1 ⟨rfl, b1⟩
  have B1 := Lib.hid (below_then HB.out b1)
  clear b1
  go_wp2
  go_ret
  exact ⟨rfl, B1.out⟩
end Go.Proofs.Ytkkopnhbafjnaaa
