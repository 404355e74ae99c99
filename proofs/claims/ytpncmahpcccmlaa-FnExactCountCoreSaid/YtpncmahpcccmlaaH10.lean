/- CountCore of the program, the walk of its law. No conditions. -/
import Derived.Test.YtpncmahpcccmlaaH8
import Derived.Test.YtpncmahpcccmlaaH9
namespace Go.Proofs.Ytpncmahpcccmlaa.Cr
open Go.RowKit
set_option linter.unusedVariables false

def ImpCnt (t : Co.T) : Prop := t.bulk ≤ 1048576 → ∀ (w : World) (v : Value), Kids w v t.kids → Calls Try.prog 7 #[exV t v] w fun e w' => e = .returned (.int .i64 (t.count : Int)) ∧ Below w.heap.size w w'
set_option maxHeartbeats 1600000 in
theorem impl_count : ∀ (N : Nat) (t : Co.T), t.count ≤ N → ImpCnt t := by
  intro N
  induction N with
  | zero => intro t h; have := Co.count_pos t; omega
  | succ N ih =>
    intro t hN hb w v hk
    have hbe := bulk_eq t
    have hce := count_eq t
    have hcs := small_count hb
    obtain ⟨a, c, rfl⟩ := kids_len hk
    have HI := Lib.hid (fun (x : Co.T) (hx : x ∈ t.kids) => ih x (by have := kids_count hx; omega) (by have := Co.bulks_mem hx; omega))
    have HK := Lib.hid hk
    have HCE := Lib.hid hce
    have hln : t.kids.length ≤ 1048576 := by omega
    have hct : 1 + Co.counts t.kids ≤ 1048577 := by omega
    clear ih hN hb hk hbe hcs hce
    go_enter Try.func7, Try.ntmps7
    go_wp2
    go_loopw [3, 9] (fun m i wr => ∃ k n : Nat, i = .int .i64 k ∧ m = .int .i64 n ∧ k ≤ t.kids.length ∧ CntAt t.kids k n ∧ Below w.heap.size w wr) (fun _ i _ => t.kids.length - (intOf i).toNat)
    case atStart => exact ⟨0, 1, rfl, rfl, by omega, by unfold CntAt; simp [Co.counts], bl1 _ _⟩
    case round =>
      obtain ⟨k, n, rfl, rfl, hkk, hat, hb⟩ := hrel
      have HAT := Lib.hid hat
      have HB := Lib.hid hb
      have HK2 := Lib.hid (HK.out.later hb)
      have hnl := hat.le
      clear hat hb
      by_cases hlt : k < t.kids.length
      · obtain ⟨g, o, rfl, ht⟩ := kids_at HK2.out k hlt
        obtain ⟨⟨q0, q1, q2, q3, q4⟩, v, q5, hkv⟩ := tree_cells ht
        have HC := Lib.hid (HI.out t.kids[k] (List.getElem_mem hlt))
        have HN := Lib.hid (HAT.out.next hlt)
        have hnl2 := HN.out.le
        obtain ⟨a2, c2, rfl⟩ := kids_len hkv
        have HKV := Lib.hid hkv
        have k0 : (0 : Int) ≤ k := by omega
        have k1 : (k : Int) < t.kids.length := by omega
        clear ht hkv HAT
        generalize t.kids[k] = x at q0 q1 q2 q3 q4 q5 HC HN hnl2 HKV
        have HC2 := Lib.hid (HC.out _ _ (HKV.out.later (bl1 wr (.cells #[.int .i64 x.kind, .int .i64 x.op, .int .i64 x.num, .int .i64 x.line, .string x.text, .slice a2 x.kids.length c2] 29))))
        have HB2 := Lib.hid (below_then HB.out (bl1 wr (.cells #[.int .i64 x.kind, .int .i64 x.op, .int .i64 x.num, .int .i64 x.line, .string x.text, .slice a2 x.kids.length c2] 29)))
        clear HC HKV
        go_wp2_with fail
        refine HC2.out.mono ?_
        rintro e w1 ⟨rfl, hb1⟩
        have HB1 := Lib.hid (below_then HB2.out hb1)
        clear hb1
        go_wp2
        go_roundw
        case rel => exact ⟨k + 1, n + x.count, by go_num, by go_num, by omega, HN.out, HB1.out⟩
        case measure => first | (simp [intOf]; done) | (simp [intOf]; omega)
      · obtain rfl : k = t.kids.length := by omega
        have HN := Lib.hid HAT.out.over
        go_wp2
        go_ret
        exact ⟨ret_ei (by rw [HCE.out, ← HN.out]), HB.out⟩
end Go.Proofs.Ytpncmahpcccmlaa.Cr
namespace Go.Proofs.Ytpncmahpcccmlaa
open Go.RowKit
theorem FnExactCountCore_walk (t : Co.T) (v : Value) (hok : t.Ok) (w : World) (hk : Cr.Kids w v t.kids) : Calls Try.prog 3 #[Cr.exV t v] w fun e w' => e = .returned (.bool true) ∧ Below w.heap.size w w' :=
  Cr.count_law (Cr.impl_count _ · (Nat.le_refl _)) t v hok w hk
end Go.Proofs.Ytpncmahpcccmlaa
