/- The program's Join, and the helpers of the law on it. -/
import Derived.Test.YtjgnigalodebkaaW9
namespace Go.Proofs.Ytjgnigalodebkaa
open Go.RowKit
set_option linter.unusedVariables false

/-- The size that joinedSize answers, and whether it is one. -/
def sizeV (n : Nat) : Int := if n ≤ 1048576 then n else 0
def sizeB (n : Nat) : Bool := decide (n ≤ 1048576)
theorem sizeV_yes {n : Nat} (h : n ≤ 1048576) : (n : Int) = sizeV n := by unfold sizeV; rw [if_pos h]
theorem sizeV_no {n : Nat} (h : ¬ n ≤ 1048576) : 0 = sizeV n := by unfold sizeV; rw [if_neg h]
theorem sizeB_yes {n : Nat} (h : n ≤ 1048576) : true = sizeB n := by unfold sizeB; simp [h]
theorem sizeB_no {n : Nat} (h : ¬ n ≤ 1048576) : false = sizeB n := by unfold sizeB; simp; omega

set_option maxHeartbeats 400000 in
theorem impl_size (v : Value) (l : List ByteArray) (s : ByteArray) (w : World) (hr : Reads w v l) (hsm : Small l) (hs : (s.size : Int) ≤ 1048576) :
    Calls Try.prog 29 #[v, .string s] w fun e w' => e = .returned (.tuple #[.int .i64 (sizeV (Glue.upto l s.data.toList l.length).length), .bool (sizeB (Glue.upto l s.data.toList l.length).length)]) ∧ w = w' := by
  by_cases hl : l = []
  · subst hl
    obtain ⟨a, c, rfl⟩ := reads_empty hr
    clear hr hsm
    go_enter Try.func29, Try.ntmps29
    go_wp2
    go_loop [4, 5, 6, 7, 8, 11] (fun _ _ z _ _ i => i = .int .i64 0 ∧ z = .int .i64 0) (fun _ _ _ _ _ _ => 0)
    case atStart => exact ⟨rfl, rfl⟩
    case round =>
      obtain ⟨rfl, rfl⟩ := hrel
      go_wp2
      go_ret2
      exact ⟨rfl, rfl⟩
  · obtain ⟨g, off, cap, rfl, hm, hc⟩ := reads_some hr hl
    have HC := Lib.hid hc
    have HS := Lib.hid hsm
    have hn1 : l.length ≤ 1048576 := hsm.1
    clear hr hl hc hsm
    generalize hn : l.length = n at *
    have HN := Lib.hid hn
    clear hn hm
    go_enter Try.func29, Try.ntmps29
    go_wp2
    go_loop [4, 5, 6, 7, 8, 11] (fun _ _ z _ _ i => ∃ k : Nat, i = .int .i64 k ∧ k ≤ n ∧ z = .int .i64 (Glue.upto l s.data.toList k).length ∧ (Glue.upto l s.data.toList k).length ≤ 1048576) (fun _ _ _ _ _ i => n - (intOf i).toNat)
    case atStart => exact ⟨0, rfl, Nat.zero_le _, rfl, Nat.zero_le _⟩
    case round =>
      obtain ⟨k, rfl, hk, rfl, hle⟩ := hrel
      by_cases hlt : k < n
      · have d1 := HC.out k hlt
        have hpz : (l.getD k ByteArray.empty).size ≤ 1048576 := HS.out.2 k (by have := HN.out; omega)
        generalize hx : l.getD k ByteArray.empty = x at d1 hpz
        have HX := Lib.hid hx
        clear hx
        by_cases hk0 : k = 0
        · subst hk0
          have d0 : w.cell? ⟨g, off, none⟩ = some (.string x) := d1
          clear d1
          have hnx : (Glue.upto l s.data.toList (0 + 1)).length = x.size := by rw [Glue.upto_first, HX.out, ← size_eq]
          have H1 := Lib.hid hnx
          clear hnx
          by_cases hbig : (1048576 : Int) < x.size
          · omega
          · have h00 : ((Glue.upto l s.data.toList 0).length : Int) = 0 := rfl
            have h01 : (0 : Int) + x.size = x.size := by omega
            go_wp2
            go_round
            case rel =>
              exact ⟨0 + 1, by go_num, by omega, ret_val (by rw [H1.out]), by rw [H1.out]; omega⟩
            case measure => first | (simp [intOf]; done) | (simp [intOf]; omega)
        · have hk1 : 0 < k := by omega
          have hnx : (Glue.upto l s.data.toList (k + 1)).length = (Glue.upto l s.data.toList k).length + s.size + x.size := by rw [Glue.upto_next l s.data.toList hk1, List.length_append, List.length_append, HX.out, ← size_eq, ← size_eq]
          have H1 := Lib.hid hnx
          clear hnx
          have hmo := Glue.upto_le l s.data.toList (k := k + 1) (n := n) (by omega)
          rw [H1.out] at hmo
          by_cases hbig : (1048576 : Int) < (Glue.upto l s.data.toList k).length + s.size + x.size
          · have hno : ¬ (Glue.upto l s.data.toList n).length ≤ 1048576 := by omega
            have HNO := Lib.hid hno
            clear hmo hno
            go_wp2
            go_ret2
            exact ⟨ret_pair (sizeV_no HNO.out) (sizeB_no HNO.out), rfl⟩
          · clear hmo
            go_wp2
            go_round
            case rel =>
              exact ⟨k + 1, by go_num, by omega, ret_val (by rw [H1.out]; omega), by rw [H1.out]; omega⟩
            case measure => first | (simp [intOf]; done) | (simp [intOf]; omega)
      · obtain rfl : k = n := by omega
        go_wp2
        go_ret2
        exact ⟨ret_pair (sizeV_yes hle) (sizeB_yes hle), rfl⟩
end Go.Proofs.Ytjgnigalodebkaa
