/- What the laws read again of a list of trees. No conditions. -/
import Derived.Test.YtkkopnhbafjnaaaN31
import Derived.Deep.RegionHeld3
namespace Go.Proofs.Ytkkopnhbafjnaaa
open Go.RowKit
set_option linter.unusedVariables false

def HeldK (ks : List Ex.T) : Prop := ∀ (w : World) (v : Value) (k : Nat), Kids w v (Ex.mrks ks k) → ((k + 4 * Ex.counts ks : Nat) : Int) ≤ 8000000 → ks.length ≤ 1048576 → Calls Try.prog 46 #[v, .int .i64 (k : Int)] w fun e w' => e = .returned (.int .i64 ((k + 4 * Ex.counts ks : Nat) : Int)) ∧ Below w.heap.size w w'
set_option maxRecDepth 100000 in
set_option maxHeartbeats 3200000 in
theorem held_list (ks : List Ex.T) (hI : ∀ x ∈ ks, HeldK x.kids) (hlen : ∀ x ∈ ks, x.kids.length ≤ 1048576) : HeldK ks := by
  intro w v k hkv hk hl
  obtain ⟨a, c, rfl⟩ := kids_len hkv
  rw [Ex.mrks_len] at hkv ⊢
  have HK := Lib.hid hkv
  have HI := Lib.hid hI
  have HLE := Lib.hid hlen
  have HKB := Lib.hid hk
  clear hkv hI hlen hk
  go_enter Try.func46, Try.ntmps46
  go_wp2
  go_loopw [1, 4, 5] (fun m _ i wr => ∃ j n : Nat, m = .int .i64 n ∧ i = .int .i64 j ∧ j ≤ ks.length ∧ n = k + 4 * Ex.counts (ks.take j) ∧ Below w.heap.size w wr) (fun _ _ i _ => ks.length - (intOf i).toNat)
  case atStart => exact ⟨0, k, rfl, rfl, Nat.zero_le _, by simp [Ex.counts], Below.refl _ _⟩
  case round =>
    obtain ⟨j, n, rfl, rfl, hj, hn, hb⟩ := hrel
    have HB := Lib.hid hb
    have HK2 := Lib.hid (HK.out.later hb)
    have HN := Lib.hid hn
    by_cases hlt : j < ks.length
    · obtain ⟨g, o, rfl, ht⟩ := kids_at HK2.out j (by rw [Ex.mrks_len]; exact hlt)
      have hmg := Ex.mrks_get ks k j hlt
      rw [List.getElem?_eq_getElem (by rw [Ex.mrks_len]; exact hlt), ← hn] at hmg
      rw [Option.some.inj hmg, Ex.mrk_eq] at ht
      obtain ⟨⟨q0, q1, q2, q3⟩, v3, q4, hkv⟩ := tree_cells ht
      have hct := Ex.counts_take ks j hlt
      have hcl := Ex.counts_take_le ks (j + 1)
      have hce := count_eq ks[j]
      have hkk := HKB.out
      have hnb : (n : Int) + 4 + 4 * Ex.counts ks[j].kids ≤ 8000000 := by omega
      have HC := Lib.hid (fun W hW => HI.out ks[j] (List.getElem_mem hlt) W v3 (n + 4) (Kids.later hkv hW) (by omega) (HLE.out _ (List.getElem_mem hlt)))
      rw [show ((n + 4 : Nat) : Int) = (n : Int) + 1 + 1 + 1 + 1 by omega] at HC
      have HM := Lib.hid fun W => mark_n n W (by omega)
      have HG := Lib.hid (World.block_lt_of_cell? wr _ q1)
      have HCT := Lib.hid hct
      have HCE := Lib.hid hce
      have k0 : (0 : Int) ≤ j := by omega
      have k1 : (j : Int) < ks.length := by omega
      have p1 : wr.cell? ⟨g, o + j * 5 + 1, none⟩ = some (.string (mark (n + 1))) := q1
      have p0 : wr.cell? ⟨g, o + j * 5, none⟩ = some (.int .i64 (n : Int)) := q0
      have P2 : Hid (wr.cell? ⟨g, o + j * 5 + 2, none⟩ = some (.int .i64 ((n : Int) + 1 + 1))) := Lib.hid q2
      have P3 : Hid (wr.cell? ⟨g, o + j * 5 + 3, none⟩ = some (.int .i64 ((n : Int) + 1 + 1 + 1))) := Lib.hid q3
      have P4 : Hid (wr.cell? ⟨g, o + j * 5 + 4, none⟩ = some v3) := Lib.hid q4
      obtain ⟨a5, n5, c5, rfl⟩ : ∃ a n c, v3 = .slice a n c := by
        obtain ⟨a5, c5, e⟩ := kids_len hkv
        exact ⟨_, _, _, e⟩
      clear q0 q1 q2 q3 q4 ht hkv hmg hct hcl hce hkk hn hb
      generalize ks[j] = x at HC HCT HCE hnb
      go_wp2
      go_region_held3 (fun w' => w'.cell? ⟨g, o + j * 5 + 1, none⟩ = some (.string (mark (n + 1))) ∧ Below wr.heap.size wr w')
        (first | exact ⟨p1, (Below.refl _ _).drew⟩ | exact ⟨(b1.cell HG.out).trans p1, (Below.refl _ _).drew.trans b1⟩ | go_keep)
        (first | (go_at_call 61; refine (HM.out _).mono ?_; rintro e w1 ⟨rfl, b1⟩))
      have hbb : Below wr.heap.size wr w1 := (Below.refl _ _).drew.trans b1
      have r2 := subw_below hbb _ _ _ P2.out
      have r3 := subw_below hbb _ _ _ P3.out
      have r4 := subw_below hbb _ _ _ P4.out
      have HC2 := Lib.hid (HC.out w1 hbb)
      have HB1 := Lib.hid (HB.out.trans (hbb.mono HB.out.size))
      obtain ⟨m2, hm2⟩ : ∃ m2, n + 4 + 4 * Ex.counts x.kids = m2 := ⟨_, rfl⟩
      rw [hm2] at HC2
      have HM2 : Hid (m2 = k + 4 * Ex.counts (ks.take (j + 1))) := Lib.hid (by rw [HCT.out, HCE.out, ← hm2, HN.out]; omega)
      have hm3 : (m2 : Int) ≤ 8000000 := by omega
      clear b1 p1 p0 hbb hm2
      go_wp2_with (go_at_call 46; refine HC2.out.mono ?_; rintro e w2 ⟨rfl, b2⟩; have HB2 := Lib.hid (below_then HB1.out b2); clear b2)
      go_roundw
      case rel => exact ⟨j + 1, m2, rfl, by go_num, by omega, HM2.out, HB2.out⟩
      case measure => first | (simp [intOf]; done) | (simp [intOf]; omega)
    · obtain rfl : j = ks.length := by omega
      have HN2 : Hid (n = k + 4 * Ex.counts ks) := Lib.hid (by rw [HN.out, List.take_length])
      clear hn
      go_wp2
      go_ret
      exact ⟨by rw [HN2.out]; rfl, HB.out⟩
theorem held_all : ∀ (N : Nat) (ks : List Ex.T), Ex.counts ks ≤ N → (∀ x ∈ ks, x.bulk ≤ 1048576) → HeldK ks := by
  intro N
  induction N with
  | zero =>
    intro ks h hb
    cases ks with
    | nil => exact held_list [] (fun x h => by cases h) (fun x h => by cases h)
    | cons x r => rw [Ex.counts] at h; have := Ex.count_pos x; omega
  | succ N ih =>
    intro ks h hb
    refine held_list ks (fun x hx => ih x.kids ?_ fun y hy => ?_) fun x hx => ?_
    · have h1 := Ex.counts_mem hx
      have h2 := count_eq x
      omega
    · have h1 := hb x hx
      have h2 := bulk_eq x
      have h3 := Ex.bulks_mem hy
      omega
    · have h1 := hb x hx
      have h2 := bulk_eq x
      omega
theorem held_tree (t : Ex.T) (hb : t.bulk ≤ 1048576) (v : Value) (w : World) (hk : Kids w v (Ex.mrks t.kids 1)) : Calls Try.prog 31 #[exV t v, .int .i64 1] w fun e w' => e = .returned (.int .i64 ((1 + 4 * Ex.counts t.kids : Nat) : Int)) ∧ Below w.heap.size w w' := by
  have hbe := bulk_eq t
  have hce := count_eq t
  have hcs := small_count hb
  have HM := Lib.hid (held_all _ t.kids (Nat.le_refl _) (fun x hx => by have := Ex.bulks_mem hx; omega))
  obtain ⟨a, c, rfl⟩ := kids_len hk
  rw [Ex.mrks_len] at hk ⊢
  have hbn := bl1 w (.cells #[.int .i64 t.kind, .string t.text, .int .i64 t.num, .int .i64 t.line, .slice a t.kids.length c] 26)
  have HC := Lib.hid (HM.out _ _ 1 (hk.later hbn) (by omega) (by omega))
  have HBN := Lib.hid hbn
  obtain ⟨m2, hm2⟩ : ∃ m2, 1 + 4 * Ex.counts t.kids = m2 := ⟨_, rfl⟩
  rw [hm2] at HC ⊢
  clear HM hbe hce hcs hb hk hbn hm2
  go_enter Try.func31, Try.ntmps31
  go_wp2_with fail
  refine HC.out.mono ?_
  rintro e w1 ⟨rfl, b1⟩
  have B1 := Lib.hid (below_then HBN.out b1)
  clear b1
  go_wp2
  go_ret
  exact ⟨rfl, B1.out⟩
end Go.Proofs.Ytkkopnhbafjnaaa
