/- The laws' measure of a tree. No conditions. -/
import Derived.Test.YtpncmahpcccmlaaDoorG3
import Derived.Test.YtpncmahpcccmlaaDoorH2
import Derived.Test.YtpncmahpcccmlaaDoorC2
namespace Go.Proofs.YtpncmahpcccmlaaDoor.Cr
open Go.RowKit
set_option linter.unusedVariables false

def SzT (t : Co.T) : Prop := t.Ok → ∀ (w : World) (v : Value) (left : Nat), Kids w v t.kids → (left : Int) ≤ 1048576 → Calls Tryd.prog 23 #[exV t v, .int .i64 (left : Int)] w fun e w' => e = .returned (.int .i64 (szR left t.bulk)) ∧ Below w.heap.size w w'
/-- Where the measure of a list stands. -/
def SzAt (ks : List Co.T) (left k m : Nat) : Prop := m + (ks.length + Co.bulks (ks.take k)) = left
theorem SzAt.start {ks : List Co.T} {left : Nat} (h : ks.length ≤ left) : SzAt ks left 0 (left - ks.length) := by unfold SzAt; simp [Co.bulks]; omega
theorem SzAt.next {ks : List Co.T} {left k m : Nat} (h : SzAt ks left k m) (hk : k < ks.length) (hb : ks[k].bulk ≤ m) : SzAt ks left (k + 1) (m - ks[k].bulk) := by
  unfold SzAt at h ⊢
  rw [Co.bulks_take ks k hk]; omega
theorem SzAt.bad {ks : List Co.T} {left k m : Nat} (h : SzAt ks left k m) (hk : k < ks.length) (hb : ¬ ks[k].bulk ≤ m) : szR left (ks.length + Co.bulks ks) = -1 := by
  unfold SzAt at h
  have h2 := Co.bulks_take ks k hk
  have h3 := Co.bulks_take_le ks (k + 1)
  exact szR_no (by omega)
theorem SzAt.over {ks : List Co.T} {left m : Nat} (h : SzAt ks left ks.length m) : szR left (ks.length + Co.bulks ks) = (m : Int) := by
  unfold SzAt at h
  rw [List.take_length] at h
  rw [szR_yes (by omega)]; congr 1; omega
set_option maxHeartbeats 800000 in
theorem sz_list (ks : List Co.T) (hI : ∀ x ∈ ks, SzT x) (hok : Co.Oks ks) (hl : ks.length ≤ 9223372036854775807) (w : World) (v : Value) (left : Nat) (hk : Kids w v ks) (hs : (left : Int) ≤ 1048576) :
    Calls Tryd.prog 61 #[v, .int .i64 (left : Int)] w fun e w' => e = .returned (.int .i64 (szR left (ks.length + Co.bulks ks))) ∧ Below w.heap.size w w' := by
  obtain ⟨a, c, rfl⟩ := kids_len hk
  have HK := Lib.hid hk
  have HI := Lib.hid hI
  have HOK := Lib.hid hok
  clear hk hI hok
  by_cases h0 : ks.length ≤ left
  · have HST := Lib.hid (SzAt.start h0)
    have e0 : ((left : Int) - ks.length) = ((left - ks.length : Nat) : Int) := by omega
    have HR0 : Hid (0 ≤ (left : Int) - ks.length) := Lib.hid (by omega)
    have hr0 := HR0.out
    go_enter Tryd.func61, Tryd.ntmps61
    go_wp2
    go_loopw [1, 5] (fun m i wr => ∃ k n : Nat, i = .int .i64 k ∧ m = .int .i64 n ∧ k ≤ ks.length ∧ n ≤ left ∧ SzAt ks left k n ∧ Below w.heap.size w wr) (fun _ i _ => ks.length - (intOf i).toNat)
    case atStart => exact ⟨0, left - ks.length, rfl, by rw [← e0], by omega, by omega, HST.out, Below.refl _ _⟩
    case round =>
      clear HST e0 HR0 hr0
      obtain ⟨k, n, rfl, rfl, hk, hn, hat, hb⟩ := hrel
      have HAT := Lib.hid hat
      have HB := Lib.hid hb
      have HK2 := Lib.hid (HK.out.later hb)
      clear hat hb
      by_cases hlt : k < ks.length
      · obtain ⟨g, o, rfl, ht⟩ := kids_at HK2.out k hlt
        obtain ⟨⟨q0, q1, q2, q3, q4⟩, v, q5, hkv⟩ := tree_cells ht
        have HC := Lib.hid (HI.out ks[k] (List.getElem_mem hlt) (Co.oks_mem HOK.out (List.getElem_mem hlt)) wr v n hkv (by omega))
        have k0 : (0 : Int) ≤ k := by omega
        have k1 : (k : Int) < ks.length := by omega
        by_cases hbk : ks[k].bulk ≤ n
        · have HN := Lib.hid (HAT.out.next hlt hbk)
          have hle : n - ks[k].bulk ≤ left := by omega
          rw [szR_yes hbk] at HC
          generalize n - ks[k].bulk = n2 at HC HN hle
          clear hbk ht hkv HAT
          generalize ks[k] = x at q0 q1 q2 q3 q4 HC
          go_wp2_with (go_at_call 23; refine HC.out.mono ?_; rintro e w1 ⟨rfl, hb1⟩; have HB1 := Lib.hid (below_then HB.out hb1); clear hb1)
          go_roundw
          case rel => exact ⟨k + 1, n2, by go_num, rfl, by omega, hle, HN.out, HB1.out⟩
          case measure => first | (simp [intOf]; done) | (simp [intOf]; omega)
        · have HN := Lib.hid (HAT.out.bad hlt hbk)
          rw [szR_no hbk] at HC
          clear hbk ht hkv HAT
          generalize ks[k] = x at q0 q1 q2 q3 q4 HC
          go_wp2_with (go_at_call 23; refine HC.out.mono ?_; rintro e w1 ⟨rfl, hb1⟩; have HB1 := Lib.hid (below_then HB.out hb1); clear hb1)
          go_ret
          exact ⟨ret_ei HN.out, HB1.out⟩
      · obtain rfl : k = ks.length := by omega
        have HN := Lib.hid HAT.out.over
        go_wp2
        go_ret
        exact ⟨ret_ei HN.out, HB.out⟩
  · have HN := Lib.hid (szR_no (left := left) (b := ks.length + Co.bulks ks) (by omega))
    have hlt0 : (left : Int) - ks.length < 0 := by omega
    go_enter Tryd.func61, Tryd.ntmps61
    go_wp2
    go_ret
    exact ⟨ret_ei HN.out, Below.refl _ _⟩
theorem bulk_eq (t : Co.T) : t.bulk = t.text.size + (t.kids.length + Co.bulks t.kids) := by cases t; rw [Co.T.bulk]; rfl
theorem kids_count {t x : Co.T} (h : x ∈ t.kids) : x.count < t.count := by
  cases t with
  | node k p n l s ks =>
    rw [Co.T.count]
    have := Co.counts_mem (l := ks) h
    omega
set_option maxHeartbeats 800000 in
theorem sz_tree : ∀ (N : Nat) (t : Co.T), t.count ≤ N → SzT t := by
  intro N
  induction N with
  | zero => intro t h; have := Co.count_pos t; omega
  | succ N ih =>
    intro t hN hok w v left hk hs
    obtain ⟨ht1, hl1, hoks⟩ := Co.ok_node hok
    have HL := Lib.hid (fun (m : Nat) (hm : (m : Int) ≤ 1048576) W hb => sz_list t.kids (fun x hx => ih x (by have := kids_count hx; omega)) hoks hl1 W v m (hk.later hb) hm)
    have HB := Lib.hid (bulk_eq t)
    clear ih hN hok hoks hl1
    by_cases h0 : t.text.size ≤ left
    · have HP := Lib.hid (szR_part (b := t.kids.length + Co.bulks t.kids) h0)
      have HC := Lib.hid (szR_cases (left - t.text.size) (t.kids.length + Co.bulks t.kids))
      have HL1 := Lib.hid (HL.out (left - t.text.size) (by omega) _ (bl1 w (.cells #[.int .i64 t.kind, .int .i64 t.op, .int .i64 t.num, .int .i64 t.line, .string t.text, v] 52)))
      have e0 : ((left : Int) - t.text.size) = ((left - t.text.size : Nat) : Int) := by omega
      have hr0 : 0 ≤ (left : Int) - t.text.size := by omega
      generalize szR (left - t.text.size) (t.kids.length + Co.bulks t.kids) = r at HP HC HL1
      clear hk HL
      rcases HC.out with hc | hc
      · obtain ⟨hc1, hc2⟩ := hc
        go_enter Tryd.func23, Tryd.ntmps23
        go_wp2_with (go_at_call 61; refine HL1.out.mono ?_; rintro e w1 ⟨rfl, hb1⟩; have HB1 := Lib.hid (below_then (bl1 _ _) hb1); clear hb1)
        go_ret
        exact ⟨ret_ei (by rw [HB.out, HP.out]), HB1.out⟩
      · subst hc
        go_enter Tryd.func23, Tryd.ntmps23
        go_wp2_with (go_at_call 61; refine HL1.out.mono ?_; rintro e w1 ⟨rfl, hb1⟩; have HB1 := Lib.hid (below_then (bl1 _ _) hb1); clear hb1)
        go_ret
        exact ⟨ret_ei (by rw [HB.out, HP.out]), HB1.out⟩
    · have HN := Lib.hid (szR_no (left := left) (b := t.text.size + (t.kids.length + Co.bulks t.kids)) (by omega))
      have hlt0 : (left : Int) - t.text.size < 0 := by omega
      clear HL hk
      go_enter Tryd.func23, Tryd.ntmps23
      go_wp2
      go_ret
      exact ⟨ret_ei (by rw [HB.out, HN.out]), bl1 _ _⟩
end Go.Proofs.YtpncmahpcccmlaaDoor.Cr
