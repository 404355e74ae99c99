/- Joined texts: A24. No conditions besides those that each states. -/
import Derived.Test.YtbadepiakkhabaaDoorZ30
import Derived.Test.YtbadepiakkhabaaDoorZ31
import Derived.Test.YtbadepiakkhabaaDoorZ32
import Derived.Test.YtbadepiakkhabaaDoorZ33
import Derived.Test.YtbadepiakkhabaaDoorZ34
import Derived.Test.YtbadepiakkhabaaDoorZ35
import Derived.Test.YtbadepiakkhabaaDoorZ36
import Derived.Test.YtbadepiakkhabaaDoorZ37
import Derived.Test.YtbadepiakkhabaaDoorZ38
import Derived.Test.YtbadepiakkhabaaDoorZ39
import Derived.Test.YtbadepiakkhabaaDoorZ40
import Derived.Test.YtbadepiakkhabaaDoorZ41
import Derived.Test.YtbadepiakkhabaaDoorZ42
import Derived.Test.YtbadepiakkhabaaDoorZ43
import Derived.Test.YtbadepiakkhabaaDoorZ44
/- Valid core trees, in the reference model: every tree. No conditions. -/
namespace Go.Proofs.YtbadepiakkhabaaDoor.Cr
open Go.RowKit
set_option linter.unusedVariables false

theorem ok_no {E : Co.Env} {k p n l d : Int} {s : ByteArray} {ks : List Co.T} {loop made : Bool} (h : Co.headB E k p n l s ks loop made d = false) : (Co.T.node k p n l s ks).ok E loop made d = false := by
  rw [Co.T.ok, h, Bool.false_and]
theorem ok_yes {E : Co.Env} {k p n l d : Int} {s : ByteArray} {ks : List Co.T} {loop made : Bool} (h : Co.headB E k p n l s ks loop made d = true) : (Co.T.node k p n l s ks).ok E loop made d = Co.oks E ks k loop (made || decide (k = 26)) (d + 1) 0 := by
  rw [Co.T.ok, h, Bool.true_and]
/-- What is known of a node that has come so far. -/
structure HeadH (E : Co.Env) (k p n l d : Int) (ks : List Co.T) : Prop where
  q40 : d ≤ 400
  k1 : 1 ≤ k
  k2 : k ≤ 28
  l0 : 0 ≤ l
  q4 : Co.cLo k p ≤ (ks.length : Int)
  q5 : (ks.length : Int) ≤ Co.cHi k p
  hn : Co.numOk E k n = true
theorem HeadH.eq {E : Co.Env} {k p n l d : Int} {s : ByteArray} {ks : List Co.T} {loop made : Bool} (h : HeadH E k p n l d ks) : Co.headB E k p n l s ks loop made d = ((decide (k = 11) || decide (p = 0)) && (Co.txtOk k s && (Co.admit k loop made && Co.opOk k p ks))) := by
  unfold Co.headB
  rw [decide_eq_true h.q40, decide_eq_true h.k1, decide_eq_true h.k2, decide_eq_true h.l0, decide_eq_true h.q4, decide_eq_true h.q5, h.hn]
  simp only [Bool.true_and]
theorem empty_size {s : ByteArray} (h : s.toList.isEmpty = true) : (s.size : Int) ≤ 128 := by
  rw [ByteArray.toList_eq, List.isEmpty_iff] at h
  have : s.size = 0 := by show s.data.toList.length = 0; rw [h]; rfl
  omega
theorem txt_other {k : Int} {s : ByteArray} (h2 : ¬ k = 2) (h3 : ¬ k = 3) : Co.txtOk k s = s.toList.isEmpty := by
  unfold Co.txtOk
  rw [if_neg h2, if_neg h3, ByteArray.toList_eq]
theorem op_other {k p : Int} {ks : List Co.T} (h : ¬ (k = 11 ∧ p = 79)) (h2 : ¬ (k = 11 ∧ p = 81)) : Co.opOk k p ks = true := by
  unfold Co.opOk
  rw [if_neg h, if_neg h2]
theorem op_79 {ks : List Co.T} (hi : 1 < ks.length) : Co.opOk 11 79 ks = (decide (ks[1].kind = 2) && Tk.isName ks[1].text.data.toList) := by
  unfold Co.opOk
  rw [if_pos ⟨rfl, rfl⟩, List.getElem?_eq_getElem hi]
theorem op_81 {ks : List Co.T} (hi : 0 < ks.length) : Co.opOk 11 81 ks = decide (ks[0].kind = 5 ∨ ks[0].kind = 6) := by
  unfold Co.opOk
  rw [if_neg (by decide), if_pos ⟨rfl, rfl⟩, List.getElem?_eq_getElem hi]
theorem admit_other {k : Int} {loop made : Bool} (h1 : ¬ (k = 20 ∨ k = 21)) (h2 : ¬ (k = 23 ∨ k = 24 ∨ k = 25)) : Co.admit k loop made = true := by
  unfold Co.admit
  rw [if_neg h1, if_neg h2]
set_option maxHeartbeats 800000 in
/-- A node that has come so far. -/
theorem val_node (a1 a2 a3 : Option Addr) (z1 z2 z3 c1 c2 c3 : Nat) (mn sl : Int) (q1 : (z1 : Int) ≤ 1048576) (q2 : (z2 : Int) ≤ 1048576) (q3 : (z3 : Int) ≤ 1048576) (s0 : 0 ≤ sl) (s1 : sl ≤ 1048576) (k p n l : Int) (s : ByteArray) (a : Option Addr) (ks : List Co.T) (c : Nat) (hz : (ks.length : Int) ≤ 1048576) (zs : (s.size : Int) ≤ 1048576) (hkz : ∀ x ∈ ks, (x.text.size : Int) ≤ 1048576) (d : Int) (d0 : 0 ≤ d) (d1 : d ≤ 1000) (H : HeadH ⟨sl, z3, z1, z2⟩ k p n l d ks) (loop made : Bool) (w : World) (hk : Kids w (.slice a ks.length c) ks) (hI : KidsV ⟨sl, z3, z1, z2⟩ (.agg #[.slice a1 z1 c1, .slice a2 z2 c2, .slice a3 z3 c3, .int .i64 mn]) ks (d + 1)) :
    Calls Tryd.prog 30 #[.agg #[.slice a1 z1 c1, .slice a2 z2 c2, .slice a3 z3 c3, .int .i64 mn], .int .i64 sl, .agg #[.int .i64 k, .int .i64 p, .int .i64 n, .int .i64 l, .string s, .slice a ks.length c], .bool loop, .bool made, .int .i64 d] w (RetV w ((Co.T.node k p n l s ks).ok ⟨sl, z3, z1, z2⟩ loop made d)) := by
  by_cases k11 : k = 11
  · subst k11
    have htx := txt_other (k := 11) (s := s) (by decide) (by decide)
    have had := admit_other (k := 11) (loop := loop) (made := made) (by decide) (by decide)
    cases he : s.toList.isEmpty
    · rw [he] at htx
      rw [show (Co.T.node 11 p n l s ks).ok ⟨sl, z3, z1, z2⟩ loop made d = false from ok_no (by rw [H.eq, htx]; simp)]
      exact val_f3 a1 a2 a3 z1 z2 z3 c1 c2 c3 mn sl q1 q2 q3 s0 s1 p n l s a ks.length c hz zs d d0 d1 H.q40 H.l0 H.q4 H.q5 H.hn he loop made w
    · rw [he] at htx
      have hs := empty_size he
      have hyes : Co.headB ⟨sl, z3, z1, z2⟩ 11 p n l s ks loop made d = Co.opOk 11 p ks := by
        rw [H.eq, htx, had]; simp
      by_cases p79 : p = 79
      · subst p79
        have hi : 1 < ks.length := by have h := H.q4; rw [show Co.cLo 11 79 = 2 from rfl] at h; omega
        rw [op_79 hi] at hyes
        have hys := hkz ks[1] (List.getElem_mem hi)
        by_cases y2 : ks[1].kind = 2
        · cases hnm : Tk.isName ks[1].text.data.toList
          · rw [hnm, Bool.and_false] at hyes
            rw [ok_no hyes]
            exact val_r79b a1 a2 a3 z1 z2 z3 c1 c2 c3 mn sl q1 q2 q3 s0 s1 79 n l s a ks c hz zs d d0 d1 H.q40 H.l0 H.q4 H.q5 H.hn he hs rfl rfl hi (by rw [y2]; rfl) hys hnm loop made w hk hI
          · rw [hnm, decide_eq_true y2] at hyes
            rw [ok_yes hyes]
            exact val_c79 a1 a2 a3 z1 z2 z3 c1 c2 c3 mn sl q1 q2 q3 s0 s1 79 n l s a ks c hz zs d d0 d1 H.q40 H.l0 H.q4 H.q5 H.hn he hs rfl rfl hi (by rw [y2]; rfl) hys hnm loop made w hk hI
        · rw [decide_eq_false y2, Bool.false_and] at hyes
          rw [ok_no hyes]
          exact val_r79a a1 a2 a3 z1 z2 z3 c1 c2 c3 mn sl q1 q2 q3 s0 s1 79 n l s a ks c hz zs d d0 d1 H.q40 H.l0 H.q4 H.q5 H.hn he hs rfl rfl hi (bne_iff_ne.2 y2) loop made w hk hI
      · by_cases p81 : p = 81
        · subst p81
          have hi : 0 < ks.length := by have h := H.q4; rw [show Co.cLo 11 81 = 1 from rfl] at h; omega
          rw [op_81 hi] at hyes
          by_cases y5 : ks[0].kind = 5
          · rw [decide_eq_true (.inl y5)] at hyes
            rw [ok_yes hyes]
            exact val_c81a a1 a2 a3 z1 z2 z3 c1 c2 c3 mn sl q1 q2 q3 s0 s1 81 n l s a ks c hz zs d d0 d1 H.q40 H.l0 H.q4 H.q5 H.hn he hs rfl rfl hi (by rw [y5]; rfl) loop made w hk hI
          · by_cases y6 : ks[0].kind = 6
            · rw [decide_eq_true (.inr y6)] at hyes
              rw [ok_yes hyes]
              exact val_c81b a1 a2 a3 z1 z2 z3 c1 c2 c3 mn sl q1 q2 q3 s0 s1 81 n l s a ks c hz zs d d0 d1 H.q40 H.l0 H.q4 H.q5 H.hn he hs rfl rfl hi (bne_iff_ne.2 y5) (by rw [y6]; rfl) loop made w hk hI
            · rw [decide_eq_false (fun h => by rcases h with h | h; exact y5 h; exact y6 h)] at hyes
              rw [ok_no hyes]
              exact val_r81 a1 a2 a3 z1 z2 z3 c1 c2 c3 mn sl q1 q2 q3 s0 s1 81 n l s a ks c hz zs d d0 d1 H.q40 H.l0 H.q4 H.q5 H.hn he hs rfl rfl hi (bne_iff_ne.2 y5) (bne_iff_ne.2 y6) loop made w hk hI
        · rw [op_other (fun h => p79 h.2) (fun h => p81 h.2)] at hyes
          rw [ok_yes hyes]
          exact val_c11 a1 a2 a3 z1 z2 z3 c1 c2 c3 mn sl q1 q2 q3 s0 s1 p n l s a ks c hz zs d d0 d1 H.q40 H.l0 H.q4 H.q5 H.hn he hs (beq_eq_false_iff_ne.2 p79) (beq_eq_false_iff_ne.2 p81) loop made w hk hI
  · have n11 : (k != 11) = true := bne_iff_ne.2 k11
    by_cases p0 : p = 0
    case neg =>
      rw [show (Co.T.node k p n l s ks).ok ⟨sl, z3, z1, z2⟩ loop made d = false from ok_no (by rw [H.eq, decide_eq_false k11, decide_eq_false p0]; rfl)]
      exact val_f1 a1 a2 a3 z1 z2 z3 c1 c2 c3 mn sl q1 q2 q3 s0 s1 p n l s a ks.length c hz zs d d0 d1 k H.q40 H.k1 H.k2 H.l0 H.q4 H.q5 H.hn n11 (bne_iff_ne.2 p0) loop made w
    have bp : (p != 0) = false := by rw [p0]; rfl
    have hop : Co.opOk k p ks = true := op_other (fun h => k11 h.1) (fun h => k11 h.1)
    have hyes : Co.headB ⟨sl, z3, z1, z2⟩ k p n l s ks loop made d = (Co.txtOk k s && Co.admit k loop made) := by
      rw [H.eq, decide_eq_true p0, hop]; simp
    by_cases k2 : k = 2
    · subst k2
      have had := admit_other (k := 2) (loop := loop) (made := made) (by decide) (by decide)
      have htx : Co.txtOk 2 s = decide (s.size ≤ 120) := rfl
      rw [had, htx, Bool.and_true] at hyes
      by_cases h120 : s.size ≤ 120
      · rw [decide_eq_true h120] at hyes
        rw [ok_yes hyes]
        exact val_c2 a1 a2 a3 z1 z2 z3 c1 c2 c3 mn sl q1 q2 q3 s0 s1 p n l s a ks c hz zs d d0 d1 H.q40 H.l0 H.q4 H.q5 H.hn bp (by omega) (by omega) loop made w hk hI
      · rw [decide_eq_false h120] at hyes
        rw [ok_no hyes]
        by_cases h128 : s.size ≤ 128
        · exact val_f5 a1 a2 a3 z1 z2 z3 c1 c2 c3 mn sl q1 q2 q3 s0 s1 p n l s a ks.length c hz zs d d0 d1 H.q40 H.l0 H.q4 H.q5 H.hn bp (by omega) (by omega) loop made w
        · exact val_f4 a1 a2 a3 z1 z2 z3 c1 c2 c3 mn sl q1 q2 q3 s0 s1 p n l s a ks.length c hz zs d d0 d1 H.q40 H.l0 H.q4 H.q5 H.hn bp (by omega) loop made w
    by_cases k3 : k = 3
    · subst k3
      have had := admit_other (k := 3) (loop := loop) (made := made) (by decide) (by decide)
      have htx : Co.txtOk 3 s = Co.elems s := rfl
      rw [had, htx, Bool.and_true] at hyes
      by_cases h128 : s.size ≤ 128
      case neg =>
        have he : Co.elems s = false := by
          cases h : Co.elems s
          · rfl
          · exact absurd (Co.elems_len h) h128
        rw [he] at hyes
        rw [ok_no hyes]
        exact val_f6 a1 a2 a3 z1 z2 z3 c1 c2 c3 mn sl q1 q2 q3 s0 s1 p n l s a ks.length c hz zs d d0 d1 H.q40 H.l0 H.q4 H.q5 H.hn bp (by omega) loop made w
      unfold Co.elems at hyes
      cases hg : Cs.good s
      · rw [hg, Bool.false_and] at hyes
        rw [ok_no hyes]
        exact val_s1 a1 a2 a3 z1 z2 z3 c1 c2 c3 mn sl q1 q2 q3 s0 s1 p n l s a ks.length c hz zs d d0 d1 H.q40 H.l0 H.q4 H.q5 H.hn bp (by omega) hg loop made w
      · cases ht : ((txt (Cs.text (Cs.newL s) (Cs.newH s))).toList == s.toList)
        · rw [hg, ht] at hyes
          rw [ok_no hyes]
          exact val_s2 a1 a2 a3 z1 z2 z3 c1 c2 c3 mn sl q1 q2 q3 s0 s1 p n l s a ks.length c hz zs d d0 d1 H.q40 H.l0 H.q4 H.q5 H.hn bp (by omega) hg ht loop made w
        · rw [hg, ht] at hyes
          rw [ok_yes hyes]
          exact val_c3 a1 a2 a3 z1 z2 z3 c1 c2 c3 mn sl q1 q2 q3 s0 s1 p n l s a ks c hz zs d d0 d1 H.q40 H.l0 H.q4 H.q5 H.hn bp (by omega) hg ht loop made w hk hI
    rw [txt_other k2 k3] at hyes
    cases he : s.toList.isEmpty
    · rw [he, Bool.false_and] at hyes
      rw [ok_no hyes]
      exact val_f2 a1 a2 a3 z1 z2 z3 c1 c2 c3 mn sl q1 q2 q3 s0 s1 p n l s a ks.length c hz zs d d0 d1 k H.q40 H.k1 H.k2 H.l0 H.q4 H.q5 H.hn n11 bp (bne_iff_ne.2 k2) (bne_iff_ne.2 k3) he loop made w
    have hs := empty_size he
    rw [he, Bool.true_and] at hyes
    have n2 : (k != 2) = true := bne_iff_ne.2 k2
    have n3 : (k != 3) = true := bne_iff_ne.2 k3
    by_cases k20 : k = 20
    · subst k20
      have had : Co.admit 20 loop made = loop := rfl
      rw [had] at hyes
      cases loop
      · rw [ok_no hyes]
        exact val_r20 a1 a2 a3 z1 z2 z3 c1 c2 c3 mn sl q1 q2 q3 s0 s1 p n l s a ks c hz zs d d0 d1 H.q40 H.l0 H.q4 H.q5 H.hn he hs bp made w hk hI
      · rw [ok_yes hyes]
        exact val_c20 a1 a2 a3 z1 z2 z3 c1 c2 c3 mn sl q1 q2 q3 s0 s1 p n l s a ks c hz zs d d0 d1 H.q40 H.l0 H.q4 H.q5 H.hn he hs bp made w hk hI
    by_cases k21 : k = 21
    · subst k21
      have had : Co.admit 21 loop made = loop := rfl
      rw [had] at hyes
      cases loop
      · rw [ok_no hyes]
        exact val_r21 a1 a2 a3 z1 z2 z3 c1 c2 c3 mn sl q1 q2 q3 s0 s1 p n l s a ks c hz zs d d0 d1 H.q40 H.l0 H.q4 H.q5 H.hn he hs bp made w hk hI
      · rw [ok_yes hyes]
        exact val_c21 a1 a2 a3 z1 z2 z3 c1 c2 c3 mn sl q1 q2 q3 s0 s1 p n l s a ks c hz zs d d0 d1 H.q40 H.l0 H.q4 H.q5 H.hn he hs bp made w hk hI
    by_cases k18 : k = 18
    · subst k18
      rw [ok_yes (hyes.trans rfl)]
      exact val_c18 a1 a2 a3 z1 z2 z3 c1 c2 c3 mn sl q1 q2 q3 s0 s1 p n l s a ks c hz zs d d0 d1 H.q40 H.l0 H.q4 H.q5 H.hn he hs bp loop made w hk hI
    by_cases k19 : k = 19
    · subst k19
      rw [ok_yes (hyes.trans rfl)]
      exact val_c19 a1 a2 a3 z1 z2 z3 c1 c2 c3 mn sl q1 q2 q3 s0 s1 p n l s a ks c hz zs d d0 d1 H.q40 H.l0 H.q4 H.q5 H.hn he hs bp loop made w hk hI
    by_cases k26 : k = 26
    · subst k26
      rw [ok_yes (hyes.trans rfl), made_t rfl]
      exact val_c26 a1 a2 a3 z1 z2 z3 c1 c2 c3 mn sl q1 q2 q3 s0 s1 p n l s a ks c hz zs d d0 d1 H.q40 H.l0 H.q4 H.q5 H.hn he hs bp loop made w hk hI
    have b2 := beq_eq_false_iff_ne.2 k2
    have b3 := beq_eq_false_iff_ne.2 k3
    have b11 := beq_eq_false_iff_ne.2 k11
    have b18 := beq_eq_false_iff_ne.2 k18
    have b19 := beq_eq_false_iff_ne.2 k19
    have b20 := beq_eq_false_iff_ne.2 k20
    have b21 := beq_eq_false_iff_ne.2 k21
    have b26 := beq_eq_false_iff_ne.2 k26
    have n20 : (k != 20) = true := bne_iff_ne.2 k20
    have n26 : (k != 26) = true := bne_iff_ne.2 k26
    by_cases kr : 23 ≤ k ∧ k ≤ 25
    · have had : Co.admit k loop made = !made := by
        unfold Co.admit
        rw [if_neg (by omega), if_pos (by omega)]
      rw [had] at hyes
      cases made
      · rw [ok_yes hyes]
        exact val_cr a1 a2 a3 z1 z2 z3 c1 c2 c3 mn sl q1 q2 q3 s0 s1 p n l s a ks c hz zs d d0 d1 k H.q40 H.k1 H.k2 H.l0 H.q4 H.q5 H.hn he hs bp b2 b3 b11 b18 b19 b20 b21 b26 n2 n3 n11 n20 n26 kr.1 kr.2 loop w hk hI
      · rw [ok_no hyes]
        exact val_rr a1 a2 a3 z1 z2 z3 c1 c2 c3 mn sl q1 q2 q3 s0 s1 p n l s a ks c hz zs d d0 d1 k H.q40 H.k1 H.k2 H.l0 H.q4 H.q5 H.hn he hs bp b2 b3 b11 b18 b19 b20 b21 b26 n2 n3 n11 n20 n26 kr.1 kr.2 loop w hk hI
    · rw [admit_other (by omega) (by omega)] at hyes
      rw [ok_yes hyes]
      by_cases kl : k < 23
      · exact val_co1 a1 a2 a3 z1 z2 z3 c1 c2 c3 mn sl q1 q2 q3 s0 s1 p n l s a ks c hz zs d d0 d1 k H.q40 H.k1 H.k2 H.l0 H.q4 H.q5 H.hn he hs bp b2 b3 b11 b18 b19 b20 b21 b26 n2 n3 n11 n20 n26 kl loop made w hk hI
      · exact val_co2 a1 a2 a3 z1 z2 z3 c1 c2 c3 mn sl q1 q2 q3 s0 s1 p n l s a ks c hz zs d d0 d1 k H.q40 H.k1 H.k2 H.l0 H.q4 H.q5 H.hn he hs bp b2 b3 b11 b18 b19 b20 b21 b26 n2 n3 n11 n20 n26 (by omega) loop made w hk hI
/-- The model's check of every tree. -/
theorem spec_val (a1 a2 a3 : Option Addr) (z1 z2 z3 c1 c2 c3 : Nat) (mn sl : Int) (q1 : (z1 : Int) ≤ 1048576) (q2 : (z2 : Int) ≤ 1048576) (q3 : (z3 : Int) ≤ 1048576) (s0 : 0 ≤ sl) (s1 : sl ≤ 1048576) : ∀ (N : Nat) (t : Co.T), t.count ≤ N → t.bulk ≤ 1048576 → ∀ (loop made : Bool) (d : Int), 0 ≤ d → d ≤ 1000 → ∀ (w : World) (v : Value), Kids w v t.kids →
    Calls Tryd.prog 30 #[.agg #[.slice a1 z1 c1, .slice a2 z2 c2, .slice a3 z3 c3, .int .i64 mn], .int .i64 sl, exV t v, .bool loop, .bool made, .int .i64 d] w (RetV w (t.ok ⟨sl, z3, z1, z2⟩ loop made d)) := by
  intro N
  induction N with
  | zero => intro t h; have := Co.count_pos t; omega
  | succ N ih =>
    intro t hN hb loop made d d0 d1 w v hk
    have hbe := bulk_eq t
    obtain ⟨a, c, rfl⟩ := kids_len hk
    have hI : d ≤ 400 → KidsV ⟨sl, z3, z1, z2⟩ (.agg #[.slice a1 z1 c1, .slice a2 z2 c2, .slice a3 z3 c3, .int .i64 mn]) t.kids (d + 1) := fun hd x hx lp md wx vx hkx => ih x (by have := kids_count hx; omega) (by have := Co.bulks_mem hx; omega) lp md (d + 1) (by omega) (by omega) wx vx hkx
    have hkz : ∀ x ∈ t.kids, (x.text.size : Int) ≤ 1048576 := fun x hx => by have h1 := Co.bulks_mem hx; have h2 := bulk_eq x; omega
    have hz : (t.kids.length : Int) ≤ 1048576 := by omega
    have zs : (t.text.size : Int) ≤ 1048576 := by omega
    cases t with
    | node k p n l s ks =>
      show Calls Tryd.prog 30 #[.agg #[.slice a1 z1 c1, .slice a2 z2 c2, .slice a3 z3 c3, .int .i64 mn], .int .i64 sl, .agg #[.int .i64 k, .int .i64 p, .int .i64 n, .int .i64 l, .string s, .slice a ks.length c], .bool loop, .bool made, .int .i64 d] w _
      by_cases q40 : d ≤ 400
      case neg => rw [ok_no (by unfold Co.headB; rw [decide_eq_false q40]; simp only [Bool.false_and])]; exact val_h0 a1 a2 a3 z1 z2 z3 c1 c2 c3 mn sl q1 q2 q3 s0 s1 p n l s a ks.length c hz zs d d0 d1 k (by omega) loop made w
      by_cases k1 : 1 ≤ k
      case neg => rw [ok_no (by unfold Co.headB; rw [decide_eq_false k1]; simp only [Bool.false_and, Bool.and_false])]; exact val_h1 a1 a2 a3 z1 z2 z3 c1 c2 c3 mn sl q1 q2 q3 s0 s1 p n l s a ks.length c hz zs d d0 d1 k q40 (by omega) loop made w
      by_cases k2 : k ≤ 28
      case neg => rw [ok_no (by unfold Co.headB; rw [decide_eq_false k2]; simp only [Bool.false_and, Bool.and_false])]; exact val_h2 a1 a2 a3 z1 z2 z3 c1 c2 c3 mn sl q1 q2 q3 s0 s1 p n l s a ks.length c hz zs d d0 d1 k q40 k1 (by omega) loop made w
      by_cases l0 : 0 ≤ l
      case neg => rw [ok_no (by unfold Co.headB; rw [decide_eq_false l0]; simp only [Bool.false_and, Bool.and_false])]; exact val_h3 a1 a2 a3 z1 z2 z3 c1 c2 c3 mn sl q1 q2 q3 s0 s1 p n l s a ks.length c hz zs d d0 d1 k q40 k1 k2 (by omega) loop made w
      by_cases q4 : Co.cLo k p ≤ (ks.length : Int)
      case neg => rw [ok_no (by unfold Co.headB; rw [decide_eq_false q4]; simp only [Bool.false_and, Bool.and_false])]; exact val_h4 a1 a2 a3 z1 z2 z3 c1 c2 c3 mn sl q1 q2 q3 s0 s1 p n l s a ks.length c hz zs d d0 d1 k q40 k1 k2 l0 (by omega) loop made w
      by_cases q5 : (ks.length : Int) ≤ Co.cHi k p
      case neg => rw [ok_no (by unfold Co.headB; rw [decide_eq_false q5]; simp only [Bool.false_and, Bool.and_false])]; exact val_h5 a1 a2 a3 z1 z2 z3 c1 c2 c3 mn sl q1 q2 q3 s0 s1 p n l s a ks.length c hz zs d d0 d1 k q40 k1 k2 l0 q4 (by omega) loop made w
      cases hn : Co.numOk ⟨sl, z3, z1, z2⟩ k n
      · rw [ok_no (by unfold Co.headB; rw [hn]; simp only [Bool.false_and, Bool.and_false])]; exact val_h6 a1 a2 a3 z1 z2 z3 c1 c2 c3 mn sl q1 q2 q3 s0 s1 p n l s a ks.length c hz zs d d0 d1 k q40 k1 k2 l0 q4 q5 hn loop made w
      · exact val_node a1 a2 a3 z1 z2 z3 c1 c2 c3 mn sl q1 q2 q3 s0 s1 k p n l s a ks c hz zs hkz d d0 d1 ⟨q40, k1, k2, l0, q4, q5, hn⟩ loop made w hk (hI q40)
end Go.Proofs.YtbadepiakkhabaaDoor.Cr
