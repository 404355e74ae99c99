/- Joined texts: V47. No conditions besides those that each states. -/
import Derived.StillTailTactics
import Derived.BigQuiet
import Derived.Test.YtckjmmapekaapaaGreatDoorZ30
import Derived.Test.YtckjmmapekaapaaGreatDoorZ49
/- The program's surroundings of kids, variables, faults of nodes. The table reads as the program's text lays it. -/
namespace Go.Proofs.YtckjmmapekaapaaGreatDoor
open Go.RowKit
set_option linter.unusedVariables false

def RetSur (w : World) (a b : Bool) (e : Ending) (w' : World) : Prop := e = .returned (.agg #[.bool a, .bool b]) ∧ Below w.heap.size w w'
theorem sur_ret {a b c d : Bool} (h : a = c) (h2 : b = d) : Ending.returned (.agg #[.bool a, .bool b]) = .returned (.agg #[.bool c, .bool d]) := by rw [h, h2]
set_option maxRecDepth 100000 in
set_option maxHeartbeats 3200000 in
theorem impl_ofKid (k : Int) (loop made : Bool) (i : Nat) (hi : (i : Int) ≤ 1048576) (g o : Nat) (w : World) (hk : w.cell? ⟨g, o, none⟩ = some (.int .i64 k)) :
    Calls Tryz.prog 102 #[.agg #[.bool loop, .bool made], .pointer (some ⟨g, o, none⟩), .int .i64 (i : Int)] w (RetSur w (kidL k loop i) (made || k == 26)) := by
  unfold RetSur
  have hi0 : (0 : Int) ≤ (i : Int) := by omega
  have HB : Hid (Below w.heap.size w ((w.alloc (.cells #[.bool loop, .bool made] 134)).alloc (.cells #[.bool false, .bool false] 134))) := Lib.hid (bl2 _ _ _)
  have hk2 := subw_below HB.out _ _ _ hk
  clear hk
  by_cases h16 : k = 16
  · subst h16
    by_cases h1 : i = 1
    · have tj : ((i : Int) == 1) = true := by rw [h1]; rfl
      have HL : Hid (true = kidL 16 loop i) := Lib.hid (by rw [h1]; rfl)
      have HM : Hid (made = (made || (16 : Int) == 26)) := Lib.hid (by cases made <;> rfl)
      clear h1
      go_enter Tryz.func102, Tryz.ntmps102
      go_wp2
      exact bodyPost_ret (v := .agg #[.bool (true), .bool (made)]) (by simp [results, Tryz.results102, go_sem]) rfl ⟨sur_ret HL.out HM.out, bl2 _ _ _⟩
    · have tj : ((i : Int) == 1) = false := kind_nb (by omega)
      have HL : Hid (false = kidL 16 loop i) := Lib.hid (by show false = (i == 1); simp [h1])
      have HM : Hid (made = (made || (16 : Int) == 26)) := Lib.hid (by cases made <;> rfl)
      clear h1
      go_enter Tryz.func102, Tryz.ntmps102
      go_wp2
      exact bodyPost_ret (v := .agg #[.bool (false), .bool (made)]) (by simp [results, Tryz.results102, go_sem]) rfl ⟨sur_ret HL.out HM.out, bl2 _ _ _⟩
  by_cases h17 : k = 17
  · subst h17
    by_cases h1 : i = 1
    · have tj : ((i : Int) == 1) = true := by rw [h1]; rfl
      have HL : Hid (true = kidL 17 loop i) := Lib.hid (by rw [h1]; rfl)
      have HM : Hid (made = (made || (17 : Int) == 26)) := Lib.hid (by cases made <;> rfl)
      clear h1
      go_enter Tryz.func102, Tryz.ntmps102
      go_wp2
      exact bodyPost_ret (v := .agg #[.bool (true), .bool (made)]) (by simp [results, Tryz.results102, go_sem]) rfl ⟨sur_ret HL.out HM.out, bl2 _ _ _⟩
    · have tj : ((i : Int) == 1) = false := kind_nb (by omega)
      have HL : Hid (false = kidL 17 loop i) := Lib.hid (by show false = (i == 1); simp [h1])
      have HM : Hid (made = (made || (17 : Int) == 26)) := Lib.hid (by cases made <;> rfl)
      clear h1
      go_enter Tryz.func102, Tryz.ntmps102
      go_wp2
      exact bodyPost_ret (v := .agg #[.bool (false), .bool (made)]) (by simp [results, Tryz.results102, go_sem]) rfl ⟨sur_ret HL.out HM.out, bl2 _ _ _⟩
  by_cases h18 : k = 18
  · subst h18
    by_cases h1 : i = 1
    · have tj : ((i : Int) == 1) = true := by rw [h1]; rfl
      have HL : Hid (true = kidL 18 loop i) := Lib.hid (by rw [h1]; rfl)
      have HM : Hid (made = (made || (18 : Int) == 26)) := Lib.hid (by cases made <;> rfl)
      clear h1
      go_enter Tryz.func102, Tryz.ntmps102
      go_wp2
      exact bodyPost_ret (v := .agg #[.bool (true), .bool (made)]) (by simp [results, Tryz.results102, go_sem]) rfl ⟨sur_ret HL.out HM.out, bl2 _ _ _⟩
    · have tj : ((i : Int) == 1) = false := kind_nb (by omega)
      have HL : Hid (false = kidL 18 loop i) := Lib.hid (by show false = (i == 1); simp [h1])
      have HM : Hid (made = (made || (18 : Int) == 26)) := Lib.hid (by cases made <;> rfl)
      clear h1
      go_enter Tryz.func102, Tryz.ntmps102
      go_wp2
      exact bodyPost_ret (v := .agg #[.bool (false), .bool (made)]) (by simp [results, Tryz.results102, go_sem]) rfl ⟨sur_ret HL.out HM.out, bl2 _ _ _⟩
  by_cases h19 : k = 19
  · subst h19
    have HL : Hid (true = kidL 19 loop i) := Lib.hid rfl
    have HM : Hid (made = (made || (19 : Int) == 26)) := Lib.hid (by cases made <;> rfl)
    go_enter Tryz.func102, Tryz.ntmps102
    go_wp2
    exact bodyPost_ret (v := .agg #[.bool (true), .bool (made)]) (by simp [results, Tryz.results102, go_sem]) rfl ⟨sur_ret HL.out HM.out, bl2 _ _ _⟩
  by_cases h24 : k = 24
  · subst h24
    have HL : Hid (false = kidL 24 loop i) := Lib.hid rfl
    have HM : Hid (made = (made || (24 : Int) == 26)) := Lib.hid (by cases made <;> rfl)
    go_enter Tryz.func102, Tryz.ntmps102
    go_wp2
    exact bodyPost_ret (v := .agg #[.bool (false), .bool (made)]) (by simp [results, Tryz.results102, go_sem]) rfl ⟨sur_ret HL.out HM.out, bl2 _ _ _⟩
  by_cases h26 : k = 26
  · subst h26
    have HL : Hid (false = kidL 26 loop i) := Lib.hid rfl
    have HM : Hid (true = (made || (26 : Int) == 26)) := Lib.hid (by cases made <;> rfl)
    go_enter Tryz.func102, Tryz.ntmps102
    go_wp2
    exact bodyPost_ret (v := .agg #[.bool (false), .bool (true)]) (by simp [results, Tryz.results102, go_sem]) rfl ⟨sur_ret HL.out HM.out, bl2 _ _ _⟩
  have t16 : (k == 16) = false := kind_nb h16
  have t17 : (k == 17) = false := kind_nb h17
  have t18 : (k == 18) = false := kind_nb h18
  have t19 : (k == 19) = false := kind_nb h19
  have t24 : (k == 24) = false := kind_nb h24
  have t26 : (k == 26) = false := kind_nb h26
  have HL : Hid (loop = kidL k loop i) := Lib.hid (by unfold kidL; rw [t16, t17, t18, t19, t24, t26]; rfl)
  have HM : Hid (made = (made || k == 26)) := Lib.hid (by rw [t26]; cases made <;> rfl)
  clear h16 h17 h18 h19 h24 h26
  go_enter Tryz.func102, Tryz.ntmps102
  go_wp2
  exact bodyPost_ret (v := .agg #[.bool (loop), .bool (made)]) (by simp [results, Tryz.results102, go_sem]) rfl ⟨sur_ret HL.out HM.out, bl2 _ _ _⟩
/-- Is it a local or a global variable? -/
def isVar (u : Un) (L : List ByteArray) (s : ByteArray) : Bool := (means u L s).1 == 1 || (means u L s).1 == 2
theorem isVar_flt (u : Un) (L : List ByteArray) (s : ByteArray) : isVar u L s = !((fx L s).isNone && !((outer u s).1 == 2)) := by
  unfold isVar means
  cases fx L s with
  | some k => rfl
  | none =>
    have h : ((outer u s).1 == 1) = false := by
      unfold outer
      split
      · rfl
      · split
        · rfl
        · split
          · rfl
          · split <;> rfl
    simp only [Option.isNone_none, Bool.true_and, Bool.not_not]
    rw [h, Bool.false_or]
set_option maxRecDepth 100000 in
set_option maxHeartbeats 3200000 in
theorem impl_isVar (u : Un) (L : List ByteArray) (s : ByteArray) (hs : s.size ≤ maxLen) (bm bf n : Nat) (w : World) (hm : MapM w bm n (meanU u L)) (hN : NamesAt w) :
    Calls Tryz.prog 112 #[.agg #[.map (some bm), .map (some bf)], .string s] w fun e w' => e = .returned (.bool (isVar u L s)) ∧ Below w.heap.size w w' := by
  have n1 := bl1 w (.cells #[.map (some bm), .map (some bf)] 131)
  have HOF := Lib.hid (impl_of bm n (meanU u L) s _ (hm.later n1) (hN.later n1) hs)
  unfold RetM at HOF
  rw [meanOf_means] at HOF
  have HB1 := Lib.hid n1
  have HV : Hid (isVar u L s = ((means u L s).1 == 1 || (means u L s).1 == 2)) := Lib.hid rfl
  obtain ⟨p, hp⟩ : ∃ p, means u L s = p := ⟨_, rfl⟩
  rw [hp] at HOF HV
  have hfld : ∀ W : World, (Instr.field 100 (meanV p) 0).run Tryz.prog W = .ok (.int .i64 p.1) W := fun W => by kernel_rfl
  clear hp n1 hm hN
  by_cases h1 : p.1 = 1
  · have t1 : (p.1 == 1) = true := kind_b h1
    have HX : Hid (isVar u L s = true) := Lib.hid (by rw [HV.out, t1]; rfl)
    rw [HX.out]
    clear h1 HX HV
    go_enter Tryz.func112, Tryz.ntmps112
    go_wp2_with fail
    refine HOF.out.mono ?_
    rintro e w2 ⟨rfl, b2⟩
    have HB2 := Lib.hid (below_then HB1.out b2)
    clear b2
    go_wp2
    go_ret
    exact ⟨rfl, HB2.out⟩
  · have t1 : (p.1 == 1) = false := kind_nb h1
    by_cases h2 : p.1 = 2
    · have t2 : (p.1 == 2) = true := kind_b h2
      have HX : Hid (isVar u L s = true) := Lib.hid (by rw [HV.out, t1, t2]; rfl)
      rw [HX.out]
      clear h1 h2 HX HV
      go_enter Tryz.func112, Tryz.ntmps112
      go_wp2_with fail
      refine HOF.out.mono ?_
      rintro e w2 ⟨rfl, b2⟩
      have HB2 := Lib.hid (below_then HB1.out b2)
      clear b2
      go_wp2
      go_ret
      exact ⟨rfl, HB2.out⟩
    · have t2 : (p.1 == 2) = false := kind_nb h2
      have HX : Hid (isVar u L s = false) := Lib.hid (by rw [HV.out, t1, t2]; rfl)
      rw [HX.out]
      clear h1 h2 HX HV
      go_enter Tryz.func112, Tryz.ntmps112
      go_wp2_with fail
      refine HOF.out.mono ?_
      rintro e w2 ⟨rfl, b2⟩
      have HB2 := Lib.hid (below_then HB1.out b2)
      clear b2
      go_wp2
      go_ret
      exact ⟨rfl, HB2.out⟩
/-- What a checker of nodes has. -/
def CkAt (u : Un) (L : List ByteArray) (bm bf : Nat) (w : World) : Prop := (∃ n, MapM w bm n (meanU u L)) ∧ (∃ m, SetM w bf m fun x => u.recs.any fun r => (fx r.fields x).isSome) ∧ NamesAt w
theorem CkAt.later {u : Un} {L : List ByteArray} {bm bf : Nat} {w w' : World} (h : CkAt u L bm bf w) (hb : Below w.heap.size w w') : CkAt u L bm bf w' :=
  ⟨⟨_, h.1.choose_spec.later hb⟩, ⟨_, h.2.1.choose_spec.later hb⟩, h.2.2.later hb⟩
set_option maxRecDepth 100000 in
set_option maxHeartbeats 6400000 in
theorem impl_check (u : Un) (L : List ByteArray) (bm bf : Nat) (k : Int) (s : ByteArray) (hs : s.size ≤ maxLen) (loop made : Bool) (g o : Nat) (w : World) (hc : CkAt u L bm bf w) (q0 : w.cell? ⟨g, o, none⟩ = some (.int .i64 k)) (q1 : w.cell? ⟨g, o + 1, none⟩ = some (.string s)) :
    Calls Tryz.prog 101 #[.agg #[.map (some bm), .map (some bf)], .pointer (some ⟨g, o, none⟩), .agg #[.bool loop, .bool made]] w fun e w' => e = .returned (.int .i64 (flt u L k s loop made)) ∧ Below w.heap.size w w' := by
  have hb2 := bl2 w (.cells #[.map (some bm), .map (some bf)] 131) (.cells #[.bool loop, .bool made] 134)
  have V1 := (Var.new w #[.map (some bm), .map (some bf)] 131).later (bl1 _ (.cells #[.bool loop, .bool made] 134))
  have V2 := Var.new (w.alloc (.cells #[.map (some bm), .map (some bf)] 131)) #[.bool loop, .bool made] 134
  rw [World.size_alloc] at V2
  have r0 := subw_below hb2 _ _ _ q0
  have r1 := subw_below hb2 _ _ _ q1
  have hc2 := hc.later hb2
  obtain ⟨w2, hw2⟩ : ∃ W, (w.alloc (.cells #[.map (some bm), .map (some bf)] 131)).alloc (.cells #[.bool loop, .bool made] 134) = W := ⟨_, rfl⟩
  rw [hw2] at hb2 V1 V2 r0 r1 hc2
  have HW2 := Lib.hid hw2
  have HB := Lib.hid hb2
  have HC := Lib.hid hc2
  have HV1 := Lib.hid V1
  have v0 := (V2 0 _ rfl).1
  have v1 := (V2 1 _ rfl).1
  clear hw2 hb2 hc2 V1 V2 hc q0 q1
  by_cases h24 : k = 24
  · subst h24
    cases loop
    · have HX : Hid (4 = flt u L 24 s false made) := Lib.hid (flt_loop (by omega)).symm
      obtain rfl := HW2.out
      go_enter Tryz.func101, Tryz.ntmps101
      go_wp2
      go_ret
      exact ⟨ret_in HX.out, HB.out⟩
    · have HX : Hid (0 = flt u L 24 s true made) := Lib.hid (flt_zero (fun _ => rfl) (fun h => absurd h (by omega)) (fun h => absurd h (by omega)) (fun h => absurd h (by omega))).symm
      obtain rfl := HW2.out
      go_enter Tryz.func101, Tryz.ntmps101
      go_wp2
      go_ret
      exact ⟨ret_in HX.out, HB.out⟩
  by_cases h25 : k = 25
  · subst h25
    cases loop
    · have HX : Hid (4 = flt u L 25 s false made) := Lib.hid (flt_loop (by omega)).symm
      obtain rfl := HW2.out
      go_enter Tryz.func101, Tryz.ntmps101
      go_wp2
      go_ret
      exact ⟨ret_in HX.out, HB.out⟩
    · have HX : Hid (0 = flt u L 25 s true made) := Lib.hid (flt_zero (fun _ => rfl) (fun h => absurd h (by omega)) (fun h => absurd h (by omega)) (fun h => absurd h (by omega))).symm
      obtain rfl := HW2.out
      go_enter Tryz.func101, Tryz.ntmps101
      go_wp2
      go_ret
      exact ⟨ret_in HX.out, HB.out⟩
  by_cases h21 : k = 21
  · subst h21
    cases made
    · have HX : Hid (0 = flt u L 21 s loop false) := Lib.hid (flt_zero (fun h => absurd h (by omega)) (fun _ => rfl) (fun h => absurd h (by omega)) (fun h => absurd h (by omega))).symm
      obtain rfl := HW2.out
      go_enter Tryz.func101, Tryz.ntmps101
      go_wp2
      go_ret
      exact ⟨ret_in HX.out, HB.out⟩
    · have HX : Hid (4 = flt u L 21 s loop true) := Lib.hid (flt_made (by omega)).symm
      obtain rfl := HW2.out
      go_enter Tryz.func101, Tryz.ntmps101
      go_wp2
      go_ret
      exact ⟨ret_in HX.out, HB.out⟩
  by_cases h22 : k = 22
  · subst h22
    cases made
    · have HX : Hid (0 = flt u L 22 s loop false) := Lib.hid (flt_zero (fun h => absurd h (by omega)) (fun _ => rfl) (fun h => absurd h (by omega)) (fun h => absurd h (by omega))).symm
      obtain rfl := HW2.out
      go_enter Tryz.func101, Tryz.ntmps101
      go_wp2
      go_ret
      exact ⟨ret_in HX.out, HB.out⟩
    · have HX : Hid (4 = flt u L 22 s loop true) := Lib.hid (flt_made (by omega)).symm
      obtain rfl := HW2.out
      go_enter Tryz.func101, Tryz.ntmps101
      go_wp2
      go_ret
      exact ⟨ret_in HX.out, HB.out⟩
  by_cases h23 : k = 23
  · subst h23
    cases made
    · have HX : Hid (0 = flt u L 23 s loop false) := Lib.hid (flt_zero (fun h => absurd h (by omega)) (fun _ => rfl) (fun h => absurd h (by omega)) (fun h => absurd h (by omega))).symm
      obtain rfl := HW2.out
      go_enter Tryz.func101, Tryz.ntmps101
      go_wp2
      go_ret
      exact ⟨ret_in HX.out, HB.out⟩
    · have HX : Hid (4 = flt u L 23 s loop true) := Lib.hid (flt_made (by omega)).symm
      obtain rfl := HW2.out
      go_enter Tryz.func101, Tryz.ntmps101
      go_wp2
      go_ret
      exact ⟨ret_in HX.out, HB.out⟩
  by_cases h13 : k = 13
  · subst h13
    have hl := fun m => (HC.out.2.1.choose_spec.later (below_drewN (Below.refl w2.heap.size w2) m)).look hs
    cases hf : u.recs.any fun r => (fx r.fields s).isSome
    · have HX : Hid (5 = flt u L 13 s loop made) := Lib.hid (flt_field rfl hf).symm
      rw [hf] at hl
      clear hf
      have y1 := (HV1.out 1 _ rfl).1
      clear v0 v1 HV1 HC
      obtain rfl := HW2.out
      go_enter Tryz.func101, Tryz.ntmps101
      go_wp2
      go_quiet (fail)
      go_wp2
      go_ret
      exact ⟨ret_in HX.out, below_drewN HB.out _⟩
    · have HX : Hid (0 = flt u L 13 s loop made) := Lib.hid (flt_zero (fun h => absurd h (by omega)) (fun h => absurd h (by omega)) (fun _ => hf) (fun h => absurd h (by omega))).symm
      rw [hf] at hl
      clear hf
      have y1 := (HV1.out 1 _ rfl).1
      clear v0 v1 HV1 HC
      obtain rfl := HW2.out
      go_enter Tryz.func101, Tryz.ntmps101
      go_wp2
      go_quiet (fail)
      go_wp2
      go_ret
      exact ⟨ret_in HX.out, below_drewN HB.out _⟩
  by_cases h28 : k = 28
  · subst h28
    have HVC := Lib.hid (impl_isVar u L s hs bm bf _ w2.drew (HC.out.later (Below.refl w2.heap.size w2).drew).1.choose_spec (HC.out.2.2.later (Below.refl w2.heap.size w2).drew))
    rw [isVar_flt] at HVC
    cases hf : ((fx L s).isNone && !((outer u s).1 == 2))
    · have HX : Hid (0 = flt u L 28 s loop made) := Lib.hid (flt_zero (fun h => absurd h (by omega)) (fun h => absurd h (by omega)) (fun h => absurd h (by omega)) (fun _ hn => by
        rw [hn, Bool.true_and] at hf
        simpa using hf)).symm
      rw [hf] at HVC
      clear hf
      have y0 := (HV1.out 0 _ rfl).1
      have y1 := (HV1.out 1 _ rfl).1
      have r00 := r0
      rw [← HW2.out] at r00
      clear v0 v1 HV1 HC
      go_enter Tryz.func101, Tryz.ntmps101
      go_wp2_with fail
      rw [HW2.out]
      go_still_tail 5, (by kernel_rfl)
      change wpList _ _ _ _ _ w2.drew
      clear r00
      clear r0 r1 y0 y1
      go_wp2_with fail
      (with_reducible refine HVC.out.mono ?_)
      rintro e w3 ⟨rfl, b3⟩
      have HB3 := Lib.hid (below_then HB.out.drew b3)
      clear b3
      go_wp2
      go_ret
      exact ⟨ret_in HX.out, HB3.out⟩
    · have HX : Hid (6 = flt u L 28 s loop made) := Lib.hid (by
        simp only [Bool.and_eq_true, Option.isNone_iff_eq_none, Bool.not_eq_true', beq_eq_false_iff_ne] at hf
        exact (flt_defer rfl hf.1 hf.2).symm)
      rw [hf] at HVC
      clear hf
      have y0 := (HV1.out 0 _ rfl).1
      have y1 := (HV1.out 1 _ rfl).1
      have r00 := r0
      rw [← HW2.out] at r00
      clear v0 v1 HV1 HC
      go_enter Tryz.func101, Tryz.ntmps101
      go_wp2_with fail
      rw [HW2.out]
      go_still_tail 5, (by kernel_rfl)
      change wpList _ _ _ _ _ w2.drew
      clear r00
      clear r0 r1 y0 y1
      go_wp2_with fail
      (with_reducible refine HVC.out.mono ?_)
      rintro e w3 ⟨rfl, b3⟩
      have HB3 := Lib.hid (below_then HB.out.drew b3)
      clear b3
      go_wp2
      go_ret
      exact ⟨ret_in HX.out, HB3.out⟩
  have t24 : (k == 24) = false := kind_nb h24
  have t25 : (k == 25) = false := kind_nb h25
  have t21 : (k == 21) = false := kind_nb h21
  have t22 : (k == 22) = false := kind_nb h22
  have t23 : (k == 23) = false := kind_nb h23
  have t13 : (k == 13) = false := kind_nb h13
  have t28 : (k == 28) = false := kind_nb h28
  have HX : Hid (0 = flt u L k s loop made) := Lib.hid (flt_zero (fun h => by rcases h with h | h; exact absurd h h24; exact absurd h h25) (fun h => by rcases h with h | h | h; exact absurd h h21; exact absurd h h22; exact absurd h h23) (fun h => absurd h h13) (fun h => absurd h h28)).symm
  clear h24 h25 h21 h22 h23 h13 h28
  obtain rfl := HW2.out
  go_enter Tryz.func101, Tryz.ntmps101
  go_wp2
  go_ret
  exact ⟨ret_in HX.out, HB.out⟩
end Go.Proofs.YtckjmmapekaapaaGreatDoor
