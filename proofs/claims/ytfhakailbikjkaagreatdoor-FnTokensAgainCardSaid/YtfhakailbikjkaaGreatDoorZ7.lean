/- Joined texts: J7, C3, C4, C9, C10, J9, C6. No conditions besides those that each states. -/
import Derived.Deep.RegionHeld3
import Derived.Deep.DrawnRows
import Derived.Deep.DeepCutAuto
import Derived.Laws.Bits128
import Derived.Test.YtfhakailbikjkaaGreatDoorZ2
import Derived.Test.YtfhakailbikjkaaGreatDoorZ4
import Derived.Test.YtfhakailbikjkaaGreatDoorZ6
/- What a literal denotes: the reference model's reading of one. No conditions. -/
namespace Go.Proofs.YtfhakailbikjkaaGreatDoor
open Go.RowKit
set_option linter.unusedVariables false

theorem end_zero (d : UInt8) (s : ByteArray) (w : World) (hs : (s.size : Int) ≤ 1048576) (h0 : 0 < s.size) (hd : s[0] = d) : Calls Tryz.prog 44 #[.string s, .int .i64 0] w (RetEnd w (Lt.ends d s.data.toList 1)) := by
  have h := spec_end s 0 w hs h0
  rw [hd] at h
  exact h
/-- The three ways in which a text is no literal for the model, and the one in which it goes on. -/
theorem slit_cases (d : UInt8) (hd : d = 34 ∨ d = 39) (s : ByteArray) : (s.size < 2 ∧ Lt.lit d s.data.toList = none)
    ∨ (∃ h : 2 ≤ s.size, (s[0] ≠ d ∧ Lt.lit d s.data.toList = none) ∨ (s[0] = d ∧ Lt.ends d s.data.toList 1 ≠ some s.size ∧ Lt.lit d s.data.toList = none)
      ∨ (s[0] = d ∧ Lt.ends d s.data.toList 1 = some s.size ∧ Lt.lit d s.data.toList = Lt.uq d (s.data.toList.dropLast.drop 1))) := by
  have hl := len8 s
  have hdd : (s.data.toList.drop 1).dropLast = s.data.toList.dropLast.drop 1 := by
    rw [List.dropLast_eq_take, List.dropLast_eq_take, List.drop_take, List.length_drop]
  rcases lit_cases d s with h | ⟨n, hn, h1, ⟨h2, e⟩ | ⟨h2, h3, e⟩ | ⟨h2, h3, h4, e⟩⟩
  · exact .inl h
  · exact .inr ⟨by omega, .inl ⟨h2, e⟩⟩
  · refine .inr ⟨by omega, .inr (.inl ⟨h2, ?_, e⟩)⟩
    intro h5
    obtain ⟨q1, q2, q3⟩ := Lt.ends_last hd s.data.toList _ 1 s.size (Nat.le_refl _) h5
    apply h3
    have e2 : s.size - 1 = n := by omega
    have q4 : s.data.toList[s.size - 1]'q1 = s[n] := by congr 1
    rw [← q4]; exact q3
  · by_cases h5 : Lt.ends d s.data.toList 1 = some s.size
    · exact .inr ⟨by omega, .inr (.inr ⟨h2, h5, by rw [e, hdd]⟩)⟩
    · refine .inr ⟨by omega, .inr (.inl ⟨h2, h5, ?_⟩)⟩
      rw [e, hdd]
      exact Lt.ends_no hd s.data.toList h4 _ 1 (Nat.le_refl _) (by omega) (by rw [hl]; exact h5)
theorem end_ne {o : Option Nat} {n : Nat} (h : o ≠ some n) : (endV o == (n : Int)) = false := by
  cases o with
  | none => simp [endV]
  | some m =>
    have : m ≠ n := fun e => h (by rw [e])
    simp [endV]; omega
theorem sunq_no (d : UInt8) (s : ByteArray) (w : World) (hs : (s.size : Int) ≤ 1048576) (h : (s.size < 2 ∧ Lt.lit d s.data.toList = none) ∨ (∃ h : 2 ≤ s.size, (s[0] ≠ d ∧ Lt.lit d s.data.toList = none) ∨ (s[0] = d ∧ Lt.ends d s.data.toList 1 ≠ some s.size ∧ Lt.lit d s.data.toList = none))) :
    Calls Tryz.prog 65 #[.string s, .int .u8 (d.toNat : Int)] w (RetLit w d s.data.toList) := by
  unfold RetLit
  rcases h with ⟨h2, e⟩ | ⟨h1, ⟨h2, e⟩ | ⟨h2, h3, e⟩⟩
  · have HL := Lib.hid (lit_no e)
    have t1 : (s.size : Int) < 2 := by omega
    clear e h2
    go_enter Tryz.func65, Tryz.ntmps65
    go_wp2
    go_ret2
    exact ⟨HL.out, Below.refl _ _⟩
  · have HL := Lib.hid (lit_no e)
    have t1 : ¬ (s.size : Int) < 2 := by omega
    have t0 : (0 : Int) < s.size := by omega
    have t2 : ((s[0].toNat : Int) == (d.toNat : Int)) = false := ne_int h2
    have t3 : ((s[0].toNat : Int) != (d.toNat : Int)) = true := by simp only [bne, t2]; rfl
    clear e h2
    go_enter Tryz.func65, Tryz.ntmps65
    go_wp2
    go_ret2
    exact ⟨HL.out, Below.refl _ _⟩
  · have HL := Lib.hid (lit_no e)
    have t1 : ¬ (s.size : Int) < 2 := by omega
    have t0 : (0 : Int) < s.size := by omega
    have t2 : ((s[0].toNat : Int) == (d.toNat : Int)) = true := by rw [h2]; simp
    have t3 : ((s[0].toNat : Int) != (d.toNat : Int)) = false := by simp only [bne, t2]; rfl
    have HE := Lib.hid (fun W => end_zero d s W hs (by omega) h2)
    have t4 := end_ne h3
    have t5 : (endV (Lt.ends d s.data.toList 1) != (s.size : Int)) = true := by simp only [bne, t4]; rfl
    unfold RetEnd at HE
    generalize endV (Lt.ends d s.data.toList 1) = z at HE t4 t5
    clear e h2 h3
    go_enter Tryz.func65, Tryz.ntmps65
    go_wp2_with (go_at_call 44; refine (HE.out _).mono ?_; rintro e w1 ⟨rfl, hb1⟩; have HB1 := Lib.hid hb1; clear hb1)
    go_ret2
    exact ⟨HL.out, HB1.out⟩

/-- The state of the loop: places. -/
def VAt (w : World) (d : UInt8) (S A : List UInt8) (k : Nat) (v : Value) (wr : World) : Prop := Own8 wr w.heap.size v A ∧ Lt.Rd d (S.dropLast.drop 1) A (S.dropLast.drop k) ∧ Lt.ends d S k = some S.length ∧ A.length ≤ k ∧ Below w.heap.size w wr
theorem VAt.next {w wr w2 : World} {d b : UInt8} {S A : List UInt8} {k k2 : Nat} {v v2 : Value} (h : Hid (VAt w d S A k v wr)) (hs : Hid (Lt.step d (S.dropLast.drop k) = some (b, S.dropLast.drop k2))) (he : Hid (Lt.ends d S k2 = some S.length)) (hk : k < k2) (ho : Hid (Own8 w2 w.heap.size v2 (A ++ [b]))) (h2 : Hid (Below w.heap.size wr w2)) : VAt w d S (A ++ [b]) k2 v2 w2 := by
  have h4 := h.out.2.2.2.1
  refine ⟨ho.out, Lt.rd_next h.out.2.1 hs.out, he.out, ?_, h.out.2.2.2.2.trans h2.out⟩
  rw [List.length_append, List.length_singleton]; omega
theorem VAt.bad {w wr : World} {d : UInt8} {S A : List UInt8} {k : Nat} {v : Value} (h : Hid (VAt w d S A k v wr)) (hk : k + 1 < S.length) (hs : Lt.step d (S.dropLast.drop k) = none) (hl : Hid (Lt.lit d S = Lt.uq d (S.dropLast.drop 1))) : Lt.lit d S = none :=
  hl.out.trans (Lt.rd_bad h.out.2.1 (by intro e; have := congrArg List.length e; simp at this; omega) hs)
theorem drop_mid {S : List UInt8} {k : Nat} (h : k + 1 < S.length) : S.dropLast.drop k = S[k] :: S.dropLast.drop (k + 1) := by
  have hT : k < S.dropLast.length := by rw [List.length_dropLast]; omega
  rw [List.drop_eq_getElem_cons hT, List.getElem_dropLast]
theorem esc_short {S : List UInt8} {k : Nat} (h : S.length ≤ k + 2) : Lt.esc (120 :: S.dropLast.drop k) = none := by
  have hl : (S.dropLast.drop k).length < 2 := by rw [List.length_drop, List.length_dropLast]; omega
  generalize S.dropLast.drop k = R at hl
  rcases R with _ | ⟨b, _ | ⟨c, R⟩⟩
  · simp [Lt.esc]
  · simp [Lt.esc]
  · simp at hl; omega

set_option maxRecDepth 100000 in
set_option maxHeartbeats 3200000 in
theorem sunq_yes (d : UInt8) (hd : d = 34 ∨ d = 39) (s : ByteArray) (w : World) (hs : (s.size : Int) ≤ 1048576) (h1 : 2 ≤ s.size) (h2 : s[0] = d) (h3 : Lt.ends d s.data.toList 1 = some s.size) (hlit : Lt.lit d s.data.toList = Lt.uq d (s.data.toList.dropLast.drop 1)) :
    Calls Tryz.prog 65 #[.string s, .int .u8 (d.toNat : Int)] w (RetLit w d s.data.toList) := by
  unfold RetLit
  have HL := Lib.hid (len8 s)
  have HLIT := Lib.hid hlit
  have t1 : ¬ (s.size : Int) < 2 := by omega
  have t0 : (0 : Int) < s.size := by omega
  have t2 : ((s[0].toNat : Int) == (d.toNat : Int)) = true := by rw [h2]; simp
  have t3 : ((s[0].toNat : Int) != (d.toNat : Int)) = false := by simp only [bne, t2]; rfl
  have HE : Hid (∀ W, Calls Tryz.prog 44 #[.string s, .int .i64 0] W fun e w' => e = .returned (.int .i64 s.size) ∧ Below W.heap.size W w') := by
    intro W
    have h := end_zero d s W hs (by omega) h2
    rw [h3] at h
    exact h
  have HV : Hid (∀ W, Below w.heap.size w W → VAt w d s.data.toList [] 1 (.slice (some ⟨W.heap.size, 0, none⟩) 0 0) (W.alloc (.cells #[] 5))) := fun W hb => by
    refine ⟨?_, Lt.rd_start d _, by rw [HL.out]; exact h3, by simp, hb.alloc hb.size _⟩
    have h := own8_lit W w.heap.size [] 0 hb.size rfl (by decide)
    exact h
  clear h3 hlit h2
  go_enter Tryz.func65, Tryz.ntmps65
  go_wp2_with (go_at_call 44; refine (HE.out _).mono ?_; rintro e w1 ⟨rfl, hb1⟩; have HV1 := Lib.hid (HV.out _ hb1); clear hb1)
  go_loopw [4, 5, 6, 7, 8, 9] (fun _ _ v i _ _ wr => ∃ (k : Nat) (A : List UInt8), i = .int .i64 k ∧ k ≤ s.size ∧ VAt w d s.data.toList A k v wr) (fun _ _ _ i _ _ _ => s.size - (intOf i).toNat)
  case atStart => exact ⟨1, [], rfl, by omega, HV1.out⟩
  case round =>
    clear HE HV HV1 t1 t2 t3
    obtain ⟨k, A, rfl, hk, hv⟩ := hrel
    have HVA := Lib.hid hv
    have HO := Lib.hid hv.1
    have hsz := hv.2.2.2.2.size
    have hal := hv.2.2.2.1
    have hkl := (Lt.ends_lt hv.2.2.1).1
    have hen := hv.2.2.1
    clear hv
    rw [HL.out] at hkl
    have HEN := Lib.hid hen
    clear hen
    by_cases hlt : k + 1 < s.size
    · have hks : k < s.size := by omega
      have hklt : (k : Int) < (s.size : Int) - 1 := by omega
      have hk1 : k + 1 < s.data.toList.length := by rw [HL.out]; exact hlt
      rcases Lt.round_cases hd hk1 HEN.out with ⟨g1, g2, g3⟩ | ⟨g1, g2, g3, g4⟩
      · have u1 : ((s[k].toNat : Int) == 92) = false := ne_int (b := 92) g1
        have u2 : ((s[k].toNat : Int) != 92) = true := by simp only [bne, u1]; rfl
        have G2 := Lib.hid g2
        have G3 := Lib.hid g3
        clear g1 g2 g3
        go_wp2_with (at_builtin; refine wpList_app8 rfl _ _ rfl w.heap.size _ A [s[k]] rfl HO.out hsz 1 rfl rfl (by omega) _ _ rfl ?_)
        intro v3 w3 HO3 HB3
        have HN := Lib.hid (VAt.next HVA G3 G2 (Nat.lt_succ_self _) HO3 HB3)
        clear HO3 HB3
        go_wp2
        go_roundw
        case rel => exact ⟨k + 1, _, by go_num, by omega, HN.out⟩
        case measure => first | (simp [intOf]; done) | (simp [intOf]; omega)
      · have u1 : ((s[k].toNat : Int) == 92) = true := by rw [show s[k] = 92 from g1]; rfl
        have u2 : ((s[k].toNat : Int) != 92) = false := by simp only [bne, u1]; rfl
        rw [HL.out] at g2
        have hk2 : k + 2 < s.data.toList.length := by rw [HL.out]; exact g2
        have hks1 : k + 1 < s.size := by omega
        have hki : (k : Int) + 1 < s.size := by omega
        have hki0 : (0 : Int) ≤ (k : Int) + 1 := by omega
        have hkn : ((k : Int) + 1).toNat = k + 1 := by omega
        rw [drop_mid (k := k + 1) hk2] at g4
        have hcc : s.data.toList[k + 1] = s[k + 1] := rfl
        rw [hcc] at g4
        have G3 := Lib.hid g3
        have G4 := Lib.hid g4
        clear g1 g3 g4 hcc
        rcases esc_cases (s[k + 1] :: s.data.toList.dropLast.drop (k + 1 + 1)) with ⟨h, _⟩ | ⟨c, r, hcr, hc⟩
        · cases h
        · obtain ⟨hc0, hr0⟩ := List.cons.inj hcr
          subst hr0
          rw [hc0] at G4 hc
          clear hcr
          rcases hc with ⟨h, e⟩ | ⟨h, e⟩ | ⟨h, e⟩ | ⟨h, e⟩ | ⟨h, e⟩ | h | ⟨h1', h2', h3', h4', h5', h6', e⟩
          · have G5 : Hid (Lt.step d (s.data.toList.dropLast.drop k) = some (10, s.data.toList.dropLast.drop (k + 2))) := G4.out.trans e
            have v110 : ((c.toNat : Int) == 110) = true := by rw [h]; rfl
            clear h e G4
            go_wp2_with (at_builtin; refine wpList_app8 rfl _ _ rfl w.heap.size _ A [10] rfl HO.out hsz 1 rfl rfl (by omega) _ _ rfl ?_)
            intro v3 w3 HO3 HB3
            have HN := Lib.hid (VAt.next HVA G5 G3 (by omega) HO3 HB3)
            clear HO3 HB3
            go_wp2
            go_roundw
            case rel => exact ⟨k + 2, _, by first | rfl | go_num | (congr 1; omega), by omega, HN.out⟩
            case measure => first | (simp [intOf]; done) | (simp [intOf]; omega)
          · have G5 : Hid (Lt.step d (s.data.toList.dropLast.drop k) = some (9, s.data.toList.dropLast.drop (k + 2))) := G4.out.trans e
            have v110 : ((c.toNat : Int) == 110) = false := by rw [h]; rfl
            have v116 : ((c.toNat : Int) == 116) = true := by rw [h]; rfl
            clear h e G4
            go_wp2_with (at_builtin; refine wpList_app8 rfl _ _ rfl w.heap.size _ A [9] rfl HO.out hsz 1 rfl rfl (by omega) _ _ rfl ?_)
            intro v3 w3 HO3 HB3
            have HN := Lib.hid (VAt.next HVA G5 G3 (by omega) HO3 HB3)
            clear HO3 HB3
            go_wp2
            go_roundw
            case rel => exact ⟨k + 2, _, by first | rfl | go_num | (congr 1; omega), by omega, HN.out⟩
            case measure => first | (simp [intOf]; done) | (simp [intOf]; omega)
          · have G5 : Hid (Lt.step d (s.data.toList.dropLast.drop k) = some (c, s.data.toList.dropLast.drop (k + 2))) := G4.out.trans e
            have v110 : ((c.toNat : Int) == 110) = false := by rw [h]; rfl
            have v116 : ((c.toNat : Int) == 116) = false := by rw [h]; rfl
            have v92 : ((c.toNat : Int) == 92) = true := by rw [h]; rfl
            clear h e G4
            go_wp2_with (at_builtin; refine wpList_app8 rfl _ _ rfl w.heap.size _ A [c] rfl HO.out hsz 1 rfl rfl (by omega) _ _ rfl ?_)
            intro v3 w3 HO3 HB3
            have HN := Lib.hid (VAt.next HVA G5 G3 (by omega) HO3 HB3)
            clear HO3 HB3
            go_wp2
            go_roundw
            case rel => exact ⟨k + 2, _, by first | rfl | go_num | (congr 1; omega), by omega, HN.out⟩
            case measure => first | (simp [intOf]; done) | (simp [intOf]; omega)
          · have G5 : Hid (Lt.step d (s.data.toList.dropLast.drop k) = some (c, s.data.toList.dropLast.drop (k + 2))) := G4.out.trans e
            have v110 : ((c.toNat : Int) == 110) = false := by rw [h]; rfl
            have v116 : ((c.toNat : Int) == 116) = false := by rw [h]; rfl
            have v92 : ((c.toNat : Int) == 92) = false := by rw [h]; rfl
            have v34 : ((c.toNat : Int) == 34) = true := by rw [h]; rfl
            clear h e G4
            go_wp2_with (at_builtin; refine wpList_app8 rfl _ _ rfl w.heap.size _ A [c] rfl HO.out hsz 1 rfl rfl (by omega) _ _ rfl ?_)
            intro v3 w3 HO3 HB3
            have HN := Lib.hid (VAt.next HVA G5 G3 (by omega) HO3 HB3)
            clear HO3 HB3
            go_wp2
            go_roundw
            case rel => exact ⟨k + 2, _, by first | rfl | go_num | (congr 1; omega), by omega, HN.out⟩
            case measure => first | (simp [intOf]; done) | (simp [intOf]; omega)
          · have G5 : Hid (Lt.step d (s.data.toList.dropLast.drop k) = some (c, s.data.toList.dropLast.drop (k + 2))) := G4.out.trans e
            have v110 : ((c.toNat : Int) == 110) = false := by rw [h]; rfl
            have v116 : ((c.toNat : Int) == 116) = false := by rw [h]; rfl
            have v92 : ((c.toNat : Int) == 92) = false := by rw [h]; rfl
            have v34 : ((c.toNat : Int) == 34) = false := by rw [h]; rfl
            have v39 : ((c.toNat : Int) == 39) = true := by rw [h]; rfl
            clear h e G4
            go_wp2_with (at_builtin; refine wpList_app8 rfl _ _ rfl w.heap.size _ A [c] rfl HO.out hsz 1 rfl rfl (by omega) _ _ rfl ?_)
            intro v3 w3 HO3 HB3
            have HN := Lib.hid (VAt.next HVA G5 G3 (by omega) HO3 HB3)
            clear HO3 HB3
            go_wp2
            go_roundw
            case rel => exact ⟨k + 2, _, by first | rfl | go_num | (congr 1; omega), by omega, HN.out⟩
            case measure => first | (simp [intOf]; done) | (simp [intOf]; omega)
          · subst h
            by_cases hlen : k + 4 < s.size
            · have hk4 : k + 3 + 1 < s.data.toList.length := by rw [HL.out]; omega
              have hks2 : k + 2 < s.size := by omega
              have hks3 : k + 3 < s.size := by omega
              have m1 : (k : Int) + 3 < (s.size : Int) - 1 := by omega
              have m2 : (k : Int) + 2 < s.size := by omega
              have m3 : (k : Int) + 3 < s.size := by omega
              have m4 : (0 : Int) ≤ (k : Int) + 2 := by omega
              have m5 : (0 : Int) ≤ (k : Int) + 3 := by omega
              have m6 : ((k : Int) + 2).toNat = k + 2 := by omega
              have m7 : ((k : Int) + 3).toNat = k + 3 := by omega
              have g4 := G4.out
              rw [drop_mid (k := k + 1 + 1) (by rw [HL.out]; omega), drop_mid (k := k + 1 + 1 + 1) hk4] at g4
              have hx0 : s.data.toList[k + 1 + 1]'(by rw [HL.out]; omega) = s[k + 2] := rfl
              have hy0 : s.data.toList[k + 1 + 1 + 1]'(by rw [HL.out]; omega) = s[k + 3] := rfl
              rw [hx0, hy0] at g4
              clear hx0 hy0 G4
              have HX := Lib.hid (fun W => hexv_any s[k + 2] W)
              have HY := Lib.hid (fun W => hexv_any s[k + 3] W)
              cases ex : Lt.hexN s[k + 2] with
              | none =>
                rw [hexI_none ex] at HX
                have HNO := Lib.hid (lit_no (VAt.bad HVA hk1 (g4.trans (by simp [Lt.esc, ex])) HLIT))
                clear g4 ex G3
                go_wp2_with ((go_at_call 84; refine (HX.out _).mono ?_; rintro e w5 ⟨rfl, rfl⟩))
                go_ret2
                exact ⟨HNO.out, HVA.out.2.2.2.2⟩
              | some x =>
                have x16 := Lt.hexN_lt ex
                rw [hexI_some ex] at HX
                have x0 : (0 : Int) ≤ x := by omega
                cases ey : Lt.hexN s[k + 3] with
                | none =>
                  rw [hexI_none ey] at HY
                  have HNO := Lib.hid (lit_no (VAt.bad HVA hk1 (g4.trans (by simp [Lt.esc, ex, ey])) HLIT))
                  clear g4 ex ey G3
                  go_wp2_with (first | ((go_at_call 84; with_reducible refine (HX.out _).mono ?_); rintro e w5 ⟨rfl, rfl⟩) | ((go_at_call 84; with_reducible refine (HY.out _).mono ?_); rintro e w6 ⟨rfl, rfl⟩))
                  go_ret2
                  exact ⟨HNO.out, HVA.out.2.2.2.2⟩
                | some y =>
                  have y16 := Lt.hexN_lt ey
                  rw [hexI_some ey] at HY
                  have y0 : (0 : Int) ≤ y := by omega
                  have G5 : Hid (Lt.step d (s.data.toList.dropLast.drop k) = some (UInt8.ofNat (16 * x + y), s.data.toList.dropLast.drop (k + 4))) := g4.trans (by simp [Lt.esc, ex, ey])
                  have G6 : Hid (Lt.ends d s.data.toList (k + 4) = some s.data.toList.length) := by
                    obtain ⟨p1, p2, p3⟩ := Lt.hex_peel hd ex
                    obtain ⟨p4, p5, p6⟩ := Lt.hex_peel hd ey
                    have q := G3.out
                    rw [Lt.ends_one hk2 p1 p2 p3, Lt.ends_one (by rw [HL.out]; omega) p4 p5 p6] at q
                    exact q
                  obtain ⟨b, hb⟩ : ∃ b, b = UInt8.ofNat (16 * x + y) := ⟨_, rfl⟩
                  have hbn : b.toNat = 16 * x + y := by rw [hb, UInt8.toNat_ofNat']; omega
                  rw [← hb] at G5
                  have HBN := Lib.hid (show 16 * (x : Int) + y = (b.toNat : Int) by omega)
                  have e1 : IntKind.i64.wrap (16 * (x : Int)) = 16 * (x : Int) := IntWalk.i64_in _ (by omega)
                  have e2 : IntKind.i64.wrap (16 * (x : Int) + y) = (b.toNat : Int) := by rw [HBN.out]; exact IntWalk.i64_in _ (by have := UInt8.toNat_lt b; omega)
                  have e3 : IntKind.u8.wrap (b.toNat : Int) = b.toNat := by have := UInt8.toNat_lt b; simp [IntKind.wrap, IntKind.signed, IntKind.bits]; omega
                  have e4 : IntKind.i64.wrap ((k : Int) + 2) = (k : Int) + 2 := IntWalk.i64_in _ (by omega)
                  have e5 : IntKind.i64.wrap ((k : Int) + 3) = (k : Int) + 3 := IntWalk.i64_in _ (by omega)
                  clear g4 ex ey G3 hb hbn
                  go_wp2_with (first | ((go_at_call 84; with_reducible refine (HX.out _).mono ?_); rintro e w5 ⟨rfl, rfl⟩) | ((go_at_call 84; with_reducible refine (HY.out _).mono ?_); rintro e w6 ⟨rfl, rfl⟩))
                  go_region_law (first
                    | (refine step_hexv rfl (.tmp 101) rfl s[k + 2] x (by first | (simp [Act.eval]; done) | simp [Act.eval, Act.put]) (HX.out _) ?_)
                    | (refine step_hexv rfl (.tmp 107) rfl s[k + 3] y (by first | (simp [Act.eval]; done) | simp [Act.eval, Act.put]) (HY.out _) ?_)
                    | (refine step_app8d rfl (.tmp 97) (.tmp 111) rfl w.heap.size _ A [b] (by first | (simp [Act.eval]; done) | simp [Act.eval, Act.put]) HO.out hsz 1 rfl (by first | (simp [Act.eval]; done) | simp [Act.eval, Act.put]) (by omega) _ _ rfl ?_; intro v' w2 HO2 HB2))
                  all_goals
                    have HN := Lib.hid (VAt.next HVA G5 G6 (by omega) HO2 HB2)
                    clear HO2 HB2 e1 e2 e3 e4 e5
                    simp only [List.getElem_toArray, List.getElem_cons_succ, List.getElem_cons_zero, Act.put, List.setIfInBounds_toArray, List.set_cons_succ, List.set_cons_zero]
                    go_wp2
                    go_roundw
                    case rel => exact ⟨k + 4, _, by first | rfl | go_num | (congr 1; omega), by omega, HN.out⟩
                    case measure => first | (simp [intOf]; done) | (simp [intOf]; omega)
            · have m1 : ¬ ((k : Int) + 3 < (s.size : Int) - 1) := by omega
              have HNO := Lib.hid (lit_no (VAt.bad HVA hk1 (G4.out.trans (esc_short (by rw [HL.out]; omega))) HLIT))
              clear G4 G3
              go_wp2
              go_ret2
              exact ⟨HNO.out, HVA.out.2.2.2.2⟩
          · have HNO := Lib.hid (lit_no (VAt.bad HVA hk1 (G4.out.trans e) HLIT))
            have v110 : ((c.toNat : Int) == 110) = false := ne_int (b := 110) h1'
            have v116 : ((c.toNat : Int) == 116) = false := ne_int (b := 116) h2'
            have v92 : ((c.toNat : Int) == 92) = false := ne_int (b := 92) h3'
            have v34 : ((c.toNat : Int) == 34) = false := ne_int (b := 34) h4'
            have v39 : ((c.toNat : Int) == 39) = false := ne_int (b := 39) h5'
            have v120 : ((c.toNat : Int) == 120) = false := ne_int (b := 120) h6'
            clear h1' h2' h3' h4' h5' h6' e G4 G3
            go_wp2
            go_ret2
            exact ⟨HNO.out, HVA.out.2.2.2.2⟩
    · have hkend : ¬ (k : Int) < (s.size : Int) - 1 := by omega
      have hcv := conv8 HO.out
      have HY : Hid (Ending.returned (.tuple #[.string (str8 A), .bool true]) = .returned (.tuple #[.string (str8 (Lt.litL d s.data.toList)), .bool (Lt.litB d s.data.toList)])) := by
        refine lit_yes (HLIT.out.trans (Lt.rd_end ?_))
        have h := HVA.out.2.1
        rwa [List.drop_eq_nil_of_le (i := k) (by rw [List.length_dropLast, HL.out]; omega)] at h
      go_wp2
      go_ret2
      exact ⟨HY.out, HVA.out.2.2.2.2⟩
end Go.Proofs.YtfhakailbikjkaaGreatDoor
/- HasByte of the program, and the walks of the laws on HasByte and on the four set operations. No conditions. -/
namespace Go.Proofs.YtfhakailbikjkaaGreatDoor
open Go.RowKit
attribute [local go_sem ↓] Go.wp_at_zero Go.wp_at_succ
set_option linter.unusedVariables false

theorem Cs.has_one (a b x : Int) (h0 : 0 ≤ x) (h1 : x ≤ 255) : (!(bits .and .i64 a (Cs.oneL x) == 0) || !(bits .and .i64 b (Cs.oneH x) == 0)) = Cs.mem a b x.toNat := by
  unfold Cs.oneL Cs.oneH
  by_cases ha : x < 64
  · rw [if_pos ha, if_pos ha, Cs.mem_low (by omega), Cs.and_zero, ← Cs.test_bit a x.toNat (by omega)]
    simp [bne]
  · rw [if_neg ha, if_neg ha, Cs.and_zero]
    by_cases hb : x < 128
    · have e0 : x.toNat - 64 = (x - 64).toNat := by omega
      rw [if_pos hb, Cs.mem_high (by omega) (by omega), e0, ← Cs.test_bit b (x - 64).toNat (by omega)]
      simp [bne]
    · rw [if_neg hb, Cs.mem_out (by omega), Cs.and_zero]; rfl

theorem below_step {w wa wb : World} (h : Below w.heap.size w wa) (hb : Below wa.heap.size wa wb) : Below w.heap.size w wb := h.trans (hb.mono h.size)
theorem keep_cells {B : Nat} {w0 w1 w2 : World} {cs : Array Value} {T : TypeId} {fr : Nat × Nat} (h : w1.heap[B]? = some (.cells cs T fr)) (hb : Below w1.heap.size w1 w2) : w2.heap[B]? = some (.cells cs T fr) := by
  rw [hb.block B (Array.getElem?_eq_some_iff.1 h).1]; exact h

/-- What HasByte returns, by the two words of the intersection. -/
theorem has_by (a b x p q : Int) (w : World) (h0 : 0 ≤ x) (h1 : x ≤ 255) (HI : Hid (∀ W, Calls Tryz.prog 88 #[.agg #[.int .i64 a, .int .i64 b], .agg #[.int .i64 (Cs.oneL x), .int .i64 (Cs.oneH x)]] W (RetSet W p q))) (r : Bool)
    (hr : (p ≠ 0 ∧ r = true) ∨ (p = 0 ∧ q ≠ 0 ∧ r = true) ∨ (p = 0 ∧ q = 0 ∧ r = false)) : Calls Tryz.prog 70 #[.agg #[.int .i64 a, .int .i64 b], .int .u8 x] w (RetBool w r) := by
  rcases hr with ⟨hp, rfl⟩ | ⟨rfl, hq, rfl⟩ | ⟨rfl, rfl, rfl⟩
  · have hp2 : (p == 0) = false := by simpa using hp
    clear hp
    go_enter Tryz.func70, Tryz.ntmps70
    go_wp2
    go_region_held3 (fun w' => w'.cell? ⟨w.heap.size, 0, none⟩ = some (.int .i64 a) ∧ w'.cell? ⟨w.heap.size, 1, none⟩ = some (.int .i64 b) ∧ Below w.heap.size w w')
      (first | ((refine ⟨?_, ?_, (bl1 _ _).drew⟩) <;> go_keep) | (go_split_ands; exact ⟨cell_later (by assumption) (by assumption), cell_later (by assumption) (by assumption), below_step (by assumption) (by assumption)⟩))
      (first | (go_at_call 52; refine (impl_one x _ h0 h1).mono ?_; rintro e w1 ⟨rfl, hb1⟩) | (go_at_call 88; refine (HI.out _).mono ?_; rintro e w2 ⟨rfl, hb2⟩))
    have hB : Below w.heap.size w w2 := by
      have hh := ‹w2.cell? ⟨w.heap.size, 0, none⟩ = some (.int .i64 a) ∧ w2.cell? ⟨w.heap.size, 1, none⟩ = some (.int .i64 b) ∧ Below w.heap.size w w2›
      exact hh.2.2
    go_wp2
    go_ret
    exact ⟨rfl, hB⟩
  · have hq2 : (q == 0) = false := by simpa using hq
    clear hq
    go_enter Tryz.func70, Tryz.ntmps70
    go_wp2
    go_region_held3 (fun w' => w'.cell? ⟨w.heap.size, 0, none⟩ = some (.int .i64 a) ∧ w'.cell? ⟨w.heap.size, 1, none⟩ = some (.int .i64 b) ∧ Below w.heap.size w w')
      (first | ((refine ⟨?_, ?_, (bl1 _ _).drew⟩) <;> go_keep) | (go_split_ands; exact ⟨cell_later (by assumption) (by assumption), cell_later (by assumption) (by assumption), below_step (by assumption) (by assumption)⟩))
      (first | (go_at_call 52; refine (impl_one x _ h0 h1).mono ?_; rintro e w1 ⟨rfl, hb1⟩) | (go_at_call 88; refine (HI.out _).mono ?_; rintro e w2 ⟨rfl, hb2⟩))
    have hB : Below w.heap.size w w2 := by
      have hh := ‹w2.cell? ⟨w.heap.size, 0, none⟩ = some (.int .i64 a) ∧ w2.cell? ⟨w.heap.size, 1, none⟩ = some (.int .i64 b) ∧ Below w.heap.size w w2›
      exact hh.2.2
    go_wp2
    go_ret
    exact ⟨rfl, hB⟩
  · go_enter Tryz.func70, Tryz.ntmps70
    go_wp2
    go_region_held3 (fun w' => w'.cell? ⟨w.heap.size, 0, none⟩ = some (.int .i64 a) ∧ w'.cell? ⟨w.heap.size, 1, none⟩ = some (.int .i64 b) ∧ Below w.heap.size w w')
      (first | ((refine ⟨?_, ?_, (bl1 _ _).drew⟩) <;> go_keep) | (go_split_ands; exact ⟨cell_later (by assumption) (by assumption), cell_later (by assumption) (by assumption), below_step (by assumption) (by assumption)⟩))
      (first | (go_at_call 52; refine (impl_one x _ h0 h1).mono ?_; rintro e w1 ⟨rfl, hb1⟩) | (go_at_call 88; refine (HI.out _).mono ?_; rintro e w2 ⟨rfl, hb2⟩))
    have hB : Below w.heap.size w w2 := by
      have hh := ‹w2.cell? ⟨w.heap.size, 0, none⟩ = some (.int .i64 a) ∧ w2.cell? ⟨w.heap.size, 1, none⟩ = some (.int .i64 b) ∧ Below w.heap.size w w2›
      exact hh.2.2
    go_wp2
    go_ret
    exact ⟨rfl, hB⟩

theorem impl_has (a b x : Int) (w : World) (h0 : 0 ≤ x) (h1 : x ≤ 255) : Calls Tryz.prog 70 #[.agg #[.int .i64 a, .int .i64 b], .int .u8 x] w (RetBool w (Cs.mem a b x.toNat)) := by
  rw [← Cs.has_one a b x h0 h1]
  refine has_by a b x _ _ w h0 h1 (fun W => impl_and _ _ _ _ W) _ ?_
  generalize bits .and .i64 a (Cs.oneL x) = p
  generalize bits .and .i64 b (Cs.oneH x) = q
  by_cases hp : p = 0
  · by_cases hq : q = 0
    · exact .inr (.inr ⟨hp, hq, by simp [hp, hq]⟩)
    · exact .inr (.inl ⟨hp, hq, by simp [hp, hq]⟩)
  · exact .inl ⟨hp, by simp [hp]⟩

end Go.Proofs.YtfhakailbikjkaaGreatDoor
/- Sets in memory, and the walks of the laws on HasByte and ComplementCset. No conditions. -/
namespace Go.Proofs.YtfhakailbikjkaaGreatDoor
open Go.RowKit
attribute [local go_sem ↓] Go.wp_at_zero Go.wp_at_succ
set_option linter.unusedVariables false

/-- A set lies in memory. -/
abbrev SetAt (w : World) (b : Nat) (l h : Int) : Prop := w.cell? ⟨b, 0, none⟩ = some (.int .i64 l) ∧ w.cell? ⟨b, 1, none⟩ = some (.int .i64 h)
theorem SetAt.later {w wx : World} {b : Nat} {l h : Int} (s : SetAt w b l h) (hb : Below w.heap.size w wx) : SetAt wx b l h := ⟨cell_later hb s.1, cell_later hb s.2⟩
theorem SetAt.lt {w : World} {b : Nat} {l h : Int} (s : SetAt w b l h) : b < w.heap.size := World.block_lt_of_cell? _ _ s.1
theorem SetAt.drew {w : World} {b : Nat} {l h : Int} (s : SetAt w b l h) : SetAt w.drew b l h := s
theorem SetAt.new (w : World) (l h : Int) (T : TypeId) : SetAt (w.alloc (.cells #[.int .i64 l, .int .i64 h] T)) w.heap.size l h := by
  refine ⟨?_, ?_⟩ <;> go_simp
theorem SetAt.far {w : World} {b g : Nat} {l h : Int} (s : SetAt w b l h) (hne : b ≠ g) (x y : Value) : SetAt ((w.setCell ⟨g, 0, none⟩ x).setCell ⟨g, 1, none⟩ y) b l h := by
  obtain ⟨s0, s1⟩ := s
  exact ⟨by rw [World.cell?_setCell_far _ _ _ _ (by simpa using Ne.symm hne), World.cell?_setCell_far _ _ _ _ (by simpa using Ne.symm hne)]; exact s0, by rw [World.cell?_setCell_far _ _ _ _ (by simpa using Ne.symm hne), World.cell?_setCell_far _ _ _ _ (by simpa using Ne.symm hne)]; exact s1⟩
/-- A new variable for a set. -/
def VarAt (wx : World) (g : Nat) : Prop := SetAt wx g 0 0 ∧ wx.frozen? ⟨g, 0, none⟩ = false ∧ wx.frozen? ⟨g, 1, none⟩ = false
theorem free_later {w wx : World} {g o : Nat} (hb : Below w.heap.size w wx) (hl : g < w.heap.size) (h : w.frozen? ⟨g, o, none⟩ = false) : wx.frozen? ⟨g, o, none⟩ = false := (hb.frozen (p := ⟨g, o, none⟩) hl).trans h
theorem VarAt.later {wa wb : World} {g : Nat} (h : VarAt wa g) (hb : Below wa.heap.size wa wb) : VarAt wb g :=
  ⟨h.1.later hb, free_later hb h.1.lt h.2.1, free_later hb h.1.lt h.2.2⟩
theorem var_new {W : World} {T : TypeId} : VarAt (W.alloc (.cells #[.int .i64 0, .int .i64 0] T)) W.heap.size := by
  refine ⟨SetAt.new _ _ _ _, ?_, ?_⟩ <;> go_simp
theorem var_newd {W : World} {T : TypeId} : VarAt (W.alloc (.cells #[.int .i64 0, .int .i64 0] T)).drew W.heap.size := by
  refine ⟨SetAt.new _ _ _ _, ?_, ?_⟩ <;> go_simp
theorem SetAt.stored {w : World} {g : Nat} (h : VarAt w g) (l k : Int) : SetAt ((w.setCell ⟨g, 0, none⟩ (.int .i64 l)).setCell ⟨g, 1, none⟩ (.int .i64 k)) g l k := by
  obtain ⟨⟨h0, h1⟩, h2, h3⟩ := h
  refine ⟨?_, ?_⟩ <;> go_simp
theorem below_store {B g : Nat} {w wa : World} (h : Below B w wa) (hg : B ≤ g) (x y : Value) : Below B w ((wa.setCell ⟨g, 0, none⟩ x).setCell ⟨g, 1, none⟩ y) := (h.setCell hg _).setCell hg _

/-- Two sets lie in memory, and what was there before is as it was. -/
abbrev Sets2 (w : World) (x y : Nat) (a0 b0 a1 b1 : Int) (w' : World) : Prop := (SetAt w' x a0 b0 ∧ SetAt w' y a1 b1) ∧ Below w.heap.size w w'
theorem Sets2.later {w : World} {x y : Nat} {a0 b0 a1 b1 : Int} {wa wb : World} (h : Sets2 w x y a0 b0 a1 b1 wa) (hb : Below wa.heap.size wa wb) : Sets2 w x y a0 b0 a1 b1 wb :=
  ⟨⟨h.1.1.later hb, h.1.2.later hb⟩, below_step h.2 hb⟩
theorem Sets2.far {w : World} {x y g : Nat} {a0 b0 a1 b1 : Int} {wa : World} (h : Sets2 w x y a0 b0 a1 b1 wa) (hx : x ≠ g) (hy : y ≠ g) (hg : w.heap.size ≤ g) (u v : Value) : Sets2 w x y a0 b0 a1 b1 ((wa.setCell ⟨g, 0, none⟩ u).setCell ⟨g, 1, none⟩ v) :=
  ⟨⟨h.1.1.far hx _ _, h.1.2.far hy _ _⟩, below_store h.2 hg _ _⟩
theorem sets_start (w : World) (a0 b0 a1 b1 : Int) {T : TypeId} : Sets2 w w.heap.size (w.heap.size + 1) a0 b0 a1 b1 (((w.alloc (.cells #[.int .i64 a0, .int .i64 b0] T)).alloc (.cells #[.int .i64 a1, .int .i64 b1] T)).drew) := by
  refine ⟨⟨⟨?_, ?_⟩, ⟨?_, ?_⟩⟩, (bl2 _ _ _).drew⟩ <;> go_simp
theorem var_newd2 {w : World} {o p : Obj} {T : TypeId} : VarAt ((((w.alloc o).alloc p).alloc (.cells #[.int .i64 0, .int .i64 0] T)).drew) (w.heap.size + 1 + 1) := by
  refine ⟨⟨?_, ?_⟩, ?_, ?_⟩ <;> go_simp
/-- Three sets lie in memory. -/
abbrev Sets3 (w : World) (x y z : Nat) (a0 b0 a1 b1 p q : Int) (w' : World) : Prop := (SetAt w' x a0 b0 ∧ SetAt w' y a1 b1 ∧ SetAt w' z p q) ∧ Below w.heap.size w w'
theorem Sets3.later {w : World} {x y z : Nat} {a0 b0 a1 b1 p q : Int} {wa wb : World} (h : Sets3 w x y z a0 b0 a1 b1 p q wa) (hb : Below wa.heap.size wa wb) : Sets3 w x y z a0 b0 a1 b1 p q wb :=
  ⟨⟨h.1.1.later hb, h.1.2.1.later hb, h.1.2.2.later hb⟩, below_step h.2 hb⟩
theorem Sets3.far {w : World} {x y z g : Nat} {a0 b0 a1 b1 p q : Int} {wa : World} (h : Sets3 w x y z a0 b0 a1 b1 p q wa) (hx : x ≠ g) (hy : y ≠ g) (hz : z ≠ g) (hg : w.heap.size ≤ g) (u v : Value) : Sets3 w x y z a0 b0 a1 b1 p q ((wa.setCell ⟨g, 0, none⟩ u).setCell ⟨g, 1, none⟩ v) :=
  ⟨⟨h.1.1.far hx _ _, h.1.2.1.far hy _ _, h.1.2.2.far hz _ _⟩, below_store h.2 hg _ _⟩
theorem below_le {w w' : World} (h : Below w.heap.size w w') : w.heap.size ≤ w'.heap.size := h.size

end Go.Proofs.YtfhakailbikjkaaGreatDoor
/- NewCset of the reference model: the set of a string's bytes. No conditions. -/
namespace Go.Proofs.YtfhakailbikjkaaGreatDoor
open Go.RowKit
attribute [local go_sem ↓] Go.wp_at_zero Go.wp_at_succ
set_option linter.unusedVariables false

/-- The first k bytes. -/
def Cs.pre (s : ByteArray) (k : Nat) : List Nat := (s.data.toList.take k).map UInt8.toNat
/-- None of the first k bytes is above 127. -/
def Cs.okTo (s : ByteArray) (k : Nat) : Bool := (s.data.toList.take k).all fun c => decide (c.toNat < 128)
def Cs.good (s : ByteArray) : Bool := s.data.toList.all fun c => decide (c.toNat < 128)
def Cs.newL (s : ByteArray) : Int := if Cs.good s = true then Cs.allL (s.data.toList.map UInt8.toNat) else 0
def Cs.newH (s : ByteArray) : Int := if Cs.good s = true then Cs.allH (s.data.toList.map UInt8.toNat) else 0
theorem Cs.take_snoc (s : ByteArray) (k : Nat) (h : k < s.size) : s.data.toList.take (k + 1) = s.data.toList.take k ++ [s[k]] := by
  rw [List.take_succ_eq_append_getElem (by simpa using h)]; rfl
theorem Cs.pre_succ (s : ByteArray) (k : Nat) (h : k < s.size) : Cs.pre s (k + 1) = Cs.pre s k ++ [s[k].toNat] := by
  unfold Cs.pre; rw [Cs.take_snoc s k h, List.map_append]; rfl
theorem Cs.okTo_succ (s : ByteArray) (k : Nat) (h : k < s.size) : Cs.okTo s (k + 1) = (Cs.okTo s k && decide (s[k].toNat < 128)) := by
  unfold Cs.okTo; rw [Cs.take_snoc s k h, List.all_append]; simp
theorem Cs.good_end (s : ByteArray) (h : Cs.okTo s s.size = true) : Cs.good s = true ∧ Cs.newL s = Cs.allL (Cs.pre s s.size) ∧ Cs.newH s = Cs.allH (Cs.pre s s.size) := by
  have e : s.data.toList.take s.size = s.data.toList := List.take_of_length_le (by simp)
  unfold Cs.okTo at h; rw [e] at h
  refine ⟨h, ?_, ?_⟩
  · unfold Cs.newL Cs.pre Cs.good; rw [if_pos h, e]
  · unfold Cs.newH Cs.pre Cs.good; rw [if_pos h, e]
theorem Cs.good_bad (s : ByteArray) (k : Nat) (hk : k < s.size) (h : 128 ≤ s[k].toNat) : Cs.good s = false ∧ Cs.newL s = 0 ∧ Cs.newH s = 0 := by
  have hg : Cs.good s = false := by
    rw [Cs.good, List.all_eq_false]
    exact ⟨s[k], by have := List.getElem_mem (l := s.data.toList) (n := k) (by simpa using hk); exact this, by simp; omega⟩
  refine ⟨hg, ?_, ?_⟩
  · unfold Cs.newL; rw [if_neg (by rw [hg]; simp)]
  · unfold Cs.newH; rw [if_neg (by rw [hg]; simp)]

/-- A set's variable that may be written. -/
def FreeSet (w : World) (b : Nat) (l h : Int) : Prop := SetAt w b l h ∧ w.frozen? ⟨b, 0, none⟩ = false ∧ w.frozen? ⟨b, 1, none⟩ = false
theorem FreeSet.later {wa wb : World} {g : Nat} {l k : Int} (h : FreeSet wa g l k) (hb : Below wa.heap.size wa wb) : FreeSet wb g l k :=
  ⟨h.1.later hb, free_later hb h.1.lt h.2.1, free_later hb h.1.lt h.2.2⟩
theorem FreeSet.new (W : World) (l k : Int) (T : TypeId) : FreeSet (W.alloc (.cells #[.int .i64 l, .int .i64 k] T)) W.heap.size l k := by
  refine ⟨SetAt.new _ _ _ _, ?_, ?_⟩ <;> go_simp
theorem FreeSet.stored {w : World} {g : Nat} {l0 k0 : Int} (h : FreeSet w g l0 k0) (l k : Int) : FreeSet ((w.setCell ⟨g, 0, none⟩ (.int .i64 l)).setCell ⟨g, 1, none⟩ (.int .i64 k)) g l k := by
  obtain ⟨⟨h0, h1⟩, h2, h3⟩ := h
  refine ⟨⟨?_, ?_⟩, ?_, ?_⟩ <;> go_simp
theorem FreeSet.far {w : World} {b g : Nat} {l h : Int} (s : FreeSet w b l h) (hne : b ≠ g) (x y : Value) : FreeSet ((w.setCell ⟨g, 0, none⟩ x).setCell ⟨g, 1, none⟩ y) b l h := by
  obtain ⟨s0, s1, s2⟩ := s
  refine ⟨s0.far hne x y, ?_, ?_⟩ <;> simp [s1, s2]
theorem FreeSet.drew {w : World} {b : Nat} {l h : Int} (s : FreeSet w b l h) : FreeSet w.drew b l h := s

/-- A set and a bool are returned. -/
def RetNew (w : World) (l h : Int) (b : Bool) (e : Ending) (w' : World) : Prop := e = .returned (.tuple #[.agg #[.int .i64 l, .int .i64 h], .bool b]) ∧ Below w.heap.size w w'
/-- The state of the loops: the result's variable and the set so far. -/
def NewAt (w : World) (l h : Int) (wr : World) : Prop := FreeSet wr w.heap.size 0 0 ∧ FreeSet wr (w.heap.size + 1) l h ∧ Below w.heap.size w wr
theorem NewAt.later {w wr wx : World} {l h : Int} (s : NewAt w l h wr) (hb : Below wr.heap.size wr wx) : NewAt w l h wx := ⟨s.1.later hb, s.2.1.later hb, below_step s.2.2 hb⟩
theorem NewAt.drew {w wr : World} {l h : Int} (s : NewAt w l h wr) : NewAt w l h wr.drew := ⟨s.1.drew, s.2.1.drew, s.2.2.drew⟩
theorem NewAt.stored {w wr : World} {l h : Int} (s : NewAt w l h wr) (l2 h2 : Int) : NewAt w l2 h2 ((wr.setCell ⟨w.heap.size + 1, 0, none⟩ (.int .i64 l2)).setCell ⟨w.heap.size + 1, 1, none⟩ (.int .i64 h2)) :=
  ⟨s.1.far (by omega) _ _, s.2.1.stored l2 h2, below_store s.2.2 (by omega) _ _⟩
theorem NewAt.start (w : World) (T : TypeId) : NewAt w 0 0 ((w.alloc (.cells #[.int .i64 0, .int .i64 0] T)).alloc (.cells #[.int .i64 0, .int .i64 0] T)) := by
  have h := FreeSet.new (w.alloc (.cells #[.int .i64 0, .int .i64 0] T)) 0 0 T
  rw [show (w.alloc (.cells #[.int .i64 0, .int .i64 0] T)).heap.size = w.heap.size + 1 by simp] at h
  exact ⟨(FreeSet.new w 0 0 T).later (bl1 _ _), h, bl2 _ _ _⟩

theorem Cs.or_one {l h : Int} (f1 : Cs.Fits l) (f2 : Cs.Fits h) {x : Int} (h0 : 0 ≤ x) (h1 : x < 128) : bits .or .i64 l (Cs.oneL x) = Cs.addL l x.toNat ∧ bits .or .i64 h (Cs.oneH x) = Cs.addH h x.toNat := by
  unfold Cs.oneL Cs.oneH Cs.addL Cs.addH
  by_cases ha : x < 64
  · have hb : x.toNat < 64 := by omega
    rw [if_pos ha, if_pos ha, if_pos hb, if_pos hb, Cs.or_zero f2]; exact ⟨rfl, rfl⟩
  · have hb : ¬ x.toNat < 64 := by omega
    have e0 : x.toNat - 64 = (x - 64).toNat := by omega
    rw [if_neg ha, if_neg ha, if_neg hb, if_neg hb, if_pos h1, Cs.or_zero f1, e0]; exact ⟨rfl, rfl⟩
set_option maxHeartbeats 800000 in
theorem spec_new (s : ByteArray) (hs : s.size ≤ maxLen) (w : World) : Calls Tryz.prog 66 #[.string s] w (RetNew w (Cs.newL s) (Cs.newH s) (Cs.good s)) := by
  unfold maxLen at hs
  go_enter Tryz.func66, Tryz.ntmps66
  go_wp2
  go_loopw [5] (fun i wr => ∃ k : Nat, i = .int .i64 k ∧ k ≤ s.size ∧ Cs.okTo s k = true ∧ NewAt w (Cs.allL (Cs.pre s k)) (Cs.allH (Cs.pre s k)) wr) (fun i _ => s.size - (intOf i).toNat)
  case atStart => exact ⟨0, rfl, by omega, rfl, NewAt.start w _⟩
  case round =>
    obtain ⟨k, rfl, hk, hok, hn⟩ := hrel
    have HO := Lib.hid hok
    have HN := Lib.hid hn
    clear hok
    by_cases hlt : k < s.size
    · by_cases hbad : 128 ≤ (s[k].toNat : Int)
      · obtain ⟨⟨⟨r0, r1⟩, r2, r3⟩, _, hB⟩ := hn
        have HB := Lib.hid hB
        have HG := Lib.hid (Cs.good_bad s k hlt (by omega))
        clear hB
        go_wp2
        exact bodyPost_ret (v := .tuple #[.agg #[.int .i64 0, .int .i64 0], .bool false]) (by simp [results, Tryz.results66, go_sem, r0, r1]) rfl ⟨by rw [HG.out.1, HG.out.2.1, HG.out.2.2], below_store HB.out (Nat.le_refl _) _ _⟩
      · obtain ⟨⟨⟨r0, r1⟩, r2, r3⟩, ⟨⟨t0, t1⟩, t2, t3⟩, hB⟩ := hn
        have hx : s[k].toNat < 128 := by omega
        have HX := Lib.hid (Cs.okTo_succ s k hlt)
        have HP := Lib.hid (Cs.pre_succ s k hlt)
        have HL := Lib.hid (Cs.all_snoc (Cs.pre s k) s[k].toNat)
        clear hB
        have k0 : (0 : Int) ≤ k := by omega
        have k1 : (k : Int) < s.size := by omega
        go_wp2_with fail
        go_region_with (first | (go_at_call 85; refine (spec_add _ _ _ _ (by omega) (by omega)).mono ?_; rw [Int.toNat_natCast]; rintro e w1 ⟨rfl, hb1⟩; have HN1 := Lib.hid (HN.out.drew.later hb1); obtain ⟨⟨q0, q1⟩, q2, q3⟩ := HN1.out.2.1))
        all_goals go_wp2
        all_goals go_roundw
        all_goals first
          | exact ⟨k + 1, by go_num, by omega, by rw [HX.out, HO.out]; simpa using hx, by rw [HP.out, HL.out.1, HL.out.2]; exact HN1.out.stored _ _⟩
          | (simp [intOf]; done)
          | (simp [intOf]; omega)
    · obtain rfl : k = s.size := by omega
      obtain ⟨⟨⟨r0, r1⟩, r2, r3⟩, ⟨⟨t0, t1⟩, t2, t3⟩, hB⟩ := hn
      have HB := Lib.hid hB
      have HG := Lib.hid (Cs.good_end s HO.out)
      clear hB
      go_wp2
      exact bodyPost_ret (v := .tuple #[.agg #[.int .i64 (Cs.allL (Cs.pre s s.size)), .int .i64 (Cs.allH (Cs.pre s s.size))], .bool true]) (by simp [results, Tryz.results66, go_sem, r0, r1]) rfl ⟨by rw [HG.out.1, HG.out.2.1, HG.out.2.2], below_store HB.out (Nat.le_refl _) _ _⟩

set_option maxHeartbeats 800000 in
theorem impl_new (s : ByteArray) (hs : s.size ≤ maxLen) (w : World) : Calls Tryz.prog 22 #[.string s] w (RetNew w (Cs.newL s) (Cs.newH s) (Cs.good s)) := by
  unfold maxLen at hs
  go_enter Tryz.func22, Tryz.ntmps22
  go_wp2
  go_loopw [5, 8] (fun _ i wr => ∃ k : Nat, i = .int .i64 k ∧ k ≤ s.size ∧ Cs.okTo s k = true ∧ NewAt w (Cs.allL (Cs.pre s k)) (Cs.allH (Cs.pre s k)) wr) (fun _ i _ => s.size - (intOf i).toNat)
  case atStart => exact ⟨0, rfl, by omega, rfl, NewAt.start w _⟩
  case round =>
    obtain ⟨k, rfl, hk, hok, hn⟩ := hrel
    have HO := Lib.hid hok
    have HN := Lib.hid hn
    clear hok
    by_cases hlt : k < s.size
    · by_cases hbad : 128 ≤ (s[k].toNat : Int)
      · obtain ⟨⟨⟨r0, r1⟩, r2, r3⟩, _, hB⟩ := hn
        have HB := Lib.hid hB
        have HG := Lib.hid (Cs.good_bad s k hlt (by omega))
        clear hB
        go_wp2
        exact bodyPost_ret (v := .tuple #[.agg #[.int .i64 0, .int .i64 0], .bool false]) (by simp [results, Tryz.results22, go_sem, r0, r1]) rfl ⟨by rw [HG.out.1, HG.out.2.1, HG.out.2.2], below_store HB.out (Nat.le_refl _) _ _⟩
      · obtain ⟨⟨⟨r0, r1⟩, r2, r3⟩, ⟨⟨t0, t1⟩, t2, t3⟩, hB⟩ := hn
        have hx : s[k].toNat < 128 := by omega
        have HX := Lib.hid (Cs.okTo_succ s k hlt)
        have HP := Lib.hid (Cs.pre_succ s k hlt)
        have HL := Lib.hid (Cs.all_snoc (Cs.pre s k) s[k].toNat)
        clear hB
        have k0 : (0 : Int) ≤ k := by omega
        have k1 : (k : Int) < s.size := by omega
        go_wp2_with fail
        have HR := Lib.hid (Cs.or_one (Cs.allL_fits (Cs.pre s k)) (Cs.allH_fits (Cs.pre s k)) (x := s[k].toNat) (by omega) (by omega))
        go_region_with (first | (go_at_call 52; refine (impl_one _ _ (by omega) (by omega)).mono ?_; rintro e w1 ⟨rfl, hb1⟩; have HN1 := Lib.hid (HN.out.drew.later hb1); obtain ⟨⟨q0, q1⟩, q2, q3⟩ := HN1.out.2.1) | (go_at_call 51; refine (impl_or _ _ _ _ _).mono ?_; rintro e w2 ⟨rfl, hb2⟩; have HN2 := Lib.hid (HN1.out.later hb2); obtain ⟨⟨q0, q1⟩, q2, q3⟩ := HN2.out.2.1))
        all_goals go_wp2
        all_goals go_roundw
        all_goals first
          | exact ⟨k + 1, by go_num, by omega, by rw [HX.out, HO.out]; simpa using hx, by rw [HP.out, HL.out.1, HL.out.2]; rw [HR.out.1, HR.out.2]; exact HN2.out.stored _ _⟩
          | (simp [intOf]; done)
          | (simp [intOf]; omega)
    · obtain rfl : k = s.size := by omega
      obtain ⟨⟨⟨r0, r1⟩, r2, r3⟩, ⟨⟨t0, t1⟩, t2, t3⟩, hB⟩ := hn
      have HB := Lib.hid hB
      have HG := Lib.hid (Cs.good_end s HO.out)
      clear hB
      go_wp2
      exact bodyPost_ret (v := .tuple #[.agg #[.int .i64 (Cs.allL (Cs.pre s s.size)), .int .i64 (Cs.allH (Cs.pre s s.size))], .bool true]) (by simp [results, Tryz.results22, go_sem, r0, r1]) rfl ⟨by rw [HG.out.1, HG.out.2.1, HG.out.2.2], below_store HB.out (Nat.le_refl _) _ _⟩
end Go.Proofs.YtfhakailbikjkaaGreatDoor
/- RangeCset of the program and of the reference model, and the walks of the laws on NewCset and RangeCset. No conditions. -/
namespace Go.Proofs.YtfhakailbikjkaaGreatDoor
open Go.RowKit
attribute [local go_sem ↓] Go.wp_at_zero Go.wp_at_succ
set_option linter.unusedVariables false

/-- Is there such a range? -/
def Cs.rngOk (f t : Nat) : Bool := decide (f ≤ t) && decide (t < 128)
def Cs.rngL (f t : Nat) : Int := if Cs.rngOk f t = true then Cs.allL (List.range' f (t + 1 - f)) else 0
def Cs.rngH (f t : Nat) : Int := if Cs.rngOk f t = true then Cs.allH (List.range' f (t + 1 - f)) else 0
theorem Cs.rng_no {f t : Nat} (h : t < f ∨ 128 ≤ t) : Cs.rngOk f t = false ∧ Cs.rngL f t = 0 ∧ Cs.rngH f t = 0 := by
  have e : Cs.rngOk f t = false := by unfold Cs.rngOk; rcases h with h | h <;> simp <;> omega
  exact ⟨e, by unfold Cs.rngL; rw [if_neg (by rw [e]; simp)], by unfold Cs.rngH; rw [if_neg (by rw [e]; simp)]⟩
theorem Cs.rng_yes {f t : Nat} (h1 : f ≤ t) (h2 : t < 128) : Cs.rngOk f t = true ∧ Cs.rngL f t = Cs.allL (List.range' f (t + 1 - f)) ∧ Cs.rngH f t = Cs.allH (List.range' f (t + 1 - f)) := by
  have e : Cs.rngOk f t = true := by unfold Cs.rngOk; simp; omega
  exact ⟨e, by unfold Cs.rngL; rw [if_pos e], by unfold Cs.rngH; rw [if_pos e]⟩
theorem Cs.rng_snoc (f k : Nat) : Cs.allL (List.range' f (k + 1)) = Cs.addL (Cs.allL (List.range' f k)) (f + k) ∧ Cs.allH (List.range' f (k + 1)) = Cs.addH (Cs.allH (List.range' f k)) (f + k) := by
  rw [List.range'_1_concat]; exact Cs.all_snoc _ _

end Go.Proofs.YtfhakailbikjkaaGreatDoor
/- UnquoteText and UnquoteCset of the program and of the reference model, and the walks of their laws. No conditions beside what the variable holds. -/
namespace Go.Proofs.YtfhakailbikjkaaGreatDoor
open Go.RowKit
set_option linter.unusedVariables false

theorem impl_unq (a : Addr) (d : UInt8) (s : ByteArray) (w : World) (hS : SentAt a w) (hs : (s.size : Int) ≤ 1048576) :
    Calls Tryz.prog 89 #[.string s, .int .u8 (d.toNat : Int)] w (RetLit w d s.data.toList) := by
  rcases lit_cases d s with h | ⟨n, hn, h1, h | h | ⟨h2, h3, h4, h5⟩⟩
  · exact unq_no d s w hs (.inl h)
  · exact unq_no d s w hs (.inr ⟨n, hn, h1, .inl h⟩)
  · exact unq_no d s w hs (.inr ⟨n, hn, h1, .inr h⟩)
  · exact unq_yes a d s w hS hs n hn h1 h2 h3 h5
theorem spec_unq (d : UInt8) (hd : d = 34 ∨ d = 39) (s : ByteArray) (w : World) (hs : (s.size : Int) ≤ 1048576) :
    Calls Tryz.prog 65 #[.string s, .int .u8 (d.toNat : Int)] w (RetLit w d s.data.toList) := by
  rcases slit_cases d hd s with h | ⟨h1, h | h | ⟨h2, h3, h4⟩⟩
  · exact sunq_no d s w hs (.inl h)
  · exact sunq_no d s w hs (.inr ⟨h1, .inl h⟩)
  · exact sunq_no d s w hs (.inr ⟨h1, .inr h⟩)
  · exact sunq_yes d hd s w hs h1 h2 h3 h4
theorem lit_size (d : UInt8) (s : ByteArray) (hs : (s.size : Int) ≤ 1048576) : (str8 (Lt.litL d s.data.toList)).size ≤ maxLen := by
  rw [str8_size]
  cases h : Lt.lit d s.data.toList with
  | none => rw [(Lt.lit_none h).2]; unfold maxLen; simp
  | some A =>
    rw [(Lt.lit_some h).2]
    unfold Lt.lit at h
    split at h
    · cases h
    · have h2 := Lt.rd_len _ (Nat.le_refl _) h
      rw [List.length_dropLast, List.length_drop, len8] at h2
      unfold maxLen; omega

/-- The set that a literal denotes, and whether it denotes one. -/
def ucL (S : List UInt8) : Int := if Lt.litB 39 S = true then Cs.newL (str8 (Lt.litL 39 S)) else 0
def ucH (S : List UInt8) : Int := if Lt.litB 39 S = true then Cs.newH (str8 (Lt.litL 39 S)) else 0
def ucB (S : List UInt8) : Bool := if Lt.litB 39 S = true then Cs.good (str8 (Lt.litL 39 S)) else false

theorem impl_ut (a : Addr) (s : ByteArray) (w : World) (hS : SentAt a w) (hs : (s.size : Int) ≤ 1048576) : Calls Tryz.prog 80 #[.string s] w (RetLit w 34 s.data.toList) := by
  have H : Hid (Calls Tryz.prog 89 #[.string s, .int .u8 34] w (RetLit w 34 s.data.toList)) := impl_unq a 34 s w hS hs
  unfold RetLit at H ⊢
  generalize str8 (Lt.litL 34 s.data.toList) = t at H ⊢
  generalize Lt.litB 34 s.data.toList = b at H ⊢
  clear hS
  go_enter Tryz.func80, Tryz.ntmps80
  go_wp2_with fail
  refine H.out.mono ?_
  rintro e w1 ⟨rfl, hb1⟩
  go_wp2
  go_ret2
  exact ⟨rfl, hb1⟩
theorem spec_ut (s : ByteArray) (w : World) (hs : (s.size : Int) ≤ 1048576) : Calls Tryz.prog 45 #[.string s] w (RetLit w 34 s.data.toList) := by
  have H : Hid (Calls Tryz.prog 65 #[.string s, .int .u8 34] w (RetLit w 34 s.data.toList)) := spec_unq 34 (.inl rfl) s w hs
  unfold RetLit at H ⊢
  generalize str8 (Lt.litL 34 s.data.toList) = t at H ⊢
  generalize Lt.litB 34 s.data.toList = b at H ⊢
  go_enter Tryz.func45, Tryz.ntmps45
  go_wp2_with fail
  refine H.out.mono ?_
  rintro e w1 ⟨rfl, hb1⟩
  go_wp2
  go_ret2
  exact ⟨rfl, hb1⟩

set_option maxHeartbeats 800000 in
theorem impl_uc (a : Addr) (s : ByteArray) (w : World) (hS : SentAt a w) (hs : (s.size : Int) ≤ 1048576) : Calls Tryz.prog 81 #[.string s] w (RetNew w (ucL s.data.toList) (ucH s.data.toList) (ucB s.data.toList)) := by
  unfold RetNew
  have H : Hid (∀ W, SentAt a W → Calls Tryz.prog 89 #[.string s, .int .u8 39] W (RetLit W 39 s.data.toList)) := fun W h => impl_unq a 39 s W h hs
  have HN := Lib.hid (fun W => impl_new (str8 (Lt.litL 39 s.data.toList)) (lit_size 39 s hs) W)
  unfold RetLit at H
  unfold RetNew at HN
  unfold ucL ucH ucB
  generalize str8 (Lt.litL 39 s.data.toList) = t at H HN ⊢
  have HS0 := Lib.hid (sentAt_below hS (bl1 w (.cells #[.int .i64 0, .int .i64 0] 49)))
  have HF0 := Lib.hid (FreeSet.new w 0 0 49)
  clear hS
  cases hb : Lt.litB 39 s.data.toList
  · rw [hb] at H
    clear hb
    go_enter Tryz.func81, Tryz.ntmps81
    go_wp2_with fail
    refine (H.out _ HS0.out).mono ?_
    rintro e w1 ⟨rfl, hb1⟩
    have HF1 := Lib.hid (HF0.out.later hb1)
    have HB1 := Lib.hid (below_step (bl1 _ _) hb1)
    obtain ⟨⟨r0, r1⟩, r2, r3⟩ := HF1.out
    clear hb1
    go_wp2
    exact bodyPost_ret (v := .tuple #[.agg #[.int .i64 0, .int .i64 0], .bool false]) (by simp [results, Tryz.results81, go_sem, r0, r1]) rfl ⟨rfl, below_store HB1.out (Nat.le_refl _) _ _⟩
  · rw [hb] at H
    clear hb
    generalize Cs.newL t = l at HN ⊢
    generalize Cs.newH t = z at HN ⊢
    generalize Cs.good t = g at HN ⊢
    go_enter Tryz.func81, Tryz.ntmps81
    go_wp2_with fail
    refine (H.out _ HS0.out).mono ?_
    rintro e w1 ⟨rfl, hb1⟩
    have HF1 := Lib.hid (HF0.out.later hb1)
    have HB1 := Lib.hid (below_step (bl1 _ _) hb1)
    clear hb1
    go_wp2_with fail
    refine (HN.out _).mono ?_
    rintro e w2 ⟨rfl, hb2⟩
    have HB2 := Lib.hid (below_step HB1.out hb2)
    obtain ⟨⟨r0, r1⟩, r2, r3⟩ := HF1.out.later hb2
    clear hb2
    go_wp2
    exact bodyPost_ret (v := .tuple #[.agg #[.int .i64 l, .int .i64 z], .bool g]) (by simp [results, Tryz.results81, go_sem, r0, r1]) rfl ⟨rfl, below_store HB2.out (Nat.le_refl _) _ _⟩
set_option maxHeartbeats 800000 in
theorem spec_uc (s : ByteArray) (w : World) (hs : (s.size : Int) ≤ 1048576) : Calls Tryz.prog 46 #[.string s] w (RetNew w (ucL s.data.toList) (ucH s.data.toList) (ucB s.data.toList)) := by
  unfold RetNew
  have H : Hid (∀ W, Calls Tryz.prog 65 #[.string s, .int .u8 39] W (RetLit W 39 s.data.toList)) := fun W => spec_unq 39 (.inr rfl) s W hs
  have HN := Lib.hid (fun W => spec_new (str8 (Lt.litL 39 s.data.toList)) (lit_size 39 s hs) W)
  unfold RetLit at H
  unfold RetNew at HN
  unfold ucL ucH ucB
  generalize str8 (Lt.litL 39 s.data.toList) = t at H HN ⊢
  have HF0 := Lib.hid (FreeSet.new w 0 0 49)
  cases hb : Lt.litB 39 s.data.toList
  · rw [hb] at H
    clear hb
    go_enter Tryz.func46, Tryz.ntmps46
    go_wp2_with fail
    refine (H.out _).mono ?_
    rintro e w1 ⟨rfl, hb1⟩
    have HF1 := Lib.hid (HF0.out.later hb1)
    have HB1 := Lib.hid (below_step (bl1 _ _) hb1)
    obtain ⟨⟨r0, r1⟩, r2, r3⟩ := HF1.out
    clear hb1
    go_wp2
    exact bodyPost_ret (v := .tuple #[.agg #[.int .i64 0, .int .i64 0], .bool false]) (by simp [results, Tryz.results46, go_sem, r0, r1]) rfl ⟨rfl, below_store HB1.out (Nat.le_refl _) _ _⟩
  · rw [hb] at H
    clear hb
    generalize Cs.newL t = l at HN ⊢
    generalize Cs.newH t = z at HN ⊢
    generalize Cs.good t = g at HN ⊢
    go_enter Tryz.func46, Tryz.ntmps46
    go_wp2_with fail
    refine (H.out _).mono ?_
    rintro e w1 ⟨rfl, hb1⟩
    have HF1 := Lib.hid (HF0.out.later hb1)
    have HB1 := Lib.hid (below_step (bl1 _ _) hb1)
    clear hb1
    go_wp2_with fail
    refine (HN.out _).mono ?_
    rintro e w2 ⟨rfl, hb2⟩
    have HB2 := Lib.hid (below_step HB1.out hb2)
    obtain ⟨⟨r0, r1⟩, r2, r3⟩ := HF1.out.later hb2
    clear hb2
    go_wp2
    exact bodyPost_ret (v := .tuple #[.agg #[.int .i64 l, .int .i64 z], .bool g]) (by simp [results, Tryz.results46, go_sem, r0, r1]) rfl ⟨rfl, below_store HB2.out (Nat.le_refl _) _ _⟩

end Go.Proofs.YtfhakailbikjkaaGreatDoor
/- OnesCount64 counts the ones of a word. No conditions. -/
namespace Go.Proofs.YtfhakailbikjkaaGreatDoor
open Go.RowKit
set_option linter.unusedVariables false

theorem Cs.wrap_u64 {n : Int} (h0 : 0 ≤ n) (h1 : n < 18446744073709551616) : IntKind.u64.wrap n = n := by
  have : IntKind.u64.wrap n = n % 18446744073709551616 := by simp [IntKind.wrap, IntKind.bits, IntKind.signed]
  rw [this]; omega
theorem Cs.mask1 : Cs.mask 1 32 = 6148914691236517205 := by decide
theorem Cs.mask2 : Cs.mask 2 16 = 3689348814741910323 := by decide
theorem Cs.mask4 : Cs.mask 4 8 = 1085102592571150095 := by decide
theorem Cs.step_and (x d m : Nat) (hx : x < 18446744073709551616) (hm : m < 18446744073709551616) : bits .and .u64 ((x : Int) / (d : Nat)) (m : Nat) = ((x / d &&& m : Nat) : Int) := by
  rw [← Int.natCast_ediv]
  exact u64_and_nat _ _ (Nat.lt_of_le_of_lt (Nat.div_le_self _ _) hx) hm
theorem Cs.step1 (x : Nat) (hx : x < 18446744073709551616) : IntKind.u64.wrap (bits .and .u64 ((x : Int) / 2) 6148914691236517205 + bits .and .u64 (x : Int) 6148914691236517205) = ((Cs.pair 1 32 x : Nat) : Int) := by
  have h1 : bits .and .u64 ((x : Int) / 2) 6148914691236517205 = ((x / 2 &&& 6148914691236517205 : Nat) : Int) := Cs.step_and x 2 6148914691236517205 hx (by decide)
  have h2 : bits .and .u64 (x : Int) 6148914691236517205 = ((x &&& 6148914691236517205 : Nat) : Int) := u64_and_nat x 6148914691236517205 hx (by decide)
  have h3 := Cs.pair_lt 1 32 x
  have e : Cs.pair 1 32 x = (x / 2 &&& 6148914691236517205) + (x &&& 6148914691236517205) := by unfold Cs.pair; rw [Cs.mask1]
  rw [Cs.mask1] at h3
  rw [e] at h3
  rw [h1, h2, e]
  rw [Cs.wrap_u64 (by omega) (by omega)]; rfl
theorem Cs.step2 (x : Nat) (hx : x < 18446744073709551616) : IntKind.u64.wrap (bits .and .u64 ((x : Int) / 4) 3689348814741910323 + bits .and .u64 (x : Int) 3689348814741910323) = ((Cs.pair 2 16 x : Nat) : Int) := by
  have h1 : bits .and .u64 ((x : Int) / 4) 3689348814741910323 = ((x / 4 &&& 3689348814741910323 : Nat) : Int) := Cs.step_and x 4 3689348814741910323 hx (by decide)
  have h2 : bits .and .u64 (x : Int) 3689348814741910323 = ((x &&& 3689348814741910323 : Nat) : Int) := u64_and_nat x 3689348814741910323 hx (by decide)
  have h3 := Cs.pair_lt 2 16 x
  have e : Cs.pair 2 16 x = (x / 4 &&& 3689348814741910323) + (x &&& 3689348814741910323) := by unfold Cs.pair; rw [Cs.mask2]
  rw [Cs.mask2] at h3
  rw [e] at h3
  rw [h1, h2, e]
  rw [Cs.wrap_u64 (by omega) (by omega)]; rfl
theorem Cs.step3 (x : Nat) (hx : x ≤ 7378697629483820646) (hs : Cs.small 4 4 16 x) : bits .and .u64 (IntKind.u64.wrap ((x : Int) / 16 + x)) 1085102592571150095 = ((Cs.pair 4 8 x : Nat) : Int) := by
  have e := Cs.lump_step 4 4 (by decide) 8 x hs
  rw [Cs.mask4, show (2 : Nat) ^ 4 = 16 from rfl] at e
  rw [Cs.wrap_u64 (by omega) (by omega), ← e]
  have := u64_and_nat (x / 16 + x) 1085102592571150095 (by omega) (by decide)
  rw [← this]; rfl
theorem Cs.step4 (x d : Nat) (hx : x + x / d < 18446744073709551616) : IntKind.u64.wrap ((x : Int) + (x : Int) / (d : Nat)) = ((x + x / d : Nat) : Int) := by
  rw [← Int.natCast_ediv, ← Int.natCast_add]
  exact Cs.wrap_u64 (Int.natCast_nonneg _) (by omega)
/-- The steps together. -/
theorem Cs.steps (x : Nat) (hx : x < 18446744073709551616) (y1 y2 y3 z1 z2 z3 : Nat) (h1 : y1 = Cs.pair 1 32 x) (h2 : y2 = Cs.pair 2 16 y1) (h3 : y3 = Cs.pair 4 8 y2) (e1 : z1 = y3 + y3 / 256) (e2 : z2 = z1 + z1 / 65536) (e3 : z3 = z2 + z2 / 4294967296) :
    y1 < 18446744073709551616 ∧ y2 ≤ 7378697629483820646 ∧ Cs.small 4 4 16 y2 ∧ y3 < 18446744073709551616 ∧ z1 < 18446744073709551616 ∧ z2 < 18446744073709551616 ∧ z3 < 18446744073709551616 ∧ z3 % 128 = Cs.dsum 1 64 x := by
  obtain ⟨s1, t1⟩ := Cs.pair_step 1 1 (by decide) 32 x (Cs.small_one 64 x)
  rw [← h1] at s1 t1
  obtain ⟨s2, t2⟩ := Cs.pair_step 2 2 (by decide) 16 y1 t1
  rw [← h2] at s2 t2
  obtain ⟨s3, t3⟩ := Cs.pair_step 4 4 (by decide) 8 y2 t2
  rw [← h3] at s3 t3
  have l1 := Cs.pair_lt 1 32 x
  have l2 := Cs.pair_lt 2 16 y1
  have l3 := Cs.pair_lt 4 8 y2
  rw [← h1, Cs.mask1] at l1
  rw [← h2, Cs.mask2] at l2
  rw [← h3, Cs.mask4] at l3
  obtain ⟨f1, f2, f3, f4⟩ := Cs.fold_bytes y3 t3 (by omega) z1 z2 z3 e1 e2 e3
  exact ⟨by omega, by omega, t2, by omega, f1, f2, f3, by rw [f4, s3, s2, s1]⟩
theorem ret_i {k : IntKind} {a b : Int} (h : a = b) : Ending.returned (.int k a) = .returned (.int k b) := by rw [h]

theorem Cs.last (z s : Nat) (h : z % 128 = s) : wrap64 (z : Int) % 128 = (s : Int) := by
  unfold wrap64; omega
theorem ones (x : Nat) (hx : x < 18446744073709551616) (w : World) : Calls Tryz.prog 87 #[.int .u64 x] w fun e w' => e = .returned (.int .i64 ((Cs.dsum 1 64 x : Nat) : Int)) ∧ w = w' := by
  go_enter Tryz.func87, Tryz.ntmps87
  go_wp2
  go_ret
  refine ⟨ret_i ?_, rfl⟩
  obtain ⟨a1, a2, a3, a4, b1, b2, b3, b4⟩ := Cs.steps x hx _ _ _ _ _ _ rfl rfl rfl rfl rfl rfl
  rw [Cs.step1 x hx, Cs.step2 _ a1, Cs.step3 _ a2 a3]
  generalize Cs.pair 4 8 (Cs.pair 2 16 (Cs.pair 1 32 x)) = y at *
  have c1 : IntKind.u64.wrap ((y : Int) + (y : Int) / 256) = ((y + y / 256 : Nat) : Int) := Cs.step4 y 256 b1
  rw [c1]
  generalize y + y / 256 = y1 at *
  have c2 : IntKind.u64.wrap ((y1 : Int) + (y1 : Int) / 65536) = ((y1 + y1 / 65536 : Nat) : Int) := Cs.step4 y1 65536 b2
  rw [c2]
  generalize y1 + y1 / 65536 = y2 at *
  have c3 : IntKind.u64.wrap ((y2 : Int) + (y2 : Int) / 4294967296) = ((y2 + y2 / 4294967296 : Nat) : Int) := Cs.step4 y2 4294967296 b3
  rw [c3, i64_and127]
  exact Cs.last _ _ b4
end Go.Proofs.YtfhakailbikjkaaGreatDoor
