/- What a literal denotes: the reference model's reading of one. No conditions. -/
import Derived.Test.YtjgnigalodebkaaDoorJ8
namespace Go.Proofs.YtjgnigalodebkaaDoor
open Go.RowKit
set_option linter.unusedVariables false

theorem end_zero (d : UInt8) (s : ByteArray) (w : World) (hs : (s.size : Int) ≤ 1048576) (h0 : 0 < s.size) (hd : s[0] = d) : Calls Tryd.prog 46 #[.string s, .int .i64 0] w (RetEnd w (Lt.ends d s.data.toList 1)) := by
  have h := spec_end s 0 w hs h0
  rw [hd] at h
  exact h
/-- The three ways in which a text is no literal for the model, and the one in which it goes on. -/
theorem slit_cases (d : UInt8) (hd : d = 34 ∨ d = 39) (s : ByteArray) : (s.size < 2 ∧ Lt.lit d s.data.toList = none)
    ∨ (∃ h : 2 ≤ s.size, (s[0] ≠ d ∧ Lt.lit d s.data.toList = none) ∨ (s[0] = d ∧ Lt.ends d s.data.toList 1 ≠ some s.size ∧ Lt.lit d s.data.toList = none)
      ∨ (s[0] = d ∧ Lt.ends d s.data.toList 1 = some s.size ∧ Lt.lit d s.data.toList = Lt.uq d (s.data.toList.dropLast.drop 1))) := by
  have hl := len8 s
  have hdd : (s.data.toList.drop 1).dropLast = s.data.toList.dropLast.drop 1 := by
    rw [List.dropLast_eq_take, List.dropLast_eq_take, List.drop_take, List.length_drop]
  rcases lit_cases d s with h | ⟨n, hn, h1, ⟨h2, e⟩ | ⟨h2, h3, e⟩ | ⟨h2, h3, h4, e⟩⟩
  · exact .inl h
  · exact .inr ⟨by omega, .inl ⟨h2, e⟩⟩
  · refine .inr ⟨by omega, .inr (.inl ⟨h2, ?_, e⟩)⟩
    intro h5
    obtain ⟨q1, q2, q3⟩ := Lt.ends_last hd s.data.toList _ 1 s.size (Nat.le_refl _) h5
    apply h3
    have e2 : s.size - 1 = n := by omega
    have q4 : s.data.toList[s.size - 1]'q1 = s[n] := by congr 1
    rw [← q4]; exact q3
  · by_cases h5 : Lt.ends d s.data.toList 1 = some s.size
    · exact .inr ⟨by omega, .inr (.inr ⟨h2, h5, by rw [e, hdd]⟩)⟩
    · refine .inr ⟨by omega, .inr (.inl ⟨h2, h5, ?_⟩)⟩
      rw [e, hdd]
      exact Lt.ends_no hd s.data.toList h4 _ 1 (Nat.le_refl _) (by omega) (by rw [hl]; exact h5)
theorem end_ne {o : Option Nat} {n : Nat} (h : o ≠ some n) : (endV o == (n : Int)) = false := by
  cases o with
  | none => simp [endV]
  | some m =>
    have : m ≠ n := fun e => h (by rw [e])
    simp [endV]; omega
theorem sunq_no (d : UInt8) (s : ByteArray) (w : World) (hs : (s.size : Int) ≤ 1048576) (h : (s.size < 2 ∧ Lt.lit d s.data.toList = none) ∨ (∃ h : 2 ≤ s.size, (s[0] ≠ d ∧ Lt.lit d s.data.toList = none) ∨ (s[0] = d ∧ Lt.ends d s.data.toList 1 ≠ some s.size ∧ Lt.lit d s.data.toList = none))) :
    Calls Tryd.prog 27 #[.string s, .int .u8 (d.toNat : Int)] w (RetLit w d s.data.toList) := by
  unfold RetLit
  rcases h with ⟨h2, e⟩ | ⟨h1, ⟨h2, e⟩ | ⟨h2, h3, e⟩⟩
  · have HL := Lib.hid (lit_no e)
    have t1 : (s.size : Int) < 2 := by omega
    clear e h2
    go_enter Tryd.func27, Tryd.ntmps27
    go_wp2
    go_ret2
    exact ⟨HL.out, Below.refl _ _⟩
  · have HL := Lib.hid (lit_no e)
    have t1 : ¬ (s.size : Int) < 2 := by omega
    have t0 : (0 : Int) < s.size := by omega
    have t2 : ((s[0].toNat : Int) == (d.toNat : Int)) = false := ne_int h2
    have t3 : ((s[0].toNat : Int) != (d.toNat : Int)) = true := by simp only [bne, t2]; rfl
    clear e h2
    go_enter Tryd.func27, Tryd.ntmps27
    go_wp2
    go_ret2
    exact ⟨HL.out, Below.refl _ _⟩
  · have HL := Lib.hid (lit_no e)
    have t1 : ¬ (s.size : Int) < 2 := by omega
    have t0 : (0 : Int) < s.size := by omega
    have t2 : ((s[0].toNat : Int) == (d.toNat : Int)) = true := by rw [h2]; simp
    have t3 : ((s[0].toNat : Int) != (d.toNat : Int)) = false := by simp only [bne, t2]; rfl
    have HE := Lib.hid (fun W => end_zero d s W hs (by omega) h2)
    have t4 := end_ne h3
    have t5 : (endV (Lt.ends d s.data.toList 1) != (s.size : Int)) = true := by simp only [bne, t4]; rfl
    unfold RetEnd at HE
    generalize endV (Lt.ends d s.data.toList 1) = z at HE t4 t5
    clear e h2 h3
    go_enter Tryd.func27, Tryd.ntmps27
    go_wp2_with (go_at_call 46; refine (HE.out _).mono ?_; rintro e w1 ⟨rfl, hb1⟩; have HB1 := Lib.hid hb1; clear hb1)
    go_ret2
    exact ⟨HL.out, HB1.out⟩

/-- The state of the loop: places. -/
def VAt (w : World) (d : UInt8) (S A : List UInt8) (k : Nat) (v : Value) (wr : World) : Prop := Own8 wr w.heap.size v A ∧ Lt.Rd d (S.dropLast.drop 1) A (S.dropLast.drop k) ∧ Lt.ends d S k = some S.length ∧ A.length ≤ k ∧ Below w.heap.size w wr
theorem VAt.next {w wr w2 : World} {d b : UInt8} {S A : List UInt8} {k k2 : Nat} {v v2 : Value} (h : Hid (VAt w d S A k v wr)) (hs : Hid (Lt.step d (S.dropLast.drop k) = some (b, S.dropLast.drop k2))) (he : Hid (Lt.ends d S k2 = some S.length)) (hk : k < k2) (ho : Hid (Own8 w2 w.heap.size v2 (A ++ [b]))) (h2 : Hid (Below w.heap.size wr w2)) : VAt w d S (A ++ [b]) k2 v2 w2 := by
  have h4 := h.out.2.2.2.1
  refine ⟨ho.out, Lt.rd_next h.out.2.1 hs.out, he.out, ?_, h.out.2.2.2.2.trans h2.out⟩
  rw [List.length_append, List.length_singleton]; omega
theorem VAt.bad {w wr : World} {d : UInt8} {S A : List UInt8} {k : Nat} {v : Value} (h : Hid (VAt w d S A k v wr)) (hk : k + 1 < S.length) (hs : Lt.step d (S.dropLast.drop k) = none) (hl : Hid (Lt.lit d S = Lt.uq d (S.dropLast.drop 1))) : Lt.lit d S = none :=
  hl.out.trans (Lt.rd_bad h.out.2.1 (by intro e; have := congrArg List.length e; simp at this; omega) hs)
theorem drop_mid {S : List UInt8} {k : Nat} (h : k + 1 < S.length) : S.dropLast.drop k = S[k] :: S.dropLast.drop (k + 1) := by
  have hT : k < S.dropLast.length := by rw [List.length_dropLast]; omega
  rw [List.drop_eq_getElem_cons hT, List.getElem_dropLast]
theorem esc_short {S : List UInt8} {k : Nat} (h : S.length ≤ k + 2) : Lt.esc (120 :: S.dropLast.drop k) = none := by
  have hl : (S.dropLast.drop k).length < 2 := by rw [List.length_drop, List.length_dropLast]; omega
  generalize S.dropLast.drop k = R at hl
  rcases R with _ | ⟨b, _ | ⟨c, R⟩⟩
  · simp [Lt.esc]
  · simp [Lt.esc]
  · simp at hl; omega

set_option maxRecDepth 100000 in
set_option maxHeartbeats 3200000 in
theorem sunq_yes (d : UInt8) (hd : d = 34 ∨ d = 39) (s : ByteArray) (w : World) (hs : (s.size : Int) ≤ 1048576) (h1 : 2 ≤ s.size) (h2 : s[0] = d) (h3 : Lt.ends d s.data.toList 1 = some s.size) (hlit : Lt.lit d s.data.toList = Lt.uq d (s.data.toList.dropLast.drop 1)) :
    Calls Tryd.prog 27 #[.string s, .int .u8 (d.toNat : Int)] w (RetLit w d s.data.toList) := by
  unfold RetLit
  have HL := Lib.hid (len8 s)
  have HLIT := Lib.hid hlit
  have t1 : ¬ (s.size : Int) < 2 := by omega
  have t0 : (0 : Int) < s.size := by omega
  have t2 : ((s[0].toNat : Int) == (d.toNat : Int)) = true := by rw [h2]; simp
  have t3 : ((s[0].toNat : Int) != (d.toNat : Int)) = false := by simp only [bne, t2]; rfl
  have HE : Hid (∀ W, Calls Tryd.prog 46 #[.string s, .int .i64 0] W fun e w' => e = .returned (.int .i64 s.size) ∧ Below W.heap.size W w') := by
    intro W
    have h := end_zero d s W hs (by omega) h2
    rw [h3] at h
    exact h
  have HV : Hid (∀ W, Below w.heap.size w W → VAt w d s.data.toList [] 1 (.slice (some ⟨W.heap.size, 0, none⟩) 0 0) (W.alloc (.cells #[] 5))) := fun W hb => by
    refine ⟨?_, Lt.rd_start d _, by rw [HL.out]; exact h3, by simp, hb.alloc hb.size _⟩
    have h := own8_lit W w.heap.size [] 0 hb.size rfl (by decide)
    exact h
  clear h3 hlit h2
  go_enter Tryd.func27, Tryd.ntmps27
  go_wp2_with (go_at_call 46; refine (HE.out _).mono ?_; rintro e w1 ⟨rfl, hb1⟩; have HV1 := Lib.hid (HV.out _ hb1); clear hb1)
  go_loopw [4, 5, 6, 7, 8, 9] (fun _ _ v i _ _ wr => ∃ (k : Nat) (A : List UInt8), i = .int .i64 k ∧ k ≤ s.size ∧ VAt w d s.data.toList A k v wr) (fun _ _ _ i _ _ _ => s.size - (intOf i).toNat)
  case atStart => exact ⟨1, [], rfl, by omega, HV1.out⟩
  case round =>
    clear HE HV HV1 t1 t2 t3
    obtain ⟨k, A, rfl, hk, hv⟩ := hrel
    have HVA := Lib.hid hv
    have HO := Lib.hid hv.1
    have hsz := hv.2.2.2.2.size
    have hal := hv.2.2.2.1
    have hkl := (Lt.ends_lt hv.2.2.1).1
    have hen := hv.2.2.1
    clear hv
    rw [HL.out] at hkl
    have HEN := Lib.hid hen
    clear hen
    by_cases hlt : k + 1 < s.size
    · have hks : k < s.size := by omega
      have hklt : (k : Int) < (s.size : Int) - 1 := by omega
      have hk1 : k + 1 < s.data.toList.length := by rw [HL.out]; exact hlt
      rcases Lt.round_cases hd hk1 HEN.out with ⟨g1, g2, g3⟩ | ⟨g1, g2, g3, g4⟩
      · have u1 : ((s[k].toNat : Int) == 92) = false := ne_int (b := 92) g1
        have u2 : ((s[k].toNat : Int) != 92) = true := by simp only [bne, u1]; rfl
        have G2 := Lib.hid g2
        have G3 := Lib.hid g3
        clear g1 g2 g3
        go_wp2_with (at_builtin; refine wpList_app8 rfl _ _ rfl w.heap.size _ A [s[k]] rfl HO.out hsz 1 rfl rfl (by omega) _ _ rfl ?_)
        intro v3 w3 HO3 HB3
        have HN := Lib.hid (VAt.next HVA G3 G2 (Nat.lt_succ_self _) HO3 HB3)
        clear HO3 HB3
        go_wp2
        go_roundw
        case rel => exact ⟨k + 1, _, by go_num, by omega, HN.out⟩
        case measure => first | (simp [intOf]; done) | (simp [intOf]; omega)
      · have u1 : ((s[k].toNat : Int) == 92) = true := by rw [show s[k] = 92 from g1]; rfl
        have u2 : ((s[k].toNat : Int) != 92) = false := by simp only [bne, u1]; rfl
        rw [HL.out] at g2
        have hk2 : k + 2 < s.data.toList.length := by rw [HL.out]; exact g2
        have hks1 : k + 1 < s.size := by omega
        have hki : (k : Int) + 1 < s.size := by omega
        have hki0 : (0 : Int) ≤ (k : Int) + 1 := by omega
        have hkn : ((k : Int) + 1).toNat = k + 1 := by omega
        rw [drop_mid (k := k + 1) hk2] at g4
        have hcc : s.data.toList[k + 1] = s[k + 1] := rfl
        rw [hcc] at g4
        have G3 := Lib.hid g3
        have G4 := Lib.hid g4
        clear g1 g3 g4 hcc
        rcases esc_cases (s[k + 1] :: s.data.toList.dropLast.drop (k + 1 + 1)) with ⟨h, _⟩ | ⟨c, r, hcr, hc⟩
        · cases h
        · obtain ⟨hc0, hr0⟩ := List.cons.inj hcr
          subst hr0
          rw [hc0] at G4 hc
          clear hcr
          rcases hc with ⟨h, e⟩ | ⟨h, e⟩ | ⟨h, e⟩ | ⟨h, e⟩ | ⟨h, e⟩ | h | ⟨h1', h2', h3', h4', h5', h6', e⟩
          · have G5 : Hid (Lt.step d (s.data.toList.dropLast.drop k) = some (10, s.data.toList.dropLast.drop (k + 2))) := G4.out.trans e
            have v110 : ((c.toNat : Int) == 110) = true := by rw [h]; rfl
            clear h e G4
            go_wp2_with (at_builtin; refine wpList_app8 rfl _ _ rfl w.heap.size _ A [10] rfl HO.out hsz 1 rfl rfl (by omega) _ _ rfl ?_)
            intro v3 w3 HO3 HB3
            have HN := Lib.hid (VAt.next HVA G5 G3 (by omega) HO3 HB3)
            clear HO3 HB3
            go_wp2
            go_roundw
            case rel => exact ⟨k + 2, _, by first | rfl | go_num | (congr 1; omega), by omega, HN.out⟩
            case measure => first | (simp [intOf]; done) | (simp [intOf]; omega)
          · have G5 : Hid (Lt.step d (s.data.toList.dropLast.drop k) = some (9, s.data.toList.dropLast.drop (k + 2))) := G4.out.trans e
            have v110 : ((c.toNat : Int) == 110) = false := by rw [h]; rfl
            have v116 : ((c.toNat : Int) == 116) = true := by rw [h]; rfl
            clear h e G4
            go_wp2_with (at_builtin; refine wpList_app8 rfl _ _ rfl w.heap.size _ A [9] rfl HO.out hsz 1 rfl rfl (by omega) _ _ rfl ?_)
            intro v3 w3 HO3 HB3
            have HN := Lib.hid (VAt.next HVA G5 G3 (by omega) HO3 HB3)
            clear HO3 HB3
            go_wp2
            go_roundw
            case rel => exact ⟨k + 2, _, by first | rfl | go_num | (congr 1; omega), by omega, HN.out⟩
            case measure => first | (simp [intOf]; done) | (simp [intOf]; omega)
          · have G5 : Hid (Lt.step d (s.data.toList.dropLast.drop k) = some (c, s.data.toList.dropLast.drop (k + 2))) := G4.out.trans e
            have v110 : ((c.toNat : Int) == 110) = false := by rw [h]; rfl
            have v116 : ((c.toNat : Int) == 116) = false := by rw [h]; rfl
            have v92 : ((c.toNat : Int) == 92) = true := by rw [h]; rfl
            clear h e G4
            go_wp2_with (at_builtin; refine wpList_app8 rfl _ _ rfl w.heap.size _ A [c] rfl HO.out hsz 1 rfl rfl (by omega) _ _ rfl ?_)
            intro v3 w3 HO3 HB3
            have HN := Lib.hid (VAt.next HVA G5 G3 (by omega) HO3 HB3)
            clear HO3 HB3
            go_wp2
            go_roundw
            case rel => exact ⟨k + 2, _, by first | rfl | go_num | (congr 1; omega), by omega, HN.out⟩
            case measure => first | (simp [intOf]; done) | (simp [intOf]; omega)
          · have G5 : Hid (Lt.step d (s.data.toList.dropLast.drop k) = some (c, s.data.toList.dropLast.drop (k + 2))) := G4.out.trans e
            have v110 : ((c.toNat : Int) == 110) = false := by rw [h]; rfl
            have v116 : ((c.toNat : Int) == 116) = false := by rw [h]; rfl
            have v92 : ((c.toNat : Int) == 92) = false := by rw [h]; rfl
            have v34 : ((c.toNat : Int) == 34) = true := by rw [h]; rfl
            clear h e G4
            go_wp2_with (at_builtin; refine wpList_app8 rfl _ _ rfl w.heap.size _ A [c] rfl HO.out hsz 1 rfl rfl (by omega) _ _ rfl ?_)
            intro v3 w3 HO3 HB3
            have HN := Lib.hid (VAt.next HVA G5 G3 (by omega) HO3 HB3)
            clear HO3 HB3
            go_wp2
            go_roundw
            case rel => exact ⟨k + 2, _, by first | rfl | go_num | (congr 1; omega), by omega, HN.out⟩
            case measure => first | (simp [intOf]; done) | (simp [intOf]; omega)
          · have G5 : Hid (Lt.step d (s.data.toList.dropLast.drop k) = some (c, s.data.toList.dropLast.drop (k + 2))) := G4.out.trans e
            have v110 : ((c.toNat : Int) == 110) = false := by rw [h]; rfl
            have v116 : ((c.toNat : Int) == 116) = false := by rw [h]; rfl
            have v92 : ((c.toNat : Int) == 92) = false := by rw [h]; rfl
            have v34 : ((c.toNat : Int) == 34) = false := by rw [h]; rfl
            have v39 : ((c.toNat : Int) == 39) = true := by rw [h]; rfl
            clear h e G4
            go_wp2_with (at_builtin; refine wpList_app8 rfl _ _ rfl w.heap.size _ A [c] rfl HO.out hsz 1 rfl rfl (by omega) _ _ rfl ?_)
            intro v3 w3 HO3 HB3
            have HN := Lib.hid (VAt.next HVA G5 G3 (by omega) HO3 HB3)
            clear HO3 HB3
            go_wp2
            go_roundw
            case rel => exact ⟨k + 2, _, by first | rfl | go_num | (congr 1; omega), by omega, HN.out⟩
            case measure => first | (simp [intOf]; done) | (simp [intOf]; omega)
          · subst h
            by_cases hlen : k + 4 < s.size
            · have hk4 : k + 3 + 1 < s.data.toList.length := by rw [HL.out]; omega
              have hks2 : k + 2 < s.size := by omega
              have hks3 : k + 3 < s.size := by omega
              have m1 : (k : Int) + 3 < (s.size : Int) - 1 := by omega
              have m2 : (k : Int) + 2 < s.size := by omega
              have m3 : (k : Int) + 3 < s.size := by omega
              have m4 : (0 : Int) ≤ (k : Int) + 2 := by omega
              have m5 : (0 : Int) ≤ (k : Int) + 3 := by omega
              have m6 : ((k : Int) + 2).toNat = k + 2 := by omega
              have m7 : ((k : Int) + 3).toNat = k + 3 := by omega
              have g4 := G4.out
              rw [drop_mid (k := k + 1 + 1) (by rw [HL.out]; omega), drop_mid (k := k + 1 + 1 + 1) hk4] at g4
              have hx0 : s.data.toList[k + 1 + 1]'(by rw [HL.out]; omega) = s[k + 2] := rfl
              have hy0 : s.data.toList[k + 1 + 1 + 1]'(by rw [HL.out]; omega) = s[k + 3] := rfl
              rw [hx0, hy0] at g4
              clear hx0 hy0 G4
              have HX := Lib.hid (fun W => hexv_any s[k + 2] W)
              have HY := Lib.hid (fun W => hexv_any s[k + 3] W)
              cases ex : Lt.hexN s[k + 2] with
              | none =>
                rw [hexI_none ex] at HX
                have HNO := Lib.hid (lit_no (VAt.bad HVA hk1 (g4.trans (by simp [Lt.esc, ex])) HLIT))
                clear g4 ex G3
                go_wp2_with ((go_at_call 47; refine (HX.out _).mono ?_; rintro e w5 ⟨rfl, rfl⟩))
                go_ret2
                exact ⟨HNO.out, HVA.out.2.2.2.2⟩
              | some x =>
                have x16 := Lt.hexN_lt ex
                rw [hexI_some ex] at HX
                have x0 : (0 : Int) ≤ x := by omega
                cases ey : Lt.hexN s[k + 3] with
                | none =>
                  rw [hexI_none ey] at HY
                  have HNO := Lib.hid (lit_no (VAt.bad HVA hk1 (g4.trans (by simp [Lt.esc, ex, ey])) HLIT))
                  clear g4 ex ey G3
                  go_wp2_with (first | ((go_at_call 47; with_reducible refine (HX.out _).mono ?_); rintro e w5 ⟨rfl, rfl⟩) | ((go_at_call 47; with_reducible refine (HY.out _).mono ?_); rintro e w6 ⟨rfl, rfl⟩))
                  go_ret2
                  exact ⟨HNO.out, HVA.out.2.2.2.2⟩
                | some y =>
                  have y16 := Lt.hexN_lt ey
                  rw [hexI_some ey] at HY
                  have y0 : (0 : Int) ≤ y := by omega
                  have G5 : Hid (Lt.step d (s.data.toList.dropLast.drop k) = some (UInt8.ofNat (16 * x + y), s.data.toList.dropLast.drop (k + 4))) := g4.trans (by simp [Lt.esc, ex, ey])
                  have G6 : Hid (Lt.ends d s.data.toList (k + 4) = some s.data.toList.length) := by
                    obtain ⟨p1, p2, p3⟩ := Lt.hex_peel hd ex
                    obtain ⟨p4, p5, p6⟩ := Lt.hex_peel hd ey
                    have q := G3.out
                    rw [Lt.ends_one hk2 p1 p2 p3, Lt.ends_one (by rw [HL.out]; omega) p4 p5 p6] at q
                    exact q
                  obtain ⟨b, hb⟩ : ∃ b, b = UInt8.ofNat (16 * x + y) := ⟨_, rfl⟩
                  have hbn : b.toNat = 16 * x + y := by rw [hb, UInt8.toNat_ofNat']; omega
                  rw [← hb] at G5
                  have HBN := Lib.hid (show 16 * (x : Int) + y = (b.toNat : Int) by omega)
                  have e1 : IntKind.i64.wrap (16 * (x : Int)) = 16 * (x : Int) := IntWalk.i64_in _ (by omega)
                  have e2 : IntKind.i64.wrap (16 * (x : Int) + y) = (b.toNat : Int) := by rw [HBN.out]; exact IntWalk.i64_in _ (by have := UInt8.toNat_lt b; omega)
                  have e3 : IntKind.u8.wrap (b.toNat : Int) = b.toNat := by have := UInt8.toNat_lt b; simp [IntKind.wrap, IntKind.signed, IntKind.bits]; omega
                  have e4 : IntKind.i64.wrap ((k : Int) + 2) = (k : Int) + 2 := IntWalk.i64_in _ (by omega)
                  have e5 : IntKind.i64.wrap ((k : Int) + 3) = (k : Int) + 3 := IntWalk.i64_in _ (by omega)
                  clear g4 ex ey G3 hb hbn
                  go_wp2_with (first | ((go_at_call 47; with_reducible refine (HX.out _).mono ?_); rintro e w5 ⟨rfl, rfl⟩) | ((go_at_call 47; with_reducible refine (HY.out _).mono ?_); rintro e w6 ⟨rfl, rfl⟩))
                  go_region_law (first
                    | (refine step_hexv rfl (.tmp 101) rfl s[k + 2] x (by first | (simp [Act.eval]; done) | simp [Act.eval, Act.put]) (HX.out _) ?_)
                    | (refine step_hexv rfl (.tmp 107) rfl s[k + 3] y (by first | (simp [Act.eval]; done) | simp [Act.eval, Act.put]) (HY.out _) ?_)
                    | (refine step_app8d rfl (.tmp 97) (.tmp 111) rfl w.heap.size _ A [b] (by first | (simp [Act.eval]; done) | simp [Act.eval, Act.put]) HO.out hsz 1 rfl (by first | (simp [Act.eval]; done) | simp [Act.eval, Act.put]) (by omega) _ _ rfl ?_; intro v' w2 HO2 HB2))
                  all_goals
                    have HN := Lib.hid (VAt.next HVA G5 G6 (by omega) HO2 HB2)
                    clear HO2 HB2 e1 e2 e3 e4 e5
                    simp only [List.getElem_toArray, List.getElem_cons_succ, List.getElem_cons_zero, Act.put, List.setIfInBounds_toArray, List.set_cons_succ, List.set_cons_zero]
                    go_wp2
                    go_roundw
                    case rel => exact ⟨k + 4, _, by first | rfl | go_num | (congr 1; omega), by omega, HN.out⟩
                    case measure => first | (simp [intOf]; done) | (simp [intOf]; omega)
            · have m1 : ¬ ((k : Int) + 3 < (s.size : Int) - 1) := by omega
              have HNO := Lib.hid (lit_no (VAt.bad HVA hk1 (G4.out.trans (esc_short (by rw [HL.out]; omega))) HLIT))
              clear G4 G3
              go_wp2
              go_ret2
              exact ⟨HNO.out, HVA.out.2.2.2.2⟩
          · have HNO := Lib.hid (lit_no (VAt.bad HVA hk1 (G4.out.trans e) HLIT))
            have v110 : ((c.toNat : Int) == 110) = false := ne_int (b := 110) h1'
            have v116 : ((c.toNat : Int) == 116) = false := ne_int (b := 116) h2'
            have v92 : ((c.toNat : Int) == 92) = false := ne_int (b := 92) h3'
            have v34 : ((c.toNat : Int) == 34) = false := ne_int (b := 34) h4'
            have v39 : ((c.toNat : Int) == 39) = false := ne_int (b := 39) h5'
            have v120 : ((c.toNat : Int) == 120) = false := ne_int (b := 120) h6'
            clear h1' h2' h3' h4' h5' h6' e G4 G3
            go_wp2
            go_ret2
            exact ⟨HNO.out, HVA.out.2.2.2.2⟩
    · have hkend : ¬ (k : Int) < (s.size : Int) - 1 := by omega
      have hcv := conv8 HO.out
      have HY : Hid (Ending.returned (.tuple #[.string (str8 A), .bool true]) = .returned (.tuple #[.string (str8 (Lt.litL d s.data.toList)), .bool (Lt.litB d s.data.toList)])) := by
        refine lit_yes (HLIT.out.trans (Lt.rd_end ?_))
        have h := HVA.out.2.1
        rwa [List.drop_eq_nil_of_le (i := k) (by rw [List.length_dropLast, HL.out]; omega)] at h
      go_wp2
      go_ret2
      exact ⟨HY.out, HVA.out.2.2.2.2⟩
end Go.Proofs.YtjgnigalodebkaaDoor
