/- Joined texts: K9, K10, K11, R7. No conditions besides those that each states. -/
import Derived.Deep.QuietTactic
import Derived.BigQuiet
import Derived.IntWalk
import Derived.Test.YtfhakailbikjkaaDoorZ4
import Derived.Test.YtfhakailbikjkaaDoorZ6
import Derived.Test.YtfhakailbikjkaaDoorZ7
/- The token that begins at a place, in the reference model: quoted texts and sets. No conditions. -/
namespace Go.Proofs.YtfhakailbikjkaaDoor
open Go.RowKit
set_option linter.unusedVariables false

/-- Where a literal ends that begins at i: nowhere, or behind m - i bytes. -/
theorem end_cases (d : UInt8) (hd : d = 34 ∨ d = 39) (s : ByteArray) (i : Nat) (hi : i < s.size) : (Lt.ends d s.data.toList (i + 1) = none ∧ Lt.endL d (s.data.toList.drop (i + 1)) = none)
    ∨ ∃ m n, Lt.ends d s.data.toList (i + 1) = some m ∧ Lt.endL d (s.data.toList.drop (i + 1)) = some n ∧ n + 1 = m - i ∧ i + 1 ≤ m ∧ m ≤ s.size ∧ s.extract i m = str8 (s[i] :: (s.data.toList.drop (i + 1)).take n) := by
  cases he : Lt.endL d (s.data.toList.drop (i + 1)) with
  | none => left; exact ⟨by unfold Lt.ends; rw [he]; rfl, rfl⟩
  | some n =>
    right
    have h1 : Lt.ends d s.data.toList (i + 1) = some (n + (i + 1)) := by unfold Lt.ends; rw [he]; rfl
    obtain ⟨h2, h3, _⟩ := Lt.ends_last hd s.data.toList _ (i + 1) _ (Nat.le_refl _) h1
    rw [len8] at h2
    refine ⟨n + (i + 1), n, h1, rfl, by omega, by omega, by omega, ?_⟩
    apply str8_inj
    have hl : i < s.data.toList.length := hi
    simp only [ByteArray.data_extract, Array.toList_extract, List.extract_eq_take_drop]
    rw [List.drop_eq_getElem_cons hl, show n + (i + 1) - i = n + 1 by omega, List.take_succ_cons]; rfl
theorem one_str (R : List UInt8) : Tk.one denM (34 :: R) = (Lt.endL 34 R).bind fun n => (denM.str (34 :: R.take n)).map fun t => (4, t, n + 1) := by
  simp only [Tk.one]
  rw [if_neg (by decide), if_neg (by decide)]
  exact if_pos trivial
theorem one_set (R : List UInt8) : Tk.one denM (39 :: R) = (Lt.endL 39 R).bind fun n => (denM.set (39 :: R.take n)).map fun t => (5, t, n + 1) := by
  simp only [Tk.one]
  rw [if_neg (by decide), if_neg (by decide), if_neg (by decide)]
  exact if_pos trivial
theorem str_cases (s : ByteArray) (i : Nat) (hi : i < s.size) (hb : s[i] = 34) : (Lt.ends 34 s.data.toList (i + 1) = none ∧ Tk.one denM (s.data.toList.drop i) = none)
    ∨ ∃ m q, Lt.ends 34 s.data.toList (i + 1) = some m ∧ i + 1 ≤ m ∧ m ≤ s.size ∧ s.extract i m = str8 q ∧ q.length ≤ s.size ∧
      ((Lt.litB 34 q = false ∧ Tk.one denM (s.data.toList.drop i) = none) ∨ (Lt.litB 34 q = true ∧ 120 < (Lt.litL 34 q).length ∧ Tk.one denM (s.data.toList.drop i) = none)
        ∨ (Lt.litB 34 q = true ∧ (Lt.litL 34 q).length ≤ 120 ∧ Tk.one denM (s.data.toList.drop i) = some (4, Lt.litL 34 q, m - i))) := by
  have hdrop : s.data.toList.drop i = 34 :: s.data.toList.drop (i + 1) := by rw [List.drop_eq_getElem_cons (show i < s.data.toList.length from hi)]; congr 1
  rw [hdrop, one_str]
  rcases end_cases 34 (.inl rfl) s i hi with ⟨h1, h2⟩ | ⟨m, n, h1, h2, h3, h4, h5, h6⟩
  · left; exact ⟨h1, by rw [h2]; rfl⟩
  · right
    rw [hb] at h6
    have hz : (34 :: (s.data.toList.drop (i + 1)).take n).length ≤ s.size := by
      rw [List.length_cons, List.length_take]; omega
    refine ⟨m, _, h1, h4, h5, h6, hz, ?_⟩
    have e : ((some n).bind fun k => (denM.str (34 :: (s.data.toList.drop (i + 1)).take k)).map fun t => ((4 : Nat), t, k + 1)) = (denM.str (34 :: (s.data.toList.drop (i + 1)).take n)).map fun t => ((4 : Nat), t, m - i) := by
      show (denM.str _).map (fun t => ((4 : Nat), t, n + 1)) = _
      rw [h3]
    rw [h2, e]
    clear e
    generalize (34 : UInt8) :: (s.data.toList.drop (i + 1)).take n = q
    have e2 : denM.str q = if Lt.litB 34 q = true ∧ (Lt.litL 34 q).length ≤ 120 then some (Lt.litL 34 q) else none := rfl
    rw [e2]
    cases hl : Lt.litB 34 q
    · left; exact ⟨rfl, by rw [if_neg (by simp)]; rfl⟩
    · right
      by_cases h8 : (Lt.litL 34 q).length ≤ 120
      · right; exact ⟨rfl, h8, by rw [if_pos ⟨rfl, h8⟩]; rfl⟩
      · left; exact ⟨rfl, by omega, by rw [if_neg (fun h => h8 h.2)]; rfl⟩
theorem set_cases (s : ByteArray) (i : Nat) (hi : i < s.size) (hb : s[i] = 39) : (Lt.ends 39 s.data.toList (i + 1) = none ∧ Tk.one denM (s.data.toList.drop i) = none)
    ∨ ∃ m q, Lt.ends 39 s.data.toList (i + 1) = some m ∧ i + 1 ≤ m ∧ m ≤ s.size ∧ s.extract i m = str8 q ∧ q.length ≤ s.size ∧
      ((ucB q = false ∧ Tk.one denM (s.data.toList.drop i) = none) ∨ (ucB q = true ∧ Tk.one denM (s.data.toList.drop i) = some (5, (txt (Cs.text (ucL q) (ucH q))).data.toList, m - i))) := by
  have hdrop : s.data.toList.drop i = 39 :: s.data.toList.drop (i + 1) := by rw [List.drop_eq_getElem_cons (show i < s.data.toList.length from hi)]; congr 1
  rw [hdrop, one_set]
  rcases end_cases 39 (.inr rfl) s i hi with ⟨h1, h2⟩ | ⟨m, n, h1, h2, h3, h4, h5, h6⟩
  · left; exact ⟨h1, by rw [h2]; rfl⟩
  · right
    rw [hb] at h6
    have hz : (39 :: (s.data.toList.drop (i + 1)).take n).length ≤ s.size := by
      rw [List.length_cons, List.length_take]; omega
    refine ⟨m, _, h1, h4, h5, h6, hz, ?_⟩
    have e : ((some n).bind fun k => (denM.set (39 :: (s.data.toList.drop (i + 1)).take k)).map fun t => ((5 : Nat), t, k + 1)) = (denM.set (39 :: (s.data.toList.drop (i + 1)).take n)).map fun t => ((5 : Nat), t, m - i) := by
      show (denM.set _).map (fun t => ((5 : Nat), t, n + 1)) = _
      rw [h3]
    rw [h2, e]
    clear e
    generalize (39 : UInt8) :: (s.data.toList.drop (i + 1)).take n = q
    have e2 : denM.set q = if ucB q = true then some (txt (Cs.text (ucL q) (ucH q))).data.toList else none := rfl
    rw [e2]
    cases hl : ucB q
    · left; exact ⟨rfl, rfl⟩
    · right; exact ⟨rfl, rfl⟩

set_option maxRecDepth 100000 in
set_option maxHeartbeats 3200000 in
theorem one_quoted (s : ByteArray) (i : Nat) (w : World) (hs : (s.size : Int) ≤ 1048576) (hi : i < s.size) (hb : s[i] = 34) :
    Calls Tryd.prog 9 #[.string s, .int .i64 (i : Int)] w (RetOne w i (Tk.one denM (s.data.toList.drop i))) := by
  unfold RetOne
  have hout := str_cases s i hi hb
  have hi0 : (0 : Int) ≤ i := by omega
  have hii : (i : Int) < s.size := by omega
  have HL := Lib.hid (fun W => spec_letter s[i] W)
  rw [show Tk.letter s[i] = false by rw [hb]; decide] at HL
  have HD := Lib.hid (fun W => spec_digit s[i] W)
  rw [show Dec.isDig s[i] = false by rw [hb]; decide] at HD
  have HE := Lib.hid (fun W => spec_end s i W hs hi)
  unfold RetEnd at HE
  rw [hb] at HE
  have t34 : ((s[i].toNat : Int) == 34) = true := by rw [hb]; rfl
  have HF0 := Lib.hid (FreeTok.new w 0 ByteArray.empty 0 29)
  clear hb
  rcases hout with ⟨h1, ho⟩ | ⟨m, q, h1, h2, h3, h4, h5, h6⟩
  · rw [h1] at HE
    have HO := Lib.hid ho
    clear h1 ho
    unfold endV at HE
    go_enter Tryd.func9, Tryd.ntmps9
    go_wp2_with (first | (go_at_call 16; refine (HL.out _).mono ?_; rintro e w1 ⟨rfl, rfl⟩) | (go_at_call 17; refine (HD.out _).mono ?_; rintro e w1 ⟨rfl, rfl⟩) | (go_at_call 22; refine (HE.out _).mono ?_; rintro e w2 ⟨rfl, hb2⟩; have HB2 := Lib.hid (below_step (bl1 _ _) hb2); obtain ⟨⟨r0, r1, r2⟩, f0, f1, f2⟩ := HF0.out.later hb2; clear hb2))
    exact bodyPost_ret (v := .tuple #[.agg #[.int .i64 0, .string ByteArray.empty, .int .i64 0], .int .i64 (-1)]) (by simp [results, Tryd.results9, go_sem, r0, r1, r2]; rfl) rfl ⟨one_no HO.out, below_store3 HB2.out (Nat.le_refl _) _ _ _⟩
  · rw [h1] at HE
    unfold endV at HE
    have him : (i : Int) ≤ m := by omega
    have hms : (m : Int) ≤ s.size := by omega
    have HU := Lib.hid (fun W => spec_ut (str8 q) W (by rw [str8_size]; omega))
    unfold RetLit at HU
    rw [str8_list] at HU
    have HMI := Lib.hid (show i + (m - i) = m by omega)
    rcases h6 with ⟨h6, ho⟩ | ⟨h6, h7, ho⟩ | ⟨h6, h7, ho⟩
    · rw [h6] at HU
      have HO := Lib.hid ho
      generalize str8 (Lt.litL 34 q) = t at HU
      clear h1 h2 h3 h5 h6 ho
      go_enter Tryd.func9, Tryd.ntmps9
      go_wp2_with (first | (go_at_call 16; refine (HL.out _).mono ?_; rintro e w1 ⟨rfl, rfl⟩) | (go_at_call 17; refine (HD.out _).mono ?_; rintro e w1 ⟨rfl, rfl⟩) | (go_at_call 22; refine (HE.out _).mono ?_; rintro e w2 ⟨rfl, hb2⟩; have HB2 := Lib.hid (below_step (bl1 _ _) hb2); have HF2 := Lib.hid (HF0.out.later hb2); clear hb2) | (go_at_call 23; refine (HU.out _).mono ?_; rintro e w3 ⟨rfl, hb3⟩; have HB3 := Lib.hid (below_step HB2.out hb3); obtain ⟨⟨r0, r1, r2⟩, f0, f1, f2⟩ := HF2.out.later hb3; clear hb3))
      exact bodyPost_ret (v := .tuple #[.agg #[.int .i64 0, .string ByteArray.empty, .int .i64 0], .int .i64 (-1)]) (by simp [results, Tryd.results9, go_sem, r0, r1, r2]; rfl) rfl ⟨one_no HO.out, below_store3 HB3.out (Nat.le_refl _) _ _ _⟩
    · rw [h6] at HU
      have HO := Lib.hid ho
      have u1 : (120 : Int) < (str8 (Lt.litL 34 q)).size := by rw [str8_size]; omega
      generalize str8 (Lt.litL 34 q) = t at HU u1
      clear h7
      clear h1 h2 h3 h5 h6 ho
      go_enter Tryd.func9, Tryd.ntmps9
      go_wp2_with (first | (go_at_call 16; refine (HL.out _).mono ?_; rintro e w1 ⟨rfl, rfl⟩) | (go_at_call 17; refine (HD.out _).mono ?_; rintro e w1 ⟨rfl, rfl⟩) | (go_at_call 22; refine (HE.out _).mono ?_; rintro e w2 ⟨rfl, hb2⟩; have HB2 := Lib.hid (below_step (bl1 _ _) hb2); have HF2 := Lib.hid (HF0.out.later hb2); clear hb2) | (go_at_call 23; refine (HU.out _).mono ?_; rintro e w3 ⟨rfl, hb3⟩; have HB3 := Lib.hid (below_step HB2.out hb3); obtain ⟨⟨r0, r1, r2⟩, f0, f1, f2⟩ := HF2.out.later hb3; clear hb3))
      exact bodyPost_ret (v := .tuple #[.agg #[.int .i64 0, .string ByteArray.empty, .int .i64 0], .int .i64 (-1)]) (by simp [results, Tryd.results9, go_sem, r0, r1, r2]; rfl) rfl ⟨one_no HO.out, below_store3 HB3.out (Nat.le_refl _) _ _ _⟩
    · rw [h6] at HU
      have HO := Lib.hid ho
      have u1 : ¬ (120 : Int) < (str8 (Lt.litL 34 q)).size := by rw [str8_size]; omega
      obtain ⟨t, HT⟩ : ∃ t, Hid (str8 (Lt.litL 34 q) = t) := ⟨_, rfl⟩
      rw [HT.out] at HU u1
      clear h7
      clear h1 h2 h3 h5 h6 ho
      go_enter Tryd.func9, Tryd.ntmps9
      go_wp2_with (first | (go_at_call 16; refine (HL.out _).mono ?_; rintro e w1 ⟨rfl, rfl⟩) | (go_at_call 17; refine (HD.out _).mono ?_; rintro e w1 ⟨rfl, rfl⟩) | (go_at_call 22; refine (HE.out _).mono ?_; rintro e w2 ⟨rfl, hb2⟩; have HB2 := Lib.hid (below_step (bl1 _ _) hb2); have HF2 := Lib.hid (HF0.out.later hb2); clear hb2) | (go_at_call 23; refine (HU.out _).mono ?_; rintro e w3 ⟨rfl, hb3⟩; have HB3 := Lib.hid (below_step HB2.out hb3); obtain ⟨⟨r0, r1, r2⟩, f0, f1, f2⟩ := HF2.out.later hb3; clear hb3))
      exact bodyPost_ret (v := .tuple #[.agg #[.int .i64 4, .string t, .int .i64 0], .int .i64 m]) (by simp [results, Tryd.results9, go_sem, r0, r1, r2]) rfl ⟨by rw [← HT.out]; exact one_eq (k := 4) HO.out HMI.out, below_store3 HB3.out (Nat.le_refl _) _ _ _⟩

set_option maxRecDepth 100000 in
set_option maxHeartbeats 3200000 in
theorem one_cset (s : ByteArray) (i : Nat) (w : World) (hs : (s.size : Int) ≤ 1048576) (hi : i < s.size) (hb : s[i] = 39) :
    Calls Tryd.prog 9 #[.string s, .int .i64 (i : Int)] w (RetOne w i (Tk.one denM (s.data.toList.drop i))) := by
  unfold RetOne
  have hout := set_cases s i hi hb
  have hi0 : (0 : Int) ≤ i := by omega
  have hii : (i : Int) < s.size := by omega
  have HL := Lib.hid (fun W => spec_letter s[i] W)
  rw [show Tk.letter s[i] = false by rw [hb]; decide] at HL
  have HD := Lib.hid (fun W => spec_digit s[i] W)
  rw [show Dec.isDig s[i] = false by rw [hb]; decide] at HD
  have HE := Lib.hid (fun W => spec_end s i W hs hi)
  unfold RetEnd at HE
  rw [hb] at HE
  have t34 : ((s[i].toNat : Int) == 34) = false := by rw [hb]; rfl
  have t39 : ((s[i].toNat : Int) == 39) = true := by rw [hb]; rfl
  have HF0 := Lib.hid (FreeTok.new w 0 ByteArray.empty 0 29)
  clear hb
  rcases hout with ⟨h1, ho⟩ | ⟨m, q, h1, h2, h3, h4, h5, h6⟩
  · rw [h1] at HE
    have HO := Lib.hid ho
    clear h1 ho
    unfold endV at HE
    go_enter Tryd.func9, Tryd.ntmps9
    go_wp2_with (first | (go_at_call 16; refine (HL.out _).mono ?_; rintro e w1 ⟨rfl, rfl⟩) | (go_at_call 17; refine (HD.out _).mono ?_; rintro e w1 ⟨rfl, rfl⟩) | (go_at_call 22; refine (HE.out _).mono ?_; rintro e w2 ⟨rfl, hb2⟩; have HB2 := Lib.hid (below_step (bl1 _ _) hb2); obtain ⟨⟨r0, r1, r2⟩, f0, f1, f2⟩ := HF0.out.later hb2; clear hb2))
    exact bodyPost_ret (v := .tuple #[.agg #[.int .i64 0, .string ByteArray.empty, .int .i64 0], .int .i64 (-1)]) (by simp [results, Tryd.results9, go_sem, r0, r1, r2]; rfl) rfl ⟨one_no HO.out, below_store3 HB2.out (Nat.le_refl _) _ _ _⟩
  · rw [h1] at HE
    unfold endV at HE
    have him : (i : Int) ≤ m := by omega
    have hms : (m : Int) ≤ s.size := by omega
    have HU := Lib.hid (fun W => spec_uc (str8 q) W (by rw [str8_size]; omega))
    unfold RetNew at HU
    rw [str8_list] at HU
    have HMI := Lib.hid (show i + (m - i) = m by omega)
    rcases h6 with ⟨h6, ho⟩ | ⟨h6, ho⟩
    · rw [h6] at HU
      have HO := Lib.hid ho
      generalize ucL q = x at HU
      generalize ucH q = y at HU
      clear h1 h2 h3 h5 h6 ho
      go_enter Tryd.func9, Tryd.ntmps9
      go_wp2_with (first | (go_at_call 16; refine (HL.out _).mono ?_; rintro e w1 ⟨rfl, rfl⟩) | (go_at_call 17; refine (HD.out _).mono ?_; rintro e w1 ⟨rfl, rfl⟩) | (go_at_call 22; refine (HE.out _).mono ?_; rintro e w2 ⟨rfl, hb2⟩; have HB2 := Lib.hid (below_step (bl1 _ _) hb2); have HF2 := Lib.hid (HF0.out.later hb2); clear hb2) | (go_at_call 24; refine (HU.out _).mono ?_; rintro e w3 ⟨rfl, hb3⟩; have HB3 := Lib.hid ((below_step HB2.out hb3).alloc (below_step HB2.out hb3).size (.cells #[.int .i64 x, .int .i64 y] 45)); obtain ⟨⟨r0, r1, r2⟩, f0, f1, f2⟩ := (HF2.out.later hb3).later (bl1 w3 (.cells #[.int .i64 x, .int .i64 y] 45)); clear hb3))
      exact bodyPost_ret (v := .tuple #[.agg #[.int .i64 0, .string ByteArray.empty, .int .i64 0], .int .i64 (-1)]) (by simp [results, Tryd.results9, go_sem, r0, r1, r2]; rfl) rfl ⟨one_no HO.out, below_store3 HB3.out (Nat.le_refl _) _ _ _⟩
    · rw [h6] at HU
      have HO := Lib.hid ho
      have HTX := Lib.hid (fun W => spec_text (ucL q) (ucH q) W)
      unfold RetText at HTX
      obtain ⟨t, HT⟩ : ∃ t, Hid (txt (Cs.text (ucL q) (ucH q)) = t) := ⟨_, rfl⟩
      rw [HT.out] at HTX HO
      have HTT := Lib.hid (str8_data t)
      generalize ucL q = x at HU HTX
      generalize ucH q = y at HU HTX
      clear h1 h2 h3 h5 h6 ho HT
      go_enter Tryd.func9, Tryd.ntmps9
      go_wp2_with (first | (go_at_call 16; refine (HL.out _).mono ?_; rintro e w1 ⟨rfl, rfl⟩) | (go_at_call 17; refine (HD.out _).mono ?_; rintro e w1 ⟨rfl, rfl⟩) | (go_at_call 22; refine (HE.out _).mono ?_; rintro e w2 ⟨rfl, hb2⟩; have HB2 := Lib.hid (below_step (bl1 _ _) hb2); have HF2 := Lib.hid (HF0.out.later hb2); clear hb2) | (go_at_call 24; refine (HU.out _).mono ?_; rintro e w3 ⟨rfl, hb3⟩; have HB3 := Lib.hid ((below_step HB2.out hb3).alloc (below_step HB2.out hb3).size (.cells #[.int .i64 x, .int .i64 y] 45)); have HF3 := Lib.hid ((HF2.out.later hb3).later (bl1 w3 (.cells #[.int .i64 x, .int .i64 y] 45))); clear hb3) | (go_at_call 25; refine (HTX.out _).mono ?_; rintro e w4 ⟨rfl, hb4⟩; have HB4 := Lib.hid (below_step HB3.out hb4); obtain ⟨⟨r0, r1, r2⟩, f0, f1, f2⟩ := HF3.out.later hb4; clear hb4))
      exact bodyPost_ret (v := .tuple #[.agg #[.int .i64 5, .string t, .int .i64 0], .int .i64 m]) (by simp [results, Tryd.results9, go_sem, r0, r1, r2]) rfl ⟨by have h := one_eq (k := 5) HO.out HMI.out; rw [HTT.out] at h; exact h, below_store3 HB4.out (Nat.le_refl _) _ _ _⟩
end Go.Proofs.YtfhakailbikjkaaDoor
/- The token that begins at a place, in the reference model: keywords. No conditions. -/
namespace Go.Proofs.YtfhakailbikjkaaDoor
open Go.RowKit
set_option linter.unusedVariables false

theorem kw_cases (r : List UInt8) (hr : r.head?.map Tk.letter = some true) : (hasW Tk.keywords (r.takeWhile Tk.letter) = true ∧ Tk.one denM (38 :: r) = some (6, r.takeWhile Tk.letter, (r.takeWhile Tk.letter).length + 1))
    ∨ (hasW Tk.keywords (r.takeWhile Tk.letter) = false ∧ Tk.one denM (38 :: r) = none) := by
  simp only [Tk.one]
  rw [if_neg (by decide), if_neg (by decide), if_neg (by decide), if_neg (by decide), if_pos ⟨trivial, hr⟩]
  have e : hasW Tk.keywords (r.takeWhile Tk.letter) = Tk.isKeyword (r.takeWhile Tk.letter) := rfl
  rw [e]
  cases Tk.isKeyword (r.takeWhile Tk.letter)
  · right; exact ⟨rfl, rfl⟩
  · left; exact ⟨rfl, rfl⟩

set_option maxRecDepth 100000 in
set_option maxHeartbeats 3200000 in
theorem one_keyword (s : ByteArray) (i : Nat) (w : World) (hs : (s.size : Int) ≤ 1048576) (hi : i < s.size) (hb : s[i] = 38) (hi2 : i + 1 < s.size) (hl2 : Tk.letter s[i + 1] = true) :
    Calls Tryd.prog 9 #[.string s, .int .i64 (i : Int)] w (RetOne w i (Tk.one denM (s.data.toList.drop i))) := by
  unfold RetOne
  have hdrop : s.data.toList.drop i = 38 :: s.data.toList.drop (i + 1) := by rw [List.drop_eq_getElem_cons (show i < s.data.toList.length from hi)]; congr 1
  have hhead : (s.data.toList.drop (i + 1)).head?.map Tk.letter = some true := by
    rw [List.drop_eq_getElem_cons (show i + 1 < s.data.toList.length from hi2)]
    exact congrArg some hl2
  have hout := kw_cases (s.data.toList.drop (i + 1)) hhead
  rw [← hdrop] at hout
  obtain ⟨m0, hm0⟩ : ∃ m0, m0 = i + 1 + ((s.data.toList.drop (i + 1)).takeWhile Tk.letter).length := ⟨_, rfl⟩
  have hle := tw_le Tk.letter s.data.toList (i + 1) hi
  rw [← hm0, len8] at hle
  have HLT := Lib.hid (fun m (h1 : i + 1 ≤ m) (h2 : m < m0) => tw_lt Tk.letter s.data.toList (i + 1) m h1 (by rw [← hm0]; exact h2))
  have HEND := Lib.hid (fun h => tw_end Tk.letter s.data.toList (i + 1) m0 hm0 h)
  have hcut := tw_cut2 Tk.letter s (i + 1) m0 hm0
  have hlen : ((s.data.toList.drop (i + 1)).takeWhile Tk.letter).length + 1 = m0 - i := by omega
  rw [hlen] at hout
  have hmi : i + (m0 - i) = m0 := by omega
  generalize (s.data.toList.drop (i + 1)).takeWhile Tk.letter = T at *
  have hi0 : (0 : Int) ≤ i := by omega
  have hii : (i : Int) < s.size := by omega
  have hii2 : (i : Int) + 1 < s.size := by omega
  have him : (i : Int) + 1 ≤ m0 := by omega
  have him1 : i + 1 ≤ m0 := by omega
  have hms : (m0 : Int) ≤ s.size := by omega
  have hk0 : (0 : Int) ≤ (i : Int) + 1 := by omega
  have hkn : ((i : Int) + 1).toNat = i + 1 := by omega
  have HL := Lib.hid (fun W => spec_letter s[i] W)
  rw [show Tk.letter s[i] = false by rw [hb]; decide] at HL
  have HD := Lib.hid (fun W => spec_digit s[i] W)
  rw [show Dec.isDig s[i] = false by rw [hb]; decide] at HD
  have HL2 := Lib.hid (fun W => spec_letter s[i + 1] W)
  rw [hl2] at HL2
  have HK := Lib.hid (fun W => spec_keyword (str8 T) W)
  rw [str8_list] at HK
  have t34 : ((s[i].toNat : Int) == 34) = false := by rw [hb]; rfl
  have t39 : ((s[i].toNat : Int) == 39) = false := by rw [hb]; rfl
  have t38 : ((s[i].toNat : Int) == 38) = true := by rw [hb]; rfl
  have HF0 := Lib.hid (FreeTok.new w 0 ByteArray.empty 0 29)
  have HOUT := Lib.hid hout
  have HMI := Lib.hid hmi
  clear hb hm0 hlen hdrop hout hmi hhead hl2
  go_enter Tryd.func9, Tryd.ntmps9
  go_wp2_with (first | (go_at_call 16; with_reducible refine (HL.out _).mono ?_; rintro e w1 ⟨rfl, rfl⟩) | (go_at_call 16; with_reducible refine (HL2.out _).mono ?_; rintro e w1 ⟨rfl, rfl⟩) | (go_at_call 17; refine (HD.out _).mono ?_; rintro e w1 ⟨rfl, rfl⟩))
  go_loop [7] (fun n => ∃ m : Nat, n = .int .i64 m ∧ i + 1 ≤ m ∧ m ≤ m0) (fun n => m0 - (intOf n).toNat)
  case atStart => exact ⟨i + 1, by go_num, by omega, by omega⟩
  case round =>
    clear HL HD HL2
    obtain ⟨m, rfl, hm1, hm2⟩ := hrel
    by_cases hlt : m < m0
    · obtain ⟨hml, hid⟩ := HLT.out m hm1 hlt
      have hms2 : m < s.size := hml
      have hmsi : (m : Int) < s.size := by omega
      have hid2 : Tk.letter s[m] = true := hid
      have H1 := Lib.hid (fun W => spec_letter s[m] W)
      rw [hid2] at H1
      clear hid hid2
      go_wp2_with (go_at_call 16; refine (H1.out _).mono ?_; rintro e w3 ⟨rfl, rfl⟩)
      go_round
      case rel => exact ⟨m + 1, by go_num, by omega, by omega⟩
      case measure => first | (simp [intOf]; done) | (simp [intOf]; omega)
    · obtain rfl : m = m0 := by omega
      clear HLT
      have hstop : (∃ h : m < s.size, Tk.letter s[m] = false) ∨ m = s.size := by
        rcases Nat.lt_or_ge m s.size with h | h
        · exact .inl ⟨h, HEND.out h⟩
        · exact .inr (by omega)
      clear HEND
      rcases HOUT.out with ⟨h1, ho⟩ | ⟨h1, ho⟩
      · have HO := Lib.hid ho
        rw [h1] at HK
        clear ho h1 HOUT
        rcases hstop with ⟨h, hl⟩ | h
        · have H1 := Lib.hid (fun W => spec_letter s[m] W)
          have hmsi : (m : Int) < s.size := by omega
          rw [hl] at H1
          clear hl
          go_wp2_with (first | (go_at_call 16; refine (H1.out _).mono ?_; rintro e w3 ⟨rfl, rfl⟩) | (go_at_call 26; refine (HK.out _).mono ?_; rintro e w5 ⟨rfl, hb5⟩; have HB5 := Lib.hid (below_step (bl1 _ _) hb5); obtain ⟨⟨r0, r1, r2⟩, f0, f1, f2⟩ := HF0.out.later hb5; clear hb5))
          exact bodyPost_ret (v := .tuple #[.agg #[.int .i64 6, .string (str8 T), .int .i64 0], .int .i64 m]) (by simp [results, Tryd.results9, go_sem, r0, r1, r2]) rfl ⟨one_eq (k := 6) HO.out HMI.out, below_store3 HB5.out (Nat.le_refl _) _ _ _⟩
        · have hmsi : ¬ (m : Int) < s.size := by omega
          clear h
          go_wp2_with (first | (go_at_call 26; refine (HK.out _).mono ?_; rintro e w5 ⟨rfl, hb5⟩; have HB5 := Lib.hid (below_step (bl1 _ _) hb5); obtain ⟨⟨r0, r1, r2⟩, f0, f1, f2⟩ := HF0.out.later hb5; clear hb5))
          exact bodyPost_ret (v := .tuple #[.agg #[.int .i64 6, .string (str8 T), .int .i64 0], .int .i64 m]) (by simp [results, Tryd.results9, go_sem, r0, r1, r2]) rfl ⟨one_eq (k := 6) HO.out HMI.out, below_store3 HB5.out (Nat.le_refl _) _ _ _⟩
      · have HO := Lib.hid ho
        rw [h1] at HK
        clear ho h1 HOUT
        rcases hstop with ⟨h, hl⟩ | h
        · have H1 := Lib.hid (fun W => spec_letter s[m] W)
          have hmsi : (m : Int) < s.size := by omega
          rw [hl] at H1
          clear hl
          go_wp2_with (first | (go_at_call 16; refine (H1.out _).mono ?_; rintro e w3 ⟨rfl, rfl⟩) | (go_at_call 26; refine (HK.out _).mono ?_; rintro e w5 ⟨rfl, hb5⟩; have HB5 := Lib.hid (below_step (bl1 _ _) hb5); obtain ⟨⟨r0, r1, r2⟩, f0, f1, f2⟩ := HF0.out.later hb5; clear hb5))
          exact bodyPost_ret (v := .tuple #[.agg #[.int .i64 0, .string ByteArray.empty, .int .i64 0], .int .i64 (-1)]) (by simp [results, Tryd.results9, go_sem, r0, r1, r2]; rfl) rfl ⟨one_no HO.out, below_store3 HB5.out (Nat.le_refl _) _ _ _⟩
        · have hmsi : ¬ (m : Int) < s.size := by omega
          clear h
          go_wp2_with (first | (go_at_call 26; refine (HK.out _).mono ?_; rintro e w5 ⟨rfl, hb5⟩; have HB5 := Lib.hid (below_step (bl1 _ _) hb5); obtain ⟨⟨r0, r1, r2⟩, f0, f1, f2⟩ := HF0.out.later hb5; clear hb5))
          exact bodyPost_ret (v := .tuple #[.agg #[.int .i64 0, .string ByteArray.empty, .int .i64 0], .int .i64 (-1)]) (by simp [results, Tryd.results9, go_sem, r0, r1, r2]; rfl) rfl ⟨one_no HO.out, below_store3 HB5.out (Nat.le_refl _) _ _ _⟩
end Go.Proofs.YtfhakailbikjkaaDoor
/- The token that begins at a place, in the reference model: operators. No conditions. -/
namespace Go.Proofs.YtfhakailbikjkaaDoor
open Go.RowKit
set_option linter.unusedVariables false

theorem find_yes {α : Type} (l : List α) (P : α → Bool) (d : α) (k : Nat) (hk : k < l.length) (hn : (l.take k).find? P = none) (h : P (l.getD k d) = true) : l.find? P = some (l.getD k d) := by
  have e : l = l.take k ++ l.getD k d :: l.drop (k + 1) := by
    rw [List.getD_eq_getElem?_getD, List.getElem?_eq_getElem hk, Option.getD_some, ← List.drop_eq_getElem_cons hk, List.take_append_drop]
  generalize l.getD k d = x at e h
  rw [e, List.find?_append, hn, List.find?_cons, h]; rfl
theorem find_next {α : Type} (l : List α) (P : α → Bool) (d : α) (k : Nat) (hk : k < l.length) (hn : (l.take k).find? P = none) (h : P (l.getD k d) = false) : (l.take (k + 1)).find? P = none := by
  rw [List.take_succ_eq_append_getElem hk, List.find?_append, hn]
  rw [List.getD_eq_getElem?_getD, List.getElem?_eq_getElem hk, Option.getD_some] at h
  rw [List.find?_cons, h]; rfl
theorem words_drewN {w : World} {g : Nat} {l : List (List UInt8)} (h : Words w g l) (n : Nat) : Words (w.drewN n) g l := by
  induction n with
  | zero => exact h
  | succ n ih => exact ih
theorem FreeTok.drewN {w : World} {b : Nat} {k l : Int} {t : ByteArray} (h : FreeTok w b k t l) (n : Nat) : FreeTok (w.drewN n) b k t l := by
  induction n with
  | zero => exact h
  | succ n ih => exact ih
theorem pre_take (o S : List UInt8) : o.isPrefixOf S = (S.take o.length == o) := by
  rw [Bool.eq_iff_iff, List.isPrefixOf_iff_prefix, beq_iff_eq, List.prefix_iff_eq_take]
  exact eq_comm
theorem pre_long (o S : List UInt8) (h : S.length < o.length) : o.isPrefixOf S = false := by
  rw [Bool.eq_false_iff, ne_eq, List.isPrefixOf_iff_prefix]
  intro hp
  have := hp.length_le
  omega
theorem op_one (b : UInt8) (r : List UInt8) (h1 : Tk.letter b = false) (h2 : Dec.isDig b = false) (h3 : b ≠ 34) (h4 : b ≠ 39) (h5 : ¬ (b = 38 ∧ r.head?.map Tk.letter = some true)) :
    Tk.one denM (b :: r) = (Tk.operators.find? fun o => o.isPrefixOf (b :: r)).map fun o => (7, o, o.length) := by
  simp only [Tk.one]
  rw [if_neg (by rw [h1]; decide), if_neg (by rw [h2]; decide), if_neg h3, if_neg h4, if_neg h5]
theorem op_yes {S : List UInt8} {o : List UInt8} {x : Option (Nat × List UInt8 × Nat)} (hx : x = (Tk.operators.find? fun o => o.isPrefixOf S).map fun o => (7, o, o.length)) (h : (Tk.operators.find? fun o => o.isPrefixOf S) = some o) : x = some (7, o, o.length) := by rw [hx, h]; rfl
theorem op_no {S : List UInt8} {x : Option (Nat × List UInt8 × Nat)} (hx : x = (Tk.operators.find? fun o => o.isPrefixOf S).map fun o => (7, o, o.length)) (h : (Tk.operators.find? fun o => o.isPrefixOf S) = none) : x = none := by rw [hx, h]; rfl
theorem ops_small : ∀ o ∈ Tk.operators, o.length ≤ 5 := by decide
theorem ops_at (k : Nat) (h : k < 62) : (Tk.operators.getD k []).length ≤ 5 := by
  rw [List.getD_eq_getElem?_getD, List.getElem?_eq_getElem (show k < Tk.operators.length from h), Option.getD_some]
  exact ops_small _ (List.getElem_mem _)
theorem cut_op (s : ByteArray) (i : Nat) (o : List UInt8) : s.extract i (i + o.length) = str8 ((s.data.toList.drop i).take o.length) := by
  apply str8_inj
  simp only [ByteArray.data_extract, Array.toList_extract, List.extract_eq_take_drop]
  rw [show i + o.length - i = o.length by omega]

theorem one_op_eq {i : Nat} {o : List UInt8} {x : Option (Nat × List UInt8 × Nat)} (h : x = some (7, o, o.length)) : Ending.returned (.tuple #[.agg #[.int .i64 7, .string (str8 o), .int .i64 0], .int .i64 ((i : Int) + o.length)]) = oneE i x := by
  subst h; rfl
theorem spec_ops2 (W : World) (n : Nat) (hn : W.heap.size = n) : Calls Tryd.prog 27 #[] W fun e w' => e = .returned (.slice (some ⟨n, 0, none⟩) 62 62) ∧ Words w' n Tk.operators ∧ Below W.heap.size W w' := by
  subst hn
  refine (spec_ops W).mono ?_
  rintro e w1 ⟨rfl, rfl⟩
  exact ⟨rfl, words_new W Tk.operators 9 _ rfl, bl1 _ _⟩
/-- Where the search stands. -/
def OpsAt (w : World) (S : List UInt8) (k : Nat) (wr : World) : Prop := (Tk.operators.take k).find? (fun o => o.isPrefixOf S) = none ∧ Words wr (w.heap.size + 1) Tk.operators ∧ FreeTok wr w.heap.size 0 ByteArray.empty 0 ∧ Below w.heap.size w wr
theorem OpsAt.next {w wr : World} {S : List UInt8} {k : Nat} (h : OpsAt w S k wr) (hk : k < 62) (hn : (Tk.operators.getD k []).isPrefixOf S = false) (n : Nat) : OpsAt w S (k + 1) (wr.drewN n) :=
  ⟨find_next _ _ [] k hk h.1 hn, words_drewN h.2.1 n, h.2.2.1.drewN n, drewN8 h.2.2.2 n⟩
theorem OpsAt.yes {w wr : World} {S : List UInt8} {k : Nat} (h : OpsAt w S k wr) (hk : k < 62) (hn : (Tk.operators.getD k []).isPrefixOf S = true) : (Tk.operators.find? fun o => o.isPrefixOf S) = some (Tk.operators.getD k []) := find_yes _ _ [] k hk h.1 hn
theorem OpsAt.no {w wr : World} {S : List UInt8} (h : OpsAt w S 62 wr) : (Tk.operators.find? fun o => o.isPrefixOf S) = none := h.1

set_option maxRecDepth 100000 in
set_option maxHeartbeats 3200000 in
theorem one_op (s : ByteArray) (i : Nat) (w : World) (hs : (s.size : Int) ≤ 1048576) (hi : i < s.size) (hl : Tk.letter s[i] = false) (hd : Dec.isDig s[i] = false) (h34 : s[i] ≠ 34) (h39 : s[i] ≠ 39)
    (hamp : s[i] ≠ 38 ∨ (s[i] = 38 ∧ s.size ≤ i + 1) ∨ (s[i] = 38 ∧ ∃ h : i + 1 < s.size, Tk.letter s[i + 1] = false)) :
    Calls Tryd.prog 9 #[.string s, .int .i64 (i : Int)] w (RetOne w i (Tk.one denM (s.data.toList.drop i))) := by
  unfold RetOne
  have hdrop : s.data.toList.drop i = s[i] :: s.data.toList.drop (i + 1) := by rw [List.drop_eq_getElem_cons (show i < s.data.toList.length from hi)]; rfl
  have hout : Tk.one denM (s.data.toList.drop i) = (Tk.operators.find? fun o => o.isPrefixOf (s.data.toList.drop i)).map fun o => (7, o, o.length) := by
    rw [hdrop]
    refine op_one _ _ hl hd h34 h39 ?_
    rintro ⟨h38, hh⟩
    rcases hamp with h | ⟨_, h⟩ | ⟨_, h, hn⟩
    · exact h h38
    · rw [List.drop_eq_nil_of_le (by rw [len8]; exact h)] at hh; cases hh
    · rw [List.drop_eq_getElem_cons (show i + 1 < s.data.toList.length from h)] at hh
      have hh2 : Tk.letter s[i + 1] = true := Option.some.inj hh
      rw [hn] at hh2; cases hh2
  have hlen : (s.data.toList.drop i).length = s.size - i := by rw [List.length_drop, len8]
  have HCUT := Lib.hid (fun o => cut_op s i o)
  have HPT := Lib.hid (fun o => pre_take o (s.data.toList.drop i))
  have HPL := Lib.hid (fun o (h : s.size - i < o.length) => pre_long o (s.data.toList.drop i) (by rw [hlen]; exact h))
  have HOUT := Lib.hid hout
  clear hout hdrop hlen
  generalize hS : s.data.toList.drop i = S at HCUT HPT HPL HOUT ⊢
  clear hS
  generalize Tk.one denM S = X at HOUT ⊢
  have hi0 : (0 : Int) ≤ i := by omega
  have hii : (i : Int) < s.size := by omega
  have HL := Lib.hid (fun W => spec_letter s[i] W)
  rw [hl] at HL
  have HD := Lib.hid (fun W => spec_digit s[i] W)
  rw [hd] at HD
  have t34 : ((s[i].toNat : Int) == 34) = false := ne8 (b := 34) h34
  have t39 : ((s[i].toNat : Int) == 39) = false := ne8 (b := 39) h39
  have HF0 := Lib.hid (FreeTok.new w 0 ByteArray.empty 0 29)
  have HSO := Lib.hid (spec_ops2 (w.alloc (.cells #[.int .i64 0, .string ByteArray.empty, .int .i64 0] 29)) (w.heap.size + 1) (by simp))
  clear hl hd h34 h39
  have hcase : (∃ v : Unit, ((s[i].toNat : Int) == 38) = false) ∨ (((s[i].toNat : Int) == 38) = true ∧ decide ((i : Int) + 1 < s.size) = false) ∨ (((s[i].toNat : Int) == 38) = true ∧ ∃ h : i + 1 < s.size, Tk.letter s[i + 1] = false) := by
    rcases hamp with h | ⟨h, h2⟩ | ⟨h, h2⟩
    · exact .inl ⟨(), ne8 (b := 38) h⟩
    · refine .inr (.inl ⟨by rw [h]; rfl, ?_⟩)
      simp; omega
    · exact .inr (.inr ⟨by rw [h]; rfl, h2⟩)
  clear hamp
  rcases hcase with ⟨_, t38⟩ | ⟨t38, hn⟩ | ⟨t38, hi2, hl2⟩
  all_goals (try (have HL2 := Lib.hid (fun W => spec_letter s[i + 1] W); rw [hl2] at HL2; have hii2 : (i : Int) + 1 < s.size := (by omega); clear hl2))
  all_goals
    go_enter Tryd.func9, Tryd.ntmps9
    go_wp2_with (first | (go_at_call 16; with_reducible refine (HL.out _).mono ?_; rintro e w1 ⟨rfl, rfl⟩) | (go_at_call 16; with_reducible refine (HL2.out _).mono ?_; rintro e w1 ⟨rfl, rfl⟩) | (go_at_call 17; refine (HD.out _).mono ?_; rintro e w1 ⟨rfl, rfl⟩) | (go_at_call 27; refine HSO.out.mono ?_; rintro e w1 ⟨rfl, hw1, hb1⟩; have HF1 := Lib.hid (HF0.out.later hb1); have HB1 := Lib.hid (below_step (bl1 _ _) hb1); have HW1 := Lib.hid hw1; clear hb1 hw1))
    clear HF0 HSO HL HD
    try clear HL2
    go_loopw [5, 16] (fun _ c wr => ∃ k : Nat, c = .int .i64 k ∧ k ≤ 62 ∧ OpsAt w S k wr) (fun _ c _ => 62 - (intOf c).toNat)
    case atStart => exact ⟨0, rfl, by omega, rfl, HW1.out, HF1.out, HB1.out⟩
    case round =>
      clear HW1 HF1 HB1
      obtain ⟨k, rfl, hk, hat⟩ := hrel
      have HAT := Lib.hid hat
      clear hat
      by_cases hlt : (k : Int) < 62
      · have hkl : k < 62 := by omega
        have hcell := HAT.out.2.1 k hkl
        have hol := ops_at k hkl
        have HNX := Lib.hid (fun h => HAT.out.next hkl h)
        have HYES := Lib.hid (fun h => HAT.out.yes hkl h)
        generalize Tk.operators.getD k [] = o at hcell hol HNX HYES
        have hsz := str8_size o
        have hx := str8_toList o
        by_cases hfit : o.length ≤ s.size - i
        · have hcut := HCUT.out o
          have hxt := str8_toList (List.take o.length S)
          have hp := HPT.out o
          have hg : decide ((o.length : Int) ≤ s.size - i) = true := dec_yes (by omega)
          have hk0 : (0 : Int) ≤ k := by omega
          have hk1 : (0 : Int) ≤ (i : Int) + o.length := by omega
          have hk2 : (i : Int) + o.length ≤ s.size := by omega
          have hk3 : (i : Int) ≤ (i : Int) + o.length := by omega
          have hk5 : i ≤ i + o.length := by omega
          have hk6 : i + o.length ≤ s.size := by omega
          have hk4 : ((i : Int) + o.length).toNat = i + o.length := by omega
          have hw1 : IntKind.i64.wrap ((s.size : Int) - i) = s.size - i := IntWalk.i64_in _ (by omega)
          have hw2 : IntKind.i64.wrap ((i : Int) + o.length) = i + o.length := IntWalk.i64_in _ (by omega)
          cases hpx : o.isPrefixOf S
          · rw [hpx] at hp
            have HNX2 := Lib.hid (HNX.out hpx)
            have u1 := hp.symm
            clear hp hpx HNX HYES HCUT HPT HPL HOUT
            go_wp2_with fail
            go_quiet (fail)
            go_wp2
            go_roundw
            case rel => exact ⟨k + 1, by go_num, by omega, HNX2.out _⟩
            case measure => first | (simp [intOf]; done) | (simp [intOf]; omega)
          · rw [hpx] at hp
            have HO := Lib.hid (op_yes HOUT.out (HYES.out hpx))
            have u1 := hp.symm
            clear hp hpx HNX HYES HCUT HPT HPL HOUT
            go_wp2_with fail
            go_quiet (fail)
            clear hxt hcut u1 hg hw1
            have HB := Lib.hid HAT.out.2.2.2
            obtain ⟨⟨r0, r1, r2⟩, f0, f1, f2⟩ := HAT.out.2.2.1
            go_wp2
            go_region
            all_goals go_wp2
            all_goals exact bodyPost_ret (v := .tuple #[.agg #[.int .i64 7, .string (str8 o), .int .i64 0], .int .i64 ((i : Int) + o.length)]) (by simp [results, Tryd.results9, go_sem, r0, r1, r2]) rfl ⟨one_op_eq HO.out, below_store3 (drewN8 HB.out _) (Nat.le_refl _) _ _ _⟩
        · have hp : o.isPrefixOf S = false := HPL.out o (by omega)
          have hg : decide ((o.length : Int) ≤ s.size - i) = false := dec_no (by omega)
          have HNX2 := Lib.hid (HNX.out hp)
          have hk0 : (0 : Int) ≤ k := by omega
          have hw1 : IntKind.i64.wrap ((s.size : Int) - i) = s.size - i := IntWalk.i64_in _ (by omega)
          clear hp HNX HYES HCUT HPT HPL HOUT hfit
          go_wp2_with fail
          go_quiet (fail)
          go_wp2
          go_roundw
          case rel => exact ⟨k + 1, by go_num, by omega, HNX2.out _⟩
          case measure => first | (simp [intOf]; done) | (simp [intOf]; omega)
      · obtain rfl : k = 62 := by omega
        have HO := Lib.hid (op_no HOUT.out HAT.out.no)
        have HB := Lib.hid HAT.out.2.2.2
        obtain ⟨⟨r0, r1, r2⟩, f0, f1, f2⟩ := HAT.out.2.2.1
        clear HCUT HPT HPL HOUT
        go_wp2
        exact bodyPost_ret (v := .tuple #[.agg #[.int .i64 0, .string ByteArray.empty, .int .i64 0], .int .i64 (-1)]) (by simp [results, Tryd.results9, go_sem, r0, r1, r2]; rfl) rfl ⟨one_no HO.out, below_store3 HB.out (Nat.le_refl _) _ _ _⟩
end Go.Proofs.YtfhakailbikjkaaDoor
/- The program's readers of tokens: what each answers, the ways of each, integers, words. No conditions. -/
namespace Go.Proofs.YtfhakailbikjkaaDoor
open Go.RowKit
set_option linter.unusedVariables false

/-- What a reader answers: kind, text, size. -/
def tkK : Option (Nat × List UInt8 × Nat) → Int
  | none => 0
  | some x => x.1
def tkT : Option (Nat × List UInt8 × Nat) → ByteArray
  | none => ByteArray.empty
  | some x => str8 x.2.1
def tkN : Option (Nat × List UInt8 × Nat) → Int
  | none => 0
  | some x => x.2.2
def tkE (o : Option (Nat × List UInt8 × Nat)) : Ending := .returned (.tuple #[.agg #[.int .i64 (tkK o), .string (tkT o), .int .i64 0], .int .i64 (tkN o)])
def RetTk (w : World) (o : Option (Nat × List UInt8 × Nat)) (e : Ending) (w' : World) : Prop := e = tkE o ∧ Below w.heap.size w w'
theorem tk_no {o : Option (Nat × List UInt8 × Nat)} (h : o = none) : Ending.returned (.tuple #[.agg #[.int .i64 0, .string ByteArray.empty, .int .i64 0], .int .i64 0]) = tkE o := by subst h; rfl
theorem tk_yes {o : Option (Nat × List UInt8 × Nat)} {k n : Nat} {T : List UInt8} {z : Int} (h : o = some (k, T, n)) (hz : z = n) : Ending.returned (.tuple #[.agg #[.int .i64 (k : Int), .string (str8 T), .int .i64 0], .int .i64 z]) = tkE o := by subst h hz; rfl

theorem cut_tw (p : UInt8 → Bool) (s : ByteArray) : s.extract 0 (s.data.toList.takeWhile p).length = str8 (s.data.toList.takeWhile p) := by
  have h := tw_cut2 p s 0 (s.data.toList.takeWhile p).length (by rw [List.drop_zero, Nat.zero_add])
  rw [List.drop_zero] at h; exact h
theorem tw_size (p : UInt8 → Bool) (s : ByteArray) : (s.data.toList.takeWhile p).length ≤ s.size := (List.takeWhile_sublist p).length_le
theorem head_tail (s : ByteArray) (h0 : 0 < s.size) : s.data.toList = s[0] :: s.data.toList.drop 1 := List.drop_eq_getElem_cons (show 0 < s.data.toList.length from h0)
theorem tw_head {p : UInt8 → Bool} (s : ByteArray) (h0 : 0 < s.size) (hp : p s[0] = true) : s.data.toList.takeWhile p = s[0] :: (s.data.toList.drop 1).takeWhile p := by
  have h := congrArg (List.takeWhile p) (head_tail s h0)
  rw [List.takeWhile_cons, if_pos hp] at h; exact h
theorem it_dok (b : UInt8) (l : List UInt8) (hb : Dec.isDig b = true) : itB (b :: l) = Dec.dok 12 (b :: l) ∧ itV (b :: l) = Dec.dvv 12 (b :: l) := by
  have h1 : b ≠ 45 := by rintro rfl; exact absurd hb (by decide)
  have h2 : b ≠ 43 := by rintro rfl; exact absurd hb (by decide)
  have e : itD (b :: l) = b :: l := by
    unfold itD
    rw [if_neg]
    rintro (h | h)
    · exact h1 (Option.some.inj h)
    · exact h2 (Option.some.inj h)
  have e2 : itN (b :: l) = false := by unfold itN; simpa using h1
  unfold itB itV
  rw [e, e2]
  exact ⟨rfl, if_neg (by decide)⟩
/-- The ways of an integer. -/
theorem int_ways (s : ByteArray) (h0 : 0 < s.size) (hb : Dec.isDig s[0] = true) : ∃ W, s.data.toList.takeWhile Tk.idb = W ∧ s.extract 0 W.length = str8 W ∧ W.length ≤ s.size ∧
    ((Dec.dok 12 W = true ∧ Tk.one denM s.data.toList = some (3, Dec.fmt (Dec.dvv 12 W), W.length)) ∨ (Dec.dok 12 W = false ∧ Tk.one denM s.data.toList = none)) := by
  refine ⟨_, rfl, cut_tw _ s, tw_size _ s, ?_⟩
  have h1 := int_cases s[0] (s.data.toList.drop 1) hb
  obtain ⟨e1, e2⟩ := it_dok s[0] ((s.data.toList.drop 1).takeWhile Tk.idb) hb
  rw [← head_tail s h0, e1, e2, ← tw_head s h0 (dig_idb hb)] at h1
  have e3 : ((s.data.toList.drop 1).takeWhile Tk.idb).length + 1 = (s.data.toList.takeWhile Tk.idb).length := by rw [tw_head s h0 (dig_idb hb), List.length_cons]
  rw [e3] at h1
  exact h1
theorem letter_idb {b : UInt8} (h : Tk.letter b = true) : Tk.idb b = true := by unfold Tk.idb; rw [h]; rfl
/-- The ways of a word. -/
theorem word_ways (s : ByteArray) (h0 : 0 < s.size) (hb : Tk.letter s[0] = true) : ∃ W, s.data.toList.takeWhile Tk.idb = W ∧ s.extract 0 W.length = str8 W ∧ W.length ≤ s.size ∧
    ((hasW Tk.reserved W = true ∧ Tk.one denM s.data.toList = some (2, W, W.length)) ∨ (hasW Tk.reserved W = false ∧ Tk.isName W = true ∧ Tk.one denM s.data.toList = some (1, W, W.length))
      ∨ (hasW Tk.reserved W = false ∧ Tk.isName W = false ∧ Tk.one denM s.data.toList = none)) := by
  refine ⟨_, rfl, cut_tw _ s, tw_size _ s, ?_⟩
  have h1 := word_cases s[0] (s.data.toList.drop 1) hb
  have e3 : ((s.data.toList.drop 1).takeWhile Tk.idb).length + 1 = (s.data.toList.takeWhile Tk.idb).length := by rw [tw_head s h0 (letter_idb hb), List.length_cons]
  rw [← head_tail s h0, ← tw_head s h0 (letter_idb hb), e3] at h1
  exact h1
theorem cut_at (s : ByteArray) (z : Nat) : s.extract 0 z = str8 (s.data.toList.take z) := by
  apply str8_inj
  simp only [ByteArray.data_extract, Array.toList_extract, List.extract_eq_take_drop]
  rw [List.drop_zero, Nat.sub_zero]
theorem litZ_at (s : ByteArray) (h0 : 0 < s.size) (hd : (92 : UInt8) ≠ s[0]) : litZ s.data.toList = Tk.endP s[0] (s.data.toList.drop 1) + 1 ∧ litZ s.data.toList ≤ s.size ∧ s.data.toList.take (litZ s.data.toList) = s[0] :: (s.data.toList.drop 1).take (Tk.endP s[0] (s.data.toList.drop 1)) := by
  have e : litZ s.data.toList = Tk.endP s[0] (s.data.toList.drop 1) + 1 := by
    have h := congrArg litZ (head_tail s h0)
    exact h
  have h2 := Tk.endP_le hd _ (s.data.toList.drop 1) (Nat.le_refl _)
  rw [List.length_drop, len8] at h2
  refine ⟨e, by omega, ?_⟩
  rw [e]
  have h := congrArg (List.take (Tk.endP s[0] (s.data.toList.drop 1) + 1)) (head_tail s h0)
  rw [List.take_succ_cons] at h; exact h
/-- The ways of a quoted text. -/
theorem text_ways (s : ByteArray) (h0 : 0 < s.size) (hb : s[0] = 34) : ∃ q, litZ s.data.toList = q.length ∧ s.extract 0 q.length = str8 q ∧ q.length ≤ s.size ∧
    ((Lt.litB 34 q = false ∧ Tk.one denM s.data.toList = none) ∨ (Lt.litB 34 q = true ∧ 120 < (Lt.litL 34 q).length ∧ Tk.one denM s.data.toList = none)
      ∨ (Lt.litB 34 q = true ∧ (Lt.litL 34 q).length ≤ 120 ∧ Tk.one denM s.data.toList = some (4, Lt.litL 34 q, q.length))) := by
  obtain ⟨e1, e2, e3⟩ := litZ_at s h0 (by rw [hb]; decide)
  have hz : (s.data.toList.take (litZ s.data.toList)).length = litZ s.data.toList := by rw [List.length_take, len8]; omega
  refine ⟨s.data.toList.take (litZ s.data.toList), hz.symm, by rw [hz]; exact cut_at s _, by rw [hz]; exact e2, ?_⟩
  rw [hz, e3]
  rw [hb] at e1 e3 ⊢
  have ht := head_tail s h0
  rw [hb] at ht
  have hone : Tk.one denM s.data.toList = Tk.one denM (34 :: s.data.toList.drop 1) := congrArg _ ht
  rw [hone, e1]
  generalize s.data.toList.drop 1 = r
  rw [one_str]
  cases he : Lt.endL 34 r with
  | none =>
    left
    exact ⟨(Lt.lit_none (Tk.lit_noend (.inl rfl) r he)).1, rfl⟩
  | some n =>
    have e4 := Tk.endP_some (d := 34) (by decide) _ r n (Nat.le_refl _) he
    rw [e4]
    show _ ∨ _ ∨ _
    have e5 : ((some n).bind fun k => (denM.str (34 :: r.take k)).map fun t => ((4 : Nat), t, k + 1)) = (denM.str (34 :: r.take n)).map fun t => ((4 : Nat), t, n + 1) := rfl
    rw [e5]
    generalize (34 : UInt8) :: r.take n = q
    have e2 : denM.str q = if Lt.litB 34 q = true ∧ (Lt.litL 34 q).length ≤ 120 then some (Lt.litL 34 q) else none := rfl
    rw [e2]
    cases hl : Lt.litB 34 q
    · left; exact ⟨rfl, by rw [if_neg (by simp)]; rfl⟩
    · right
      by_cases h8 : (Lt.litL 34 q).length ≤ 120
      · right; exact ⟨rfl, h8, by rw [if_pos ⟨rfl, h8⟩]; rfl⟩
      · left; exact ⟨rfl, by omega, by rw [if_neg (fun h => h8 h.2)]; rfl⟩
/-- The ways of a quoted set. -/
theorem cset_ways (s : ByteArray) (h0 : 0 < s.size) (hb : s[0] = 39) : ∃ q, litZ s.data.toList = q.length ∧ s.extract 0 q.length = str8 q ∧ q.length ≤ s.size ∧
    ((ucB q = false ∧ Tk.one denM s.data.toList = none) ∨ (ucB q = true ∧ Tk.one denM s.data.toList = some (5, (txt (Cs.text (ucL q) (ucH q))).data.toList, q.length))) := by
  obtain ⟨e1, e2, e3⟩ := litZ_at s h0 (by rw [hb]; decide)
  have hz : (s.data.toList.take (litZ s.data.toList)).length = litZ s.data.toList := by rw [List.length_take, len8]; omega
  refine ⟨s.data.toList.take (litZ s.data.toList), hz.symm, by rw [hz]; exact cut_at s _, by rw [hz]; exact e2, ?_⟩
  rw [hz, e3]
  rw [hb] at e1 e3 ⊢
  have ht := head_tail s h0
  rw [hb] at ht
  have hone : Tk.one denM s.data.toList = Tk.one denM (39 :: s.data.toList.drop 1) := congrArg _ ht
  rw [hone, e1]
  generalize s.data.toList.drop 1 = r
  rw [one_set]
  cases he : Lt.endL 39 r with
  | none =>
    left
    refine ⟨?_, rfl⟩
    unfold ucB
    rw [(Lt.lit_none (Tk.lit_noend (.inr rfl) r he)).1]; rfl
  | some n =>
    have e4 := Tk.endP_some (d := 39) (by decide) _ r n (Nat.le_refl _) he
    rw [e4]
    have e5 : ((some n).bind fun k => (denM.set (39 :: r.take k)).map fun t => ((5 : Nat), t, k + 1)) = (denM.set (39 :: r.take n)).map fun t => ((5 : Nat), t, n + 1) := rfl
    rw [e5]
    generalize (39 : UInt8) :: r.take n = q
    have e2 : denM.set q = if ucB q = true then some (txt (Cs.text (ucL q) (ucH q))).data.toList else none := rfl
    rw [e2]
    cases ucB q
    · left; exact ⟨rfl, rfl⟩
    · right; exact ⟨rfl, rfl⟩
/-- The ways of a keyword. -/
theorem key_ways (s : ByteArray) (h0 : 1 < s.size) (hb : s[0] = 38) (hl : Tk.letter s[1] = true) : ∃ T, (s.data.toList.drop 1).takeWhile Tk.letter = T ∧ s.extract 1 (T.length + 1) = str8 T ∧ T.length + 1 ≤ s.size ∧
    ((hasW Tk.keywords T = true ∧ Tk.one denM s.data.toList = some (6, T, T.length + 1)) ∨ (hasW Tk.keywords T = false ∧ Tk.one denM s.data.toList = none)) := by
  have ht := head_tail s (by omega)
  rw [hb] at ht
  have hone : Tk.one denM s.data.toList = Tk.one denM (38 :: s.data.toList.drop 1) := congrArg _ ht
  have hle := tw_le Tk.letter s.data.toList 1 (show 1 ≤ s.size by omega)
  rw [len8] at hle
  refine ⟨_, rfl, ?_, by omega, ?_⟩
  · exact tw_cut2 Tk.letter s 1 _ (by omega)
  · rw [hone]
    refine kw_cases _ ?_
    rw [List.drop_eq_getElem_cons (show 1 < s.data.toList.length from h0)]
    exact congrArg some hl
/-- The ways of what is an operator or nothing. -/
theorem op_ways (s : ByteArray) (h0 : 0 < s.size) (hl : Tk.letter s[0] = false) (hd : Dec.isDig s[0] = false) (h34 : s[0] ≠ 34) (h39 : s[0] ≠ 39) (h38 : ¬ (s[0] = 38 ∧ ∃ h : 1 < s.size, Tk.letter s[1] = true)) :
    Tk.one denM s.data.toList = (Tk.opF s.data.toList (min 5 s.size)).map fun o => (7, o, o.length) := by
  have ht := head_tail s h0
  have h1 := op_one s[0] (s.data.toList.drop 1) hl hd h34 h39 (by
    rintro ⟨h2, h3⟩
    refine h38 ⟨h2, ?_⟩
    rcases Nat.lt_or_ge 1 s.size with h4 | h4
    · refine ⟨h4, ?_⟩
      rw [List.drop_eq_getElem_cons (show 1 < s.data.toList.length from h4)] at h3
      exact Option.some.inj h3
    · rw [List.drop_eq_nil_of_le (show s.data.toList.length ≤ 1 from h4)] at h3; cases h3)
  rw [← ht, Tk.op_longest, len8] at h1
  exact h1
end Go.Proofs.YtfhakailbikjkaaDoor
