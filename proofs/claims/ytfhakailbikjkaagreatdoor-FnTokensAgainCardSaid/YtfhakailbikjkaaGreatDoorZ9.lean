/- Joined texts: K6, K7, K8, K9, K10. No conditions besides those that each states. -/
import Derived.Test.YtfhakailbikjkaaGreatDoorZ2
import Derived.Test.YtfhakailbikjkaaGreatDoorZ5
import Derived.Test.YtfhakailbikjkaaGreatDoorZ7
import Derived.Test.YtfhakailbikjkaaGreatDoorZ8
/- The token that begins at a place, in the reference model: what the walks need of texts and of the result's variable; words. No conditions. -/
namespace Go.Proofs.YtfhakailbikjkaaGreatDoor
open Go.RowKit
set_option linter.unusedVariables false

theorem tw_lt (p : UInt8 → Bool) (S : List UInt8) (a : Nat) : ∀ m, a ≤ m → m < a + ((S.drop a).takeWhile p).length → ∃ h : m < S.length, p S[m] = true := by
  intro m h1 h2
  have hl : ((S.drop a).takeWhile p).length ≤ (S.drop a).length := (List.takeWhile_sublist p).length_le
  rw [List.length_drop] at hl
  have h3 : m < S.length := by omega
  refine ⟨h3, ?_⟩
  have h4 : m - a < ((S.drop a).takeWhile p).length := by omega
  have h5 := List.all_eq_true.1 (Tk.take_all p (S.drop a)) _ (List.getElem_mem h4)
  have h6 : ((S.drop a).takeWhile p)[m - a] = S[m] := by
    have h7 : (S.drop a).takeWhile p <+: S.drop a := List.takeWhile_prefix p
    have h8 := List.IsPrefix.getElem h7 h4
    rw [h8, List.getElem_drop]
    congr 1; omega
  rw [h6] at h5; exact h5
theorem tw_le (p : UInt8 → Bool) (S : List UInt8) (a : Nat) (h : a ≤ S.length) : a + ((S.drop a).takeWhile p).length ≤ S.length := by
  have hl : ((S.drop a).takeWhile p).length ≤ (S.drop a).length := (List.takeWhile_sublist p).length_le
  rw [List.length_drop] at hl; omega
theorem tw_stop (p : UInt8 → Bool) : ∀ (l : List UInt8) (h : (l.takeWhile p).length < l.length), p (l[(l.takeWhile p).length]) = false := by
  intro l
  induction l with
  | nil => intro h; simp at h
  | cons b l ih =>
    intro h
    by_cases hb : p b = true
    · have e : ((b :: l).takeWhile p).length = (l.takeWhile p).length + 1 := by rw [List.takeWhile_cons, if_pos hb]; rfl
      have h2 : (l.takeWhile p).length < l.length := by rw [e] at h; simp at h; exact h
      have h3 := ih h2
      simp only [e, List.getElem_cons_succ]; exact h3
    · have e : ((b :: l).takeWhile p).length = 0 := by rw [List.takeWhile_cons, if_neg hb]; rfl
      simp only [e, List.getElem_cons_zero]; simpa using hb
theorem tw_end (p : UInt8 → Bool) (S : List UInt8) (a m : Nat) (hm : m = a + ((S.drop a).takeWhile p).length) (h : m < S.length) : p S[m] = false := by
  have h2 : ((S.drop a).takeWhile p).length < (S.drop a).length := by rw [List.length_drop]; omega
  have h3 := tw_stop p (S.drop a) h2
  rw [List.getElem_drop] at h3
  have h4 : S[m] = S[a + ((S.drop a).takeWhile p).length]'(by omega) := by congr 1
  rw [h4]; exact h3
theorem tw_cut (p : UInt8 → Bool) (s : ByteArray) (i m : Nat) (hi : i < s.size) (hm : m = i + 1 + ((s.data.toList.drop (i + 1)).takeWhile p).length) : s.extract i m = str8 (s[i] :: (s.data.toList.drop (i + 1)).takeWhile p) := by
  apply str8_inj
  have hl : i < s.data.toList.length := hi
  simp only [ByteArray.data_extract, Array.toList_extract, List.extract_eq_take_drop]
  rw [List.drop_eq_getElem_cons hl, hm, show i + 1 + ((s.data.toList.drop (i + 1)).takeWhile p).length - i = ((s.data.toList.drop (i + 1)).takeWhile p).length + 1 by omega, List.take_succ_cons]
  congr 1
  exact (List.prefix_iff_eq_take.1 (List.takeWhile_prefix p)).symm
theorem tw_cut2 (p : UInt8 → Bool) (s : ByteArray) (a m : Nat) (hm : m = a + ((s.data.toList.drop a).takeWhile p).length) : s.extract a m = str8 ((s.data.toList.drop a).takeWhile p) := by
  apply str8_inj
  simp only [ByteArray.data_extract, Array.toList_extract, List.extract_eq_take_drop]
  rw [hm, show a + ((s.data.toList.drop a).takeWhile p).length - a = ((s.data.toList.drop a).takeWhile p).length by omega]
  exact (List.prefix_iff_eq_take.1 (List.takeWhile_prefix p)).symm

/-- What the reference model reads in the word of an integer, a quoted text, a quoted set. -/
def denM : Tk.Den where
  int w := if itB (Lib.trimB w 32) = true then some (Dec.fmtN (itV (Lib.trimB w 32)).toNat) else none
  str q := if Lt.litB 34 q = true ∧ (Lt.litL 34 q).length ≤ 120 then some (Lt.litL 34 q) else none
  set q := if ucB q = true then some (txt (Cs.text (ucL q) (ucH q))).data.toList else none
/-- What l5One answers. -/
def oneE (i : Nat) : Option (Nat × List UInt8 × Nat) → Ending
  | none => .returned (.tuple #[.agg #[.int .i64 0, .string ByteArray.empty, .int .i64 0], .int .i64 (-1)])
  | some (k, t, n) => .returned (.tuple #[.agg #[.int .i64 k, .string (str8 t), .int .i64 0], .int .i64 ((i + n : Nat) : Int)])
def RetOne (w : World) (i : Nat) (o : Option (Nat × List UInt8 × Nat)) (e : Ending) (w' : World) : Prop := e = oneE i o ∧ Below w.heap.size w w'
end Go.Proofs.YtfhakailbikjkaaGreatDoor
/- The token that begins at a place, in the reference model: words. No conditions. -/
namespace Go.Proofs.YtfhakailbikjkaaGreatDoor
open Go.RowKit
set_option linter.unusedVariables false

theorem idb_split {b : UInt8} (h : Tk.idb b = true) : Tk.letter b = true ∨ (Tk.letter b = false ∧ Dec.isDig b = true) := by
  unfold Tk.idb at h
  cases hl : Tk.letter b
  · rw [hl] at h; exact .inr ⟨rfl, by simpa using h⟩
  · exact .inl rfl
theorem idb_no {b : UInt8} (h : Tk.idb b = false) : Tk.letter b = false ∧ Dec.isDig b = false := by
  unfold Tk.idb at h; simpa using h
theorem one_eq {i m k : Nat} {T : List UInt8} {o : Option (Nat × List UInt8 × Nat)} (h : o = some (k, T, m - i)) (hm : i + (m - i) = m) : Ending.returned (.tuple #[.agg #[.int .i64 (k : Int), .string (str8 T), .int .i64 0], .int .i64 (m : Int)]) = oneE i o := by
  subst h
  show _ = Ending.returned (.tuple #[.agg #[.int .i64 (k : Int), .string (str8 T), .int .i64 0], .int .i64 ((i + (m - i) : Nat) : Int)])
  rw [hm]
theorem one_no {i : Nat} {o : Option (Nat × List UInt8 × Nat)} (h : o = none) : Ending.returned (.tuple #[.agg #[.int .i64 0, .string ByteArray.empty, .int .i64 0], .int .i64 (-1)]) = oneE i o := by subst h; rfl
/-- The outcomes of a word. -/
theorem word_cases (b : UInt8) (r : List UInt8) (hb : Tk.letter b = true) : (hasW Tk.reserved (b :: r.takeWhile Tk.idb) = true ∧ Tk.one denM (b :: r) = some (2, b :: r.takeWhile Tk.idb, (r.takeWhile Tk.idb).length + 1))
    ∨ (hasW Tk.reserved (b :: r.takeWhile Tk.idb) = false ∧ Tk.isName (b :: r.takeWhile Tk.idb) = true ∧ Tk.one denM (b :: r) = some (1, b :: r.takeWhile Tk.idb, (r.takeWhile Tk.idb).length + 1))
    ∨ (hasW Tk.reserved (b :: r.takeWhile Tk.idb) = false ∧ Tk.isName (b :: r.takeWhile Tk.idb) = false ∧ Tk.one denM (b :: r) = none) := by
  simp only [Tk.one]
  rw [if_pos hb]
  have e : hasW Tk.reserved (b :: r.takeWhile Tk.idb) = Tk.isReserved (b :: r.takeWhile Tk.idb) := rfl
  rw [e]
  cases Tk.isReserved (b :: r.takeWhile Tk.idb)
  · right
    cases Tk.isName (b :: r.takeWhile Tk.idb)
    · right; exact ⟨rfl, rfl, rfl⟩
    · left; exact ⟨rfl, rfl, rfl⟩
  · left; exact ⟨rfl, rfl⟩

set_option maxRecDepth 100000 in
set_option maxHeartbeats 3200000 in
theorem one_word (s : ByteArray) (i : Nat) (w : World) (hs : (s.size : Int) ≤ 1048576) (hi : i < s.size) (hb : Tk.letter s[i] = true) :
    Calls Tryz.prog 18 #[.string s, .int .i64 (i : Int)] w (RetOne w i (Tk.one denM (s.data.toList.drop i))) := by
  unfold RetOne
  have hdrop : s.data.toList.drop i = s[i] :: s.data.toList.drop (i + 1) := by rw [List.drop_eq_getElem_cons (show i < s.data.toList.length from hi)]; rfl
  have hout := word_cases s[i] (s.data.toList.drop (i + 1)) hb
  rw [← hdrop] at hout
  obtain ⟨m0, hm0⟩ : ∃ m0, m0 = i + 1 + ((s.data.toList.drop (i + 1)).takeWhile Tk.idb).length := ⟨_, rfl⟩
  have hle := tw_le Tk.idb s.data.toList (i + 1) hi
  rw [← hm0, len8] at hle
  have HLT := Lib.hid (fun m (h1 : i + 1 ≤ m) (h2 : m < m0) => tw_lt Tk.idb s.data.toList (i + 1) m h1 (by rw [← hm0]; exact h2))
  have HEND := Lib.hid (fun h => tw_end Tk.idb s.data.toList (i + 1) m0 hm0 h)
  have hcut := tw_cut Tk.idb s i m0 hi hm0
  have hlen : ((s.data.toList.drop (i + 1)).takeWhile Tk.idb).length + 1 = m0 - i := by omega
  rw [hlen] at hout
  have hmi : i + (m0 - i) = m0 := by omega
  generalize hT : s[i] :: (s.data.toList.drop (i + 1)).takeWhile Tk.idb = T at *
  have hi0 : (0 : Int) ≤ i := by omega
  have hii : (i : Int) < s.size := by omega
  have him : (i : Int) ≤ m0 := by omega
  have him1 : i + 1 ≤ m0 := by omega
  have hms : (m0 : Int) ≤ s.size := by omega
  have HL := Lib.hid (fun W => spec_letter s[i] W)
  rw [hb] at HL
  have HR := Lib.hid (fun W => spec_reserved (str8 T) W)
  rw [str8_list] at HR
  have htz : ((str8 T).size : Int) ≤ 1048576 := by rw [str8_size, ← hT, List.length_cons, hlen]; omega
  have HN := Lib.hid (fun W => spec_name (str8 T) W htz)
  rw [str8_list] at HN
  have HF0 := Lib.hid (FreeTok.new w 0 ByteArray.empty 0 31)
  have HOUT := Lib.hid hout
  have HMI := Lib.hid hmi
  clear hb hT hm0 hlen hdrop htz hout hmi
  go_enter Tryz.func18, Tryz.ntmps18
  go_wp2_with (go_at_call 38; refine (HL.out _).mono ?_; rintro e w1 ⟨rfl, rfl⟩)
  go_loop [7] (fun n => ∃ m : Nat, n = .int .i64 m ∧ i + 1 ≤ m ∧ m ≤ m0) (fun n => m0 - (intOf n).toNat)
  case atStart => exact ⟨i + 1, by go_num, by omega, by omega⟩
  case round =>
    clear HL
    obtain ⟨m, rfl, hm1, hm2⟩ := hrel
    by_cases hlt : m < m0
    · obtain ⟨hml, hid⟩ := HLT.out m hm1 hlt
      have hms2 : m < s.size := hml
      have hmsi : (m : Int) < s.size := by omega
      have hid2 : Tk.idb s[m] = true := hid
      have H1 := Lib.hid (fun W => spec_letter s[m] W)
      have H2 := Lib.hid (fun W => spec_digit s[m] W)
      rcases idb_split hid2 with h | ⟨h, h'⟩
      · rw [h] at H1
        clear h hid hid2 H2
        go_wp2_with (go_at_call 38; refine (H1.out _).mono ?_; rintro e w3 ⟨rfl, rfl⟩)
        go_round
        case rel => exact ⟨m + 1, by go_num, by omega, by omega⟩
        case measure => first | (simp [intOf]; done) | (simp [intOf]; omega)
      · rw [h] at H1
        rw [h'] at H2
        clear h h' hid hid2
        go_wp2_with (first | (go_at_call 38; refine (H1.out _).mono ?_; rintro e w3 ⟨rfl, rfl⟩) | (go_at_call 39; refine (H2.out _).mono ?_; rintro e w4 ⟨rfl, rfl⟩))
        go_round
        case rel => exact ⟨m + 1, by go_num, by omega, by omega⟩
        case measure => first | (simp [intOf]; done) | (simp [intOf]; omega)
    · obtain rfl : m = m0 := by omega
      clear HLT
      have hstop : (∃ h : m < s.size, Tk.letter s[m] = false ∧ Dec.isDig s[m] = false) ∨ m = s.size := by
        rcases Nat.lt_or_ge m s.size with h | h
        · exact .inl ⟨h, idb_no (HEND.out h)⟩
        · exact .inr (by omega)
      clear HEND
      rcases HOUT.out with ⟨h1, ho⟩ | ⟨h1, h2, ho⟩ | ⟨h1, h2, ho⟩
      · have HO := Lib.hid ho
        rw [h1] at HR
        clear ho h1 HOUT
        rcases hstop with ⟨h, hl, hd⟩ | h
        · have H1 := Lib.hid (fun W => spec_letter s[m] W)
          have H2 := Lib.hid (fun W => spec_digit s[m] W)
          have hmsi : (m : Int) < s.size := by omega
          rw [hl] at H1
          rw [hd] at H2
          clear hl hd
          go_wp2_with (first | (go_at_call 38; refine (H1.out _).mono ?_; rintro e w3 ⟨rfl, rfl⟩) | (go_at_call 39; refine (H2.out _).mono ?_; rintro e w4 ⟨rfl, rfl⟩) | (go_at_call 40; refine (HR.out _).mono ?_; rintro e w5 ⟨rfl, hb5⟩; have HB5 := Lib.hid (below_step (bl1 _ _) hb5); have HF5 := Lib.hid (HF0.out.later hb5); clear hb5; obtain ⟨⟨r0, r1, r2⟩, f0, f1, f2⟩ := HF5.out))
          exact bodyPost_ret (v := .tuple #[.agg #[.int .i64 2, .string (str8 T), .int .i64 0], .int .i64 m]) (by simp [results, Tryz.results18, go_sem, r0, r1, r2]) rfl ⟨one_eq (k := 2) HO.out HMI.out, below_store3 HB5.out (Nat.le_refl _) _ _ _⟩
        · have hmsi : ¬ (m : Int) < s.size := by omega
          clear h
          go_wp2_with (first | (go_at_call 40; refine (HR.out _).mono ?_; rintro e w5 ⟨rfl, hb5⟩; have HB5 := Lib.hid (below_step (bl1 _ _) hb5); have HF5 := Lib.hid (HF0.out.later hb5); clear hb5; obtain ⟨⟨r0, r1, r2⟩, f0, f1, f2⟩ := HF5.out))
          exact bodyPost_ret (v := .tuple #[.agg #[.int .i64 2, .string (str8 T), .int .i64 0], .int .i64 m]) (by simp [results, Tryz.results18, go_sem, r0, r1, r2]) rfl ⟨one_eq (k := 2) HO.out HMI.out, below_store3 HB5.out (Nat.le_refl _) _ _ _⟩
      · have HO := Lib.hid ho
        rw [h1] at HR; rw [h2] at HN
        clear ho h1 HOUT h2
        rcases hstop with ⟨h, hl, hd⟩ | h
        · have H1 := Lib.hid (fun W => spec_letter s[m] W)
          have H2 := Lib.hid (fun W => spec_digit s[m] W)
          have hmsi : (m : Int) < s.size := by omega
          rw [hl] at H1
          rw [hd] at H2
          clear hl hd
          go_wp2_with (first | (go_at_call 38; refine (H1.out _).mono ?_; rintro e w3 ⟨rfl, rfl⟩) | (go_at_call 39; refine (H2.out _).mono ?_; rintro e w4 ⟨rfl, rfl⟩) | (go_at_call 40; refine (HR.out _).mono ?_; rintro e w5 ⟨rfl, hb5⟩; have HB5 := Lib.hid (below_step (bl1 _ _) hb5); have HF5 := Lib.hid (HF0.out.later hb5); clear hb5) | (go_at_call 41; refine (HN.out _).mono ?_; rintro e w6 ⟨rfl, hb6⟩; have HB6 := Lib.hid (below_step HB5.out hb6); have HF6 := Lib.hid (HF5.out.later hb6); clear hb6; obtain ⟨⟨r0, r1, r2⟩, f0, f1, f2⟩ := HF6.out))
          exact bodyPost_ret (v := .tuple #[.agg #[.int .i64 1, .string (str8 T), .int .i64 0], .int .i64 m]) (by simp [results, Tryz.results18, go_sem, r0, r1, r2]) rfl ⟨one_eq (k := 1) HO.out HMI.out, below_store3 HB6.out (Nat.le_refl _) _ _ _⟩
        · have hmsi : ¬ (m : Int) < s.size := by omega
          clear h
          go_wp2_with (first | (go_at_call 40; refine (HR.out _).mono ?_; rintro e w5 ⟨rfl, hb5⟩; have HB5 := Lib.hid (below_step (bl1 _ _) hb5); have HF5 := Lib.hid (HF0.out.later hb5); clear hb5) | (go_at_call 41; refine (HN.out _).mono ?_; rintro e w6 ⟨rfl, hb6⟩; have HB6 := Lib.hid (below_step HB5.out hb6); have HF6 := Lib.hid (HF5.out.later hb6); clear hb6; obtain ⟨⟨r0, r1, r2⟩, f0, f1, f2⟩ := HF6.out))
          exact bodyPost_ret (v := .tuple #[.agg #[.int .i64 1, .string (str8 T), .int .i64 0], .int .i64 m]) (by simp [results, Tryz.results18, go_sem, r0, r1, r2]) rfl ⟨one_eq (k := 1) HO.out HMI.out, below_store3 HB6.out (Nat.le_refl _) _ _ _⟩
      · have HO := Lib.hid ho
        rw [h1] at HR; rw [h2] at HN
        clear ho h1 HOUT h2
        rcases hstop with ⟨h, hl, hd⟩ | h
        · have H1 := Lib.hid (fun W => spec_letter s[m] W)
          have H2 := Lib.hid (fun W => spec_digit s[m] W)
          have hmsi : (m : Int) < s.size := by omega
          rw [hl] at H1
          rw [hd] at H2
          clear hl hd
          go_wp2_with (first | (go_at_call 38; refine (H1.out _).mono ?_; rintro e w3 ⟨rfl, rfl⟩) | (go_at_call 39; refine (H2.out _).mono ?_; rintro e w4 ⟨rfl, rfl⟩) | (go_at_call 40; refine (HR.out _).mono ?_; rintro e w5 ⟨rfl, hb5⟩; have HB5 := Lib.hid (below_step (bl1 _ _) hb5); have HF5 := Lib.hid (HF0.out.later hb5); clear hb5) | (go_at_call 41; refine (HN.out _).mono ?_; rintro e w6 ⟨rfl, hb6⟩; have HB6 := Lib.hid (below_step HB5.out hb6); have HF6 := Lib.hid (HF5.out.later hb6); clear hb6; obtain ⟨⟨r0, r1, r2⟩, f0, f1, f2⟩ := HF6.out))
          exact bodyPost_ret (v := .tuple #[.agg #[.int .i64 0, .string ByteArray.empty, .int .i64 0], .int .i64 (-1)]) (by simp [results, Tryz.results18, go_sem, r0, r1, r2]; rfl) rfl ⟨one_no HO.out, below_store3 HB6.out (Nat.le_refl _) _ _ _⟩
        · have hmsi : ¬ (m : Int) < s.size := by omega
          clear h
          go_wp2_with (first | (go_at_call 40; refine (HR.out _).mono ?_; rintro e w5 ⟨rfl, hb5⟩; have HB5 := Lib.hid (below_step (bl1 _ _) hb5); have HF5 := Lib.hid (HF0.out.later hb5); clear hb5) | (go_at_call 41; refine (HN.out _).mono ?_; rintro e w6 ⟨rfl, hb6⟩; have HB6 := Lib.hid (below_step HB5.out hb6); have HF6 := Lib.hid (HF5.out.later hb6); clear hb6; obtain ⟨⟨r0, r1, r2⟩, f0, f1, f2⟩ := HF6.out))
          exact bodyPost_ret (v := .tuple #[.agg #[.int .i64 0, .string ByteArray.empty, .int .i64 0], .int .i64 (-1)]) (by simp [results, Tryz.results18, go_sem, r0, r1, r2]; rfl) rfl ⟨one_no HO.out, below_store3 HB6.out (Nat.le_refl _) _ _ _⟩
end Go.Proofs.YtfhakailbikjkaaGreatDoor
/- The token that begins at a place, in the reference model: integers. No conditions. -/
namespace Go.Proofs.YtfhakailbikjkaaGreatDoor
open Go.RowKit
set_option linter.unusedVariables false

theorem drop_none (l : List UInt8) (h : ∀ x ∈ l, x ≠ 32) : l.dropWhile (· == 32) = l := by
  cases l with
  | nil => rfl
  | cons b l =>
    have : (b == 32) = false := by simpa using h b (List.mem_cons_self)
    rw [List.dropWhile_cons, if_neg (by rw [this]; simp)]
theorem trim_id (l : List UInt8) (h : ∀ x ∈ l, x ≠ 32) : Lib.trimB l 32 = l := by
  unfold Lib.trimB Lib.trimRightB Lib.trimLeftB
  rw [drop_none l.reverse (fun x hx => h x (List.mem_reverse.1 hx)), List.reverse_reverse, drop_none l h]
theorem idb_nb {b : UInt8} (h : Tk.idb b = true) : b ≠ 32 := by rintro rfl; exact absurd h (by decide)
theorem dig_idb {b : UInt8} (h : Dec.isDig b = true) : Tk.idb b = true := by unfold Tk.idb; rw [h]; simp
theorem it_pos (b : UInt8) (l : List UInt8) (hb : Dec.isDig b = true) (hl : l.all Tk.idb = true) : Lib.trimB (b :: l) 32 = b :: l ∧ 0 ≤ itV (b :: l) ∧ itV (b :: l) < 1000000000000 := by
  refine ⟨trim_id _ ?_, ?_⟩
  · intro x hx
    rw [List.mem_cons] at hx
    rcases hx with rfl | hx
    · exact idb_nb (dig_idb hb)
    · exact idb_nb (List.all_eq_true.1 hl x hx)
  · have h1 : itN (b :: l) = false := by
      unfold itN
      have : b ≠ 45 := by rintro rfl; exact absurd hb (by decide)
      simpa using this
    unfold itV
    rw [if_neg (by rw [h1]; simp)]
    exact dvv_bound _
theorem fmt_nat {v : Int} (h : 0 ≤ v) : Dec.fmt v = Dec.fmtN v.toNat := by
  unfold Dec.fmt Dec.fmtN
  by_cases h0 : v = 0
  · subst h0; rfl
  · rw [if_neg h0, if_neg (by omega), if_neg (by omega)]
    congr 1; omega
theorem dig_letter {b : UInt8} (h : Dec.isDig b = true) : Tk.letter b = false := Tk.letter_dig h
theorem int_cases (b : UInt8) (r : List UInt8) (hb : Dec.isDig b = true) : (itB (b :: r.takeWhile Tk.idb) = true ∧ Tk.one denM (b :: r) = some (3, Dec.fmt (itV (b :: r.takeWhile Tk.idb)), (r.takeWhile Tk.idb).length + 1))
    ∨ (itB (b :: r.takeWhile Tk.idb) = false ∧ Tk.one denM (b :: r) = none) := by
  obtain ⟨h1, h2, h3⟩ := it_pos b (r.takeWhile Tk.idb) hb (Tk.take_all _ _)
  simp only [Tk.one]
  rw [if_neg (by rw [dig_letter hb]; simp), if_pos hb]
  have e : denM.int (b :: r.takeWhile Tk.idb) = if itB (b :: r.takeWhile Tk.idb) = true then some (Dec.fmt (itV (b :: r.takeWhile Tk.idb))) else none := by
    show (if itB (Lib.trimB (b :: r.takeWhile Tk.idb) 32) = true then _ else _) = _
    rw [h1, fmt_nat h2]
  rw [e]
  cases itB (b :: r.takeWhile Tk.idb)
  · right; exact ⟨rfl, rfl⟩
  · left; exact ⟨rfl, rfl⟩

set_option maxRecDepth 100000 in
set_option maxHeartbeats 3200000 in
theorem one_int (s : ByteArray) (i : Nat) (w : World) (hs : (s.size : Int) ≤ 1048576) (hi : i < s.size) (hb : Dec.isDig s[i] = true) :
    Calls Tryz.prog 18 #[.string s, .int .i64 (i : Int)] w (RetOne w i (Tk.one denM (s.data.toList.drop i))) := by
  unfold RetOne
  have hdrop : s.data.toList.drop i = s[i] :: s.data.toList.drop (i + 1) := by rw [List.drop_eq_getElem_cons (show i < s.data.toList.length from hi)]; rfl
  have hout := int_cases s[i] (s.data.toList.drop (i + 1)) hb
  have hpos := it_pos s[i] ((s.data.toList.drop (i + 1)).takeWhile Tk.idb) hb (Tk.take_all _ _)
  rw [← hdrop] at hout
  obtain ⟨m0, hm0⟩ : ∃ m0, m0 = i + 1 + ((s.data.toList.drop (i + 1)).takeWhile Tk.idb).length := ⟨_, rfl⟩
  have hle := tw_le Tk.idb s.data.toList (i + 1) hi
  rw [← hm0, len8] at hle
  have HLT := Lib.hid (fun m (h1 : i + 1 ≤ m) (h2 : m < m0) => tw_lt Tk.idb s.data.toList (i + 1) m h1 (by rw [← hm0]; exact h2))
  have HEND := Lib.hid (fun h => tw_end Tk.idb s.data.toList (i + 1) m0 hm0 h)
  have hcut := tw_cut Tk.idb s i m0 hi hm0
  have hlen : ((s.data.toList.drop (i + 1)).takeWhile Tk.idb).length + 1 = m0 - i := by omega
  rw [hlen] at hout
  have hmi : i + (m0 - i) = m0 := by omega
  generalize hT : s[i] :: (s.data.toList.drop (i + 1)).takeWhile Tk.idb = T at *
  have hi0 : (0 : Int) ≤ i := by omega
  have hii : (i : Int) < s.size := by omega
  have him : (i : Int) ≤ m0 := by omega
  have him1 : i + 1 ≤ m0 := by omega
  have hms : (m0 : Int) ≤ s.size := by omega
  have HL := Lib.hid (fun W => spec_letter s[i] W)
  rw [dig_letter hb] at HL
  have HD := Lib.hid (fun W => spec_digit s[i] W)
  rw [hb] at HD
  have htz : ((str8 T).size : Int) ≤ 1048576 := by rw [str8_size, ← hT, List.length_cons, hlen]; omega
  have HI := Lib.hid (fun W => spec_it (str8 T) W htz)
  rw [str8_list, hpos.1] at HI
  have HFM := Lib.hid (fun W => spec_fmt (itV T) W (by omega) (by omega))
  have HF0 := Lib.hid (FreeTok.new w 0 ByteArray.empty 0 31)
  have HOUT := Lib.hid hout
  have HMI := Lib.hid hmi
  have HSTR : Hid ((⟨(Dec.fmt (itV T)).toArray⟩ : ByteArray) = str8 (Dec.fmt (itV T))) := rfl
  clear hb hT hm0 hlen hdrop htz hout hmi hpos
  go_enter Tryz.func18, Tryz.ntmps18
  go_wp2_with (first | (go_at_call 38; refine (HL.out _).mono ?_; rintro e w1 ⟨rfl, rfl⟩) | (go_at_call 39; refine (HD.out _).mono ?_; rintro e w1 ⟨rfl, rfl⟩))
  go_loop [7] (fun n => ∃ m : Nat, n = .int .i64 m ∧ i + 1 ≤ m ∧ m ≤ m0) (fun n => m0 - (intOf n).toNat)
  case atStart => exact ⟨i + 1, by go_num, by omega, by omega⟩
  case round =>
    clear HL HD
    obtain ⟨m, rfl, hm1, hm2⟩ := hrel
    by_cases hlt : m < m0
    · obtain ⟨hml, hid⟩ := HLT.out m hm1 hlt
      have hms2 : m < s.size := hml
      have hmsi : (m : Int) < s.size := by omega
      have hid2 : Tk.idb s[m] = true := hid
      have H1 := Lib.hid (fun W => spec_letter s[m] W)
      have H2 := Lib.hid (fun W => spec_digit s[m] W)
      rcases idb_split hid2 with h | ⟨h, h'⟩
      · rw [h] at H1
        clear h hid hid2 H2
        go_wp2_with (go_at_call 38; refine (H1.out _).mono ?_; rintro e w3 ⟨rfl, rfl⟩)
        go_round
        case rel => exact ⟨m + 1, by go_num, by omega, by omega⟩
        case measure => first | (simp [intOf]; done) | (simp [intOf]; omega)
      · rw [h] at H1
        rw [h'] at H2
        clear h h' hid hid2
        go_wp2_with (first | (go_at_call 38; refine (H1.out _).mono ?_; rintro e w3 ⟨rfl, rfl⟩) | (go_at_call 39; refine (H2.out _).mono ?_; rintro e w4 ⟨rfl, rfl⟩))
        go_round
        case rel => exact ⟨m + 1, by go_num, by omega, by omega⟩
        case measure => first | (simp [intOf]; done) | (simp [intOf]; omega)
    · obtain rfl : m = m0 := by omega
      clear HLT
      have hstop : (∃ h : m < s.size, Tk.letter s[m] = false ∧ Dec.isDig s[m] = false) ∨ m = s.size := by
        rcases Nat.lt_or_ge m s.size with h | h
        · exact .inl ⟨h, idb_no (HEND.out h)⟩
        · exact .inr (by omega)
      clear HEND
      rcases HOUT.out with ⟨h1, ho⟩ | ⟨h1, ho⟩
      · have HO := Lib.hid ho
        rw [h1] at HI
        clear ho h1 HOUT
        generalize itV T = v at *
        rcases hstop with ⟨h, hl, hd⟩ | h
        · have H1 := Lib.hid (fun W => spec_letter s[m] W)
          have H2 := Lib.hid (fun W => spec_digit s[m] W)
          have hmsi : (m : Int) < s.size := by omega
          rw [hl] at H1
          rw [hd] at H2
          clear hl hd
          go_wp2_with (first | (go_at_call 38; refine (H1.out _).mono ?_; rintro e w3 ⟨rfl, rfl⟩) | (go_at_call 39; refine (H2.out _).mono ?_; rintro e w4 ⟨rfl, rfl⟩) | (go_at_call 42; refine (HI.out _).mono ?_; rintro e w5 ⟨rfl, rfl⟩) | (go_at_call 43; refine (HFM.out _).mono ?_; rintro e w6 ⟨rfl, hb6⟩; have HB6 := Lib.hid (below_step (bl1 _ _) hb6); obtain ⟨⟨r0, r1, r2⟩, f0, f1, f2⟩ := HF0.out.later hb6; clear hb6))
          exact bodyPost_ret (v := .tuple #[.agg #[.int .i64 3, .string (str8 (Dec.fmt v)), .int .i64 0], .int .i64 m]) (by simp [results, Tryz.results18, go_sem, r0, r1, r2]; rfl) rfl ⟨one_eq (k := 3) HO.out HMI.out, below_store3 HB6.out (Nat.le_refl _) _ _ _⟩
        · have hmsi : ¬ (m : Int) < s.size := by omega
          clear h
          go_wp2_with (first | (go_at_call 42; refine (HI.out _).mono ?_; rintro e w5 ⟨rfl, rfl⟩) | (go_at_call 43; refine (HFM.out _).mono ?_; rintro e w6 ⟨rfl, hb6⟩; have HB6 := Lib.hid (below_step (bl1 _ _) hb6); obtain ⟨⟨r0, r1, r2⟩, f0, f1, f2⟩ := HF0.out.later hb6; clear hb6))
          exact bodyPost_ret (v := .tuple #[.agg #[.int .i64 3, .string (str8 (Dec.fmt v)), .int .i64 0], .int .i64 m]) (by simp [results, Tryz.results18, go_sem, r0, r1, r2]; rfl) rfl ⟨one_eq (k := 3) HO.out HMI.out, below_store3 HB6.out (Nat.le_refl _) _ _ _⟩
      · have HO := Lib.hid ho
        rw [h1] at HI
        clear ho h1 HOUT HFM HSTR
        generalize itV T = v at *
        rcases hstop with ⟨h, hl, hd⟩ | h
        · have H1 := Lib.hid (fun W => spec_letter s[m] W)
          have H2 := Lib.hid (fun W => spec_digit s[m] W)
          have hmsi : (m : Int) < s.size := by omega
          rw [hl] at H1
          rw [hd] at H2
          clear hl hd
          go_wp2_with (first | (go_at_call 38; refine (H1.out _).mono ?_; rintro e w3 ⟨rfl, rfl⟩) | (go_at_call 39; refine (H2.out _).mono ?_; rintro e w4 ⟨rfl, rfl⟩) | (go_at_call 42; refine (HI.out _).mono ?_; rintro e w5 ⟨rfl, rfl⟩))
          exact bodyPost_ret (v := .tuple #[.agg #[.int .i64 0, .string ByteArray.empty, .int .i64 0], .int .i64 (-1)]) (by simp [results, Tryz.results18, go_sem]; rfl) rfl ⟨one_no HO.out, bl1 _ _⟩
        · have hmsi : ¬ (m : Int) < s.size := by omega
          clear h
          go_wp2_with (first | (go_at_call 42; refine (HI.out _).mono ?_; rintro e w5 ⟨rfl, rfl⟩))
          exact bodyPost_ret (v := .tuple #[.agg #[.int .i64 0, .string ByteArray.empty, .int .i64 0], .int .i64 (-1)]) (by simp [results, Tryz.results18, go_sem]; rfl) rfl ⟨one_no HO.out, bl1 _ _⟩
end Go.Proofs.YtfhakailbikjkaaGreatDoor
/- The token that begins at a place, in the reference model: quoted texts and sets. No conditions. -/
namespace Go.Proofs.YtfhakailbikjkaaGreatDoor
open Go.RowKit
set_option linter.unusedVariables false

/-- Where a literal ends that begins at i: nowhere, or behind m - i bytes. -/
theorem end_cases (d : UInt8) (hd : d = 34 ∨ d = 39) (s : ByteArray) (i : Nat) (hi : i < s.size) : (Lt.ends d s.data.toList (i + 1) = none ∧ Lt.endL d (s.data.toList.drop (i + 1)) = none)
    ∨ ∃ m n, Lt.ends d s.data.toList (i + 1) = some m ∧ Lt.endL d (s.data.toList.drop (i + 1)) = some n ∧ n + 1 = m - i ∧ i + 1 ≤ m ∧ m ≤ s.size ∧ s.extract i m = str8 (s[i] :: (s.data.toList.drop (i + 1)).take n) := by
  cases he : Lt.endL d (s.data.toList.drop (i + 1)) with
  | none => left; exact ⟨by unfold Lt.ends; rw [he]; rfl, rfl⟩
  | some n =>
    right
    have h1 : Lt.ends d s.data.toList (i + 1) = some (n + (i + 1)) := by unfold Lt.ends; rw [he]; rfl
    obtain ⟨h2, h3, _⟩ := Lt.ends_last hd s.data.toList _ (i + 1) _ (Nat.le_refl _) h1
    rw [len8] at h2
    refine ⟨n + (i + 1), n, h1, rfl, by omega, by omega, by omega, ?_⟩
    apply str8_inj
    have hl : i < s.data.toList.length := hi
    simp only [ByteArray.data_extract, Array.toList_extract, List.extract_eq_take_drop]
    rw [List.drop_eq_getElem_cons hl, show n + (i + 1) - i = n + 1 by omega, List.take_succ_cons]; rfl
theorem one_str (R : List UInt8) : Tk.one denM (34 :: R) = (Lt.endL 34 R).bind fun n => (denM.str (34 :: R.take n)).map fun t => (4, t, n + 1) := by
  simp only [Tk.one]
  rw [if_neg (by decide), if_neg (by decide)]
  exact if_pos trivial
theorem one_set (R : List UInt8) : Tk.one denM (39 :: R) = (Lt.endL 39 R).bind fun n => (denM.set (39 :: R.take n)).map fun t => (5, t, n + 1) := by
  simp only [Tk.one]
  rw [if_neg (by decide), if_neg (by decide), if_neg (by decide)]
  exact if_pos trivial
theorem str_cases (s : ByteArray) (i : Nat) (hi : i < s.size) (hb : s[i] = 34) : (Lt.ends 34 s.data.toList (i + 1) = none ∧ Tk.one denM (s.data.toList.drop i) = none)
    ∨ ∃ m q, Lt.ends 34 s.data.toList (i + 1) = some m ∧ i + 1 ≤ m ∧ m ≤ s.size ∧ s.extract i m = str8 q ∧ q.length ≤ s.size ∧
      ((Lt.litB 34 q = false ∧ Tk.one denM (s.data.toList.drop i) = none) ∨ (Lt.litB 34 q = true ∧ 120 < (Lt.litL 34 q).length ∧ Tk.one denM (s.data.toList.drop i) = none)
        ∨ (Lt.litB 34 q = true ∧ (Lt.litL 34 q).length ≤ 120 ∧ Tk.one denM (s.data.toList.drop i) = some (4, Lt.litL 34 q, m - i))) := by
  have hdrop : s.data.toList.drop i = 34 :: s.data.toList.drop (i + 1) := by rw [List.drop_eq_getElem_cons (show i < s.data.toList.length from hi)]; congr 1
  rw [hdrop, one_str]
  rcases end_cases 34 (.inl rfl) s i hi with ⟨h1, h2⟩ | ⟨m, n, h1, h2, h3, h4, h5, h6⟩
  · left; exact ⟨h1, by rw [h2]; rfl⟩
  · right
    rw [hb] at h6
    have hz : (34 :: (s.data.toList.drop (i + 1)).take n).length ≤ s.size := by
      rw [List.length_cons, List.length_take]; omega
    refine ⟨m, _, h1, h4, h5, h6, hz, ?_⟩
    have e : ((some n).bind fun k => (denM.str (34 :: (s.data.toList.drop (i + 1)).take k)).map fun t => ((4 : Nat), t, k + 1)) = (denM.str (34 :: (s.data.toList.drop (i + 1)).take n)).map fun t => ((4 : Nat), t, m - i) := by
      show (denM.str _).map (fun t => ((4 : Nat), t, n + 1)) = _
      rw [h3]
    rw [h2, e]
    clear e
    generalize (34 : UInt8) :: (s.data.toList.drop (i + 1)).take n = q
    have e2 : denM.str q = if Lt.litB 34 q = true ∧ (Lt.litL 34 q).length ≤ 120 then some (Lt.litL 34 q) else none := rfl
    rw [e2]
    cases hl : Lt.litB 34 q
    · left; exact ⟨rfl, by rw [if_neg (by simp)]; rfl⟩
    · right
      by_cases h8 : (Lt.litL 34 q).length ≤ 120
      · right; exact ⟨rfl, h8, by rw [if_pos ⟨rfl, h8⟩]; rfl⟩
      · left; exact ⟨rfl, by omega, by rw [if_neg (fun h => h8 h.2)]; rfl⟩
theorem set_cases (s : ByteArray) (i : Nat) (hi : i < s.size) (hb : s[i] = 39) : (Lt.ends 39 s.data.toList (i + 1) = none ∧ Tk.one denM (s.data.toList.drop i) = none)
    ∨ ∃ m q, Lt.ends 39 s.data.toList (i + 1) = some m ∧ i + 1 ≤ m ∧ m ≤ s.size ∧ s.extract i m = str8 q ∧ q.length ≤ s.size ∧
      ((ucB q = false ∧ Tk.one denM (s.data.toList.drop i) = none) ∨ (ucB q = true ∧ Tk.one denM (s.data.toList.drop i) = some (5, (txt (Cs.text (ucL q) (ucH q))).data.toList, m - i))) := by
  have hdrop : s.data.toList.drop i = 39 :: s.data.toList.drop (i + 1) := by rw [List.drop_eq_getElem_cons (show i < s.data.toList.length from hi)]; congr 1
  rw [hdrop, one_set]
  rcases end_cases 39 (.inr rfl) s i hi with ⟨h1, h2⟩ | ⟨m, n, h1, h2, h3, h4, h5, h6⟩
  · left; exact ⟨h1, by rw [h2]; rfl⟩
  · right
    rw [hb] at h6
    have hz : (39 :: (s.data.toList.drop (i + 1)).take n).length ≤ s.size := by
      rw [List.length_cons, List.length_take]; omega
    refine ⟨m, _, h1, h4, h5, h6, hz, ?_⟩
    have e : ((some n).bind fun k => (denM.set (39 :: (s.data.toList.drop (i + 1)).take k)).map fun t => ((5 : Nat), t, k + 1)) = (denM.set (39 :: (s.data.toList.drop (i + 1)).take n)).map fun t => ((5 : Nat), t, m - i) := by
      show (denM.set _).map (fun t => ((5 : Nat), t, n + 1)) = _
      rw [h3]
    rw [h2, e]
    clear e
    generalize (39 : UInt8) :: (s.data.toList.drop (i + 1)).take n = q
    have e2 : denM.set q = if ucB q = true then some (txt (Cs.text (ucL q) (ucH q))).data.toList else none := rfl
    rw [e2]
    cases hl : ucB q
    · left; exact ⟨rfl, rfl⟩
    · right; exact ⟨rfl, rfl⟩

set_option maxRecDepth 100000 in
set_option maxHeartbeats 3200000 in
theorem one_quoted (s : ByteArray) (i : Nat) (w : World) (hs : (s.size : Int) ≤ 1048576) (hi : i < s.size) (hb : s[i] = 34) :
    Calls Tryz.prog 18 #[.string s, .int .i64 (i : Int)] w (RetOne w i (Tk.one denM (s.data.toList.drop i))) := by
  unfold RetOne
  have hout := str_cases s i hi hb
  have hi0 : (0 : Int) ≤ i := by omega
  have hii : (i : Int) < s.size := by omega
  have HL := Lib.hid (fun W => spec_letter s[i] W)
  rw [show Tk.letter s[i] = false by rw [hb]; decide] at HL
  have HD := Lib.hid (fun W => spec_digit s[i] W)
  rw [show Dec.isDig s[i] = false by rw [hb]; decide] at HD
  have HE := Lib.hid (fun W => spec_end s i W hs hi)
  unfold RetEnd at HE
  rw [hb] at HE
  have t34 : ((s[i].toNat : Int) == 34) = true := by rw [hb]; rfl
  have HF0 := Lib.hid (FreeTok.new w 0 ByteArray.empty 0 31)
  clear hb
  rcases hout with ⟨h1, ho⟩ | ⟨m, q, h1, h2, h3, h4, h5, h6⟩
  · rw [h1] at HE
    have HO := Lib.hid ho
    clear h1 ho
    unfold endV at HE
    go_enter Tryz.func18, Tryz.ntmps18
    go_wp2_with (first | (go_at_call 38; refine (HL.out _).mono ?_; rintro e w1 ⟨rfl, rfl⟩) | (go_at_call 39; refine (HD.out _).mono ?_; rintro e w1 ⟨rfl, rfl⟩) | (go_at_call 44; refine (HE.out _).mono ?_; rintro e w2 ⟨rfl, hb2⟩; have HB2 := Lib.hid (below_step (bl1 _ _) hb2); obtain ⟨⟨r0, r1, r2⟩, f0, f1, f2⟩ := HF0.out.later hb2; clear hb2))
    exact bodyPost_ret (v := .tuple #[.agg #[.int .i64 0, .string ByteArray.empty, .int .i64 0], .int .i64 (-1)]) (by simp [results, Tryz.results18, go_sem, r0, r1, r2]; rfl) rfl ⟨one_no HO.out, below_store3 HB2.out (Nat.le_refl _) _ _ _⟩
  · rw [h1] at HE
    unfold endV at HE
    have him : (i : Int) ≤ m := by omega
    have hms : (m : Int) ≤ s.size := by omega
    have HU := Lib.hid (fun W => spec_ut (str8 q) W (by rw [str8_size]; omega))
    unfold RetLit at HU
    rw [str8_list] at HU
    have HMI := Lib.hid (show i + (m - i) = m by omega)
    rcases h6 with ⟨h6, ho⟩ | ⟨h6, h7, ho⟩ | ⟨h6, h7, ho⟩
    · rw [h6] at HU
      have HO := Lib.hid ho
      generalize str8 (Lt.litL 34 q) = t at HU
      clear h1 h2 h3 h5 h6 ho
      go_enter Tryz.func18, Tryz.ntmps18
      go_wp2_with (first | (go_at_call 38; refine (HL.out _).mono ?_; rintro e w1 ⟨rfl, rfl⟩) | (go_at_call 39; refine (HD.out _).mono ?_; rintro e w1 ⟨rfl, rfl⟩) | (go_at_call 44; refine (HE.out _).mono ?_; rintro e w2 ⟨rfl, hb2⟩; have HB2 := Lib.hid (below_step (bl1 _ _) hb2); have HF2 := Lib.hid (HF0.out.later hb2); clear hb2) | (go_at_call 45; refine (HU.out _).mono ?_; rintro e w3 ⟨rfl, hb3⟩; have HB3 := Lib.hid (below_step HB2.out hb3); obtain ⟨⟨r0, r1, r2⟩, f0, f1, f2⟩ := HF2.out.later hb3; clear hb3))
      exact bodyPost_ret (v := .tuple #[.agg #[.int .i64 0, .string ByteArray.empty, .int .i64 0], .int .i64 (-1)]) (by simp [results, Tryz.results18, go_sem, r0, r1, r2]; rfl) rfl ⟨one_no HO.out, below_store3 HB3.out (Nat.le_refl _) _ _ _⟩
    · rw [h6] at HU
      have HO := Lib.hid ho
      have u1 : (120 : Int) < (str8 (Lt.litL 34 q)).size := by rw [str8_size]; omega
      generalize str8 (Lt.litL 34 q) = t at HU u1
      clear h7
      clear h1 h2 h3 h5 h6 ho
      go_enter Tryz.func18, Tryz.ntmps18
      go_wp2_with (first | (go_at_call 38; refine (HL.out _).mono ?_; rintro e w1 ⟨rfl, rfl⟩) | (go_at_call 39; refine (HD.out _).mono ?_; rintro e w1 ⟨rfl, rfl⟩) | (go_at_call 44; refine (HE.out _).mono ?_; rintro e w2 ⟨rfl, hb2⟩; have HB2 := Lib.hid (below_step (bl1 _ _) hb2); have HF2 := Lib.hid (HF0.out.later hb2); clear hb2) | (go_at_call 45; refine (HU.out _).mono ?_; rintro e w3 ⟨rfl, hb3⟩; have HB3 := Lib.hid (below_step HB2.out hb3); obtain ⟨⟨r0, r1, r2⟩, f0, f1, f2⟩ := HF2.out.later hb3; clear hb3))
      exact bodyPost_ret (v := .tuple #[.agg #[.int .i64 0, .string ByteArray.empty, .int .i64 0], .int .i64 (-1)]) (by simp [results, Tryz.results18, go_sem, r0, r1, r2]; rfl) rfl ⟨one_no HO.out, below_store3 HB3.out (Nat.le_refl _) _ _ _⟩
    · rw [h6] at HU
      have HO := Lib.hid ho
      have u1 : ¬ (120 : Int) < (str8 (Lt.litL 34 q)).size := by rw [str8_size]; omega
      obtain ⟨t, HT⟩ : ∃ t, Hid (str8 (Lt.litL 34 q) = t) := ⟨_, rfl⟩
      rw [HT.out] at HU u1
      clear h7
      clear h1 h2 h3 h5 h6 ho
      go_enter Tryz.func18, Tryz.ntmps18
      go_wp2_with (first | (go_at_call 38; refine (HL.out _).mono ?_; rintro e w1 ⟨rfl, rfl⟩) | (go_at_call 39; refine (HD.out _).mono ?_; rintro e w1 ⟨rfl, rfl⟩) | (go_at_call 44; refine (HE.out _).mono ?_; rintro e w2 ⟨rfl, hb2⟩; have HB2 := Lib.hid (below_step (bl1 _ _) hb2); have HF2 := Lib.hid (HF0.out.later hb2); clear hb2) | (go_at_call 45; refine (HU.out _).mono ?_; rintro e w3 ⟨rfl, hb3⟩; have HB3 := Lib.hid (below_step HB2.out hb3); obtain ⟨⟨r0, r1, r2⟩, f0, f1, f2⟩ := HF2.out.later hb3; clear hb3))
      exact bodyPost_ret (v := .tuple #[.agg #[.int .i64 4, .string t, .int .i64 0], .int .i64 m]) (by simp [results, Tryz.results18, go_sem, r0, r1, r2]) rfl ⟨by rw [← HT.out]; exact one_eq (k := 4) HO.out HMI.out, below_store3 HB3.out (Nat.le_refl _) _ _ _⟩

set_option maxRecDepth 100000 in
set_option maxHeartbeats 3200000 in
theorem one_cset (s : ByteArray) (i : Nat) (w : World) (hs : (s.size : Int) ≤ 1048576) (hi : i < s.size) (hb : s[i] = 39) :
    Calls Tryz.prog 18 #[.string s, .int .i64 (i : Int)] w (RetOne w i (Tk.one denM (s.data.toList.drop i))) := by
  unfold RetOne
  have hout := set_cases s i hi hb
  have hi0 : (0 : Int) ≤ i := by omega
  have hii : (i : Int) < s.size := by omega
  have HL := Lib.hid (fun W => spec_letter s[i] W)
  rw [show Tk.letter s[i] = false by rw [hb]; decide] at HL
  have HD := Lib.hid (fun W => spec_digit s[i] W)
  rw [show Dec.isDig s[i] = false by rw [hb]; decide] at HD
  have HE := Lib.hid (fun W => spec_end s i W hs hi)
  unfold RetEnd at HE
  rw [hb] at HE
  have t34 : ((s[i].toNat : Int) == 34) = false := by rw [hb]; rfl
  have t39 : ((s[i].toNat : Int) == 39) = true := by rw [hb]; rfl
  have HF0 := Lib.hid (FreeTok.new w 0 ByteArray.empty 0 31)
  clear hb
  rcases hout with ⟨h1, ho⟩ | ⟨m, q, h1, h2, h3, h4, h5, h6⟩
  · rw [h1] at HE
    have HO := Lib.hid ho
    clear h1 ho
    unfold endV at HE
    go_enter Tryz.func18, Tryz.ntmps18
    go_wp2_with (first | (go_at_call 38; refine (HL.out _).mono ?_; rintro e w1 ⟨rfl, rfl⟩) | (go_at_call 39; refine (HD.out _).mono ?_; rintro e w1 ⟨rfl, rfl⟩) | (go_at_call 44; refine (HE.out _).mono ?_; rintro e w2 ⟨rfl, hb2⟩; have HB2 := Lib.hid (below_step (bl1 _ _) hb2); obtain ⟨⟨r0, r1, r2⟩, f0, f1, f2⟩ := HF0.out.later hb2; clear hb2))
    exact bodyPost_ret (v := .tuple #[.agg #[.int .i64 0, .string ByteArray.empty, .int .i64 0], .int .i64 (-1)]) (by simp [results, Tryz.results18, go_sem, r0, r1, r2]; rfl) rfl ⟨one_no HO.out, below_store3 HB2.out (Nat.le_refl _) _ _ _⟩
  · rw [h1] at HE
    unfold endV at HE
    have him : (i : Int) ≤ m := by omega
    have hms : (m : Int) ≤ s.size := by omega
    have HU := Lib.hid (fun W => spec_uc (str8 q) W (by rw [str8_size]; omega))
    unfold RetNew at HU
    rw [str8_list] at HU
    have HMI := Lib.hid (show i + (m - i) = m by omega)
    rcases h6 with ⟨h6, ho⟩ | ⟨h6, ho⟩
    · rw [h6] at HU
      have HO := Lib.hid ho
      generalize ucL q = x at HU
      generalize ucH q = y at HU
      clear h1 h2 h3 h5 h6 ho
      go_enter Tryz.func18, Tryz.ntmps18
      go_wp2_with (first | (go_at_call 38; refine (HL.out _).mono ?_; rintro e w1 ⟨rfl, rfl⟩) | (go_at_call 39; refine (HD.out _).mono ?_; rintro e w1 ⟨rfl, rfl⟩) | (go_at_call 44; refine (HE.out _).mono ?_; rintro e w2 ⟨rfl, hb2⟩; have HB2 := Lib.hid (below_step (bl1 _ _) hb2); have HF2 := Lib.hid (HF0.out.later hb2); clear hb2) | (go_at_call 46; refine (HU.out _).mono ?_; rintro e w3 ⟨rfl, hb3⟩; have HB3 := Lib.hid ((below_step HB2.out hb3).alloc (below_step HB2.out hb3).size (.cells #[.int .i64 x, .int .i64 y] 49)); obtain ⟨⟨r0, r1, r2⟩, f0, f1, f2⟩ := (HF2.out.later hb3).later (bl1 w3 (.cells #[.int .i64 x, .int .i64 y] 49)); clear hb3))
      exact bodyPost_ret (v := .tuple #[.agg #[.int .i64 0, .string ByteArray.empty, .int .i64 0], .int .i64 (-1)]) (by simp [results, Tryz.results18, go_sem, r0, r1, r2]; rfl) rfl ⟨one_no HO.out, below_store3 HB3.out (Nat.le_refl _) _ _ _⟩
    · rw [h6] at HU
      have HO := Lib.hid ho
      have HTX := Lib.hid (fun W => spec_text (ucL q) (ucH q) W)
      unfold RetText at HTX
      obtain ⟨t, HT⟩ : ∃ t, Hid (txt (Cs.text (ucL q) (ucH q)) = t) := ⟨_, rfl⟩
      rw [HT.out] at HTX HO
      have HTT := Lib.hid (str8_data t)
      generalize ucL q = x at HU HTX
      generalize ucH q = y at HU HTX
      clear h1 h2 h3 h5 h6 ho HT
      go_enter Tryz.func18, Tryz.ntmps18
      go_wp2_with (first | (go_at_call 38; refine (HL.out _).mono ?_; rintro e w1 ⟨rfl, rfl⟩) | (go_at_call 39; refine (HD.out _).mono ?_; rintro e w1 ⟨rfl, rfl⟩) | (go_at_call 44; refine (HE.out _).mono ?_; rintro e w2 ⟨rfl, hb2⟩; have HB2 := Lib.hid (below_step (bl1 _ _) hb2); have HF2 := Lib.hid (HF0.out.later hb2); clear hb2) | (go_at_call 46; refine (HU.out _).mono ?_; rintro e w3 ⟨rfl, hb3⟩; have HB3 := Lib.hid ((below_step HB2.out hb3).alloc (below_step HB2.out hb3).size (.cells #[.int .i64 x, .int .i64 y] 49)); have HF3 := Lib.hid ((HF2.out.later hb3).later (bl1 w3 (.cells #[.int .i64 x, .int .i64 y] 49))); clear hb3) | (go_at_call 47; refine (HTX.out _).mono ?_; rintro e w4 ⟨rfl, hb4⟩; have HB4 := Lib.hid (below_step HB3.out hb4); obtain ⟨⟨r0, r1, r2⟩, f0, f1, f2⟩ := HF3.out.later hb4; clear hb4))
      exact bodyPost_ret (v := .tuple #[.agg #[.int .i64 5, .string t, .int .i64 0], .int .i64 m]) (by simp [results, Tryz.results18, go_sem, r0, r1, r2]) rfl ⟨by have h := one_eq (k := 5) HO.out HMI.out; rw [HTT.out] at h; exact h, below_store3 HB4.out (Nat.le_refl _) _ _ _⟩
end Go.Proofs.YtfhakailbikjkaaGreatDoor
/- The token that begins at a place, in the reference model: keywords. No conditions. -/
namespace Go.Proofs.YtfhakailbikjkaaGreatDoor
open Go.RowKit
set_option linter.unusedVariables false

theorem kw_cases (r : List UInt8) (hr : r.head?.map Tk.letter = some true) : (hasW Tk.keywords (r.takeWhile Tk.letter) = true ∧ Tk.one denM (38 :: r) = some (6, r.takeWhile Tk.letter, (r.takeWhile Tk.letter).length + 1))
    ∨ (hasW Tk.keywords (r.takeWhile Tk.letter) = false ∧ Tk.one denM (38 :: r) = none) := by
  simp only [Tk.one]
  rw [if_neg (by decide), if_neg (by decide), if_neg (by decide), if_neg (by decide), if_pos ⟨trivial, hr⟩]
  have e : hasW Tk.keywords (r.takeWhile Tk.letter) = Tk.isKeyword (r.takeWhile Tk.letter) := rfl
  rw [e]
  cases Tk.isKeyword (r.takeWhile Tk.letter)
  · right; exact ⟨rfl, rfl⟩
  · left; exact ⟨rfl, rfl⟩

set_option maxRecDepth 100000 in
set_option maxHeartbeats 3200000 in
theorem one_keyword (s : ByteArray) (i : Nat) (w : World) (hs : (s.size : Int) ≤ 1048576) (hi : i < s.size) (hb : s[i] = 38) (hi2 : i + 1 < s.size) (hl2 : Tk.letter s[i + 1] = true) :
    Calls Tryz.prog 18 #[.string s, .int .i64 (i : Int)] w (RetOne w i (Tk.one denM (s.data.toList.drop i))) := by
  unfold RetOne
  have hdrop : s.data.toList.drop i = 38 :: s.data.toList.drop (i + 1) := by rw [List.drop_eq_getElem_cons (show i < s.data.toList.length from hi)]; congr 1
  have hhead : (s.data.toList.drop (i + 1)).head?.map Tk.letter = some true := by
    rw [List.drop_eq_getElem_cons (show i + 1 < s.data.toList.length from hi2)]
    exact congrArg some hl2
  have hout := kw_cases (s.data.toList.drop (i + 1)) hhead
  rw [← hdrop] at hout
  obtain ⟨m0, hm0⟩ : ∃ m0, m0 = i + 1 + ((s.data.toList.drop (i + 1)).takeWhile Tk.letter).length := ⟨_, rfl⟩
  have hle := tw_le Tk.letter s.data.toList (i + 1) hi
  rw [← hm0, len8] at hle
  have HLT := Lib.hid (fun m (h1 : i + 1 ≤ m) (h2 : m < m0) => tw_lt Tk.letter s.data.toList (i + 1) m h1 (by rw [← hm0]; exact h2))
  have HEND := Lib.hid (fun h => tw_end Tk.letter s.data.toList (i + 1) m0 hm0 h)
  have hcut := tw_cut2 Tk.letter s (i + 1) m0 hm0
  have hlen : ((s.data.toList.drop (i + 1)).takeWhile Tk.letter).length + 1 = m0 - i := by omega
  rw [hlen] at hout
  have hmi : i + (m0 - i) = m0 := by omega
  generalize (s.data.toList.drop (i + 1)).takeWhile Tk.letter = T at *
  have hi0 : (0 : Int) ≤ i := by omega
  have hii : (i : Int) < s.size := by omega
  have hii2 : (i : Int) + 1 < s.size := by omega
  have him : (i : Int) + 1 ≤ m0 := by omega
  have him1 : i + 1 ≤ m0 := by omega
  have hms : (m0 : Int) ≤ s.size := by omega
  have hk0 : (0 : Int) ≤ (i : Int) + 1 := by omega
  have hkn : ((i : Int) + 1).toNat = i + 1 := by omega
  have HL := Lib.hid (fun W => spec_letter s[i] W)
  rw [show Tk.letter s[i] = false by rw [hb]; decide] at HL
  have HD := Lib.hid (fun W => spec_digit s[i] W)
  rw [show Dec.isDig s[i] = false by rw [hb]; decide] at HD
  have HL2 := Lib.hid (fun W => spec_letter s[i + 1] W)
  rw [hl2] at HL2
  have HK := Lib.hid (fun W => spec_keyword (str8 T) W)
  rw [str8_list] at HK
  have t34 : ((s[i].toNat : Int) == 34) = false := by rw [hb]; rfl
  have t39 : ((s[i].toNat : Int) == 39) = false := by rw [hb]; rfl
  have t38 : ((s[i].toNat : Int) == 38) = true := by rw [hb]; rfl
  have HF0 := Lib.hid (FreeTok.new w 0 ByteArray.empty 0 31)
  have HOUT := Lib.hid hout
  have HMI := Lib.hid hmi
  clear hb hm0 hlen hdrop hout hmi hhead hl2
  go_enter Tryz.func18, Tryz.ntmps18
  go_wp2_with (first | (go_at_call 38; with_reducible refine (HL.out _).mono ?_; rintro e w1 ⟨rfl, rfl⟩) | (go_at_call 38; with_reducible refine (HL2.out _).mono ?_; rintro e w1 ⟨rfl, rfl⟩) | (go_at_call 39; refine (HD.out _).mono ?_; rintro e w1 ⟨rfl, rfl⟩))
  go_loop [7] (fun n => ∃ m : Nat, n = .int .i64 m ∧ i + 1 ≤ m ∧ m ≤ m0) (fun n => m0 - (intOf n).toNat)
  case atStart => exact ⟨i + 1, by go_num, by omega, by omega⟩
  case round =>
    clear HL HD HL2
    obtain ⟨m, rfl, hm1, hm2⟩ := hrel
    by_cases hlt : m < m0
    · obtain ⟨hml, hid⟩ := HLT.out m hm1 hlt
      have hms2 : m < s.size := hml
      have hmsi : (m : Int) < s.size := by omega
      have hid2 : Tk.letter s[m] = true := hid
      have H1 := Lib.hid (fun W => spec_letter s[m] W)
      rw [hid2] at H1
      clear hid hid2
      go_wp2_with (go_at_call 38; refine (H1.out _).mono ?_; rintro e w3 ⟨rfl, rfl⟩)
      go_round
      case rel => exact ⟨m + 1, by go_num, by omega, by omega⟩
      case measure => first | (simp [intOf]; done) | (simp [intOf]; omega)
    · obtain rfl : m = m0 := by omega
      clear HLT
      have hstop : (∃ h : m < s.size, Tk.letter s[m] = false) ∨ m = s.size := by
        rcases Nat.lt_or_ge m s.size with h | h
        · exact .inl ⟨h, HEND.out h⟩
        · exact .inr (by omega)
      clear HEND
      rcases HOUT.out with ⟨h1, ho⟩ | ⟨h1, ho⟩
      · have HO := Lib.hid ho
        rw [h1] at HK
        clear ho h1 HOUT
        rcases hstop with ⟨h, hl⟩ | h
        · have H1 := Lib.hid (fun W => spec_letter s[m] W)
          have hmsi : (m : Int) < s.size := by omega
          rw [hl] at H1
          clear hl
          go_wp2_with (first | (go_at_call 38; refine (H1.out _).mono ?_; rintro e w3 ⟨rfl, rfl⟩) | (go_at_call 48; refine (HK.out _).mono ?_; rintro e w5 ⟨rfl, hb5⟩; have HB5 := Lib.hid (below_step (bl1 _ _) hb5); obtain ⟨⟨r0, r1, r2⟩, f0, f1, f2⟩ := HF0.out.later hb5; clear hb5))
          exact bodyPost_ret (v := .tuple #[.agg #[.int .i64 6, .string (str8 T), .int .i64 0], .int .i64 m]) (by simp [results, Tryz.results18, go_sem, r0, r1, r2]) rfl ⟨one_eq (k := 6) HO.out HMI.out, below_store3 HB5.out (Nat.le_refl _) _ _ _⟩
        · have hmsi : ¬ (m : Int) < s.size := by omega
          clear h
          go_wp2_with (first | (go_at_call 48; refine (HK.out _).mono ?_; rintro e w5 ⟨rfl, hb5⟩; have HB5 := Lib.hid (below_step (bl1 _ _) hb5); obtain ⟨⟨r0, r1, r2⟩, f0, f1, f2⟩ := HF0.out.later hb5; clear hb5))
          exact bodyPost_ret (v := .tuple #[.agg #[.int .i64 6, .string (str8 T), .int .i64 0], .int .i64 m]) (by simp [results, Tryz.results18, go_sem, r0, r1, r2]) rfl ⟨one_eq (k := 6) HO.out HMI.out, below_store3 HB5.out (Nat.le_refl _) _ _ _⟩
      · have HO := Lib.hid ho
        rw [h1] at HK
        clear ho h1 HOUT
        rcases hstop with ⟨h, hl⟩ | h
        · have H1 := Lib.hid (fun W => spec_letter s[m] W)
          have hmsi : (m : Int) < s.size := by omega
          rw [hl] at H1
          clear hl
          go_wp2_with (first | (go_at_call 38; refine (H1.out _).mono ?_; rintro e w3 ⟨rfl, rfl⟩) | (go_at_call 48; refine (HK.out _).mono ?_; rintro e w5 ⟨rfl, hb5⟩; have HB5 := Lib.hid (below_step (bl1 _ _) hb5); obtain ⟨⟨r0, r1, r2⟩, f0, f1, f2⟩ := HF0.out.later hb5; clear hb5))
          exact bodyPost_ret (v := .tuple #[.agg #[.int .i64 0, .string ByteArray.empty, .int .i64 0], .int .i64 (-1)]) (by simp [results, Tryz.results18, go_sem, r0, r1, r2]; rfl) rfl ⟨one_no HO.out, below_store3 HB5.out (Nat.le_refl _) _ _ _⟩
        · have hmsi : ¬ (m : Int) < s.size := by omega
          clear h
          go_wp2_with (first | (go_at_call 48; refine (HK.out _).mono ?_; rintro e w5 ⟨rfl, hb5⟩; have HB5 := Lib.hid (below_step (bl1 _ _) hb5); obtain ⟨⟨r0, r1, r2⟩, f0, f1, f2⟩ := HF0.out.later hb5; clear hb5))
          exact bodyPost_ret (v := .tuple #[.agg #[.int .i64 0, .string ByteArray.empty, .int .i64 0], .int .i64 (-1)]) (by simp [results, Tryz.results18, go_sem, r0, r1, r2]; rfl) rfl ⟨one_no HO.out, below_store3 HB5.out (Nat.le_refl _) _ _ _⟩
end Go.Proofs.YtfhakailbikjkaaGreatDoor
