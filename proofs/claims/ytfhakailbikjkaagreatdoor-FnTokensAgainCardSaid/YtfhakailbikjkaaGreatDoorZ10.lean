/- Joined texts: K11, R7, R8, R9, R10. No conditions besides those that each states. -/
import Derived.Deep.QuietTactic
import Derived.BigQuiet
import Derived.IntWalk
import Derived.Test.YtfhakailbikjkaaGreatDoorZ5
import Derived.Test.YtfhakailbikjkaaGreatDoorZ8
import Derived.Test.YtfhakailbikjkaaGreatDoorZ9
/- The token that begins at a place, in the reference model: operators. No conditions. -/
namespace Go.Proofs.YtfhakailbikjkaaGreatDoor
open Go.RowKit
set_option linter.unusedVariables false

theorem find_yes {α : Type} (l : List α) (P : α → Bool) (d : α) (k : Nat) (hk : k < l.length) (hn : (l.take k).find? P = none) (h : P (l.getD k d) = true) : l.find? P = some (l.getD k d) := by
  have e : l = l.take k ++ l.getD k d :: l.drop (k + 1) := by
    rw [List.getD_eq_getElem?_getD, List.getElem?_eq_getElem hk, Option.getD_some, ← List.drop_eq_getElem_cons hk, List.take_append_drop]
  generalize l.getD k d = x at e h
  rw [e, List.find?_append, hn, List.find?_cons, h]; rfl
theorem find_next {α : Type} (l : List α) (P : α → Bool) (d : α) (k : Nat) (hk : k < l.length) (hn : (l.take k).find? P = none) (h : P (l.getD k d) = false) : (l.take (k + 1)).find? P = none := by
  rw [List.take_succ_eq_append_getElem hk, List.find?_append, hn]
  rw [List.getD_eq_getElem?_getD, List.getElem?_eq_getElem hk, Option.getD_some] at h
  rw [List.find?_cons, h]; rfl
theorem words_drewN {w : World} {g : Nat} {l : List (List UInt8)} (h : Words w g l) (n : Nat) : Words (w.drewN n) g l := by
  induction n with
  | zero => exact h
  | succ n ih => exact ih
theorem FreeTok.drewN {w : World} {b : Nat} {k l : Int} {t : ByteArray} (h : FreeTok w b k t l) (n : Nat) : FreeTok (w.drewN n) b k t l := by
  induction n with
  | zero => exact h
  | succ n ih => exact ih
theorem pre_take (o S : List UInt8) : o.isPrefixOf S = (S.take o.length == o) := by
  rw [Bool.eq_iff_iff, List.isPrefixOf_iff_prefix, beq_iff_eq, List.prefix_iff_eq_take]
  exact eq_comm
theorem pre_long (o S : List UInt8) (h : S.length < o.length) : o.isPrefixOf S = false := by
  rw [Bool.eq_false_iff, ne_eq, List.isPrefixOf_iff_prefix]
  intro hp
  have := hp.length_le
  omega
theorem op_one (b : UInt8) (r : List UInt8) (h1 : Tk.letter b = false) (h2 : Dec.isDig b = false) (h3 : b ≠ 34) (h4 : b ≠ 39) (h5 : ¬ (b = 38 ∧ r.head?.map Tk.letter = some true)) :
    Tk.one denM (b :: r) = (Tk.operators.find? fun o => o.isPrefixOf (b :: r)).map fun o => (7, o, o.length) := by
  simp only [Tk.one]
  rw [if_neg (by rw [h1]; decide), if_neg (by rw [h2]; decide), if_neg h3, if_neg h4, if_neg h5]
theorem op_yes {S : List UInt8} {o : List UInt8} {x : Option (Nat × List UInt8 × Nat)} (hx : x = (Tk.operators.find? fun o => o.isPrefixOf S).map fun o => (7, o, o.length)) (h : (Tk.operators.find? fun o => o.isPrefixOf S) = some o) : x = some (7, o, o.length) := by rw [hx, h]; rfl
theorem op_no {S : List UInt8} {x : Option (Nat × List UInt8 × Nat)} (hx : x = (Tk.operators.find? fun o => o.isPrefixOf S).map fun o => (7, o, o.length)) (h : (Tk.operators.find? fun o => o.isPrefixOf S) = none) : x = none := by rw [hx, h]; rfl
theorem ops_small : ∀ o ∈ Tk.operators, o.length ≤ 5 := by decide
theorem ops_at (k : Nat) (h : k < 62) : (Tk.operators.getD k []).length ≤ 5 := by
  rw [List.getD_eq_getElem?_getD, List.getElem?_eq_getElem (show k < Tk.operators.length from h), Option.getD_some]
  exact ops_small _ (List.getElem_mem _)
theorem cut_op (s : ByteArray) (i : Nat) (o : List UInt8) : s.extract i (i + o.length) = str8 ((s.data.toList.drop i).take o.length) := by
  apply str8_inj
  simp only [ByteArray.data_extract, Array.toList_extract, List.extract_eq_take_drop]
  rw [show i + o.length - i = o.length by omega]

theorem one_op_eq {i : Nat} {o : List UInt8} {x : Option (Nat × List UInt8 × Nat)} (h : x = some (7, o, o.length)) : Ending.returned (.tuple #[.agg #[.int .i64 7, .string (str8 o), .int .i64 0], .int .i64 ((i : Int) + o.length)]) = oneE i x := by
  subst h; rfl
theorem spec_ops2 (W : World) (n : Nat) (hn : W.heap.size = n) : Calls Tryz.prog 30 #[] W fun e w' => e = .returned (.slice (some ⟨n, 0, none⟩) 62 62) ∧ Words w' n Tk.operators ∧ Below W.heap.size W w' := by
  subst hn
  refine (spec_ops W).mono ?_
  rintro e w1 ⟨rfl, rfl⟩
  exact ⟨rfl, words_new W Tk.operators 9 _ rfl, bl1 _ _⟩
/-- Where the search stands. -/
def OpsAt (w : World) (S : List UInt8) (k : Nat) (wr : World) : Prop := (Tk.operators.take k).find? (fun o => o.isPrefixOf S) = none ∧ Words wr (w.heap.size + 1) Tk.operators ∧ FreeTok wr w.heap.size 0 ByteArray.empty 0 ∧ Below w.heap.size w wr
theorem OpsAt.next {w wr : World} {S : List UInt8} {k : Nat} (h : OpsAt w S k wr) (hk : k < 62) (hn : (Tk.operators.getD k []).isPrefixOf S = false) (n : Nat) : OpsAt w S (k + 1) (wr.drewN n) :=
  ⟨find_next _ _ [] k hk h.1 hn, words_drewN h.2.1 n, h.2.2.1.drewN n, drewN8 h.2.2.2 n⟩
theorem OpsAt.yes {w wr : World} {S : List UInt8} {k : Nat} (h : OpsAt w S k wr) (hk : k < 62) (hn : (Tk.operators.getD k []).isPrefixOf S = true) : (Tk.operators.find? fun o => o.isPrefixOf S) = some (Tk.operators.getD k []) := find_yes _ _ [] k hk h.1 hn
theorem OpsAt.no {w wr : World} {S : List UInt8} (h : OpsAt w S 62 wr) : (Tk.operators.find? fun o => o.isPrefixOf S) = none := h.1

set_option maxRecDepth 100000 in
set_option maxHeartbeats 3200000 in
theorem one_op (s : ByteArray) (i : Nat) (w : World) (hs : (s.size : Int) ≤ 1048576) (hi : i < s.size) (hl : Tk.letter s[i] = false) (hd : Dec.isDig s[i] = false) (h34 : s[i] ≠ 34) (h39 : s[i] ≠ 39)
    (hamp : s[i] ≠ 38 ∨ (s[i] = 38 ∧ s.size ≤ i + 1) ∨ (s[i] = 38 ∧ ∃ h : i + 1 < s.size, Tk.letter s[i + 1] = false)) :
    Calls Tryz.prog 18 #[.string s, .int .i64 (i : Int)] w (RetOne w i (Tk.one denM (s.data.toList.drop i))) := by
  unfold RetOne
  have hdrop : s.data.toList.drop i = s[i] :: s.data.toList.drop (i + 1) := by rw [List.drop_eq_getElem_cons (show i < s.data.toList.length from hi)]; rfl
  have hout : Tk.one denM (s.data.toList.drop i) = (Tk.operators.find? fun o => o.isPrefixOf (s.data.toList.drop i)).map fun o => (7, o, o.length) := by
    rw [hdrop]
    refine op_one _ _ hl hd h34 h39 ?_
    rintro ⟨h38, hh⟩
    rcases hamp with h | ⟨_, h⟩ | ⟨_, h, hn⟩
    · exact h h38
    · rw [List.drop_eq_nil_of_le (by rw [len8]; exact h)] at hh; cases hh
    · rw [List.drop_eq_getElem_cons (show i + 1 < s.data.toList.length from h)] at hh
      have hh2 : Tk.letter s[i + 1] = true := Option.some.inj hh
      rw [hn] at hh2; cases hh2
  have hlen : (s.data.toList.drop i).length = s.size - i := by rw [List.length_drop, len8]
  have HCUT := Lib.hid (fun o => cut_op s i o)
  have HPT := Lib.hid (fun o => pre_take o (s.data.toList.drop i))
  have HPL := Lib.hid (fun o (h : s.size - i < o.length) => pre_long o (s.data.toList.drop i) (by rw [hlen]; exact h))
  have HOUT := Lib.hid hout
  clear hout hdrop hlen
  generalize hS : s.data.toList.drop i = S at HCUT HPT HPL HOUT ⊢
  clear hS
  generalize Tk.one denM S = X at HOUT ⊢
  have hi0 : (0 : Int) ≤ i := by omega
  have hii : (i : Int) < s.size := by omega
  have HL := Lib.hid (fun W => spec_letter s[i] W)
  rw [hl] at HL
  have HD := Lib.hid (fun W => spec_digit s[i] W)
  rw [hd] at HD
  have t34 : ((s[i].toNat : Int) == 34) = false := ne8 (b := 34) h34
  have t39 : ((s[i].toNat : Int) == 39) = false := ne8 (b := 39) h39
  have HF0 := Lib.hid (FreeTok.new w 0 ByteArray.empty 0 31)
  have HSO := Lib.hid (spec_ops2 (w.alloc (.cells #[.int .i64 0, .string ByteArray.empty, .int .i64 0] 31)) (w.heap.size + 1) (by simp))
  clear hl hd h34 h39
  have hcase : (∃ v : Unit, ((s[i].toNat : Int) == 38) = false) ∨ (((s[i].toNat : Int) == 38) = true ∧ decide ((i : Int) + 1 < s.size) = false) ∨ (((s[i].toNat : Int) == 38) = true ∧ ∃ h : i + 1 < s.size, Tk.letter s[i + 1] = false) := by
    rcases hamp with h | ⟨h, h2⟩ | ⟨h, h2⟩
    · exact .inl ⟨(), ne8 (b := 38) h⟩
    · refine .inr (.inl ⟨by rw [h]; rfl, ?_⟩)
      simp; omega
    · exact .inr (.inr ⟨by rw [h]; rfl, h2⟩)
  clear hamp
  rcases hcase with ⟨_, t38⟩ | ⟨t38, hn⟩ | ⟨t38, hi2, hl2⟩
  all_goals (try (have HL2 := Lib.hid (fun W => spec_letter s[i + 1] W); rw [hl2] at HL2; have hii2 : (i : Int) + 1 < s.size := (by omega); clear hl2))
  all_goals
    go_enter Tryz.func18, Tryz.ntmps18
    go_wp2_with (first | (go_at_call 38; with_reducible refine (HL.out _).mono ?_; rintro e w1 ⟨rfl, rfl⟩) | (go_at_call 38; with_reducible refine (HL2.out _).mono ?_; rintro e w1 ⟨rfl, rfl⟩) | (go_at_call 39; refine (HD.out _).mono ?_; rintro e w1 ⟨rfl, rfl⟩) | (go_at_call 30; refine HSO.out.mono ?_; rintro e w1 ⟨rfl, hw1, hb1⟩; have HF1 := Lib.hid (HF0.out.later hb1); have HB1 := Lib.hid (below_step (bl1 _ _) hb1); have HW1 := Lib.hid hw1; clear hb1 hw1))
    clear HF0 HSO HL HD
    try clear HL2
    go_loopw [5, 16] (fun _ c wr => ∃ k : Nat, c = .int .i64 k ∧ k ≤ 62 ∧ OpsAt w S k wr) (fun _ c _ => 62 - (intOf c).toNat)
    case atStart => exact ⟨0, rfl, by omega, rfl, HW1.out, HF1.out, HB1.out⟩
    case round =>
      clear HW1 HF1 HB1
      obtain ⟨k, rfl, hk, hat⟩ := hrel
      have HAT := Lib.hid hat
      clear hat
      by_cases hlt : (k : Int) < 62
      · have hkl : k < 62 := by omega
        have hcell := HAT.out.2.1 k hkl
        have hol := ops_at k hkl
        have HNX := Lib.hid (fun h => HAT.out.next hkl h)
        have HYES := Lib.hid (fun h => HAT.out.yes hkl h)
        generalize Tk.operators.getD k [] = o at hcell hol HNX HYES
        have hsz := str8_size o
        have hx := str8_toList o
        by_cases hfit : o.length ≤ s.size - i
        · have hcut := HCUT.out o
          have hxt := str8_toList (List.take o.length S)
          have hp := HPT.out o
          have hg : decide ((o.length : Int) ≤ s.size - i) = true := dec_yes (by omega)
          have hk0 : (0 : Int) ≤ k := by omega
          have hk1 : (0 : Int) ≤ (i : Int) + o.length := by omega
          have hk2 : (i : Int) + o.length ≤ s.size := by omega
          have hk3 : (i : Int) ≤ (i : Int) + o.length := by omega
          have hk5 : i ≤ i + o.length := by omega
          have hk6 : i + o.length ≤ s.size := by omega
          have hk4 : ((i : Int) + o.length).toNat = i + o.length := by omega
          have hw1 : IntKind.i64.wrap ((s.size : Int) - i) = s.size - i := IntWalk.i64_in _ (by omega)
          have hw2 : IntKind.i64.wrap ((i : Int) + o.length) = i + o.length := IntWalk.i64_in _ (by omega)
          cases hpx : o.isPrefixOf S
          · rw [hpx] at hp
            have HNX2 := Lib.hid (HNX.out hpx)
            have u1 := hp.symm
            clear hp hpx HNX HYES HCUT HPT HPL HOUT
            go_wp2_with fail
            go_quiet (fail)
            go_wp2
            go_roundw
            case rel => exact ⟨k + 1, by go_num, by omega, HNX2.out _⟩
            case measure => first | (simp [intOf]; done) | (simp [intOf]; omega)
          · rw [hpx] at hp
            have HO := Lib.hid (op_yes HOUT.out (HYES.out hpx))
            have u1 := hp.symm
            clear hp hpx HNX HYES HCUT HPT HPL HOUT
            go_wp2_with fail
            go_quiet (fail)
            clear hxt hcut u1 hg hw1
            have HB := Lib.hid HAT.out.2.2.2
            obtain ⟨⟨r0, r1, r2⟩, f0, f1, f2⟩ := HAT.out.2.2.1
            go_wp2
            go_region
            all_goals go_wp2
            all_goals exact bodyPost_ret (v := .tuple #[.agg #[.int .i64 7, .string (str8 o), .int .i64 0], .int .i64 ((i : Int) + o.length)]) (by simp [results, Tryz.results18, go_sem, r0, r1, r2]) rfl ⟨one_op_eq HO.out, below_store3 (drewN8 HB.out _) (Nat.le_refl _) _ _ _⟩
        · have hp : o.isPrefixOf S = false := HPL.out o (by omega)
          have hg : decide ((o.length : Int) ≤ s.size - i) = false := dec_no (by omega)
          have HNX2 := Lib.hid (HNX.out hp)
          have hk0 : (0 : Int) ≤ k := by omega
          have hw1 : IntKind.i64.wrap ((s.size : Int) - i) = s.size - i := IntWalk.i64_in _ (by omega)
          clear hp HNX HYES HCUT HPT HPL HOUT hfit
          go_wp2_with fail
          go_quiet (fail)
          go_wp2
          go_roundw
          case rel => exact ⟨k + 1, by go_num, by omega, HNX2.out _⟩
          case measure => first | (simp [intOf]; done) | (simp [intOf]; omega)
      · obtain rfl : k = 62 := by omega
        have HO := Lib.hid (op_no HOUT.out HAT.out.no)
        have HB := Lib.hid HAT.out.2.2.2
        obtain ⟨⟨r0, r1, r2⟩, f0, f1, f2⟩ := HAT.out.2.2.1
        clear HCUT HPT HPL HOUT
        go_wp2
        exact bodyPost_ret (v := .tuple #[.agg #[.int .i64 0, .string ByteArray.empty, .int .i64 0], .int .i64 (-1)]) (by simp [results, Tryz.results18, go_sem, r0, r1, r2]; rfl) rfl ⟨one_no HO.out, below_store3 HB.out (Nat.le_refl _) _ _ _⟩
end Go.Proofs.YtfhakailbikjkaaGreatDoor
/- The program's readers of tokens: what each answers, the ways of each, integers, words. No conditions. -/
namespace Go.Proofs.YtfhakailbikjkaaGreatDoor
open Go.RowKit
set_option linter.unusedVariables false

/-- What a reader answers: kind, text, size. -/
def tkK : Option (Nat × List UInt8 × Nat) → Int
  | none => 0
  | some x => x.1
def tkT : Option (Nat × List UInt8 × Nat) → ByteArray
  | none => ByteArray.empty
  | some x => str8 x.2.1
def tkN : Option (Nat × List UInt8 × Nat) → Int
  | none => 0
  | some x => x.2.2
def tkE (o : Option (Nat × List UInt8 × Nat)) : Ending := .returned (.tuple #[.agg #[.int .i64 (tkK o), .string (tkT o), .int .i64 0], .int .i64 (tkN o)])
def RetTk (w : World) (o : Option (Nat × List UInt8 × Nat)) (e : Ending) (w' : World) : Prop := e = tkE o ∧ Below w.heap.size w w'
theorem tk_no {o : Option (Nat × List UInt8 × Nat)} (h : o = none) : Ending.returned (.tuple #[.agg #[.int .i64 0, .string ByteArray.empty, .int .i64 0], .int .i64 0]) = tkE o := by subst h; rfl
theorem tk_yes {o : Option (Nat × List UInt8 × Nat)} {k n : Nat} {T : List UInt8} {z : Int} (h : o = some (k, T, n)) (hz : z = n) : Ending.returned (.tuple #[.agg #[.int .i64 (k : Int), .string (str8 T), .int .i64 0], .int .i64 z]) = tkE o := by subst h hz; rfl

theorem cut_tw (p : UInt8 → Bool) (s : ByteArray) : s.extract 0 (s.data.toList.takeWhile p).length = str8 (s.data.toList.takeWhile p) := by
  have h := tw_cut2 p s 0 (s.data.toList.takeWhile p).length (by rw [List.drop_zero, Nat.zero_add])
  rw [List.drop_zero] at h; exact h
theorem tw_size (p : UInt8 → Bool) (s : ByteArray) : (s.data.toList.takeWhile p).length ≤ s.size := (List.takeWhile_sublist p).length_le
theorem head_tail (s : ByteArray) (h0 : 0 < s.size) : s.data.toList = s[0] :: s.data.toList.drop 1 := List.drop_eq_getElem_cons (show 0 < s.data.toList.length from h0)
theorem tw_head {p : UInt8 → Bool} (s : ByteArray) (h0 : 0 < s.size) (hp : p s[0] = true) : s.data.toList.takeWhile p = s[0] :: (s.data.toList.drop 1).takeWhile p := by
  have h := congrArg (List.takeWhile p) (head_tail s h0)
  rw [List.takeWhile_cons, if_pos hp] at h; exact h
theorem it_dok (b : UInt8) (l : List UInt8) (hb : Dec.isDig b = true) : itB (b :: l) = Dec.dok 12 (b :: l) ∧ itV (b :: l) = Dec.dvv 12 (b :: l) := by
  have h1 : b ≠ 45 := by rintro rfl; exact absurd hb (by decide)
  have h2 : b ≠ 43 := by rintro rfl; exact absurd hb (by decide)
  have e : itD (b :: l) = b :: l := by
    unfold itD
    rw [if_neg]
    rintro (h | h)
    · exact h1 (Option.some.inj h)
    · exact h2 (Option.some.inj h)
  have e2 : itN (b :: l) = false := by unfold itN; simpa using h1
  unfold itB itV
  rw [e, e2]
  exact ⟨rfl, if_neg (by decide)⟩
/-- The ways of an integer. -/
theorem int_ways (s : ByteArray) (h0 : 0 < s.size) (hb : Dec.isDig s[0] = true) : ∃ W, s.data.toList.takeWhile Tk.idb = W ∧ s.extract 0 W.length = str8 W ∧ W.length ≤ s.size ∧
    ((Dec.dok 12 W = true ∧ Tk.one denM s.data.toList = some (3, Dec.fmt (Dec.dvv 12 W), W.length)) ∨ (Dec.dok 12 W = false ∧ Tk.one denM s.data.toList = none)) := by
  refine ⟨_, rfl, cut_tw _ s, tw_size _ s, ?_⟩
  have h1 := int_cases s[0] (s.data.toList.drop 1) hb
  obtain ⟨e1, e2⟩ := it_dok s[0] ((s.data.toList.drop 1).takeWhile Tk.idb) hb
  rw [← head_tail s h0, e1, e2, ← tw_head s h0 (dig_idb hb)] at h1
  have e3 : ((s.data.toList.drop 1).takeWhile Tk.idb).length + 1 = (s.data.toList.takeWhile Tk.idb).length := by rw [tw_head s h0 (dig_idb hb), List.length_cons]
  rw [e3] at h1
  exact h1
theorem letter_idb {b : UInt8} (h : Tk.letter b = true) : Tk.idb b = true := by unfold Tk.idb; rw [h]; rfl
/-- The ways of a word. -/
theorem word_ways (s : ByteArray) (h0 : 0 < s.size) (hb : Tk.letter s[0] = true) : ∃ W, s.data.toList.takeWhile Tk.idb = W ∧ s.extract 0 W.length = str8 W ∧ W.length ≤ s.size ∧
    ((hasW Tk.reserved W = true ∧ Tk.one denM s.data.toList = some (2, W, W.length)) ∨ (hasW Tk.reserved W = false ∧ Tk.isName W = true ∧ Tk.one denM s.data.toList = some (1, W, W.length))
      ∨ (hasW Tk.reserved W = false ∧ Tk.isName W = false ∧ Tk.one denM s.data.toList = none)) := by
  refine ⟨_, rfl, cut_tw _ s, tw_size _ s, ?_⟩
  have h1 := word_cases s[0] (s.data.toList.drop 1) hb
  have e3 : ((s.data.toList.drop 1).takeWhile Tk.idb).length + 1 = (s.data.toList.takeWhile Tk.idb).length := by rw [tw_head s h0 (letter_idb hb), List.length_cons]
  rw [← head_tail s h0, ← tw_head s h0 (letter_idb hb), e3] at h1
  exact h1
theorem cut_at (s : ByteArray) (z : Nat) : s.extract 0 z = str8 (s.data.toList.take z) := by
  apply str8_inj
  simp only [ByteArray.data_extract, Array.toList_extract, List.extract_eq_take_drop]
  rw [List.drop_zero, Nat.sub_zero]
theorem litZ_at (s : ByteArray) (h0 : 0 < s.size) (hd : (92 : UInt8) ≠ s[0]) : litZ s.data.toList = Tk.endP s[0] (s.data.toList.drop 1) + 1 ∧ litZ s.data.toList ≤ s.size ∧ s.data.toList.take (litZ s.data.toList) = s[0] :: (s.data.toList.drop 1).take (Tk.endP s[0] (s.data.toList.drop 1)) := by
  have e : litZ s.data.toList = Tk.endP s[0] (s.data.toList.drop 1) + 1 := by
    have h := congrArg litZ (head_tail s h0)
    exact h
  have h2 := Tk.endP_le hd _ (s.data.toList.drop 1) (Nat.le_refl _)
  rw [List.length_drop, len8] at h2
  refine ⟨e, by omega, ?_⟩
  rw [e]
  have h := congrArg (List.take (Tk.endP s[0] (s.data.toList.drop 1) + 1)) (head_tail s h0)
  rw [List.take_succ_cons] at h; exact h
/-- The ways of a quoted text. -/
theorem text_ways (s : ByteArray) (h0 : 0 < s.size) (hb : s[0] = 34) : ∃ q, litZ s.data.toList = q.length ∧ s.extract 0 q.length = str8 q ∧ q.length ≤ s.size ∧
    ((Lt.litB 34 q = false ∧ Tk.one denM s.data.toList = none) ∨ (Lt.litB 34 q = true ∧ 120 < (Lt.litL 34 q).length ∧ Tk.one denM s.data.toList = none)
      ∨ (Lt.litB 34 q = true ∧ (Lt.litL 34 q).length ≤ 120 ∧ Tk.one denM s.data.toList = some (4, Lt.litL 34 q, q.length))) := by
  obtain ⟨e1, e2, e3⟩ := litZ_at s h0 (by rw [hb]; decide)
  have hz : (s.data.toList.take (litZ s.data.toList)).length = litZ s.data.toList := by rw [List.length_take, len8]; omega
  refine ⟨s.data.toList.take (litZ s.data.toList), hz.symm, by rw [hz]; exact cut_at s _, by rw [hz]; exact e2, ?_⟩
  rw [hz, e3]
  rw [hb] at e1 e3 ⊢
  have ht := head_tail s h0
  rw [hb] at ht
  have hone : Tk.one denM s.data.toList = Tk.one denM (34 :: s.data.toList.drop 1) := congrArg _ ht
  rw [hone, e1]
  generalize s.data.toList.drop 1 = r
  rw [one_str]
  cases he : Lt.endL 34 r with
  | none =>
    left
    exact ⟨(Lt.lit_none (Tk.lit_noend (.inl rfl) r he)).1, rfl⟩
  | some n =>
    have e4 := Tk.endP_some (d := 34) (by decide) _ r n (Nat.le_refl _) he
    rw [e4]
    show _ ∨ _ ∨ _
    have e5 : ((some n).bind fun k => (denM.str (34 :: r.take k)).map fun t => ((4 : Nat), t, k + 1)) = (denM.str (34 :: r.take n)).map fun t => ((4 : Nat), t, n + 1) := rfl
    rw [e5]
    generalize (34 : UInt8) :: r.take n = q
    have e2 : denM.str q = if Lt.litB 34 q = true ∧ (Lt.litL 34 q).length ≤ 120 then some (Lt.litL 34 q) else none := rfl
    rw [e2]
    cases hl : Lt.litB 34 q
    · left; exact ⟨rfl, by rw [if_neg (by simp)]; rfl⟩
    · right
      by_cases h8 : (Lt.litL 34 q).length ≤ 120
      · right; exact ⟨rfl, h8, by rw [if_pos ⟨rfl, h8⟩]; rfl⟩
      · left; exact ⟨rfl, by omega, by rw [if_neg (fun h => h8 h.2)]; rfl⟩
/-- The ways of a quoted set. -/
theorem cset_ways (s : ByteArray) (h0 : 0 < s.size) (hb : s[0] = 39) : ∃ q, litZ s.data.toList = q.length ∧ s.extract 0 q.length = str8 q ∧ q.length ≤ s.size ∧
    ((ucB q = false ∧ Tk.one denM s.data.toList = none) ∨ (ucB q = true ∧ Tk.one denM s.data.toList = some (5, (txt (Cs.text (ucL q) (ucH q))).data.toList, q.length))) := by
  obtain ⟨e1, e2, e3⟩ := litZ_at s h0 (by rw [hb]; decide)
  have hz : (s.data.toList.take (litZ s.data.toList)).length = litZ s.data.toList := by rw [List.length_take, len8]; omega
  refine ⟨s.data.toList.take (litZ s.data.toList), hz.symm, by rw [hz]; exact cut_at s _, by rw [hz]; exact e2, ?_⟩
  rw [hz, e3]
  rw [hb] at e1 e3 ⊢
  have ht := head_tail s h0
  rw [hb] at ht
  have hone : Tk.one denM s.data.toList = Tk.one denM (39 :: s.data.toList.drop 1) := congrArg _ ht
  rw [hone, e1]
  generalize s.data.toList.drop 1 = r
  rw [one_set]
  cases he : Lt.endL 39 r with
  | none =>
    left
    refine ⟨?_, rfl⟩
    unfold ucB
    rw [(Lt.lit_none (Tk.lit_noend (.inr rfl) r he)).1]; rfl
  | some n =>
    have e4 := Tk.endP_some (d := 39) (by decide) _ r n (Nat.le_refl _) he
    rw [e4]
    have e5 : ((some n).bind fun k => (denM.set (39 :: r.take k)).map fun t => ((5 : Nat), t, k + 1)) = (denM.set (39 :: r.take n)).map fun t => ((5 : Nat), t, n + 1) := rfl
    rw [e5]
    generalize (39 : UInt8) :: r.take n = q
    have e2 : denM.set q = if ucB q = true then some (txt (Cs.text (ucL q) (ucH q))).data.toList else none := rfl
    rw [e2]
    cases ucB q
    · left; exact ⟨rfl, rfl⟩
    · right; exact ⟨rfl, rfl⟩
/-- The ways of a keyword. -/
theorem key_ways (s : ByteArray) (h0 : 1 < s.size) (hb : s[0] = 38) (hl : Tk.letter s[1] = true) : ∃ T, (s.data.toList.drop 1).takeWhile Tk.letter = T ∧ s.extract 1 (T.length + 1) = str8 T ∧ T.length + 1 ≤ s.size ∧
    ((hasW Tk.keywords T = true ∧ Tk.one denM s.data.toList = some (6, T, T.length + 1)) ∨ (hasW Tk.keywords T = false ∧ Tk.one denM s.data.toList = none)) := by
  have ht := head_tail s (by omega)
  rw [hb] at ht
  have hone : Tk.one denM s.data.toList = Tk.one denM (38 :: s.data.toList.drop 1) := congrArg _ ht
  have hle := tw_le Tk.letter s.data.toList 1 (show 1 ≤ s.size by omega)
  rw [len8] at hle
  refine ⟨_, rfl, ?_, by omega, ?_⟩
  · exact tw_cut2 Tk.letter s 1 _ (by omega)
  · rw [hone]
    refine kw_cases _ ?_
    rw [List.drop_eq_getElem_cons (show 1 < s.data.toList.length from h0)]
    exact congrArg some hl
/-- The ways of what is an operator or nothing. -/
theorem op_ways (s : ByteArray) (h0 : 0 < s.size) (hl : Tk.letter s[0] = false) (hd : Dec.isDig s[0] = false) (h34 : s[0] ≠ 34) (h39 : s[0] ≠ 39) (h38 : ¬ (s[0] = 38 ∧ ∃ h : 1 < s.size, Tk.letter s[1] = true)) :
    Tk.one denM s.data.toList = (Tk.opF s.data.toList (min 5 s.size)).map fun o => (7, o, o.length) := by
  have ht := head_tail s h0
  have h1 := op_one s[0] (s.data.toList.drop 1) hl hd h34 h39 (by
    rintro ⟨h2, h3⟩
    refine h38 ⟨h2, ?_⟩
    rcases Nat.lt_or_ge 1 s.size with h4 | h4
    · refine ⟨h4, ?_⟩
      rw [List.drop_eq_getElem_cons (show 1 < s.data.toList.length from h4)] at h3
      exact Option.some.inj h3
    · rw [List.drop_eq_nil_of_le (show s.data.toList.length ≤ 1 from h4)] at h3; cases h3)
  rw [← ht, Tk.op_longest, len8] at h1
  exact h1
end Go.Proofs.YtfhakailbikjkaaGreatDoor
/- The program's readers of tokens: their walks. No conditions. -/
namespace Go.Proofs.YtfhakailbikjkaaGreatDoor
open Go.RowKit
set_option linter.unusedVariables false

set_option maxHeartbeats 1600000 in
theorem read_int (s : ByteArray) (w : World) (hs : (s.size : Int) ≤ 1048576) (h0 : 0 < s.size) (hb : Dec.isDig s[0] = true) : Calls Tryz.prog 58 #[.string s] w (RetTk w (Tk.one denM s.data.toList)) := by
  unfold RetTk
  obtain ⟨W, hW, hcut, hle, hw⟩ := int_ways s h0 hb
  have HP := Lib.hid (fun V => impl_prefix_word s V hs)
  rw [hW] at HP
  have hsz := str8_size W
  have hwl : (W.length : Int) ≤ s.size := by omega
  have HF0 := Lib.hid (FreeTok.new w 0 ByteArray.empty 0 31)
  have HD := Lib.hid (fun V => call_dig W V (by omega))
  clear hW hb
  rcases hw with ⟨hd, ho⟩ | ⟨hd, ho⟩
  · have HO := Lib.hid ho
    rw [hd] at HD
    have hbd := dvv_bound W
    have HFM := Lib.hid (fun V => impl_fmt (Dec.dvv 12 W) V (by omega) (by omega))
    have HSTR : Hid ((⟨(Dec.fmt (Dec.dvv 12 W)).toArray⟩ : ByteArray) = str8 (Dec.fmt (Dec.dvv 12 W))) := rfl
    generalize Tk.one denM s.data.toList = o at HO ⊢
    clear hd ho hbd
    rw [HSTR.out] at HFM
    generalize Dec.fmt (Dec.dvv 12 W) = X at HO HFM
    generalize Dec.dvv 12 W = y at HD HFM
    clear HSTR
    go_enter Tryz.func58, Tryz.ntmps58
    go_wp2_with (first | (go_at_call 73; refine (HP.out _).mono ?_; rintro e w1 ⟨rfl, rfl⟩) | (go_at_call 75; refine (HD.out _).mono ?_; rintro e w2 ⟨rfl, rfl⟩) | (go_at_call 76; refine (HFM.out _).mono ?_; rintro e w3 ⟨rfl, hb3⟩; have HB3 := Lib.hid (below_step (bl1 _ _) hb3); obtain ⟨⟨r0, r1, r2⟩, f0, f1, f2⟩ := HF0.out.later hb3; clear hb3))
    exact bodyPost_ret (v := .tuple #[.agg #[.int .i64 3, .string (str8 X), .int .i64 0], .int .i64 W.length]) (by simp [results, Tryz.results58, go_sem, r0, r1, r2]; try rfl) rfl ⟨tk_yes (k := 3) HO.out rfl, below_store3 HB3.out (Nat.le_refl _) _ _ _⟩
  · have HO := Lib.hid ho
    rw [hd] at HD
    generalize Tk.one denM s.data.toList = o at HO ⊢
    clear hd ho
    generalize Dec.dvv 12 W = y at HD
    have HB3 := Lib.hid (bl1 w (.cells #[.int .i64 0, .string ByteArray.empty, .int .i64 0] 31))
    go_enter Tryz.func58, Tryz.ntmps58
    go_wp2_with (first | (go_at_call 73; refine (HP.out _).mono ?_; rintro e w1 ⟨rfl, rfl⟩) | (go_at_call 75; refine (HD.out _).mono ?_; rintro e w2 ⟨rfl, rfl⟩))
    exact bodyPost_ret (v := .tuple #[.agg #[.int .i64 0, .string ByteArray.empty, .int .i64 0], .int .i64 0]) (by simp [results, Tryz.results58, go_sem]; try rfl) rfl ⟨tk_no HO.out, HB3.out⟩

set_option maxHeartbeats 1600000 in
theorem read_word (s : ByteArray) (w : World) (hs : (s.size : Int) ≤ 1048576) (h0 : 0 < s.size) (hb : Tk.letter s[0] = true) : Calls Tryz.prog 60 #[.string s] w (RetTk w (Tk.one denM s.data.toList)) := by
  unfold RetTk
  obtain ⟨W, hW, hcut, hle, hw⟩ := word_ways s h0 hb
  have HP := Lib.hid (fun V => impl_prefix_word s V hs)
  rw [hW] at HP
  have hsz := str8_size W
  have hwl : (W.length : Int) ≤ s.size := by omega
  have HF0 := Lib.hid (FreeTok.new w 0 ByteArray.empty 0 31)
  have HC := Lib.hid (fun V => clone8 (str8 W) V (by omega))
  have HR := Lib.hid (fun V => impl_reserved (str8 W) V)
  have HN := Lib.hid (fun V => impl_name (str8 W) V (by omega))
  rw [str8_list] at HR HN
  clear hW hb
  rcases hw with ⟨hr, ho⟩ | ⟨hr, hn, ho⟩ | ⟨hr, hn, ho⟩
  · have HO := Lib.hid ho
    rw [hr] at HR
    generalize Tk.one denM s.data.toList = o at HO ⊢
    clear hr ho HN
    go_enter Tryz.func60, Tryz.ntmps60
    go_wp2_with (first | (go_at_call 73; refine (HP.out _).mono ?_; rintro e w1 ⟨rfl, rfl⟩) | (go_at_call 24; refine (HC.out _).mono ?_; rintro e w2 ⟨rfl, hb2⟩; have HB2 := Lib.hid (below_step (bl1 _ _) hb2); have HF2 := Lib.hid (HF0.out.later hb2); clear hb2) | (go_at_call 77; refine (HR.out _).mono ?_; rintro e w3 ⟨rfl, hb3⟩; have HB3 := Lib.hid (below_step HB2.out hb3); have HF3 := Lib.hid (HF2.out.later hb3); obtain ⟨⟨r0, r1, r2⟩, f0, f1, f2⟩ := HF3.out; clear hb3))
    exact bodyPost_ret (v := .tuple #[.agg #[.int .i64 2, .string (str8 W), .int .i64 0], .int .i64 W.length]) (by simp [results, Tryz.results60, go_sem, r0, r1, r2]; try rfl) rfl ⟨tk_yes (k := 2) HO.out rfl, below_store3 HB3.out (Nat.le_refl _) _ _ _⟩
  · have HO := Lib.hid ho
    rw [hr] at HR
    rw [hn] at HN
    generalize Tk.one denM s.data.toList = o at HO ⊢
    clear hr hn ho
    go_enter Tryz.func60, Tryz.ntmps60
    go_wp2_with (first | (go_at_call 73; refine (HP.out _).mono ?_; rintro e w1 ⟨rfl, rfl⟩) | (go_at_call 24; refine (HC.out _).mono ?_; rintro e w2 ⟨rfl, hb2⟩; have HB2 := Lib.hid (below_step (bl1 _ _) hb2); have HF2 := Lib.hid (HF0.out.later hb2); clear hb2) | (go_at_call 77; refine (HR.out _).mono ?_; rintro e w3 ⟨rfl, hb3⟩; have HB3 := Lib.hid (below_step HB2.out hb3); have HF3 := Lib.hid (HF2.out.later hb3); clear hb3) | (go_at_call 78; refine (HN.out _).mono ?_; rintro e w4 ⟨rfl, hb4⟩; have HB4 := Lib.hid (below_step HB3.out hb4); obtain ⟨⟨r0, r1, r2⟩, f0, f1, f2⟩ := HF3.out.later hb4; clear hb4))
    exact bodyPost_ret (v := .tuple #[.agg #[.int .i64 1, .string (str8 W), .int .i64 0], .int .i64 W.length]) (by simp [results, Tryz.results60, go_sem, r0, r1, r2]; try rfl) rfl ⟨tk_yes (k := 1) HO.out rfl, below_store3 HB4.out (Nat.le_refl _) _ _ _⟩
  · have HO := Lib.hid ho
    rw [hr] at HR
    rw [hn] at HN
    generalize Tk.one denM s.data.toList = o at HO ⊢
    clear hr hn ho
    go_enter Tryz.func60, Tryz.ntmps60
    go_wp2_with (first | (go_at_call 73; refine (HP.out _).mono ?_; rintro e w1 ⟨rfl, rfl⟩) | (go_at_call 24; refine (HC.out _).mono ?_; rintro e w2 ⟨rfl, hb2⟩; have HB2 := Lib.hid (below_step (bl1 _ _) hb2); have HF2 := Lib.hid (HF0.out.later hb2); clear hb2) | (go_at_call 77; refine (HR.out _).mono ?_; rintro e w3 ⟨rfl, hb3⟩; have HB3 := Lib.hid (below_step HB2.out hb3); have HF3 := Lib.hid (HF2.out.later hb3); clear hb3) | (go_at_call 78; refine (HN.out _).mono ?_; rintro e w4 ⟨rfl, hb4⟩; have HB4 := Lib.hid (below_step HB3.out hb4); obtain ⟨⟨r0, r1, r2⟩, f0, f1, f2⟩ := HF3.out.later hb4; clear hb4))
    exact bodyPost_ret (v := .tuple #[.agg #[.int .i64 0, .string ByteArray.empty, .int .i64 0], .int .i64 0]) (by simp [results, Tryz.results60, go_sem, r0, r1, r2]; try rfl) rfl ⟨tk_no HO.out, below_store3 HB4.out (Nat.le_refl _) _ _ _⟩

set_option maxHeartbeats 1600000 in
theorem read_text (a : Addr) (s : ByteArray) (w : World) (hS : SentAt a w) (hs : (s.size : Int) ≤ 1048576) (h0 : 0 < s.size) (hb : s[0] = 34) : Calls Tryz.prog 61 #[.string s] w (RetTk w (Tk.one denM s.data.toList)) := by
  unfold RetTk
  obtain ⟨q, hz, hcut, hle, hw⟩ := text_ways s h0 hb
  have HP := Lib.hid (fun V => lit_any s V hs h0 (by rw [hb]; decide))
  rw [hz] at HP
  have hsz := str8_size q
  have hwl : (q.length : Int) ≤ s.size := by omega
  have HF0 := Lib.hid (FreeTok.new w 0 ByteArray.empty 0 31)
  have HU := Lib.hid (impl_ut a (str8 q) _ (sentAt_below hS (bl1 w (.cells #[.int .i64 0, .string ByteArray.empty, .int .i64 0] 31))) (by omega))
  rw [str8_list] at HU
  unfold RetLit at HU
  clear hz hb hS
  rcases hw with ⟨h1, ho⟩ | ⟨h1, h2, ho⟩ | ⟨h1, h2, ho⟩
  · have HO := Lib.hid ho
    rw [h1] at HU
    generalize Tk.one denM s.data.toList = o at HO ⊢
    generalize str8 (Lt.litL 34 q) = x at HU
    clear h1 ho
    go_enter Tryz.func61, Tryz.ntmps61
    go_wp2_with (first | (go_at_call 79; refine (HP.out _).mono ?_; rintro e w1 ⟨rfl, rfl⟩) | (go_at_call 80; refine HU.out.mono ?_; rintro e w3 ⟨rfl, hb3⟩; have HB3 := Lib.hid (below_step (bl1 _ _) hb3); obtain ⟨⟨r0, r1, r2⟩, f0, f1, f2⟩ := HF0.out.later hb3; clear hb3))
    exact bodyPost_ret (v := .tuple #[.agg #[.int .i64 0, .string ByteArray.empty, .int .i64 0], .int .i64 0]) (by simp [results, Tryz.results61, go_sem, r0, r1, r2]; try rfl) rfl ⟨tk_no HO.out, below_store3 HB3.out (Nat.le_refl _) _ _ _⟩
  · have HO := Lib.hid ho
    rw [h1] at HU
    have hxs := str8_size (Lt.litL 34 q)
    have hx2 : (120 : Int) < (Lt.litL 34 q).length := by omega
    generalize Tk.one denM s.data.toList = o at HO ⊢
    generalize Lt.litL 34 q = L at HO HU hxs hx2
    clear h1 ho h2
    go_enter Tryz.func61, Tryz.ntmps61
    go_wp2_with (first | (go_at_call 79; refine (HP.out _).mono ?_; rintro e w1 ⟨rfl, rfl⟩) | (go_at_call 80; refine HU.out.mono ?_; rintro e w3 ⟨rfl, hb3⟩; have HB3 := Lib.hid (below_step (bl1 _ _) hb3); obtain ⟨⟨r0, r1, r2⟩, f0, f1, f2⟩ := HF0.out.later hb3; clear hb3))
    exact bodyPost_ret (v := .tuple #[.agg #[.int .i64 0, .string ByteArray.empty, .int .i64 0], .int .i64 0]) (by simp [results, Tryz.results61, go_sem, r0, r1, r2]; try rfl) rfl ⟨tk_no HO.out, below_store3 HB3.out (Nat.le_refl _) _ _ _⟩
  · have HO := Lib.hid ho
    rw [h1] at HU
    have hxs := str8_size (Lt.litL 34 q)
    have hx2 : ¬ (120 : Int) < (Lt.litL 34 q).length := by omega
    generalize Tk.one denM s.data.toList = o at HO ⊢
    generalize Lt.litL 34 q = L at HO HU hxs hx2
    clear h1 ho h2
    go_enter Tryz.func61, Tryz.ntmps61
    go_wp2_with (first | (go_at_call 79; refine (HP.out _).mono ?_; rintro e w1 ⟨rfl, rfl⟩) | (go_at_call 80; refine HU.out.mono ?_; rintro e w3 ⟨rfl, hb3⟩; have HB3 := Lib.hid (below_step (bl1 _ _) hb3); obtain ⟨⟨r0, r1, r2⟩, f0, f1, f2⟩ := HF0.out.later hb3; clear hb3))
    exact bodyPost_ret (v := .tuple #[.agg #[.int .i64 4, .string (str8 L), .int .i64 0], .int .i64 q.length]) (by simp [results, Tryz.results61, go_sem, r0, r1, r2]; try rfl) rfl ⟨tk_yes (k := 4) HO.out rfl, below_store3 HB3.out (Nat.le_refl _) _ _ _⟩

set_option maxHeartbeats 1600000 in
theorem read_cset (a : Addr) (s : ByteArray) (w : World) (hS : SentAt a w) (hs : (s.size : Int) ≤ 1048576) (h0 : 0 < s.size) (hb : s[0] = 39) : Calls Tryz.prog 62 #[.string s] w (RetTk w (Tk.one denM s.data.toList)) := by
  unfold RetTk
  obtain ⟨q, hz, hcut, hle, hw⟩ := cset_ways s h0 hb
  have HP := Lib.hid (fun V => lit_any s V hs h0 (by rw [hb]; decide))
  rw [hz] at HP
  have hsz := str8_size q
  have hwl : (q.length : Int) ≤ s.size := by omega
  have HF0 := Lib.hid (FreeTok.new w 0 ByteArray.empty 0 31)
  have HU := Lib.hid (impl_uc a (str8 q) _ (sentAt_below hS (bl1 w (.cells #[.int .i64 0, .string ByteArray.empty, .int .i64 0] 31))) (by omega))
  rw [str8_list] at HU
  unfold RetNew at HU
  clear hz hb hS
  rcases hw with ⟨h1, ho⟩ | ⟨h1, ho⟩
  · have HO := Lib.hid ho
    rw [h1] at HU
    generalize Tk.one denM s.data.toList = o at HO ⊢
    clear h1 ho
    go_enter Tryz.func62, Tryz.ntmps62
    go_wp2_with (first | (go_at_call 79; refine (HP.out _).mono ?_; rintro e w1 ⟨rfl, rfl⟩) | (go_at_call 81; refine HU.out.mono ?_; rintro e w3 ⟨rfl, hb3⟩; have HB3 := Lib.hid ((below_step (bl1 _ _) hb3).alloc (below_step (bl1 _ _) hb3).size (.cells #[.int .i64 (ucL q), .int .i64 (ucH q)] 49)); have HF3 := Lib.hid ((HF0.out.later hb3).later ((Below.refl _ _).alloc (Nat.le_refl _) (.cells #[.int .i64 (ucL q), .int .i64 (ucH q)] 49))); obtain ⟨⟨r0, r1, r2⟩, f0, f1, f2⟩ := HF3.out; clear hb3))
    exact bodyPost_ret (v := .tuple #[.agg #[.int .i64 0, .string ByteArray.empty, .int .i64 0], .int .i64 0]) (by simp [results, Tryz.results62, go_sem, r0, r1, r2]; try rfl) rfl ⟨tk_no HO.out, below_store3 HB3.out (Nat.le_refl _) _ _ _⟩
  · have HO := Lib.hid ho
    rw [h1] at HU
    have HT := Lib.hid (fun V => impl_text (ucL q) (ucH q) V)
    unfold RetText at HT
    have HX := Lib.hid (str8_data (txt (Cs.text (ucL q) (ucH q))))
    generalize Tk.one denM s.data.toList = o at HO ⊢
    generalize txt (Cs.text (ucL q) (ucH q)) = x at HO HT HX
    clear h1 ho
    go_enter Tryz.func62, Tryz.ntmps62
    go_wp2_with (first | (go_at_call 79; refine (HP.out _).mono ?_; rintro e w1 ⟨rfl, rfl⟩) | (go_at_call 81; refine HU.out.mono ?_; rintro e w3 ⟨rfl, hb3⟩; have HB3 := Lib.hid ((below_step (bl1 _ _) hb3).alloc (below_step (bl1 _ _) hb3).size (.cells #[.int .i64 (ucL q), .int .i64 (ucH q)] 49)); have HF3 := Lib.hid ((HF0.out.later hb3).later ((Below.refl _ _).alloc (Nat.le_refl _) (.cells #[.int .i64 (ucL q), .int .i64 (ucH q)] 49))); clear hb3) | (go_at_call 53; refine (HT.out _).mono ?_; rintro e w4 ⟨rfl, hb4⟩; have HB4 := Lib.hid (below_step HB3.out hb4); obtain ⟨⟨r0, r1, r2⟩, f0, f1, f2⟩ := HF3.out.later hb4; clear hb4))
    exact bodyPost_ret (v := .tuple #[.agg #[.int .i64 5, .string (str8 x.data.toList), .int .i64 0], .int .i64 q.length]) (by simp [results, Tryz.results62, go_sem, r0, r1, r2, HX.out]; try rfl) rfl ⟨tk_yes (k := 5) HO.out rfl, below_store3 HB4.out (Nat.le_refl _) _ _ _⟩

set_option maxHeartbeats 1600000 in
theorem read_key (s : ByteArray) (w : World) (hs : (s.size : Int) ≤ 1048576) (h0 : 1 < s.size) (hb : s[0] = 38) (hl : Tk.letter s[1] = true) : Calls Tryz.prog 63 #[.string s] w (RetTk w (Tk.one denM s.data.toList)) := by
  unfold RetTk
  obtain ⟨T, hT, hcut, hle, hw⟩ := key_ways s h0 hb hl
  have hc1 : s.extract 1 s.size = str8 (s.data.toList.drop 1) := str_cut (str8_data s).symm 1
  have h1s : (1 : Int) ≤ s.size := by omega
  have hq : ((str8 (s.data.toList.drop 1)).size : Int) ≤ 1048576 := by rw [str8_size, List.length_drop, len8]; omega
  have HP := Lib.hid (fun V => impl_prefix_letter (str8 (s.data.toList.drop 1)) V hq)
  rw [str8_list, hT] at HP
  have hsz := str8_size T
  have hwl : (T.length : Int) + 1 ≤ s.size := by omega
  have hwm : 1 + (T.length : Int) ≤ s.size := by omega
  have hwn : (1 + (T.length : Int)).toNat = T.length + 1 := by omega
  have HF0 := Lib.hid (FreeTok.new w 0 ByteArray.empty 0 31)
  have HC := Lib.hid (fun V => clone8 (str8 T) V (by omega))
  have HK := Lib.hid (fun V => impl_keyword (str8 T) V)
  rw [str8_list] at HK
  generalize str8 (s.data.toList.drop 1) = y at hc1 HP
  clear hT hb hl hq
  rcases hw with ⟨hr, ho⟩ | ⟨hr, ho⟩
  · have HO := Lib.hid ho
    rw [hr] at HK
    generalize Tk.one denM s.data.toList = o at HO ⊢
    clear hr ho
    go_enter Tryz.func63, Tryz.ntmps63
    go_wp2_with (first | (go_at_call 73; refine (HP.out _).mono ?_; rintro e w1 ⟨rfl, rfl⟩) | (go_at_call 24; refine (HC.out _).mono ?_; rintro e w2 ⟨rfl, hb2⟩; have HB2 := Lib.hid (below_step (bl1 _ _) hb2); have HF2 := Lib.hid (HF0.out.later hb2); clear hb2) | (go_at_call 82; refine (HK.out _).mono ?_; rintro e w3 ⟨rfl, hb3⟩; have HB3 := Lib.hid (below_step HB2.out hb3); obtain ⟨⟨r0, r1, r2⟩, f0, f1, f2⟩ := HF2.out.later hb3; clear hb3))
    exact bodyPost_ret (v := .tuple #[.agg #[.int .i64 6, .string (str8 T), .int .i64 0], .int .i64 (1 + T.length)]) (by simp [results, Tryz.results63, go_sem, r0, r1, r2]; try rfl) rfl ⟨tk_yes (k := 6) HO.out (by omega), below_store3 HB3.out (Nat.le_refl _) _ _ _⟩
  · have HO := Lib.hid ho
    rw [hr] at HK
    generalize Tk.one denM s.data.toList = o at HO ⊢
    clear hr ho
    go_enter Tryz.func63, Tryz.ntmps63
    go_wp2_with (first | (go_at_call 73; refine (HP.out _).mono ?_; rintro e w1 ⟨rfl, rfl⟩) | (go_at_call 24; refine (HC.out _).mono ?_; rintro e w2 ⟨rfl, hb2⟩; have HB2 := Lib.hid (below_step (bl1 _ _) hb2); have HF2 := Lib.hid (HF0.out.later hb2); clear hb2) | (go_at_call 82; refine (HK.out _).mono ?_; rintro e w3 ⟨rfl, hb3⟩; have HB3 := Lib.hid (below_step HB2.out hb3); obtain ⟨⟨r0, r1, r2⟩, f0, f1, f2⟩ := HF2.out.later hb3; clear hb3))
    exact bodyPost_ret (v := .tuple #[.agg #[.int .i64 0, .string ByteArray.empty, .int .i64 0], .int .i64 0]) (by simp [results, Tryz.results63, go_sem, r0, r1, r2]; try rfl) rfl ⟨tk_no HO.out, below_store3 HB3.out (Nat.le_refl _) _ _ _⟩
end Go.Proofs.YtfhakailbikjkaaGreatDoor
/- The program's reader of operators, and of any token. No conditions. -/
namespace Go.Proofs.YtfhakailbikjkaaGreatDoor
open Go.RowKit
set_option linter.unusedVariables false

/-- Where the look for the longest operator stands. -/
def OpAt (S : List UInt8) (z : Option (List UInt8)) (k : Nat) : Prop := z = Tk.opF S k
theorem OpAt.next {S : List UInt8} {z : Option (List UInt8)} {k : Nat} (h : OpAt S z (k + 1)) (hn : hasW Tk.operators (S.take (k + 1)) = false) : OpAt S z k := by
  unfold OpAt at h ⊢
  rw [h, Tk.opF, if_neg]
  intro e; unfold hasW at hn; rw [e] at hn; cases hn
theorem OpAt.hit {S : List UInt8} {z : Option (List UInt8)} {k : Nat} (h : OpAt S z (k + 1)) (hn : hasW Tk.operators (S.take (k + 1)) = true) : z = some (S.take (k + 1)) := by
  unfold OpAt at h
  unfold hasW at hn
  rw [h, Tk.opF, if_pos hn]
theorem OpAt.over {S : List UInt8} {z : Option (List UInt8)} (h : OpAt S z 0) : z = none := h
theorem op_none {z : Option (List UInt8)} (h : z = none) : (z.map fun o : List UInt8 => ((7 : Nat), o, o.length)) = none := by rw [h]; rfl
theorem op_some {z : Option (List UInt8)} {q : List UInt8} (h : z = some q) : (z.map fun o : List UInt8 => ((7 : Nat), o, o.length)) = some (7, q, q.length) := by rw [h]; rfl

set_option maxHeartbeats 1600000 in
theorem read_op (s : ByteArray) (w : World) (hs : (s.size : Int) ≤ 1048576) (m : Nat) (hm : m = min 5 s.size) : Calls Tryz.prog 64 #[.string s] w (RetTk w ((Tk.opF s.data.toList m).map fun o => (7, o, o.length))) := by
  unfold RetTk
  have HST : Hid (OpAt s.data.toList (Tk.opF s.data.toList m) m) := Lib.hid rfl
  generalize Tk.opF s.data.toList m = z at HST ⊢
  have hm5 : m ≤ 5 := by omega
  have hms : m ≤ s.size := by omega
  have HF0 := Lib.hid (FreeTok.new w 0 ByteArray.empty 0 31)
  have HB0 := Lib.hid (bl1 w (.cells #[.int .i64 0, .string ByteArray.empty, .int .i64 0] 31))
  go_enter Tryz.func64, Tryz.ntmps64
  go_wp2
  go_loop [4] (fun i => ∃ k : Nat, i = .int .i64 k ∧ k ≤ 5 ∧ k ≤ s.size ∧ OpAt s.data.toList z k) (fun i => (intOf i).toNat)
  case atStart =>
    exact ⟨m, by rw [hm]; simp; omega, hm5, hms, HST.out⟩
  case round =>
    clear HST
    obtain ⟨k, rfl, hk5, hks, hat⟩ := hrel
    have HAT := Lib.hid hat
    clear hat
    by_cases h0 : 0 < k
    · obtain ⟨j, rfl⟩ : ∃ j, k = j + 1 := ⟨k - 1, by omega⟩
      have hcut := cut_at s (j + 1)
      have hql : (s.data.toList.take (j + 1)).length = j + 1 := by rw [List.length_take, len8]; omega
      have hqs : ((str8 (s.data.toList.take (j + 1))).size : Int) ≤ 1048576 := by rw [str8_size, hql]; omega
      have HI := Lib.hid (fun W => impl_op (str8 (s.data.toList.take (j + 1))) W)
      have HC := Lib.hid (fun W => clone8 (str8 (s.data.toList.take (j + 1))) W hqs)
      rw [str8_list] at HI
      have j0 : (0 : Int) < (j : Int) + 1 := by omega
      have j1 : (j : Int) + 1 ≤ s.size := by omega
      have j2 : ((j : Int) + 1).toNat = j + 1 := by omega
      cases hh : hasW Tk.operators (s.data.toList.take (j + 1))
      · have HN := Lib.hid (HAT.out.next hh)
        rw [hh] at HI
        clear hh hqs hql HC HAT
        generalize str8 (s.data.toList.take (j + 1)) = x at hcut HI
        go_wp2_with (first | (go_at_call 83; refine (HI.out _).mono ?_; rintro e w1 ⟨rfl, rfl⟩))
        go_round
        case rel => exact ⟨j, by go_num, by omega, by omega, HN.out⟩
        case measure => first | (simp [intOf]; done) | (simp [intOf]; omega)
      · have HO := Lib.hid (op_some (HAT.out.hit hh))
        rw [hh] at HI
        clear hh hqs HAT
        have HQ := Lib.hid hql
        clear hql
        generalize s.data.toList.take (j + 1) = q at hcut HI HC HO HQ
        go_wp2_with (first | (go_at_call 83; refine (HI.out _).mono ?_; rintro e w1 ⟨rfl, rfl⟩) | (go_at_call 24; refine (HC.out _).mono ?_; rintro e w2 ⟨rfl, hb2⟩; have HB2 := Lib.hid (below_step (bl1 _ _) hb2); obtain ⟨⟨r0, r1, r2⟩, f0, f1, f2⟩ := HF0.out.later hb2; clear hb2))
        exact bodyPost_ret (v := .tuple #[.agg #[.int .i64 7, .string (str8 q), .int .i64 0], .int .i64 ((j : Int) + 1)]) (by simp [results, Tryz.results64, go_sem, r0, r1, r2]; try rfl) rfl ⟨tk_yes (k := 7) HO.out (by rw [HQ.out]; rfl), below_store3 HB2.out (Nat.le_refl _) _ _ _⟩
    · obtain rfl : k = 0 := by omega
      have HO := Lib.hid (op_none HAT.out.over)
      clear HAT
      go_wp2
      exact bodyPost_ret (v := .tuple #[.agg #[.int .i64 0, .string ByteArray.empty, .int .i64 0], .int .i64 0]) (by simp [results, Tryz.results64, go_sem]; try rfl) rfl ⟨tk_no HO.out, HB0.out⟩
end Go.Proofs.YtfhakailbikjkaaGreatDoor
/- The program's reader of any token. No conditions. -/
namespace Go.Proofs.YtfhakailbikjkaaGreatDoor
open Go.RowKit
set_option linter.unusedVariables false

theorem read_at {w : World} {o : Option (Nat × List UInt8 × Nat)} {f : FuncId} {s : ByteArray} (h : Calls Tryz.prog f #[.string s] w (RetTk w o)) : Calls Tryz.prog f #[.string s] w fun e w' => e = .returned (.tuple #[.agg #[.int .i64 (tkK o), .string (tkT o), .int .i64 0], .int .i64 (tkN o)]) ∧ Below w.heap.size w w' := h
set_option maxHeartbeats 3200000 in
theorem read_tok (a : Addr) (s : ByteArray) (w : World) (hS : SentAt a w) (hs : (s.size : Int) ≤ 1048576) (h0 : 0 < s.size) : Calls Tryz.prog 35 #[.string s] w (RetTk w (Tk.one denM s.data.toList)) := by
  show Calls Tryz.prog 35 #[.string s] w fun e w' => e = .returned (.tuple #[.agg #[.int .i64 (tkK (Tk.one denM s.data.toList)), .string (tkT (Tk.one denM s.data.toList)), .int .i64 0], .int .i64 (tkN (Tk.one denM s.data.toList))]) ∧ Below w.heap.size w w'
  have HF0 := Lib.hid (FreeTok.new w 0 ByteArray.empty 0 31)
  have h00 : (0 : Int) < s.size := by omega
  have HD := Lib.hid (fun V => impl_digit s[0] V)
  have HL := Lib.hid (fun V => impl_letter s[0] V)
  have HSB := Lib.hid (sentAt_below hS (bl1 w (.cells #[.int .i64 0, .string ByteArray.empty, .int .i64 0] 31)))
  clear hS
  cases hd : Dec.isDig s[0]
  · rw [hd] at HD
    cases hl : Tk.letter s[0]
    · rw [hl] at HL
      by_cases h34 : s[0] = 34
      · have t34 : ((s[0].toNat : Int) == 34) = true := by rw [h34]; rfl
        have HR := Lib.hid (read_at (read_text a s (w.alloc (.cells #[.int .i64 0, .string ByteArray.empty, .int .i64 0] 31)) HSB.out hs h0 h34))
        generalize tkK (Tk.one denM s.data.toList) = kk at HR ⊢
        generalize tkT (Tk.one denM s.data.toList) = tt at HR ⊢
        generalize tkN (Tk.one denM s.data.toList) = nn at HR ⊢
        clear hd hl h34 HSB
        go_enter Tryz.func35, Tryz.ntmps35
        go_wp2_with (first | (go_at_call 57; refine (HD.out _).mono ?_; rintro e w1 ⟨rfl, rfl⟩) | (go_at_call 59; with_reducible refine (HL.out _).mono ?_; rintro e w2 ⟨rfl, rfl⟩) | (go_at_call 61; refine HR.out.mono ?_; rintro e w3 ⟨rfl, hb3⟩; have HB3 := Lib.hid (below_step (bl1 _ _) hb3); obtain ⟨⟨r0, r1, r2⟩, f0, f1, f2⟩ := HF0.out.later hb3; clear hb3))
        exact bodyPost_ret (v := .tuple #[.agg #[.int .i64 kk, .string tt, .int .i64 0], .int .i64 nn]) (by simp [results, Tryz.results35, go_sem, r0, r1, r2]; try rfl) rfl ⟨rfl, below_store3 HB3.out (Nat.le_refl _) _ _ _⟩
      · have t34 : ((s[0].toNat : Int) == 34) = false := ne8 (b := 34) h34
        by_cases h39 : s[0] = 39
        · have t39 : ((s[0].toNat : Int) == 39) = true := by rw [h39]; rfl
          have HR := Lib.hid (read_at (read_cset a s (w.alloc (.cells #[.int .i64 0, .string ByteArray.empty, .int .i64 0] 31)) HSB.out hs h0 h39))
          generalize tkK (Tk.one denM s.data.toList) = kk at HR ⊢
          generalize tkT (Tk.one denM s.data.toList) = tt at HR ⊢
          generalize tkN (Tk.one denM s.data.toList) = nn at HR ⊢
          clear hd hl h34 h39 HSB
          go_enter Tryz.func35, Tryz.ntmps35
          go_wp2_with (first | (go_at_call 57; refine (HD.out _).mono ?_; rintro e w1 ⟨rfl, rfl⟩) | (go_at_call 59; with_reducible refine (HL.out _).mono ?_; rintro e w2 ⟨rfl, rfl⟩) | (go_at_call 62; refine HR.out.mono ?_; rintro e w3 ⟨rfl, hb3⟩; have HB3 := Lib.hid (below_step (bl1 _ _) hb3); obtain ⟨⟨r0, r1, r2⟩, f0, f1, f2⟩ := HF0.out.later hb3; clear hb3))
          exact bodyPost_ret (v := .tuple #[.agg #[.int .i64 kk, .string tt, .int .i64 0], .int .i64 nn]) (by simp [results, Tryz.results35, go_sem, r0, r1, r2]; try rfl) rfl ⟨rfl, below_store3 HB3.out (Nat.le_refl _) _ _ _⟩
        · have t39 : ((s[0].toNat : Int) == 39) = false := ne8 (b := 39) h39
          have HOP := Lib.hid (fun h => op_ways s h0 hl hd h34 h39 h)
          by_cases h38 : s[0] = 38
          · have t38 : ((s[0].toNat : Int) == 38) = true := by rw [h38]; rfl
            by_cases h1 : 1 < s.size
            · have h1i : (1 : Int) < s.size := by omega
              have HL2 := Lib.hid (fun V => impl_letter s[1] V)
              cases hl2 : Tk.letter s[1]
              · rw [hl2] at HL2
                have hop := HOP.out (by rintro ⟨_, _, h⟩; rw [hl2] at h; cases h)
                have HR := Lib.hid (read_at (hop ▸ read_op s (w.alloc (.cells #[.int .i64 0, .string ByteArray.empty, .int .i64 0] 31)) hs _ rfl))
                generalize tkK (Tk.one denM s.data.toList) = kk at HR ⊢
                generalize tkT (Tk.one denM s.data.toList) = tt at HR ⊢
                generalize tkN (Tk.one denM s.data.toList) = nn at HR ⊢
                clear hd hl h34 h39 h38 hl2 HSB HOP hop
                go_enter Tryz.func35, Tryz.ntmps35
                go_wp2_with (first | (go_at_call 57; refine (HD.out _).mono ?_; rintro e w1 ⟨rfl, rfl⟩) | (go_at_call 59; with_reducible refine (HL.out _).mono ?_; rintro e w2 ⟨rfl, rfl⟩) | (go_at_call 59; with_reducible refine (HL2.out _).mono ?_; rintro e w2 ⟨rfl, rfl⟩) | (go_at_call 64; refine HR.out.mono ?_; rintro e w3 ⟨rfl, hb3⟩; have HB3 := Lib.hid (below_step (bl1 _ _) hb3); obtain ⟨⟨r0, r1, r2⟩, f0, f1, f2⟩ := HF0.out.later hb3; clear hb3))
                exact bodyPost_ret (v := .tuple #[.agg #[.int .i64 kk, .string tt, .int .i64 0], .int .i64 nn]) (by simp [results, Tryz.results35, go_sem, r0, r1, r2]; try rfl) rfl ⟨rfl, below_store3 HB3.out (Nat.le_refl _) _ _ _⟩
              · rw [hl2] at HL2
                have HR := Lib.hid (read_at (read_key s (w.alloc (.cells #[.int .i64 0, .string ByteArray.empty, .int .i64 0] 31)) hs h1 h38 hl2))
                generalize tkK (Tk.one denM s.data.toList) = kk at HR ⊢
                generalize tkT (Tk.one denM s.data.toList) = tt at HR ⊢
                generalize tkN (Tk.one denM s.data.toList) = nn at HR ⊢
                clear hd hl h34 h39 h38 hl2 HSB HOP
                go_enter Tryz.func35, Tryz.ntmps35
                go_wp2_with (first | (go_at_call 57; refine (HD.out _).mono ?_; rintro e w1 ⟨rfl, rfl⟩) | (go_at_call 59; with_reducible refine (HL.out _).mono ?_; rintro e w2 ⟨rfl, rfl⟩) | (go_at_call 59; with_reducible refine (HL2.out _).mono ?_; rintro e w2 ⟨rfl, rfl⟩) | (go_at_call 63; refine HR.out.mono ?_; rintro e w3 ⟨rfl, hb3⟩; have HB3 := Lib.hid (below_step (bl1 _ _) hb3); obtain ⟨⟨r0, r1, r2⟩, f0, f1, f2⟩ := HF0.out.later hb3; clear hb3))
                exact bodyPost_ret (v := .tuple #[.agg #[.int .i64 kk, .string tt, .int .i64 0], .int .i64 nn]) (by simp [results, Tryz.results35, go_sem, r0, r1, r2]; try rfl) rfl ⟨rfl, below_store3 HB3.out (Nat.le_refl _) _ _ _⟩
            · have h1i : ¬ (1 : Int) < s.size := by omega
              have hop := HOP.out (by rintro ⟨_, h, _⟩; exact h1 h)
              have HR := Lib.hid (read_at (hop ▸ read_op s (w.alloc (.cells #[.int .i64 0, .string ByteArray.empty, .int .i64 0] 31)) hs _ rfl))
              generalize tkK (Tk.one denM s.data.toList) = kk at HR ⊢
              generalize tkT (Tk.one denM s.data.toList) = tt at HR ⊢
              generalize tkN (Tk.one denM s.data.toList) = nn at HR ⊢
              clear hd hl h34 h39 h38 HSB HOP hop
              go_enter Tryz.func35, Tryz.ntmps35
              go_wp2_with (first | (go_at_call 57; refine (HD.out _).mono ?_; rintro e w1 ⟨rfl, rfl⟩) | (go_at_call 59; with_reducible refine (HL.out _).mono ?_; rintro e w2 ⟨rfl, rfl⟩) | (go_at_call 64; refine HR.out.mono ?_; rintro e w3 ⟨rfl, hb3⟩; have HB3 := Lib.hid (below_step (bl1 _ _) hb3); obtain ⟨⟨r0, r1, r2⟩, f0, f1, f2⟩ := HF0.out.later hb3; clear hb3))
              exact bodyPost_ret (v := .tuple #[.agg #[.int .i64 kk, .string tt, .int .i64 0], .int .i64 nn]) (by simp [results, Tryz.results35, go_sem, r0, r1, r2]; try rfl) rfl ⟨rfl, below_store3 HB3.out (Nat.le_refl _) _ _ _⟩
          · have t38 : ((s[0].toNat : Int) == 38) = false := ne8 (b := 38) h38
            have hop := HOP.out (by rintro ⟨h, _⟩; exact h38 h)
            have HR := Lib.hid (read_at (hop ▸ read_op s (w.alloc (.cells #[.int .i64 0, .string ByteArray.empty, .int .i64 0] 31)) hs _ rfl))
            generalize tkK (Tk.one denM s.data.toList) = kk at HR ⊢
            generalize tkT (Tk.one denM s.data.toList) = tt at HR ⊢
            generalize tkN (Tk.one denM s.data.toList) = nn at HR ⊢
            clear hd hl h34 h39 h38 HSB HOP hop
            go_enter Tryz.func35, Tryz.ntmps35
            go_wp2_with (first | (go_at_call 57; refine (HD.out _).mono ?_; rintro e w1 ⟨rfl, rfl⟩) | (go_at_call 59; with_reducible refine (HL.out _).mono ?_; rintro e w2 ⟨rfl, rfl⟩) | (go_at_call 64; refine HR.out.mono ?_; rintro e w3 ⟨rfl, hb3⟩; have HB3 := Lib.hid (below_step (bl1 _ _) hb3); obtain ⟨⟨r0, r1, r2⟩, f0, f1, f2⟩ := HF0.out.later hb3; clear hb3))
            exact bodyPost_ret (v := .tuple #[.agg #[.int .i64 kk, .string tt, .int .i64 0], .int .i64 nn]) (by simp [results, Tryz.results35, go_sem, r0, r1, r2]; try rfl) rfl ⟨rfl, below_store3 HB3.out (Nat.le_refl _) _ _ _⟩
    · rw [hl] at HL
      have HR := Lib.hid (read_at (read_word s (w.alloc (.cells #[.int .i64 0, .string ByteArray.empty, .int .i64 0] 31)) hs h0 hl))
      generalize tkK (Tk.one denM s.data.toList) = kk at HR ⊢
      generalize tkT (Tk.one denM s.data.toList) = tt at HR ⊢
      generalize tkN (Tk.one denM s.data.toList) = nn at HR ⊢
      clear hd hl HSB
      go_enter Tryz.func35, Tryz.ntmps35
      go_wp2_with (first | (go_at_call 57; refine (HD.out _).mono ?_; rintro e w1 ⟨rfl, rfl⟩) | (go_at_call 59; with_reducible refine (HL.out _).mono ?_; rintro e w2 ⟨rfl, rfl⟩) | (go_at_call 60; refine HR.out.mono ?_; rintro e w3 ⟨rfl, hb3⟩; have HB3 := Lib.hid (below_step (bl1 _ _) hb3); obtain ⟨⟨r0, r1, r2⟩, f0, f1, f2⟩ := HF0.out.later hb3; clear hb3))
      exact bodyPost_ret (v := .tuple #[.agg #[.int .i64 kk, .string tt, .int .i64 0], .int .i64 nn]) (by simp [results, Tryz.results35, go_sem, r0, r1, r2]; try rfl) rfl ⟨rfl, below_store3 HB3.out (Nat.le_refl _) _ _ _⟩
  · rw [hd] at HD
    have HR := Lib.hid (read_at (read_int s (w.alloc (.cells #[.int .i64 0, .string ByteArray.empty, .int .i64 0] 31)) hs h0 hd))
    generalize tkK (Tk.one denM s.data.toList) = kk at HR ⊢
    generalize tkT (Tk.one denM s.data.toList) = tt at HR ⊢
    generalize tkN (Tk.one denM s.data.toList) = nn at HR ⊢
    clear hd HSB HL
    go_enter Tryz.func35, Tryz.ntmps35
    go_wp2_with (first | (go_at_call 57; refine (HD.out _).mono ?_; rintro e w1 ⟨rfl, rfl⟩) | (go_at_call 58; refine HR.out.mono ?_; rintro e w3 ⟨rfl, hb3⟩; have HB3 := Lib.hid (below_step (bl1 _ _) hb3); obtain ⟨⟨r0, r1, r2⟩, f0, f1, f2⟩ := HF0.out.later hb3; clear hb3))
    exact bodyPost_ret (v := .tuple #[.agg #[.int .i64 kk, .string tt, .int .i64 0], .int .i64 nn]) (by simp [results, Tryz.results35, go_sem, r0, r1, r2]; try rfl) rfl ⟨rfl, below_store3 HB3.out (Nat.le_refl _) _ _ _⟩
theorem one_kind {D : Tk.Den} {R t : List UInt8} {k n : Nat} (h : Tk.one D R = some (k, t, n)) : 1 ≤ k := by
  match R with
  | [] => cases h
  | b :: r =>
    simp only [Tk.one] at h
    split at h
    · split at h
      · cases h; omega
      · split at h
        · cases h; omega
        · cases h
    · split at h
      · cases hi : D.int (b :: r.takeWhile Tk.idb) with
        | none => rw [hi] at h; cases h
        | some x => rw [hi] at h; cases h; omega
      · split at h
        · cases he : Lt.endL 34 r with
          | none => rw [he] at h; cases h
          | some m =>
            rw [he] at h
            cases hs : D.str (b :: r.take m) with
            | none => simp [hs] at h
            | some x => simp [hs] at h; omega
        · split at h
          · cases he : Lt.endL 39 r with
            | none => rw [he] at h; cases h
            | some m =>
              rw [he] at h
              cases hs : D.set (b :: r.take m) with
              | none => simp [hs] at h
              | some x => simp [hs] at h; omega
          · split at h
            · split at h
              · cases h; omega
              · cases h
            · cases hf : Tk.operators.find? fun o => o.isPrefixOf (b :: r) with
              | none => rw [hf] at h; cases h
              | some o => rw [hf] at h; cases h; omega
end Go.Proofs.YtfhakailbikjkaaGreatDoor
