/- Joined texts: X8, R14, L3, L4, K17, R4, K16, K18, K19, D4, T2, E2, E6. No conditions besides those that each states. -/
import Derived.Test.YtfhakailbikjkaaGreatDoorShelf
import Derived.Deep.QuietTactic
import Derived.BigQuiet
import Derived.Deep.RegionLaw
import Derived.Lib.MakeNoZero
import Derived.IntWalk
import Derived.Test.YtfhakailbikjkaaGreatDoorZ2
import Derived.Test.YtfhakailbikjkaaGreatDoorZ3
import Derived.Test.YtfhakailbikjkaaGreatDoorZ4
import Derived.Test.YtfhakailbikjkaaGreatDoorZ5
import Derived.Test.YtfhakailbikjkaaGreatDoorZ7
import Derived.Test.YtfhakailbikjkaaGreatDoorZ8
import Derived.Test.YtfhakailbikjkaaGreatDoorZ9
import Derived.Test.YtfhakailbikjkaaGreatDoorZ11
import Derived.Test.YtfhakailbikjkaaGreatDoorZ12
/- The law FnExactLex: its walk, from a contract of the program's Lex. No conditions. -/
namespace Go.Proofs.YtfhakailbikjkaaGreatDoor
open Go.RowKit
set_option linter.unusedVariables false

theorem lexW_len (D : Tk.Den) : ∀ (N : Nat) (R : List UInt8) (line : Nat) (fr : Bool) (out : List Tk.Tok), R.length ≤ N → (Tk.lexW D R line fr out).2.length ≤ out.length + 2 * R.length := by
  intro N
  induction N with
  | zero =>
    intro R line fr out h
    rw [List.length_eq_zero_iff.1 (Nat.le_zero.1 h), Tk.lexW_nil]; simp
  | succ N ih =>
    intro R line fr out h
    match R with
    | [] => rw [Tk.lexW_nil]; simp
    | b :: r =>
      rw [List.length_cons] at h ⊢
      by_cases h1 : b = 10
      · rw [h1, Tk.lexW_line]
        have := ih r (line + 1) true out (by omega); omega
      · by_cases h2 : b = 32 ∨ b = 9
        · rw [Tk.lexW_blank D _ _ _ _ h2]
          have := ih r line fr out (by omega); omega
        · by_cases h4 : b = 35
          · rw [h4, Tk.lexW_note]
            have h5 := (List.dropWhile_sublist (p := fun c : UInt8 => c != 10) (l := r)).length_le
            have := ih (r.dropWhile fun c => c != 10) line fr out (by omega); omega
          · cases ho : Tk.one D (b :: r) with
            | none => rw [Tk.lexW_bad D _ _ _ _ h1 (fun e => h2 (.inl e)) (fun e => h2 (.inr e)) h4 ho]; simp
            | some y =>
              obtain ⟨k, t, n⟩ := y
              rw [Tk.lexW_tok D _ _ _ _ h1 (fun e => h2 (.inl e)) (fun e => h2 (.inr e)) h4 ho]
              have h5 := Tk.one_pos ho
              have h6 := one_le ho
              have h7 := semi_le out fr k t
              rw [List.length_cons] at h6
              have := ih ((b :: r).drop n) line false (out ++ Tk.semi out fr k t ++ [(k, t, line)]) (by rw [List.length_drop, List.length_cons]; omega)
              rw [List.length_drop, List.length_cons, List.length_append, List.length_append, List.length_singleton] at this
              omega
theorem lex_len (D : Tk.Den) (S : List UInt8) : (Tk.lex D S).2.length ≤ 12000 := by
  unfold Tk.lex
  by_cases h : 6000 < S.length
  · rw [if_pos h]; simp
  · rw [if_neg h]
    have := lexW_len D _ S 1 false [] (Nat.le_refl _)
    simp at this; omega
/-- What is owned stays so where only blocks from a later base on are written. -/
theorem ownT_far {w w0 w1 : World} {base B : Nat} {v : Value} {l : List TokB} (h : OwnT w0 base v l) (hB : w0.heap.size ≤ B) (h1 : OwnT w base v l) (hb : Below B w w1) : OwnT w1 base v l := by
  refine ⟨h1.1, ?_⟩
  rcases h1.2 with hn | ⟨g, cap, cur, hv, hg, hgg, r⟩
  · exact .inl hn
  · subst hv
    exact .inr ⟨g, cap, cur, rfl, hg, by rw [hb.block g (Nat.lt_of_lt_of_le (h.lt g rfl).2 hB)]; exact hgg, r⟩

end Go.Proofs.YtfhakailbikjkaaGreatDoor
/- The law FnExactLex: its walk. No conditions besides the sentinel's. -/
namespace Go.Proofs.YtfhakailbikjkaaGreatDoor
open Go.RowKit
set_option linter.unusedVariables false

theorem sent_below (W W' : World) (h : Sent W) (hb : Below W.heap.size W W') : Sent W' := by
  obtain ⟨a, ha⟩ := h
  exact ⟨a, sentAt_below ha hb⟩
end Go.Proofs.YtfhakailbikjkaaGreatDoor
/- Literals are written: the literal of a text, in the program and in the reference model. No conditions. -/
namespace Go.Proofs.YtfhakailbikjkaaGreatDoor
open Go.RowKit
set_option linter.unusedVariables false

theorem get8 (s : ByteArray) (k : Nat) (h : k < s.size) : s.data.toList[k]'h = s[k] := rfl
/-- The literal so far. -/
def qTo (d : UInt8) (s : ByteArray) (k : Nat) : List UInt8 := [d] ++ (s.data.toList.take k).flatMap (Lt.el d)
theorem qTo_zero (d : UInt8) (s : ByteArray) : qTo d s 0 = [d] := by simp [qTo]
theorem qTo_succ (d : UInt8) (s : ByteArray) (k : Nat) (h : k < s.size) : qTo d s k ++ Lt.el d s[k] = qTo d s (k + 1) := by
  have h2 : k < s.data.toList.length := h
  unfold qTo
  rw [Lt.els_snoc d _ k h2, List.append_assoc]; rfl
theorem qTo_len (d : UInt8) (s : ByteArray) (k : Nat) (h : k ≤ s.size) : (qTo d s k).length ≤ 4 * s.size + 1 := by
  have h1 := Lt.els_len d (s.data.toList.take k)
  rw [List.length_take] at h1
  unfold qTo
  rw [List.length_append, List.length_singleton]
  have := len8 s
  omega
theorem qTo_end (d : UInt8) (s : ByteArray) : qTo d s s.size ++ [d] = Lt.quo d s.data.toList := by
  unfold qTo Lt.quo
  rw [List.take_of_length_le (by rw [len8]; exact Nat.le_refl _)]; simp
theorem below_at {base : Nat} {w wa wb : World} (h : Below base w wa) (hb : Below base wa wb) : Below base w wb := h.trans hb

set_option maxHeartbeats 800000 in
theorem impl_quote (d : UInt8) (s : ByteArray) (w : World) (hs : (s.size : Int) ≤ 1048576) : Calls Tryz.prog 50 #[.string s, .int .u8 (d.toNat : Int)] w (RetT w (str8 (Lt.quo d s.data.toList))) := by
  unfold RetT
  obtain ⟨i0, hi, hz0, hz1, hz2⟩ := info_parts info8
  obtain ⟨w0, hmk0, hown0, hgr0⟩ := run_make_own (P := Tryz.prog) w w.heap.size 22 5 i0 (.int .u8 0) 1 Tryz.underlying22 hi hz0 hz1 .i64 .i64 (s.size + 2) (by rw [hz2]; omega) (max8b (by omega)) (Nat.le_refl _)
  have hmk : (Instr.makeSlice 22 (.int .i64 0) (.int .i64 ((s.size : Int) + 2))).run Tryz.prog w = .ok (.slice (some ⟨w.heap.size, 0, none⟩) 0 (s.size + 2)) w0 := hmk0
  have hbel0 : Below w.heap.size w w0 := (Below.refl _ _).grown hgr0 (Nat.le_refl _) (fun k hk => by cases hk)
  have HO0 : Hid (Own8 w0 w.heap.size (.slice (some ⟨w.heap.size, 0, none⟩) 0 (s.size + 2)) []) := hown0
  have HB0 := Lib.hid hbel0
  have hsz0 := hbel0.size
  have HE := Lib.hid (qTo_end d s)
  clear hmk0 hown0 hgr0 hbel0 hi hz0 hz1 hz2
  go_enter Tryz.func50, Tryz.ntmps50
  go_wp2_with (at_builtin; refine wpList_app8 rfl _ _ rfl w.heap.size _ [] [d] rfl HO0.out hsz0 1 rfl rfl (by simp) _ _ rfl ?_)
  intro v1 w1 HO1 HB1
  have HB1' := Lib.hid (below_at HB0.out HB1.out)
  rw [← qTo_zero d s] at HO1
  clear hmk HO0 HB0 HB1
  go_wp2
  go_loopw [5, 6, 17] (fun v _ i wr => ∃ k : Nat, i = .int .i64 k ∧ k ≤ s.size ∧ Own8 wr w.heap.size v (qTo d s k) ∧ Below w.heap.size w wr) (fun _ _ i _ => s.size - (intOf i).toNat)
  case atStart => exact ⟨0, rfl, by omega, HO1.out, HB1'.out⟩
  case round =>
    clear HO1 HB1'
    obtain ⟨k, rfl, hk, ho, hb⟩ := hrel
    have HO := Lib.hid ho
    have HB := Lib.hid hb
    have hsz := hb.size
    have hlen := qTo_len d s k hk
    clear ho hb
    by_cases hlt : (k : Int) < s.size
    · have hks : k < s.size := by omega
      have HS := Lib.hid (qTo_succ d s k hks)
      go_wp2_with fail
      refine (app_el w.heap.size _ (qTo d s k) d s[k] _ HO.out hsz (by omega)).mono ?_
      rintro e w2 ⟨v2, rfl, ho2, hb2⟩
      rw [HS.out] at ho2
      have HO2 := Lib.hid ho2
      have HB2 := Lib.hid (below_at HB.out hb2)
      clear ho2 hb2
      go_wp2
      go_roundw
      case rel => exact ⟨k + 1, by go_num, by omega, HO2.out, HB2.out⟩
      case measure => first | (simp [intOf]; done) | (simp [intOf]; omega)
    · obtain rfl : k = s.size := by omega
      go_wp2_with (at_builtin; refine wpList_app8 rfl _ _ rfl w.heap.size _ (qTo d s s.size) [d] rfl HO.out hsz 1 rfl rfl (by omega) _ _ rfl ?_)
      intro v2 w2 HO2 HB2
      have HB2' := Lib.hid (below_at HB.out HB2.out)
      rw [HE.out] at HO2
      have hcv := conv8 HO2.out
      clear HO2 HB2
      go_wp2
      go_ret
      exact ⟨rfl, HB2'.out⟩

/-- The state of the reference model's loop. -/
def QAt (w : World) (d : UInt8) (s : ByteArray) (k : Nat) (v : Value) (wr : World) : Prop := Own8 wr w.heap.size v (qTo d s k) ∧ Below w.heap.size w wr
theorem QAt.next {w wr w2 : World} {d b : UInt8} {s : ByteArray} {k : Nat} {v v2 : Value} {m : List UInt8} (h : Hid (QAt w d s k v wr)) (hk : k < s.size) (hb : Hid (s[k] = b)) (he : Hid (Lt.el d b = m)) (ho : Hid (Own8 w2 w.heap.size v2 (qTo d s k ++ m))) (h2 : Hid (Below w.heap.size wr w2)) : QAt w d s (k + 1) v2 w2 := by
  refine ⟨?_, below_at h.out.2 h2.out⟩
  have e := qTo_succ d s k hk
  rw [hb.out, he.out] at e
  rw [← e]; exact ho.out
end Go.Proofs.YtfhakailbikjkaaGreatDoor
/- QuoteText and QuoteCset of the program and of the reference model, and the walks of their laws. No conditions. -/
namespace Go.Proofs.YtfhakailbikjkaaGreatDoor
open Go.RowKit
set_option linter.unusedVariables false

/-- The literal of a text, the literal of a set. -/
def qtS (s : ByteArray) : ByteArray := str8 (Lt.quo 34 s.data.toList)
def qcS (a b : Int) : ByteArray := str8 (Lt.quo 39 (txt (Cs.text a b)).data.toList)
theorem quote34 (s : ByteArray) (w : World) (hs : (s.size : Int) ≤ 1048576) : Calls Tryz.prog 50 #[.string s, .int .u8 34] w (RetT w (qtS s)) := impl_quote 34 s w hs
theorem impl_qt (s : ByteArray) (w : World) (hs : (s.size : Int) ≤ 1048576) : Calls Tryz.prog 21 #[.string s] w (RetT w (qtS s)) := by
  have H := Lib.hid (fun W => quote34 s W hs)
  unfold RetT at H ⊢
  go_enter Tryz.func21, Tryz.ntmps21
  go_wp2_with fail
  refine (H.out _).mono ?_
  rintro e w1 ⟨rfl, hb1⟩
  go_wp2
  go_ret
  exact ⟨rfl, hb1⟩
theorem text_small (a b : Int) : ((txt (Cs.text a b)).size : Int) ≤ 1048576 := by
  have h : (Cs.text a b).length ≤ 128 := Cs.textTo_len a b 128
  rw [txt_size]; omega
theorem impl_qc (a b : Int) (w : World) : Calls Tryz.prog 23 #[.agg #[.int .i64 a, .int .i64 b]] w (RetT w (qcS a b)) := by
  have H1 := Lib.hid (fun W => impl_text a b W)
  have H2 : Hid (∀ W, Calls Tryz.prog 50 #[.string (txt (Cs.text a b)), .int .u8 39] W (RetT W (qcS a b))) := fun W => impl_quote 39 _ W (text_small a b)
  unfold RetT at H2 ⊢
  unfold RetText at H1
  generalize txt (Cs.text a b) = t at H1 H2
  generalize qcS a b = v at H2 ⊢
  go_enter Tryz.func23, Tryz.ntmps23
  go_wp2_with fail
  refine (H1.out _).mono ?_
  rintro e w1 ⟨rfl, hb1⟩
  have HB1 := Lib.hid (below_step (bl1 _ _) hb1)
  clear hb1
  go_wp2_with fail
  refine (H2.out _).mono ?_
  rintro e w2 ⟨rfl, hb2⟩
  have HB2 := Lib.hid (below_step HB1.out hb2)
  clear hb2
  go_wp2
  go_ret
  exact ⟨rfl, HB2.out⟩
end Go.Proofs.YtfhakailbikjkaaGreatDoor
/- Tokens by value: the laws' helpers, TokenText of the reference model, the walks of the laws on tokens from contracts of the program's functions. No conditions. -/
namespace Go.Proofs.YtfhakailbikjkaaGreatDoor
open Go.RowKit
set_option linter.unusedVariables false

/-- The text of a token. -/
def ttS (k : Int) (t : ByteArray) : ByteArray := if k = 4 then qtS t else if k = 5 then qcS (Cs.newL t) (Cs.newH t) else if k = 6 then str8 (38 :: t.data.toList) else t
theorem ret_amp (t : ByteArray) : Ending.returned (.string ((⟨#[38]⟩ : ByteArray) ++ t)) = Ending.returned (.string (str8 (38 :: t.data.toList))) :=
  congrArg (fun x => Ending.returned (Value.string x)) (str8_inj (by simp [ByteArray.data_append]))
end Go.Proofs.YtfhakailbikjkaaGreatDoor
/- The text of a token in the program. No conditions. -/
namespace Go.Proofs.YtfhakailbikjkaaGreatDoor
open Go.RowKit
set_option linter.unusedVariables false

theorem impl_tt (k : Int) (t : ByteArray) (l : Int) (w : World) (hs : (t.size : Int) ≤ 1048576) : Calls Tryz.prog 8 #[tokV k t l] w (RetT w (ttS k t)) := by
  unfold RetT tokV
  by_cases h4 : k = 4
  · subst h4
    rw [show ttS 4 t = qtS t from rfl]
    have H := Lib.hid (fun W => impl_qt t W hs)
    unfold RetT at H
    generalize qtS t = v at H ⊢
    go_enter Tryz.func8, Tryz.ntmps8
    go_wp2_with (go_at_call 21; refine (H.out _).mono ?_; rintro e w1 ⟨rfl, hb1⟩; have HB1 := Lib.hid (below_step (bl1 _ _) hb1); clear hb1)
    go_ret
    exact ⟨rfl, HB1.out⟩
  · by_cases h5 : k = 5
    · subst h5
      rw [show ttS 5 t = qcS (Cs.newL t) (Cs.newH t) from rfl]
      have H := Lib.hid (fun W => impl_new t (by unfold maxLen; omega) W)
      have H2 := Lib.hid (fun W => impl_qc (Cs.newL t) (Cs.newH t) W)
      unfold RetNew at H
      unfold RetT at H2
      generalize qcS (Cs.newL t) (Cs.newH t) = v at H2 ⊢
      generalize Cs.newL t = a at H H2
      generalize Cs.newH t = b at H H2
      go_enter Tryz.func8, Tryz.ntmps8
      go_wp2_with (first | (go_at_call 22; refine (H.out _).mono ?_; rintro e w1 ⟨rfl, hb1⟩; have HB1 := Lib.hid (below_step (bl1 _ _) hb1); clear hb1) | (go_at_call 23; refine (H2.out _).mono ?_; rintro e w2 ⟨rfl, hb2⟩; have HB2 := Lib.hid (below_step (HB1.out.alloc HB1.out.size _) hb2); clear hb2))
      go_ret
      exact ⟨rfl, HB2.out⟩
    · by_cases h6 : k = 6
      · subst h6
        rw [show ttS 6 t = str8 (38 :: t.data.toList) from rfl]
        go_enter Tryz.func8, Tryz.ntmps8
        go_wp2
        go_ret
        exact ⟨ret_amp t, bl1 _ _⟩
      · have e : ttS k t = t := by unfold ttS; rw [if_neg h4, if_neg h5, if_neg h6]
        rw [e]
        have u4 : (k == 4) = false := by simpa using h4
        have u5 : (k == 5) = false := by simpa using h5
        have u6 : (k == 6) = false := by simpa using h6
        have HC := Lib.hid (fun W => clone8 t W hs)
        clear h4 h5 h6 e
        go_enter Tryz.func8, Tryz.ntmps8
        go_wp2_with (first | (go_at_call 24; refine (HC.out _).mono ?_; rintro e w1 ⟨rfl, hb1⟩; have HB1 := Lib.hid (below_step (bl1 _ _) hb1); clear hb1))
        go_ret
        exact ⟨rfl, HB1.out⟩
end Go.Proofs.YtfhakailbikjkaaGreatDoor
/- What a token's word denotes is read again from the token's text. Plain. -/
namespace Go.Proofs.YtfhakailbikjkaaGreatDoor
open Go.RowKit
set_option linter.unusedVariables false

theorem dw_none {p : UInt8 → Bool} {l : List UInt8} (h : ∀ x ∈ l, p x = false) : l.dropWhile p = l := by
  cases l with
  | nil => rfl
  | cons b l => rw [List.dropWhile_cons, if_neg (by rw [h b List.mem_cons_self]; decide)]
theorem trim_dig (t : List UInt8) (h : t.all Dec.isDig = true) : Lib.trimB t 32 = t := by
  have h2 : ∀ x ∈ t, (x == 32) = false := fun x hx => by
    have h3 := List.all_eq_true.1 h x hx
    cases h4 : x == 32
    · rfl
    · rw [beq_iff_eq.1 h4] at h3; revert h3; decide
  unfold Lib.trimB Lib.trimLeftB Lib.trimRightB
  rw [dw_none (l := t.reverse) (fun x hx => h2 x (List.mem_reverse.1 hx)), List.reverse_reverse, dw_none h2]
theorem head_dig {t : List UInt8} (h : t.all Dec.isDig = true) (c : UInt8) (hc : Dec.isDig c = false) : t.head? ≠ some c := by
  cases t with
  | nil => simp
  | cons b l =>
    intro e
    rw [List.head?_cons] at e
    rw [List.all_cons, Option.some.inj e, hc] at h; cases h
theorem it_dig {t : List UInt8} (h : t.all Dec.isDig = true) : itD t = t ∧ itN t = false := by
  unfold itD itN
  refine ⟨if_neg ?_, ?_⟩
  · rintro (e | e)
    · exact head_dig h 45 (by decide) e
    · exact head_dig h 43 (by decide) e
  · rw [beq_eq_false_iff_ne]; exact head_dig h 45 (by decide)
theorem int_back (v : Nat) (hv : v < 1000000000000) : denM.int (Dec.fmtN v) = some (Dec.fmtN v) := by
  obtain ⟨h1, h2, h3⟩ := Dec.fmtN_back v
  obtain ⟨h4, h5⟩ := it_dig h1
  have h6 : 1 ≤ (Dec.fmtN v).length := by
    cases h : Dec.fmtN v with
    | nil => exact absurd h h3
    | cons c l => simp
  have h7 := Dec.dok_yes h6 ((Dec.fmtN_len v).2 hv) h1
  show (if itB (Lib.trimB (Dec.fmtN v) 32) = true then some (Dec.fmtN (itV (Lib.trimB (Dec.fmtN v) 32)).toNat) else none) = _
  rw [trim_dig _ h1]
  have h8 : itB (Dec.fmtN v) = true := by unfold itB; rw [h4]; exact h7
  have h9 : itV (Dec.fmtN v) = (v : Int) := by
    unfold itV
    rw [h5, h4]
    unfold Dec.dvv
    rw [if_pos h7, h2]; rfl
  rw [if_pos h8, h9, Int.toNat_natCast]
theorem ta_nat (l : List Nat) (h : ∀ x ∈ l, x < 128) : (txt l).data.toList.map UInt8.toNat = l := by
  show (l.map UInt8.ofNat).toArray.toList.map UInt8.toNat = l
  rw [List.map_map]
  conv => rhs; rw [← List.map_id l]
  exact List.map_congr_left fun x hx => by
    show (UInt8.ofNat x).toNat = x
    rw [UInt8.toNat_ofNat']; have := h x hx; omega
theorem ta_good (l : List Nat) (h : ∀ x ∈ l, x < 128) : Cs.good (txt l) = true := by
  unfold Cs.good
  rw [List.all_eq_true]
  intro c hc
  have h2 : c.toNat ∈ (txt l).data.toList.map UInt8.toNat := List.mem_map_of_mem hc
  rw [ta_nat l h] at h2
  simpa using h _ h2
theorem ta_set {a b : Int} (f1 : Cs.Fits a) (f2 : Cs.Fits b) (h2 : Lt.litB 39 (Lt.quo 39 (txt (Cs.text a b)).data.toList) = true) (h3 : Lt.litL 39 (Lt.quo 39 (txt (Cs.text a b)).data.toList) = (txt (Cs.text a b)).data.toList) :
    ucL (Lt.quo 39 (txt (Cs.text a b)).data.toList) = a ∧ ucH (Lt.quo 39 (txt (Cs.text a b)).data.toList) = b ∧ ucB (Lt.quo 39 (txt (Cs.text a b)).data.toList) = true := by
  have h4 : ∀ x ∈ Cs.text a b, x < 128 := Cs.text_below a b
  have h5 := ta_good _ h4
  obtain ⟨h6, h7⟩ := Cs.all_text f1 f2
  unfold ucL ucH ucB
  rw [if_pos h2, if_pos h2, if_pos h2, h3, str8_data]
  unfold Cs.newL Cs.newH
  rw [if_pos h5, if_pos h5, ta_nat _ h4]
  exact ⟨h6, h7, h5⟩
theorem again_den : Tk.Again denM where
  int := by
    intro w t h
    have h2 : (if itB (Lib.trimB w 32) = true then some (Dec.fmtN (itV (Lib.trimB w 32)).toNat) else none) = some t := h
    split at h2
    · have h3 := Option.some.inj h2
      have hv : (itV (Lib.trimB w 32)).toNat < 1000000000000 := by
        have hb := dvv_bound (itD (Lib.trimB w 32))
        unfold itV
        split <;> omega
      rw [← h3]
      obtain ⟨h4, _, h5⟩ := Dec.fmtN_back (itV (Lib.trimB w 32)).toNat
      exact ⟨h5, h4, int_back _ hv⟩
    · cases h2
  str := by
    intro q t h
    have h2 : (if Lt.litB 34 q = true ∧ (Lt.litL 34 q).length ≤ 120 then some (Lt.litL 34 q) else none) = some t := h
    split at h2
    · rename_i h3
      have h4 := Option.some.inj h2
      obtain ⟨h5, h6⟩ := Lt.lit_some (Lt.lit_quo 34 (.inl rfl) t)
      show (if Lt.litB 34 (Lt.quo 34 t) = true ∧ (Lt.litL 34 (Lt.quo 34 t)).length ≤ 120 then some (Lt.litL 34 (Lt.quo 34 t)) else none) = some t
      rw [h6, if_pos ⟨h5, by rw [← h4]; exact h3.2⟩]
    · cases h2
  set := by
    intro q t h
    have h2 : (if ucB q = true then some (txt (Cs.text (ucL q) (ucH q))).data.toList else none) = some t := h
    split at h2
    · have h4 := Option.some.inj h2
      have f1 : Cs.Fits (ucL q) := by
        unfold ucL Cs.newL
        split
        · split
          · exact Cs.allL_fits _
          · exact Cs.fits_zero
        · exact Cs.fits_zero
      have f2 : Cs.Fits (ucH q) := by
        unfold ucH Cs.newH
        split
        · split
          · exact Cs.allH_fits _
          · exact Cs.fits_zero
        · exact Cs.fits_zero
      generalize ucL q = a at *
      generalize ucH q = b at *
      obtain ⟨h5, h6⟩ := Lt.lit_some (Lt.lit_quo 39 (.inr rfl) t)
      obtain ⟨g1, g2, g3⟩ := ta_set f1 f2 (h4 ▸ h5) (h4 ▸ h6)
      show (if ucB (Lt.quo 39 t) = true then some (txt (Cs.text (ucL (Lt.quo 39 t)) (ucH (Lt.quo 39 t)))).data.toList else none) = some t
      rw [← h4, if_pos g3, g1, g2]
    · cases h2
end Go.Proofs.YtfhakailbikjkaaGreatDoor
/- How long the texts of a source's tokens are. Plain. -/
namespace Go.Proofs.YtfhakailbikjkaaGreatDoor
open Go.RowKit
set_option linter.unusedVariables false

theorem lit_len {d : UInt8} {s A : List UInt8} (h : Lt.lit d s = some A) : A.length + 2 ≤ s.length := by
  unfold Lt.lit at h
  split at h
  · cases h
  · rename_i h2
    have h3 : 2 ≤ s.length := by
      rcases Nat.lt_or_ge s.length 2 with h4 | h4
      · exact absurd (.inl h4) h2
      · exact h4
    have h5 := Lt.rd_len _ (Nat.le_refl _) h
    rw [List.length_dropLast, List.length_drop] at h5
    omega
theorem litL_len {d : UInt8} {s : List UInt8} (h : Lt.litB d s = true) : (Lt.litL d s).length + 2 ≤ s.length := by
  cases hl : Lt.lit d s with
  | none => rw [(Lt.lit_none hl).1] at h; cases h
  | some A => rw [(Lt.lit_some hl).2]; exact lit_len hl
theorem quo_len4 (d : UInt8) (l : List UInt8) : (Lt.quo d l).length ≤ 4 * l.length + 2 := by
  have := Lt.els_len d l
  unfold Lt.quo
  simp only [List.length_cons, List.length_append, List.length_nil]; omega
theorem filter_one (n x : Nat) : ((List.range n).filter fun y => y == x).length ≤ 1 := by
  have : ∀ n, ((List.range n).filter fun y => y == x).length ≤ 1 ∧ (n ≤ x → ((List.range n).filter fun y => y == x).length = 0) := by
    intro n
    induction n with
    | zero => simp
    | succ n ih =>
      rw [List.range_succ, List.filter_append, List.length_append]
      by_cases h : n = x
      · subst h
        have := ih.2 (Nat.le_refl _)
        constructor
        · simp; omega
        · intro h2; omega
      · have e : ([n].filter fun y => y == x) = [] := by simp [h]
        rw [e]
        refine ⟨by simpa using ih.1, fun h2 => by simpa using ih.2 (by omega)⟩
  exact (this n).1
theorem filter_in (n : Nat) (xs : List Nat) : ((List.range n).filter fun y => xs.contains y).length ≤ xs.length := by
  induction xs with
  | nil => simp
  | cons x xs ih =>
    have h1 := Cs.count_or_and (fun y => y == x) (fun y => xs.contains y) (List.range n)
    have h2 := filter_one n x
    have e : (fun y => (x :: xs).contains y) = fun y => (y == x) || xs.contains y := by
      funext y; rw [List.contains_cons]
    rw [e, List.length_cons]
    omega
theorem text_len (xs : List Nat) (h : ∀ x ∈ xs, x < 128) : (Cs.text (Cs.allL xs) (Cs.allH xs)).length ≤ xs.length := by
  have h2 := filter_in 128 xs
  have e : Cs.text (Cs.allL xs) (Cs.allH xs) = (List.range 128).filter fun y => xs.contains y := by
    unfold Cs.text
    refine List.filter_congr fun y hy => ?_
    exact Cs.mem_all xs h y (List.mem_range.1 hy)
  rw [e]; exact h2
theorem set_len {q : List UInt8} (h : ucB q = true) : (Cs.text (ucL q) (ucH q)).length + 2 ≤ q.length := by
  unfold ucB at h
  split at h
  · rename_i hb
    have h1 := litL_len hb
    unfold ucL ucH
    rw [if_pos hb, if_pos hb]
    unfold Cs.newL Cs.newH
    rw [if_pos h, if_pos h, str8_list]
    have h2 : ∀ x ∈ (Lt.litL 39 q).map UInt8.toNat, x < 128 := by
      intro x hx
      obtain ⟨c, hc, rfl⟩ := List.mem_map.1 hx
      unfold Cs.good at h
      rw [str8_list] at h
      simpa using List.all_eq_true.1 h c hc
    have h3 := text_len _ h2
    rw [List.length_map] at h3
    omega
  · cases h
theorem tx_len {R t : List UInt8} {k n : Nat} (h : Tk.one denM R = some (k, t, n)) : (Tk.tx k t).length ≤ 4 * n + 12 := by
  match R with
  | [] => cases h
  | b :: r =>
    simp only [Tk.one] at h
    split at h
    · split at h
      · cases h; show (_ :: _ : List UInt8).length ≤ _; rw [List.length_cons]; omega
      · split at h
        · cases h; show (_ :: _ : List UInt8).length ≤ _; rw [List.length_cons]; omega
        · cases h
    · split at h
      · cases hi : denM.int (b :: r.takeWhile Tk.idb) with
        | none => rw [hi] at h; cases h
        | some x =>
          rw [hi] at h; cases h
          have h2 : (if itB (Lib.trimB (b :: r.takeWhile Tk.idb) 32) = true then some (Dec.fmtN (itV (Lib.trimB (b :: r.takeWhile Tk.idb) 32)).toNat) else none) = some t := hi
          split at h2
          · have h3 := Option.some.inj h2
            have hv : (itV (Lib.trimB (b :: r.takeWhile Tk.idb) 32)).toNat < 1000000000000 := by
              have hb := dvv_bound (itD (Lib.trimB (b :: r.takeWhile Tk.idb) 32))
              unfold itV
              split <;> omega
            have h4 := (Dec.fmtN_len _).2 hv
            rw [h3] at h4
            show t.length ≤ _; omega
          · cases h2
      · split at h
        · cases he : Lt.endL 34 r with
          | none => rw [he] at h; cases h
          | some m =>
            rw [he] at h
            cases hs : denM.str (b :: r.take m) with
            | none => simp [hs] at h
            | some x =>
              simp [hs] at h
              obtain ⟨rfl, rfl, rfl⟩ := h
              have h2 : (if Lt.litB 34 (b :: r.take m) = true ∧ (Lt.litL 34 (b :: r.take m)).length ≤ 120 then some (Lt.litL 34 (b :: r.take m)) else none) = some x := hs
              split at h2
              · rename_i h3
                have h4 := litL_len h3.1
                rw [Option.some.inj h2, List.length_cons, List.length_take] at h4
                have h5 := quo_len4 34 x
                show (Lt.quo 34 x).length ≤ _; omega
              · cases h2
        · split at h
          · cases he : Lt.endL 39 r with
            | none => rw [he] at h; cases h
            | some m =>
              rw [he] at h
              cases hs : denM.set (b :: r.take m) with
              | none => simp [hs] at h
              | some x =>
                simp [hs] at h
                obtain ⟨rfl, rfl, rfl⟩ := h
                have h2 : (if ucB (b :: r.take m) = true then some (txt (Cs.text (ucL (b :: r.take m)) (ucH (b :: r.take m)))).data.toList else none) = some x := hs
                split at h2
                · rename_i h3
                  have h4 := set_len h3
                  have h6 : x.length = (Cs.text (ucL (b :: r.take m)) (ucH (b :: r.take m))).length := by
                    rw [← Option.some.inj h2]
                    exact txt_size _
                  rw [List.length_cons, List.length_take] at h4
                  have h5 := quo_len4 39 x
                  show (Lt.quo 39 x).length ≤ _; omega
                · cases h2
          · split at h
            · split at h
              · cases h; show (_ :: _ : List UInt8).length ≤ _; rw [List.length_cons]; omega
              · cases h
            · cases hf : Tk.operators.find? fun o => o.isPrefixOf (b :: r) with
              | none => rw [hf] at h; cases h
              | some o => rw [hf] at h; cases h; show t.length ≤ _; omega
/-- The bytes of tokens' texts, one more for each. -/
def txSum (l : List Tk.Tok) : Nat := (l.map fun x => (Tk.tx x.1 x.2.1).length + 1).sum
theorem txSum_app (a b : List Tk.Tok) : txSum (a ++ b) = txSum a + txSum b := by unfold txSum; rw [List.map_append, List.sum_append]
theorem txSum_one (x : Tk.Tok) : txSum [x] = (Tk.tx x.1 x.2.1).length + 1 := by simp [txSum]
theorem semi_sum (out : List Tk.Tok) (fr : Bool) (k : Nat) (t : List UInt8) : txSum (Tk.semi out fr k t) ≤ 2 := by
  rcases semi_cases out fr k t with ⟨_, h⟩ | ⟨_, _, h⟩ | ⟨_, _, _, _, ⟨_, h⟩ | ⟨_, _, h⟩ | ⟨_, _, h⟩⟩ <;> rw [h] <;> simp [txSum, Tk.tx]
theorem lexW_sum : ∀ (N : Nat) (R : List UInt8) (line : Nat) (fr : Bool) (out : List Tk.Tok), R.length ≤ N → txSum (Tk.lexW denM R line fr out).2 ≤ txSum out + 19 * R.length := by
  intro N
  induction N with
  | zero =>
    intro R line fr out h
    rw [List.length_eq_zero_iff.1 (Nat.le_zero.1 h), Tk.lexW_nil]; simp
  | succ N ih =>
    intro R line fr out h
    match R with
    | [] => rw [Tk.lexW_nil]; simp
    | b :: r =>
      rw [List.length_cons] at h ⊢
      by_cases h1 : b = 10
      · rw [h1, Tk.lexW_line]
        have := ih r (line + 1) true out (by omega); omega
      · by_cases h2 : b = 32 ∨ b = 9
        · rw [Tk.lexW_blank denM _ _ _ _ h2]
          have := ih r line fr out (by omega); omega
        · by_cases h4 : b = 35
          · rw [h4, Tk.lexW_note]
            have h5 := (List.dropWhile_sublist (p := fun c : UInt8 => c != 10) (l := r)).length_le
            have := ih (r.dropWhile fun c => c != 10) line fr out (by omega); omega
          · cases ho : Tk.one denM (b :: r) with
            | none => rw [Tk.lexW_bad denM _ _ _ _ h1 (fun e => h2 (.inl e)) (fun e => h2 (.inr e)) h4 ho]; simp [txSum]
            | some y =>
              obtain ⟨k, t, n⟩ := y
              rw [Tk.lexW_tok denM _ _ _ _ h1 (fun e => h2 (.inl e)) (fun e => h2 (.inr e)) h4 ho]
              have h5 := Tk.one_pos ho
              have h6 := one_le ho
              have h7 := semi_sum out fr k t
              have h8 := tx_len ho
              rw [List.length_cons] at h6
              have := ih ((b :: r).drop n) line false (out ++ Tk.semi out fr k t ++ [(k, t, line)]) (by rw [List.length_drop, List.length_cons]; omega)
              rw [List.length_drop, List.length_cons, txSum_app, txSum_app, txSum_one] at this
              dsimp only at this
              omega
theorem lex_sum (S : List UInt8) : txSum (Tk.lex denM S).2 ≤ 114000 := by
  unfold Tk.lex
  by_cases h : 6000 < S.length
  · rw [if_pos h]; simp [txSum]
  · rw [if_neg h]
    have := lexW_sum _ S 1 false [] (Nat.le_refl _)
    simp [txSum] at this ⊢; omega
theorem joined_sum : ∀ l : List Tk.Tok, (Tk.joined l).length ≤ txSum l
  | [] => by simp [Tk.joined]
  | [x] => by rw [txSum_one]; simp [Tk.joined]
  | x :: y :: l => by
    have h := joined_sum (y :: l)
    have e : txSum (x :: y :: l) = (Tk.tx x.1 x.2.1).length + 1 + txSum (y :: l) := by simp [txSum]
    rw [Tk.joined, e, List.length_append, List.length_cons]; omega
end Go.Proofs.YtfhakailbikjkaaGreatDoor
/- The texts of a source's tokens, joined. Plain. -/
namespace Go.Proofs.YtfhakailbikjkaaGreatDoor
open Go.RowKit
set_option linter.unusedVariables false

theorem joined_snoc (x : Tk.Tok) : ∀ l : List Tk.Tok, Tk.joined (l ++ [x]) = if l = [] then Tk.tx x.1 x.2.1 else Tk.joined l ++ 32 :: Tk.tx x.1 x.2.1
  | [] => rfl
  | [y] => by simp [Tk.joined]
  | y :: z :: l => by
    have h := joined_snoc x (z :: l)
    rw [if_neg (by simp)] at h ⊢
    show Tk.tx y.1 y.2.1 ++ 32 :: Tk.joined (z :: (l ++ [x])) = _
    rw [show z :: (l ++ [x]) = (z :: l) ++ [x] from rfl, h]
    simp [Tk.joined]
/-- The texts of tokens, as the program writes them. -/
def ttL (l : List Tk.Tok) : List ByteArray := l.map fun x => ttS x.1 (str8 x.2.1)
theorem ttL_length (l : List Tk.Tok) : (ttL l).length = l.length := by simp [ttL]
/-- A token whose text is written as its source form. -/
def Writes (x : Tk.Tok) : Prop := (ttS x.1 (str8 x.2.1)).data.toList = Tk.tx x.1 x.2.1
theorem upto_joined (l : List Tk.Tok) (h : ∀ x ∈ l, Writes x) : ∀ k, k ≤ l.length → Glue.upto (ttL l) [32] k = Tk.joined (l.take k) := by
  intro k
  induction k with
  | zero => intro _; rfl
  | succ k ih =>
    intro hk
    have hk2 : k < l.length := hk
    have e : (ttL l).getD k ByteArray.empty = ttS l[k].1 (str8 l[k].2.1) := by
      unfold ttL
      rw [List.getD_eq_getElem?_getD, List.getElem?_map, List.getElem?_eq_getElem hk2]; rfl
    have h2 : (ttS l[k].1 (str8 l[k].2.1)).data.toList = Tk.tx l[k].1 l[k].2.1 := h _ (List.getElem_mem hk2)
    show Glue.upto (ttL l) [32] k ++ (if k = 0 then [] else [32]) ++ ((ttL l).getD k ByteArray.empty).data.toList = _
    rw [e, h2, ih (by omega), List.take_succ_eq_append_getElem hk2, joined_snoc]
    by_cases h0 : k = 0
    · subst h0; rw [if_pos rfl, if_pos (by simp)]; simp [Tk.joined]
    · rw [if_neg h0, if_neg (by intro h3; have := congrArg List.length h3; rw [List.length_take, List.length_nil, Nat.min_eq_left (by omega)] at this; omega)]
      simp
theorem glue_joined (l : List Tk.Tok) (h : ∀ x ∈ l, Writes x) (hs : txSum l ≤ 1048576) : Glue.joined (ttL l) [32] = Tk.joined l := by
  have h1 := upto_joined l h l.length (Nat.le_refl _)
  rw [List.take_length] at h1
  have h2 := joined_sum l
  rw [Glue.joined_yes (by rw [ttL_length, h1]; omega), ttL_length, h1]
theorem uc_fits (q : List UInt8) : Cs.Fits (ucL q) := by
  unfold ucL Cs.newL
  split
  · split
    · exact Cs.allL_fits _
    · exact Cs.fits_zero
  · exact Cs.fits_zero
theorem uc_fitsH (q : List UInt8) : Cs.Fits (ucH q) := by
  unfold ucH Cs.newH
  split
  · split
    · exact Cs.allH_fits _
    · exact Cs.fits_zero
  · exact Cs.fits_zero
theorem new_back {a b : Int} (f1 : Cs.Fits a) (f2 : Cs.Fits b) : Cs.newL (txt (Cs.text a b)) = a := by
  have h4 : ∀ x ∈ Cs.text a b, x < 128 := Cs.text_below a b
  unfold Cs.newL
  rw [if_pos (ta_good _ h4), ta_nat _ h4]; exact (Cs.all_text f1 f2).1
theorem new_backH {a b : Int} (f1 : Cs.Fits a) (f2 : Cs.Fits b) : Cs.newH (txt (Cs.text a b)) = b := by
  have h4 : ∀ x ∈ Cs.text a b, x < 128 := Cs.text_below a b
  unfold Cs.newH
  rw [if_pos (ta_good _ h4), ta_nat _ h4]; exact (Cs.all_text f1 f2).2
/-- What the program writes of a token is its source form. -/
theorem one_writes {R t : List UInt8} {k n : Nat} (h : Tk.one denM R = some (k, t, n)) (line : Nat) : Writes (k, t, line) := by
  unfold Writes ttS
  dsimp only
  match R with
  | [] => cases h
  | b :: r =>
    simp only [Tk.one] at h
    split at h
    · split at h
      · cases h; rw [if_neg (by decide), if_neg (by decide), if_neg (by decide), str8_list]; rfl
      · split at h
        · cases h; rw [if_neg (by decide), if_neg (by decide), if_neg (by decide), str8_list]; rfl
        · cases h
    · split at h
      · cases hi : denM.int (b :: r.takeWhile Tk.idb) with
        | none => rw [hi] at h; cases h
        | some x => rw [hi] at h; cases h; rw [if_neg (by decide), if_neg (by decide), if_neg (by decide), str8_list]; rfl
      · split at h
        · cases he : Lt.endL 34 r with
          | none => rw [he] at h; cases h
          | some m =>
            rw [he] at h
            cases hs : denM.str (b :: r.take m) with
            | none => simp [hs] at h
            | some x =>
              simp [hs] at h
              obtain ⟨rfl, rfl, rfl⟩ := h
              rw [if_pos (by rfl)]
              unfold qtS
              rw [str8_list, str8_list]; rfl
        · split at h
          · cases he : Lt.endL 39 r with
            | none => rw [he] at h; cases h
            | some m =>
              rw [he] at h
              cases hs : denM.set (b :: r.take m) with
              | none => simp [hs] at h
              | some x =>
                simp [hs] at h
                obtain ⟨rfl, rfl, rfl⟩ := h
                have h2 : (if ucB (b :: r.take m) = true then some (txt (Cs.text (ucL (b :: r.take m)) (ucH (b :: r.take m)))).data.toList else none) = some x := hs
                split at h2
                · have f1 : Cs.Fits (ucL (b :: r.take m)) := uc_fits _
                  have f2 : Cs.Fits (ucH (b :: r.take m)) := uc_fitsH _
                  have h4 := Option.some.inj h2
                  rw [if_neg (by decide), if_pos (by rfl)]
                  unfold qcS
                  rw [← h4, str8_data, new_back f1 f2, new_backH f1 f2, str8_list]; rfl
                · cases h2
          · split at h
            · split at h
              · cases h; rw [if_neg (by decide), if_neg (by decide), if_pos (by rfl), str8_list, str8_list]; rfl
              · cases h
            · cases hf : Tk.operators.find? fun o => o.isPrefixOf (b :: r) with
              | none => rw [hf] at h; cases h
              | some o => rw [hf] at h; cases h; rw [if_neg (by decide), if_neg (by decide), if_neg (by decide), str8_list]; rfl
theorem semi_writes (out : List Tk.Tok) (fr : Bool) (k : Nat) (t : List UInt8) : ∀ x ∈ Tk.semi out fr k t, Writes x := by
  rcases semi_cases out fr k t with ⟨_, h⟩ | ⟨_, _, h⟩ | ⟨_, _, _, _, ⟨_, h⟩ | ⟨_, _, h⟩ | ⟨_, _, h⟩⟩ <;> rw [h] <;> intro x hx
  · cases hx
  · cases hx
  · cases hx
  · cases hx
  · rw [List.mem_singleton] at hx; subst hx; rfl
theorem lexW_writes : ∀ (N : Nat) (R : List UInt8) (line : Nat) (fr : Bool) (out : List Tk.Tok), R.length ≤ N → (∀ x ∈ out, Writes x) → ∀ x ∈ (Tk.lexW denM R line fr out).2, Writes x := by
  intro N
  induction N with
  | zero =>
    intro R line fr out h ho
    rw [List.length_eq_zero_iff.1 (Nat.le_zero.1 h), Tk.lexW_nil]; exact ho
  | succ N ih =>
    intro R line fr out h ho
    match R with
    | [] => rw [Tk.lexW_nil]; exact ho
    | b :: r =>
      rw [List.length_cons] at h
      by_cases h1 : b = 10
      · rw [h1, Tk.lexW_line]
        exact ih r (line + 1) true out (by omega) ho
      · by_cases h2 : b = 32 ∨ b = 9
        · rw [Tk.lexW_blank denM _ _ _ _ h2]
          exact ih r line fr out (by omega) ho
        · by_cases h4 : b = 35
          · rw [h4, Tk.lexW_note]
            have h5 := (List.dropWhile_sublist (p := fun c : UInt8 => c != 10) (l := r)).length_le
            exact ih (r.dropWhile fun c => c != 10) line fr out (by omega) ho
          · cases hone : Tk.one denM (b :: r) with
            | none => rw [Tk.lexW_bad denM _ _ _ _ h1 (fun e => h2 (.inl e)) (fun e => h2 (.inr e)) h4 hone]; intro x hx; cases hx
            | some y =>
              obtain ⟨k, t, n⟩ := y
              rw [Tk.lexW_tok denM _ _ _ _ h1 (fun e => h2 (.inl e)) (fun e => h2 (.inr e)) h4 hone]
              have h5 := Tk.one_pos hone
              refine ih ((b :: r).drop n) line false _ (by rw [List.length_drop, List.length_cons]; omega) ?_
              intro x hx
              rw [List.mem_append, List.mem_append, List.mem_singleton] at hx
              rcases hx with (hx | hx) | hx
              · exact ho x hx
              · exact semi_writes out fr k t x hx
              · subst hx; exact one_writes hone line
theorem lex_writes (S : List UInt8) : ∀ x ∈ (Tk.lex denM S).2, Writes x := by
  unfold Tk.lex
  by_cases h : 6000 < S.length
  · rw [if_pos h]; intro x hx; cases hx
  · rw [if_neg h]; exact lexW_writes _ S 1 false [] (Nat.le_refl _) (fun x hx => by cases hx)
/-- What the program joins, and what it reads again. -/
theorem lex_round (S : List UInt8) (h : (Glue.joined (ttL (Tk.lex denM S).2) [32]).length ≤ 6000) : Tk.lex denM (Glue.joined (ttL (Tk.lex denM S).2) [32]) = (0, (Tk.lex denM S).2.map fun x => (x.1, x.2.1, 1)) := by
  have e := glue_joined (Tk.lex denM S).2 (lex_writes S) (by have := lex_sum S; omega)
  rw [e] at h ⊢
  exact Tk.lex_again again_den S h
end Go.Proofs.YtfhakailbikjkaaGreatDoor
/- The reference model's draws of an integer; a code that came in. -/
namespace Go.Proofs.YtfhakailbikjkaaGreatDoor
open Go.RowKit
set_option linter.unusedVariables false

/-- The cells of a new block. -/
theorem new_cells {α : Type} (mk : α → Value) (l : List α) (d : α) (w : World) (t : TypeId) (arr : Array Value) (ha : arr = (l.map mk).toArray) : ∀ i, i < l.length → (w.alloc (.cells arr t)).cell? ⟨w.heap.size, i, none⟩ = some (mk (l.getD i d)) := by
  intro i hi
  subst ha
  rw [World.cell?_alloc_mark]
  simp [List.getD, List.getElem?_eq_getElem hi]

theorem only_alloc {cb : Nat} {w : World} (o : Obj) : Only cb w (w.alloc o) := ⟨rfl, rfl, rfl, by simp, fun k hk _ => Below.heap_alloc _ _ _ hk⟩
theorem cur_alloc {B cb : Nat} {w : World} (h : IsCur B w cb) (hB : B ≤ w.heap.size) (o : Obj) : IsCur B (w.alloc o) cb := cur_below h hB ((Below.refl _ _).alloc (Nat.le_refl _) o)
theorem cur_lt {B cb : Nat} {w : World} (h : IsCur B w cb) : cb < w.heap.size := by
  obtain ⟨v, n, i, h, hcb, hc, hh⟩ := h
  exact (Array.getElem?_eq_some_iff.1 hh).1

/-- An integer of 64 bits is drawn. -/
def DrawnInt (B cb : Nat) (w : World) (e : Ending) (w' : World) : Prop := ∃ x : Int, e = .returned (.int .i64 x) ∧ -9223372036854775808 ≤ x ∧ x ≤ 9223372036854775807 ∧ IsCur B w' cb ∧ Only cb w w'

theorem add_off (g o i : Nat) : (⟨g, o, none⟩ : Addr).add i = ⟨g, o + i, none⟩ := by
  unfold Addr.add; split <;> simp_all

/-- Bytes that came in, as a draw wants them. -/
theorem code_of_in {w : World} {a : Option Addr} {len cap : Nat} {z : List Int} (h : IsRow .u8 w a len cap z) : Code w.heap.size w (.slice a len cap) len := by
  rcases h with ⟨rfl, rfl, rfl, rfl⟩ | ⟨x, rfl, hl, hm, hz, hc, hs⟩
  · exact .inl ⟨⟨_, _, rfl⟩, rfl⟩
  · by_cases h0 : len = 0
    · subst h0; exact .inl ⟨⟨_, _, rfl⟩, rfl⟩
    · obtain ⟨b, off, spot⟩ := x
      have hspot : spot = none := by simpa [Addr.add] using World.cell?_spot (hc 0 (by omega))
      subst hspot
      have hc0 := hc 0 (by omega)
      refine .inr ⟨b, off, cap, rfl, World.block_lt_of_cell? w _ hc0, by omega, fun j hj => ⟨z.getD j 0, ?_, ?_⟩⟩
      · rw [← add_off b off j]; exact hc j (by omega)
      · have h1 : z.getD j 0 = z[j]'(by omega) := by simp [List.getD, List.getElem?_eq_getElem (show j < z.length by omega)]
        rw [h1]
        have h2 := hs _ (List.getElem_mem (show j < z.length by omega))
        simpa [Lit.wf, IntKind.min, IntKind.max, IntKind.signed, IntKind.bits] using h2

/-- A code that is not too long. -/
theorem big_no (a : Option Addr) (len cap : Nat) (w : World) (h : (len : Int) ≤ 1048576) :
    Calls Tryz.prog 4 #[.slice a len cap] w fun e w' => e = .returned (.bool false) ∧ w = w' := by
  have h2 : decide ((1048576 : Int) < len) = false := by simp; omega
  go_enter Tryz.func4, Tryz.ntmps4
  go_wp2
  go_ret
  exact ⟨by rw [show Value.bool false = Value.bool (decide ((1048576 : Int) < len)) from by rw [h2]]; first | rfl | simp, rfl⟩

end Go.Proofs.YtfhakailbikjkaaGreatDoor
/- Copying a string into bytes, and a block of bytes known whole. No conditions. -/
namespace Go.Proofs.YtfhakailbikjkaaGreatDoor
open Go.RowKit
set_option linter.unusedVariables false

/-- 'copy(dst, s)' from a string: as many bytes as go in. -/
theorem run_copy_str {P : Program} (w : World) (dT sT ty elem : TypeId) (g o dLen dCap : Nat) (s : ByteArray) (l : List UInt8) (hl : l = s.data.toList.take dLen) (cur : Array Value) (t : TypeId)
    (hu : P.underlying dT = some (.slice elem)) (hs : (P.info? elem).map (·.size) = some 1) (hg : w.heap[g]? = some (.cells cur t (0, 0))) (hfit : o + l.length ≤ cur.size) :
    (Builtin.copy_ #[dT, sT] ty #[.slice (some ⟨g, o, none⟩) dLen dCap, .string s]).run P w =
      .ok (goInt l.length) (w.setRow g (cur.toList.take o ++ Lib.byteCells l ++ cur.toList.drop (o + l.length)).toArray) := by
  have hlen : (Lib.byteCells l).length = l.length := Lib.byteCells_length l
  have hst := run_storeCells_at P g o t (Lib.byteCells l) 0 cur w hg (by rw [hlen]; simpa using hfit) (Lib.byteCells_one _)
  have hmin : Nat.min s.size dLen = l.length := by
    rw [hl, List.length_take, len8]; show min _ _ = _; omega
  have htk : List.take l.length (List.map (fun b : UInt8 => Value.int IntKind.u8 (b.toNat : Int)) s.data.toList) = Lib.byteCells l := by
    rw [← List.map_take]
    have : List.take l.length s.data.toList = l := by
      rw [hl, List.length_take, len8, ← List.take_take, List.take_of_length_le (i := s.size) (by rw [len8]; exact Nat.le_refl _)]
    rw [this]; rfl
  rw [hlen] at hst
  simp only [Nat.add_zero] at hst
  cases hq : P.info? elem with
  | none => simp [hq] at hs
  | some i =>
    simp [Builtin.copy_, run_underlying hu, Builtin.lenOf, Builtin.firstCells, sizeOf, typeInfo, hq, hmin]
    rw [htk, hst]
    simp [Result.andThen]
theorem run_copy_str0 {P : Program} (w : World) (dT sT ty elem : TypeId) (d : Option Addr) (dLen dCap : Nat) (s : ByteArray)
    (hu : P.underlying dT = some (.slice elem)) (hs : (P.info? elem).map (·.size) = some 1) (h0 : Nat.min s.size dLen = 0) :
    (Builtin.copy_ #[dT, sT] ty #[.slice d dLen dCap, .string s]).run P w = .ok (goInt 0) w := by
  cases hq : P.info? elem with
  | none => simp [hq] at hs
  | some i =>
    cases d <;> simp [Builtin.copy_, run_underlying hu, Builtin.lenOf, Builtin.firstCells, sizeOf, typeInfo, hq, h0, storeCells]

theorem wpList_copy_str {P : Program} {w : World} {ops : Array Oper} {rest : List Oper} {o : Oper} {a : Act} {Q : Exit → Act → World → Prop} (hgd : o.guard = none) (d s : Operand) (dT sT : TypeId)
    (ho : o.op = .call { callee := .builtin .copy, args := #[d, s], argTypes := #[dT, sT] }) (elem : TypeId) (hu : P.underlying dT = some (.slice elem)) (hsz : (P.info? elem).map (·.size) = some 1)
    (dp : Option Addr) (dLen dCap : Nat) (x : ByteArray) (hd : a.eval d = .slice dp dLen dCap) (hs : a.eval s = .string x)
    (g off : Nat) (cur : List Value) (t : TypeId) (hg : w.heap[g]? = some (.cells cur.toArray t (0, 0))) (l : List UInt8) (hl : l = x.data.toList.take dLen)
    (hpos : 0 < l.length → dp = some ⟨g, off, none⟩) (hfit : off + l.length ≤ cur.length) (B : Nat) (w0 : World) (hb : Below B w0 w) (hBg : B ≤ g)
    (h : ∀ w', Hid (w'.heap[g]? = some (.cells (splice cur off (Lib.byteCells l)).toArray t (0, 0))) → Below B w0 w' → wpList P ops Q rest (a.put o.dst (goInt l.length)) w') :
    wpList P ops Q (o :: rest) a w := by
  refine wpList_plain hgd fun K hK => ?_
  by_cases h0 : l.length = 0
  · obtain rfl : l = [] := List.eq_nil_of_length_eq_zero h0
    have hmin : Nat.min x.size dLen = 0 := by
      have h1 := congrArg List.length hl
      rw [List.length_take, len8] at h1
      show min _ _ = 0
      rw [Nat.min_comm]; exact h1.symm
    have hrun := run_copy_str0 (P := P) w dT sT o.type elem dp dLen dCap x hu hsz hmin
    unfold Oper.wp
    simp [execOp, ho, resolve, invoke, builtin, hd, hs, hrun, Result.andThen]
    exact hK _ _ (h w (show _ = _ by simpa [splice, Lib.byteCells] using hg) hb)
  · obtain rfl := hpos (by omega)
    have hrun := run_copy_str (P := P) w dT sT o.type elem g off dLen dCap x l hl cur.toArray t hu hsz hg (by simpa using hfit)
    unfold Oper.wp
    simp [execOp, ho, resolve, invoke, builtin, hd, hs, hrun, Result.andThen]
    refine hK _ _ (h _ (show _ = _ from ?_) (below_setRow hb hBg _))
    have e := setRow_heap w g cur.toArray (cur.take off ++ Lib.byteCells l ++ cur.drop (off + l.length)).toArray t (0, 0) hg
    rw [splice, Lib.byteCells_length, ← List.append_assoc]
    simpa using e

theorem info8s : (Tryz.prog.info? 5).map (·.size) = some 1 := by kernel_rfl
/-- A block of bytes, known whole: l, then rest. -/
def Row8 (w : World) (g : Nat) (l : List UInt8) (rest : List Value) : Prop := w.heap[g]? = some (.cells (Lib.byteCells l ++ rest).toArray 5 (0, 0))
theorem row8_cell {w : World} {g : Nat} {l : List UInt8} {rest : List Value} (h : Row8 w g l rest) (j : Nat) (hj : j < l.length) : w.cell? ⟨g, j, none⟩ = (Lib.byteCells l)[j]? := by
  rw [Lib.cell_of_heap h]
  simp [List.getElem?_append, Lib.byteCells_length, hj]
theorem row8_conv {w : World} {g : Nat} {l : List UInt8} {rest : List Value} (h : Row8 w g l rest) (n cap : Nat) (hn : l.length = n) : (convert 22 9 (.slice (some ⟨g, 0, none⟩) n cap)).run Tryz.prog w = .ok (.string (str8 l)) w := by
  subst hn; exact conv8_cells g cap l (fun j hj => row8_cell h j hj)
theorem row8_own {w : World} {base g n cap : Nat} {l : List UInt8} (h : w.ownsRow base 5 1 (.slice (some ⟨g, 0, none⟩) n cap) n (Lib.byteCells l)) : ∃ rest, Row8 w g l rest ∧ rest.length = cap - n ∧ n = l.length ∧ base ≤ g ∧ n ≤ cap := by
  obtain ⟨h1, h2⟩ := h
  rcases h2 with ⟨e0, _⟩ | ⟨g', cap', cur, e0, hb, hg, hn, hm, hs, ht⟩
  · cases e0
  · injection e0 with e1 _ e3
    injection e1 with e1
    injection e1 with e1
    subst e1; subst e3
    rw [Lib.byteCells_length] at h1
    refine ⟨cur.toList.drop n, ?_, ?_, by omega, hb, by omega⟩
    · unfold Row8
      rw [hg, ← ht, Nat.mul_one, List.take_append_drop]
    · rw [List.length_drop, Array.length_toList]; omega
theorem cells8_len (l : List UInt8) : (Lib.byteCells l).length = l.length := Lib.byteCells_length l
theorem cells8_rep (n : Nat) (x : UInt8) : Lib.byteCells (List.replicate n x) = List.replicate n (.int .u8 (x.toNat : Int)) := by simp [Lib.byteCells]
theorem row8_full {w : World} {base g n : Nat} (h : w.ownsRow base 5 1 (.slice (some ⟨g, 0, none⟩) n n) n (madeCells #[.int .u8 0] n).toList) : Row8 w g (List.replicate n 0) [] := by
  have e : (madeCells #[.int .u8 0] n).toList = Lib.byteCells (List.replicate n 0) := by
    rw [cells8_rep]; exact toList_madeCells_one _ _
  rw [e] at h
  obtain ⟨rest, hr, hl, _⟩ := row8_own h
  obtain rfl : rest = [] := List.eq_nil_of_length_eq_zero (by omega)
  exact hr
theorem row8_copy {w : World} {g : Nat} {l m : List UInt8} {off : Nat} {x : List UInt8} (h : Hid (w.heap[g]? = some (.cells (splice (Lib.byteCells l ++ []) off (Lib.byteCells x)).toArray 5 (0, 0)))) (hm : splice l off x = m) : Row8 w g m [] := by
  have e : splice (Lib.byteCells l ++ []) off (Lib.byteCells x) = Lib.byteCells m ++ [] := by
    rw [← hm]; simp [splice, Lib.byteCells]
  unfold Row8; rw [← e]; exact h
theorem splice8 (l : List UInt8) (rest : List Value) (off : Nat) (x : List UInt8) (h : off + x.length ≤ l.length) : splice (Lib.byteCells l ++ rest) off (Lib.byteCells x) = Lib.byteCells (splice l off x) ++ rest := by
  unfold splice
  rw [cells8_app, cells8_app, cells8_len, List.take_append_of_le_length (by rw [cells8_len]; omega), List.drop_append_of_le_length (by rw [cells8_len]; omega)]
  simp [Lib.byteCells, List.map_take, List.map_drop]
/-- The same into a block of bytes known whole. -/
theorem wpList_copy_row8 {w : World} {ops : Array Oper} {rest : List Oper} {o : Oper} {a : Act} {Q : Exit → Act → World → Prop} (hgd : o.guard = none) (d s : Operand)
    (ho : o.op = .call { callee := .builtin .copy, args := #[d, s], argTypes := #[22, 9] }) (dp : Option Addr) (dLen dCap : Nat) (x : ByteArray) (hd : a.eval d = .slice dp dLen dCap) (hs : a.eval s = .string x)
    (g off : Nat) (L m : List UInt8) (r : List Value) (hg : Row8 w g L r) (l : List UInt8) (hl : l = x.data.toList.take dLen) (hpos : 0 < l.length → dp = some ⟨g, off, none⟩) (hfit : off + l.length ≤ L.length) (hm : splice L off l = m)
    (B : Nat) (w0 : World) (hb : Below B w0 w) (hBg : B ≤ g)
    (h : ∀ w', Hid (Row8 w' g m r) → Below B w0 w' → wpList Tryz.prog ops Q rest (a.put o.dst (goInt l.length)) w') : wpList Tryz.prog ops Q (o :: rest) a w := by
  refine wpList_copy_str hgd d s 22 9 ho 5 Tryz.underlying22 info8s dp dLen dCap x hd hs g off (Lib.byteCells L ++ r) 5 hg l hl hpos (by rw [List.length_append, cells8_len]; omega) B w0 hb hBg fun w' h1 h2 => h w' ?_ h2
  have e := h1.out
  rw [splice8 L r off l hfit, hm] at e
  exact e
theorem take8 {s : ByteArray} {n : Nat} (h : s.size ≤ n) : s.data.toList = s.data.toList.take n := (List.take_of_length_le (by rw [len8]; exact h)).symm
theorem byte_cells_len0 (l : List UInt8) : (Lib.byteCells l ++ []).length = l.length := by simp [Lib.byteCells]
end Go.Proofs.YtfhakailbikjkaaGreatDoor
/- CompareTexts of the program and of the reference model, and the walk of the law on it. No conditions. -/
namespace Go.Proofs.YtfhakailbikjkaaGreatDoor
open Go.RowKit
set_option linter.unusedVariables false

theorem cmp_at (l r : List UInt8) (k : Nat) (hl : k < l.length) (hr : k < r.length) : Lib.compareBytes (l.drop k) (r.drop k) = if l[k] < r[k] then -1 else if r[k] < l[k] then 1 else Lib.compareBytes (l.drop (k + 1)) (r.drop (k + 1)) := by
  rw [List.drop_eq_getElem_cons hl, List.drop_eq_getElem_cons hr]; rfl
/-- The comparison, from the byte k on. -/
def cmpTo (a b : ByteArray) (k : Nat) : Int := Lib.compareBytes (a.data.toList.drop k) (b.data.toList.drop k)
theorem cmpTo_lt {a b : ByteArray} {k : Nat} (ha : k < a.size) (hb : k < b.size) (h : (a[k].toNat : Int) < b[k].toNat) : cmpTo a b k = -1 := by
  unfold cmpTo
  rw [cmp_at _ _ k ha hb, if_pos]
  exact UInt8.lt_iff_toNat_lt.2 (by have : a[k].toNat < b[k].toNat := by omega
                                    exact this)
theorem cmpTo_gt {a b : ByteArray} {k : Nat} (ha : k < a.size) (hb : k < b.size) (h : (b[k].toNat : Int) < a[k].toNat) : cmpTo a b k = 1 := by
  unfold cmpTo
  have h1 : b[k].toNat < a[k].toNat := by omega
  rw [cmp_at _ _ k ha hb, if_neg, if_pos]
  · exact UInt8.lt_iff_toNat_lt.2 h1
  · intro h2
    have h3 : a[k].toNat < b[k].toNat := UInt8.lt_iff_toNat_lt.1 h2
    omega
theorem cmpTo_next {a b : ByteArray} {k : Nat} (ha : k < a.size) (hb : k < b.size) (h1 : ¬ (a[k].toNat : Int) < b[k].toNat) (h2 : ¬ (b[k].toNat : Int) < a[k].toNat) : cmpTo a b k = cmpTo a b (k + 1) := by
  unfold cmpTo
  rw [cmp_at _ _ k ha hb, if_neg, if_neg]
  · intro h
    have h3 : b[k].toNat < a[k].toNat := UInt8.lt_iff_toNat_lt.1 h
    omega
  · intro h
    have h3 : a[k].toNat < b[k].toNat := UInt8.lt_iff_toNat_lt.1 h
    omega
theorem cmp_nil (l r : List UInt8) (h : l = [] ∨ r = []) : Lib.compareBytes l r = if l.length < r.length then -1 else if r.length < l.length then 1 else 0 := by
  rcases l with _ | ⟨x, l⟩
  · rcases r with _ | ⟨y, r⟩
    · rfl
    · simp [Lib.compareBytes]
  · rcases r with _ | ⟨y, r⟩
    · simp [Lib.compareBytes]
    · simp at h
theorem cmpTo_end {a b : ByteArray} {k : Nat} (ha : k ≤ a.size) (hb : k ≤ b.size) (h : ¬ (k < a.size ∧ k < b.size)) : cmpTo a b k = if a.size < b.size then -1 else if b.size < a.size then 1 else 0 := by
  unfold cmpTo
  have la : a.data.toList.length = a.size := rfl
  have lb : b.data.toList.length = b.size := rfl
  rw [cmp_nil, List.length_drop, List.length_drop, la, lb]
  · by_cases h1 : a.size < b.size
    · rw [if_pos h1, if_pos (by omega)]
    · rw [if_neg h1, if_neg (by omega)]
      by_cases h2 : b.size < a.size
      · rw [if_pos h2, if_pos (by omega)]
      · rw [if_neg h2, if_neg (by omega)]
  · rcases Nat.lt_or_ge k a.size with h1 | h1
    · right; apply List.drop_eq_nil_of_le; omega
    · left; apply List.drop_eq_nil_of_le; omega

def RetCmp (w : World) (a b : ByteArray) (e : Ending) (w' : World) : Prop := e = .returned (.int .i64 (cmpTo a b 0)) ∧ Below w.heap.size w w'

theorem drewN_below {B : Nat} {w wr : World} (h : Below B w wr) : ∀ n, Below B w (wr.drewN n)
  | 0 => h
  | n + 1 => ⟨h.1, h.2, h.3, h.4, h.5⟩

end Go.Proofs.YtfhakailbikjkaaGreatDoor
/- l3Pad of the reference model and bytes.Repeat of one byte. No conditions. -/
namespace Go.Proofs.YtfhakailbikjkaaGreatDoor
open Go.RowKit
set_option linter.unusedVariables false

theorem rep_snoc (k : Nat) (x : UInt8) : List.replicate k x ++ [x] = List.replicate (k + 1) x := (List.replicate_succ' ).symm
set_option maxHeartbeats 400000 in
theorem spec_padw (N : Nat) (x : UInt8) (w : World) (hN : (N : Int) ≤ 10000) : Calls Tryz.prog 14 #[.int .i64 N, .int .u8 (x.toNat : Int)] w (RetT w (str8 (List.replicate N x))) := by
  unfold RetT
  obtain ⟨i0, hi, hz0, hz1, hz2⟩ := info_parts info8
  go_enter Tryz.func14, Tryz.ntmps14
  go_wp2
  go_loopw [5, 6] (fun v i wr => ∃ k : Nat, i = .int .i64 k ∧ k ≤ N ∧ Own8 wr w.heap.size v (List.replicate k x) ∧ Below w.heap.size w wr) (fun _ i _ => N - (intOf i).toNat)
  case atStart => exact ⟨0, rfl, by omega, World.ownsRow_made w #[] 0 (Nat.le_refl _) (by unfold maxLen; omega) rfl, bl1 _ _⟩
  case round =>
    obtain ⟨k, rfl, hk, ho, hb⟩ := hrel
    have HO := Lib.hid ho
    have HB := Lib.hid hb
    have hsz := hb.size
    have hlen : (List.replicate k x).length = k := List.length_replicate
    by_cases hlt : (k : Int) < N
    · clear ho hb
      go_wp2_with (at_builtin; refine wpList_append_own _ rfl _ _ 22 rfl w.heap.size 5 i0 (.int .u8 0) 1 1 Tryz.underlying22 hi hz0 hz1 hz2 rfl (by decide) _ _ _ rfl (HO.out.alloc _) ⟨wr.heap.size, 0, none⟩ 1 1 [.int .u8 (x.toNat : Int)] rfl rfl ?c1 ?c2 ?c3 ?c4 ?c5 ?_)
      case c1 => exact new8 _ _ _
      case c2 => exact one8 _ _
      case c3 => exact max8 (by omega)
      case c4 => omega
      case c5 => simp; omega
      intro v' w2 hown' hgrow _
      have HO2 := Lib.hid (own8_app (l := List.replicate k x) (x := x) (by rw [hlen]; exact hown'))
      have HB2 := Lib.hid (below8_app HB.out HO.out hgrow)
      clear hown' hgrow
      go_wp2
      go_roundw
      case rel => exact ⟨k + 1, by go_num, by omega, by rw [← rep_snoc]; exact HO2.out, HB2.out⟩
      case measure => first | (simp [intOf]; done) | (simp [intOf]; omega)
    · obtain rfl : k = N := by omega
      have hc := conv8 ho
      clear ho hb
      go_wp2
      go_ret
      exact ⟨rfl, HB.out⟩

theorem spec_pad (N : Nat) (x : UInt8) (w : World) (hN : (N : Int) ≤ 1000) : Calls Tryz.prog 14 #[.int .i64 N, .int .u8 (x.toNat : Int)] w (RetT w (str8 (List.replicate N x))) := spec_padw N x w (by omega)

/-- Bytes that all are x, in a block of the call's own. -/
def RetRep (w : World) (N : Nat) (x : UInt8) (e : Ending) (w' : World) : Prop := ∃ g r, e = .returned (.slice (some ⟨g, 0, none⟩) N N) ∧ w.heap.size ≤ g ∧ Row8 w' g (List.replicate N x) r ∧ Below w.heap.size w w'

theorem splice_rep (k m : Nat) (x : UInt8) (r : List Value) (h : m ≤ r.length) : splice (Lib.byteCells (List.replicate k x) ++ r) k (List.replicate m (.int .u8 (x.toNat : Int))) = Lib.byteCells (List.replicate (k + m) x) ++ r.drop m := by
  have h1 : (Lib.byteCells (List.replicate k x)).length = k := by rw [cells8_len, List.length_replicate]
  unfold splice
  rw [List.length_replicate, List.take_append_of_le_length (by omega), List.take_of_length_le (by omega), List.drop_append, h1, List.drop_eq_nil_of_le (by omega), List.nil_append, show k + m - k = m by omega, ← List.append_assoc, cells8_rep, cells8_rep, List.replicate_append_replicate]

end Go.Proofs.YtfhakailbikjkaaGreatDoor
