/- Joined texts: R12, R13, K14, K15. No conditions besides those that each states. -/
import Derived.Deep.RegionHeld3
import Derived.Test.YtfhakailbikjkaaGreatDoorZ11
/- The program's scanner as a reader of tokens; where its Lex stands; the end of a statement. No conditions. -/
namespace Go.Proofs.YtfhakailbikjkaaGreatDoor
open Go.RowKit
set_option linter.unusedVariables false

def gapK (s : ByteArray) (k : Nat) : Nat := Tk.gapB false (s.data.toList.drop k)
def nlsK (s : ByteArray) (k : Nat) : Nat := Tk.nls ((s.data.toList.drop k).take (gapK s k))
theorem gapK_le (s : ByteArray) (k : Nat) (hk : k ≤ s.size) : k + gapK s k ≤ s.size := by
  have h := Tk.gap_le (s.data.toList.drop k) false
  rw [List.length_drop, len8] at h
  unfold gapK; omega
theorem nlsK_le (s : ByteArray) (k : Nat) : nlsK s k ≤ gapK s k := by
  have h := Tk.nls_le ((s.data.toList.drop k).take (gapK s k))
  rw [List.length_take] at h
  unfold nlsK; omega
theorem cut_from (s : ByteArray) (k : Nat) : s.extract k s.size = str8 (s.data.toList.drop k) := str_cut (str8_data s).symm k
theorem cut_mid2 (s : ByteArray) (k g : Nat) : s.extract k (k + g) = str8 ((s.data.toList.drop k).take g) := by
  apply str8_inj
  simp only [ByteArray.data_extract, Array.toList_extract, List.extract_eq_take_drop]
  rw [show k + g - k = g by omega]
theorem gap_call (s : ByteArray) (k : Nat) (hs : (s.size : Int) ≤ 1048576) : Hid (∀ W, Calls Tryz.prog 33 #[.string (str8 (s.data.toList.drop k))] W fun e w' => e = .returned (.int .i64 (gapK s k)) ∧ W = w') := by
  refine Lib.hid fun W => ?_
  have h := gap_any (str8 (s.data.toList.drop k)) W (by rw [str8_size, List.length_drop, len8]; omega)
  rw [str8_list] at h; exact h
theorem feed_call (s : ByteArray) (k : Nat) (hs : (s.size : Int) ≤ 1048576) : Hid (∀ W, Calls Tryz.prog 34 #[.string (str8 ((s.data.toList.drop k).take (gapK s k))), .int .u8 10] W fun e w' => e = .returned (.int .i64 (nlsK s k)) ∧ W = w') := by
  refine Lib.hid fun W => ?_
  have h := feeds_any (str8 ((s.data.toList.drop k).take (gapK s k))) W (by rw [str8_size, List.length_take, List.length_drop, len8]; omega)
  rw [str8_list] at h; exact h
theorem mid_size (s : ByteArray) (k : Nat) (hk : k ≤ s.size) : (str8 ((s.data.toList.drop k).take (gapK s k))).size = gapK s k := by
  have := gapK_le s k hk
  rw [str8_size, List.length_take, List.length_drop, len8]; omega
/-- The closure that scans. -/
abbrev scanV (h : Nat) : Array Value := #[.pointer (some ⟨h, 0, none⟩), .pointer (some ⟨h + 1, 0, none⟩), .pointer (some ⟨h + 2, 0, none⟩)]
theorem next_end (h k line : Nat) (s : ByteArray) (w : World) (hsc : Scan w h s k line) (hs : (s.size : Int) ≤ 1048576) (hk : k ≤ s.size) (hl : (line : Int) ≤ 1048577) (hg : k + gapK s k = s.size) :
    Calls Tryz.prog 32 (scanV h) w fun e w' => e = .returned (.tuple #[.agg #[.int .i64 0, .string ByteArray.empty, .int .i64 0], .bool true]) ∧ Scan w' h s (k + gapK s k) (line + nlsK s k) ∧ Past h w w' :=
  scan_end h k line (gapK s k) (nlsK s k) s _ _ w hsc hs hg (cut_from s k) (cut_mid2 s k _) (mid_size s k hk) (nlsK_le s k) hl (gap_call s k hs) (feed_call s k hs)
theorem next_tok (h k line : Nat) (s : ByteArray) (w : World) (hsc : Scan w h s k line) (hs : (s.size : Int) ≤ 1048576) (hk : k ≤ s.size) (hl : (line : Int) ≤ 1048577) (hg : k + gapK s k < s.size) (a : Addr) (hSa : SentAt a w) (hgl : 1 < h)
    (o : Option (Nat × List UInt8 × Nat)) (ho : Tk.one denM (s.data.toList.drop (k + gapK s k)) = o) (m : Nat) (hm : tkN o = m) (hmz : (m : Int) ≤ 1048576) :
    Calls Tryz.prog 32 (scanV h) w fun e w' => e = .returned (.tuple #[.agg #[.int .i64 (tkK o), .string (tkT o), .int .i64 ((line + nlsK s k : Nat) : Int)], .bool (!(tkK o == 0))]) ∧ Scan w' h s (k + gapK s k + m) (line + nlsK s k) ∧ Past h w w' :=
  scan_tok h k line (gapK s k) (nlsK s k) s _ _ w hsc hs hg (cut_from s k) (cut_mid2 s k _) (mid_size s k hk) (nlsK_le s k) hl (gap_call s k hs) (feed_call s k hs)
    _ (cut_from s _) (tkK o) (tkT o) m hmz a hSa hgl (Lib.hid fun W hW => by
      have h2 := read_at (read_tok a (str8 (s.data.toList.drop (k + gapK s k))) W hW (by rw [str8_size, List.length_drop, len8]; omega) (by rw [str8_size, List.length_drop, len8]; omega))
      rw [str8_list, ho, hm] at h2; exact h2)

theorem gap_head (s : ByteArray) (k : Nat) (hg : k + gapK s k < s.size) : ∃ b r, s.data.toList.drop (k + gapK s k) = b :: r ∧ b ≠ 10 ∧ b ≠ 32 ∧ b ≠ 9 ∧ b ≠ 35 := by
  have h := Tk.gap_begin (s.data.toList.drop k) false
  rw [List.drop_drop] at h
  rcases h with h | h
  · have h2 := congrArg List.length h
    rw [List.length_drop, len8] at h2
    unfold gapK at hg
    simp at h2; omega
  · exact h
/-- Where Lex of the program stands. -/
def LexQ (w : World) (s : ByteArray) (R : Nat × List Tk.Tok) (k line : Nat) (out : List Tk.Tok) (v : Value) (wr : World) : Prop :=
  Tk.lexW denM (s.data.toList.drop k) line false out = R ∧ k ≤ s.size ∧ line ≤ k + 1 ∧ out.length ≤ 2 * k ∧ (∀ x, out.getLast? = some x → x.2.2 = line) ∧ OwnT wr (w.heap.size + 3) v (out.map toB) ∧ Scan wr w.heap.size s k line ∧ Below w.heap.size w wr
theorem LexQ.gap {w wr : World} {s : ByteArray} {R : Nat × List Tk.Tok} {k line : Nat} {out : List Tk.Tok} {v : Value} (h : LexQ w s R k line out v wr) :
    Tk.lexW denM (s.data.toList.drop (k + gapK s k)) (line + nlsK s k) (decide (0 < nlsK s k)) out = R := by
  have h1 := h.1
  rw [Tk.gap_lex0, List.drop_drop] at h1; exact h1
theorem LexQ.over {w wr : World} {s : ByteArray} {R : Nat × List Tk.Tok} {k line : Nat} {out : List Tk.Tok} {v : Value} (h : LexQ w s R k line out v wr) (hg : k + gapK s k = s.size) : R = (0, out) := by
  rw [← h.gap, hg, List.drop_eq_nil_of_le (show s.data.toList.length ≤ s.size from Nat.le_refl _), Tk.lexW_nil]
theorem LexQ.bad {w wr : World} {s : ByteArray} {R : Nat × List Tk.Tok} {k line : Nat} {out : List Tk.Tok} {v : Value} (h : LexQ w s R k line out v wr) (hg : k + gapK s k < s.size) (ho : Tk.one denM (s.data.toList.drop (k + gapK s k)) = none) : R = (line + nlsK s k, []) := by
  obtain ⟨b, r, e, h1, h2, h3, h4⟩ := gap_head s k hg
  have h5 := h.gap
  rw [e] at h5 ho
  rw [Tk.lexW_bad denM _ _ _ _ h1 h2 h3 h4 ho] at h5
  exact h5.symm
theorem LexQ.tok {w wr w1 : World} {s : ByteArray} {R : Nat × List Tk.Tok} {k line : Nat} {out : List Tk.Tok} {v v1 : Value} (h : LexQ w s R k line out v wr) (hg : k + gapK s k < s.size) {kd m : Nat} {t : List UInt8} (ho : Tk.one denM (s.data.toList.drop (k + gapK s k)) = some (kd, t, m)) (S : List Tk.Tok) (hS : Tk.semi out (decide (0 < nlsK s k)) kd t = S)
    (hown : OwnT w1 (w.heap.size + 3) v1 ((out ++ S ++ [(kd, t, line + nlsK s k)]).map toB)) (hsc : Scan w1 w.heap.size s (k + gapK s k + m) (line + nlsK s k)) (hb : Below w.heap.size w w1) : LexQ w s R (k + gapK s k + m) (line + nlsK s k) (out ++ S ++ [(kd, t, line + nlsK s k)]) v1 w1 := by
  obtain ⟨b, r, e, h1, h2, h3, h4⟩ := gap_head s k hg
  have h5 := h.gap
  have hp := Tk.one_pos ho
  have hle := one_le ho
  rw [List.length_drop, len8] at hle
  have hn := nlsK_le s k
  have hsl := semi_le out (decide (0 < nlsK s k)) kd t
  rw [e] at h5 ho
  rw [Tk.lexW_tok denM _ _ _ _ h1 h2 h3 h4 ho, ← e, List.drop_drop, hS] at h5
  rw [hS] at hsl
  refine ⟨h5, by omega, by have := h.2.2.1; omega, ?_, ?_, hown, hsc, hb⟩
  · have := h.2.2.2.1
    rw [List.length_append, List.length_append, List.length_singleton]; omega
  · intro x hx
    rw [List.getLast?_concat] at hx
    rw [← Option.some.inj hx]
theorem LexQ.start (w wr : World) (s : ByteArray) (h : s.data.toList.length ≤ 6000) (hsc : Scan wr w.heap.size s 0 1) (hb : Below w.heap.size w wr) : LexQ w s (Tk.lex denM s.data.toList) 0 1 [] (.slice none 0 0) wr := by
  refine ⟨?_, Nat.zero_le _, Nat.le_refl _, by simp, (fun x hx => by cases hx), ownT_nil _ _, hsc, hb⟩
  unfold Tk.lex
  rw [if_neg (by omega)]; rfl
theorem semi_at (l0 : List Tk.Tok) (x : Tk.Tok) (fr : Bool) (kd : Nat) (t : List UInt8) : Tk.semi (l0 ++ [x]) fr kd t = if (fr && Tk.ends x.1 x.2.1 && Tk.begins kd t) = true then [(7, [59], x.2.2)] else [] := by
  unfold Tk.semi
  rw [List.getLast?_concat]
theorem semi_empty (fr : Bool) (kd : Nat) (t : List UInt8) : Tk.semi [] fr kd t = [] := rfl
theorem ownT_mono {w : World} {B B' : Nat} {v : Value} {l : List TokB} (h : OwnT w B v l) (hB : B' ≤ B) : OwnT w B' v l := by
  refine ⟨h.1, ?_⟩
  rcases h.2 with hn | ⟨g, cap, cur, hv, hg, r⟩
  · exact .inl hn
  · exact .inr ⟨g, cap, cur, hv, Nat.le_trans hB hg, r⟩
theorem ownT_past {h : Nat} {w w1 : World} {v : Value} {l : List TokB} (x : OwnT w (h + 3) v l) (p : Past h w w1) : OwnT w1 (h + 3) v l := by
  refine ⟨x.1, ?_⟩
  rcases x.2 with hn | ⟨g, cap, cur, hv, hg, hgg, r⟩
  · exact .inl hn
  · exact .inr ⟨g, cap, cur, hv, hg, by rw [p.2 g hg (Array.getElem?_eq_some_iff.1 hgg).1]; exact hgg, r⟩
theorem Scan.far {w w1 : World} {h k line : Nat} {s : ByteArray} (x : Scan w h s k line) (hb : Below (h + 3) w w1) : Scan w1 h s k line :=
  ⟨by rw [hb.block h (by omega)]; exact x.1, by rw [hb.block (h + 1) (by omega)]; exact x.2.1, by rw [hb.block (h + 2) (by omega)]; exact x.2.2⟩
/-- The place that the scanner keeps. -/
def offOf (w : World) (h : Nat) : Nat := match w.cell? ⟨h + 1, 0, none⟩ with
  | some v => (intOf v).toNat
  | none => 0
theorem offOf_scan {w : World} {h k line : Nat} {s : ByteArray} (x : Scan w h s k line) : offOf w h = k := by
  unfold offOf
  rw [x.cells.2.1]
  simp [intOf]

set_option maxHeartbeats 800000 in
theorem ends_stmt (k1 : Int) (t1 : ByteArray) (l1 : Int) (k2 : Int) (t2 : ByteArray) (l2 : Int) (w : World) : Calls Tryz.prog 17 #[tokV k1 t1 l1, tokV k2 t2 l2] w fun e w' => e = .returned (.bool (!(l1 == l2) && Tk.ends k1 t1.data.toList && Tk.begins k2 t2.data.toList)) ∧ Below w.heap.size w w' := by
  have HE := Lib.hid (fun W => impl_ends k1 t1 l1 W)
  have HG := Lib.hid (fun W => impl_begins k2 t2 l2 W)
  have B0 := Lib.hid (Below.alloc (bl1 w (.cells #[.int .i64 k1, .string t1, .int .i64 l1] 31)) (bl1 w (.cells #[.int .i64 k1, .string t1, .int .i64 l1] 31)).size (.cells #[.int .i64 k2, .string t2, .int .i64 l2] 31))
  have F0 := Lib.hid (FreeTok.new (w.alloc (.cells #[.int .i64 k1, .string t1, .int .i64 l1] 31)) k2 t2 l2 31)
  have Z : (w.alloc (.cells #[.int .i64 k1, .string t1, .int .i64 l1] 31)).heap.size = w.heap.size + 1 := by simp
  rw [Z] at F0
  clear Z
  unfold tokV at HE HG ⊢
  by_cases hq : l1 = l2
  · subst hq
    rw [beq_self_eq_true]
    clear HE HG
    go_enter Tryz.func17, Tryz.ntmps17
    go_wp2
    go_ret
    exact ⟨rfl, B0.out⟩
  · rw [beq_eq_false_iff_ne.2 hq]
    have hn : (l1 != l2) = true := bne_iff_ne.2 hq
    clear hq
    cases he : Tk.ends k1 t1.data.toList
    · rw [he] at HE
      clear he HG
      go_enter Tryz.func17, Tryz.ntmps17
      go_wp2_with (first | (go_at_call 36; refine (HE.out _).mono ?_; rintro e w1 ⟨rfl, hb1⟩; have B1 := Lib.hid (below_step B0.out hb1); clear hb1))
      go_ret
      exact ⟨rfl, B1.out⟩
    · rw [he] at HE
      clear he
      generalize Tk.begins k2 t2.data.toList = b at HG ⊢
      go_enter Tryz.func17, Tryz.ntmps17
      go_wp2_with (first | (go_at_call 36; refine (HE.out _).mono ?_; rintro e w1 ⟨rfl, hb1⟩; have B1 := Lib.hid (below_step B0.out hb1); obtain ⟨⟨r0, r1, r2⟩, _⟩ := F0.out.later hb1; clear hb1) | (go_at_call 37; refine (HG.out _).mono ?_; rintro e w2 ⟨rfl, hb2⟩; have B2 := Lib.hid (below_step B1.out hb2); clear hb2))
      go_ret
      exact ⟨rfl, B2.out⟩
end Go.Proofs.YtfhakailbikjkaaGreatDoor
/- Lex of the program: its walk. No conditions. -/
namespace Go.Proofs.YtfhakailbikjkaaGreatDoor
open Go.RowKit
set_option linter.unusedVariables false

theorem far_app {wr w1 : World} {h : Nat} {v : Value} {l : List TokB} {o : Obj} (hz : h + 3 ≤ wr.heap.size) (hown : OwnT wr (h + 3) v l) (hg : (wr.alloc o).grownBy w1 v.ownBlock) : Below (h + 3) wr w1 :=
  ((Below.refl _ _).alloc hz o).grown hg (by simp; omega) (fun k hk => (hown.lt k hk).1)
theorem nil_or_last (l : List Tk.Tok) : l = [] ∨ ∃ l0 x, l = l0 ++ [x] := by
  rcases List.eq_nil_or_concat l with rfl | ⟨l0, x, rfl⟩
  · exact .inl rfl
  · exact .inr ⟨l0, x, List.concat_eq_append ..⟩
theorem tok_bool {kd m : Nat} {t : List UInt8} {z : Int} (h : 1 ≤ kd) : Ending.returned (.tuple #[.agg #[.int .i64 (tkK (some (kd, t, m))), .string (tkT (some (kd, t, m))), .int .i64 z], .bool (!(tkK (some (kd, t, m)) == 0))]) = .returned (.tuple #[.agg #[.int .i64 (kd : Int), .string (str8 t), .int .i64 z], .bool true]) := by
  have e : ((kd : Int) == 0) = false := beq_eq_false_iff_ne.2 (by omega)
  show Ending.returned (.tuple #[.agg #[.int .i64 (kd : Int), .string (str8 t), .int .i64 z], .bool (!((kd : Int) == 0))]) = _
  rw [e]; rfl

set_option maxRecDepth 100000 in
set_option maxHeartbeats 6400000 in
theorem impl_lex (s : ByteArray) (w : World) (hS : Sent w) : Calls Tryz.prog 6 #[.string s] w (RetLex w (Tk.lex denM s.data.toList)) := by
  unfold RetLex
  obtain ⟨i0, hi, hz0, hz1, hz2⟩ := info_parts info_tok
  obtain ⟨a, hSa⟩ := hS
  by_cases hbig : 6000 < s.size
  · have e : Tk.lex denM s.data.toList = (1, []) := by unfold Tk.lex; exact if_pos hbig
    rw [e]
    have hb : (6000 : Int) < s.size := by omega
    clear e hbig hSa
    go_enter Tryz.func6, Tryz.ntmps6
    go_wp2
    go_ret2
    exact ⟨_, rfl, ownT_nil _ _, Below.refl _ _⟩
  · have hs : (s.size : Int) ≤ 6000 := by omega
    have hsm : (s.size : Int) ≤ 1048576 := by omega
    have HST := Lib.hid (fun wr h1 h2 => LexQ.start w wr s (by show s.size ≤ 6000; omega) h1 h2)
    generalize Tk.lex denM s.data.toList = R at HST ⊢
    have HNW := Lib.hid (scanner_new s w)
    have HSA := Lib.hid hSa
    have HGL := Lib.hid (sentAt_lt hSa)
    clear hbig hSa
    go_enter Tryz.func6, Tryz.ntmps6
    go_wp2_with (go_at_call 16; refine HNW.out.mono ?_; rintro e w0 ⟨rfl, hsc0, hb0, hz9⟩; have HS0 := Lib.hid (HST.out _ hsc0 hb0); clear hsc0 hb0 hz9)
    go_loopw [2, 3, 5, 6, 7] (fun _ _ v _ _ wr => ∃ (k line : Nat) (out : List Tk.Tok), LexQ w s R k line out v wr) (fun _ _ _ _ _ wr => s.size - offOf wr w.heap.size)
    case atStart => exact ⟨0, 1, [], HS0.out⟩
    case round =>
      clear HST HNW HS0
      obtain ⟨k, line, out, hat⟩ := hrel
      have HAT := Lib.hid hat
      obtain ⟨_, hk, hline, hol, hlast, hown, hsc, hbw⟩ := hat
      have HOFF := Lib.hid (offOf_scan hsc)
      have hle := gapK_le s k hk
      have HLAST := Lib.hid hlast
      have HOWN := Lib.hid hown
      have HBW := Lib.hid hbw
      have hl1 : (line : Int) ≤ 1048577 := by omega
      have hnl := nlsK_le s k
      by_cases hg : k + gapK s k = s.size
      · have HN := Lib.hid (next_end w.heap.size k line s _ hsc hsm hk hl1 hg)
        have HOV := Lib.hid (HAT.out.over hg)
        clear hg hsc hown hbw hlast HAT hle hnl
        go_wp2_with (go_at_call 32; refine HN.out.mono ?_; rintro e w1 ⟨rfl, hsc1, hp1⟩; have HO1 := Lib.hid (ownT_mono (ownT_below (ownT_past HOWN.out hp1) (bl1 w1 (.cells #[.int .i64 0, .string ByteArray.empty, .int .i64 0] 31))) (Nat.le_add_right w.heap.size 3)); have HB1 := Lib.hid (below_step (HBW.out.trans hp1.1) (bl1 w1 (.cells #[.int .i64 0, .string ByteArray.empty, .int .i64 0] 31))); clear hsc1 hp1)
        go_ret2
        exact ⟨_, by rw [HOV.out]; rfl, by rw [HOV.out]; exact HO1.out, HB1.out⟩
      · have hg2 : k + gapK s k < s.size := by omega
        have hSr := sentAt_below HSA.out hbw
        cases ho : Tk.one denM (s.data.toList.drop (k + gapK s k)) with
        | none =>
          have HN : Hid (Calls Tryz.prog 32 (scanV w.heap.size) _ fun e w' => e = .returned (.tuple #[.agg #[.int .i64 0, .string ByteArray.empty, .int .i64 ((line + nlsK s k : Nat) : Int)], .bool false]) ∧ Scan w' w.heap.size s (k + gapK s k + 0) (line + nlsK s k) ∧ Past w.heap.size _ w') := Lib.hid (next_tok w.heap.size k line s _ hsc hsm hk hl1 hg2 a hSr HGL.out none ho 0 rfl (by decide))
          have HBAD := Lib.hid (HAT.out.bad hg2 ho)
          generalize line + nlsK s k = z at HN HBAD
          clear hg hg2 hsc hown hbw hlast HAT hle hnl hSr ho
          have HF1 := Lib.hid (fun w1 => FreeTok.new w1 0 ByteArray.empty (z : Int) 31)
          go_wp2_with (go_at_call 32; refine HN.out.mono ?_; rintro e w1 ⟨rfl, hsc1, hp1⟩; have HB1 := Lib.hid (below_step (HBW.out.trans hp1.1) (bl1 w1 (.cells #[.int .i64 0, .string ByteArray.empty, .int .i64 (z : Int)] 31))); obtain ⟨⟨r0, r1, r2⟩, _⟩ := HF1.out w1; clear hsc1 hp1)
          go_quiet (fail)
          go_wp2
          go_ret2
          exact ⟨_, by rw [HBAD.out]; rfl, by rw [HBAD.out]; exact ownT_nil _ _, below_drewN HB1.out _⟩
        | some y =>
          obtain ⟨kd, t, m⟩ := y
          have hkd := one_kind ho
          have hm1 := Tk.one_pos ho
          have hm2 := one_le ho
          rw [List.length_drop, len8] at hm2
          have hmz : (m : Int) ≤ 1048576 := by omega
          have HN : Hid (Calls Tryz.prog 32 (scanV w.heap.size) _ fun e w' => e = .returned (.tuple #[.agg #[.int .i64 (kd : Int), .string (str8 t), .int .i64 ((line + nlsK s k : Nat) : Int)], .bool true]) ∧ Scan w' w.heap.size s (k + gapK s k + m) (line + nlsK s k) ∧ Past w.heap.size _ w') := Lib.hid ((next_tok w.heap.size k line s _ hsc hsm hk hl1 hg2 a hSr HGL.out _ ho m rfl hmz).mono fun e w' hh => ⟨hh.1.trans (tok_bool hkd), hh.2⟩)
          have HTK := Lib.hid (fun w1 v1 S hS h1 h2 h3 => HAT.out.tok (w1 := w1) (v1 := v1) hg2 ho S hS h1 h2 h3)
          have hk0 : ((kd : Int) == 0) = false := beq_eq_false_iff_ne.2 (by omega)
          have hout : out.length + 2 ≤ 13000 := by omega
          have hz0' : nlsK s k = 0 ∨ 0 < nlsK s k := by omega
          generalize hd : decide (0 < nlsK s k) = fr at HTK
          generalize hzz : line + nlsK s k = z at HN HTK
          have hfr : (!((line : Int) == (z : Int))) = fr := by
            rw [← hd, ← hzz]
            rcases hz0' with h | h
            · rw [h]; simp
            · rw [decide_eq_true h, beq_eq_false_iff_ne.2 (by omega)]; rfl
          have hkn : k + gapK s k + m ≤ s.size := by omega
          have hkm : k < k + gapK s k + m := by omega
          generalize k + gapK s k + m = k2 at HN HTK hkn hkm
          clear hd hzz hz0' hg hg2 hsc hown hbw hlast HAT hle hnl hSr ho hm1 hm2 hmz
          have HF1 := Lib.hid (fun w1 => FreeTok.new w1 (kd : Int) (str8 t) (z : Int) 31)
          have HBL := Lib.hid (fun w1 => bl1 w1 (.cells #[.int .i64 (kd : Int), .string (str8 t), .int .i64 (z : Int)] 31))
          rcases nil_or_last out with rfl | ⟨l0, x, rfl⟩
          · obtain ⟨sa, sc, rfl⟩ := ownT_len HOWN.out
            go_wp2_with (go_at_call 32; refine HN.out.mono ?_; rintro e w1 ⟨rfl, hsc1, hp1⟩; have HO1 := Lib.hid (ownT_below (ownT_past HOWN.out hp1) (HBL.out w1)); have HB1 := Lib.hid (below_step (HBW.out.trans hp1.1) (HBL.out w1)); have HS1 := Lib.hid (hsc1.later (HBL.out w1)); have HF2 := Lib.hid (HF1.out w1); obtain ⟨⟨r0, r1, r2⟩, _⟩ := HF2.out; clear hsc1 hp1)
            have hsemi := semi_empty fr kd t
            have HT := Lib.hid (fun w1 v1 h1 h2 h3 => HTK.out w1 v1 [] hsemi (by rw [List.append_nil]; exact h1) h2 h3)
            clear hsemi HTK hfr
            generalize hW5 : w1.alloc (.cells #[.int .i64 (kd : Int), .string (str8 t), .int .i64 (z : Int)] 31) = w5 at HO1 HB1 HS1 HF2 r0 r1 r2 ⊢
            clear hW5
            generalize hb5 : w1.heap.size = b5 at HF2 r0 r1 r2 ⊢
            clear hb5
            go_quiet (fail)
            have HO6 := Lib.hid (ownT_drewN HO1.out nq)
            have HB6 := Lib.hid (below_drewN HB1.out nq)
            have HS6 := Lib.hid (HS1.out.drewN nq)
            have HF6 := Lib.hid (HF2.out.drewN nq)
            clear HO1 HB1 HS1 HF2 r0 r1 r2
            generalize w5.drewN nq = w6 at HO6 HB6 HS6 HF6 ⊢
            obtain ⟨⟨r0, r1, r2⟩, _⟩ := HF6.out
            go_wp2_with (first | (at_builtin; refine wpList_append_own _ rfl _ _ 25 rfl (w.heap.size + 3) 31 i0 (.agg #[.int .i64 0, .string ByteArray.empty, .int .i64 0]) 3 32 Tryz.underlying25 hi hz0 hz1 hz2 rfl (by decide) _ _ _ rfl (HO6.out.alloc _) ⟨w6.heap.size, 0, none⟩ 1 1 [.int .i64 (kd : Int), .string (str8 t), .int .i64 (z : Int)] rfl rfl ?d1 ?d2 ?d3 ?d4 ?d5 ?_))
            case d1 => exact new_tok2 _ _ (by simp) _ _ _ _
            case d2 => exact one_tok _ _ _
            case d3 => exact max_small (by first | omega | (simp; done) | (simp; omega))
            case d4 => first | omega | (simp; done) | (simp; omega)
            case d5 => have := HS6.out.lt; simp; omega
            intro v9 w9 hown9 hgrow9 _
            have HO9 := Lib.hid (own_last ([]) (kd, t, z) hown9 (by first | rfl | (simp; done)) (by first | rfl | (simp; done)))
            have hfar9 := far_app (show w.heap.size + 3 ≤ w6.heap.size by have := HS6.out.lt; omega) HO6.out hgrow9
            have HS9 := Lib.hid (HS6.out.far hfar9)
            have HB9 := Lib.hid (HB6.out.trans (hfar9.mono (Nat.le_add_right _ 3)))
            clear hfar9
            clear hown9 hgrow9
            go_wp2
            go_roundw
            case rel => exact ⟨k2, z, _, HT.out _ _ HO9.out HS9.out HB9.out⟩
            case measure => rw [offOf_scan HS9.out, HOFF.out]; omega
          · have hl9 : (List.map toB (l0 ++ [x])).length = l0.length + 1 := by simp
            obtain ⟨g, cap, hv, hg1, hg3, hg4⟩ := ownT_some HOWN.out (by simp)
            rw [hl9] at hv
            subst hv
            have HGL2 := Lib.hid (HOWN.out.lt g rfl).2
            have hx2 : x.2.2 = line := HLAST.out x (by simp)
            have hlen : l0.length + 3 ≤ 13000 := by rw [List.length_append, List.length_singleton] at hout; omega
            have HES := Lib.hid (fun W => ends_stmt x.1 (str8 x.2.1) x.2.2 kd (str8 t) z W)
            have HSM := semi_at l0 x fr kd t
            rw [str8_list, str8_list, hx2, hfr] at HES
            generalize (fr && Tk.ends x.1 x.2.1 && Tk.begins kd t) = b at HES HSM
            rw [← hx2] at HES
            have HSM2 := Lib.hid HSM
            clear HSM hfr hx2 HLAST hout hol hg1 hg3 hg4 hl9
            unfold tokV at HES
            go_wp2_with (go_at_call 32; refine HN.out.mono ?_; rintro e w1 ⟨rfl, hsc1, hp1⟩; have HO1 := Lib.hid (ownT_below (ownT_past HOWN.out hp1) (HBL.out w1)); have HB1 := Lib.hid (below_step (HBW.out.trans hp1.1) (HBL.out w1)); have HS1 := Lib.hid (hsc1.later (HBL.out w1)); have HZ1 := Lib.hid (Nat.lt_of_lt_of_le HGL2.out hp1.1.size); have HF2 := Lib.hid (HF1.out w1); obtain ⟨⟨r0, r1, r2⟩, _⟩ := HF2.out; clear hsc1 hp1)
            generalize hW5 : w1.alloc (.cells #[.int .i64 (kd : Int), .string (str8 t), .int .i64 (z : Int)] 31) = w5 at HO1 HB1 HS1 HF2 r0 r1 r2 ⊢
            clear hW5
            generalize hb5 : w1.heap.size = b5 at HF2 r0 r1 r2 HZ1 ⊢
            clear hb5
            obtain ⟨q0, q1, q2⟩ := last_cell rfl HO1.out
            have hd10 : decide ((0 : Int) < (l0.length : Int) + 1) = true := decide_eq_true (by omega)
            have hi0 : (0 : Int) ≤ (l0.length : Int) := by omega
            have hi1 : (l0.length : Int) < (l0.length : Int) + 1 := by omega
            have hwl : IntKind.i64.wrap (l0.length : Int) = (l0.length : Int) := IntWalk.i64_in _ (by omega)
            go_still_tail 11, (by kernel_rfl)
            change wpList _ _ _ _ _ w5.drew
            have HO6 : Hid (OwnT w5.drew (w.heap.size + 3) (.slice (some ⟨g, 0, none⟩) (l0.length + 1) cap) ((l0 ++ [x]).map toB)) := Lib.hid (ownT_drewN HO1.out 1)
            have HB6 := Lib.hid HB1.out.drew
            have HS6 := Lib.hid HS1.out.drew
            have HF6 := Lib.hid HF2.out.drew
            clear hwl hi0 hi1 hd10 HO1 HB1 HS1 HF2 r0 r1 r2 q0 q1 q2
            generalize w5.drew = w6 at HO6 HB6 HS6 HF6 ⊢
            cases b
            · have hsemi := HSM2.out
              rw [if_neg (by decide)] at hsemi
              have HT := Lib.hid (fun w1 v1 h1 h2 h3 => HTK.out w1 v1 [] hsemi (by rw [List.append_nil]; exact h1) h2 h3)
              clear HSM2 hsemi HTK
              go_wp2_with (first | (go_at_call 17; refine (HES.out _).mono ?_; rintro e w7 ⟨rfl, hb7⟩; have HO7 := Lib.hid (ownT_below HO6.out hb7); have HB7 := Lib.hid (below_step HB6.out hb7); have HS7 := Lib.hid (HS6.out.later hb7); have HF7 := Lib.hid (HF6.out.later hb7); obtain ⟨⟨r0, r1, r2⟩, _⟩ := HF7.out; clear hb7) | (at_builtin; refine wpList_append_own _ rfl _ _ 25 rfl (w.heap.size + 3) 31 i0 (.agg #[.int .i64 0, .string ByteArray.empty, .int .i64 0]) 3 32 Tryz.underlying25 hi hz0 hz1 hz2 rfl (by decide) _ _ _ rfl (HO7.out.alloc _) ⟨w7.heap.size, 0, none⟩ 1 1 [.int .i64 (kd : Int), .string (str8 t), .int .i64 (z : Int)] rfl rfl ?a1 ?a2 ?a3 ?a4 ?a5 ?_))
              case a1 => exact new_tok2 _ _ (by simp) _ _ _ _
              case a2 => exact one_tok _ _ _
              case a3 => exact max_small (by first | omega | (simp; done) | (simp; omega))
              case a4 => first | omega | (simp; done) | (simp; omega)
              case a5 => have := HS7.out.lt; simp; omega
              intro v9 w9 hown9 hgrow9 _
              have HO9 := Lib.hid (own_last (l0 ++ [x]) (kd, t, z) hown9 (by first | rfl | (simp; done)) (by first | rfl | (simp; done)))
              have hfar9 := far_app (show w.heap.size + 3 ≤ w7.heap.size by have := HS7.out.lt; omega) HO7.out hgrow9
              have HS9 := Lib.hid (HS7.out.far hfar9)
              have HB9 := Lib.hid (HB7.out.trans (hfar9.mono (Nat.le_add_right _ 3)))
              clear hfar9
              clear hown9 hgrow9
              go_wp2
              go_roundw
              case rel => exact ⟨k2, z, _, HT.out _ _ HO9.out HS9.out HB9.out⟩
              case measure => rw [offOf_scan HS9.out, HOFF.out]; omega
            · have hsemi := HSM2.out
              rw [if_pos rfl] at hsemi
              have HT := Lib.hid (fun w1 v1 h1 h2 h3 => HTK.out w1 v1 _ hsemi h1 h2 h3)
              clear HSM2 hsemi HTK
              go_wp2_with (first | (go_at_call 17; refine (HES.out _).mono ?_; rintro e w7 ⟨rfl, hb7⟩; have HO7 := Lib.hid (ownT_below HO6.out hb7); have HB7 := Lib.hid (below_step HB6.out hb7); have HS7 := Lib.hid (HS6.out.later hb7); have HF7 := Lib.hid (HF6.out.later hb7); obtain ⟨q0, q1, q2⟩ := last_cell rfl HO7.out; clear hb7) | (at_builtin; refine wpList_append_own _ rfl _ _ 25 rfl (w.heap.size + 3) 31 i0 (.agg #[.int .i64 0, .string ByteArray.empty, .int .i64 0]) 3 32 Tryz.underlying25 hi hz0 hz1 hz2 rfl (by decide) _ _ _ rfl (HO7.out.alloc _) ⟨w7.heap.size, 0, none⟩ 1 1 [.int .i64 7, .string (str8 [59]), .int .i64 (x.2.2 : Int)] rfl rfl ?b1 ?b2 ?b3 ?b4 ?b5 ?_))
              case b1 => exact new_tok2 _ _ (by simp) _ _ _ _
              case b2 => exact one_tok _ _ _
              case b3 => exact max_small (by first | omega | (simp; done) | (simp; omega))
              case b4 => first | omega | (simp; done) | (simp; omega)
              case b5 => have := HS7.out.lt; simp; omega
              intro v8 w8 hown8 hgrow8 _
              have HO8 := Lib.hid (own_last (l0 ++ [x]) (7, [59], x.2.2) hown8 (by first | rfl | (simp; done)) (by first | rfl | (simp; done)))
              have hfar8 := far_app (show w.heap.size + 3 ≤ w7.heap.size by have := HS7.out.lt; omega) HO7.out hgrow8
              have HS8 := Lib.hid (HS7.out.far hfar8)
              have HB8 := Lib.hid (HB7.out.trans (hfar8.mono (Nat.le_add_right _ 3)))
              clear hfar8
              have HF8 := Lib.hid (FreeTok.grown (HF7.out.later (bl1 _ _)) hgrow8 (by intro e; have h2 : b5 = g := Option.some.inj e; have h3 := HZ1.out; omega))
              clear hown8 hgrow8
              obtain ⟨r0, r1, r2⟩ := HF8.out
              go_wp2_with (first | (at_builtin; refine wpList_append_own _ rfl _ _ 25 rfl (w.heap.size + 3) 31 i0 (.agg #[.int .i64 0, .string ByteArray.empty, .int .i64 0]) 3 32 Tryz.underlying25 hi hz0 hz1 hz2 rfl (by decide) _ _ _ rfl (HO8.out.alloc _) ⟨w8.heap.size, 0, none⟩ 1 1 [.int .i64 (kd : Int), .string (str8 t), .int .i64 (z : Int)] rfl rfl ?c1 ?c2 ?c3 ?c4 ?c5 ?_))
              case c1 => exact new_tok2 _ _ (by simp) _ _ _ _
              case c2 => exact one_tok _ _ _
              case c3 => exact max_small (by first | omega | (simp; done) | (simp; omega))
              case c4 => first | omega | (simp; done) | (simp; omega)
              case c5 => have := HS8.out.lt; simp; omega
              intro v9 w9 hown9 hgrow9 _
              have HO9 := Lib.hid (own_last (l0 ++ [x] ++ [(7, [59], x.2.2)]) (kd, t, z) hown9 (by first | rfl | (simp; done)) (by first | rfl | (simp; done)))
              have hfar9 := far_app (show w.heap.size + 3 ≤ w8.heap.size by have := HS8.out.lt; omega) HO8.out hgrow9
              have HS9 := Lib.hid (HS8.out.far hfar9)
              have HB9 := Lib.hid (HB8.out.trans (hfar9.mono (Nat.le_add_right _ 3)))
              clear hfar9
              clear hown9 hgrow9
              go_wp2
              go_roundw
              case rel => exact ⟨k2, z, _, HT.out _ _ HO9.out HS9.out HB9.out⟩
              case measure => rw [offOf_scan HS9.out, HOFF.out]; omega
end Go.Proofs.YtfhakailbikjkaaGreatDoor
/- Lex of the reference model: its walk. No conditions. -/
namespace Go.Proofs.YtfhakailbikjkaaGreatDoor
open Go.RowKit
set_option linter.unusedVariables false

set_option maxRecDepth 100000 in
set_option maxHeartbeats 3200000 in
theorem spec_lex (s : ByteArray) (w : World) : Calls Tryz.prog 7 #[.string s] w (RetLex w (Tk.lex denM s.data.toList)) := by
  unfold RetLex
  obtain ⟨i0, hi, hz0, hz1, hz2⟩ := info_parts info_tok
  by_cases hbig : 6000 < s.size
  · have e : Tk.lex denM s.data.toList = (1, []) := by unfold Tk.lex; exact if_pos hbig
    rw [e]
    have hb : (6000 : Int) < s.size := by omega
    clear e hbig
    go_enter Tryz.func7, Tryz.ntmps7
    go_wp2
    go_ret2
    exact ⟨_, rfl, ownT_nil _ _, Below.refl _ _⟩
  · have hst := LexAt.start w s (by show s.size ≤ 6000; omega)
    have hs : (s.size : Int) ≤ 6000 := by omega
    generalize Tk.lex denM s.data.toList = R at hst ⊢
    have HST := Lib.hid hst
    clear hst hbig
    go_enter Tryz.func7, Tryz.ntmps7
    go_wp2
    go_loopw [2, 3, 4, 5, 6, 7, 8, 9] (fun _ _ v ln fr i _ _ wr => ∃ (k line : Nat) (f : Bool) (out : List Tk.Tok), i = .int .i64 k ∧ ln = .int .i64 line ∧ fr = .bool f ∧ k ≤ s.size ∧ LexAt w s R k line f out v wr) (fun _ _ _ _ _ i _ _ _ => s.size - (intOf i).toNat)
    case atStart => exact ⟨0, 1, false, [], rfl, rfl, rfl, by omega, HST.out⟩
    case round =>
      clear HST
      obtain ⟨k, line, f, out, rfl, rfl, rfl, hk, hat⟩ := hrel
      have hline := hat.2.1
      have hol := hat.2.2.1
      have HAT := Lib.hid hat
      clear hat
      by_cases hlt : (k : Int) < s.size
      · have hks : k < s.size := by omega
        by_cases h10 : s[k] = 10
        · have t10 : ((s[k].toNat : Int) == 10) = true := by rw [h10]; rfl
          have HN := Lib.hid (HAT.out.line hks h10)
          clear h10
          go_wp2
          go_roundw
          case rel => exact ⟨k + 1, line + 1, true, out, by go_num, by go_num, rfl, by omega, HN.out⟩
          case measure => first | (simp [intOf]; done) | (simp [intOf]; omega)
        · have t10 : ((s[k].toNat : Int) == 10) = false := ne8 (b := 10) h10
          by_cases h32 : s[k] = 32
          · have t32 : ((s[k].toNat : Int) == 32) = true := by rw [h32]; rfl
            have HN := Lib.hid (HAT.out.blank hks (.inl h32))
            clear h10 h32
            go_wp2
            go_roundw
            case rel => exact ⟨k + 1, line, f, out, by go_num, rfl, rfl, by omega, HN.out⟩
            case measure => first | (simp [intOf]; done) | (simp [intOf]; omega)
          · have t32 : ((s[k].toNat : Int) == 32) = false := ne8 (b := 32) h32
            by_cases h9 : s[k] = 9
            · have t9 : ((s[k].toNat : Int) == 9) = true := by rw [h9]; rfl
              have HN := Lib.hid (HAT.out.blank hks (.inr h9))
              clear h10 h32 h9
              go_wp2
              go_roundw
              case rel => exact ⟨k + 1, line, f, out, by go_num, rfl, rfl, by omega, HN.out⟩
              case measure => first | (simp [intOf]; done) | (simp [intOf]; omega)
            · have t9 : ((s[k].toNat : Int) == 9) = false := ne8 (b := 9) h9
              by_cases h35 : s[k] = 35
              · have t35 : ((s[k].toNat : Int) == 35) = true := by rw [h35]; rfl
                have HN := Lib.hid (HAT.out.note hks h35)
                have hle := tw_le (fun c => c != 10) s.data.toList k (by show k ≤ s.size; omega)
                have HLT := Lib.hid (fun m h1 h2 => tw_lt (fun c => c != 10) s.data.toList k m h1 h2)
                have HEND := Lib.hid (fun m hm h => tw_end (fun c => c != 10) s.data.toList k m hm h)
                have hk1 : k + 1 ≤ noteEnd s k := by
                  unfold noteEnd
                  rw [drop_at s k hks, h35, List.takeWhile_cons, if_pos (by decide), List.length_cons]
                  omega
                have HE : Hid (noteEnd s k = k + ((s.data.toList.drop k).takeWhile fun c => c != 10).length) := Lib.hid rfl
                have hen : noteEnd s k ≤ s.size := by rw [HE.out]; exact hle
                clear h10 h32 h9 h35 hle
                generalize noteEnd s k = e0 at HN hk1 HE hen
                go_wp2
                go_loop [7] (fun i => ∃ m : Nat, i = .int .i64 m ∧ k ≤ m ∧ m ≤ e0) (fun i => s.size - (intOf i).toNat)
                case atStart => exact ⟨k, rfl, by omega, by omega⟩
                case round =>
                  obtain ⟨m, rfl, hm1, hm2⟩ := hrel
                  by_cases hme : m < e0
                  · obtain ⟨hml, hmb⟩ := HLT.out m hm1 (by rw [← HE.out]; exact hme)
                    have hml2 : m < s.size := hml
                    have hmli : (m : Int) < s.size := by omega
                    have u10 : ((s[m].toNat : Int) == 10) = false := ne8 (b := 10) (by have h2 : (s[m] != 10) = true := hmb; simpa using h2)
                    clear hml hmb
                    go_wp2
                    go_round
                    case rel => exact ⟨m + 1, by go_num, by omega, by omega⟩
                    case measure => first | (simp [intOf]; done) | (simp [intOf]; omega)
                  · obtain rfl : m = e0 := by omega
                    by_cases hmx : m < s.size
                    · have hmli : (m : Int) < s.size := by omega
                      have hx := HEND.out m HE.out hmx
                      have u10 : ((s[m].toNat : Int) == 10) = true := by
                        have hx2 : s[m] = 10 := by have h3 : (s[m] != 10) = false := hx; simpa using h3
                        rw [hx2]; rfl
                      clear hx
                      go_wp2
                      go_roundw
                      case rel => exact ⟨m, line, f, out, rfl, rfl, rfl, by omega, HN.out⟩
                      case measure => first | (simp [intOf]; done) | (simp [intOf]; omega)
                    · have hmli : ¬ (m : Int) < s.size := by omega
                      go_wp2
                      go_roundw
                      case rel => exact ⟨m, line, f, out, rfl, rfl, rfl, by omega, HN.out⟩
                      case measure => first | (simp [intOf]; done) | (simp [intOf]; omega)
              · have t35 : ((s[k].toNat : Int) == 35) = false := ne8 (b := 35) h35
                have HO := Lib.hid (fun W => one_any s k W (by omega) hks)
                unfold RetOne at HO
                cases ho : Tk.one denM (s.data.toList.drop k) with
                | none =>
                  have HBAD := Lib.hid (HAT.out.bad hks h10 h32 h9 h35 ho)
                  rw [ho] at HO
                  unfold oneE at HO
                  clear h10 h32 h9 h35 ho
                  go_wp2_with (go_at_call 18; refine (HO.out _).mono ?_; rintro e w1 ⟨rfl, hb1⟩; have HB1 := Lib.hid (below_step HAT.out.2.2.2.2 hb1); clear hb1)
                  go_ret2
                  exact ⟨_, by rw [HBAD.out]; rfl, by rw [HBAD.out]; exact ownT_nil _ _, HB1.out.alloc HB1.out.size _⟩
                | some y =>
                  obtain ⟨kd, t, n⟩ := y
                  have hn1 := Tk.one_pos ho
                  have hn2 := one_le ho
                  rw [List.length_drop, len8] at hn2
                  have HTK := Lib.hid (fun w1 v1 h1 h2 => HAT.out.tok (w1 := w1) (v1 := v1) hks h10 h32 h9 h35 ho (semi_le _ _ _ _) h1 h2)
                  rw [ho] at HO
                  unfold oneE at HO
                  clear h10 h32 h9 h35 ho
                  have HOWN := Lib.hid (fun w1 (hb1 : Below wr.heap.size wr w1) => (ownT_below HAT.out.2.2.2.1 hb1).alloc (.cells #[.int .i64 (kd : Int), .string (str8 t), .int .i64 (line : Int)] 31))
                  have HBW := Lib.hid HAT.out.2.2.2.2
                  rcases semi_cases out f kd t with ⟨rfl, hsm⟩ | ⟨rfl, rfl, hsm⟩ | ⟨l0, x, rfl, rfl, hx⟩
                  · rw [hsm, List.append_nil] at HTK
                    clear hsm HAT
                    have hml : (out.map toB).length ≤ 12000 := by rw [List.length_map]; omega
                    go_wp2_with (first | (go_at_call 18; refine (HO.out _).mono ?_; rintro e w1 ⟨rfl, hb1⟩; have HO1 := Lib.hid (HOWN.out w1 hb1); have HB1 := Lib.hid ((below_step HBW.out hb1).alloc (below_step HBW.out hb1).size (.cells #[.int .i64 (kd : Int), .string (str8 t), .int .i64 (line : Int)] 31)); clear hb1) | (at_builtin; refine wpList_append_own _ rfl _ _ 25 rfl w.heap.size 31 i0 (.agg #[.int .i64 0, .string ByteArray.empty, .int .i64 0]) 3 32 Tryz.underlying25 hi hz0 hz1 hz2 rfl (by decide) _ _ _ rfl (HO1.out.alloc _) ⟨w1.heap.size + 1, 0, none⟩ 1 1 [.int .i64 (kd : Int), .string (str8 t), .int .i64 (line : Int)] rfl rfl ?c1 ?c2 ?c3 ?c4 ?c5 ?_))
                    case c1 => exact new_tok2 _ _ (by simp) _ _ _ _
                    case c2 => exact one_tok _ _ _
                    case c3 => exact max_small (by first | omega | (simp; done) | (simp; omega))
                    case c4 => first | omega | (simp; done) | (simp; omega)
                    case c5 => have := HB1.out.size; simp at this ⊢; omega
                    intro v' w2 hown' hgrow _
                    have ho2 := Lib.hid (own_last (out) (kd, t, line) hown' (by first | rfl | (simp; done)) (by first | rfl | (simp; done)))
                    have hb2 := Lib.hid (belowT_app HB1.out HO1.out hgrow)
                    clear hown' hgrow
                    go_wp2
                    go_roundw
                    case rel => exact ⟨k + n, line, false, _, by go_num, rfl, rfl, by omega, HTK.out _ _ ho2.out hb2.out⟩
                    case measure => first | (simp [intOf]; done) | (simp [intOf]; omega)
                  · rw [hsm, List.append_nil] at HTK
                    obtain ⟨sa, sc, rfl⟩ := ownT_len HAT.out.2.2.2.1
                    clear hsm HAT
                    go_wp2_with (first | (go_at_call 18; refine (HO.out _).mono ?_; rintro e w1 ⟨rfl, hb1⟩; have HO1 := Lib.hid (HOWN.out w1 hb1); have HB1 := Lib.hid ((below_step HBW.out hb1).alloc (below_step HBW.out hb1).size (.cells #[.int .i64 (kd : Int), .string (str8 t), .int .i64 (line : Int)] 31)); clear hb1) | (at_builtin; refine wpList_append_own _ rfl _ _ 25 rfl w.heap.size 31 i0 (.agg #[.int .i64 0, .string ByteArray.empty, .int .i64 0]) 3 32 Tryz.underlying25 hi hz0 hz1 hz2 rfl (by decide) _ _ _ rfl (HO1.out.alloc _) ⟨w1.heap.size + 1, 0, none⟩ 1 1 [.int .i64 (kd : Int), .string (str8 t), .int .i64 (line : Int)] rfl rfl ?d1 ?d2 ?d3 ?d4 ?d5 ?_))
                    case d1 => exact new_tok2 _ _ (by simp) _ _ _ _
                    case d2 => exact one_tok _ _ _
                    case d3 => exact max_small (by first | omega | (simp; done) | (simp; omega))
                    case d4 => first | omega | (simp; done) | (simp; omega)
                    case d5 => have := HB1.out.size; simp at this ⊢; omega
                    intro v' w2 hown' hgrow _
                    have ho2 := Lib.hid (own_last ([]) (kd, t, line) hown' (by first | rfl | (simp; done)) (by first | rfl | (simp; done)))
                    have hb2 := Lib.hid (belowT_app HB1.out HO1.out hgrow)
                    clear hown' hgrow
                    go_wp2
                    go_roundw
                    case rel => exact ⟨k + n, line, false, _, by go_num, rfl, rfl, by omega, HTK.out _ _ ho2.out hb2.out⟩
                    case measure => first | (simp [intOf]; done) | (simp [intOf]; omega)
                  · have hlen : l0.length + 1 ≤ 12000 := by simp at hol; omega
                    have hl1 : (List.map toB (l0 ++ [x])).length = l0.length + 1 := by simp
                    obtain ⟨g, cap, hv, hg1, hg2, hg3⟩ := ownT_some HAT.out.2.2.2.1 (by simp)
                    rw [hl1] at hv
                    subst hv
                    have HGL := Lib.hid (HAT.out.2.2.2.1.lt g rfl).2
                    have HE := Lib.hid (fun W => spec_ends x.1 (str8 x.2.1) x.2.2 W)
                    rw [str8_list] at HE
                    have HG := Lib.hid (fun W => spec_begins kd (str8 t) line W)
                    rw [str8_list] at HG
                    clear HAT hol hl1 hg1 hg2 hg3
                    rcases hx with ⟨hx1, hsm⟩ | ⟨hx1, hx2, hsm⟩ | ⟨hx1, hx2, hsm⟩
                    · rw [hx1] at HE
                      rw [hsm, List.append_nil] at HTK
                      clear hx1 hsm HG
                      go_wp2_with (first | (go_at_call 18; refine (HO.out _).mono ?_; rintro e w1 ⟨rfl, hb1⟩; have HO1 := Lib.hid (HOWN.out w1 hb1); have HB1 := Lib.hid ((below_step HBW.out hb1).alloc (below_step HBW.out hb1).size (.cells #[.int .i64 (kd : Int), .string (str8 t), .int .i64 (line : Int)] 31)); obtain ⟨q0, q1, q2⟩ := last_cell rfl HO1.out; clear hb1) | (go_at_call 19; refine (HE.out _).mono ?_; rintro e w3 ⟨rfl, hb3⟩; have HO3 := Lib.hid (ownT_below HO1.out hb3); have HB3 := Lib.hid (below_step HB1.out hb3); have HF3 := Lib.hid ((FreeTok.new w1 kd (str8 t) line 31).later hb3); have HZ3 := Lib.hid HF3.out.lt; clear hb3; obtain ⟨⟨r0, r1, r2⟩, _⟩ := HF3.out) | (at_builtin; refine wpList_append_own _ rfl _ _ 25 rfl w.heap.size 31 i0 (.agg #[.int .i64 0, .string ByteArray.empty, .int .i64 0]) 3 32 Tryz.underlying25 hi hz0 hz1 hz2 rfl (by decide) _ _ _ rfl (HO3.out.alloc _) ⟨w3.heap.size, 0, none⟩ 1 1 [.int .i64 (kd : Int), .string (str8 t), .int .i64 (line : Int)] rfl rfl ?e1 ?e2 ?e3 ?e4 ?e5 ?_))
                      case e1 => exact new_tok2 _ _ (by simp) _ _ _ _
                      case e2 => exact one_tok _ _ _
                      case e3 => exact max_small (by first | omega | (simp; done) | (simp; omega))
                      case e4 => first | omega | (simp; done) | (simp; omega)
                      case e5 => have := HB3.out.size; simp at this ⊢; omega
                      intro v' w2 hown' hgrow _
                      have ho2 := Lib.hid (own_last (l0 ++ [x]) (kd, t, line) hown' (by first | rfl | (simp; done)) (by first | rfl | (simp; done)))
                      have hb2 := Lib.hid (belowT_app HB3.out HO3.out hgrow)
                      clear hown' hgrow
                      go_wp2
                      go_roundw
                      case rel => exact ⟨k + n, line, false, _, by go_num, rfl, rfl, by omega, HTK.out _ _ ho2.out hb2.out⟩
                      case measure => first | (simp [intOf]; done) | (simp [intOf]; omega)
                    · rw [hx1] at HE
                      rw [hx2] at HG
                      rw [hsm, List.append_nil] at HTK
                      clear hx1 hx2 hsm
                      go_wp2_with (first | (go_at_call 18; refine (HO.out _).mono ?_; rintro e w1 ⟨rfl, hb1⟩; have HO1 := Lib.hid (HOWN.out w1 hb1); have HB1 := Lib.hid ((below_step HBW.out hb1).alloc (below_step HBW.out hb1).size (.cells #[.int .i64 (kd : Int), .string (str8 t), .int .i64 (line : Int)] 31)); obtain ⟨q0, q1, q2⟩ := last_cell rfl HO1.out; clear hb1) | (go_at_call 19; refine (HE.out _).mono ?_; rintro e w3 ⟨rfl, hb3⟩; have HO3 := Lib.hid (ownT_below HO1.out hb3); have HB3 := Lib.hid (below_step HB1.out hb3); have HF3 := Lib.hid ((FreeTok.new w1 kd (str8 t) line 31).later hb3); have HZ3 := Lib.hid HF3.out.lt; clear hb3; obtain ⟨⟨r0, r1, r2⟩, _⟩ := HF3.out) | (go_at_call 20; refine (HG.out _).mono ?_; rintro e w4 ⟨rfl, hb4⟩; have HO4 := Lib.hid (ownT_below HO3.out hb4); have HB4 := Lib.hid (below_step HB3.out hb4); have HF4 := Lib.hid (HF3.out.later hb4); have HZ4 := Lib.hid HF4.out.lt; clear hb4 r0 r1 r2; obtain ⟨⟨r0, r1, r2⟩, _⟩ := HF4.out) | (at_builtin; refine wpList_append_own _ rfl _ _ 25 rfl w.heap.size 31 i0 (.agg #[.int .i64 0, .string ByteArray.empty, .int .i64 0]) 3 32 Tryz.underlying25 hi hz0 hz1 hz2 rfl (by decide) _ _ _ rfl (HO4.out.alloc _) ⟨w4.heap.size, 0, none⟩ 1 1 [.int .i64 (kd : Int), .string (str8 t), .int .i64 (line : Int)] rfl rfl ?f1 ?f2 ?f3 ?f4 ?f5 ?_))
                      case f1 => exact new_tok2 _ _ (by simp) _ _ _ _
                      case f2 => exact one_tok _ _ _
                      case f3 => exact max_small (by first | omega | (simp; done) | (simp; omega))
                      case f4 => first | omega | (simp; done) | (simp; omega)
                      case f5 => have := HB4.out.size; simp at this ⊢; omega
                      intro v' w2 hown' hgrow _
                      have ho2 := Lib.hid (own_last (l0 ++ [x]) (kd, t, line) hown' (by first | rfl | (simp; done)) (by first | rfl | (simp; done)))
                      have hb2 := Lib.hid (belowT_app HB4.out HO4.out hgrow)
                      clear hown' hgrow
                      go_wp2
                      go_roundw
                      case rel => exact ⟨k + n, line, false, _, by go_num, rfl, rfl, by omega, HTK.out _ _ ho2.out hb2.out⟩
                      case measure => first | (simp [intOf]; done) | (simp [intOf]; omega)
                    · rw [hx1] at HE
                      rw [hx2] at HG
                      rw [hsm] at HTK
                      clear hx1 hx2 hsm
                      go_wp2_with (first | (go_at_call 18; refine (HO.out _).mono ?_; rintro e w1 ⟨rfl, hb1⟩; have HO1 := Lib.hid (HOWN.out w1 hb1); have HB1 := Lib.hid ((below_step HBW.out hb1).alloc (below_step HBW.out hb1).size (.cells #[.int .i64 (kd : Int), .string (str8 t), .int .i64 (line : Int)] 31)); obtain ⟨q0, q1, q2⟩ := last_cell rfl HO1.out; have HGZ := Lib.hid (Nat.lt_of_lt_of_le HGL.out hb1.size); clear hb1) | (go_at_call 19; refine (HE.out _).mono ?_; rintro e w3 ⟨rfl, hb3⟩; have HO3 := Lib.hid (ownT_below HO1.out hb3); have HB3 := Lib.hid (below_step HB1.out hb3); have HF3 := Lib.hid ((FreeTok.new w1 kd (str8 t) line 31).later hb3); have HZ3 := Lib.hid HF3.out.lt; clear hb3; obtain ⟨⟨r0, r1, r2⟩, _⟩ := HF3.out) | (go_at_call 20; refine (HG.out _).mono ?_; rintro e w4 ⟨rfl, hb4⟩; have HO4 := Lib.hid (ownT_below HO3.out hb4); have HB4 := Lib.hid (below_step HB3.out hb4); have HF4 := Lib.hid (HF3.out.later hb4); clear hb4 r0 r1 r2; obtain ⟨p0, p1, p2⟩ := last_cell rfl HO4.out) | (at_builtin; refine wpList_append_own _ rfl _ _ 25 rfl w.heap.size 31 i0 (.agg #[.int .i64 0, .string ByteArray.empty, .int .i64 0]) 3 32 Tryz.underlying25 hi hz0 hz1 hz2 rfl (by decide) _ _ _ rfl (HO4.out.alloc _) ⟨w4.heap.size, 0, none⟩ 1 1 [.int .i64 7, .string (str8 [59]), .int .i64 (x.2.2 : Int)] rfl rfl ?g1 ?g2 ?g3 ?g4 ?g5 ?_))
                      case g1 => exact new_tok2 _ _ (by simp) _ _ _ _
                      case g2 => exact one_tok _ _ _
                      case g3 => exact max_small (by first | omega | (simp; done) | (simp; omega))
                      case g4 => first | omega | (simp; done) | (simp; omega)
                      case g5 => have := HB4.out.size; simp at this ⊢; omega
                      intro v1 w5 hown5 hgrow5 _
                      have HO5 := Lib.hid (own_last (l0 ++ [x]) (7, [59], x.2.2) hown5 (by first | rfl | (simp; done)) (by first | rfl | (simp; done)))
                      have HB5 := Lib.hid (belowT_app HB4.out HO4.out hgrow5)
                      have HF5 := Lib.hid (FreeTok.grown (HF4.out.later (bl1 _ _)) hgrow5 (by intro e; have h2 : w1.heap.size = g := Option.some.inj e; have h3 := HGZ.out; omega))
                      clear hown5 hgrow5
                      obtain ⟨r0, r1, r2⟩ := HF5.out
                      go_wp2_with (first | (at_builtin; refine wpList_append_own _ rfl _ _ 25 rfl w.heap.size 31 i0 (.agg #[.int .i64 0, .string ByteArray.empty, .int .i64 0]) 3 32 Tryz.underlying25 hi hz0 hz1 hz2 rfl (by decide) _ _ _ rfl (HO5.out.alloc _) ⟨w5.heap.size, 0, none⟩ 1 1 [.int .i64 (kd : Int), .string (str8 t), .int .i64 (line : Int)] rfl rfl ?h1 ?h2 ?h3 ?h4 ?h5 ?_))
                      case h1 => exact new_tok2 _ _ (by simp) _ _ _ _
                      case h2 => exact one_tok _ _ _
                      case h3 => exact max_small (by first | omega | (simp; done) | (simp; omega))
                      case h4 => first | omega | (simp; done) | (simp; omega)
                      case h5 => have := HB5.out.size; simp at this ⊢; omega
                      intro v' w2 hown' hgrow _
                      have ho2 := Lib.hid (own_last (l0 ++ [x] ++ [(7, [59], x.2.2)]) (kd, t, line) hown' (by first | rfl | (simp; done)) (by first | rfl | (simp; done)))
                      have hb2 := Lib.hid (belowT_app HB5.out HO5.out hgrow)
                      clear hown' hgrow
                      go_wp2
                      go_roundw
                      case rel => exact ⟨k + n, line, false, _, by go_num, rfl, rfl, by omega, HTK.out _ _ ho2.out hb2.out⟩
                      case measure => first | (simp [intOf]; done) | (simp [intOf]; omega)
      · have HDN := Lib.hid (HAT.out.done (by show s.size ≤ k; omega))
        go_wp2
        go_ret2
        exact ⟨_, by rw [HDN.out]; rfl, by rw [HDN.out]; exact HAT.out.2.2.2.1, HAT.out.2.2.2.2⟩
end Go.Proofs.YtfhakailbikjkaaGreatDoor
/- The laws' own helpers over slices of tokens. No conditions. -/
namespace Go.Proofs.YtfhakailbikjkaaGreatDoor
open Go.RowKit
set_option linter.unusedVariables false

abbrev tok0 : TokB := (0, ByteArray.empty, 0)
/-- A slice of tokens that can be read. -/
def ReadsT (w : World) (v : Value) (l : List TokB) : Prop :=
  ((∃ a c, v = .slice a 0 c) ∧ l = []) ∨ ∃ g cap, v = .slice (some ⟨g, 0, none⟩) l.length cap ∧ l.length ≤ maxLen ∧ ∀ i, i < l.length →
    w.cell? ⟨g, i * 3, none⟩ = some (.int .i64 (l.getD i tok0).1) ∧ w.cell? ⟨g, i * 3 + 1, none⟩ = some (.string (l.getD i tok0).2.1) ∧ w.cell? ⟨g, i * 3 + 2, none⟩ = some (.int .i64 (l.getD i tok0).2.2)
theorem readsT_of_own {w : World} {base : Nat} {v : Value} {l : List TokB} (h : OwnT w base v l) : ReadsT w v l := by
  by_cases hl : l = []
  · subst hl
    obtain ⟨a, c, rfl⟩ := ownT_len h
    exact .inl ⟨⟨a, c, rfl⟩, rfl⟩
  · obtain ⟨g, cap, rfl, h1, h2, h3⟩ := ownT_some h hl
    refine .inr ⟨g, cap, rfl, by omega, fun i hi => ?_⟩
    have h4 := (ownT_cell rfl h i hi).1
    rw [List.getD_eq_getElem?_getD, List.getElem?_eq_getElem hi]
    exact h4
theorem readsT_empty {w : World} {v : Value} (h : ReadsT w v []) : ∃ a c, v = .slice a 0 c := by
  rcases h with ⟨h, _⟩ | ⟨g, cap, rfl, _⟩
  · exact h
  · exact ⟨_, _, rfl⟩
theorem readsT_some {w : World} {v : Value} {l : List TokB} (h : ReadsT w v l) (hl : l ≠ []) : ∃ g cap, v = .slice (some ⟨g, 0, none⟩) l.length cap ∧ l.length ≤ maxLen ∧ ∀ i, i < l.length →
    w.cell? ⟨g, i * 3, none⟩ = some (.int .i64 (l.getD i tok0).1) ∧ w.cell? ⟨g, i * 3 + 1, none⟩ = some (.string (l.getD i tok0).2.1) ∧ w.cell? ⟨g, i * 3 + 2, none⟩ = some (.int .i64 (l.getD i tok0).2.2) := by
  rcases h with ⟨_, h0⟩ | h
  · exact absurd h0 hl
  · exact h
/-- The three cells of a token. -/
def CellsT (w : World) (g o : Nat) (x : TokB) : Prop := w.cell? ⟨g, o, none⟩ = some (.int .i64 x.1) ∧ w.cell? ⟨g, o + 1, none⟩ = some (.string x.2.1) ∧ w.cell? ⟨g, o + 2, none⟩ = some (.int .i64 x.2.2)
theorem CellsT.lt {w : World} {g o : Nat} {x : TokB} (h : CellsT w g o x) : g < w.heap.size := World.block_lt_of_cell? w _ h.1
theorem CellsT.later {w w1 : World} {g o : Nat} {x : TokB} (h : CellsT w g o x) (hb : Below w.heap.size w w1) : CellsT w1 g o x :=
  ⟨(hb.cell (p := ⟨g, o, none⟩) h.lt).trans h.1, (hb.cell (p := ⟨g, o + 1, none⟩) h.lt).trans h.2.1, (hb.cell (p := ⟨g, o + 2, none⟩) h.lt).trans h.2.2⟩
theorem CellsT.belowlt {w w1 : World} {B g o : Nat} {x : TokB} (h : CellsT w g o x) (hB : g < B) (hb : Below B w w1) : CellsT w1 g o x :=
  ⟨(hb.cell (p := ⟨g, o, none⟩) hB).trans h.1, (hb.cell (p := ⟨g, o + 1, none⟩) hB).trans h.2.1, (hb.cell (p := ⟨g, o + 2, none⟩) hB).trans h.2.2⟩
theorem readsT_below {w w1 : World} {v : Value} {l : List TokB} (h : ReadsT w v l) (hb : Below w.heap.size w w1) : ReadsT w1 v l := by
  rcases h with h | ⟨g, cap, hv, hm, hc⟩
  · exact .inl h
  · exact .inr ⟨g, cap, hv, hm, fun i hi => CellsT.later (hc i hi) hb⟩

/-- The token that the laws write, from the letter m on. -/
def mtok (m : Nat) : TokB := ((m : Int), mark (m + 1), (m : Int) + 1 + 1)
def marksT (n : Nat) : List TokB := (List.range n).map fun i => mtok (3 * i + 1)
theorem marksT_length (n : Nat) : (marksT n).length = n := by simp [marksT]
theorem marksT_get (n i : Nat) (h : i < n) : (marksT n).getD i tok0 = mtok (3 * i + 1) := by simp [marksT, List.getD, h]
theorem marksT_succ (n : Nat) : marksT (n + 1) = marksT n ++ [mtok (3 * n + 1)] := by simp [marksT, List.range_succ]
def partlyT (l : List TokB) (i : Nat) : List TokB := marksT i ++ l.drop i
theorem partlyT_length (l : List TokB) (i : Nat) (h : i ≤ l.length) : (partlyT l i).length = l.length := by
  simp [partlyT, marksT_length]; omega
theorem partlyT_set (l : List TokB) (i : Nat) (h : i < l.length) : (partlyT l i).set i (mtok (3 * i + 1)) = partlyT l (i + 1) := by
  unfold partlyT
  rw [marksT_succ, List.set_append_right _ _ (by rw [marksT_length]; exact Nat.le_refl _), marksT_length, Nat.sub_self, List.drop_eq_getElem_cons h, List.append_assoc]
  rfl
theorem partlyT_zero (l : List TokB) : partlyT l 0 = l := by simp [partlyT, marksT]
theorem partlyT_all (l : List TokB) : partlyT l l.length = marksT l.length := by simp [partlyT]
theorem tokCells_length (l : List TokB) : (tokCells l).length = l.length * 3 := by
  induction l with
  | nil => rfl
  | cons x l ih =>
    have e : tokCells (x :: l) = Value.int .i64 x.1 :: Value.string x.2.1 :: Value.int .i64 x.2.2 :: tokCells l := rfl
    rw [e]; simp [ih]; omega
theorem tokCells_set (x : TokB) (l : List TokB) : ∀ (i : Nat), i < l.length → (((tokCells l).set (i * 3) (.int .i64 x.1)).set (i * 3 + 1) (.string x.2.1)).set (i * 3 + 2) (.int .i64 x.2.2) = tokCells (l.set i x) := by
  induction l with
  | nil => intro i h; simp at h
  | cons y l ih =>
    intro i h
    have e : tokCells (y :: l) = Value.int .i64 y.1 :: Value.string y.2.1 :: Value.int .i64 y.2.2 :: tokCells l := rfl
    match i with
    | 0 => rw [e]; rfl
    | i + 1 =>
      have h2 := ih i (by simpa using h)
      have e2 : tokCells (y :: l.set i x) = Value.int .i64 y.1 :: Value.string y.2.1 :: Value.int .i64 y.2.2 :: tokCells (l.set i x) := rfl
      have e3 : (y :: l).set (i + 1) x = y :: l.set i x := rfl
      rw [e3, e2, ← h2, e, show (i + 1) * 3 = i * 3 + 3 by omega]
      rfl
/-- A row of n tokens' cells. -/
def RowT (w : World) (base g n cap : Nat) (xs : List Value) : Prop := w.ownsRow base 31 3 (.slice (some ⟨g, 0, none⟩) n cap) n xs
theorem RowT.cell {w : World} {base g n cap : Nat} {xs : List Value} (h : RowT w base g n cap xs) (j : Nat) (hj : j < n * 3) : (∃ u, w.cell? ⟨g, j, none⟩ = some u) ∧ w.frozen? ⟨g, j, none⟩ = false := by
  refine ⟨?_, World.ownsRow.frozenAt h j⟩
  rw [World.ownsRow.cellAt h j hj]
  have hl := h.1
  exact ⟨xs[j]'(by omega), List.getElem?_eq_getElem _⟩
theorem RowT.set {w : World} {base g n cap : Nat} {xs : List Value} (h : RowT w base g n cap xs) (j : Nat) (u : Value) : RowT (w.setCell ⟨g, j, none⟩ u) base g n cap (xs.set j u) := (World.ownsRow.stored h j u).1
theorem RowT.later {w w1 : World} {base g n cap : Nat} {xs : List Value} (h : RowT w base g n cap xs) (hb : Below w.heap.size w w1) : RowT w1 base g n cap xs := by
  refine ⟨h.1, ?_⟩
  rcases h.2 with hn | ⟨g2, cap2, cur, hv, hg, hgg, r⟩
  · exact .inl hn
  · exact .inr ⟨g2, cap2, cur, hv, hg, by rw [hb.block g2 (Array.getElem?_eq_some_iff.1 hgg).1]; exact hgg, r⟩
theorem RowT.own {w : World} {base g n cap : Nat} {l : List TokB} (hn : n = l.length) (h : RowT w base g n cap (tokCells l)) : OwnT w base (.slice (some ⟨g, 0, none⟩) n cap) l := by subst hn; exact h
theorem OwnT.row {w : World} {base g n cap : Nat} {l : List TokB} (hn : n = l.length) (h : OwnT w base (.slice (some ⟨g, 0, none⟩) n cap) l) : RowT w base g n cap (tokCells l) := by subst hn; exact h

theorem RowT.round {w : World} {base g n cap : Nat} {l : List TokB} {k m : Nat} (h : RowT w base g n cap ((((tokCells (partlyT l k)).set (k * 3) (.int .i64 (m : Int))).set (k * 3 + 1) (.string (mark (m + 1)))).set (k * 3 + 2) (.int .i64 ((m : Int) + 1 + 1)))) (hm : m = 3 * k + 1) (hk : k < l.length) : RowT w base g n cap (tokCells (partlyT l (k + 1))) := by
  rw [← partlyT_set l k hk, ← tokCells_set _ _ _ (by rw [partlyT_length _ _ (by omega)]; exact hk), ← hm]
  exact h

end Go.Proofs.YtfhakailbikjkaaGreatDoor
