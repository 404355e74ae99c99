/- Joined texts: R8, R9, R10, R11, R3, W6. No conditions besides those that each states. -/
import Derived.Deep.QuietTactic
import Derived.BigQuiet
import Derived.StillTailTactics
import Derived.IntWalk
import Derived.OneCell
import Derived.Test.YtfhakailbikjkaaDoorZ2
import Derived.Test.YtfhakailbikjkaaDoorZ4
import Derived.Test.YtfhakailbikjkaaDoorZ6
import Derived.Test.YtfhakailbikjkaaDoorZ8
/- The program's readers of tokens: their walks. No conditions. -/
namespace Go.Proofs.YtfhakailbikjkaaDoor
open Go.RowKit
set_option linter.unusedVariables false

set_option maxHeartbeats 1600000 in
theorem read_int (s : ByteArray) (w : World) (hs : (s.size : Int) ≤ 1048576) (h0 : 0 < s.size) (hb : Dec.isDig s[0] = true) : Calls Tryd.prog 39 #[.string s] w (RetTk w (Tk.one denM s.data.toList)) := by
  unfold RetTk
  obtain ⟨W, hW, hcut, hle, hw⟩ := int_ways s h0 hb
  have HP := Lib.hid (fun V => impl_prefix_word s V hs)
  rw [hW] at HP
  have hsz := str8_size W
  have hwl : (W.length : Int) ≤ s.size := by omega
  have HF0 := Lib.hid (FreeTok.new w 0 ByteArray.empty 0 29)
  have HD := Lib.hid (fun V => call_dig W V (by omega))
  clear hW hb
  rcases hw with ⟨hd, ho⟩ | ⟨hd, ho⟩
  · have HO := Lib.hid ho
    rw [hd] at HD
    have hbd := dvv_bound W
    have HFM := Lib.hid (fun V => impl_fmt (Dec.dvv 12 W) V (by omega) (by omega))
    have HSTR : Hid ((⟨(Dec.fmt (Dec.dvv 12 W)).toArray⟩ : ByteArray) = str8 (Dec.fmt (Dec.dvv 12 W))) := rfl
    generalize Tk.one denM s.data.toList = o at HO ⊢
    clear hd ho hbd
    rw [HSTR.out] at HFM
    generalize Dec.fmt (Dec.dvv 12 W) = X at HO HFM
    generalize Dec.dvv 12 W = y at HD HFM
    clear HSTR
    go_enter Tryd.func39, Tryd.ntmps39
    go_wp2_with (first | (go_at_call 48; refine (HP.out _).mono ?_; rintro e w1 ⟨rfl, rfl⟩) | (go_at_call 50; refine (HD.out _).mono ?_; rintro e w2 ⟨rfl, rfl⟩) | (go_at_call 51; refine (HFM.out _).mono ?_; rintro e w3 ⟨rfl, hb3⟩; have HB3 := Lib.hid (below_step (bl1 _ _) hb3); obtain ⟨⟨r0, r1, r2⟩, f0, f1, f2⟩ := HF0.out.later hb3; clear hb3))
    exact bodyPost_ret (v := .tuple #[.agg #[.int .i64 3, .string (str8 X), .int .i64 0], .int .i64 W.length]) (by simp [results, Tryd.results39, go_sem, r0, r1, r2]; try rfl) rfl ⟨tk_yes (k := 3) HO.out rfl, below_store3 HB3.out (Nat.le_refl _) _ _ _⟩
  · have HO := Lib.hid ho
    rw [hd] at HD
    generalize Tk.one denM s.data.toList = o at HO ⊢
    clear hd ho
    generalize Dec.dvv 12 W = y at HD
    have HB3 := Lib.hid (bl1 w (.cells #[.int .i64 0, .string ByteArray.empty, .int .i64 0] 29))
    go_enter Tryd.func39, Tryd.ntmps39
    go_wp2_with (first | (go_at_call 48; refine (HP.out _).mono ?_; rintro e w1 ⟨rfl, rfl⟩) | (go_at_call 50; refine (HD.out _).mono ?_; rintro e w2 ⟨rfl, rfl⟩))
    exact bodyPost_ret (v := .tuple #[.agg #[.int .i64 0, .string ByteArray.empty, .int .i64 0], .int .i64 0]) (by simp [results, Tryd.results39, go_sem]; try rfl) rfl ⟨tk_no HO.out, HB3.out⟩

set_option maxHeartbeats 1600000 in
theorem read_word (s : ByteArray) (w : World) (hs : (s.size : Int) ≤ 1048576) (h0 : 0 < s.size) (hb : Tk.letter s[0] = true) : Calls Tryd.prog 41 #[.string s] w (RetTk w (Tk.one denM s.data.toList)) := by
  unfold RetTk
  obtain ⟨W, hW, hcut, hle, hw⟩ := word_ways s h0 hb
  have HP := Lib.hid (fun V => impl_prefix_word s V hs)
  rw [hW] at HP
  have hsz := str8_size W
  have hwl : (W.length : Int) ≤ s.size := by omega
  have HF0 := Lib.hid (FreeTok.new w 0 ByteArray.empty 0 29)
  have HC := Lib.hid (fun V => clone8 (str8 W) V (by omega))
  have HR := Lib.hid (fun V => impl_reserved (str8 W) V)
  have HN := Lib.hid (fun V => impl_name (str8 W) V (by omega))
  rw [str8_list] at HR HN
  clear hW hb
  rcases hw with ⟨hr, ho⟩ | ⟨hr, hn, ho⟩ | ⟨hr, hn, ho⟩
  · have HO := Lib.hid ho
    rw [hr] at HR
    generalize Tk.one denM s.data.toList = o at HO ⊢
    clear hr ho HN
    go_enter Tryd.func41, Tryd.ntmps41
    go_wp2_with (first | (go_at_call 48; refine (HP.out _).mono ?_; rintro e w1 ⟨rfl, rfl⟩) | (go_at_call 52; refine (HC.out _).mono ?_; rintro e w2 ⟨rfl, hb2⟩; have HB2 := Lib.hid (below_step (bl1 _ _) hb2); have HF2 := Lib.hid (HF0.out.later hb2); clear hb2) | (go_at_call 53; refine (HR.out _).mono ?_; rintro e w3 ⟨rfl, hb3⟩; have HB3 := Lib.hid (below_step HB2.out hb3); have HF3 := Lib.hid (HF2.out.later hb3); obtain ⟨⟨r0, r1, r2⟩, f0, f1, f2⟩ := HF3.out; clear hb3))
    exact bodyPost_ret (v := .tuple #[.agg #[.int .i64 2, .string (str8 W), .int .i64 0], .int .i64 W.length]) (by simp [results, Tryd.results41, go_sem, r0, r1, r2]; try rfl) rfl ⟨tk_yes (k := 2) HO.out rfl, below_store3 HB3.out (Nat.le_refl _) _ _ _⟩
  · have HO := Lib.hid ho
    rw [hr] at HR
    rw [hn] at HN
    generalize Tk.one denM s.data.toList = o at HO ⊢
    clear hr hn ho
    go_enter Tryd.func41, Tryd.ntmps41
    go_wp2_with (first | (go_at_call 48; refine (HP.out _).mono ?_; rintro e w1 ⟨rfl, rfl⟩) | (go_at_call 52; refine (HC.out _).mono ?_; rintro e w2 ⟨rfl, hb2⟩; have HB2 := Lib.hid (below_step (bl1 _ _) hb2); have HF2 := Lib.hid (HF0.out.later hb2); clear hb2) | (go_at_call 53; refine (HR.out _).mono ?_; rintro e w3 ⟨rfl, hb3⟩; have HB3 := Lib.hid (below_step HB2.out hb3); have HF3 := Lib.hid (HF2.out.later hb3); clear hb3) | (go_at_call 54; refine (HN.out _).mono ?_; rintro e w4 ⟨rfl, hb4⟩; have HB4 := Lib.hid (below_step HB3.out hb4); obtain ⟨⟨r0, r1, r2⟩, f0, f1, f2⟩ := HF3.out.later hb4; clear hb4))
    exact bodyPost_ret (v := .tuple #[.agg #[.int .i64 1, .string (str8 W), .int .i64 0], .int .i64 W.length]) (by simp [results, Tryd.results41, go_sem, r0, r1, r2]; try rfl) rfl ⟨tk_yes (k := 1) HO.out rfl, below_store3 HB4.out (Nat.le_refl _) _ _ _⟩
  · have HO := Lib.hid ho
    rw [hr] at HR
    rw [hn] at HN
    generalize Tk.one denM s.data.toList = o at HO ⊢
    clear hr hn ho
    go_enter Tryd.func41, Tryd.ntmps41
    go_wp2_with (first | (go_at_call 48; refine (HP.out _).mono ?_; rintro e w1 ⟨rfl, rfl⟩) | (go_at_call 52; refine (HC.out _).mono ?_; rintro e w2 ⟨rfl, hb2⟩; have HB2 := Lib.hid (below_step (bl1 _ _) hb2); have HF2 := Lib.hid (HF0.out.later hb2); clear hb2) | (go_at_call 53; refine (HR.out _).mono ?_; rintro e w3 ⟨rfl, hb3⟩; have HB3 := Lib.hid (below_step HB2.out hb3); have HF3 := Lib.hid (HF2.out.later hb3); clear hb3) | (go_at_call 54; refine (HN.out _).mono ?_; rintro e w4 ⟨rfl, hb4⟩; have HB4 := Lib.hid (below_step HB3.out hb4); obtain ⟨⟨r0, r1, r2⟩, f0, f1, f2⟩ := HF3.out.later hb4; clear hb4))
    exact bodyPost_ret (v := .tuple #[.agg #[.int .i64 0, .string ByteArray.empty, .int .i64 0], .int .i64 0]) (by simp [results, Tryd.results41, go_sem, r0, r1, r2]; try rfl) rfl ⟨tk_no HO.out, below_store3 HB4.out (Nat.le_refl _) _ _ _⟩

set_option maxHeartbeats 1600000 in
theorem read_text (a : Addr) (s : ByteArray) (w : World) (hS : SentAt a w) (hs : (s.size : Int) ≤ 1048576) (h0 : 0 < s.size) (hb : s[0] = 34) : Calls Tryd.prog 42 #[.string s] w (RetTk w (Tk.one denM s.data.toList)) := by
  unfold RetTk
  obtain ⟨q, hz, hcut, hle, hw⟩ := text_ways s h0 hb
  have HP := Lib.hid (fun V => lit_any s V hs h0 (by rw [hb]; decide))
  rw [hz] at HP
  have hsz := str8_size q
  have hwl : (q.length : Int) ≤ s.size := by omega
  have HF0 := Lib.hid (FreeTok.new w 0 ByteArray.empty 0 29)
  have HU := Lib.hid (impl_ut a (str8 q) _ (sentAt_below hS (bl1 w (.cells #[.int .i64 0, .string ByteArray.empty, .int .i64 0] 29))) (by omega))
  rw [str8_list] at HU
  unfold RetLit at HU
  clear hz hb hS
  rcases hw with ⟨h1, ho⟩ | ⟨h1, h2, ho⟩ | ⟨h1, h2, ho⟩
  · have HO := Lib.hid ho
    rw [h1] at HU
    generalize Tk.one denM s.data.toList = o at HO ⊢
    generalize str8 (Lt.litL 34 q) = x at HU
    clear h1 ho
    go_enter Tryd.func42, Tryd.ntmps42
    go_wp2_with (first | (go_at_call 55; refine (HP.out _).mono ?_; rintro e w1 ⟨rfl, rfl⟩) | (go_at_call 56; refine HU.out.mono ?_; rintro e w3 ⟨rfl, hb3⟩; have HB3 := Lib.hid (below_step (bl1 _ _) hb3); obtain ⟨⟨r0, r1, r2⟩, f0, f1, f2⟩ := HF0.out.later hb3; clear hb3))
    exact bodyPost_ret (v := .tuple #[.agg #[.int .i64 0, .string ByteArray.empty, .int .i64 0], .int .i64 0]) (by simp [results, Tryd.results42, go_sem, r0, r1, r2]; try rfl) rfl ⟨tk_no HO.out, below_store3 HB3.out (Nat.le_refl _) _ _ _⟩
  · have HO := Lib.hid ho
    rw [h1] at HU
    have hxs := str8_size (Lt.litL 34 q)
    have hx2 : (120 : Int) < (Lt.litL 34 q).length := by omega
    generalize Tk.one denM s.data.toList = o at HO ⊢
    generalize Lt.litL 34 q = L at HO HU hxs hx2
    clear h1 ho h2
    go_enter Tryd.func42, Tryd.ntmps42
    go_wp2_with (first | (go_at_call 55; refine (HP.out _).mono ?_; rintro e w1 ⟨rfl, rfl⟩) | (go_at_call 56; refine HU.out.mono ?_; rintro e w3 ⟨rfl, hb3⟩; have HB3 := Lib.hid (below_step (bl1 _ _) hb3); obtain ⟨⟨r0, r1, r2⟩, f0, f1, f2⟩ := HF0.out.later hb3; clear hb3))
    exact bodyPost_ret (v := .tuple #[.agg #[.int .i64 0, .string ByteArray.empty, .int .i64 0], .int .i64 0]) (by simp [results, Tryd.results42, go_sem, r0, r1, r2]; try rfl) rfl ⟨tk_no HO.out, below_store3 HB3.out (Nat.le_refl _) _ _ _⟩
  · have HO := Lib.hid ho
    rw [h1] at HU
    have hxs := str8_size (Lt.litL 34 q)
    have hx2 : ¬ (120 : Int) < (Lt.litL 34 q).length := by omega
    generalize Tk.one denM s.data.toList = o at HO ⊢
    generalize Lt.litL 34 q = L at HO HU hxs hx2
    clear h1 ho h2
    go_enter Tryd.func42, Tryd.ntmps42
    go_wp2_with (first | (go_at_call 55; refine (HP.out _).mono ?_; rintro e w1 ⟨rfl, rfl⟩) | (go_at_call 56; refine HU.out.mono ?_; rintro e w3 ⟨rfl, hb3⟩; have HB3 := Lib.hid (below_step (bl1 _ _) hb3); obtain ⟨⟨r0, r1, r2⟩, f0, f1, f2⟩ := HF0.out.later hb3; clear hb3))
    exact bodyPost_ret (v := .tuple #[.agg #[.int .i64 4, .string (str8 L), .int .i64 0], .int .i64 q.length]) (by simp [results, Tryd.results42, go_sem, r0, r1, r2]; try rfl) rfl ⟨tk_yes (k := 4) HO.out rfl, below_store3 HB3.out (Nat.le_refl _) _ _ _⟩

set_option maxHeartbeats 1600000 in
theorem read_cset (a : Addr) (s : ByteArray) (w : World) (hS : SentAt a w) (hs : (s.size : Int) ≤ 1048576) (h0 : 0 < s.size) (hb : s[0] = 39) : Calls Tryd.prog 43 #[.string s] w (RetTk w (Tk.one denM s.data.toList)) := by
  unfold RetTk
  obtain ⟨q, hz, hcut, hle, hw⟩ := cset_ways s h0 hb
  have HP := Lib.hid (fun V => lit_any s V hs h0 (by rw [hb]; decide))
  rw [hz] at HP
  have hsz := str8_size q
  have hwl : (q.length : Int) ≤ s.size := by omega
  have HF0 := Lib.hid (FreeTok.new w 0 ByteArray.empty 0 29)
  have HU := Lib.hid (impl_uc a (str8 q) _ (sentAt_below hS (bl1 w (.cells #[.int .i64 0, .string ByteArray.empty, .int .i64 0] 29))) (by omega))
  rw [str8_list] at HU
  unfold RetNew at HU
  clear hz hb hS
  rcases hw with ⟨h1, ho⟩ | ⟨h1, ho⟩
  · have HO := Lib.hid ho
    rw [h1] at HU
    generalize Tk.one denM s.data.toList = o at HO ⊢
    clear h1 ho
    go_enter Tryd.func43, Tryd.ntmps43
    go_wp2_with (first | (go_at_call 55; refine (HP.out _).mono ?_; rintro e w1 ⟨rfl, rfl⟩) | (go_at_call 57; refine HU.out.mono ?_; rintro e w3 ⟨rfl, hb3⟩; have HB3 := Lib.hid ((below_step (bl1 _ _) hb3).alloc (below_step (bl1 _ _) hb3).size (.cells #[.int .i64 (ucL q), .int .i64 (ucH q)] 45)); have HF3 := Lib.hid ((HF0.out.later hb3).later ((Below.refl _ _).alloc (Nat.le_refl _) (.cells #[.int .i64 (ucL q), .int .i64 (ucH q)] 45))); obtain ⟨⟨r0, r1, r2⟩, f0, f1, f2⟩ := HF3.out; clear hb3))
    exact bodyPost_ret (v := .tuple #[.agg #[.int .i64 0, .string ByteArray.empty, .int .i64 0], .int .i64 0]) (by simp [results, Tryd.results43, go_sem, r0, r1, r2]; try rfl) rfl ⟨tk_no HO.out, below_store3 HB3.out (Nat.le_refl _) _ _ _⟩
  · have HO := Lib.hid ho
    rw [h1] at HU
    have HT := Lib.hid (fun V => impl_text (ucL q) (ucH q) V)
    unfold RetText at HT
    have HX := Lib.hid (str8_data (txt (Cs.text (ucL q) (ucH q))))
    generalize Tk.one denM s.data.toList = o at HO ⊢
    generalize txt (Cs.text (ucL q) (ucH q)) = x at HO HT HX
    clear h1 ho
    go_enter Tryd.func43, Tryd.ntmps43
    go_wp2_with (first | (go_at_call 55; refine (HP.out _).mono ?_; rintro e w1 ⟨rfl, rfl⟩) | (go_at_call 57; refine HU.out.mono ?_; rintro e w3 ⟨rfl, hb3⟩; have HB3 := Lib.hid ((below_step (bl1 _ _) hb3).alloc (below_step (bl1 _ _) hb3).size (.cells #[.int .i64 (ucL q), .int .i64 (ucH q)] 45)); have HF3 := Lib.hid ((HF0.out.later hb3).later ((Below.refl _ _).alloc (Nat.le_refl _) (.cells #[.int .i64 (ucL q), .int .i64 (ucH q)] 45))); clear hb3) | (go_at_call 58; refine (HT.out _).mono ?_; rintro e w4 ⟨rfl, hb4⟩; have HB4 := Lib.hid (below_step HB3.out hb4); obtain ⟨⟨r0, r1, r2⟩, f0, f1, f2⟩ := HF3.out.later hb4; clear hb4))
    exact bodyPost_ret (v := .tuple #[.agg #[.int .i64 5, .string (str8 x.data.toList), .int .i64 0], .int .i64 q.length]) (by simp [results, Tryd.results43, go_sem, r0, r1, r2, HX.out]; try rfl) rfl ⟨tk_yes (k := 5) HO.out rfl, below_store3 HB4.out (Nat.le_refl _) _ _ _⟩

set_option maxHeartbeats 1600000 in
theorem read_key (s : ByteArray) (w : World) (hs : (s.size : Int) ≤ 1048576) (h0 : 1 < s.size) (hb : s[0] = 38) (hl : Tk.letter s[1] = true) : Calls Tryd.prog 44 #[.string s] w (RetTk w (Tk.one denM s.data.toList)) := by
  unfold RetTk
  obtain ⟨T, hT, hcut, hle, hw⟩ := key_ways s h0 hb hl
  have hc1 : s.extract 1 s.size = str8 (s.data.toList.drop 1) := str_cut (str8_data s).symm 1
  have h1s : (1 : Int) ≤ s.size := by omega
  have hq : ((str8 (s.data.toList.drop 1)).size : Int) ≤ 1048576 := by rw [str8_size, List.length_drop, len8]; omega
  have HP := Lib.hid (fun V => impl_prefix_letter (str8 (s.data.toList.drop 1)) V hq)
  rw [str8_list, hT] at HP
  have hsz := str8_size T
  have hwl : (T.length : Int) + 1 ≤ s.size := by omega
  have hwm : 1 + (T.length : Int) ≤ s.size := by omega
  have hwn : (1 + (T.length : Int)).toNat = T.length + 1 := by omega
  have HF0 := Lib.hid (FreeTok.new w 0 ByteArray.empty 0 29)
  have HC := Lib.hid (fun V => clone8 (str8 T) V (by omega))
  have HK := Lib.hid (fun V => impl_keyword (str8 T) V)
  rw [str8_list] at HK
  generalize str8 (s.data.toList.drop 1) = y at hc1 HP
  clear hT hb hl hq
  rcases hw with ⟨hr, ho⟩ | ⟨hr, ho⟩
  · have HO := Lib.hid ho
    rw [hr] at HK
    generalize Tk.one denM s.data.toList = o at HO ⊢
    clear hr ho
    go_enter Tryd.func44, Tryd.ntmps44
    go_wp2_with (first | (go_at_call 48; refine (HP.out _).mono ?_; rintro e w1 ⟨rfl, rfl⟩) | (go_at_call 52; refine (HC.out _).mono ?_; rintro e w2 ⟨rfl, hb2⟩; have HB2 := Lib.hid (below_step (bl1 _ _) hb2); have HF2 := Lib.hid (HF0.out.later hb2); clear hb2) | (go_at_call 59; refine (HK.out _).mono ?_; rintro e w3 ⟨rfl, hb3⟩; have HB3 := Lib.hid (below_step HB2.out hb3); obtain ⟨⟨r0, r1, r2⟩, f0, f1, f2⟩ := HF2.out.later hb3; clear hb3))
    exact bodyPost_ret (v := .tuple #[.agg #[.int .i64 6, .string (str8 T), .int .i64 0], .int .i64 (1 + T.length)]) (by simp [results, Tryd.results44, go_sem, r0, r1, r2]; try rfl) rfl ⟨tk_yes (k := 6) HO.out (by omega), below_store3 HB3.out (Nat.le_refl _) _ _ _⟩
  · have HO := Lib.hid ho
    rw [hr] at HK
    generalize Tk.one denM s.data.toList = o at HO ⊢
    clear hr ho
    go_enter Tryd.func44, Tryd.ntmps44
    go_wp2_with (first | (go_at_call 48; refine (HP.out _).mono ?_; rintro e w1 ⟨rfl, rfl⟩) | (go_at_call 52; refine (HC.out _).mono ?_; rintro e w2 ⟨rfl, hb2⟩; have HB2 := Lib.hid (below_step (bl1 _ _) hb2); have HF2 := Lib.hid (HF0.out.later hb2); clear hb2) | (go_at_call 59; refine (HK.out _).mono ?_; rintro e w3 ⟨rfl, hb3⟩; have HB3 := Lib.hid (below_step HB2.out hb3); obtain ⟨⟨r0, r1, r2⟩, f0, f1, f2⟩ := HF2.out.later hb3; clear hb3))
    exact bodyPost_ret (v := .tuple #[.agg #[.int .i64 0, .string ByteArray.empty, .int .i64 0], .int .i64 0]) (by simp [results, Tryd.results44, go_sem, r0, r1, r2]; try rfl) rfl ⟨tk_no HO.out, below_store3 HB3.out (Nat.le_refl _) _ _ _⟩
end Go.Proofs.YtfhakailbikjkaaDoor
/- The program's reader of operators, and of any token. No conditions. -/
namespace Go.Proofs.YtfhakailbikjkaaDoor
open Go.RowKit
set_option linter.unusedVariables false

/-- Where the look for the longest operator stands. -/
def OpAt (S : List UInt8) (z : Option (List UInt8)) (k : Nat) : Prop := z = Tk.opF S k
theorem OpAt.next {S : List UInt8} {z : Option (List UInt8)} {k : Nat} (h : OpAt S z (k + 1)) (hn : hasW Tk.operators (S.take (k + 1)) = false) : OpAt S z k := by
  unfold OpAt at h ⊢
  rw [h, Tk.opF, if_neg]
  intro e; unfold hasW at hn; rw [e] at hn; cases hn
theorem OpAt.hit {S : List UInt8} {z : Option (List UInt8)} {k : Nat} (h : OpAt S z (k + 1)) (hn : hasW Tk.operators (S.take (k + 1)) = true) : z = some (S.take (k + 1)) := by
  unfold OpAt at h
  unfold hasW at hn
  rw [h, Tk.opF, if_pos hn]
theorem OpAt.over {S : List UInt8} {z : Option (List UInt8)} (h : OpAt S z 0) : z = none := h
theorem op_none {z : Option (List UInt8)} (h : z = none) : (z.map fun o : List UInt8 => ((7 : Nat), o, o.length)) = none := by rw [h]; rfl
theorem op_some {z : Option (List UInt8)} {q : List UInt8} (h : z = some q) : (z.map fun o : List UInt8 => ((7 : Nat), o, o.length)) = some (7, q, q.length) := by rw [h]; rfl

set_option maxHeartbeats 1600000 in
theorem read_op (s : ByteArray) (w : World) (hs : (s.size : Int) ≤ 1048576) (m : Nat) (hm : m = min 5 s.size) : Calls Tryd.prog 45 #[.string s] w (RetTk w ((Tk.opF s.data.toList m).map fun o => (7, o, o.length))) := by
  unfold RetTk
  have HST : Hid (OpAt s.data.toList (Tk.opF s.data.toList m) m) := Lib.hid rfl
  generalize Tk.opF s.data.toList m = z at HST ⊢
  have hm5 : m ≤ 5 := by omega
  have hms : m ≤ s.size := by omega
  have HF0 := Lib.hid (FreeTok.new w 0 ByteArray.empty 0 29)
  have HB0 := Lib.hid (bl1 w (.cells #[.int .i64 0, .string ByteArray.empty, .int .i64 0] 29))
  go_enter Tryd.func45, Tryd.ntmps45
  go_wp2
  go_loop [4] (fun i => ∃ k : Nat, i = .int .i64 k ∧ k ≤ 5 ∧ k ≤ s.size ∧ OpAt s.data.toList z k) (fun i => (intOf i).toNat)
  case atStart =>
    exact ⟨m, by rw [hm]; simp; omega, hm5, hms, HST.out⟩
  case round =>
    clear HST
    obtain ⟨k, rfl, hk5, hks, hat⟩ := hrel
    have HAT := Lib.hid hat
    clear hat
    by_cases h0 : 0 < k
    · obtain ⟨j, rfl⟩ : ∃ j, k = j + 1 := ⟨k - 1, by omega⟩
      have hcut := cut_at s (j + 1)
      have hql : (s.data.toList.take (j + 1)).length = j + 1 := by rw [List.length_take, len8]; omega
      have hqs : ((str8 (s.data.toList.take (j + 1))).size : Int) ≤ 1048576 := by rw [str8_size, hql]; omega
      have HI := Lib.hid (fun W => impl_op (str8 (s.data.toList.take (j + 1))) W)
      have HC := Lib.hid (fun W => clone8 (str8 (s.data.toList.take (j + 1))) W hqs)
      rw [str8_list] at HI
      have j0 : (0 : Int) < (j : Int) + 1 := by omega
      have j1 : (j : Int) + 1 ≤ s.size := by omega
      have j2 : ((j : Int) + 1).toNat = j + 1 := by omega
      cases hh : hasW Tk.operators (s.data.toList.take (j + 1))
      · have HN := Lib.hid (HAT.out.next hh)
        rw [hh] at HI
        clear hh hqs hql HC HAT
        generalize str8 (s.data.toList.take (j + 1)) = x at hcut HI
        go_wp2_with (first | (go_at_call 60; refine (HI.out _).mono ?_; rintro e w1 ⟨rfl, rfl⟩))
        go_round
        case rel => exact ⟨j, by go_num, by omega, by omega, HN.out⟩
        case measure => first | (simp [intOf]; done) | (simp [intOf]; omega)
      · have HO := Lib.hid (op_some (HAT.out.hit hh))
        rw [hh] at HI
        clear hh hqs HAT
        have HQ := Lib.hid hql
        clear hql
        generalize s.data.toList.take (j + 1) = q at hcut HI HC HO HQ
        go_wp2_with (first | (go_at_call 60; refine (HI.out _).mono ?_; rintro e w1 ⟨rfl, rfl⟩) | (go_at_call 52; refine (HC.out _).mono ?_; rintro e w2 ⟨rfl, hb2⟩; have HB2 := Lib.hid (below_step (bl1 _ _) hb2); obtain ⟨⟨r0, r1, r2⟩, f0, f1, f2⟩ := HF0.out.later hb2; clear hb2))
        exact bodyPost_ret (v := .tuple #[.agg #[.int .i64 7, .string (str8 q), .int .i64 0], .int .i64 ((j : Int) + 1)]) (by simp [results, Tryd.results45, go_sem, r0, r1, r2]; try rfl) rfl ⟨tk_yes (k := 7) HO.out (by rw [HQ.out]; rfl), below_store3 HB2.out (Nat.le_refl _) _ _ _⟩
    · obtain rfl : k = 0 := by omega
      have HO := Lib.hid (op_none HAT.out.over)
      clear HAT
      go_wp2
      exact bodyPost_ret (v := .tuple #[.agg #[.int .i64 0, .string ByteArray.empty, .int .i64 0], .int .i64 0]) (by simp [results, Tryd.results45, go_sem]; try rfl) rfl ⟨tk_no HO.out, HB0.out⟩
end Go.Proofs.YtfhakailbikjkaaDoor
/- The program's reader of any token. No conditions. -/
namespace Go.Proofs.YtfhakailbikjkaaDoor
open Go.RowKit
set_option linter.unusedVariables false

theorem read_at {w : World} {o : Option (Nat × List UInt8 × Nat)} {f : FuncId} {s : ByteArray} (h : Calls Tryd.prog f #[.string s] w (RetTk w o)) : Calls Tryd.prog f #[.string s] w fun e w' => e = .returned (.tuple #[.agg #[.int .i64 (tkK o), .string (tkT o), .int .i64 0], .int .i64 (tkN o)]) ∧ Below w.heap.size w w' := h
set_option maxHeartbeats 3200000 in
theorem read_tok (a : Addr) (s : ByteArray) (w : World) (hS : SentAt a w) (hs : (s.size : Int) ≤ 1048576) (h0 : 0 < s.size) : Calls Tryd.prog 32 #[.string s] w (RetTk w (Tk.one denM s.data.toList)) := by
  show Calls Tryd.prog 32 #[.string s] w fun e w' => e = .returned (.tuple #[.agg #[.int .i64 (tkK (Tk.one denM s.data.toList)), .string (tkT (Tk.one denM s.data.toList)), .int .i64 0], .int .i64 (tkN (Tk.one denM s.data.toList))]) ∧ Below w.heap.size w w'
  have HF0 := Lib.hid (FreeTok.new w 0 ByteArray.empty 0 29)
  have h00 : (0 : Int) < s.size := by omega
  have HD := Lib.hid (fun V => impl_digit s[0] V)
  have HL := Lib.hid (fun V => impl_letter s[0] V)
  have HSB := Lib.hid (sentAt_below hS (bl1 w (.cells #[.int .i64 0, .string ByteArray.empty, .int .i64 0] 29)))
  clear hS
  cases hd : Dec.isDig s[0]
  · rw [hd] at HD
    cases hl : Tk.letter s[0]
    · rw [hl] at HL
      by_cases h34 : s[0] = 34
      · have t34 : ((s[0].toNat : Int) == 34) = true := by rw [h34]; rfl
        have HR := Lib.hid (read_at (read_text a s (w.alloc (.cells #[.int .i64 0, .string ByteArray.empty, .int .i64 0] 29)) HSB.out hs h0 h34))
        generalize tkK (Tk.one denM s.data.toList) = kk at HR ⊢
        generalize tkT (Tk.one denM s.data.toList) = tt at HR ⊢
        generalize tkN (Tk.one denM s.data.toList) = nn at HR ⊢
        clear hd hl h34 HSB
        go_enter Tryd.func32, Tryd.ntmps32
        go_wp2_with (first | (go_at_call 38; refine (HD.out _).mono ?_; rintro e w1 ⟨rfl, rfl⟩) | (go_at_call 40; with_reducible refine (HL.out _).mono ?_; rintro e w2 ⟨rfl, rfl⟩) | (go_at_call 42; refine HR.out.mono ?_; rintro e w3 ⟨rfl, hb3⟩; have HB3 := Lib.hid (below_step (bl1 _ _) hb3); obtain ⟨⟨r0, r1, r2⟩, f0, f1, f2⟩ := HF0.out.later hb3; clear hb3))
        exact bodyPost_ret (v := .tuple #[.agg #[.int .i64 kk, .string tt, .int .i64 0], .int .i64 nn]) (by simp [results, Tryd.results32, go_sem, r0, r1, r2]; try rfl) rfl ⟨rfl, below_store3 HB3.out (Nat.le_refl _) _ _ _⟩
      · have t34 : ((s[0].toNat : Int) == 34) = false := ne8 (b := 34) h34
        by_cases h39 : s[0] = 39
        · have t39 : ((s[0].toNat : Int) == 39) = true := by rw [h39]; rfl
          have HR := Lib.hid (read_at (read_cset a s (w.alloc (.cells #[.int .i64 0, .string ByteArray.empty, .int .i64 0] 29)) HSB.out hs h0 h39))
          generalize tkK (Tk.one denM s.data.toList) = kk at HR ⊢
          generalize tkT (Tk.one denM s.data.toList) = tt at HR ⊢
          generalize tkN (Tk.one denM s.data.toList) = nn at HR ⊢
          clear hd hl h34 h39 HSB
          go_enter Tryd.func32, Tryd.ntmps32
          go_wp2_with (first | (go_at_call 38; refine (HD.out _).mono ?_; rintro e w1 ⟨rfl, rfl⟩) | (go_at_call 40; with_reducible refine (HL.out _).mono ?_; rintro e w2 ⟨rfl, rfl⟩) | (go_at_call 43; refine HR.out.mono ?_; rintro e w3 ⟨rfl, hb3⟩; have HB3 := Lib.hid (below_step (bl1 _ _) hb3); obtain ⟨⟨r0, r1, r2⟩, f0, f1, f2⟩ := HF0.out.later hb3; clear hb3))
          exact bodyPost_ret (v := .tuple #[.agg #[.int .i64 kk, .string tt, .int .i64 0], .int .i64 nn]) (by simp [results, Tryd.results32, go_sem, r0, r1, r2]; try rfl) rfl ⟨rfl, below_store3 HB3.out (Nat.le_refl _) _ _ _⟩
        · have t39 : ((s[0].toNat : Int) == 39) = false := ne8 (b := 39) h39
          have HOP := Lib.hid (fun h => op_ways s h0 hl hd h34 h39 h)
          by_cases h38 : s[0] = 38
          · have t38 : ((s[0].toNat : Int) == 38) = true := by rw [h38]; rfl
            by_cases h1 : 1 < s.size
            · have h1i : (1 : Int) < s.size := by omega
              have HL2 := Lib.hid (fun V => impl_letter s[1] V)
              cases hl2 : Tk.letter s[1]
              · rw [hl2] at HL2
                have hop := HOP.out (by rintro ⟨_, _, h⟩; rw [hl2] at h; cases h)
                have HR := Lib.hid (read_at (hop ▸ read_op s (w.alloc (.cells #[.int .i64 0, .string ByteArray.empty, .int .i64 0] 29)) hs _ rfl))
                generalize tkK (Tk.one denM s.data.toList) = kk at HR ⊢
                generalize tkT (Tk.one denM s.data.toList) = tt at HR ⊢
                generalize tkN (Tk.one denM s.data.toList) = nn at HR ⊢
                clear hd hl h34 h39 h38 hl2 HSB HOP hop
                go_enter Tryd.func32, Tryd.ntmps32
                go_wp2_with (first | (go_at_call 38; refine (HD.out _).mono ?_; rintro e w1 ⟨rfl, rfl⟩) | (go_at_call 40; with_reducible refine (HL.out _).mono ?_; rintro e w2 ⟨rfl, rfl⟩) | (go_at_call 40; with_reducible refine (HL2.out _).mono ?_; rintro e w2 ⟨rfl, rfl⟩) | (go_at_call 45; refine HR.out.mono ?_; rintro e w3 ⟨rfl, hb3⟩; have HB3 := Lib.hid (below_step (bl1 _ _) hb3); obtain ⟨⟨r0, r1, r2⟩, f0, f1, f2⟩ := HF0.out.later hb3; clear hb3))
                exact bodyPost_ret (v := .tuple #[.agg #[.int .i64 kk, .string tt, .int .i64 0], .int .i64 nn]) (by simp [results, Tryd.results32, go_sem, r0, r1, r2]; try rfl) rfl ⟨rfl, below_store3 HB3.out (Nat.le_refl _) _ _ _⟩
              · rw [hl2] at HL2
                have HR := Lib.hid (read_at (read_key s (w.alloc (.cells #[.int .i64 0, .string ByteArray.empty, .int .i64 0] 29)) hs h1 h38 hl2))
                generalize tkK (Tk.one denM s.data.toList) = kk at HR ⊢
                generalize tkT (Tk.one denM s.data.toList) = tt at HR ⊢
                generalize tkN (Tk.one denM s.data.toList) = nn at HR ⊢
                clear hd hl h34 h39 h38 hl2 HSB HOP
                go_enter Tryd.func32, Tryd.ntmps32
                go_wp2_with (first | (go_at_call 38; refine (HD.out _).mono ?_; rintro e w1 ⟨rfl, rfl⟩) | (go_at_call 40; with_reducible refine (HL.out _).mono ?_; rintro e w2 ⟨rfl, rfl⟩) | (go_at_call 40; with_reducible refine (HL2.out _).mono ?_; rintro e w2 ⟨rfl, rfl⟩) | (go_at_call 44; refine HR.out.mono ?_; rintro e w3 ⟨rfl, hb3⟩; have HB3 := Lib.hid (below_step (bl1 _ _) hb3); obtain ⟨⟨r0, r1, r2⟩, f0, f1, f2⟩ := HF0.out.later hb3; clear hb3))
                exact bodyPost_ret (v := .tuple #[.agg #[.int .i64 kk, .string tt, .int .i64 0], .int .i64 nn]) (by simp [results, Tryd.results32, go_sem, r0, r1, r2]; try rfl) rfl ⟨rfl, below_store3 HB3.out (Nat.le_refl _) _ _ _⟩
            · have h1i : ¬ (1 : Int) < s.size := by omega
              have hop := HOP.out (by rintro ⟨_, h, _⟩; exact h1 h)
              have HR := Lib.hid (read_at (hop ▸ read_op s (w.alloc (.cells #[.int .i64 0, .string ByteArray.empty, .int .i64 0] 29)) hs _ rfl))
              generalize tkK (Tk.one denM s.data.toList) = kk at HR ⊢
              generalize tkT (Tk.one denM s.data.toList) = tt at HR ⊢
              generalize tkN (Tk.one denM s.data.toList) = nn at HR ⊢
              clear hd hl h34 h39 h38 HSB HOP hop
              go_enter Tryd.func32, Tryd.ntmps32
              go_wp2_with (first | (go_at_call 38; refine (HD.out _).mono ?_; rintro e w1 ⟨rfl, rfl⟩) | (go_at_call 40; with_reducible refine (HL.out _).mono ?_; rintro e w2 ⟨rfl, rfl⟩) | (go_at_call 45; refine HR.out.mono ?_; rintro e w3 ⟨rfl, hb3⟩; have HB3 := Lib.hid (below_step (bl1 _ _) hb3); obtain ⟨⟨r0, r1, r2⟩, f0, f1, f2⟩ := HF0.out.later hb3; clear hb3))
              exact bodyPost_ret (v := .tuple #[.agg #[.int .i64 kk, .string tt, .int .i64 0], .int .i64 nn]) (by simp [results, Tryd.results32, go_sem, r0, r1, r2]; try rfl) rfl ⟨rfl, below_store3 HB3.out (Nat.le_refl _) _ _ _⟩
          · have t38 : ((s[0].toNat : Int) == 38) = false := ne8 (b := 38) h38
            have hop := HOP.out (by rintro ⟨h, _⟩; exact h38 h)
            have HR := Lib.hid (read_at (hop ▸ read_op s (w.alloc (.cells #[.int .i64 0, .string ByteArray.empty, .int .i64 0] 29)) hs _ rfl))
            generalize tkK (Tk.one denM s.data.toList) = kk at HR ⊢
            generalize tkT (Tk.one denM s.data.toList) = tt at HR ⊢
            generalize tkN (Tk.one denM s.data.toList) = nn at HR ⊢
            clear hd hl h34 h39 h38 HSB HOP hop
            go_enter Tryd.func32, Tryd.ntmps32
            go_wp2_with (first | (go_at_call 38; refine (HD.out _).mono ?_; rintro e w1 ⟨rfl, rfl⟩) | (go_at_call 40; with_reducible refine (HL.out _).mono ?_; rintro e w2 ⟨rfl, rfl⟩) | (go_at_call 45; refine HR.out.mono ?_; rintro e w3 ⟨rfl, hb3⟩; have HB3 := Lib.hid (below_step (bl1 _ _) hb3); obtain ⟨⟨r0, r1, r2⟩, f0, f1, f2⟩ := HF0.out.later hb3; clear hb3))
            exact bodyPost_ret (v := .tuple #[.agg #[.int .i64 kk, .string tt, .int .i64 0], .int .i64 nn]) (by simp [results, Tryd.results32, go_sem, r0, r1, r2]; try rfl) rfl ⟨rfl, below_store3 HB3.out (Nat.le_refl _) _ _ _⟩
    · rw [hl] at HL
      have HR := Lib.hid (read_at (read_word s (w.alloc (.cells #[.int .i64 0, .string ByteArray.empty, .int .i64 0] 29)) hs h0 hl))
      generalize tkK (Tk.one denM s.data.toList) = kk at HR ⊢
      generalize tkT (Tk.one denM s.data.toList) = tt at HR ⊢
      generalize tkN (Tk.one denM s.data.toList) = nn at HR ⊢
      clear hd hl HSB
      go_enter Tryd.func32, Tryd.ntmps32
      go_wp2_with (first | (go_at_call 38; refine (HD.out _).mono ?_; rintro e w1 ⟨rfl, rfl⟩) | (go_at_call 40; with_reducible refine (HL.out _).mono ?_; rintro e w2 ⟨rfl, rfl⟩) | (go_at_call 41; refine HR.out.mono ?_; rintro e w3 ⟨rfl, hb3⟩; have HB3 := Lib.hid (below_step (bl1 _ _) hb3); obtain ⟨⟨r0, r1, r2⟩, f0, f1, f2⟩ := HF0.out.later hb3; clear hb3))
      exact bodyPost_ret (v := .tuple #[.agg #[.int .i64 kk, .string tt, .int .i64 0], .int .i64 nn]) (by simp [results, Tryd.results32, go_sem, r0, r1, r2]; try rfl) rfl ⟨rfl, below_store3 HB3.out (Nat.le_refl _) _ _ _⟩
  · rw [hd] at HD
    have HR := Lib.hid (read_at (read_int s (w.alloc (.cells #[.int .i64 0, .string ByteArray.empty, .int .i64 0] 29)) hs h0 hd))
    generalize tkK (Tk.one denM s.data.toList) = kk at HR ⊢
    generalize tkT (Tk.one denM s.data.toList) = tt at HR ⊢
    generalize tkN (Tk.one denM s.data.toList) = nn at HR ⊢
    clear hd HSB HL
    go_enter Tryd.func32, Tryd.ntmps32
    go_wp2_with (first | (go_at_call 38; refine (HD.out _).mono ?_; rintro e w1 ⟨rfl, rfl⟩) | (go_at_call 39; refine HR.out.mono ?_; rintro e w3 ⟨rfl, hb3⟩; have HB3 := Lib.hid (below_step (bl1 _ _) hb3); obtain ⟨⟨r0, r1, r2⟩, f0, f1, f2⟩ := HF0.out.later hb3; clear hb3))
    exact bodyPost_ret (v := .tuple #[.agg #[.int .i64 kk, .string tt, .int .i64 0], .int .i64 nn]) (by simp [results, Tryd.results32, go_sem, r0, r1, r2]; try rfl) rfl ⟨rfl, below_store3 HB3.out (Nat.le_refl _) _ _ _⟩
theorem one_kind {D : Tk.Den} {R t : List UInt8} {k n : Nat} (h : Tk.one D R = some (k, t, n)) : 1 ≤ k := by
  match R with
  | [] => cases h
  | b :: r =>
    simp only [Tk.one] at h
    split at h
    · split at h
      · cases h; omega
      · split at h
        · cases h; omega
        · cases h
    · split at h
      · cases hi : D.int (b :: r.takeWhile Tk.idb) with
        | none => rw [hi] at h; cases h
        | some x => rw [hi] at h; cases h; omega
      · split at h
        · cases he : Lt.endL 34 r with
          | none => rw [he] at h; cases h
          | some m =>
            rw [he] at h
            cases hs : D.str (b :: r.take m) with
            | none => simp [hs] at h
            | some x => simp [hs] at h; omega
        · split at h
          · cases he : Lt.endL 39 r with
            | none => rw [he] at h; cases h
            | some m =>
              rw [he] at h
              cases hs : D.set (b :: r.take m) with
              | none => simp [hs] at h
              | some x => simp [hs] at h; omega
          · split at h
            · split at h
              · cases h; omega
              · cases h
            · cases hf : Tk.operators.find? fun o => o.isPrefixOf (b :: r) with
              | none => rw [hf] at h; cases h
              | some o => rw [hf] at h; cases h; omega
end Go.Proofs.YtfhakailbikjkaaDoor
/- The program's scanner of tokens: what it keeps. No conditions. -/
namespace Go.Proofs.YtfhakailbikjkaaDoor
open Go.RowKit
set_option linter.unusedVariables false

/-- What the scanner keeps: the source, the place, the line, in three blocks from h on. -/
def Scan (w : World) (h : Nat) (s : ByteArray) (k line : Nat) : Prop := w.heap[h]? = some (.cells #[.string s] 9 (0, 0)) ∧ w.heap[h + 1]? = some (.cells #[.int .i64 (k : Int)] 3 (0, 0)) ∧ w.heap[h + 2]? = some (.cells #[.int .i64 (line : Int)] 3 (0, 0))
theorem Scan.lt {w : World} {h k line : Nat} {s : ByteArray} (x : Scan w h s k line) : h + 2 < w.heap.size := lt_of_block x.2.2
theorem Scan.later {w w1 : World} {h k line : Nat} {s : ByteArray} (x : Scan w h s k line) (hb : Below w.heap.size w w1) : Scan w1 h s k line := by
  have hl := x.lt
  exact ⟨by rw [hb.block h (by omega)]; exact x.1, by rw [hb.block (h + 1) (by omega)]; exact x.2.1, by rw [hb.block (h + 2) (by omega)]; exact x.2.2⟩
theorem Scan.cells {w : World} {h k line : Nat} {s : ByteArray} (x : Scan w h s k line) : w.cell? ⟨h, 0, none⟩ = some (.string s) ∧ w.cell? ⟨h + 1, 0, none⟩ = some (.int .i64 (k : Int)) ∧ w.frozen? ⟨h + 1, 0, none⟩ = false ∧ w.cell? ⟨h + 2, 0, none⟩ = some (.int .i64 (line : Int)) ∧ w.frozen? ⟨h + 2, 0, none⟩ = false :=
  ⟨cell_of_one x.1, cell_of_one x.2.1, free_of_one x.2.1, cell_of_one x.2.2, free_of_one x.2.2⟩
theorem Scan.set1 {w : World} {h k line : Nat} {s : ByteArray} (x : Scan w h s k line) (k2 : Nat) (v : Value) (hv : v = .int .i64 (k2 : Int)) : Scan (w.setCell ⟨h + 1, 0, none⟩ v) h s k2 line := by
  subst hv
  exact ⟨by rw [Below.heap_setCell _ _ _ _ (show h ≠ h + 1 by omega)]; exact x.1, one_setCell x.2.1, by rw [Below.heap_setCell _ _ _ _ (show h + 2 ≠ h + 1 by omega)]; exact x.2.2⟩
theorem Scan.set2 {w : World} {h k line : Nat} {s : ByteArray} (x : Scan w h s k line) (n : Nat) (v : Value) (hv : v = .int .i64 (n : Int)) : Scan (w.setCell ⟨h + 2, 0, none⟩ v) h s k n := by
  subst hv
  exact ⟨by rw [Below.heap_setCell _ _ _ _ (show h ≠ h + 2 by omega)]; exact x.1, by rw [Below.heap_setCell _ _ _ _ (show h + 1 ≠ h + 2 by omega)]; exact x.2.1, one_setCell x.2.2⟩
theorem Scan.set3 {w : World} {h k line b : Nat} {s : ByteArray} (x : Scan w h s k line) (hb : h + 3 ≤ b) (o : Nat) (v : Value) : Scan (w.setCell ⟨b, o, none⟩ v) h s k line :=
  ⟨by rw [Below.heap_setCell _ _ _ _ (show h ≠ b by omega)]; exact x.1, by rw [Below.heap_setCell _ _ _ _ (show h + 1 ≠ b by omega)]; exact x.2.1, by rw [Below.heap_setCell _ _ _ _ (show h + 2 ≠ b by omega)]; exact x.2.2⟩
theorem Scan.drewN {w : World} {h k line : Nat} {s : ByteArray} (x : Scan w h s k line) (n : Nat) : Scan (w.drewN n) h s k line := by
  induction n with
  | zero => exact x
  | succ n ih => exact ih
theorem Scan.drew {w : World} {h k line : Nat} {s : ByteArray} (x : Scan w h s k line) : Scan w.drew h s k line := x
/-- Nothing is turned but what the scanner keeps, and what is new. -/
def Past (h : Nat) (w w' : World) : Prop := Below h w w' ∧ ∀ b, h + 3 ≤ b → b < w.heap.size → w'.heap[b]? = w.heap[b]?
theorem Past.refl (h : Nat) (w : World) : Past h w w := ⟨Below.refl _ _, fun _ _ _ => rfl⟩
theorem Past.later {h : Nat} {w w1 w2 : World} (x : Past h w w1) (hb : Below w1.heap.size w1 w2) (hh : h ≤ w1.heap.size) : Past h w w2 :=
  ⟨x.1.trans (hb.mono hh), fun b h1 h2 => by have := x.1.size; rw [hb.block b (by omega)]; exact x.2 b h1 h2⟩
theorem Past.set {h : Nat} {w w1 : World} (x : Past h w w1) (b o : Nat) (v : Value) (hb : (h ≤ b ∧ b < h + 3) ∨ (h ≤ b ∧ w.heap.size ≤ b)) : Past h w (w1.setCell ⟨b, o, none⟩ v) :=
  ⟨x.1.setCell (p := ⟨b, o, none⟩) (by rcases hb with h | h <;> exact h.1) v, fun c h1 h2 => by rw [Below.heap_setCell _ _ _ _ (show c ≠ b by omega)]; exact x.2 c h1 h2⟩
theorem Past.drewN {h : Nat} {w w1 : World} (x : Past h w w1) (n : Nat) : Past h w (w1.drewN n) := by
  induction n with
  | zero => exact x
  | succ n ih => exact ⟨ih.1.drew, ih.2⟩
theorem Past.trans {h : Nat} {w w1 w2 : World} (x : Past h w w1) (y : Past h w1 w2) : Past h w w2 :=
  ⟨x.1.trans y.1, fun b h1 h2 => by have := x.1.size; rw [y.2 b h1 (by omega)]; exact x.2 b h1 h2⟩

theorem scan_start (w : World) (s : ByteArray) : Scan (((w.alloc (.cells #[.string s] 9)).alloc (.cells #[.int .i64 0] 3)).alloc (.cells #[.int .i64 1] 3)) w.heap.size s 0 1 := by
  have e : ∀ (W : World) (o : Obj), (W.alloc o).heap[W.heap.size]? = some o := fun W o => by show (W.heap.push o)[W.heap.size]? = some o; simp
  have z : ∀ (W : World) (o : Obj), (W.alloc o).heap.size = W.heap.size + 1 := fun W o => by show (W.heap.push o).size = _; simp
  have e1 := e w (.cells #[.string s] 9)
  have e2 := e (w.alloc (.cells #[.string s] 9)) (.cells #[.int .i64 0] 3)
  have e3 := e ((w.alloc (.cells #[.string s] 9)).alloc (.cells #[.int .i64 0] 3)) (.cells #[.int .i64 1] 3)
  rw [z] at e2
  rw [z, z] at e3
  refine ⟨?_, ?_, e3⟩
  · rw [Below.heap_alloc _ _ _ (by rw [z, z]; omega), Below.heap_alloc _ _ _ (by rw [z]; omega)]; exact e1
  · rw [Below.heap_alloc _ _ _ (by rw [z, z]; omega)]; exact e2
theorem scanner_new (s : ByteArray) (w : World) : Calls Tryd.prog 12 #[.string s] w fun e w' => e = .returned (.func (.func 29) #[] #[.pointer (some ⟨w.heap.size, 0, none⟩), .pointer (some ⟨w.heap.size + 1, 0, none⟩), .pointer (some ⟨w.heap.size + 2, 0, none⟩)]) ∧ Scan w' w.heap.size s 0 1 ∧ Below w.heap.size w w' ∧ w'.heap.size = w.heap.size + 3 := by
  have hmf : ∀ (fn : Fn) (first cap : Array Value) (w : World), (Instr.makeFunc fn first cap).run Tryd.prog w = .ok (.func fn first cap) w := fun _ _ _ _ => rfl
  go_enter Tryd.func12, Tryd.ntmps12
  go_wp2
  go_ret
  exact ⟨rfl, scan_start w s, ((bl1 _ _).alloc (bl1 _ _).size _).alloc (((bl1 _ _).alloc (bl1 _ _).size _)).size _, by simp⟩
/-! The closure -/
theorem FreeTok.drew {w : World} {b : Nat} {k l : Int} {t : ByteArray} (x : FreeTok w b k t l) : FreeTok w.drew b k t l := x
theorem FreeTok.other {w : World} {b c : Nat} {k l : Int} {t : ByteArray} (x : FreeTok w b k t l) (h : b ≠ c) (o : Nat) (v : Value) : FreeTok (w.setCell ⟨c, o, none⟩ v) b k t l := by
  have e : (w.setCell ⟨c, o, none⟩ v).heap[b]? = w.heap[b]? := Below.heap_setCell _ _ _ _ h
  obtain ⟨⟨a1, a2, a3⟩, a4, a5, a6⟩ := x
  exact ⟨⟨(World.cell?_of_block (a := ⟨b, 0, none⟩) e).trans a1, (World.cell?_of_block (a := ⟨b, 1, none⟩) e).trans a2, (World.cell?_of_block (a := ⟨b, 2, none⟩) e).trans a3⟩,
    (World.frozen?_of_block (a := ⟨b, 0, none⟩) e).trans a4, (World.frozen?_of_block (a := ⟨b, 1, none⟩) e).trans a5, (World.frozen?_of_block (a := ⟨b, 2, none⟩) e).trans a6⟩
theorem FreeTok.third {w : World} {b : Nat} {k l : Int} {t : ByteArray} (x : FreeTok w b k t l) (l2 : Int) : FreeTok (w.setCell ⟨b, 2, none⟩ (.int .i64 l2)) b k t l2 := by
  obtain ⟨⟨a1, a2, a3⟩, a4, a5, a6⟩ := x
  refine ⟨⟨?_, ?_, ?_⟩, ?_, ?_, ?_⟩
  all_goals go_simp
theorem Past.drew {h : Nat} {w w1 : World} (x : Past h w w1) : Past h w w1.drew := ⟨x.1.drew, x.2⟩
set_option maxRecDepth 100000 in
set_option maxHeartbeats 1600000 in
theorem scan_end (h k line g n : Nat) (s y x : ByteArray) (w : World) (hsc : Scan w h s k line) (hs : (s.size : Int) ≤ 1048576) (hg : k + g = s.size) (hx : s.extract k s.size = x) (hy : s.extract k (k + g) = y) (hys : y.size = g) (hn : n ≤ g) (hl : (line : Int) ≤ 1048577)
    (HG : Hid (∀ W, Calls Tryd.prog 30 #[.string x] W fun e w' => e = .returned (.int .i64 g) ∧ W = w'))
    (HN : Hid (∀ W, Calls Tryd.prog 31 #[.string y, .int .u8 10] W fun e w' => e = .returned (.int .i64 n) ∧ W = w')) :
    Calls Tryd.prog 29 #[.pointer (some ⟨h, 0, none⟩), .pointer (some ⟨h + 1, 0, none⟩), .pointer (some ⟨h + 2, 0, none⟩)] w fun e w' => e = .returned (.tuple #[.agg #[.int .i64 0, .string ByteArray.empty, .int .i64 0], .bool true]) ∧ Scan w' h s (k + g) (line + n) ∧ Past h w w' := by
  have hlt := hsc.lt
  have S1 := Lib.hid (hsc.later (bl1 w (.cells #[.int .i64 0, .string ⟨#[]⟩, .int .i64 0] 29)))
  have P1 := Lib.hid ((Past.refl h w).later (bl1 w (.cells #[.int .i64 0, .string ⟨#[]⟩, .int .i64 0] 29)) (by omega))
  have hk0 : (0 : Int) ≤ k := by omega
  have hk1 : (k : Int) ≤ s.size := by omega
  have hg0 : (0 : Int) ≤ (k : Int) + g := by omega
  have hg1 : (k : Int) + g ≤ s.size := by omega
  have hg2 : (k : Int) ≤ (k : Int) + g := by omega
  have hg3 : ((k : Int) + g).toNat = k + g := by omega
  have hw1 : IntKind.i64.wrap ((k : Int) + g) = (k : Int) + g := IntWalk.i64_in _ (by omega)
  have hnb : 0 ≤ (line : Int) + n ∧ (line : Int) + n ≤ 100000000 := by omega
  have HGE := Lib.hid hg
  clear hg
  obtain ⟨c0, c1, d1, c2, d2⟩ := S1.out.cells
  go_enter Tryd.func29, Tryd.ntmps29
  go_wp2_with fail
  go_quiet ((go_at_call 30; exact Calls.quiet_of_same ((HG.out _).mono fun e w2 hh => ⟨hh.1, hh.2.symm⟩)))
  go_wp2
  have S2 := Lib.hid ((S1.out.drewN nq).set1 (k + g) (.int .i64 ((k : Int) + g)) (by go_num))
  have P2 := Lib.hid ((P1.out.drewN nq).set (h + 1) 0 (.int .i64 ((k : Int) + g)) (.inl ⟨by omega, by omega⟩))
  obtain ⟨e0, e1, f1, e2, f2⟩ := S2.out.cells
  clear c0 c1 d1 c2 d2 hw1 HG S1 P1
  go_region_with (first | (go_at_call 31; refine (HN.out _).mono ?_; rintro e w5 ⟨rfl, rfl⟩))
  all_goals
    have hn1 : IntKind.i64.wrap ((line : Int) + n) = (line : Int) + n := IntWalk.i64_in _ (by omega)
    have S3 := Lib.hid (Scan.drew (S2.out.set2 (line + n) (.int .i64 (IntKind.i64.wrap ((line : Int) + n))) (by rw [hn1]; go_num)))
    have P3 := Lib.hid ((P2.out.set (h + 2) 0 (.int .i64 (IntKind.i64.wrap ((line : Int) + n))) (.inl ⟨by omega, by omega⟩)).drew)
    have F3 := Lib.hid (((((FreeTok.new w 0 ⟨#[]⟩ 0 29).drewN nq).other (show w.heap.size ≠ h + 1 by omega) 0 (.int .i64 ((k : Int) + g))).other (show w.heap.size ≠ h + 2 by omega) 0 (.int .i64 (IntKind.i64.wrap ((line : Int) + n)))).drew)
    clear e0 e1 f1 e2 f2 S2 P2 HN hn1
    generalize (((((w.alloc (.cells #[.int .i64 0, .string ⟨#[]⟩, .int .i64 0] 29)).drewN nq).setCell ⟨h + 1, 0, none⟩ (.int .i64 ((k : Int) + g))).setCell ⟨h + 2, 0, none⟩ (.int .i64 (IntKind.i64.wrap ((line : Int) + n)))).drew) = w3 at S3 P3 F3 ⊢
    obtain ⟨e0, e1, f1, e2, f2⟩ := S3.out.cells
    obtain ⟨⟨r0, r1, r2⟩, q0, q1, q2⟩ := F3.out
    have te : ((k : Int) + g == s.size) = true := beq_iff_eq.2 (by have := HGE.out; omega)
    go_wp2
    exact bodyPost_ret (v := .tuple #[.agg #[.int .i64 0, .string ⟨#[]⟩, .int .i64 0], .bool true]) (by simp [results, Tryd.results29, go_sem, r0, r1, r2]; try rfl) rfl ⟨rfl, ((S3.out.set3 (by omega) 0 _).set3 (by omega) 1 _).set3 (by omega) 2 _, ((P3.out.set _ 0 _ (.inr ⟨by omega, Nat.le_refl _⟩)).set _ 1 _ (.inr ⟨by omega, Nat.le_refl _⟩)).set _ 2 _ (.inr ⟨by omega, Nat.le_refl _⟩)⟩
set_option maxRecDepth 100000 in
set_option maxHeartbeats 3200000 in
theorem scan_tok (h k line g n : Nat) (s y x : ByteArray) (w : World) (hsc : Scan w h s k line) (hs : (s.size : Int) ≤ 1048576) (hg : k + g < s.size) (hx : s.extract k s.size = x) (hy : s.extract k (k + g) = y) (hys : y.size = g) (hn : n ≤ g) (hl : (line : Int) ≤ 1048577)
    (HG : Hid (∀ W, Calls Tryd.prog 30 #[.string x] W fun e w' => e = .returned (.int .i64 g) ∧ W = w'))
    (HN : Hid (∀ W, Calls Tryd.prog 31 #[.string y, .int .u8 10] W fun e w' => e = .returned (.int .i64 n) ∧ W = w'))
    (x2 : ByteArray) (hx2 : s.extract (k + g) s.size = x2) (kk : Int) (tt : ByteArray) (m : Nat) (hm : (m : Int) ≤ 1048576) (a : Addr) (hSa : SentAt a w) (hgl : 0 < h)
    (HR : Hid (∀ W, SentAt a W → Calls Tryd.prog 32 #[.string x2] W fun e w' => e = .returned (.tuple #[.agg #[.int .i64 kk, .string tt, .int .i64 0], .int .i64 (m : Int)]) ∧ Below W.heap.size W w')) :
    Calls Tryd.prog 29 #[.pointer (some ⟨h, 0, none⟩), .pointer (some ⟨h + 1, 0, none⟩), .pointer (some ⟨h + 2, 0, none⟩)] w fun e w' => e = .returned (.tuple #[.agg #[.int .i64 kk, .string tt, .int .i64 ((line + n : Nat) : Int)], .bool (!(kk == 0))]) ∧ Scan w' h s (k + g + m) (line + n) ∧ Past h w w' := by
  have HX2 := Lib.hid hx2
  have HM := Lib.hid hm
  have HSA := Lib.hid hSa
  clear hx2 hm hSa
  have hlt := hsc.lt
  have S1 := Lib.hid (hsc.later (bl1 w (.cells #[.int .i64 0, .string ⟨#[]⟩, .int .i64 0] 29)))
  have P1 := Lib.hid ((Past.refl h w).later (bl1 w (.cells #[.int .i64 0, .string ⟨#[]⟩, .int .i64 0] 29)) (by omega))
  have hk0 : (0 : Int) ≤ k := by omega
  have hk1 : (k : Int) ≤ s.size := by omega
  have hg0 : (0 : Int) ≤ (k : Int) + g := by omega
  have hg1 : (k : Int) + g ≤ s.size := by omega
  have hg2 : (k : Int) ≤ (k : Int) + g := by omega
  have hg3 : ((k : Int) + g).toNat = k + g := by omega
  have hw1 : IntKind.i64.wrap ((k : Int) + g) = (k : Int) + g := IntWalk.i64_in _ (by omega)
  have hnb : 0 ≤ (line : Int) + n ∧ (line : Int) + n ≤ 100000000 := by omega
  have HGE := Lib.hid hg
  clear hg
  obtain ⟨c0, c1, d1, c2, d2⟩ := S1.out.cells
  go_enter Tryd.func29, Tryd.ntmps29
  go_wp2_with fail
  go_quiet ((go_at_call 30; exact Calls.quiet_of_same ((HG.out _).mono fun e w2 hh => ⟨hh.1, hh.2.symm⟩)))
  go_wp2
  have S2 := Lib.hid ((S1.out.drewN nq).set1 (k + g) (.int .i64 ((k : Int) + g)) (by go_num))
  have P2 := Lib.hid ((P1.out.drewN nq).set (h + 1) 0 (.int .i64 ((k : Int) + g)) (.inl ⟨by omega, by omega⟩))
  obtain ⟨e0, e1, f1, e2, f2⟩ := S2.out.cells
  clear c0 c1 d1 c2 d2 hw1 HG S1 P1
  go_region_with (first | (go_at_call 31; refine (HN.out _).mono ?_; rintro e w5 ⟨rfl, rfl⟩))
  all_goals
    have hn1 : IntKind.i64.wrap ((line : Int) + n) = (line : Int) + n := IntWalk.i64_in _ (by omega)
    have S3 := Lib.hid (Scan.drew (S2.out.set2 (line + n) (.int .i64 (IntKind.i64.wrap ((line : Int) + n))) (by rw [hn1]; go_num)))
    have P3 := Lib.hid ((P2.out.set (h + 2) 0 (.int .i64 (IntKind.i64.wrap ((line : Int) + n))) (.inl ⟨by omega, by omega⟩)).drew)
    have F3 := Lib.hid (((((FreeTok.new w 0 ⟨#[]⟩ 0 29).drewN nq).other (show w.heap.size ≠ h + 1 by omega) 0 (.int .i64 ((k : Int) + g))).other (show w.heap.size ≠ h + 2 by omega) 0 (.int .i64 (IntKind.i64.wrap ((line : Int) + n)))).drew)
    clear e0 e1 f1 e2 f2 S2 P2 HN hn1
    generalize (((((w.alloc (.cells #[.int .i64 0, .string ⟨#[]⟩, .int .i64 0] 29)).drewN nq).setCell ⟨h + 1, 0, none⟩ (.int .i64 ((k : Int) + g))).setCell ⟨h + 2, 0, none⟩ (.int .i64 (IntKind.i64.wrap ((line : Int) + n)))).drew) = w3 at S3 P3 F3 ⊢
    have hsz3 := P3.out.1.size
    have hF3 := F3.out.lt
    have HR3 := Lib.hid (HR.out w3 ((P3.out.1.cell (p := ⟨0, 0, none⟩) hgl).trans HSA.out))
    obtain ⟨e0, e1, f1, e2, f2⟩ := S3.out.cells
    have te : ((k : Int) + g == s.size) = false := beq_eq_false_iff_ne.2 (by have := HGE.out; omega)
    have hx2 := HX2.out
    have hm0 := HM.out
    go_wp2_with fail
    clear e0 e1 f1 e2 f2
    go_wp2_with (first | (go_at_call 32; refine HR3.out.mono ?_; rintro e w4 ⟨rfl, hb4⟩; have B4 := Lib.hid hb4; have S5 := Lib.hid ((S3.out.later hb4).later (bl1 w4 (.cells #[.int .i64 kk, .string tt, .int .i64 0] 29))); have P5 := Lib.hid ((P3.out.later hb4 (by omega)).later (bl1 w4 (.cells #[.int .i64 kk, .string tt, .int .i64 0] 29)) (by have := hb4.size; omega)); have F5 := Lib.hid ((F3.out.later hb4).later (bl1 w4 (.cells #[.int .i64 kk, .string tt, .int .i64 0] 29))); have G5 := Lib.hid (FreeTok.new w4 kk tt 0 29); obtain ⟨e0, e1, f1, e2, f2⟩ := S5.out.cells; obtain ⟨⟨r0, r1, r2⟩, q0, q1, q2⟩ := F5.out; obtain ⟨⟨t0, t1, t2⟩, u0, u1, u2⟩ := G5.out; clear hb4))
    have hb4 := B4.out.size
    have S9 := Lib.hid ((S5.out.set1 (k + g + m) (.int .i64 ((k : Int) + g + m)) (by go_num)).set3 (show h + 3 ≤ w4.heap.size by omega) 2 (.int .i64 ((line : Int) + n)))
    have P9 := Lib.hid ((P5.out.set (h + 1) 0 (.int .i64 ((k : Int) + g + m)) (.inl ⟨by omega, by omega⟩)).set w4.heap.size 2 (.int .i64 ((line : Int) + n)) (.inr ⟨by omega, by omega⟩))
    have F9 := Lib.hid ((F5.out.other (show w.heap.size ≠ h + 1 by omega) 0 (.int .i64 ((k : Int) + g + m))).other (show w.heap.size ≠ w4.heap.size by omega) 2 (.int .i64 ((line : Int) + n)))
    have G9 := Lib.hid ((G5.out.other (show w4.heap.size ≠ h + 1 by omega) 0 (.int .i64 ((k : Int) + g + m))).third ((line : Int) + n))
    clear e0 e1 f1 e2 f2 r0 r1 r2 q0 q1 q2 t0 t1 t2 u0 u1 u2 S5 P5 F5 G5 S3 P3 F3 HR3 HR B4
    generalize hW9 : (((w4.alloc (.cells #[.int .i64 kk, .string tt, .int .i64 0] 29)).setCell ⟨h + 1, 0, none⟩ (.int .i64 ((k : Int) + g + m))).setCell ⟨w4.heap.size, 2, none⟩ (.int .i64 ((line : Int) + n))) = w9 at S9 P9 F9 G9 ⊢
    clear hW9
    obtain ⟨⟨r0, r1, r2⟩, q0, q1, q2⟩ := F9.out
    obtain ⟨⟨t0, t1, t2⟩, u0, u1, u2⟩ := G9.out
    go_region
  all_goals go_wp2
  all_goals exact bodyPost_ret (v := .tuple #[.agg #[.int .i64 kk, .string tt, .int .i64 ((line : Int) + n)], .bool (!(kk == 0))]) (by simp [results, Tryd.results29, go_sem, r0, r1, r2]; try rfl) rfl ⟨by rw [Int.natCast_add], ((S9.out.set3 (by omega) 0 _).set3 (by omega) 1 _).set3 (by omega) 2 _, (((P9.out.set _ 0 _ (.inr ⟨by omega, Nat.le_refl _⟩)).set _ 1 _ (.inr ⟨by omega, Nat.le_refl _⟩)).set _ 2 _ (.inr ⟨by omega, Nat.le_refl _⟩)).drew⟩
end Go.Proofs.YtfhakailbikjkaaDoor
/- Which tokens begin or end an expression, the text of a token, in the program. No conditions. -/

namespace Go.Proofs.YtfhakailbikjkaaDoor
open Go.RowKit
set_option linter.unusedVariables false

theorem other_kind {k : Int} (h : k ≠ 1 ∧ k ≠ 2 ∧ k ≠ 3 ∧ k ≠ 4 ∧ k ≠ 5 ∧ k ≠ 6 ∧ k ≠ 7) : (k == 1 || (decide (3 ≤ k) && decide (k ≤ 6))) = false := by
  have : ¬ (3 ≤ k ∧ k ≤ 6) := by omega
  simp [h.1]; omega
theorem begins_other {k : Int} (t : List UInt8) (h : k ≠ 1 ∧ k ≠ 2 ∧ k ≠ 3 ∧ k ≠ 4 ∧ k ≠ 5 ∧ k ≠ 6 ∧ k ≠ 7) : Tk.begins k t = false := by
  unfold Tk.begins; rw [if_neg h.2.1, if_neg h.2.2.2.2.2.2]; exact other_kind h
theorem ends_other {k : Int} (t : List UInt8) (h : k ≠ 1 ∧ k ≠ 2 ∧ k ≠ 3 ∧ k ≠ 4 ∧ k ≠ 5 ∧ k ≠ 6 ∧ k ≠ 7) : Tk.ends k t = false := by
  unfold Tk.ends; rw [if_neg h.2.1, if_neg h.2.2.2.2.2.2]; exact other_kind h
theorem kind_ways (k : Int) : (k = 1 ∨ k = 3 ∨ k = 4 ∨ k = 5 ∨ k = 6) ∨ k = 2 ∨ k = 7 ∨ (k ≠ 1 ∧ k ≠ 2 ∧ k ≠ 3 ∧ k ≠ 4 ∧ k ≠ 5 ∧ k ≠ 6 ∧ k ≠ 7) := by omega

set_option maxHeartbeats 3200000 in
theorem impl_begins (k : Int) (t : ByteArray) (ln : Int) (w : World) : Calls Tryd.prog 34 #[tokV k t ln] w fun e w' => e = .returned (.bool (Tk.begins k t.data.toList)) ∧ Below w.heap.size w w' := by
  unfold tokV
  rcases kind_ways k with (rfl | rfl | rfl | rfl | rfl) | rfl | rfl | h
  case inl.inl => 
    rw [show Tk.begins 1 t.data.toList = true from rfl]
    go_enter Tryd.func34, Tryd.ntmps34
    go_wp2
    go_ret
    exact ⟨rfl, bl1 _ _⟩
  case inl.inr.inl => 
    rw [show Tk.begins 3 t.data.toList = true from rfl]
    go_enter Tryd.func34, Tryd.ntmps34
    go_wp2
    go_ret
    exact ⟨rfl, bl1 _ _⟩
  case inl.inr.inr.inl => 
    rw [show Tk.begins 4 t.data.toList = true from rfl]
    go_enter Tryd.func34, Tryd.ntmps34
    go_wp2
    go_ret
    exact ⟨rfl, bl1 _ _⟩
  case inl.inr.inr.inr.inl => 
    rw [show Tk.begins 5 t.data.toList = true from rfl]
    go_enter Tryd.func34, Tryd.ntmps34
    go_wp2
    go_ret
    exact ⟨rfl, bl1 _ _⟩
  case inl.inr.inr.inr.inr => 
    rw [show Tk.begins 6 t.data.toList = true from rfl]
    go_enter Tryd.func34, Tryd.ntmps34
    go_wp2
    go_ret
    exact ⟨rfl, bl1 _ _⟩
  case inr.inl =>
    rw [show Tk.begins 2 t.data.toList = hasW Tk.beg2 t.data.toList from rfl]
    go_enter Tryd.func34, Tryd.ntmps34
    go_wp2
    all_goals first
      | (refine both (b := ?_) ?_ ?_; rotate_left; assumption; assumption)
      | (go_ret; refine ⟨word_yes (x := ?_) ?_ ?_, bl1 _ _⟩; rotate_left; assumption; decide)
      | (go_ret; refine ⟨word_no ?_, bl1 _ _⟩; simp only [Tk.beg2, List.contains_cons, List.contains_nil, Bool.or_false, *])
  case inr.inr.inl =>
    rw [show Tk.begins 7 t.data.toList = hasW Tk.beg7 t.data.toList from rfl]
    go_enter Tryd.func34, Tryd.ntmps34
    go_wp2
    all_goals first
      | (refine both (b := ?_) ?_ ?_; rotate_left; assumption; assumption)
      | (go_ret; refine ⟨word_yes (x := ?_) ?_ ?_, bl1 _ _⟩; rotate_left; assumption; decide)
      | (go_ret; refine ⟨word_no ?_, bl1 _ _⟩; simp only [Tk.beg7, List.contains_cons, List.contains_nil, Bool.or_false, *])
  case inr.inr.inr =>
    rw [begins_other _ h]
    have u1 : (k == 1) = false := beq_eq_false_iff_ne.2 (by omega)
    have u2 : (k == 2) = false := beq_eq_false_iff_ne.2 (by omega)
    have u3 : (k == 3) = false := beq_eq_false_iff_ne.2 (by omega)
    have u4 : (k == 4) = false := beq_eq_false_iff_ne.2 (by omega)
    have u5 : (k == 5) = false := beq_eq_false_iff_ne.2 (by omega)
    have u6 : (k == 6) = false := beq_eq_false_iff_ne.2 (by omega)
    have u7 : (k == 7) = false := beq_eq_false_iff_ne.2 (by omega)
    clear h
    go_enter Tryd.func34, Tryd.ntmps34
    go_wp2
    go_ret
    exact ⟨rfl, bl1 _ _⟩

set_option maxHeartbeats 3200000 in
theorem impl_ends (k : Int) (t : ByteArray) (ln : Int) (w : World) : Calls Tryd.prog 33 #[tokV k t ln] w fun e w' => e = .returned (.bool (Tk.ends k t.data.toList)) ∧ Below w.heap.size w w' := by
  unfold tokV
  rcases kind_ways k with (rfl | rfl | rfl | rfl | rfl) | rfl | rfl | h
  case inl.inl => 
    rw [show Tk.ends 1 t.data.toList = true from rfl]
    go_enter Tryd.func33, Tryd.ntmps33
    go_wp2
    go_ret
    exact ⟨rfl, bl1 _ _⟩
  case inl.inr.inl => 
    rw [show Tk.ends 3 t.data.toList = true from rfl]
    go_enter Tryd.func33, Tryd.ntmps33
    go_wp2
    go_ret
    exact ⟨rfl, bl1 _ _⟩
  case inl.inr.inr.inl => 
    rw [show Tk.ends 4 t.data.toList = true from rfl]
    go_enter Tryd.func33, Tryd.ntmps33
    go_wp2
    go_ret
    exact ⟨rfl, bl1 _ _⟩
  case inl.inr.inr.inr.inl => 
    rw [show Tk.ends 5 t.data.toList = true from rfl]
    go_enter Tryd.func33, Tryd.ntmps33
    go_wp2
    go_ret
    exact ⟨rfl, bl1 _ _⟩
  case inl.inr.inr.inr.inr => 
    rw [show Tk.ends 6 t.data.toList = true from rfl]
    go_enter Tryd.func33, Tryd.ntmps33
    go_wp2
    go_ret
    exact ⟨rfl, bl1 _ _⟩
  case inr.inl =>
    rw [show Tk.ends 2 t.data.toList = hasW Tk.end2 t.data.toList from rfl]
    go_enter Tryd.func33, Tryd.ntmps33
    go_wp2
    all_goals first
      | (refine both (b := ?_) ?_ ?_; rotate_left; assumption; assumption)
      | (go_ret; refine ⟨word_yes (x := ?_) ?_ ?_, bl1 _ _⟩; rotate_left; assumption; decide)
      | (go_ret; refine ⟨word_no ?_, bl1 _ _⟩; simp only [Tk.end2, List.contains_cons, List.contains_nil, Bool.or_false, *])
  case inr.inr.inl =>
    rw [show Tk.ends 7 t.data.toList = hasW Tk.end7 t.data.toList from rfl]
    go_enter Tryd.func33, Tryd.ntmps33
    go_wp2
    all_goals first
      | (refine both (b := ?_) ?_ ?_; rotate_left; assumption; assumption)
      | (go_ret; refine ⟨word_yes (x := ?_) ?_ ?_, bl1 _ _⟩; rotate_left; assumption; decide)
      | (go_ret; refine ⟨word_no ?_, bl1 _ _⟩; simp only [Tk.end7, List.contains_cons, List.contains_nil, Bool.or_false, *])
  case inr.inr.inr =>
    rw [ends_other _ h]
    have u1 : (k == 1) = false := beq_eq_false_iff_ne.2 (by omega)
    have u2 : (k == 2) = false := beq_eq_false_iff_ne.2 (by omega)
    have u3 : (k == 3) = false := beq_eq_false_iff_ne.2 (by omega)
    have u4 : (k == 4) = false := beq_eq_false_iff_ne.2 (by omega)
    have u5 : (k == 5) = false := beq_eq_false_iff_ne.2 (by omega)
    have u6 : (k == 6) = false := beq_eq_false_iff_ne.2 (by omega)
    have u7 : (k == 7) = false := beq_eq_false_iff_ne.2 (by omega)
    clear h
    go_enter Tryd.func33, Tryd.ntmps33
    go_wp2
    go_ret
    exact ⟨rfl, bl1 _ _⟩
end Go.Proofs.YtfhakailbikjkaaDoor
/- The reference model's SplitByte returns the parts of a string, in memory of its own. -/
namespace Go.Proofs.YtfhakailbikjkaaDoor
open Go.RowKit
set_option linter.unusedVariables false

theorem info_string : (Tryd.prog.info? 9).map (fun i => (i.zero, i.size, i.bytes)) = some (some (.string ByteArray.empty), 1, 16) := by kernel_rfl

/-- Strings of the call's own: a slice whose elements are l, in a block from base on. -/
def Owns (w : World) (base : Nat) (v : Value) (l : List ByteArray) : Prop := w.ownsRow base 9 1 v l.length (l.map Value.string)

theorem map_snoc (l : List ByteArray) (x : ByteArray) : (l ++ [x]).map Value.string = l.map Value.string ++ [Value.string x] := by simp

theorem owns_app {w1 : World} {base : Nat} {v' : Value} {l : List ByteArray} {x : ByteArray} (h : w1.ownsRow base 9 1 v' (l.length + 1) (l.map Value.string ++ [Value.string x])) : Owns w1 base v' (l ++ [x]) := by
  unfold Owns; rw [map_snoc, List.length_append]; exact h

theorem below_app {w wr w1 : World} {v : Value} {l : List ByteArray} {o : Obj} (hb : Below w.heap.size w wr) (hown : Owns wr w.heap.size v l) (hg : (wr.alloc o).grownBy w1 v.ownBlock) : Below w.heap.size w w1 :=
  (hb.alloc hb.size o).grown hg (by have := hb.size; simp; omega) (fun k hk => (hown.lt k hk).1)

theorem owns_below {w w1 : World} {base : Nat} {v : Value} {l : List ByteArray} (h : Owns w base v l) (hb : Below w.heap.size w w1) : Owns w1 base v l := by
  refine ⟨h.1, ?_⟩
  rcases h.2 with hn | ⟨g, cap, cur, hv, hg, hgg, r⟩
  · exact .inl hn
  · exact .inr ⟨g, cap, cur, hv, hg, by rw [hb.block g (Array.getElem?_eq_some_iff.1 hgg).1]; exact hgg, r⟩

theorem new_cell (w : World) (x : Value) (t : TypeId) : ∀ (j : Nat) (u : Value), [x][j]? = some u → (w.alloc (.cells #[x] t)).cell? ((⟨w.heap.size, 0, none⟩ : Addr).add j) = some u := by
  intro j u hj
  match j, hj with
  | 0, hj => simp at hj; subst hj; simp [Addr.add]

theorem one_string (x : ByteArray) : ∀ u ∈ [Value.string x], u.oneCell' = true := by
  intro u hu; simp at hu; subst hu; rfl

theorem max_small {n : Nat} (h : n ≤ 1048577) : n ≤ maxLen := by unfold maxLen; omega

end Go.Proofs.YtfhakailbikjkaaDoor
