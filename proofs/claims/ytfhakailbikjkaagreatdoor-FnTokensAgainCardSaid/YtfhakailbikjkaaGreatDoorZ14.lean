/- Joined texts: E1, D8, D9, W9, W10, W11, X10, R15, J10. No conditions besides those that each states. -/
import Derived.Test.YtfhakailbikjkaaGreatDoorShelf
import Derived.Lib.AppendStr
import Derived.Lib.Builder
import Derived.Deep.QuietTactic
import Derived.BigQuiet
import Derived.Test.YtfhakailbikjkaaGreatDoorRows
import Derived.LaidLaws
import Derived.MakeChecks
import Derived.Stop.LaidErr
import Derived.LaidMore
import Derived.Test.YtfhakailbikjkaaGreatDoorZ2
import Derived.Test.YtfhakailbikjkaaGreatDoorZ4
import Derived.Test.YtfhakailbikjkaaGreatDoorZ5
import Derived.Test.YtfhakailbikjkaaGreatDoorZ11
import Derived.Test.YtfhakailbikjkaaGreatDoorZ13
/- NormalizePosition and SectionOf of the program and of the reference model, and the walks of their two laws. No conditions. -/
namespace Go.Proofs.YtfhakailbikjkaaGreatDoor
open Go.RowKit
set_option linter.unusedVariables false

/-- The position that p denotes in a string of length n, and whether it denotes one. -/
def posV (p n : Int) : Int := if n < 0 ∨ 120 < n then 0 else if 1 ≤ p ∧ p ≤ n + 1 then p else if -n ≤ p ∧ p ≤ 0 then n + 1 + p else 0
def posB (p n : Int) : Bool := if n < 0 ∨ 120 < n then false else if 1 ≤ p ∧ p ≤ n + 1 then true else if -n ≤ p ∧ p ≤ 0 then true else false

theorem pos_cases (p n : Int) : (n < 0 ∧ posV p n = 0 ∧ posB p n = false) ∨ (120 < n ∧ posV p n = 0 ∧ posB p n = false)
    ∨ (0 ≤ n ∧ n ≤ 120 ∧ 1 ≤ p ∧ p ≤ n + 1 ∧ posV p n = p ∧ posB p n = true)
    ∨ (0 ≤ n ∧ n ≤ 120 ∧ -n ≤ p ∧ p ≤ 0 ∧ posV p n = n + 1 + p ∧ posB p n = true)
    ∨ (0 ≤ n ∧ n ≤ 120 ∧ n + 1 < p ∧ posV p n = 0 ∧ posB p n = false)
    ∨ (0 ≤ n ∧ n ≤ 120 ∧ p < -n ∧ posV p n = 0 ∧ posB p n = false) := by
  unfold posV posB
  by_cases h1 : n < 0
  · left; simp [h1]
  · by_cases h2 : 120 < n
    · right; left; simp [h2]
    · have h0 : ¬ (n < 0 ∨ 120 < n) := by omega
      simp only [if_neg h0]
      by_cases h3 : 1 ≤ p ∧ p ≤ n + 1
      · simp only [if_pos h3]; right; right; left; exact ⟨by omega, by omega, h3.1, h3.2, trivial, trivial⟩
      · simp only [if_neg h3]
        by_cases h4 : -n ≤ p ∧ p ≤ 0
        · simp only [if_pos h4]; right; right; right; left; exact ⟨by omega, by omega, h4.1, h4.2, trivial, trivial⟩
        · simp only [if_neg h4]
          rcases (show n + 1 < p ∨ p < -n by omega) with h5 | h5
          · right; right; right; right; left; exact ⟨by omega, by omega, h5, trivial, trivial⟩
          · right; right; right; right; right; exact ⟨by omega, by omega, h5, trivial, trivial⟩

def RetPos (w : World) (p n : Int) (e : Ending) (w' : World) : Prop := e = .returned (.tuple #[.int .i64 (posV p n), .bool (posB p n)]) ∧ w = w'

theorem strings_clone (s : ByteArray) (w : World) (h : s.size ≤ 281474976710656) : Calls Tryz.prog 24 #[.string s] w fun e w' => e = .returned (.string s) ∧ Below w.heap.size w w' := by
  have HC := Lib.hid (Tryz.stringslite_Clone s w h)
  go_enter Tryz.func24, Tryz.ntmps24
  go_wp2_with fail
  refine HC.out.mono ?_
  rintro e w1 ⟨rfl, hb⟩
  go_wp2
  go_ret
  exact ⟨rfl, hb⟩

/-- The substring between two positions, and whether both are positions. -/
def secB (s : ByteArray) (i j : Int) : Bool := posB i s.size && posB j s.size
def secS (s : ByteArray) (i j : Int) : ByteArray := if secB s i j then s.extract (min (posV i s.size).toNat (posV j s.size).toNat - 1) (max (posV i s.size).toNat (posV j s.size).toNat - 1) else ByteArray.empty

theorem pos_true {p n : Int} (h : posB p n = true) : 1 ≤ posV p n ∧ posV p n ≤ n + 1 ∧ n ≤ 120 := by
  rcases pos_cases p n with ⟨h1, e1, e2⟩ | ⟨h1, e1, e2⟩ | ⟨h1, h2, h3, h4, e1, e2⟩ | ⟨h1, h2, h3, h4, e1, e2⟩ | ⟨h1, h2, h3, e1, e2⟩ | ⟨h1, h2, h3, e1, e2⟩
  · rw [e2] at h; cases h
  · rw [e2] at h; cases h
  · omega
  · omega
  · rw [e2] at h; cases h
  · rw [e2] at h; cases h

theorem sec_cases (s : ByteArray) (i j : Int) : (posB i s.size = false ∧ secS s i j = ByteArray.empty ∧ secB s i j = false) ∨ (posB i s.size = true ∧ posB j s.size = false ∧ secS s i j = ByteArray.empty ∧ secB s i j = false)
    ∨ (∃ a b : Nat, posB i s.size = true ∧ posB j s.size = true ∧ posV i s.size = (a : Int) + 1 ∧ posV j s.size = (b : Int) + 1 ∧ a ≤ b ∧ b ≤ s.size ∧ s.size ≤ 120 ∧ secS s i j = s.extract a b ∧ secB s i j = true)
    ∨ (∃ a b : Nat, posB i s.size = true ∧ posB j s.size = true ∧ posV i s.size = (a : Int) + 1 ∧ posV j s.size = (b : Int) + 1 ∧ b < a ∧ a ≤ s.size ∧ s.size ≤ 120 ∧ secS s i j = s.extract b a ∧ secB s i j = true) := by
  cases hi : posB i s.size
  · left; simp [secS, secB, hi]
  · cases hj : posB j s.size
    · right; left; simp [secS, secB, hi, hj]
    · right; right
      have h1 := pos_true hi
      have h2 := pos_true hj
      have hb : secB s i j = true := by simp [secB, hi, hj]
      have hs : secS s i j = s.extract (min (posV i s.size).toNat (posV j s.size).toNat - 1) (max (posV i s.size).toNat (posV j s.size).toNat - 1) := if_pos hb
      by_cases hle : posV i s.size ≤ posV j s.size
      · left
        refine ⟨(posV i s.size).toNat - 1, (posV j s.size).toNat - 1, rfl, rfl, by omega, by omega, by omega, by omega, by omega, ?_, hb⟩
        rw [hs, Nat.min_eq_left (by omega), Nat.max_eq_right (by omega)]
      · right
        refine ⟨(posV i s.size).toNat - 1, (posV j s.size).toNat - 1, rfl, rfl, by omega, by omega, by omega, by omega, by omega, ?_, hb⟩
        rw [hs, Nat.min_eq_right (by omega), Nat.max_eq_left (by omega)]

/-- A call that returns a text and a bool, and makes memory alone. -/
def RetTB (w : World) (s : ByteArray) (b : Bool) (e : Ending) (w' : World) : Prop := e = .returned (.tuple #[.string s, .bool b]) ∧ Below w.heap.size w w'

end Go.Proofs.YtfhakailbikjkaaGreatDoor
/- The reference model's draws of a word, of an index, and of a word with two indexes. -/
namespace Go.Proofs.YtfhakailbikjkaaGreatDoor
open Go.RowKit
set_option linter.unusedVariables false

theorem draw_once (B cb : Nat) (n : Int) (w : World) (hp : IsCur B w cb) (h0 : 0 < n) (h1 : n ≤ 2147483647) :
    Calls Tryz.prog 13 #[.pointer (some ⟨cb, 0, none⟩), .int .i64 n] w fun e w' => ∃ b : Bool, e = .returned (.bool b) ∧ IsCur B w' cb ∧ Only cb w w' := by
  have HB := Lib.hid (draw_below B cb n w hp h0 h1)
  clear hp
  go_enter Tryz.func13, Tryz.ntmps13
  go_wp2_with fail
  refine HB.out.mono ?_
  rintro e w1 ⟨x, rfl, hx0, hx1, hc, ho⟩
  have HC := Lib.hid hc
  have HO := Lib.hid ho
  clear hc ho
  go_wp2
  go_ret
  exact ⟨_, rfl, HC.out, HO.out⟩

/-- A text is drawn, of at most 1000 bytes. -/
def DrawnWord (B cb : Nat) (w : World) (e : Ending) (w' : World) : Prop := ∃ s : ByteArray, e = .returned (.string s) ∧ (s.size : Int) ≤ 1000 ∧ IsCur B w' cb ∧ Only cb w w'
theorem pad_q : Hid (∀ (z : Int) (d : Nat), z = d → (d : Int) ≤ 1000 → ∀ W, Calls Tryz.prog 14 #[.int .i64 z, .int .u8 113] W (RetT W (str8 (List.replicate d 113)))) := by
  intro z d hz hd W
  subst hz
  exact spec_pad d 113 W hd

/-- A text and two integers are drawn. -/
def DrawnSec (w : World) (e : Ending) (w' : World) : Prop := ∃ (s : ByteArray) (i j : Int), e = .returned (.tuple #[.string s, .int .i64 i, .int .i64 j]) ∧ (s.size : Int) ≤ 1000 ∧ (-9223372036854775808 ≤ i ∧ i ≤ 9223372036854775807) ∧ Below w.heap.size w w'

end Go.Proofs.YtfhakailbikjkaaGreatDoor
/- The reference model's draws of a source. -/
namespace Go.Proofs.YtfhakailbikjkaaGreatDoor
open Go.RowKit
set_option linter.unusedVariables false

def srcLits : List ByteArray := [⟨#[34, 115, 34]⟩, ⟨#[39, 97, 98, 39]⟩, ⟨#[38, 112, 111, 115]⟩, ⟨#[38, 115, 117, 98, 106, 101, 99, 116]⟩, ⟨#[49, 50]⟩, ⟨#[48, 48, 55]⟩, ⟨#[57, 57, 57, 57, 57, 57, 57, 57, 57, 57, 57, 57]⟩, ⟨#[49, 48, 48, 48, 48, 48, 48, 48, 48, 48, 48, 48, 48]⟩, ⟨#[38, 110, 105, 108]⟩, ⟨#[34]⟩, ⟨#[36]⟩, ⟨#[57, 97]⟩, ⟨#[34, 92, 110, 34]⟩]
def srcWords : List ByteArray := [⟨#[120]⟩, ⟨#[102, 111, 111]⟩, ⟨#[105, 102]⟩, ⟨#[116, 104, 101, 110]⟩, ⟨#[114, 101, 116, 117, 114, 110]⟩, ⟨#[101, 118, 101, 114, 121]⟩, ⟨#[97, 95, 49]⟩, ⟨#[116, 111]⟩, ⟨#[97, 98, 99, 100, 101, 102, 103, 104, 105, 106, 107, 108]⟩, ⟨#[97, 98, 99, 100, 101, 102, 103, 104, 105, 106, 107, 108, 109]⟩, ⟨#[102, 97, 105, 108]⟩, ⟨#[101, 110, 100]⟩]
def srcSeps : List ByteArray := [⟨#[32]⟩, ⟨#[32]⟩, ⟨#[10]⟩, ⟨#[10]⟩, ⟨#[]⟩, ⟨#[35, 99, 10]⟩, ⟨#[9]⟩]
def srcOps : List ByteArray := Tk.operators.map str8
theorem srcLits_small : ∀ s ∈ srcLits, s.size ≤ 13 := by decide
theorem srcWords_small : ∀ s ∈ srcWords, s.size ≤ 13 := by decide
theorem srcSeps_small : ∀ s ∈ srcSeps, s.size ≤ 3 := by decide
theorem srcOps_small : ∀ s ∈ srcOps, s.size ≤ 13 := by
  intro s hs
  obtain ⟨o, ho, rfl⟩ := List.mem_map.1 hs
  rw [str8_size]
  have : ∀ o ∈ Tk.operators, o.length ≤ 13 := by decide
  exact this o ho
theorem ops_cells (W : World) (g : Nat) (h : Words W g Tk.operators) : ∀ i, i < srcOps.length → W.cell? ⟨g, i, none⟩ = some (.string (srcOps.getD i ByteArray.empty)) := by
  intro i hi
  have hi2 : i < Tk.operators.length := by simpa [srcOps] using hi
  rw [h i hi2]
  unfold srcOps
  rw [List.getD_eq_getElem?_getD, List.getD_eq_getElem?_getD, List.getElem?_map, List.getElem?_eq_getElem hi2]; rfl
/-- A text is drawn, of at most m bytes. -/
def DrawnSrc (B cb : Nat) (w : World) (m : Int) (e : Ending) (w' : World) : Prop := ∃ s : ByteArray, e = .returned (.string s) ∧ (s.size : Int) ≤ m ∧ IsCur B w' cb ∧ Only cb w w'
theorem pick_small (l : List ByteArray) (m : Nat) (hm : ∀ s ∈ l, s.size ≤ m) (B cb g cap n : Nat) (w : World) (hp : IsCur B w cb) (hn : n = l.length) (hl : 0 < l.length) (hl2 : (l.length : Int) ≤ 1048576) (hne : g ≠ cb)
    (hc : ∀ i, i < l.length → w.cell? ⟨g, i, none⟩ = some (.string (l.getD i ByteArray.empty))) :
    Calls Tryz.prog 29 #[.pointer (some ⟨cb, 0, none⟩), .slice (some ⟨g, 0, none⟩) n cap] w (DrawnSrc B cb w m) := by
  subst hn
  refine (pick_text B cb g cap l w hp hl hl2 hne hc).mono ?_
  rintro e w1 ⟨s, hs, rfl, hc1, ho1⟩
  exact ⟨s, rfl, by have := hm s hs; omega, hc1, ho1⟩

set_option maxRecDepth 100000 in
set_option maxHeartbeats 1600000 in
theorem draw_source (B cb n : Nat) (w : World) (hp : IsCur B w cb) (hB : B ≤ w.heap.size) (hn : n ≤ 60) :
    Calls Tryz.prog 11 #[.pointer (some ⟨cb, 0, none⟩), .int .i64 n] w (DrawnSrc B cb w 960) := by
  have HP := Lib.hid hp
  have hcb := cur_lt hp
  clear hp
  go_enter Tryz.func11, Tryz.ntmps11
  go_wp2
  go_loopw [5, 6] (fun t i wr => ∃ (k : Nat) (s : ByteArray), i = .int .i64 k ∧ t = .string s ∧ k ≤ n ∧ s.size ≤ 16 * k ∧ IsCur B wr cb ∧ Only cb w wr) (fun _ i _ => n - (intOf i).toNat)
  case atStart => exact ⟨0, ByteArray.empty, rfl, rfl, by omega, by simp, HP.out, Only.refl _ _⟩
  case round =>
    obtain ⟨k, s, rfl, rfl, hk, hz, hc, ho⟩ := hrel
    have HC := Lib.hid hc
    have HO := Lib.hid ho
    have hBr : B ≤ wr.heap.size := Nat.le_trans hB ho.size
    clear hc ho
    by_cases hlt : (k : Int) < n
    · have HD := Lib.hid (draw_below B cb 4 wr HC.out (by omega) (by omega))
      go_wp2_with fail
      refine HD.out.mono ?_
      rintro e w1 ⟨y, rfl, hy0, hy1, hc1, ho1⟩
      have HC1 := Lib.hid hc1
      have HO1 := Lib.hid (HO.out.trans ho1)
      have hB1 : B ≤ w1.heap.size := Nat.le_trans hBr ho1.size
      clear hc1 ho1
      by_cases h0 : y = 0
      · subst h0
        go_wp2_with fail
        refine (spec_ops w1).mono ?_
        rintro e w2 ⟨rfl, rfl⟩
        go_wp2_with fail
        refine (pick_small srcOps 13 srcOps_small B cb w1.heap.size 62 62 _ (cur_alloc HC1.out hB1 _) rfl (by decide) (by decide) (by have := cur_lt HC1.out; omega) (ops_cells _ _ (words_new w1 Tk.operators 9 _ rfl))).mono ?_
        rintro e w3 ⟨x, rfl, hz3, hc3, ho3⟩
        have HC3 := Lib.hid hc3
        have HO3 := Lib.hid ((HO1.out.trans (only_alloc _)).trans ho3)
        have hB3 : B ≤ w3.heap.size := Nat.le_trans (Nat.le_trans hB1 (by simp)) ho3.size
        clear hc3 ho3
        go_wp2_with fail
        refine (pick_small srcSeps 3 srcSeps_small B cb w3.heap.size 7 7 _ (cur_alloc HC3.out hB3 _) rfl (by decide) (by decide) (by have := cur_lt HC3.out; omega) (new_cells Value.string srcSeps ByteArray.empty w3 _ _ rfl)).mono ?_
        rintro e w4 ⟨u, rfl, hz4, hc4, ho4⟩
        have HC4 := Lib.hid hc4
        have HO4 := Lib.hid (HO3.out.trans ((only_alloc _).trans ho4))
        clear hc4 ho4
        go_wp2
        go_roundw
        case rel => exact ⟨k + 1, _, by go_num, rfl, by omega, by simp [ByteArray.size_append]; omega, HC4.out, HO4.out⟩
        case measure => first | (simp [intOf]; done) | (simp [intOf]; omega)
      · have u0 : (y == 0) = false := by simpa using h0
        by_cases h1 : y = 1
        · subst h1
          go_wp2_with fail
          refine (pick_small srcLits 13 srcLits_small B cb w1.heap.size 13 13 _ (cur_alloc HC1.out hB1 _) rfl (by decide) (by decide) (by have := cur_lt HC1.out; omega) (new_cells Value.string srcLits ByteArray.empty w1 _ _ rfl)).mono ?_
          rintro e w3 ⟨x, rfl, hz3, hc3, ho3⟩
          have HC3 := Lib.hid hc3
          have HO3 := Lib.hid ((HO1.out.trans (only_alloc _)).trans ho3)
          have hB3 : B ≤ w3.heap.size := Nat.le_trans (Nat.le_trans hB1 (by simp)) ho3.size
          clear hc3 ho3
          go_wp2_with fail
          refine (pick_small srcSeps 3 srcSeps_small B cb w3.heap.size 7 7 _ (cur_alloc HC3.out hB3 _) rfl (by decide) (by decide) (by have := cur_lt HC3.out; omega) (new_cells Value.string srcSeps ByteArray.empty w3 _ _ rfl)).mono ?_
          rintro e w4 ⟨u, rfl, hz4, hc4, ho4⟩
          have HC4 := Lib.hid hc4
          have HO4 := Lib.hid (HO3.out.trans ((only_alloc _).trans ho4))
          clear hc4 ho4
          go_wp2
          go_roundw
          case rel => exact ⟨k + 1, _, by go_num, rfl, by omega, by simp [ByteArray.size_append]; omega, HC4.out, HO4.out⟩
          case measure => first | (simp [intOf]; done) | (simp [intOf]; omega)
        · have u1 : (y == 1) = false := by simpa using h1
          clear h0 h1
          go_wp2_with fail
          refine (pick_small srcWords 13 srcWords_small B cb w1.heap.size 12 12 _ (cur_alloc HC1.out hB1 _) rfl (by decide) (by decide) (by have := cur_lt HC1.out; omega) (new_cells Value.string srcWords ByteArray.empty w1 _ _ rfl)).mono ?_
          rintro e w3 ⟨x, rfl, hz3, hc3, ho3⟩
          have HC3 := Lib.hid hc3
          have HO3 := Lib.hid ((HO1.out.trans (only_alloc _)).trans ho3)
          have hB3 : B ≤ w3.heap.size := Nat.le_trans (Nat.le_trans hB1 (by simp)) ho3.size
          clear hc3 ho3
          go_wp2_with fail
          refine (pick_small srcSeps 3 srcSeps_small B cb w3.heap.size 7 7 _ (cur_alloc HC3.out hB3 _) rfl (by decide) (by decide) (by have := cur_lt HC3.out; omega) (new_cells Value.string srcSeps ByteArray.empty w3 _ _ rfl)).mono ?_
          rintro e w4 ⟨u, rfl, hz4, hc4, ho4⟩
          have HC4 := Lib.hid hc4
          have HO4 := Lib.hid (HO3.out.trans ((only_alloc _).trans ho4))
          clear hc4 ho4
          go_wp2
          go_roundw
          case rel => exact ⟨k + 1, _, by go_num, rfl, by omega, by simp [ByteArray.size_append]; omega, HC4.out, HO4.out⟩
          case measure => first | (simp [intOf]; done) | (simp [intOf]; omega)
    · go_wp2
      go_ret
      exact ⟨s, rfl, by omega, HC.out, HO.out⟩

theorem draw_long (v : Value) (B n : Nat) (least most : Int) (w : World) (hc : Code B w v n) (hn : (n : Int) ≤ 1048576) (h0 : 0 ≤ least) (h1 : least ≤ most) (h2 : most ≤ 100000) :
    Calls Tryz.prog 12 #[v, .int .i64 least, .int .i64 most] w fun e w' => ∃ m : Nat, e = .returned (.int .i64 m) ∧ (m : Int) ≤ most ∧ w = w' := by
  obtain ⟨a, c, rfl⟩ : ∃ a c, v = .slice a n c := by
    rcases hc with ⟨⟨a, c, rfl⟩, rfl⟩ | ⟨g, off, c, rfl, _⟩
    · exact ⟨_, _, rfl⟩
    · exact ⟨_, _, rfl⟩
  clear hc
  by_cases hb : most < least + (n : Int) / 4
  · go_enter Tryz.func12, Tryz.ntmps12
    go_wp2
    go_ret
    exact ⟨most.toNat, by rw [Int.toNat_of_nonneg (by omega)]; rfl, by omega, rfl⟩
  · go_enter Tryz.func12, Tryz.ntmps12
    go_wp2
    go_ret
    exact ⟨(least + (n : Int) / 4).toNat, by rw [Int.toNat_of_nonneg (by omega)]; rfl, by omega, rfl⟩

theorem pad_sp : Hid (∀ (z : Int) (d : Nat), z = d → (d : Int) ≤ 10000 → ∀ W, Calls Tryz.prog 14 #[.int .i64 z, .int .u8 32] W (RetT W (str8 (List.replicate d 32)))) := by
  intro z d hz hd W
  subst hz
  exact spec_padw d 32 W hd

set_option maxHeartbeats 800000 in
theorem draw_lex (v : Value) (n : Nat) (w : World) (hc : Code w.heap.size w v n) (hn : (n : Int) ≤ 1048576) :
    Calls Tryz.prog 5 #[v] w fun e w' => ∃ s : ByteArray, e = .returned (.string s) ∧ (s.size : Int) ≤ 8000 ∧ Below w.heap.size w w' := by
  have HC := Lib.hid (draw_new v n w hc hn)
  have HV := Lib.hid hc
  clear hc
  go_enter Tryz.func5, Tryz.ntmps5
  go_wp2_with fail
  refine HC.out.mono ?_
  rintro e w1 ⟨cb, rfl, hcb, hlt, hcur, hb1⟩
  have HB1 := Lib.hid hb1
  have HP1 := Lib.hid hcur
  clear hcur hb1 HC
  go_wp2_with fail
  refine (draw_long v w.heap.size n 4 60 w1 (code_below HV.out HB1.out) hn (by omega) (by omega) (by omega)).mono ?_
  rintro e w1 ⟨m, rfl, hm, rfl⟩
  go_wp2_with fail
  refine (draw_source w.heap.size cb m _ HP1.out HB1.out.size (by omega)).mono ?_
  rintro e w2 ⟨s, rfl, hs, hc2, ho2⟩
  have HB2 := Lib.hid (HB1.out.trans (ho2.below hcb HB1.out.size))
  have HO := Lib.hid (draw_once w.heap.size cb 30 w2 hc2 (by omega) (by omega))
  clear hc2 ho2 HB1 HP1
  go_wp2_with fail
  refine HO.out.mono ?_
  rintro e w3 ⟨b, rfl, hc3, ho3⟩
  have HB3 := Lib.hid (HB2.out.trans (ho3.below hcb HB2.out.size))
  cases b
  · clear hc3 ho3 HB2 HO
    go_wp2
    go_ret
    exact ⟨s, rfl, by omega, HB3.out⟩
  · have HD := Lib.hid (draw_below w.heap.size cb 3 w3 hc3 (by omega) (by omega))
    clear hc3 ho3 HB2 HO
    go_wp2_with fail
    refine HD.out.mono ?_
    rintro e w4 ⟨y, rfl, hy0, hy1, hc4, ho4⟩
    have HB4 := Lib.hid (HB3.out.trans (ho4.below hcb HB3.out.size))
    have hd : (6000 - (s.size : Int) + y) = ((6000 - (s.size : Int) + y).toNat : Int) := by rw [Int.toNat_of_nonneg (by omega)]
    have hd2 : ((6000 - (s.size : Int) + y).toNat : Int) ≤ 6002 := by rw [Int.toNat_of_nonneg (by omega)]; omega
    have HQ := Lib.hid (pad_sp.out _ _ hd (by omega))
    have hz : ((str8 (List.replicate (6000 - (s.size : Int) + y).toNat 32)).size : Int) ≤ 6002 := by rw [str8_size, List.length_replicate]; exact hd2
    generalize str8 (List.replicate (6000 - (s.size : Int) + y).toNat 32) = p at HQ hz
    clear hd hd2 hc4 ho4 HB3 HD
    unfold RetT at HQ
    go_wp2_with fail
    refine (HQ.out _).mono ?_
    rintro e w5 ⟨rfl, hb5⟩
    have HB5 := Lib.hid (HB4.out.trans (hb5.mono HB4.out.size))
    clear hb5
    go_wp2
    go_ret
    exact ⟨s ++ p, rfl, by rw [ByteArray.size_append]; omega, HB5.out⟩
end Go.Proofs.YtfhakailbikjkaaGreatDoor
/- The reference model's and the program's Join, and the helpers of the law on it. -/
namespace Go.Proofs.YtfhakailbikjkaaGreatDoor
open Go.RowKit
set_option linter.unusedVariables false

theorem info_byte : (Tryz.prog.info? 5).map (fun i => (i.zero, i.size, i.bytes)) = some (some (.int .u8 0), 1, 1) := by kernel_rfl

/-- Letters of the call's own. -/
def OwnJ (w : World) (base : Nat) (v : Value) (l : List UInt8) : Prop := w.ownsRow base 5 1 v l.length (Lib.byteCells l)

theorem ownb_slice {w : World} {base : Nat} {v : Value} {l : List UInt8} (h : OwnJ w base v l) : ∃ a c, v = .slice a l.length c := by
  rcases h.2 with ⟨hv, h0⟩ | ⟨g, cap, cur, hv, _⟩
  · exact ⟨_, _, by rw [hv, h0]⟩
  · exact ⟨_, _, hv⟩
theorem ownb_app {w1 : World} {base : Nat} {v' : Value} {l : List UInt8} {s : ByteArray} (h : w1.ownsRow base 5 1 v' (l.length + s.size) (Lib.byteCells l ++ Lib.strCells s)) : OwnJ w1 base v' (l ++ s.data.toList) := by
  unfold OwnJ; rw [Lib.byteCells_append, List.length_append, ← size_eq]; exact h
theorem belowb_app {w wr w1 : World} {v : Value} {l : List UInt8} (hb : Below w.heap.size w wr) (hown : OwnJ wr w.heap.size v l) (hg : wr.grownBy w1 v.ownBlock) : Below w.heap.size w w1 :=
  hb.grown hg hb.size (fun k hk => (hown.lt k hk).1)

theorem conv_ownj {w : World} {base : Nat} {v : Value} {l : List UInt8} (h : OwnJ w base v l) : (convert 22 9 v).run Tryz.prog w = .ok (.string ⟨l.toArray⟩) w := by
  rcases h.2 with ⟨rfl, h0⟩ | ⟨g, cap, cur, rfl, _, _, _, _, _, _⟩
  · obtain rfl : l = [] := List.length_eq_zero_iff.1 h0
    exact run_convert_bytes_nil w 22 5 Tryz.underlying22 Tryz.underlying5 0 0 9 Tryz.underlying9
  · exact run_convert_bytes_back w 22 9 5 ⟨g, 0, none⟩ cap l Tryz.underlying22 Tryz.underlying5 Tryz.underlying9 (fun j hj =>
      h.cells (g := g) rfl j _ (by simp [Lib.byteCells, hj]))

/-- Strings that are read, each of at most 1048576 letters. -/
def Small (l : List ByteArray) : Prop := l.length ≤ 1048576 ∧ ∀ i, i < l.length → (l.getD i ByteArray.empty).size ≤ 1048576

end Go.Proofs.YtfhakailbikjkaaGreatDoor
/- The program's Join, and the helpers of the law on it. -/
namespace Go.Proofs.YtfhakailbikjkaaGreatDoor
open Go.RowKit
set_option linter.unusedVariables false

/-- The size that joinedSize answers, and whether it is one. -/
def jsizeV (n : Nat) : Int := if n ≤ 1048576 then n else 0
def sizeB (n : Nat) : Bool := decide (n ≤ 1048576)
theorem sizeV_yes {n : Nat} (h : n ≤ 1048576) : (n : Int) = jsizeV n := by unfold jsizeV; rw [if_pos h]
theorem sizeV_no {n : Nat} (h : ¬ n ≤ 1048576) : 0 = jsizeV n := by unfold jsizeV; rw [if_neg h]
theorem sizeB_yes {n : Nat} (h : n ≤ 1048576) : true = sizeB n := by unfold sizeB; simp [h]
theorem sizeB_no {n : Nat} (h : ¬ n ≤ 1048576) : false = sizeB n := by unfold sizeB; simp; omega

set_option maxHeartbeats 400000 in
theorem impl_jsize (v : Value) (l : List ByteArray) (s : ByteArray) (w : World) (hr : Reads w v l) (hsm : Small l) (hs : (s.size : Int) ≤ 1048576) :
    Calls Tryz.prog 25 #[v, .string s] w fun e w' => e = .returned (.tuple #[.int .i64 (jsizeV (Glue.upto l s.data.toList l.length).length), .bool (sizeB (Glue.upto l s.data.toList l.length).length)]) ∧ w = w' := by
  by_cases hl : l = []
  · subst hl
    obtain ⟨a, c, rfl⟩ := reads_empty hr
    clear hr hsm
    go_enter Tryz.func25, Tryz.ntmps25
    go_wp2
    go_loop [4, 5, 6, 7, 8, 11] (fun _ _ z _ _ i => i = .int .i64 0 ∧ z = .int .i64 0) (fun _ _ _ _ _ _ => 0)
    case atStart => exact ⟨rfl, rfl⟩
    case round =>
      obtain ⟨rfl, rfl⟩ := hrel
      go_wp2
      go_ret2
      exact ⟨rfl, rfl⟩
  · obtain ⟨g, off, cap, rfl, hm, hc⟩ := reads_some hr hl
    have HC := Lib.hid hc
    have HS := Lib.hid hsm
    have hn1 : l.length ≤ 1048576 := hsm.1
    clear hr hl hc hsm
    generalize hn : l.length = n at *
    have HN := Lib.hid hn
    clear hn hm
    go_enter Tryz.func25, Tryz.ntmps25
    go_wp2
    go_loop [4, 5, 6, 7, 8, 11] (fun _ _ z _ _ i => ∃ k : Nat, i = .int .i64 k ∧ k ≤ n ∧ z = .int .i64 (Glue.upto l s.data.toList k).length ∧ (Glue.upto l s.data.toList k).length ≤ 1048576) (fun _ _ _ _ _ i => n - (intOf i).toNat)
    case atStart => exact ⟨0, rfl, Nat.zero_le _, rfl, Nat.zero_le _⟩
    case round =>
      obtain ⟨k, rfl, hk, rfl, hle⟩ := hrel
      by_cases hlt : k < n
      · have d1 := HC.out k hlt
        have hpz : (l.getD k ByteArray.empty).size ≤ 1048576 := HS.out.2 k (by have := HN.out; omega)
        generalize hx : l.getD k ByteArray.empty = x at d1 hpz
        have HX := Lib.hid hx
        clear hx
        by_cases hk0 : k = 0
        · subst hk0
          have d0 : w.cell? ⟨g, off, none⟩ = some (.string x) := d1
          clear d1
          have hnx : (Glue.upto l s.data.toList (0 + 1)).length = x.size := by rw [Glue.upto_first, HX.out, ← size_eq]
          have H1 := Lib.hid hnx
          clear hnx
          by_cases hbig : (1048576 : Int) < x.size
          · omega
          · have h00 : ((Glue.upto l s.data.toList 0).length : Int) = 0 := rfl
            have h01 : (0 : Int) + x.size = x.size := by omega
            go_wp2
            go_round
            case rel =>
              exact ⟨0 + 1, by go_num, by omega, ret_val (by rw [H1.out]), by rw [H1.out]; omega⟩
            case measure => first | (simp [intOf]; done) | (simp [intOf]; omega)
        · have hk1 : 0 < k := by omega
          have hnx : (Glue.upto l s.data.toList (k + 1)).length = (Glue.upto l s.data.toList k).length + s.size + x.size := by rw [Glue.upto_next l s.data.toList hk1, List.length_append, List.length_append, HX.out, ← size_eq, ← size_eq]
          have H1 := Lib.hid hnx
          clear hnx
          have hmo := Glue.upto_le l s.data.toList (k := k + 1) (n := n) (by omega)
          rw [H1.out] at hmo
          by_cases hbig : (1048576 : Int) < (Glue.upto l s.data.toList k).length + s.size + x.size
          · have hno : ¬ (Glue.upto l s.data.toList n).length ≤ 1048576 := by omega
            have HNO := Lib.hid hno
            clear hmo hno
            go_wp2
            go_ret2
            exact ⟨ret_pair (sizeV_no HNO.out) (sizeB_no HNO.out), rfl⟩
          · clear hmo
            go_wp2
            go_round
            case rel =>
              exact ⟨k + 1, by go_num, by omega, ret_val (by rw [H1.out]; omega), by rw [H1.out]; omega⟩
            case measure => first | (simp [intOf]; done) | (simp [intOf]; omega)
      · obtain rfl : k = n := by omega
        go_wp2
        go_ret2
        exact ⟨ret_pair (sizeV_yes hle) (sizeB_yes hle), rfl⟩
end Go.Proofs.YtfhakailbikjkaaGreatDoor
/- The program's Join at every list of strings of bounded size. -/
namespace Go.Proofs.YtfhakailbikjkaaGreatDoor
open Go.RowKit
set_option linter.unusedVariables false
set_option maxRecDepth 100000

theorem builder_info : (Tryz.prog.info? 57).map (·.size) = some 2 := by kernel_rfl

/-- The builder's check where it has been used. -/
theorem check_used (b : Nat) (w : World) (h0 : w.cell? ⟨b, 0, none⟩ = some (.pointer (some ⟨b, 0, none⟩))) :
    Calls Tryz.prog 55 #[.pointer (some ⟨b, 0, none⟩)] w fun e w' => e = .returned (.tuple #[]) ∧ w = w' := by
  obtain ⟨j, hj, _⟩ := Option.map_eq_some_iff.1 builder_info
  go_enter Tryz.func55, Tryz.ntmps55
  go_wp2
  rw [Lib.run_neq_ptr_same w _ Tryz.underlying55 hj]
  go_wp2
  go_end0
  exact ⟨rfl, rfl⟩

set_option maxHeartbeats 400000 in
theorem write_used (B b : Nat) (l : List UInt8) (s : ByteArray) (w : World) (h : Lib.BuilderAt 57 5 B b (.pointer (some ⟨b, 0, none⟩)) (Lib.byteCells l) w) (hlen : l.length + s.size ≤ 4194304) (hBw : B ≤ w.heap.size) :
    Calls Tryz.prog 27 #[.pointer (some ⟨b, 0, none⟩), .string s] w fun e w' => e = .returned (.tuple #[.int .i64 s.size, .nilIface]) ∧ (Lib.BuilderAt 57 5 B b (.pointer (some ⟨b, 0, none⟩)) (Lib.byteCells (l ++ s.data.toList)) w' ∧ Below B w w') := by
  obtain ⟨i0, hi, hz0, hz1, hz2⟩ := info_parts info_byte
  obtain ⟨hB, v, hbk, hown, hne⟩ := h
  have hl : (Lib.byteCells l).length = l.length := Lib.byteCells_length l
  have c0 : w.cell? ⟨b, 0, none⟩ = some (.pointer (some ⟨b, 0, none⟩)) := by rw [Lib.cell_of_heap hbk]; rfl
  have c1 : w.cell? ⟨b, 1, none⟩ = some v := by rw [Lib.cell_of_heap hbk]; rfl
  rw [hl] at hown
  clear hl
  go_enter Tryz.func27, Tryz.ntmps27
  go_wp2_with fail
  refine (check_used b _ c0).mono ?_
  rintro e w1 ⟨rfl, rfl⟩
  go_wp2_with (at_builtin; refine Lib.wpList_append_own_string _ rfl _ _ 22 9 rfl B 5 i0 Tryz.underlying22 Tryz.underlying9 hi hz0 hz1 hz2 _ _ _ rfl hown s rfl ?c3 ?c4 ?c5 ?_)
  case c3 => unfold maxLen; omega
  case c4 => omega
  case c5 => exact hBw
  intro v' w2 hown' hgrow _
  have hlt : b < w.heap.size := by
    rcases Nat.lt_or_ge b w.heap.size with h' | h'
    · exact h'
    · simp [Array.getElem?_eq_none h'] at hbk
  have hb2 : w2.heap[b]? = some (.cells #[.pointer (some ⟨b, 0, none⟩), v] 57 (0, 0)) := by
    rw [hgrow.block b hlt (fun e => hne e.symm)]
    exact hbk
  have d0 : w2.cell? ⟨b, 0, none⟩ = some (.pointer (some ⟨b, 0, none⟩)) := by rw [Lib.cell_of_heap hb2]; rfl
  have d1 : w2.cell? ⟨b, 1, none⟩ = some v := by rw [Lib.cell_of_heap hb2]; rfl
  have f1 : w2.frozen? ⟨b, 1, none⟩ = false := Lib.frozen_of_heap hb2 1
  have HB2 := Lib.hid hb2
  have HOW := Lib.hid (ownb_app hown')
  have hbel : Below B w w2 := (Below.refl _ _).grown hgrow hBw (fun k hk => (hown.lt k hk).1)
  have HBE := Lib.hid hbel
  clear hb2 hown' hgrow hbel c0 c1 hbk hown
  obtain ⟨a2, c2, rfl⟩ := ownb_slice HOW.out
  go_wp2
  go_ret2
  refine ⟨rfl, ?_, HBE.out.setCell hB _⟩
  have ho := HOW.out
  unfold OwnJ at ho
  have hlen3 : (l ++ s.data.toList).length = l.length + s.size := by rw [List.length_append, ← size_eq]
  refine Lib.BuilderAt.put hB HB2.out ?_ (by decide)
  rw [Lib.byteCells_length, ← hlen3]
  exact ho

theorem builder_cells (b : Nat) (w : World) (h : Lib.BuilderAt 57 5 b b (.pointer (some ⟨b, 0, none⟩)) (Lib.byteCells []) w) : b < w.heap.size := h.lt

theorem upto_zero (l : List ByteArray) (t : List UInt8) : Glue.upto l t 0 = [] := rfl

set_option maxHeartbeats 800000 in
theorem impl_join (v : Value) (l : List ByteArray) (s : ByteArray) (w : World) (hr : Reads w v l) (hsm : Small l) (hs : (s.size : Int) ≤ 1048576) :
    Calls Tryz.prog 9 #[v, .string s] w fun e w' => e = .returned (.string ⟨(Glue.joined l s.data.toList).toArray⟩) ∧ Below w.heap.size w w' := by
  have HSZ := Lib.hid (impl_jsize v l s w hr hsm hs)
  by_cases hle : (Glue.upto l s.data.toList l.length).length ≤ 1048576
  case neg =>
    have hj := Lib.hid (Glue.joined_no (Nat.le_refl _) (by omega : 1048576 < (Glue.upto l s.data.toList l.length).length))
    have hb : sizeB (Glue.upto l s.data.toList l.length).length = false := (sizeB_no hle).symm
    clear hle hr hsm
    go_enter Tryz.func9, Tryz.ntmps9
    go_wp2_with fail
    refine HSZ.out.mono ?_
    rintro e w1 ⟨rfl, rfl⟩
    rw [hb]
    go_wp2
    go_ret
    exact ⟨by rw [hj.out]; rfl, Below.refl _ _⟩
  case pos =>
    have HJ := Lib.hid (Glue.joined_yes hle)
    have hb : sizeB (Glue.upto l s.data.toList l.length).length = true := (sizeB_yes hle).symm
    have hv : jsizeV (Glue.upto l s.data.toList l.length).length = (Glue.upto l s.data.toList l.length).length := (sizeV_yes hle).symm
    have HLE := Lib.hid hle
    have HG := Lib.hid fun W (h : W.heap[w.heap.size]? = some (.cells #[.pointer none, .slice none 0 0] 57 (0, 0))) (h2 : w.heap.size ≤ W.heap.size) => Tryz.Builder_Grow_fresh w.heap.size w.heap.size (Glue.upto l s.data.toList l.length).length W (Nat.le_refl _) h h2 (by omega)
    by_cases hl : l = []
    · subst hl
      obtain ⟨a, c, rfl⟩ := reads_empty hr
      clear hr hsm hle
      have hz : (Glue.upto [] s.data.toList ([] : List ByteArray).length).length = 0 := rfl
      rw [hz] at hb hv HSZ HG
      go_enter Tryz.func9, Tryz.ntmps9
      go_wp2_with fail
      refine HSZ.out.mono ?_
      rintro e w1 ⟨rfl, rfl⟩
      rw [hb, hv]
      clear hb hv hz
      go_wp2_with fail
      refine (HG.out _ (heap_alloc_new _ _) (by simp)).mono ?_
      rintro e w2 ⟨rfl, hbu, hbe⟩
      have HBU := Lib.hid hbu
      have HBE := Lib.hid ((((Below.refl _ _).alloc (Nat.le_refl _) _)).trans hbe)
      clear hbu hbe
      go_wp2
      go_loopw [8, 9, 22] (fun _ _ i wr => i = .int .i64 0 ∧ wr = w2) (fun _ _ _ _ => 0)
      case atStart => exact ⟨rfl, rfl⟩
      case round =>
        obtain ⟨rfl, rfl⟩ := hrel
        have HSt := Lib.hid (Tryz.Builder_String_any w.heap.size w.heap.size [] wr (.inr HBU.out) HBE.out.size)
        go_wp2_with fail
        refine HSt.out.mono ?_
        rintro e w3 ⟨rfl, b3⟩
        go_wp2
        go_ret
        exact ⟨rfl, HBE.out.trans b3⟩
    · obtain ⟨g, off, cap, rfl, hm, hc⟩ := reads_some hr hl
      have HC := Lib.hid hc
      have HS := Lib.hid hsm
      have hn1 : l.length ≤ 1048576 := hsm.1
      clear hr hl hc hsm hle
      generalize hn : l.length = n at *
      have HN := Lib.hid hn
      clear hn hm
      go_enter Tryz.func9, Tryz.ntmps9
      go_wp2_with fail
      refine HSZ.out.mono ?_
      rintro e w1 ⟨rfl, rfl⟩
      rw [hb, hv]
      clear hb hv
      generalize hz : (Glue.upto l s.data.toList n).length = z at *
      have HZ := Lib.hid hz
      clear hz
      go_wp2_with fail
      refine (HG.out _ (heap_alloc_new _ _) (by simp)).mono ?_
      rintro e w2 ⟨rfl, hbu, hbe⟩
      have HBU := Lib.hid hbu
      have HBE := Lib.hid ((((Below.refl _ _).alloc (Nat.le_refl _) _)).trans hbe)
      clear hbu hbe
      go_wp2
      go_loopw [8, 9, 22] (fun _ _ i wr => ∃ k : Nat, i = .int .i64 k ∧ k ≤ n ∧ Lib.BuilderAt 57 5 w.heap.size w.heap.size (.pointer (some ⟨w.heap.size, 0, none⟩)) (Lib.byteCells (Glue.upto l s.data.toList k)) wr ∧ Below w.heap.size w wr) (fun _ _ i _ => n - (intOf i).toNat)
      case atStart => exact ⟨0, rfl, Nat.zero_le _, HBU.out, HBE.out⟩
      case round =>
        obtain ⟨k, rfl, hk, hbu, hbe⟩ := hrel
        have HU := Lib.hid hbu
        have HB := Lib.hid hbe
        have hsz := hbe.size
        clear hbu hbe
        by_cases hlt : k < n
        · have hcell := HC.out k hlt
          have hlg := World.block_lt_of_cell? w _ hcell
          have d1 : wr.cell? ⟨g, off + k, none⟩ = some (.string (l.getD k ByteArray.empty)) := (HB.out.cell hlg).trans hcell
          have hpz : (l.getD k ByteArray.empty).size ≤ 1048576 := HS.out.2 k (by have := HN.out; omega)
          have hkz : (Glue.upto l s.data.toList k).length ≤ 1048576 := by
            have h1 := Glue.upto_le l s.data.toList (k := k) (n := n) (by omega)
            have h2 := HZ.out
            have h3 := HLE.out
            omega
          clear hcell
          generalize hx : l.getD k ByteArray.empty = x at d1 hpz
          have HX := Lib.hid hx
          clear hx
          by_cases hk0 : k = 0
          · subst hk0
            have d0 : wr.cell? ⟨g, off, none⟩ = some (.string x) := d1
            clear d1
            have HW := Lib.hid (write_used w.heap.size w.heap.size _ x wr HU.out (by omega) hsz)
            go_wp2_with fail
            refine HW.out.mono ?_
            rintro e w3 ⟨rfl, hu3, hb3⟩
            rw [upto_zero, List.nil_append, ← HX.out, ← Glue.upto_first l s.data.toList] at hu3
            have HU3 := Lib.hid hu3
            have HB3 := Lib.hid (HB.out.trans hb3)
            clear hu3 hb3
            go_wp2
            go_roundw
            case rel => exact ⟨0 + 1, by go_num, by omega, HU3.out, HB3.out⟩
            case measure => first | (simp [intOf]; done) | (simp [intOf]; omega)
          · have hk1 : 0 < k := by omega
            have HW := Lib.hid (write_used w.heap.size w.heap.size _ s wr HU.out (by omega) hsz)
            go_wp2_with fail
            refine HW.out.mono ?_
            rintro e w3 ⟨rfl, hu3, hb3⟩
            have HB3 := Lib.hid (HB.out.trans hb3)
            have hsz3 := HB3.out.size
            have HW3 := Lib.hid (write_used w.heap.size w.heap.size _ x w3 hu3 (by rw [List.length_append, ← size_eq]; omega) hsz3)
            clear hu3 hb3
            go_wp2_with fail
            refine HW3.out.mono ?_
            rintro e w4 ⟨rfl, hu4, hb4⟩
            rw [← HX.out, ← Glue.upto_next l s.data.toList hk1] at hu4
            have HU4 := Lib.hid hu4
            have HB4 := Lib.hid (HB3.out.trans hb4)
            clear hu4 hb4
            go_wp2
            go_roundw
            case rel => exact ⟨k + 1, by go_num, by omega, HU4.out, HB4.out⟩
            case measure => first | (simp [intOf]; done) | (simp [intOf]; omega)
        · obtain rfl : k = n := by omega
          have HSt := Lib.hid (Tryz.Builder_String_any w.heap.size w.heap.size _ wr (.inr HU.out) hsz)
          go_wp2_with fail
          refine HSt.out.mono ?_
          rintro e w3 ⟨rfl, b3⟩
          have HB3 := Lib.hid (HB.out.trans b3)
          clear b3
          go_wp2
          go_ret
          exact ⟨by rw [HJ.out]; rfl, HB3.out⟩
end Go.Proofs.YtfhakailbikjkaaGreatDoor
/- The law FnTokensAgain: its walk, from contracts of the program's Lex, TokenText and Join. No conditions. -/
namespace Go.Proofs.YtfhakailbikjkaaGreatDoor
open Go.RowKit
set_option linter.unusedVariables false

theorem els_ge (d : UInt8) (l : List UInt8) : l.length ≤ (l.flatMap (Lt.el d)).length := by
  induction l with
  | nil => simp
  | cons b l ih =>
    rw [List.flatMap_cons, List.length_append, List.length_cons]
    have : 1 ≤ (Lt.el d b).length := by
      rcases Lt.el_cases d b with ⟨_, e⟩ | ⟨_, _, e⟩ | ⟨_, _, _, _, e⟩ | ⟨_, _, e⟩ | ⟨_, _, e⟩ | ⟨_, _, _, _, _, e⟩ | ⟨_, _, _, _, _, e⟩ <;> rw [e] <;> simp
    omega
theorem tok_texts (S : List UInt8) : ∀ x ∈ (Tk.lex denM S).2, (x.2.1.length : Int) ≤ 1048576 := by
  intro x hx
  have h := lex_sum S
  have h2 : ∀ l : List Tk.Tok, x ∈ l → x.2.1.length ≤ txSum l := by
    intro l
    induction l with
    | nil => intro h; cases h
    | cons y l ih =>
      intro h
      have e : txSum (y :: l) = (Tk.tx y.1 y.2.1).length + 1 + txSum l := by simp [txSum]
      rw [e]
      rcases List.mem_cons.1 h with rfl | h
      · have : x.2.1.length ≤ (Tk.tx x.1 x.2.1).length := by
          unfold Tk.tx
          split
          · unfold Lt.quo
            have := els_ge 34 x.2.1
            simp only [List.length_cons, List.length_append, List.length_nil]; omega
          · split
            · unfold Lt.quo
              have := els_ge 39 x.2.1
              simp only [List.length_cons, List.length_append, List.length_nil]; omega
            · split
              · simp
              · exact Nat.le_refl _
        omega
      · have := ih h; omega
  have := h2 _ hx
  omega
theorem writes_size (S : List UInt8) : ∀ x ∈ (Tk.lex denM S).2, (ttS x.1 (str8 x.2.1)).size ≤ 1048576 := by
  intro x hx
  have h := lex_sum S
  have h1 : (ttS x.1 (str8 x.2.1)).size = (Tk.tx x.1 x.2.1).length := by
    have := congrArg List.length (lex_writes S x hx); rw [len8] at this; exact this
  have h2 : ∀ l : List Tk.Tok, x ∈ l → (Tk.tx x.1 x.2.1).length ≤ txSum l := by
    intro l
    induction l with
    | nil => intro h; cases h
    | cons y l ih =>
      intro h
      have e : txSum (y :: l) = (Tk.tx y.1 y.2.1).length + 1 + txSum l := by simp [txSum]
      rw [e]
      rcases List.mem_cons.1 h with rfl | h
      · omega
      · have := ih h; omega
  have := h2 _ hx
  omega
theorem ttL_small (S : List UInt8) : Small (ttL (Tk.lex denM S).2) := by
  refine ⟨by rw [ttL_length]; have := lex_len denM S; omega, fun i hi => ?_⟩
  rw [ttL_length] at hi
  unfold ttL
  rw [List.getD_eq_getElem?_getD, List.getElem?_map, List.getElem?_eq_getElem hi]
  exact writes_size S _ (List.getElem_mem hi)
theorem ttL_succ (L : List Tk.Tok) (k : Nat) (h : k < L.length) : (ttL L).take (k + 1) = (ttL L).take k ++ [ttS L[k].1 (str8 L[k].2.1)] := by
  unfold ttL
  rw [List.take_succ_eq_append_getElem (by rw [List.length_map]; exact h), List.getElem_map]
theorem ttL_take (L : List Tk.Tok) (k : Nat) (h : k ≤ L.length) : ((ttL L).take k).length = k := by rw [List.length_take, ttL_length]; omega
theorem ttL_all (L : List Tk.Tok) : (ttL L).take L.length = ttL L := by rw [← ttL_length L]; exact List.take_length
theorem join_ret {v : Value} {l : List ByteArray} {w : World} (h : Calls Tryz.prog 9 #[v, .string ⟨#[32]⟩] w fun e w' => e = .returned (.string ⟨(Glue.joined l (⟨#[32]⟩ : ByteArray).data.toList).toArray⟩) ∧ Below w.heap.size w w') :
    Calls Tryz.prog 9 #[v, .string ⟨#[32]⟩] w fun e w' => e = .returned (.string (str8 (Glue.joined l [32]))) ∧ Below w.heap.size w w' := h
theorem tok_at {w : World} {a : Option Addr} {n c : Nat} {L : List Tk.Tok} (h : ReadsT w (.slice a n c) (L.map toB)) (k : Nat) (hk : k < L.length) : ∃ g, a = some ⟨g, 0, none⟩ ∧ CellsT w g (k * 3) (toB L[k]) := by
  have hk2 : k < (L.map toB).length := by rw [List.length_map]; exact hk
  obtain ⟨g, cap, hv, hm, hc⟩ := readsT_some h (by intro e; rw [e] at hk2; cases hk2)
  injection hv with e1 e2 e3
  refine ⟨g, e1, ?_⟩
  have h2 := hc k hk2
  rw [List.getD_eq_getElem?_getD, List.getElem?_map, List.getElem?_eq_getElem hk] at h2
  exact h2

set_option maxRecDepth 100000 in
set_option maxHeartbeats 3200000 in
theorem again_law (S : World → Prop) (hSb : ∀ W W', S W → Below W.heap.size W W' → S W')
    (hI : ∀ (s : ByteArray) (W : World), (s.size : Int) ≤ 1048576 → S W → Calls Tryz.prog 6 #[.string s] W (RetLex W (Tk.lex denM s.data.toList)))
    (hT : ∀ (k : Int) (t : ByteArray) (l : Int) (W : World), (t.size : Int) ≤ 1048576 → Calls Tryz.prog 8 #[tokV k t l] W (RetT W (ttS k t)))
    (a0 : Option Addr) (len0 cap0 : Nat) (z0 : List Int) (w : World) (w0 : IsRow .u8 w a0 len0 cap0 z0) (hS0 : S w) :
    Calls Tryz.prog 3 #[.slice a0 len0 cap0] w fun e w' => e = .returned (.bool true) ∧ Below w.heap.size w w' := by
  have HC := Lib.hid (code_of_in w0)
  have hl : (len0 : Int) ≤ 9223372036854775807 := by
    rcases w0 with ⟨_, rfl, _⟩ | ⟨x, _, h1, h2, _⟩
    · omega
    · unfold maxLen at h2; omega
  have HSB := Lib.hid (fun W' hb => hSb w W' hS0 hb)
  have HI := Lib.hid hI
  have HT := Lib.hid hT
  clear w0 hSb hS0 hI hT
  obtain ⟨i0, hi, hz0, hz1, hz2⟩ := info_parts info_string
  by_cases hbig : (1048576 : Int) < len0
  · go_enter Tryz.func3, Tryz.ntmps3
    go_wp2
    go_ret
    exact ⟨rfl, Below.refl _ _⟩
  · have hs : (len0 : Int) ≤ 1048576 := by omega
    have HD := Lib.hid (draw_lex _ len0 w HC.out hs)
    go_enter Tryz.func3, Tryz.ntmps3
    go_wp2_with fail
    refine (big_no a0 len0 cap0 _ hs).mono ?_
    rintro e wz ⟨rfl, rfl⟩
    go_wp2_with fail
    refine HD.out.mono ?_
    rintro e w1 ⟨s, rfl, hz, hb1⟩
    have HB1 := Lib.hid hb1
    clear hb1 HD
    have HR := Lib.hid (lex_round s.data.toList)
    have HSM := Lib.hid (ttL_small s.data.toList)
    have HTX := Lib.hid (tok_texts s.data.toList)
    have HL := Lib.hid (lex_len denM s.data.toList)
    have HI1 := Lib.hid (HI.out s w1 (by omega) (HSB.out _ HB1.out))
    have HS1 := Lib.hid (fun W => spec_lex s W)
    unfold RetLex at HI1 HS1
    generalize Tk.lex denM s.data.toList = R at HR HSM HTX HL HI1 HS1
    obtain ⟨ln, L⟩ := R
    dsimp only at HR HSM HTX HL HI1 HS1
    have hLn : L.length ≤ 12000 := HL.out
    go_wp2_with fail
    refine HI1.out.mono ?_
    rintro e w2 ⟨v2, rfl, o2, b2⟩
    obtain ⟨a2, c2, rfl⟩ := ownT_len o2
    have O2 := Lib.hid o2
    have HB2 := Lib.hid (HB1.out.trans (b2.mono HB1.out.size))
    clear o2 b2 HI1
    go_wp2_with fail
    refine (HS1.out _).mono ?_
    rintro e w3 ⟨v3, rfl, o3, b3⟩
    obtain ⟨a3, c3, rfl⟩ := ownT_len o3
    have RT := Lib.hid (readsT_of_own (ownT_below O2.out b3))
    have HB3 := Lib.hid (HB2.out.trans (b3.mono HB2.out.size))
    clear o3 b3 O2 HB2 HS1 HB1 HL
    go_wp2
    go_loopw [8, 9] (fun v8 i wr => ∃ k : Nat, i = .int .i64 k ∧ k ≤ L.length ∧ Owns wr w3.heap.size v8 ((ttL L).take k) ∧ Below w3.heap.size w3 wr) (fun _ i _ => L.length - (intOf i).toNat)
    case atStart => exact ⟨0, rfl, by omega, World.ownsRow_made w3 #[] 0 (Nat.le_refl _) (by unfold maxLen; omega) rfl, (Below.refl _ _).alloc (Nat.le_refl _) _⟩
    case round =>
      obtain ⟨k, rfl, hk, ho, hb⟩ := hrel
      have HO := Lib.hid ho
      have HB := Lib.hid hb
      have hsz := hb.size
      clear ho hb
      by_cases hlt : k < L.length
      · obtain ⟨g, rfl, hcell⟩ := tok_at RT.out k hlt
        have HD1 := Lib.hid (hcell.later HB.out)
        have hx := HTX.out L[k] (List.getElem_mem hlt)
        have HTk := Lib.hid (fun W => HT.out L[k].1 (str8 L[k].2.1) L[k].2.2 W (by rw [str8_size]; exact hx))
        unfold RetT at HTk
        have HK := Lib.hid (ttL_succ L k hlt)
        have HLE := Lib.hid (ttL_take L k hk)
        clear hcell hx
        generalize ttS L[k].1 (str8 L[k].2.1) = p at HTk HK
        generalize (ttL L).take k = M at HO HK HLE
        generalize L[k] = x at HTk HD1
        obtain ⟨q0, q1, q2⟩ := HD1.out
        dsimp only [toB] at q0 q1 q2
        have k0 : (0 : Int) ≤ k := by omega
        have k1 : (k : Int) < L.length := by omega
        go_wp2_with (first | (go_at_call 8; refine (HTk.out _).mono ?_; rintro e w5 ⟨rfl, hb5⟩; have HO5 := Lib.hid (owns_below HO.out hb5); have HB5 := Lib.hid (HB.out.trans (hb5.mono HB.out.size)); clear hb5) | (at_builtin; refine wpList_append_own _ rfl _ _ 28 rfl w3.heap.size 9 i0 (.string ByteArray.empty) 1 16 Tryz.underlying28 hi hz0 hz1 hz2 rfl (by decide) _ _ _ rfl (HO5.out.alloc _) ⟨w5.heap.size, 0, none⟩ 1 1 [.string p] rfl rfl ?c1 ?c2 ?c3 ?c4 ?c5 ?_))
        case c1 => exact new_cell _ _ _
        case c2 => exact one_string _
        case c3 => exact max_small (by have := HLE.out; omega)
        case c4 => have := HLE.out; omega
        case c5 => have := HB5.out.size; simp; omega
        intro v' w6 hown' hgrow _
        have ho6 := Lib.hid (owns_app hown')
        have hb6 := Lib.hid (below_app HB5.out HO5.out hgrow)
        clear hown' hgrow
        go_wp2
        go_roundw
        case rel => exact ⟨k + 1, by go_num, by omega, by rw [HK.out]; exact ho6.out, hb6.out⟩
        case measure => first | (simp [intOf]; done) | (simp [intOf]; omega)
      · obtain rfl : k = L.length := by omega
        rw [ttL_all] at HO
        have HJ := Lib.hid (join_ret (impl_join _ (ttL L) ⟨#[32]⟩ wr (reads_of_owns HO.out) HSM.out (by decide)))
        generalize Glue.joined (ttL L) [32] = J at HJ HR
        have HB4 := Lib.hid (HB3.out.trans (HB.out.mono HB3.out.size))
        go_wp2_with fail
        refine HJ.out.mono ?_
        rintro e w5 ⟨rfl, hb5⟩
        have HB5 := Lib.hid (HB.out.trans (hb5.mono HB.out.size))
        have HB6 := Lib.hid (HB3.out.trans (HB5.out.mono HB3.out.size))
        clear hb5 HB4 HJ HSM
        by_cases hln : ln = 0
        · subst hln
          have hjs := str8_size J
          by_cases ht : 6000 < J.length
          · have ht2 : (6000 : Int) < J.length := by omega
            go_wp2
            go_ret
            exact ⟨rfl, HB6.out⟩
          · have HI2 := Lib.hid (HI.out (str8 J) w5 (by rw [hjs]; omega) (HSB.out _ HB6.out))
            rw [str8_list, HR.out (by omega)] at HI2
            unfold RetLex at HI2
            dsimp only at HI2
            have ht2 : ¬ (6000 : Int) < J.length := by omega
            go_wp2_with fail
            refine HI2.out.mono ?_
            rintro e w7 ⟨v7, rfl, o7, b7⟩
            obtain ⟨a7, c7, rfl⟩ := ownT_len o7
            have R7 := Lib.hid (readsT_of_own o7)
            have B7 := Lib.hid (HB5.out.trans (b7.mono HB5.out.size))
            have B8 := Lib.hid (HB6.out.trans (b7.mono HB6.out.size))
            clear o7 b7 HI2 HI HT HSB HTX
            go_wp2
            go_loopw [2, 13] (fun _ i wq => ∃ k : Nat, i = .int .i64 k ∧ k ≤ L.length ∧ Below w7.heap.size w7 wq) (fun _ i _ => L.length - (intOf i).toNat)
            case atStart => exact ⟨0, rfl, by omega, Below.refl _ _⟩
            case round =>
              obtain ⟨k, rfl, hk2, hb9⟩ := hrel
              have HB9 := Lib.hid hb9
              clear hb9
              by_cases hlt2 : k < L.length
              · obtain ⟨g, rfl, hcell⟩ := tok_at RT.out k hlt2
                obtain ⟨g7, rfl, hcell7⟩ := tok_at R7.out k (by rw [List.length_map]; exact hlt2)
                have HD1 := Lib.hid ((hcell.later B7.out).later HB9.out)
                have HD7 := Lib.hid (hcell7.later HB9.out)
                rw [List.getElem_map] at HD7
                clear hcell hcell7
                generalize L[k] = x at HD1 HD7
                obtain ⟨q0, q1, q2⟩ := HD1.out
                obtain ⟨p0, p1, p2⟩ := HD7.out
                dsimp only [toB] at q0 q1 q2 p0 p1 p2
                clear q2 p2
                have k0 : (0 : Int) ≤ k := by omega
                have k1 : (k : Int) < L.length := by omega
                go_wp2_with fail
                go_quiet (fail)
                go_wp2
                go_roundw
                case rel => exact ⟨k + 1, by go_num, by omega, below_drewN HB9.out _⟩
                case measure => first | (simp [intOf]; done) | (simp [intOf]; omega)
              · obtain rfl : k = L.length := by omega
                go_wp2
                go_ret
                exact ⟨rfl, B8.out.trans (HB9.out.mono B8.out.size)⟩
        · have hl1 : ((ln : Int) == 0) = false := by simpa using hln
          go_wp2
          go_ret
          exact ⟨rfl, HB6.out⟩
end Go.Proofs.YtfhakailbikjkaaGreatDoor
/- The law FnTokensAgain: its walk. No conditions besides the sentinel's. -/
namespace Go.Proofs.YtfhakailbikjkaaGreatDoor
open Go.RowKit
set_option linter.unusedVariables false

theorem FnTokensAgain_walk (a0 : Option Addr) (len0 cap0 : Nat) (z0 : List Int) (w : World) (w0 : IsRow .u8 w a0 len0 cap0 z0) (hS : Sent w) :
    Calls Tryz.prog 3 #[.slice a0 len0 cap0] w fun e w' => e = .returned (.bool true) ∧ Below w.heap.size w w' :=
  again_law Sent sent_below (fun s W _ hW => impl_lex s W hW) (fun k t l W hs => impl_tt k t l W hs) a0 len0 cap0 z0 w w0 hS
end Go.Proofs.YtfhakailbikjkaaGreatDoor
/- What the row's list gives a walk: the sentinel's variable holds a pointer. No conditions. -/
namespace Go.Proofs.YtfhakailbikjkaaGreatDoor
open Go.RowKit Go.Extern.Stop Go.Stop Go.Extern
set_option linter.unusedVariables false

theorem gBad : Tryz.prog.globalNamed "loop.example/g03106/impl.errBadEscape" = some 1 := by kernel_rfl
theorem gBadType : (Tryz.prog.globals[1]?).map (·.type) = some 60 := by kernel_rfl
theorem rowErr (u : TypeId) (h : Tryz.prog.typeName? 3 u = some "*errors.errorString") : u = 118 := typeName_ptr_named (nm := "errors.errorString") (by kernel_rfl) (by kernel_rfl) (by decide) u h
theorem cellsErr : Tryz.prog.cellsOf 142 = 1 := by kernel_rfl
theorem cellsStr : Tryz.prog.cellsOf 9 = 1 := by kernel_rfl
/-- What the row's list gives: the variable holds a pointer. -/
theorem sent_of {W : World} (hL : laidMetH Tryz.prog [("loop.example/g03106/impl.errBadEscape", Rows.laid_loop_example_g03106_impl_errBadEscape)] W) : Sent W := by
  rw [MakeChecks.laidMetH_plain _ _ _ (by kernel_rfl)] at hL
  obtain ⟨a, s, hv, _, _, _⟩ := laid_sentinel hL gBad gBadType Tryz.underlying60 rowErr Tryz.underlying118 Tryz.underlying142 rfl rfl Tryz.underlying9 cellsErr cellsStr
  exact ⟨a, by unfold SentAt; rw [World.var?_cell gBad hv 0]; rfl⟩
end Go.Proofs.YtfhakailbikjkaaGreatDoor
