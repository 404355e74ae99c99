/- Joined texts: W8, K12, K13, R12, R13. No conditions besides those that each states. -/
import Derived.Deep.QuietTactic
import Derived.BigQuiet
import Derived.Deep.RegionHeld3
import Derived.Test.YtfhakailbikjkaaDoorZ8
import Derived.Test.YtfhakailbikjkaaDoorZ9
/- The laws' own helpers over slices of strings: comparing them, and comparing them again after a draw. No conditions. -/
namespace Go.Proofs.YtfhakailbikjkaaDoor
open Go.RowKit
set_option linter.unusedVariables false

/-- A slice of strings that can be read. -/
def Reads (w : World) (v : Value) (l : List ByteArray) : Prop :=
  ((∃ a c, v = .slice a 0 c) ∧ l = []) ∨ ∃ g off cap, v = .slice (some ⟨g, off, none⟩) l.length cap ∧ l.length ≤ maxLen ∧ ∀ i, i < l.length → w.cell? ⟨g, off + i, none⟩ = some (.string (l.getD i ByteArray.empty))

theorem add_lit (g o i : Nat) : (⟨g, o, none⟩ : Addr).add i = ⟨g, o + i, none⟩ := by
  unfold Addr.add; split <;> simp_all

theorem reads_of_owns {w : World} {base : Nat} {v : Value} {l : List ByteArray} (h : Owns w base v l) : Reads w v l := by
  rcases h.2 with ⟨rfl, h0⟩ | ⟨g, cap, cur, rfl, hb, hg, hn, hm, hs, ht⟩
  · exact .inl ⟨⟨_, _, rfl⟩, List.length_eq_zero_iff.1 h0⟩
  · refine .inr ⟨g, 0, cap, rfl, by omega, fun i hi => ?_⟩
    have h1 := h.cells (g := g) rfl i (.string l[i]) (by simp [hi])
    rw [show (⟨g, 0, none⟩ : Addr).add i = ⟨g, 0 + i, none⟩ from add_lit g 0 i] at h1
    rw [h1]; simp [List.getD, List.getElem?_eq_getElem hi]

theorem reads_empty {w : World} {v : Value} (h : Reads w v []) : ∃ a c, v = .slice a 0 c := by
  rcases h with ⟨h, _⟩ | ⟨g, off, cap, rfl, _⟩
  · exact h
  · exact ⟨_, _, rfl⟩
theorem reads_some {w : World} {v : Value} {l : List ByteArray} (h : Reads w v l) (hl : l ≠ []) : ∃ g off cap, v = .slice (some ⟨g, off, none⟩) l.length cap ∧ l.length ≤ maxLen ∧ ∀ i, i < l.length → w.cell? ⟨g, off + i, none⟩ = some (.string (l.getD i ByteArray.empty)) := by
  rcases h with ⟨_, h0⟩ | h
  · exact absurd h0 hl
  · exact h
theorem reads_below {w w1 : World} {v : Value} {l : List ByteArray} (h : Reads w v l) (hb : Below w.heap.size w w1) : Reads w1 v l := by
  rcases h with h | ⟨g, off, cap, hv, hm, hc⟩
  · exact .inl h
  · exact .inr ⟨g, off, cap, hv, hm, fun i hi => (hb.cell (World.block_lt_of_cell? w _ (hc i hi))).trans (hc i hi)⟩

/-- The letters that the laws write into a slice's places. -/
def mark (k : Nat) : ByteArray := ⟨(109 :: Dec.digs k).toArray⟩

set_option maxHeartbeats 400000 in
theorem mark_text (n : Int) (w : World) (h0 : 0 < n) (h1 : n ≤ 9223372036854775807) :
    Calls Tryd.prog 15 #[.int .i64 n] w fun e w' => e = .returned (.string (mark n.toNat)) ∧ Below w.heap.size w w' := by
  go_enter Tryd.func15, Tryd.ntmps15
  go_wp2
  go_loopw [0, 3] (fun x o wr => ∃ (m : Int) (s : ByteArray), x = .int .i64 m ∧ 0 ≤ m ∧ m ≤ n ∧ o = .string s ∧ Below w.heap.size w wr ∧ Dec.digs n.toNat = Dec.digs m.toNat ++ s.data.toList) (fun x _ _ => (intOf x).toNat)
  case atStart => exact ⟨n, _, rfl, by omega, by omega, rfl, Below.refl _ _, by simp⟩
  case round =>
    obtain ⟨m, s, rfl, h2, h3, rfl, h4, h5⟩ := hrel
    have hsz := fmt_size (by omega) (by omega) h5
    have H5 := Lib.hid h5
    clear h5
    by_cases hm : m = 0
    · subst hm
      go_wp2
      go_ret
      exact ⟨by unfold mark; rw [H5.out]; simp only [Dec.digs_zero, Int.toNat_zero, List.nil_append]; rw [← cons_eq]; rfl, h4⟩
    · have hcv := conv_one (48 + m % 10) wr
      have hm' : 0 < m := by omega
      go_wp2
      all_goals go_roundw
      case rel => exact ⟨m / 10, _, rfl, by omega, by omega, rfl, h4.alloc h4.size _, fmt_round (by omega) H5.out⟩
      case measure => simp [intOf]; omega

/-- n places with letters from k on. -/
def marks (k n : Nat) : List ByteArray := (List.range n).map fun i => mark (k + i)
theorem marks_length (k n : Nat) : (marks k n).length = n := by simp [marks]
theorem marks_get (k n i : Nat) (h : i < n) : (marks k n).getD i ByteArray.empty = mark (k + i) := by
  simp [marks, List.getD, h]

theorem mark_at (k : Nat) (w : World) (h1 : (k : Int) ≤ 1048577) :
    Calls Tryd.prog 15 #[.int .i64 ((k : Int) + 1)] w fun e w' => e = .returned (.string (mark (1 + k))) ∧ Below w.heap.size w w' := by
  have h := mark_text ((k : Int) + 1) w (by omega) (by omega)
  rw [show ((k : Int) + 1).toNat = 1 + k by omega] at h
  exact h

/-- The places of a slice, the first i of them marked. -/
def partly (l : List ByteArray) (i : Nat) : List ByteArray := marks 1 i ++ l.drop i
theorem partly_length (l : List ByteArray) (i : Nat) (h : i ≤ l.length) : (partly l i).length = l.length := by
  simp [partly, marks_length]; omega
theorem marks_succ (k n : Nat) : marks k (n + 1) = marks k n ++ [mark (k + n)] := by simp [marks, List.range_succ]
theorem partly_set (l : List ByteArray) (i : Nat) (h : i < l.length) : (partly l i).set i (mark (1 + i)) = partly l (i + 1) := by
  unfold partly
  rw [marks_succ, List.set_append_right _ _ (by rw [marks_length]; exact Nat.le_refl _), marks_length, Nat.sub_self, List.drop_eq_getElem_cons h, List.append_assoc]
  rfl
theorem partly_zero (l : List ByteArray) : partly l 0 = l := by simp [partly, marks]
theorem partly_all (l : List ByteArray) : partly l l.length = marks 1 l.length := by simp [partly]

theorem owns_cell {w : World} {base g n cap : Nat} {l : List ByteArray} (hn : n = l.length) (h : Owns w base (.slice (some ⟨g, 0, none⟩) n cap) l) (i : Nat) (hi : i < n) : w.cell? ⟨g, i, none⟩ = some (.string (l.getD i ByteArray.empty)) ∧ w.frozen? ⟨g, i, none⟩ = false := by
  subst hn
  refine ⟨?_, World.ownsRow.frozenAt h i⟩
  rw [World.ownsRow.cellAt h i (by omega)]
  simp [List.getD, List.getElem?_eq_getElem hi]

theorem owns_set {w : World} {base g n cap : Nat} {l : List ByteArray} (hn : n = l.length) (h : Owns w base (.slice (some ⟨g, 0, none⟩) n cap) l) (i : Nat) (x : ByteArray) : Owns (w.setCell ⟨g, i, none⟩ (.string x)) base (.slice (some ⟨g, 0, none⟩) n cap) (l.set i x) := by
  subst hn
  have h1 := (World.ownsRow.stored h i (.string x)).1
  unfold Owns
  rw [List.length_set, List.map_set]
  exact h1

end Go.Proofs.YtfhakailbikjkaaDoor
/- The token that begins at a place, in the reference model, whatever its first byte; rows of tokens in memory. No conditions. -/
namespace Go.Proofs.YtfhakailbikjkaaDoor
open Go.RowKit
set_option linter.unusedVariables false

theorem one_any (s : ByteArray) (i : Nat) (w : World) (hs : (s.size : Int) ≤ 1048576) (hi : i < s.size) :
    Calls Tryd.prog 9 #[.string s, .int .i64 (i : Int)] w (RetOne w i (Tk.one denM (s.data.toList.drop i))) := by
  cases hl : Tk.letter s[i]
  · cases hd : Dec.isDig s[i]
    · by_cases h34 : s[i] = 34
      · exact one_quoted s i w hs hi h34
      · by_cases h39 : s[i] = 39
        · exact one_cset s i w hs hi h39
        · by_cases h38 : s[i] = 38
          · rcases Nat.lt_or_ge (i + 1) s.size with h | h
            · cases hl2 : Tk.letter s[i + 1]
              · exact one_op s i w hs hi hl hd h34 h39 (.inr (.inr ⟨h38, h, hl2⟩))
              · exact one_keyword s i w hs hi h38 h hl2
            · exact one_op s i w hs hi hl hd h34 h39 (.inr (.inl ⟨h38, h⟩))
          · exact one_op s i w hs hi hl hd h34 h39 (.inl h38)
    · exact one_int s i w hs hi hd
  · exact one_word s i w hs hi hl

/-- A token in memory. -/
abbrev TokB := Int × ByteArray × Int
def toB (x : Tk.Tok) : TokB := (x.1, str8 x.2.1, x.2.2)
def tokCells (l : List TokB) : List Value := l.flatMap fun x => [.int .i64 x.1, .string x.2.1, .int .i64 x.2.2]
theorem tokCells_app (a b : List TokB) : tokCells (a ++ b) = tokCells a ++ tokCells b := by unfold tokCells; rw [List.flatMap_append]
theorem tokCells_one (x : TokB) : tokCells [x] = [.int .i64 x.1, .string x.2.1, .int .i64 x.2.2] := rfl
theorem tokCells_get (l : List TokB) : ∀ (i : Nat) (h : i < l.length), (tokCells l)[i * 3]? = some (.int .i64 l[i].1) ∧ (tokCells l)[i * 3 + 1]? = some (.string l[i].2.1) ∧ (tokCells l)[i * 3 + 2]? = some (.int .i64 l[i].2.2) := by
  induction l with
  | nil => intro i h; simp at h
  | cons x l ih =>
    intro i h
    have e : tokCells (x :: l) = Value.int .i64 x.1 :: Value.string x.2.1 :: Value.int .i64 x.2.2 :: tokCells l := rfl
    match i with
    | 0 => rw [e]; exact ⟨rfl, rfl, rfl⟩
    | i + 1 =>
      have h2 := ih i (by simpa using h)
      rw [e, show (i + 1) * 3 = i * 3 + 3 by omega]
      exact h2
/-- Tokens of the call's own. -/
def OwnT (w : World) (base : Nat) (v : Value) (l : List TokB) : Prop := w.ownsRow base 29 3 v l.length (tokCells l)
theorem ownT_app {w1 : World} {base : Nat} {v' : Value} {l : List TokB} {x : TokB} (h : w1.ownsRow base 29 3 v' (l.length + 1) (tokCells l ++ [.int .i64 x.1, .string x.2.1, .int .i64 x.2.2])) : OwnT w1 base v' (l ++ [x]) := by
  unfold OwnT; rw [tokCells_app, tokCells_one, List.length_append]; exact h
theorem ownT_below {w w1 : World} {base : Nat} {v : Value} {l : List TokB} (h : OwnT w base v l) (hb : Below w.heap.size w w1) : OwnT w1 base v l := by
  refine ⟨h.1, ?_⟩
  rcases h.2 with hn | ⟨g, cap, cur, hv, hg, hgg, r⟩
  · exact .inl hn
  · exact .inr ⟨g, cap, cur, hv, hg, by rw [hb.block g (Array.getElem?_eq_some_iff.1 hgg).1]; exact hgg, r⟩
theorem belowT_app {w wr w1 : World} {v : Value} {l : List TokB} {o : Obj} (hb : Below w.heap.size w wr) (hown : OwnT wr w.heap.size v l) (hg : (wr.alloc o).grownBy w1 v.ownBlock) : Below w.heap.size w w1 :=
  (hb.alloc hb.size o).grown hg (by have := hb.size; simp; omega) (fun k hk => (hown.lt k hk).1)
theorem ownT_drewN {w : World} {base : Nat} {v : Value} {l : List TokB} (h : OwnT w base v l) (n : Nat) : OwnT (w.drewN n) base v l := by
  induction n with
  | zero => exact h
  | succ n ih => exact ih
theorem ownT_made (w : World) : OwnT (w.alloc (.cells #[] 29)) w.heap.size (.slice (some ⟨w.heap.size, 0, none⟩) 0 0) [] := World.ownsRow_made w #[] 0 (Nat.le_refl _) (by unfold maxLen; omega) rfl
theorem ownT_nil (w : World) (base : Nat) : OwnT w base (.slice none 0 0) [] := World.ownsRow_nil w base _ _
theorem ownT_len {w : World} {base : Nat} {v : Value} {l : List TokB} (h : OwnT w base v l) : ∃ a c, v = .slice a l.length c := by
  rcases h.2 with ⟨rfl, h0⟩ | ⟨g, cap, cur, rfl, _⟩
  · exact ⟨none, 0, by rw [h0]⟩
  · exact ⟨_, _, rfl⟩
theorem ownT_some {w : World} {base : Nat} {v : Value} {l : List TokB} (h : OwnT w base v l) (hl : l ≠ []) : ∃ g cap, v = .slice (some ⟨g, 0, none⟩) l.length cap ∧ base ≤ g ∧ l.length ≤ cap ∧ cap ≤ maxLen := by
  rcases h.2 with ⟨rfl, h0⟩ | ⟨g, cap, cur, rfl, hb, _, h1, h2, _⟩
  · exact absurd (List.length_eq_zero_iff.1 h0) hl
  · exact ⟨g, cap, rfl, hb, h1, h2⟩
theorem ownT_cell {w : World} {base g n cap : Nat} {l : List TokB} (hn : n = l.length) (h : OwnT w base (.slice (some ⟨g, 0, none⟩) n cap) l) (i : Nat) (hi : i < l.length) :
    (w.cell? ⟨g, i * 3, none⟩ = some (.int .i64 l[i].1) ∧ w.cell? ⟨g, i * 3 + 1, none⟩ = some (.string l[i].2.1) ∧ w.cell? ⟨g, i * 3 + 2, none⟩ = some (.int .i64 l[i].2.2)) ∧ w.frozen? ⟨g, i * 3, none⟩ = false ∧ w.frozen? ⟨g, i * 3 + 1, none⟩ = false ∧ w.frozen? ⟨g, i * 3 + 2, none⟩ = false := by
  subst hn
  obtain ⟨a, b, c⟩ := tokCells_get l i hi
  refine ⟨⟨?_, ?_, ?_⟩, World.ownsRow.frozenAt h _, World.ownsRow.frozenAt h _, World.ownsRow.frozenAt h _⟩
  · rw [World.ownsRow.cellAt h _ (by omega)]; exact a
  · rw [World.ownsRow.cellAt h _ (by omega)]; exact b
  · rw [World.ownsRow.cellAt h _ (by omega)]; exact c
theorem info_tok : (Tryd.prog.info? 29).map (fun i => (i.zero, i.size, i.bytes)) = some (some (.agg #[.int .i64 0, .string ByteArray.empty, .int .i64 0]), 3, 32) := by kernel_rfl
theorem new_tok (w : World) (a b c : Value) (t : TypeId) : ∀ (j : Nat) (u : Value), [a, b, c][j]? = some u → (w.alloc (.cells #[a, b, c] t)).cell? ((⟨w.heap.size, 0, none⟩ : Addr).add j) = some u := by
  intro j u hj
  rw [add_lit, Nat.zero_add, World.cell?_alloc_mark]
  match j, hj with
  | 0, hj => simp at hj; subst hj; rfl
  | 1, hj => simp at hj; subst hj; rfl
  | 2, hj => simp at hj; subst hj; rfl
theorem one_tok (a : Int) (b : ByteArray) (c : Int) : ∀ u ∈ [Value.int .i64 a, .string b, .int .i64 c], u.oneCell' = true := by
  intro u hu; simp at hu; rcases hu with rfl | rfl | rfl <;> rfl
end Go.Proofs.YtfhakailbikjkaaDoor
/- Lex of the reference model. No conditions. -/
namespace Go.Proofs.YtfhakailbikjkaaDoor
open Go.RowKit
set_option linter.unusedVariables false

theorem drop_at (s : ByteArray) (k : Nat) (hk : k < s.size) : s.data.toList.drop k = s[k] :: s.data.toList.drop (k + 1) := by rw [List.drop_eq_getElem_cons (show k < s.data.toList.length from hk)]; rfl
/-- What Lex answers. -/
def RetLex (w : World) (R : Nat × List Tk.Tok) (e : Ending) (w' : World) : Prop := ∃ v, e = .returned (.tuple #[v, .int .i64 (R.1 : Int)]) ∧ OwnT w' w.heap.size v (R.2.map toB) ∧ Below w.heap.size w w'
/-- Where Lex stands. -/
def LexAt (w : World) (s : ByteArray) (R : Nat × List Tk.Tok) (k line : Nat) (fr : Bool) (out : List Tk.Tok) (v : Value) (wr : World) : Prop :=
  Tk.lexW denM (s.data.toList.drop k) line fr out = R ∧ line ≤ k + 1 ∧ out.length ≤ 2 * k ∧ OwnT wr w.heap.size v (out.map toB) ∧ Below w.heap.size w wr
theorem LexAt.start (w : World) (s : ByteArray) (h : s.data.toList.length ≤ 6000) : LexAt w s (Tk.lex denM s.data.toList) 0 1 false [] (.slice (some ⟨w.heap.size, 0, none⟩) 0 0) (w.alloc (.cells #[] 29)) := by
  refine ⟨?_, by omega, by simp, ownT_made w, (Below.refl _ _).alloc (Nat.le_refl _) _⟩
  unfold Tk.lex
  rw [if_neg (by omega)]; rfl
theorem LexAt.done {w wr : World} {s : ByteArray} {R : Nat × List Tk.Tok} {k line : Nat} {fr : Bool} {out : List Tk.Tok} {v : Value} (h : LexAt w s R k line fr out v wr) (hk : s.data.toList.length ≤ k) : R = (0, out) := by
  rw [← h.1, List.drop_eq_nil_of_le hk, Tk.lexW_nil]
theorem LexAt.line {w wr : World} {s : ByteArray} {R : Nat × List Tk.Tok} {k line : Nat} {fr : Bool} {out : List Tk.Tok} {v : Value} (h : LexAt w s R k line fr out v wr) (hk : k < s.size) (hb : s[k] = 10) : LexAt w s R (k + 1) (line + 1) true out v wr := by
  refine ⟨?_, by have := h.2.1; omega, by have := h.2.2.1; omega, h.2.2.2⟩
  have h1 := h.1
  rw [drop_at s k hk, hb, Tk.lexW_line] at h1
  exact h1
theorem LexAt.blank {w wr : World} {s : ByteArray} {R : Nat × List Tk.Tok} {k line : Nat} {fr : Bool} {out : List Tk.Tok} {v : Value} (h : LexAt w s R k line fr out v wr) (hk : k < s.size) (hb : s[k] = 32 ∨ s[k] = 9) : LexAt w s R (k + 1) line fr out v wr := by
  refine ⟨?_, by have := h.2.1; omega, by have := h.2.2.1; omega, h.2.2.2⟩
  have h1 := h.1
  rw [drop_at s k hk, Tk.lexW_blank denM _ _ _ _ hb] at h1
  exact h1
/-- The end of a comment. -/
def noteEnd (s : ByteArray) (k : Nat) : Nat := k + ((s.data.toList.drop k).takeWhile fun c => c != 10).length
theorem drop_tw (p : UInt8 → Bool) (l : List UInt8) : l.drop (l.takeWhile p).length = l.dropWhile p := by
  induction l with
  | nil => rfl
  | cons b l ih =>
    by_cases h : p b = true
    · rw [List.takeWhile_cons, if_pos h, List.dropWhile_cons, if_pos h]; exact ih
    · rw [List.takeWhile_cons, if_neg h, List.dropWhile_cons, if_neg h]; rfl
theorem LexAt.note {w wr : World} {s : ByteArray} {R : Nat × List Tk.Tok} {k line : Nat} {fr : Bool} {out : List Tk.Tok} {v : Value} (h : LexAt w s R k line fr out v wr) (hk : k < s.size) (hb : s[k] = 35) : LexAt w s R (noteEnd s k) line fr out v wr := by
  have hle : k ≤ noteEnd s k := Nat.le_add_right _ _
  refine ⟨?_, by have := h.2.1; omega, by have := h.2.2.1; omega, h.2.2.2⟩
  have h1 := h.1
  have e : s.data.toList.drop (noteEnd s k) = (s.data.toList.drop k).dropWhile fun c => c != 10 := by
    unfold noteEnd
    rw [← drop_tw, List.drop_drop]
  have h2 : s.data.toList.drop k = 35 :: s.data.toList.drop (k + 1) := by
    rw [List.drop_eq_getElem_cons (show k < s.data.toList.length from hk)]; congr 1
  rw [e, h2, List.dropWhile_cons, if_pos (by decide)]
  rw [h2, Tk.lexW_note] at h1
  exact h1
theorem LexAt.bad {w wr : World} {s : ByteArray} {R : Nat × List Tk.Tok} {k line : Nat} {fr : Bool} {out : List Tk.Tok} {v : Value} (h : LexAt w s R k line fr out v wr) (hk : k < s.size) (h1 : s[k] ≠ 10) (h2 : s[k] ≠ 32) (h3 : s[k] ≠ 9) (h4 : s[k] ≠ 35)
    (ho : Tk.one denM (s.data.toList.drop k) = none) : R = (line, []) := by
  have h5 := h.1
  rw [drop_at s k hk] at h5 ho
  rw [Tk.lexW_bad denM _ _ _ _ h1 h2 h3 h4 ho] at h5
  exact h5.symm
theorem LexAt.tok {w wr w1 : World} {s : ByteArray} {R : Nat × List Tk.Tok} {k line : Nat} {fr : Bool} {out : List Tk.Tok} {v v1 : Value} (h : LexAt w s R k line fr out v wr) (hk : k < s.size) (h1 : s[k] ≠ 10) (h2 : s[k] ≠ 32) (h3 : s[k] ≠ 9) (h4 : s[k] ≠ 35)
    {kd n : Nat} {t : List UInt8} (ho : Tk.one denM (s.data.toList.drop k) = some (kd, t, n)) (hs : (Tk.semi out fr kd t).length ≤ 1)
    (hown : OwnT w1 w.heap.size v1 ((out ++ Tk.semi out fr kd t ++ [(kd, t, line)]).map toB)) (hb : Below w.heap.size w w1) : LexAt w s R (k + n) line false (out ++ Tk.semi out fr kd t ++ [(kd, t, line)]) v1 w1 := by
  have hp := Tk.one_pos ho
  have h5 := h.1
  rw [drop_at s k hk] at h5 ho
  rw [Tk.lexW_tok denM _ _ _ _ h1 h2 h3 h4 ho, ← drop_at s k hk, List.drop_drop] at h5
  refine ⟨h5, by have := h.2.1; omega, ?_, hown, hb⟩
  have := h.2.2.1
  rw [List.length_append, List.length_append]; simp; omega
theorem semi_cases (out : List Tk.Tok) (fr : Bool) (kd : Nat) (t : List UInt8) :
    (fr = false ∧ Tk.semi out fr kd t = []) ∨ (fr = true ∧ out = [] ∧ Tk.semi out fr kd t = []) ∨ ∃ l0 x, out = l0 ++ [x] ∧ fr = true ∧
      ((Tk.ends x.1 x.2.1 = false ∧ Tk.semi out fr kd t = []) ∨ (Tk.ends x.1 x.2.1 = true ∧ Tk.begins kd t = false ∧ Tk.semi out fr kd t = []) ∨ (Tk.ends x.1 x.2.1 = true ∧ Tk.begins kd t = true ∧ Tk.semi out fr kd t = [(7, [59], x.2.2)])) := by
  unfold Tk.semi
  cases fr
  · left
    refine ⟨rfl, ?_⟩
    cases out.getLast? <;> rfl
  · right
    rcases List.eq_nil_or_concat out with rfl | ⟨l0, x, rfl⟩
    · left; exact ⟨rfl, rfl, rfl⟩
    · right
      refine ⟨l0, x, by simp, rfl, ?_⟩
      rw [List.concat_eq_append, List.getLast?_concat]
      simp only [Bool.true_and]
      cases Tk.ends x.1 x.2.1
      · left; exact ⟨rfl, rfl⟩
      · right
        cases Tk.begins kd t
        · left; exact ⟨rfl, rfl, rfl⟩
        · right; exact ⟨rfl, rfl, rfl⟩
theorem semi_le (out : List Tk.Tok) (fr : Bool) (kd : Nat) (t : List UInt8) : (Tk.semi out fr kd t).length ≤ 1 := by
  rcases semi_cases out fr kd t with ⟨_, h⟩ | ⟨_, _, h⟩ | ⟨_, _, _, _, ⟨_, h⟩ | ⟨_, _, h⟩ | ⟨_, _, h⟩⟩ <;> rw [h] <;> simp
theorem endL_le {d : UInt8} : ∀ (N : Nat) (l : List UInt8) (n : Nat), l.length ≤ N → Lt.endL d l = some n → n ≤ l.length := by
  intro N
  induction N with
  | zero =>
    intro l n hl h
    rw [List.length_eq_zero_iff.1 (Nat.le_zero.1 hl)] at h; cases h
  | succ N ih =>
    intro l n hl h
    match l with
    | [] => cases h
    | b :: r =>
      rw [Lt.endL.eq_def] at h
      dsimp only at h
      rw [List.length_cons] at hl ⊢
      split at h
      · cases h; omega
      · split at h
        · cases h
        · split at h
          · split at h
            · cases h
            · rename_i c r2
              cases h2 : Lt.endL d r2 with
              | none => rw [h2] at h; cases h
              | some m =>
                rw [h2] at h; simp at h
                rw [List.length_cons] at hl ⊢
                have := ih r2 m (by omega) h2
                omega
          · cases h2 : Lt.endL d r with
            | none => rw [h2] at h; cases h
            | some m =>
              rw [h2] at h; simp at h
              have := ih r m (by omega) h2
              omega
theorem tw_len (p : UInt8 → Bool) (r : List UInt8) : (r.takeWhile p).length ≤ r.length := (List.takeWhile_sublist p).length_le
theorem one_le {D : Tk.Den} {R t : List UInt8} {k n : Nat} (h : Tk.one D R = some (k, t, n)) : n ≤ R.length := by
  match R with
  | [] => cases h
  | b :: r =>
    have t1 := tw_len Tk.idb r
    have t2 := tw_len Tk.letter r
    rw [List.length_cons]
    simp only [Tk.one] at h
    split at h
    · split at h
      · cases h; omega
      · split at h
        · cases h; omega
        · cases h
    · split at h
      · cases hi : D.int (b :: r.takeWhile Tk.idb) with
        | none => rw [hi] at h; cases h
        | some x => rw [hi] at h; cases h; omega
      · split at h
        · cases he : Lt.endL 34 r with
          | none => rw [he] at h; cases h
          | some m =>
            rw [he] at h
            have := endL_le _ r m (Nat.le_refl _) he
            cases hs : D.str (b :: r.take m) with
            | none => simp [hs] at h
            | some x => simp [hs] at h; omega
        · split at h
          · cases he : Lt.endL 39 r with
            | none => rw [he] at h; cases h
            | some m =>
              rw [he] at h
              have := endL_le _ r m (Nat.le_refl _) he
              cases hs : D.set (b :: r.take m) with
              | none => simp [hs] at h
              | some x => simp [hs] at h; omega
          · split at h
            · split at h
              · cases h; omega
              · cases h
            · cases hf : Tk.operators.find? fun o => o.isPrefixOf (b :: r) with
              | none => rw [hf] at h; cases h
              | some o =>
                rw [hf] at h; cases h
                have h2 := List.find?_some hf
                have h3 := (List.isPrefixOf_iff_prefix.1 h2).length_le
                rw [List.length_cons] at h3; exact h3
theorem new_tok2 (w : World) (n : Nat) (hn : w.heap.size = n) (a b c : Value) (t : TypeId) : ∀ (j : Nat) (u : Value), [a, b, c][j]? = some u → (w.alloc (.cells #[a, b, c] t)).cell? ((⟨n, 0, none⟩ : Addr).add j) = some u := by
  subst hn; exact new_tok w a b c t
theorem FreeTok.grown {w w1 : World} {b : Nat} {k l : Int} {t : ByteArray} {row : Option Nat} (h : FreeTok w b k t l) (hg : w.grownBy w1 row) (hne : some b ≠ row) : w1.cell? ⟨b, 0, none⟩ = some (.int .i64 k) ∧ w1.cell? ⟨b, 1, none⟩ = some (.string t) ∧ w1.cell? ⟨b, 2, none⟩ = some (.int .i64 l) :=
  ⟨hg.cell h.1.1 hne, hg.cell h.1.2.1 hne, hg.cell h.1.2.2 hne⟩
theorem own_last {w : World} {b n : Nat} {v : Value} {xs : List Value} (l : List Tk.Tok) (x : Tk.Tok) (h : w.ownsRow b 29 3 v n xs) (hn : n = l.length + 1) (hxs : xs = tokCells (l.map toB) ++ [.int .i64 (x.1 : Int), .string (str8 x.2.1), .int .i64 (x.2.2 : Int)]) : OwnT w b v ((l ++ [x]).map toB) := by
  subst hn; subst hxs
  rw [List.map_append]
  refine ownT_app (x := toB x) ?_
  rw [List.length_map]; exact h
theorem last_cell {w : World} {b g n cap : Nat} {l0 : List Tk.Tok} {x : Tk.Tok} (hn : n = l0.length + 1) (h : OwnT w b (.slice (some ⟨g, 0, none⟩) n cap) ((l0 ++ [x]).map toB)) :
    w.cell? ⟨g, l0.length * 3, none⟩ = some (.int .i64 (x.1 : Int)) ∧ w.cell? ⟨g, l0.length * 3 + 1, none⟩ = some (.string (str8 x.2.1)) ∧ w.cell? ⟨g, l0.length * 3 + 2, none⟩ = some (.int .i64 (x.2.2 : Int)) := by
  obtain ⟨⟨a, b, c⟩, _⟩ := ownT_cell (by simp; exact hn) h l0.length (by simp)
  have e : ((l0 ++ [x]).map toB)[l0.length]'(by simp) = toB x := by simp
  rw [e] at a b c
  exact ⟨a, b, c⟩
end Go.Proofs.YtfhakailbikjkaaDoor
/- The program's scanner as a reader of tokens; where its Lex stands; the end of a statement. No conditions. -/
namespace Go.Proofs.YtfhakailbikjkaaDoor
open Go.RowKit
set_option linter.unusedVariables false

def gapK (s : ByteArray) (k : Nat) : Nat := Tk.gapB false (s.data.toList.drop k)
def nlsK (s : ByteArray) (k : Nat) : Nat := Tk.nls ((s.data.toList.drop k).take (gapK s k))
theorem gapK_le (s : ByteArray) (k : Nat) (hk : k ≤ s.size) : k + gapK s k ≤ s.size := by
  have h := Tk.gap_le (s.data.toList.drop k) false
  rw [List.length_drop, len8] at h
  unfold gapK; omega
theorem nlsK_le (s : ByteArray) (k : Nat) : nlsK s k ≤ gapK s k := by
  have h := Tk.nls_le ((s.data.toList.drop k).take (gapK s k))
  rw [List.length_take] at h
  unfold nlsK; omega
theorem cut_from (s : ByteArray) (k : Nat) : s.extract k s.size = str8 (s.data.toList.drop k) := str_cut (str8_data s).symm k
theorem cut_mid2 (s : ByteArray) (k g : Nat) : s.extract k (k + g) = str8 ((s.data.toList.drop k).take g) := by
  apply str8_inj
  simp only [ByteArray.data_extract, Array.toList_extract, List.extract_eq_take_drop]
  rw [show k + g - k = g by omega]
theorem gap_call (s : ByteArray) (k : Nat) (hs : (s.size : Int) ≤ 1048576) : Hid (∀ W, Calls Tryd.prog 30 #[.string (str8 (s.data.toList.drop k))] W fun e w' => e = .returned (.int .i64 (gapK s k)) ∧ W = w') := by
  refine Lib.hid fun W => ?_
  have h := gap_any (str8 (s.data.toList.drop k)) W (by rw [str8_size, List.length_drop, len8]; omega)
  rw [str8_list] at h; exact h
theorem feed_call (s : ByteArray) (k : Nat) (hs : (s.size : Int) ≤ 1048576) : Hid (∀ W, Calls Tryd.prog 31 #[.string (str8 ((s.data.toList.drop k).take (gapK s k))), .int .u8 10] W fun e w' => e = .returned (.int .i64 (nlsK s k)) ∧ W = w') := by
  refine Lib.hid fun W => ?_
  have h := feeds_any (str8 ((s.data.toList.drop k).take (gapK s k))) W (by rw [str8_size, List.length_take, List.length_drop, len8]; omega)
  rw [str8_list] at h; exact h
theorem mid_size (s : ByteArray) (k : Nat) (hk : k ≤ s.size) : (str8 ((s.data.toList.drop k).take (gapK s k))).size = gapK s k := by
  have := gapK_le s k hk
  rw [str8_size, List.length_take, List.length_drop, len8]; omega
/-- The closure that scans. -/
abbrev scanV (h : Nat) : Array Value := #[.pointer (some ⟨h, 0, none⟩), .pointer (some ⟨h + 1, 0, none⟩), .pointer (some ⟨h + 2, 0, none⟩)]
theorem next_end (h k line : Nat) (s : ByteArray) (w : World) (hsc : Scan w h s k line) (hs : (s.size : Int) ≤ 1048576) (hk : k ≤ s.size) (hl : (line : Int) ≤ 1048577) (hg : k + gapK s k = s.size) :
    Calls Tryd.prog 29 (scanV h) w fun e w' => e = .returned (.tuple #[.agg #[.int .i64 0, .string ByteArray.empty, .int .i64 0], .bool true]) ∧ Scan w' h s (k + gapK s k) (line + nlsK s k) ∧ Past h w w' :=
  scan_end h k line (gapK s k) (nlsK s k) s _ _ w hsc hs hg (cut_from s k) (cut_mid2 s k _) (mid_size s k hk) (nlsK_le s k) hl (gap_call s k hs) (feed_call s k hs)
theorem next_tok (h k line : Nat) (s : ByteArray) (w : World) (hsc : Scan w h s k line) (hs : (s.size : Int) ≤ 1048576) (hk : k ≤ s.size) (hl : (line : Int) ≤ 1048577) (hg : k + gapK s k < s.size) (a : Addr) (hSa : SentAt a w) (hgl : 0 < h)
    (o : Option (Nat × List UInt8 × Nat)) (ho : Tk.one denM (s.data.toList.drop (k + gapK s k)) = o) (m : Nat) (hm : tkN o = m) (hmz : (m : Int) ≤ 1048576) :
    Calls Tryd.prog 29 (scanV h) w fun e w' => e = .returned (.tuple #[.agg #[.int .i64 (tkK o), .string (tkT o), .int .i64 ((line + nlsK s k : Nat) : Int)], .bool (!(tkK o == 0))]) ∧ Scan w' h s (k + gapK s k + m) (line + nlsK s k) ∧ Past h w w' :=
  scan_tok h k line (gapK s k) (nlsK s k) s _ _ w hsc hs hg (cut_from s k) (cut_mid2 s k _) (mid_size s k hk) (nlsK_le s k) hl (gap_call s k hs) (feed_call s k hs)
    _ (cut_from s _) (tkK o) (tkT o) m hmz a hSa hgl (Lib.hid fun W hW => by
      have h2 := read_at (read_tok a (str8 (s.data.toList.drop (k + gapK s k))) W hW (by rw [str8_size, List.length_drop, len8]; omega) (by rw [str8_size, List.length_drop, len8]; omega))
      rw [str8_list, ho, hm] at h2; exact h2)

theorem gap_head (s : ByteArray) (k : Nat) (hg : k + gapK s k < s.size) : ∃ b r, s.data.toList.drop (k + gapK s k) = b :: r ∧ b ≠ 10 ∧ b ≠ 32 ∧ b ≠ 9 ∧ b ≠ 35 := by
  have h := Tk.gap_begin (s.data.toList.drop k) false
  rw [List.drop_drop] at h
  rcases h with h | h
  · have h2 := congrArg List.length h
    rw [List.length_drop, len8] at h2
    unfold gapK at hg
    simp at h2; omega
  · exact h
/-- Where Lex of the program stands. -/
def LexQ (w : World) (s : ByteArray) (R : Nat × List Tk.Tok) (k line : Nat) (out : List Tk.Tok) (v : Value) (wr : World) : Prop :=
  Tk.lexW denM (s.data.toList.drop k) line false out = R ∧ k ≤ s.size ∧ line ≤ k + 1 ∧ out.length ≤ 2 * k ∧ (∀ x, out.getLast? = some x → x.2.2 = line) ∧ OwnT wr (w.heap.size + 3) v (out.map toB) ∧ Scan wr w.heap.size s k line ∧ Below w.heap.size w wr
theorem LexQ.gap {w wr : World} {s : ByteArray} {R : Nat × List Tk.Tok} {k line : Nat} {out : List Tk.Tok} {v : Value} (h : LexQ w s R k line out v wr) :
    Tk.lexW denM (s.data.toList.drop (k + gapK s k)) (line + nlsK s k) (decide (0 < nlsK s k)) out = R := by
  have h1 := h.1
  rw [Tk.gap_lex0, List.drop_drop] at h1; exact h1
theorem LexQ.over {w wr : World} {s : ByteArray} {R : Nat × List Tk.Tok} {k line : Nat} {out : List Tk.Tok} {v : Value} (h : LexQ w s R k line out v wr) (hg : k + gapK s k = s.size) : R = (0, out) := by
  rw [← h.gap, hg, List.drop_eq_nil_of_le (show s.data.toList.length ≤ s.size from Nat.le_refl _), Tk.lexW_nil]
theorem LexQ.bad {w wr : World} {s : ByteArray} {R : Nat × List Tk.Tok} {k line : Nat} {out : List Tk.Tok} {v : Value} (h : LexQ w s R k line out v wr) (hg : k + gapK s k < s.size) (ho : Tk.one denM (s.data.toList.drop (k + gapK s k)) = none) : R = (line + nlsK s k, []) := by
  obtain ⟨b, r, e, h1, h2, h3, h4⟩ := gap_head s k hg
  have h5 := h.gap
  rw [e] at h5 ho
  rw [Tk.lexW_bad denM _ _ _ _ h1 h2 h3 h4 ho] at h5
  exact h5.symm
theorem LexQ.tok {w wr w1 : World} {s : ByteArray} {R : Nat × List Tk.Tok} {k line : Nat} {out : List Tk.Tok} {v v1 : Value} (h : LexQ w s R k line out v wr) (hg : k + gapK s k < s.size) {kd m : Nat} {t : List UInt8} (ho : Tk.one denM (s.data.toList.drop (k + gapK s k)) = some (kd, t, m)) (S : List Tk.Tok) (hS : Tk.semi out (decide (0 < nlsK s k)) kd t = S)
    (hown : OwnT w1 (w.heap.size + 3) v1 ((out ++ S ++ [(kd, t, line + nlsK s k)]).map toB)) (hsc : Scan w1 w.heap.size s (k + gapK s k + m) (line + nlsK s k)) (hb : Below w.heap.size w w1) : LexQ w s R (k + gapK s k + m) (line + nlsK s k) (out ++ S ++ [(kd, t, line + nlsK s k)]) v1 w1 := by
  obtain ⟨b, r, e, h1, h2, h3, h4⟩ := gap_head s k hg
  have h5 := h.gap
  have hp := Tk.one_pos ho
  have hle := one_le ho
  rw [List.length_drop, len8] at hle
  have hn := nlsK_le s k
  have hsl := semi_le out (decide (0 < nlsK s k)) kd t
  rw [e] at h5 ho
  rw [Tk.lexW_tok denM _ _ _ _ h1 h2 h3 h4 ho, ← e, List.drop_drop, hS] at h5
  rw [hS] at hsl
  refine ⟨h5, by omega, by have := h.2.2.1; omega, ?_, ?_, hown, hsc, hb⟩
  · have := h.2.2.2.1
    rw [List.length_append, List.length_append, List.length_singleton]; omega
  · intro x hx
    rw [List.getLast?_concat] at hx
    rw [← Option.some.inj hx]
theorem LexQ.start (w wr : World) (s : ByteArray) (h : s.data.toList.length ≤ 6000) (hsc : Scan wr w.heap.size s 0 1) (hb : Below w.heap.size w wr) : LexQ w s (Tk.lex denM s.data.toList) 0 1 [] (.slice none 0 0) wr := by
  refine ⟨?_, Nat.zero_le _, Nat.le_refl _, by simp, (fun x hx => by cases hx), ownT_nil _ _, hsc, hb⟩
  unfold Tk.lex
  rw [if_neg (by omega)]; rfl
theorem semi_at (l0 : List Tk.Tok) (x : Tk.Tok) (fr : Bool) (kd : Nat) (t : List UInt8) : Tk.semi (l0 ++ [x]) fr kd t = if (fr && Tk.ends x.1 x.2.1 && Tk.begins kd t) = true then [(7, [59], x.2.2)] else [] := by
  unfold Tk.semi
  rw [List.getLast?_concat]
theorem semi_empty (fr : Bool) (kd : Nat) (t : List UInt8) : Tk.semi [] fr kd t = [] := rfl
theorem ownT_mono {w : World} {B B' : Nat} {v : Value} {l : List TokB} (h : OwnT w B v l) (hB : B' ≤ B) : OwnT w B' v l := by
  refine ⟨h.1, ?_⟩
  rcases h.2 with hn | ⟨g, cap, cur, hv, hg, r⟩
  · exact .inl hn
  · exact .inr ⟨g, cap, cur, hv, Nat.le_trans hB hg, r⟩
theorem ownT_past {h : Nat} {w w1 : World} {v : Value} {l : List TokB} (x : OwnT w (h + 3) v l) (p : Past h w w1) : OwnT w1 (h + 3) v l := by
  refine ⟨x.1, ?_⟩
  rcases x.2 with hn | ⟨g, cap, cur, hv, hg, hgg, r⟩
  · exact .inl hn
  · exact .inr ⟨g, cap, cur, hv, hg, by rw [p.2 g hg (Array.getElem?_eq_some_iff.1 hgg).1]; exact hgg, r⟩
theorem Scan.far {w w1 : World} {h k line : Nat} {s : ByteArray} (x : Scan w h s k line) (hb : Below (h + 3) w w1) : Scan w1 h s k line :=
  ⟨by rw [hb.block h (by omega)]; exact x.1, by rw [hb.block (h + 1) (by omega)]; exact x.2.1, by rw [hb.block (h + 2) (by omega)]; exact x.2.2⟩
/-- The place that the scanner keeps. -/
def offOf (w : World) (h : Nat) : Nat := match w.cell? ⟨h + 1, 0, none⟩ with
  | some v => (intOf v).toNat
  | none => 0
theorem offOf_scan {w : World} {h k line : Nat} {s : ByteArray} (x : Scan w h s k line) : offOf w h = k := by
  unfold offOf
  rw [x.cells.2.1]
  simp [intOf]

set_option maxHeartbeats 800000 in
theorem ends_stmt (k1 : Int) (t1 : ByteArray) (l1 : Int) (k2 : Int) (t2 : ByteArray) (l2 : Int) (w : World) : Calls Tryd.prog 13 #[tokV k1 t1 l1, tokV k2 t2 l2] w fun e w' => e = .returned (.bool (!(l1 == l2) && Tk.ends k1 t1.data.toList && Tk.begins k2 t2.data.toList)) ∧ Below w.heap.size w w' := by
  have HE := Lib.hid (fun W => impl_ends k1 t1 l1 W)
  have HG := Lib.hid (fun W => impl_begins k2 t2 l2 W)
  have B0 := Lib.hid (Below.alloc (bl1 w (.cells #[.int .i64 k1, .string t1, .int .i64 l1] 29)) (bl1 w (.cells #[.int .i64 k1, .string t1, .int .i64 l1] 29)).size (.cells #[.int .i64 k2, .string t2, .int .i64 l2] 29))
  have F0 := Lib.hid (FreeTok.new (w.alloc (.cells #[.int .i64 k1, .string t1, .int .i64 l1] 29)) k2 t2 l2 29)
  have Z : (w.alloc (.cells #[.int .i64 k1, .string t1, .int .i64 l1] 29)).heap.size = w.heap.size + 1 := by simp
  rw [Z] at F0
  clear Z
  unfold tokV at HE HG ⊢
  by_cases hq : l1 = l2
  · subst hq
    rw [beq_self_eq_true]
    clear HE HG
    go_enter Tryd.func13, Tryd.ntmps13
    go_wp2
    go_ret
    exact ⟨rfl, B0.out⟩
  · rw [beq_eq_false_iff_ne.2 hq]
    have hn : (l1 != l2) = true := bne_iff_ne.2 hq
    clear hq
    cases he : Tk.ends k1 t1.data.toList
    · rw [he] at HE
      clear he HG
      go_enter Tryd.func13, Tryd.ntmps13
      go_wp2_with (first | (go_at_call 33; refine (HE.out _).mono ?_; rintro e w1 ⟨rfl, hb1⟩; have B1 := Lib.hid (below_step B0.out hb1); clear hb1))
      go_ret
      exact ⟨rfl, B1.out⟩
    · rw [he] at HE
      clear he
      generalize Tk.begins k2 t2.data.toList = b at HG ⊢
      go_enter Tryd.func13, Tryd.ntmps13
      go_wp2_with (first | (go_at_call 33; refine (HE.out _).mono ?_; rintro e w1 ⟨rfl, hb1⟩; have B1 := Lib.hid (below_step B0.out hb1); obtain ⟨⟨r0, r1, r2⟩, _⟩ := F0.out.later hb1; clear hb1) | (go_at_call 34; refine (HG.out _).mono ?_; rintro e w2 ⟨rfl, hb2⟩; have B2 := Lib.hid (below_step B1.out hb2); clear hb2))
      go_ret
      exact ⟨rfl, B2.out⟩
end Go.Proofs.YtfhakailbikjkaaDoor
/- Lex of the program: its walk. No conditions. -/
namespace Go.Proofs.YtfhakailbikjkaaDoor
open Go.RowKit
set_option linter.unusedVariables false

theorem far_app {wr w1 : World} {h : Nat} {v : Value} {l : List TokB} {o : Obj} (hz : h + 3 ≤ wr.heap.size) (hown : OwnT wr (h + 3) v l) (hg : (wr.alloc o).grownBy w1 v.ownBlock) : Below (h + 3) wr w1 :=
  ((Below.refl _ _).alloc hz o).grown hg (by simp; omega) (fun k hk => (hown.lt k hk).1)
theorem nil_or_last (l : List Tk.Tok) : l = [] ∨ ∃ l0 x, l = l0 ++ [x] := by
  rcases List.eq_nil_or_concat l with rfl | ⟨l0, x, rfl⟩
  · exact .inl rfl
  · exact .inr ⟨l0, x, List.concat_eq_append ..⟩
theorem tok_bool {kd m : Nat} {t : List UInt8} {z : Int} (h : 1 ≤ kd) : Ending.returned (.tuple #[.agg #[.int .i64 (tkK (some (kd, t, m))), .string (tkT (some (kd, t, m))), .int .i64 z], .bool (!(tkK (some (kd, t, m)) == 0))]) = .returned (.tuple #[.agg #[.int .i64 (kd : Int), .string (str8 t), .int .i64 z], .bool true]) := by
  have e : ((kd : Int) == 0) = false := beq_eq_false_iff_ne.2 (by omega)
  show Ending.returned (.tuple #[.agg #[.int .i64 (kd : Int), .string (str8 t), .int .i64 z], .bool (!((kd : Int) == 0))]) = _
  rw [e]; rfl

set_option maxRecDepth 100000 in
set_option maxHeartbeats 6400000 in
theorem impl_lex (s : ByteArray) (w : World) (hS : Sent w) : Calls Tryd.prog 5 #[.string s] w (RetLex w (Tk.lex denM s.data.toList)) := by
  unfold RetLex
  obtain ⟨i0, hi, hz0, hz1, hz2⟩ := info_parts info_tok
  obtain ⟨a, hSa⟩ := hS
  by_cases hbig : 6000 < s.size
  · have e : Tk.lex denM s.data.toList = (1, []) := by unfold Tk.lex; exact if_pos hbig
    rw [e]
    have hb : (6000 : Int) < s.size := by omega
    clear e hbig hSa
    go_enter Tryd.func5, Tryd.ntmps5
    go_wp2
    go_ret2
    exact ⟨_, rfl, ownT_nil _ _, Below.refl _ _⟩
  · have hs : (s.size : Int) ≤ 6000 := by omega
    have hsm : (s.size : Int) ≤ 1048576 := by omega
    have HST := Lib.hid (fun wr h1 h2 => LexQ.start w wr s (by show s.size ≤ 6000; omega) h1 h2)
    generalize Tk.lex denM s.data.toList = R at HST ⊢
    have HNW := Lib.hid (scanner_new s w)
    have HSA := Lib.hid hSa
    have HGL := Lib.hid (sentAt_lt hSa)
    clear hbig hSa
    go_enter Tryd.func5, Tryd.ntmps5
    go_wp2_with (go_at_call 12; refine HNW.out.mono ?_; rintro e w0 ⟨rfl, hsc0, hb0, hz9⟩; have HS0 := Lib.hid (HST.out _ hsc0 hb0); clear hsc0 hb0 hz9)
    go_loopw [2, 3, 5, 6, 7] (fun _ _ v _ _ wr => ∃ (k line : Nat) (out : List Tk.Tok), LexQ w s R k line out v wr) (fun _ _ _ _ _ wr => s.size - offOf wr w.heap.size)
    case atStart => exact ⟨0, 1, [], HS0.out⟩
    case round =>
      clear HST HNW HS0
      obtain ⟨k, line, out, hat⟩ := hrel
      have HAT := Lib.hid hat
      obtain ⟨_, hk, hline, hol, hlast, hown, hsc, hbw⟩ := hat
      have HOFF := Lib.hid (offOf_scan hsc)
      have hle := gapK_le s k hk
      have HLAST := Lib.hid hlast
      have HOWN := Lib.hid hown
      have HBW := Lib.hid hbw
      have hl1 : (line : Int) ≤ 1048577 := by omega
      have hnl := nlsK_le s k
      by_cases hg : k + gapK s k = s.size
      · have HN := Lib.hid (next_end w.heap.size k line s _ hsc hsm hk hl1 hg)
        have HOV := Lib.hid (HAT.out.over hg)
        clear hg hsc hown hbw hlast HAT hle hnl
        go_wp2_with (go_at_call 29; refine HN.out.mono ?_; rintro e w1 ⟨rfl, hsc1, hp1⟩; have HO1 := Lib.hid (ownT_mono (ownT_below (ownT_past HOWN.out hp1) (bl1 w1 (.cells #[.int .i64 0, .string ByteArray.empty, .int .i64 0] 29))) (Nat.le_add_right w.heap.size 3)); have HB1 := Lib.hid (below_step (HBW.out.trans hp1.1) (bl1 w1 (.cells #[.int .i64 0, .string ByteArray.empty, .int .i64 0] 29))); clear hsc1 hp1)
        go_ret2
        exact ⟨_, by rw [HOV.out]; rfl, by rw [HOV.out]; exact HO1.out, HB1.out⟩
      · have hg2 : k + gapK s k < s.size := by omega
        have hSr := sentAt_below HSA.out hbw
        cases ho : Tk.one denM (s.data.toList.drop (k + gapK s k)) with
        | none =>
          have HN : Hid (Calls Tryd.prog 29 (scanV w.heap.size) _ fun e w' => e = .returned (.tuple #[.agg #[.int .i64 0, .string ByteArray.empty, .int .i64 ((line + nlsK s k : Nat) : Int)], .bool false]) ∧ Scan w' w.heap.size s (k + gapK s k + 0) (line + nlsK s k) ∧ Past w.heap.size _ w') := Lib.hid (next_tok w.heap.size k line s _ hsc hsm hk hl1 hg2 a hSr HGL.out none ho 0 rfl (by decide))
          have HBAD := Lib.hid (HAT.out.bad hg2 ho)
          generalize line + nlsK s k = z at HN HBAD
          clear hg hg2 hsc hown hbw hlast HAT hle hnl hSr ho
          have HF1 := Lib.hid (fun w1 => FreeTok.new w1 0 ByteArray.empty (z : Int) 29)
          go_wp2_with (go_at_call 29; refine HN.out.mono ?_; rintro e w1 ⟨rfl, hsc1, hp1⟩; have HB1 := Lib.hid (below_step (HBW.out.trans hp1.1) (bl1 w1 (.cells #[.int .i64 0, .string ByteArray.empty, .int .i64 (z : Int)] 29))); obtain ⟨⟨r0, r1, r2⟩, _⟩ := HF1.out w1; clear hsc1 hp1)
          go_quiet (fail)
          go_wp2
          go_ret2
          exact ⟨_, by rw [HBAD.out]; rfl, by rw [HBAD.out]; exact ownT_nil _ _, below_drewN HB1.out _⟩
        | some y =>
          obtain ⟨kd, t, m⟩ := y
          have hkd := one_kind ho
          have hm1 := Tk.one_pos ho
          have hm2 := one_le ho
          rw [List.length_drop, len8] at hm2
          have hmz : (m : Int) ≤ 1048576 := by omega
          have HN : Hid (Calls Tryd.prog 29 (scanV w.heap.size) _ fun e w' => e = .returned (.tuple #[.agg #[.int .i64 (kd : Int), .string (str8 t), .int .i64 ((line + nlsK s k : Nat) : Int)], .bool true]) ∧ Scan w' w.heap.size s (k + gapK s k + m) (line + nlsK s k) ∧ Past w.heap.size _ w') := Lib.hid ((next_tok w.heap.size k line s _ hsc hsm hk hl1 hg2 a hSr HGL.out _ ho m rfl hmz).mono fun e w' hh => ⟨hh.1.trans (tok_bool hkd), hh.2⟩)
          have HTK := Lib.hid (fun w1 v1 S hS h1 h2 h3 => HAT.out.tok (w1 := w1) (v1 := v1) hg2 ho S hS h1 h2 h3)
          have hk0 : ((kd : Int) == 0) = false := beq_eq_false_iff_ne.2 (by omega)
          have hout : out.length + 2 ≤ 13000 := by omega
          have hz0' : nlsK s k = 0 ∨ 0 < nlsK s k := by omega
          generalize hd : decide (0 < nlsK s k) = fr at HTK
          generalize hzz : line + nlsK s k = z at HN HTK
          have hfr : (!((line : Int) == (z : Int))) = fr := by
            rw [← hd, ← hzz]
            rcases hz0' with h | h
            · rw [h]; simp
            · rw [decide_eq_true h, beq_eq_false_iff_ne.2 (by omega)]; rfl
          have hkn : k + gapK s k + m ≤ s.size := by omega
          have hkm : k < k + gapK s k + m := by omega
          generalize k + gapK s k + m = k2 at HN HTK hkn hkm
          clear hd hzz hz0' hg hg2 hsc hown hbw hlast HAT hle hnl hSr ho hm1 hm2 hmz
          have HF1 := Lib.hid (fun w1 => FreeTok.new w1 (kd : Int) (str8 t) (z : Int) 29)
          have HBL := Lib.hid (fun w1 => bl1 w1 (.cells #[.int .i64 (kd : Int), .string (str8 t), .int .i64 (z : Int)] 29))
          rcases nil_or_last out with rfl | ⟨l0, x, rfl⟩
          · obtain ⟨sa, sc, rfl⟩ := ownT_len HOWN.out
            go_wp2_with (go_at_call 29; refine HN.out.mono ?_; rintro e w1 ⟨rfl, hsc1, hp1⟩; have HO1 := Lib.hid (ownT_below (ownT_past HOWN.out hp1) (HBL.out w1)); have HB1 := Lib.hid (below_step (HBW.out.trans hp1.1) (HBL.out w1)); have HS1 := Lib.hid (hsc1.later (HBL.out w1)); have HF2 := Lib.hid (HF1.out w1); obtain ⟨⟨r0, r1, r2⟩, _⟩ := HF2.out; clear hsc1 hp1)
            have hsemi := semi_empty fr kd t
            have HT := Lib.hid (fun w1 v1 h1 h2 h3 => HTK.out w1 v1 [] hsemi (by rw [List.append_nil]; exact h1) h2 h3)
            clear hsemi HTK hfr
            generalize hW5 : w1.alloc (.cells #[.int .i64 (kd : Int), .string (str8 t), .int .i64 (z : Int)] 29) = w5 at HO1 HB1 HS1 HF2 r0 r1 r2 ⊢
            clear hW5
            generalize hb5 : w1.heap.size = b5 at HF2 r0 r1 r2 ⊢
            clear hb5
            go_quiet (fail)
            have HO6 := Lib.hid (ownT_drewN HO1.out nq)
            have HB6 := Lib.hid (below_drewN HB1.out nq)
            have HS6 := Lib.hid (HS1.out.drewN nq)
            have HF6 := Lib.hid (HF2.out.drewN nq)
            clear HO1 HB1 HS1 HF2 r0 r1 r2
            generalize w5.drewN nq = w6 at HO6 HB6 HS6 HF6 ⊢
            obtain ⟨⟨r0, r1, r2⟩, _⟩ := HF6.out
            go_wp2_with (first | (at_builtin; refine wpList_append_own _ rfl _ _ 22 rfl (w.heap.size + 3) 29 i0 (.agg #[.int .i64 0, .string ByteArray.empty, .int .i64 0]) 3 32 Tryd.underlying22 hi hz0 hz1 hz2 rfl (by decide) _ _ _ rfl (HO6.out.alloc _) ⟨w6.heap.size, 0, none⟩ 1 1 [.int .i64 (kd : Int), .string (str8 t), .int .i64 (z : Int)] rfl rfl ?d1 ?d2 ?d3 ?d4 ?d5 ?_))
            case d1 => exact new_tok2 _ _ (by simp) _ _ _ _
            case d2 => exact one_tok _ _ _
            case d3 => exact max_small (by first | omega | (simp; done) | (simp; omega))
            case d4 => first | omega | (simp; done) | (simp; omega)
            case d5 => have := HS6.out.lt; simp; omega
            intro v9 w9 hown9 hgrow9 _
            have HO9 := Lib.hid (own_last ([]) (kd, t, z) hown9 (by first | rfl | (simp; done)) (by first | rfl | (simp; done)))
            have hfar9 := far_app (show w.heap.size + 3 ≤ w6.heap.size by have := HS6.out.lt; omega) HO6.out hgrow9
            have HS9 := Lib.hid (HS6.out.far hfar9)
            have HB9 := Lib.hid (HB6.out.trans (hfar9.mono (Nat.le_add_right _ 3)))
            clear hfar9
            clear hown9 hgrow9
            go_wp2
            go_roundw
            case rel => exact ⟨k2, z, _, HT.out _ _ HO9.out HS9.out HB9.out⟩
            case measure => rw [offOf_scan HS9.out, HOFF.out]; omega
          · have hl9 : (List.map toB (l0 ++ [x])).length = l0.length + 1 := by simp
            obtain ⟨g, cap, hv, hg1, hg3, hg4⟩ := ownT_some HOWN.out (by simp)
            rw [hl9] at hv
            subst hv
            have HGL2 := Lib.hid (HOWN.out.lt g rfl).2
            have hx2 : x.2.2 = line := HLAST.out x (by simp)
            have hlen : l0.length + 3 ≤ 13000 := by rw [List.length_append, List.length_singleton] at hout; omega
            have HES := Lib.hid (fun W => ends_stmt x.1 (str8 x.2.1) x.2.2 kd (str8 t) z W)
            have HSM := semi_at l0 x fr kd t
            rw [str8_list, str8_list, hx2, hfr] at HES
            generalize (fr && Tk.ends x.1 x.2.1 && Tk.begins kd t) = b at HES HSM
            rw [← hx2] at HES
            have HSM2 := Lib.hid HSM
            clear HSM hfr hx2 HLAST hout hol hg1 hg3 hg4 hl9
            unfold tokV at HES
            go_wp2_with (go_at_call 29; refine HN.out.mono ?_; rintro e w1 ⟨rfl, hsc1, hp1⟩; have HO1 := Lib.hid (ownT_below (ownT_past HOWN.out hp1) (HBL.out w1)); have HB1 := Lib.hid (below_step (HBW.out.trans hp1.1) (HBL.out w1)); have HS1 := Lib.hid (hsc1.later (HBL.out w1)); have HZ1 := Lib.hid (Nat.lt_of_lt_of_le HGL2.out hp1.1.size); have HF2 := Lib.hid (HF1.out w1); obtain ⟨⟨r0, r1, r2⟩, _⟩ := HF2.out; clear hsc1 hp1)
            generalize hW5 : w1.alloc (.cells #[.int .i64 (kd : Int), .string (str8 t), .int .i64 (z : Int)] 29) = w5 at HO1 HB1 HS1 HF2 r0 r1 r2 ⊢
            clear hW5
            generalize hb5 : w1.heap.size = b5 at HF2 r0 r1 r2 HZ1 ⊢
            clear hb5
            obtain ⟨q0, q1, q2⟩ := last_cell rfl HO1.out
            have hd10 : decide ((0 : Int) < (l0.length : Int) + 1) = true := decide_eq_true (by omega)
            have hi0 : (0 : Int) ≤ (l0.length : Int) := by omega
            have hi1 : (l0.length : Int) < (l0.length : Int) + 1 := by omega
            have hwl : IntKind.i64.wrap (l0.length : Int) = (l0.length : Int) := IntWalk.i64_in _ (by omega)
            go_still_tail 11, (by kernel_rfl)
            change wpList _ _ _ _ _ w5.drew
            have HO6 : Hid (OwnT w5.drew (w.heap.size + 3) (.slice (some ⟨g, 0, none⟩) (l0.length + 1) cap) ((l0 ++ [x]).map toB)) := Lib.hid (ownT_drewN HO1.out 1)
            have HB6 := Lib.hid HB1.out.drew
            have HS6 := Lib.hid HS1.out.drew
            have HF6 := Lib.hid HF2.out.drew
            clear hwl hi0 hi1 hd10 HO1 HB1 HS1 HF2 r0 r1 r2 q0 q1 q2
            generalize w5.drew = w6 at HO6 HB6 HS6 HF6 ⊢
            cases b
            · have hsemi := HSM2.out
              rw [if_neg (by decide)] at hsemi
              have HT := Lib.hid (fun w1 v1 h1 h2 h3 => HTK.out w1 v1 [] hsemi (by rw [List.append_nil]; exact h1) h2 h3)
              clear HSM2 hsemi HTK
              go_wp2_with (first | (go_at_call 13; refine (HES.out _).mono ?_; rintro e w7 ⟨rfl, hb7⟩; have HO7 := Lib.hid (ownT_below HO6.out hb7); have HB7 := Lib.hid (below_step HB6.out hb7); have HS7 := Lib.hid (HS6.out.later hb7); have HF7 := Lib.hid (HF6.out.later hb7); obtain ⟨⟨r0, r1, r2⟩, _⟩ := HF7.out; clear hb7) | (at_builtin; refine wpList_append_own _ rfl _ _ 22 rfl (w.heap.size + 3) 29 i0 (.agg #[.int .i64 0, .string ByteArray.empty, .int .i64 0]) 3 32 Tryd.underlying22 hi hz0 hz1 hz2 rfl (by decide) _ _ _ rfl (HO7.out.alloc _) ⟨w7.heap.size, 0, none⟩ 1 1 [.int .i64 (kd : Int), .string (str8 t), .int .i64 (z : Int)] rfl rfl ?a1 ?a2 ?a3 ?a4 ?a5 ?_))
              case a1 => exact new_tok2 _ _ (by simp) _ _ _ _
              case a2 => exact one_tok _ _ _
              case a3 => exact max_small (by first | omega | (simp; done) | (simp; omega))
              case a4 => first | omega | (simp; done) | (simp; omega)
              case a5 => have := HS7.out.lt; simp; omega
              intro v9 w9 hown9 hgrow9 _
              have HO9 := Lib.hid (own_last (l0 ++ [x]) (kd, t, z) hown9 (by first | rfl | (simp; done)) (by first | rfl | (simp; done)))
              have hfar9 := far_app (show w.heap.size + 3 ≤ w7.heap.size by have := HS7.out.lt; omega) HO7.out hgrow9
              have HS9 := Lib.hid (HS7.out.far hfar9)
              have HB9 := Lib.hid (HB7.out.trans (hfar9.mono (Nat.le_add_right _ 3)))
              clear hfar9
              clear hown9 hgrow9
              go_wp2
              go_roundw
              case rel => exact ⟨k2, z, _, HT.out _ _ HO9.out HS9.out HB9.out⟩
              case measure => rw [offOf_scan HS9.out, HOFF.out]; omega
            · have hsemi := HSM2.out
              rw [if_pos rfl] at hsemi
              have HT := Lib.hid (fun w1 v1 h1 h2 h3 => HTK.out w1 v1 _ hsemi h1 h2 h3)
              clear HSM2 hsemi HTK
              go_wp2_with (first | (go_at_call 13; refine (HES.out _).mono ?_; rintro e w7 ⟨rfl, hb7⟩; have HO7 := Lib.hid (ownT_below HO6.out hb7); have HB7 := Lib.hid (below_step HB6.out hb7); have HS7 := Lib.hid (HS6.out.later hb7); have HF7 := Lib.hid (HF6.out.later hb7); obtain ⟨q0, q1, q2⟩ := last_cell rfl HO7.out; clear hb7) | (at_builtin; refine wpList_append_own _ rfl _ _ 22 rfl (w.heap.size + 3) 29 i0 (.agg #[.int .i64 0, .string ByteArray.empty, .int .i64 0]) 3 32 Tryd.underlying22 hi hz0 hz1 hz2 rfl (by decide) _ _ _ rfl (HO7.out.alloc _) ⟨w7.heap.size, 0, none⟩ 1 1 [.int .i64 7, .string (str8 [59]), .int .i64 (x.2.2 : Int)] rfl rfl ?b1 ?b2 ?b3 ?b4 ?b5 ?_))
              case b1 => exact new_tok2 _ _ (by simp) _ _ _ _
              case b2 => exact one_tok _ _ _
              case b3 => exact max_small (by first | omega | (simp; done) | (simp; omega))
              case b4 => first | omega | (simp; done) | (simp; omega)
              case b5 => have := HS7.out.lt; simp; omega
              intro v8 w8 hown8 hgrow8 _
              have HO8 := Lib.hid (own_last (l0 ++ [x]) (7, [59], x.2.2) hown8 (by first | rfl | (simp; done)) (by first | rfl | (simp; done)))
              have hfar8 := far_app (show w.heap.size + 3 ≤ w7.heap.size by have := HS7.out.lt; omega) HO7.out hgrow8
              have HS8 := Lib.hid (HS7.out.far hfar8)
              have HB8 := Lib.hid (HB7.out.trans (hfar8.mono (Nat.le_add_right _ 3)))
              clear hfar8
              have HF8 := Lib.hid (FreeTok.grown (HF7.out.later (bl1 _ _)) hgrow8 (by intro e; have h2 : b5 = g := Option.some.inj e; have h3 := HZ1.out; omega))
              clear hown8 hgrow8
              obtain ⟨r0, r1, r2⟩ := HF8.out
              go_wp2_with (first | (at_builtin; refine wpList_append_own _ rfl _ _ 22 rfl (w.heap.size + 3) 29 i0 (.agg #[.int .i64 0, .string ByteArray.empty, .int .i64 0]) 3 32 Tryd.underlying22 hi hz0 hz1 hz2 rfl (by decide) _ _ _ rfl (HO8.out.alloc _) ⟨w8.heap.size, 0, none⟩ 1 1 [.int .i64 (kd : Int), .string (str8 t), .int .i64 (z : Int)] rfl rfl ?c1 ?c2 ?c3 ?c4 ?c5 ?_))
              case c1 => exact new_tok2 _ _ (by simp) _ _ _ _
              case c2 => exact one_tok _ _ _
              case c3 => exact max_small (by first | omega | (simp; done) | (simp; omega))
              case c4 => first | omega | (simp; done) | (simp; omega)
              case c5 => have := HS8.out.lt; simp; omega
              intro v9 w9 hown9 hgrow9 _
              have HO9 := Lib.hid (own_last (l0 ++ [x] ++ [(7, [59], x.2.2)]) (kd, t, z) hown9 (by first | rfl | (simp; done)) (by first | rfl | (simp; done)))
              have hfar9 := far_app (show w.heap.size + 3 ≤ w8.heap.size by have := HS8.out.lt; omega) HO8.out hgrow9
              have HS9 := Lib.hid (HS8.out.far hfar9)
              have HB9 := Lib.hid (HB8.out.trans (hfar9.mono (Nat.le_add_right _ 3)))
              clear hfar9
              clear hown9 hgrow9
              go_wp2
              go_roundw
              case rel => exact ⟨k2, z, _, HT.out _ _ HO9.out HS9.out HB9.out⟩
              case measure => rw [offOf_scan HS9.out, HOFF.out]; omega
end Go.Proofs.YtfhakailbikjkaaDoor
