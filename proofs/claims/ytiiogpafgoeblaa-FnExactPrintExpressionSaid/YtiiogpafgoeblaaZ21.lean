/- Joined texts: Y12, W8, W13. No conditions besides those that each states. -/
import Derived.Deep.RegionLaw
import Derived.Deep.QuietTactic
import Derived.BigQuiet
import Derived.Deep.RegionHeld3
import Derived.OwnWalk
import Derived.Test.YtiiogpafgoeblaaZ7
import Derived.Test.YtiiogpafgoeblaaZ17
import Derived.Test.YtiiogpafgoeblaaZ20
/- The reference model's printer: the branches of a case. No conditions. -/
namespace Go.Proofs.Ytiiogpafgoeblaa
open Go.RowKit
set_option linter.unusedVariables false

/-- The texts of a case's branches. -/
def brsS (r : List Ex.T) : List ByteArray := (Ex.brs (Ex.parts r)).map str8
theorem brs_pair (a b : Ex.T) (r : List Ex.T) : Ex.brs (Ex.parts (a :: b :: r)) = (a.fit 1 ++ [32, 58, 32] ++ b.fit 1) :: Ex.brs (Ex.parts r) := rfl
theorem brs_step : ∀ (j : Nat) (r : List Ex.T) (h : 2 * j + 1 < r.length), (brsS r).take j ++ [str8 (r[2 * j].fit 1) ++ (⟨#[32, 58, 32]⟩ : ByteArray) ++ str8 (r[2 * j + 1].fit 1)] = (brsS r).take (j + 1) := by
  intro j
  induction j with
  | zero =>
    intro r h
    match r, h with
    | a :: b :: r, h =>
      unfold brsS
      rw [brs_pair]
      simp only [List.take_zero, List.nil_append, List.map_cons, List.take_succ_cons]
      congr 1
  | succ j ih =>
    intro r h
    match r, h with
    | a :: b :: r, h =>
      have h2 : 2 * j + 1 < r.length := by simp at h; omega
      have h3 := ih r h2
      unfold brsS at h3 ⊢
      rw [brs_pair]
      simp only [List.map_cons, List.take_succ_cons, List.cons_append]
      congr 1
theorem brs_last : ∀ (j : Nat) (r : List Ex.T) (h : r.length = 2 * j + 1), (brsS r).take j ++ [(⟨#[100, 101, 102, 97, 117, 108, 116, 32, 58, 32]⟩ : ByteArray) ++ str8 ((r[2 * j]'(by omega)).fit 1)] = brsS r := by
  intro j
  induction j with
  | zero =>
    intro r h
    match r, h with
    | [a], h =>
      unfold brsS
      show [_] = [str8 ([100, 101, 102, 97, 117, 108, 116, 32, 58, 32] ++ a.fit 1)]
      congr 1
  | succ j ih =>
    intro r h
    match r, h with
    | a :: b :: r, h =>
      have h2 : r.length = 2 * j + 1 := by simp at h; omega
      have h3 := ih r h2
      unfold brsS at h3 ⊢
      rw [brs_pair]
      simp only [List.map_cons, List.take_succ_cons, List.cons_append]
      congr 1
theorem brs_even : ∀ (j : Nat) (r : List Ex.T) (h : r.length = 2 * j), (brsS r).take j = brsS r := by
  intro j
  induction j with
  | zero =>
    intro r h
    obtain rfl : r = [] := List.length_eq_zero_iff.1 (by omega)
    rfl
  | succ j ih =>
    intro r h
    match r, h with
    | a :: b :: r, h =>
      have h2 : r.length = 2 * j := by simp at h; omega
      have h3 := ih r h2
      unfold brsS at h3 ⊢
      rw [brs_pair]
      simp only [List.map_cons, List.take_succ_cons]
      congr 1
theorem brsS_data (r : List Ex.T) : ((brsS r).map fun s => s.data.toList) = Ex.brs (Ex.parts r) := by
  unfold brsS
  rw [List.map_map]
  conv => rhs; rw [← List.map_id (Ex.brs (Ex.parts r))]
  exact List.map_congr_left fun x _ => str8_list x
theorem brs_count : ∀ (n : Nat) (r : List Ex.T), r.length ≤ n → (brsS r).length ≤ r.length := by
  intro n
  induction n with
  | zero => intro r h; obtain rfl : r = [] := List.length_eq_zero_iff.1 (by omega); simp [brsS, Ex.parts, Ex.brs]
  | succ n ih =>
    intro r h
    match r with
    | [] => simp [brsS, Ex.parts, Ex.brs]
    | [a] => simp [brsS, Ex.parts, Ex.brs]
    | a :: b :: r =>
      have h3 := ih r (by simp at h; omega)
      unfold brsS at h3 ⊢
      rw [brs_pair]
      simp only [List.map_cons, List.length_cons, List.length_map] at h3 ⊢
      omega
theorem append_str {B : Nat} {w : World} {v : Value} {l : List ByteArray} (ty : TypeId) (hown : Owns w B v l) (ad : Addr) (y : ByteArray) (hy : w.cell? ad = some (.string y)) (hn : l.length ≤ 1048576) (hB : B ≤ w.heap.size) :
    ∃ v' w', (Builtin.append_ #[23, 23] ty #[v, .slice (some ad) 1 1]).run Try.prog w = .ok v' w' ∧ Owns w' B v' (l ++ [y]) ∧ w.grownBy w' v.ownBlock := by
  obtain ⟨i0, hi, hz0, hz1, hz2⟩ := info_parts info_string
  obtain ⟨v', w', hr, h2, h3, _⟩ := run_append_own (P := Try.prog) w B 23 ty 9 i0 (.string ByteArray.empty) 1 16 Try.underlying23 hi hz0 hz1 hz2 rfl (by decide) v l.length (l.map Value.string) hown ad 1 1 [.string y] rfl (fun j u h => by
    match j, h with
    | 0, h => obtain rfl := Option.some.inj h; rw [show ad.add 0 = ad by unfold Addr.add; rfl]; exact hy) (one_string y) (by unfold maxLen; omega) (by omega) hB
  exact ⟨v', w', hr, owns_app h2, h3⟩
theorem step_append_str {B : Nat} {w : World} {v : Value} {l : List ByteArray} {ops : Array Oper} {o : Oper} {a : Act} {K : Act → World → Prop} {Q : Exit → Act → World → Prop} {E : Prop} (hgd : o.guard = none) (s x : Operand)
    (ho : o.op = .call { callee := .builtin .append, args := #[s, x], argTypes := #[23, 23] }) (hs : a.eval s = v) (hown : Owns w B v l) (ad : Addr) (y : ByteArray) (hx : a.eval x = .slice (some ad) 1 1) (hy : w.cell? ad = some (.string y)) (hn : l.length ≤ 1048576) (hB : B ≤ w.heap.size)
    (h : ∀ v' w', Owns w' B v' (l ++ [y]) → w.grownBy w' v.ownBlock → K (a.put o.dst v') w') :
    if Region.wanted o (yielded ops a.tmps) = true then Oper.wp Try.prog o a w K Q else E := by
  have hw : Region.wanted o (yielded ops a.tmps) = true := by simp [Region.wanted, hgd]
  rw [if_pos hw]
  obtain ⟨v', w', hr, h2, h3⟩ := append_str o.type hown ad y hy hn hB
  unfold Oper.wp execOp
  simp only [ho, resolve, invoke, builtin, Sem.run_bind, Sem.run_pure, Result.andThen_ok, List.map_toArray, List.map_cons, List.map_nil, hs, hx, hr]
  exact h v' w' h2 h3
theorem held_c {p : Prop} {n : Nat} {w W W2 : World} (h : p ∧ Below n w W) (hn : n ≤ w.heap.size) (hb : Below W.heap.size W W2) : Below n w W2 := h.2.trans (hb.mono (Nat.le_trans hn h.2.size))
theorem held_g {p : Prop} {n : Nat} {w W W2 : World} {v : Value} (h : p ∧ Below n w W) (hn : n ≤ w.heap.size) (hg : W.grownBy W2 v.ownBlock) (hv : ∀ b, v.ownBlock = some b → n ≤ b) : Below n w W2 := h.2.grown hg (Nat.le_trans hn h.2.size) hv
theorem owns_blk {w : World} {B : Nat} {v : Value} {l : List ByteArray} (h : Owns w B v l) : ∀ b, v.ownBlock = some b → B ≤ b := fun b hb => (World.ownsRow.lt h b hb).1
theorem owns_held {p : Prop} {n : Nat} {w W : World} {v : Value} {l : List ByteArray} (h : Owns w n v l) (hb : ∀ b, b < w.heap.size → W.heap[b]? = w.heap[b]?) : Owns W n v l := by
  refine ⟨h.1, ?_⟩
  rcases h.2 with hn | ⟨g, cap, cur, hv, hg, hgg, r⟩
  · exact .inl hn
  · exact .inr ⟨g, cap, cur, hv, hg, by rw [hb g (Array.getElem?_eq_some_iff.1 hgg).1]; exact hgg, r⟩
end Go.Proofs.Ytiiogpafgoeblaa
/- The laws' own helpers over slices of strings: comparing them, and comparing them again after a draw. No conditions. -/
namespace Go.Proofs.Ytiiogpafgoeblaa
open Go.RowKit
set_option linter.unusedVariables false

/-- A slice of strings that can be read. -/
def Reads (w : World) (v : Value) (l : List ByteArray) : Prop :=
  ((∃ a c, v = .slice a 0 c) ∧ l = []) ∨ ∃ g off cap, v = .slice (some ⟨g, off, none⟩) l.length cap ∧ l.length ≤ maxLen ∧ ∀ i, i < l.length → w.cell? ⟨g, off + i, none⟩ = some (.string (l.getD i ByteArray.empty))

theorem add_lit (g o i : Nat) : (⟨g, o, none⟩ : Addr).add i = ⟨g, o + i, none⟩ := by
  unfold Addr.add; split <;> simp_all

theorem reads_of_owns {w : World} {base : Nat} {v : Value} {l : List ByteArray} (h : Owns w base v l) : Reads w v l := by
  rcases h.2 with ⟨rfl, h0⟩ | ⟨g, cap, cur, rfl, hb, hg, hn, hm, hs, ht⟩
  · exact .inl ⟨⟨_, _, rfl⟩, List.length_eq_zero_iff.1 h0⟩
  · refine .inr ⟨g, 0, cap, rfl, by omega, fun i hi => ?_⟩
    have h1 := h.cells (g := g) rfl i (.string l[i]) (by simp [hi])
    rw [show (⟨g, 0, none⟩ : Addr).add i = ⟨g, 0 + i, none⟩ from add_lit g 0 i] at h1
    rw [h1]; simp [List.getD, List.getElem?_eq_getElem hi]

theorem reads_empty {w : World} {v : Value} (h : Reads w v []) : ∃ a c, v = .slice a 0 c := by
  rcases h with ⟨h, _⟩ | ⟨g, off, cap, rfl, _⟩
  · exact h
  · exact ⟨_, _, rfl⟩
theorem reads_some {w : World} {v : Value} {l : List ByteArray} (h : Reads w v l) (hl : l ≠ []) : ∃ g off cap, v = .slice (some ⟨g, off, none⟩) l.length cap ∧ l.length ≤ maxLen ∧ ∀ i, i < l.length → w.cell? ⟨g, off + i, none⟩ = some (.string (l.getD i ByteArray.empty)) := by
  rcases h with ⟨_, h0⟩ | h
  · exact absurd h0 hl
  · exact h
theorem reads_below {w w1 : World} {v : Value} {l : List ByteArray} (h : Reads w v l) (hb : Below w.heap.size w w1) : Reads w1 v l := by
  rcases h with h | ⟨g, off, cap, hv, hm, hc⟩
  · exact .inl h
  · exact .inr ⟨g, off, cap, hv, hm, fun i hi => (hb.cell (World.block_lt_of_cell? w _ (hc i hi))).trans (hc i hi)⟩

set_option maxHeartbeats 400000 in
theorem eq_strs (v1 v2 : Value) (l : List ByteArray) (w : World) (h1 : Reads w v1 l) (h2 : Reads w v2 l) :
    Calls Try.prog 30 #[v1, v2] w fun e w' => e = .returned (.bool true) ∧ Below w.heap.size w w' := by
  by_cases hl : l = []
  · subst hl
    obtain ⟨a1, c1, rfl⟩ := reads_empty h1
    obtain ⟨a2, c2, rfl⟩ := reads_empty h2
    clear h1 h2
    go_enter Try.func30, Try.ntmps30
    go_wp2
    go_loopw [4, 5] (fun _ i wr => i = .int .i64 0 ∧ Below w.heap.size w wr) (fun _ _ _ => 0)
    case atStart => exact ⟨rfl, Below.refl _ _⟩
    case round =>
      obtain ⟨rfl, hb⟩ := hrel
      go_wp2
      go_ret
      exact ⟨rfl, hb⟩
  · obtain ⟨g1, o1, c1, rfl, hm, hc1⟩ := reads_some h1 hl
    obtain ⟨g2, o2, c2, rfl, _, hc2⟩ := reads_some h2 hl
    clear h1 h2 hl
    generalize hn : l.length = n at *
    unfold maxLen at hm
    have C1 := Lib.hid hc1
    have C2 := Lib.hid hc2
    clear hc1 hc2 hn
    go_enter Try.func30, Try.ntmps30
    go_wp2
    go_loopw [4, 5] (fun _ i wr => ∃ k : Nat, i = .int .i64 k ∧ k ≤ n ∧ Below w.heap.size w wr) (fun _ i _ => n - (intOf i).toNat)
    case atStart => exact ⟨0, rfl, Nat.zero_le _, Below.refl _ _⟩
    case round =>
      obtain ⟨k, rfl, hk, hb⟩ := hrel
      have HB := Lib.hid hb
      clear hb
      by_cases hlt : k < n
      · have d1 : wr.cell? ⟨g1, o1 + k, none⟩ = some (.string (l.getD k ByteArray.empty)) := (HB.out.cell (World.block_lt_of_cell? w _ (C1.out k hlt))).trans (C1.out k hlt)
        have d2 : wr.cell? ⟨g2, o2 + k, none⟩ = some (.string (l.getD k ByteArray.empty)) := (HB.out.cell (World.block_lt_of_cell? w _ (C2.out k hlt))).trans (C2.out k hlt)
        have k0 : (0 : Int) ≤ k := by omega
        have k1 : (k : Int) < n := by omega
        generalize l.getD k ByteArray.empty = x at d1 d2
        go_wp2
        go_quiet (fail)
        go_wp2
        go_roundw
        case rel => exact ⟨k + 1, by go_num, by omega, below_drewN HB.out _⟩
        case measure => first | (simp [intOf]; done) | (simp [intOf]; omega)
      · go_wp2
        go_ret
        exact ⟨rfl, HB.out⟩

/-- The letters that the laws write into a slice's places. -/
def mark (k : Nat) : ByteArray := ⟨(109 :: Dec.digs k).toArray⟩

set_option maxHeartbeats 400000 in
theorem mark_text (n : Int) (w : World) (h0 : 0 < n) (h1 : n ≤ 9223372036854775807) :
    Calls Try.prog 56 #[.int .i64 n] w fun e w' => e = .returned (.string (mark n.toNat)) ∧ Below w.heap.size w w' := by
  go_enter Try.func56, Try.ntmps56
  go_wp2
  go_loopw [0, 3] (fun x o wr => ∃ (m : Int) (s : ByteArray), x = .int .i64 m ∧ 0 ≤ m ∧ m ≤ n ∧ o = .string s ∧ Below w.heap.size w wr ∧ Dec.digs n.toNat = Dec.digs m.toNat ++ s.data.toList) (fun x _ _ => (intOf x).toNat)
  case atStart => exact ⟨n, _, rfl, by omega, by omega, rfl, Below.refl _ _, by simp⟩
  case round =>
    obtain ⟨m, s, rfl, h2, h3, rfl, h4, h5⟩ := hrel
    have hsz := fmt_size (by omega) (by omega) h5
    have H5 := Lib.hid h5
    clear h5
    by_cases hm : m = 0
    · subst hm
      go_wp2
      go_ret
      exact ⟨by unfold mark; rw [H5.out]; simp only [Dec.digs_zero, Int.toNat_zero, List.nil_append]; rw [← cons_eq]; rfl, h4⟩
    · have hcv := conv_one (48 + m % 10) wr
      have hm' : 0 < m := by omega
      go_wp2
      all_goals go_roundw
      case rel => exact ⟨m / 10, _, rfl, by omega, by omega, rfl, h4.alloc h4.size _, fmt_round (by omega) H5.out⟩
      case measure => simp [intOf]; omega

/-- n places with letters from k on. -/
def marks (k n : Nat) : List ByteArray := (List.range n).map fun i => mark (k + i)
theorem marks_length (k n : Nat) : (marks k n).length = n := by simp [marks]
theorem marks_get (k n i : Nat) (h : i < n) : (marks k n).getD i ByteArray.empty = mark (k + i) := by
  simp [marks, List.getD, h]

theorem mark_at (k : Nat) (w : World) (h1 : (k : Int) ≤ 1048577) :
    Calls Try.prog 56 #[.int .i64 ((k : Int) + 1)] w fun e w' => e = .returned (.string (mark (1 + k))) ∧ Below w.heap.size w w' := by
  have h := mark_text ((k : Int) + 1) w (by omega) (by omega)
  rw [show ((k : Int) + 1).toNat = 1 + k by omega] at h
  exact h

/-- The places of a slice, the first i of them marked. -/
def partly (l : List ByteArray) (i : Nat) : List ByteArray := marks 1 i ++ l.drop i
theorem partly_length (l : List ByteArray) (i : Nat) (h : i ≤ l.length) : (partly l i).length = l.length := by
  simp [partly, marks_length]; omega
theorem marks_succ (k n : Nat) : marks k (n + 1) = marks k n ++ [mark (k + n)] := by simp [marks, List.range_succ]
theorem partly_set (l : List ByteArray) (i : Nat) (h : i < l.length) : (partly l i).set i (mark (1 + i)) = partly l (i + 1) := by
  unfold partly
  rw [marks_succ, List.set_append_right _ _ (by rw [marks_length]; exact Nat.le_refl _), marks_length, Nat.sub_self, List.drop_eq_getElem_cons h, List.append_assoc]
  rfl
theorem partly_zero (l : List ByteArray) : partly l 0 = l := by simp [partly, marks]
theorem partly_all (l : List ByteArray) : partly l l.length = marks 1 l.length := by simp [partly]

theorem owns_cell {w : World} {base g n cap : Nat} {l : List ByteArray} (hn : n = l.length) (h : Owns w base (.slice (some ⟨g, 0, none⟩) n cap) l) (i : Nat) (hi : i < n) : w.cell? ⟨g, i, none⟩ = some (.string (l.getD i ByteArray.empty)) ∧ w.frozen? ⟨g, i, none⟩ = false := by
  subst hn
  refine ⟨?_, World.ownsRow.frozenAt h i⟩
  rw [World.ownsRow.cellAt h i (by omega)]
  simp [List.getD, List.getElem?_eq_getElem hi]

theorem owns_set {w : World} {base g n cap : Nat} {l : List ByteArray} (hn : n = l.length) (h : Owns w base (.slice (some ⟨g, 0, none⟩) n cap) l) (i : Nat) (x : ByteArray) : Owns (w.setCell ⟨g, i, none⟩ (.string x)) base (.slice (some ⟨g, 0, none⟩) n cap) (l.set i x) := by
  subst hn
  have h1 := (World.ownsRow.stored h i (.string x)).1
  unfold Owns
  rw [List.length_set, List.map_set]
  exact h1

set_option maxHeartbeats 400000 in
theorem mark_strs (v : Value) (l : List ByteArray) (base : Nat) (w : World) (ho : Owns w base v l) (hbase : base ≤ w.heap.size) (hl : l.length ≤ 1048577) :
    Calls Try.prog 33 #[v, .int .i64 1] w fun e w' => e = .returned (.int .i64 (l.length + 1)) ∧ Owns w' base v (marks 1 l.length) ∧ Below base w w' := by
  rcases id ho.2 with ⟨rfl, h0⟩ | ⟨g, cap, cur, rfl, hbg, _, hnc, hm, _, _⟩
  · obtain rfl : l = [] := List.length_eq_zero_iff.1 h0
    have HO := Lib.hid ho
    clear ho h0
    go_enter Try.func33, Try.ntmps33
    go_wp2
    go_loopw [1, 5] (fun c i wr => c = .int .i64 1 ∧ i = .int .i64 0 ∧ w = wr) (fun _ _ _ => 0)
    case atStart => exact ⟨rfl, rfl, rfl⟩
    case round =>
      obtain ⟨rfl, rfl, rfl⟩ := hrel
      go_wp2
      go_ret
      exact ⟨rfl, HO.out, Below.refl _ _⟩
  · have HO := Lib.hid ho
    clear ho
    generalize hn : l.length = n at *
    have HN := Lib.hid hn
    clear hn
    unfold maxLen at hm
    go_enter Try.func33, Try.ntmps33
    go_wp2
    go_loopw [1, 5] (fun c i wr => ∃ k : Nat, c = .int .i64 (k + 1) ∧ i = .int .i64 k ∧ k ≤ n ∧ Owns wr base (.slice (some ⟨g, 0, none⟩) n cap) (partly l k) ∧ Below base w wr) (fun _ i _ => n - (intOf i).toNat)
    case atStart => exact ⟨0, rfl, rfl, Nat.zero_le _, by rw [partly_zero]; exact HO.out, Below.refl _ _⟩
    case round =>
      obtain ⟨k, rfl, rfl, hk, ho, hb⟩ := hrel
      have HP := Lib.hid ho
      have HB := Lib.hid hb
      have hbw : base ≤ wr.heap.size := Nat.le_trans hbase hb.size
      clear ho hb
      by_cases hlt : k < n
      · have HM := Lib.hid fun W => mark_at k W (by omega)
        have hpl : n = (partly l k).length := by rw [partly_length _ _ (by have := HN.out; omega)]; exact HN.out.symm
        have HL := Lib.hid hpl
        clear hpl
        go_wp2_with (go_at_call 56; refine (HM.out _).mono ?_; rintro e w1 ⟨rfl, b1⟩; have HO1 := Lib.hid (owns_below HP.out b1); have hcw := (owns_cell HL.out HO1.out k hlt).1; have hfw := (owns_cell HL.out HO1.out k hlt).2)
        go_roundw
        case rel => exact ⟨k + 1, by go_num, by go_num, by omega, by rw [← partly_set l k (by have := HN.out; omega)]; exact owns_set HL.out HO1.out k _, (HB.out.trans (b1.mono hbw)).setCell hbg _⟩
        case measure => first | (simp [intOf]; done) | (simp [intOf]; omega)
      · obtain rfl : k = n := by omega
        go_wp2
        go_ret
        exact ⟨rfl, by rw [← HN.out, ← partly_all, HN.out]; exact HP.out, HB.out⟩

set_option maxHeartbeats 400000 in
theorem held_strs (v : Value) (n : Nat) (w : World) (ho : Reads w v (marks 1 n)) (hl : n ≤ 1048577) :
    Calls Try.prog 36 #[v, .int .i64 1] w fun e w' => e = .returned (.int .i64 (n + 1)) ∧ Below w.heap.size w w' := by
  by_cases h0 : n = 0
  · subst h0
    obtain ⟨a, c, rfl⟩ := reads_empty ho
    clear ho
    go_enter Try.func36, Try.ntmps36
    go_wp2
    go_loopw [1, 4, 5] (fun c _ i wr => c = .int .i64 1 ∧ i = .int .i64 0 ∧ w = wr) (fun _ _ _ _ => 0)
    case atStart => exact ⟨rfl, rfl, rfl⟩
    case round =>
      obtain ⟨rfl, rfl, rfl⟩ := hrel
      go_wp2
      go_ret
      exact ⟨rfl, Below.refl _ _⟩
  · obtain ⟨g, off, cap, rfl, hm, hc⟩ := reads_some ho (by intro e; have := congrArg List.length e; rw [marks_length] at this; simp at this; omega)
    rw [marks_length] at hc hm ⊢
    have HC := Lib.hid hc
    clear ho hc h0
    unfold maxLen at hm
    go_enter Try.func36, Try.ntmps36
    go_wp2
    go_loopw [1, 4, 5] (fun c _ i wr => ∃ k : Nat, c = .int .i64 (k + 1) ∧ i = .int .i64 k ∧ k ≤ n ∧ Below w.heap.size w wr) (fun _ _ i _ => n - (intOf i).toNat)
    case atStart => exact ⟨0, rfl, rfl, Nat.zero_le _, Below.refl _ _⟩
    case round =>
      obtain ⟨k, rfl, rfl, hk, hb⟩ := hrel
      by_cases hlt : k < n
      · have h1 := HC.out k hlt
        rw [marks_get 1 n k hlt] at h1
        have hlg := World.block_lt_of_cell? w _ h1
        have d1 : wr.cell? ⟨g, off + k, none⟩ = some (.string (mark (1 + k))) := (hb.cell hlg).trans h1
        have hg : g < wr.heap.size := Nat.lt_of_lt_of_le hlg hb.size
        have HB := Lib.hid hb
        have k0 : (0 : Int) ≤ k := by omega
        have k1 : (k : Int) < n := by omega
        have HM := Lib.hid fun W => mark_at k W (by omega)
        clear hb h1 hlg
        go_wp2
        go_region_held3 (fun w' => w'.cell? ⟨g, off + k, none⟩ = some (.string (mark (1 + k))) ∧ Below wr.heap.size wr w')
          (first | exact ⟨d1, (Below.refl _ _).drew⟩ | exact ⟨(b1.cell hg).trans d1, (Below.refl _ _).drew.trans b1⟩ | go_keep)
          (first | (go_at_call 56; refine (HM.out _).mono ?_; rintro e w1 ⟨rfl, b1⟩))
        have hb2 := HB.out.trans (((Below.refl _ _).drew.trans b1).mono HB.out.size)
        clear b1
        go_wp2
        go_roundw
        case rel => exact ⟨k + 1, by go_num, by go_num, by omega, hb2⟩
        case measure => first | (simp [intOf]; done) | (simp [intOf]; omega)
      · obtain rfl : k = n := by omega
        go_wp2
        go_ret
        exact ⟨rfl, hb⟩
end Go.Proofs.Ytiiogpafgoeblaa
/- The laws' copy of a list of strings. No conditions. -/
namespace Go.Proofs.Ytiiogpafgoeblaa
open Go.RowKit
set_option linter.unusedVariables false

/-- The first k strings, and empty ones for the rest. -/
def filled (l : List ByteArray) (k : Nat) : List ByteArray := l.take k ++ List.replicate (l.length - k) ByteArray.empty
theorem filled_length (l : List ByteArray) (k : Nat) (h : k ≤ l.length) : (filled l k).length = l.length := by
  simp [filled]; omega
theorem filled_zero (l : List ByteArray) : filled l 0 = List.replicate l.length ByteArray.empty := by simp [filled]
theorem filled_all (l : List ByteArray) : filled l l.length = l := by simp [filled]
theorem filled_set (l : List ByteArray) (k : Nat) (h : k < l.length) : (filled l k).set k (l.getD k ByteArray.empty) = filled l (k + 1) := by
  unfold filled
  have e1 : (l.take k).length = k := by rw [List.length_take]; omega
  rw [List.set_append_right _ _ (by omega), e1, Nat.sub_self, show l.length - k = (l.length - (k + 1)) + 1 by omega, List.replicate_succ, List.set_cons_zero, List.take_succ_eq_append_getElem h, List.append_assoc]
  simp [List.getD, List.getElem?_eq_getElem h]

theorem owns_made {w1 : World} {base : Nat} {v : Value} {n : Nat} (h : w1.ownsRow base 9 1 v n (List.replicate n (.string ByteArray.empty))) : Owns w1 base v (List.replicate n ByteArray.empty) := by
  unfold Owns; rw [List.length_replicate, List.map_replicate]; exact h

set_option maxHeartbeats 400000 in
theorem to_strs (v : Value) (l : List ByteArray) (w : World) (hr : Reads w v l) (hl : l.length ≤ 1048576) :
    Calls Try.prog 22 #[v] w fun e w' => ∃ v', e = .returned v' ∧ Owns w' w.heap.size v' l ∧ Below w.heap.size w w' := by
  obtain ⟨i0, hi, hz0, hz1, hz2⟩ := info_parts info_string
  obtain ⟨w0, hmk0, hown0, hgr0⟩ := run_make_full (P := Try.prog) w w.heap.size 23 9 i0 (.string ByteArray.empty) 1 Try.underlying23 hi hz0 hz1 .i64 .i64 l.length (by rw [hz2]; omega) (max_small (by omega)) (Nat.le_refl _)
  have HO0 := Lib.hid (owns_made (by rw [show (madeCells (Value.string ByteArray.empty).cells (l.length * 1)).toList = List.replicate (l.length * 1) (.string ByteArray.empty) from toList_madeCells_one _ _, Nat.mul_one] at hown0; exact hown0))
  have HB0 := Lib.hid (show Below w.heap.size w w0 from (Below.refl _ _).grown hgr0 (Nat.le_refl _) (fun k hk => by cases hk))
  clear hown0 hgr0
  by_cases hl0 : l = []
  · subst hl0
    obtain ⟨a, c, rfl⟩ := reads_empty hr
    clear hr
    have hmk1 : (Instr.makeSlice 23 (.int .i64 0) (.int .i64 0)).run Try.prog w = .ok (.slice (some ⟨w.heap.size, 0, none⟩) 0 0) w0 := hmk0
    go_enter Try.func22, Try.ntmps22
    go_wp2
    go_loopw [4] (fun i wr => i = .int .i64 0 ∧ wr = w0) (fun _ _ => 0)
    case atStart => exact ⟨rfl, rfl⟩
    case round =>
      obtain ⟨rfl, rfl⟩ := hrel
      go_wp2
      go_ret
      exact ⟨_, rfl, HO0.out, HB0.out⟩
  · obtain ⟨g, off, cap, rfl, hm, hc⟩ := reads_some hr hl0
    have HC := Lib.hid hc
    clear hr hl0 hc hm
    generalize hn : l.length = n at *
    have HN := Lib.hid hn
    clear hn
    go_enter Try.func22, Try.ntmps22
    go_wp2
    clear hmk0
    go_loopw [4] (fun i wr => ∃ k : Nat, i = .int .i64 k ∧ k ≤ n ∧ Owns wr w.heap.size (.slice (some ⟨w.heap.size, 0, none⟩) n n) (filled l k) ∧ Below w.heap.size w wr) (fun i _ => n - (intOf i).toNat)
    case atStart => exact ⟨0, rfl, Nat.zero_le _, by rw [filled_zero, HN.out]; exact HO0.out, HB0.out⟩
    case round =>
      obtain ⟨k, rfl, hk, ho, hb⟩ := hrel
      have HO := Lib.hid ho
      have HB := Lib.hid hb
      have hsz := hb.size
      clear ho hb
      by_cases hlt : k < n
      · have hcell := HC.out k hlt
        have hlg := World.block_lt_of_cell? w _ hcell
        have d1 : wr.cell? ⟨g, off + k, none⟩ = some (.string (l.getD k ByteArray.empty)) := (HB.out.cell hlg).trans hcell
        have HL := Lib.hid (show n = (filled l k).length by rw [filled_length _ _ (by have := HN.out; omega)]; exact HN.out.symm)
        have d2 := (owns_cell HL.out HO.out k hlt).1
        have f2 := (owns_cell HL.out HO.out k hlt).2
        clear hcell
        generalize hx : l.getD k ByteArray.empty = x at d1
        have HX := Lib.hid hx
        clear hx
        go_wp2
        go_roundw
        case rel => exact ⟨k + 1, by go_num, by omega, by rw [← filled_set l k (by have := HN.out; omega), HX.out]; exact owns_set HL.out HO.out k x, HB.out.setCell (Nat.le_refl _) _⟩
        case measure => first | (simp [intOf]; done) | (simp [intOf]; omega)
      · obtain rfl : k = n := by omega
        go_wp2
        go_ret
        exact ⟨_, rfl, by have h := HO.out; rw [← HN.out, filled_all] at h; rw [← HN.out]; exact h, HB.out⟩

end Go.Proofs.Ytiiogpafgoeblaa
