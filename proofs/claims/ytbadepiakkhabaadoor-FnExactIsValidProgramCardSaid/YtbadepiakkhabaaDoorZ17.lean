/- Joined texts: N25, W1, W2, W6, W8, N29. No conditions besides those that each states. -/
import Derived.Test.YtbadepiakkhabaaDoorProg
import Derived.WalkKit
import Derived.ProofKit
import Derived.WalkLawsBesides
import Derived.WalkSpells
import Derived.Lib.Hide
import Derived.Laws.BytesArg
import Derived.Deep.QuietTactic
import Derived.BigQuiet
import Derived.Deep.RegionHeld3
import Derived.Test.YtbadepiakkhabaaDoorZ1
import Derived.Test.YtbadepiakkhabaaDoorZ5
import Derived.Test.YtbadepiakkhabaaDoorZ16
/- EraseLines of the program: its body, its end. No conditions. -/
namespace Go.Proofs.YtbadepiakkhabaaDoor
open Go.RowKit Go.Shelf
set_option linter.unusedVariables false
attribute [local go_sem] Oper.semAt_some

theorem rowV_upd {p : El} {v : Value} {F : List Nat} : ∀ (l : List El) (i : Nat), l[i]? = some p → (((rowV l).set (i * 5 + 3) (.int .i64 0)).set (i * 5 + 1) (.string p.1.text)).set (i * 5 + 4) v = rowV (l.set i (p.1.erase, v, F)) := by
  intro l
  induction l with
  | nil => intro i h; simp at h
  | cons q r ih =>
    intro i h
    match i with
    | 0 =>
      obtain rfl : q = p := Option.some.inj h
      rw [show (q :: r).set 0 (q.1.erase, v, F) = (q.1.erase, v, F) :: r from rfl, rowV_cons, rowV_cons]
      show _ = Value.int .i64 q.1.erase.kind :: Value.string q.1.erase.text :: Value.int .i64 q.1.erase.num :: Value.int .i64 q.1.erase.line :: v :: rowV r
      rw [Ex.erase_kind, Ex.erase_text, Ex.erase_num, Ex.erase_line]
      rfl
    | i + 1 =>
      have h2 := ih i h
      rw [show (q :: r).set (i + 1) (p.1.erase, v, F) = q :: r.set i (p.1.erase, v, F) from rfl, rowV_cons, rowV_cons, ← h2, show (i + 1) * 5 = i * 5 + 5 by omega]
      rfl
theorem row_free {w : World} {g cap i : Nat} {l : List El} {p : El} (h : RowE w g l.length cap (rowV l)) (hp : l[i]? = some p) : (w.cell? ⟨g, i * 5 + 1, none⟩ = some (.string p.1.text) ∧ w.cell? ⟨g, i * 5 + 4, none⟩ = some p.2.1 ∧ ∃ u, w.cell? ⟨g, i * 5 + 3, none⟩ = some u) ∧ w.frozen? ⟨g, i * 5 + 1, none⟩ = false ∧ w.frozen? ⟨g, i * 5 + 3, none⟩ = false ∧ w.frozen? ⟨g, i * 5 + 4, none⟩ = false := by
  obtain ⟨hi, rfl⟩ := List.getElem?_eq_some_iff.1 hp
  have h2 := RowCells.node (rowE_cells rfl h) i hi
  rw [Nat.zero_add] at h2
  have hlt : i * 5 + 4 < l.length * 5 := by omega
  exact ⟨⟨h2.1.2.1, h2.2, _, h2.1.2.2.2⟩, (h.cell _ (by omega)).2, (h.cell _ (by omega)).2, (h.cell _ (by omega)).2⟩
theorem ShalK.mono {B B' : Nat} {w : World} {v : Value} {l : List El} (h : ShalK B w v l) (hB : B' ≤ B) : ShalK B' w v l := by
  rcases h with h | ⟨h0, g, c, e, hg, hr⟩
  · exact .inl h
  · exact .inr ⟨h0, g, c, e, Nat.le_trans hB hg, hr⟩
theorem ShalK.set {B g : Nat} {w : World} {v : Value} {l : List El} (h : ShalK B w v l) (hg : g < B) (o : Nat) (u : Value) : ShalK B (w.setCell ⟨g, o, none⟩ u) v l :=
  h.keep fun b hb => Below.heap_setCell w ⟨g, o, none⟩ u b (show b ≠ g by omega)
theorem root_row (W : World) (t : Ex.T) (v : Value) : RowE (W.alloc (.cells #[.int .i64 t.kind, .string t.text, .int .i64 t.num, .int .i64 t.line, v] 105)) W.heap.size 1 1 (rowV [(t, v, [])]) :=
  ⟨rfl, .inr ⟨W.heap.size, 1, _, rfl, Nat.zero_le _, World.alloc_heap_new W _, Nat.le_refl _, by unfold maxLen; omega, rfl, rfl⟩⟩
/-- What a round leaves, step by step. -/
theorem xrel_of {x : XN} {W W2 W4 : World} {v : Value} {w0 : World} {L : Nat} (hp : XPre w0 L x W) (h2 : Below (W.setCell ⟨x.g, x.i * 5 + 3, none⟩ (.int .i64 0)).heap.size (W.setCell ⟨x.g, x.i * 5 + 3, none⟩ (.int .i64 0)) W2)
    (h4 : Below (W2.setCell ⟨x.g, x.i * 5 + 1, none⟩ (.string x.p.1.text)).heap.size (W2.setCell ⟨x.g, x.i * 5 + 1, none⟩ (.string x.p.1.text)) W4) (hs : ShalK (W2.setCell ⟨x.g, x.i * 5 + 1, none⟩ (.string x.p.1.text)).heap.size W4 v x.lk) : XRel x W (W4.setCell ⟨x.g, x.i * 5 + 4, none⟩ v) := by
  have hz : ∀ (A : World) (o : Nat) (u : Value), (A.setCell ⟨x.g, o, none⟩ u).heap.size = A.heap.size := fun A o u => by simp [World.setCell]
  have hr := hp.1.2
  have hlt := hr.lt
  have r1 := hr.set (x.i * 5 + 3) (.int .i64 0)
  have r2 := r1.keep (h2.block x.g (by rw [hz]; exact hlt))
  have hsz := h2.size
  rw [hz] at hsz
  have r3 := r2.set (x.i * 5 + 1) (.string x.p.1.text)
  have r4 := r3.keep (h4.block x.g (by rw [hz]; omega))
  have r5 := r4.set (x.i * 5 + 4) v
  rw [rowV_upd (F := []) _ _ hp.1.1] at r5
  refine ⟨v, r5, ((((Oth.refl x.g W).set _ _).later h2).set _ _ |>.later h4).set _ _, ?_⟩
  rw [hz] at hs
  exact (hs.set (show x.g < W2.heap.size by omega) _ _).mono hsz
theorem nodes_erase (F : Fence) (hd : F.depth = none) (h1 : F.fn 115) (h2 : F.fn 116) (hro : F.round = none) (w0 : World) (L : Nat) (ob : Obj) (hob : ob.isCells = false)
    (hY : ∀ m (x : XN) (W : World), XPre w0 L x W → W.heap[L]? = some ob → YieldAt F m Tryd.prog L (xnV x) W fun e W' => e = .returned (.bool true) ∧ XRel x W W')
    (n C Bt : Nat) (t : Ex.T) (v : Value) (W : World) (hb : t.bulk ≤ 1048576) (hrow : RowE W C 1 1 (rowV [(t, v, [])])) (hC : w0.heap.size ≤ C) (hCL : C ≠ L) (hW : Below w0.heap.size w0 W) (hL : W.heap[L]? = some ob) (hk : Kids w0 v t.kids) (hBt : W.cell? ⟨Bt, 0, none⟩ = some (.pointer (some ⟨C, 0, none⟩))) :
    CallsIn F n Tryd.prog 115 #[.func (.yield L) #[] #[], .pointer (some ⟨Bt, 0, none⟩)] W fun e W' => (∃ v, e = .returned v) ∧ EraseAt C 0 1 [(t, v, [])] t W W' := by
  have hdk : ∀ k : Nat, (F.depth.isSome = true → 1 ≤ k) := fun k h => by rw [hd] at h; cases h
  have hds := small_deep hb
  have hp := erase_visit F hd h2 hro w0 L ob hob hY t.count t (Nat.le_refl _) (n - 1) C 0 1 1 [(t, v, [])] W (t, v, []) rfl rfl hb (by omega) hrow hC hCL hW hL hk
  rw [Nat.zero_mul] at hp
  refine callsIn_of_wp Tryd.func115 rfl h1 ?_ hro
  simp only [Tryd.ntmps115, List.size_toArray, List.length_cons, List.length_nil, Nat.reduceAdd, Nat.reduceSub, Array.replicate_succ, Array.replicate_zero, List.push_toArray, List.append_toArray, List.nil_append, List.cons_append]
  clear hY
  gi_wp2
  refine hp.mono ?_
  clear hp
  rintro e W1 ⟨rfl, he⟩
  gi_wp2
  go_end0
  exact ⟨⟨_, rfl⟩, he⟩
end Go.Proofs.YtbadepiakkhabaaDoor
/- The reference model's FormatInt returns the decimal form, at every integer. No conditions. -/
namespace Go.Proofs.YtbadepiakkhabaaDoor
open Go.RowKit

theorem ret_pair {a c : Int} {b d : Bool} (h1 : a = c) (h2 : b = d) : Ending.returned (.tuple #[.int .i64 a, .bool b]) = .returned (.tuple #[.int .i64 c, .bool d]) := by rw [h1, h2]
theorem ret_val {a c : Int} (h1 : a = c) : Value.int .i64 a = .int .i64 c := by rw [h1]

/-- A block of one byte, made into a string. -/
theorem conv_one (x : Int) (w : World) : (convert 47 9 (.slice (some ⟨w.heap.size, 0, none⟩) 1 1)).run Tryd.prog (w.alloc (.cells #[.int .u8 x] 5)) = .ok (.string ⟨#[UInt8.ofNat x.toNat]⟩) (w.alloc (.cells #[.int .u8 x] 5)) := by
  have h := run_convert_bytes_arg (P := Tryd.prog) (w.alloc (.cells #[.int .u8 x] 5)) 47 5 Tryd.underlying47 Tryd.underlying5 w.heap.size 0 1 1 [x] rfl
    (fun i hi => by
      obtain rfl : i = 0 := by omega
      exact cell_one_new w (.int .u8 x) 5 0 (.int .u8 x) rfl) 9 Tryd.underlying9
  simpa [strOfNums] using h

theorem string_eq {s : ByteArray} {l : List UInt8} (h : s.data.toList = l) : s = ⟨l.toArray⟩ := by
  subst h; cases s; simp

theorem size_eq (s : ByteArray) : s.size = s.data.toList.length := rfl

/-- One round's fact. -/
theorem fmt_round {n m : Int} {s : ByteArray} (hm : 0 < m) (h : Dec.digs n.toNat = Dec.digs m.toNat ++ s.data.toList) :
    Dec.digs n.toNat = Dec.digs (m / 10).toNat ++ (({ data := #[UInt8.ofNat (48 + m % 10).toNat] } : ByteArray) ++ s).data.toList := by
  rw [h, Dec.digs_pos (by omega), Dec.dg_byte m (by omega), show m.toNat / 10 = (m / 10).toNat by omega]
  simp [ByteArray.data_append]

theorem fmt_size {n m : Int} {s : ByteArray} (h0 : 0 ≤ n) (h1 : n ≤ 9223372036854775808) (h : Dec.digs n.toNat = Dec.digs m.toNat ++ s.data.toList) : s.size ≤ 20 := by
  have h2 := congrArg List.length h
  have h3 := Dec.digs_lt 20 n.toNat (Nat.lt_of_le_of_lt (show n.toNat ≤ 9223372036854775808 by omega) (by decide))
  rw [List.length_append, ← size_eq] at h2; omega

theorem cons_eq (b : UInt8) (s : ByteArray) : ({ data := #[b] } : ByteArray) ++ s = ⟨(b :: s.data.toList).toArray⟩ :=
  string_eq (by simp [ByteArray.data_append])

theorem quo_neg (m : Int) (h0 : 0 ≤ m) (h1 : m ≤ 9223372036854775808) : wrap64 (-m.tdiv 10) = -(m / 10) := by
  rw [Int.tdiv_eq_ediv_of_nonneg h0]
  unfold wrap64; omega

end Go.Proofs.YtbadepiakkhabaaDoor
/- The program's FormatInt returns the decimal form, at every integer. No conditions. -/
namespace Go.Proofs.YtbadepiakkhabaaDoor
open Go.RowKit

/-- The block B holds the letters l at its end, from place at on. -/
def Holds (w : World) (B at_ : Nat) (l : List UInt8) : Prop :=
  (∀ j, j < 20 → ∃ v, w.cell? ⟨B, j, none⟩ = some v) ∧ (∀ j, w.frozen? ⟨B, j, none⟩ = false) ∧ (∀ j (h : j < l.length), w.cell? ⟨B, at_ + j, none⟩ = some (.int .u8 (l[j].toNat : Int)))

theorem holds_start (w : World) (C : Array Value) (t : TypeId) (hC : C.size = 20) : Holds (w.alloc (.cells C t)) w.heap.size 20 [] := by
  refine ⟨fun j hj => ⟨C[j]'(by omega), ?_⟩, fun j => ?_, fun j h => by simp at h⟩
  · rw [World.cell?_alloc_mark]; exact Array.getElem?_eq_getElem _
  · rw [World.frozen?_alloc_mark]; simp

theorem holds_next {w : World} {B p : Nat} {l : List UInt8} (h : Holds w B (p + 1) l) (hp : p < 20) (b : UInt8) (v : Value) (hv : v = .int .u8 (b.toNat : Int)) : Holds (w.setCell ⟨B, p, none⟩ v) B p (b :: l) := by
  subst hv
  obtain ⟨h1, h2, h3⟩ := h
  have hset : ∀ j, j ≠ p → (w.setCell ⟨B, p, none⟩ (.int .u8 (b.toNat : Int))).cell? ⟨B, j, none⟩ = w.cell? ⟨B, j, none⟩ := fun j hj => by
    go_simp
  refine ⟨fun j hj => ?_, fun j => by rw [World.frozen?_setCell]; exact h2 j, fun j hj => ?_⟩
  · obtain ⟨u, hu⟩ := h1 j hj
    by_cases e : j = p
    · subst e; exact ⟨_, by go_simp; exact rfl⟩
    · exact ⟨u, by rw [hset j e]; exact hu⟩
  · obtain ⟨u, hu⟩ := h1 p hp
    cases j with
    | zero => simp; go_simp
    | succ j => rw [hset _ (by omega), show p + (j + 1) = p + 1 + j by omega]; simpa using h3 j (by simpa using hj)

/-- And those letters as a string. -/
theorem conv_at {w : World} {B p : Nat} {l : List UInt8} (h : Holds w B p l) (n : Nat) (hn : n = l.length) : (convert 47 9 (.slice (some ⟨B, p, none⟩) n n)).run Tryd.prog w = .ok (.string ⟨l.toArray⟩) w := by
  subst hn
  exact run_convert_bytes_back w 47 9 5 ⟨B, p, none⟩ _ l Tryd.underlying47 Tryd.underlying5 Tryd.underlying9 (fun j hj => by
    rw [show (⟨B, p, none⟩ : Addr).add j = ⟨B, p + j, none⟩ from by simp [Addr.add]]
    exact h.2.2 j hj)

theorem neg_size (n : Nat) (h1 : (n : Int) ≤ 9223372036854775808) : IntKind.u64.wrap (-IntKind.u64.wrap (-(n : Int))) = n := by
  simp only [IntKind.wrap, IntKind.signed, IntKind.bits]
  simp
  omega

end Go.Proofs.YtbadepiakkhabaaDoor
/- The reference model's SplitByte returns the parts of a string, in memory of its own. -/
namespace Go.Proofs.YtbadepiakkhabaaDoor
open Go.RowKit
set_option linter.unusedVariables false

theorem info_string : (Tryd.prog.info? 9).map (fun i => (i.zero, i.size, i.bytes)) = some (some (.string ByteArray.empty), 1, 16) := by kernel_rfl

/-- Strings of the call's own: a slice whose elements are l, in a block from base on. -/
def Owns (w : World) (base : Nat) (v : Value) (l : List ByteArray) : Prop := w.ownsRow base 9 1 v l.length (l.map Value.string)

theorem map_snoc (l : List ByteArray) (x : ByteArray) : (l ++ [x]).map Value.string = l.map Value.string ++ [Value.string x] := by simp

theorem owns_app {w1 : World} {base : Nat} {v' : Value} {l : List ByteArray} {x : ByteArray} (h : w1.ownsRow base 9 1 v' (l.length + 1) (l.map Value.string ++ [Value.string x])) : Owns w1 base v' (l ++ [x]) := by
  unfold Owns; rw [map_snoc, List.length_append]; exact h

theorem below_app {w wr w1 : World} {v : Value} {l : List ByteArray} {o : Obj} (hb : Below w.heap.size w wr) (hown : Owns wr w.heap.size v l) (hg : (wr.alloc o).grownBy w1 v.ownBlock) : Below w.heap.size w w1 :=
  (hb.alloc hb.size o).grown hg (by have := hb.size; simp; omega) (fun k hk => (hown.lt k hk).1)

theorem owns_below {w w1 : World} {base : Nat} {v : Value} {l : List ByteArray} (h : Owns w base v l) (hb : Below w.heap.size w w1) : Owns w1 base v l := by
  refine ⟨h.1, ?_⟩
  rcases h.2 with hn | ⟨g, cap, cur, hv, hg, hgg, r⟩
  · exact .inl hn
  · exact .inr ⟨g, cap, cur, hv, hg, by rw [hb.block g (Array.getElem?_eq_some_iff.1 hgg).1]; exact hgg, r⟩

theorem new_cell (w : World) (x : Value) (t : TypeId) : ∀ (j : Nat) (u : Value), [x][j]? = some u → (w.alloc (.cells #[x] t)).cell? ((⟨w.heap.size, 0, none⟩ : Addr).add j) = some u := by
  intro j u hj
  match j, hj with
  | 0, hj => simp at hj; subst hj; simp [Addr.add]

theorem one_string (x : ByteArray) : ∀ u ∈ [Value.string x], u.oneCell' = true := by
  intro u hu; simp at hu; subst hu; rfl

theorem max_small {n : Nat} (h : n ≤ 1048577) : n ≤ maxLen := by unfold maxLen; omega

end Go.Proofs.YtbadepiakkhabaaDoor
/- The laws' own helpers over slices of strings: comparing them, and comparing them again after a draw. No conditions. -/
namespace Go.Proofs.YtbadepiakkhabaaDoor
open Go.RowKit
set_option linter.unusedVariables false

/-- A slice of strings that can be read. -/
def Reads (w : World) (v : Value) (l : List ByteArray) : Prop :=
  ((∃ a c, v = .slice a 0 c) ∧ l = []) ∨ ∃ g off cap, v = .slice (some ⟨g, off, none⟩) l.length cap ∧ l.length ≤ maxLen ∧ ∀ i, i < l.length → w.cell? ⟨g, off + i, none⟩ = some (.string (l.getD i ByteArray.empty))

theorem add_lit (g o i : Nat) : (⟨g, o, none⟩ : Addr).add i = ⟨g, o + i, none⟩ := by
  unfold Addr.add; split <;> simp_all

theorem reads_of_owns {w : World} {base : Nat} {v : Value} {l : List ByteArray} (h : Owns w base v l) : Reads w v l := by
  rcases h.2 with ⟨rfl, h0⟩ | ⟨g, cap, cur, rfl, hb, hg, hn, hm, hs, ht⟩
  · exact .inl ⟨⟨_, _, rfl⟩, List.length_eq_zero_iff.1 h0⟩
  · refine .inr ⟨g, 0, cap, rfl, by omega, fun i hi => ?_⟩
    have h1 := h.cells (g := g) rfl i (.string l[i]) (by simp [hi])
    rw [show (⟨g, 0, none⟩ : Addr).add i = ⟨g, 0 + i, none⟩ from add_lit g 0 i] at h1
    rw [h1]; simp [List.getD, List.getElem?_eq_getElem hi]

theorem reads_empty {w : World} {v : Value} (h : Reads w v []) : ∃ a c, v = .slice a 0 c := by
  rcases h with ⟨h, _⟩ | ⟨g, off, cap, rfl, _⟩
  · exact h
  · exact ⟨_, _, rfl⟩
theorem reads_some {w : World} {v : Value} {l : List ByteArray} (h : Reads w v l) (hl : l ≠ []) : ∃ g off cap, v = .slice (some ⟨g, off, none⟩) l.length cap ∧ l.length ≤ maxLen ∧ ∀ i, i < l.length → w.cell? ⟨g, off + i, none⟩ = some (.string (l.getD i ByteArray.empty)) := by
  rcases h with ⟨_, h0⟩ | h
  · exact absurd h0 hl
  · exact h
theorem reads_below {w w1 : World} {v : Value} {l : List ByteArray} (h : Reads w v l) (hb : Below w.heap.size w w1) : Reads w1 v l := by
  rcases h with h | ⟨g, off, cap, hv, hm, hc⟩
  · exact .inl h
  · exact .inr ⟨g, off, cap, hv, hm, fun i hi => (hb.cell (World.block_lt_of_cell? w _ (hc i hi))).trans (hc i hi)⟩

set_option maxHeartbeats 400000 in
theorem eq_strs (v1 v2 : Value) (l : List ByteArray) (w : World) (h1 : Reads w v1 l) (h2 : Reads w v2 l) :
    Calls Tryd.prog 39 #[v1, v2] w fun e w' => e = .returned (.bool true) ∧ Below w.heap.size w w' := by
  by_cases hl : l = []
  · subst hl
    obtain ⟨a1, c1, rfl⟩ := reads_empty h1
    obtain ⟨a2, c2, rfl⟩ := reads_empty h2
    clear h1 h2
    go_enter Tryd.func39, Tryd.ntmps39
    go_wp2
    go_loopw [4, 5] (fun _ i wr => i = .int .i64 0 ∧ Below w.heap.size w wr) (fun _ _ _ => 0)
    case atStart => exact ⟨rfl, Below.refl _ _⟩
    case round =>
      obtain ⟨rfl, hb⟩ := hrel
      go_wp2
      go_ret
      exact ⟨rfl, hb⟩
  · obtain ⟨g1, o1, c1, rfl, hm, hc1⟩ := reads_some h1 hl
    obtain ⟨g2, o2, c2, rfl, _, hc2⟩ := reads_some h2 hl
    clear h1 h2 hl
    generalize hn : l.length = n at *
    unfold maxLen at hm
    have C1 := Lib.hid hc1
    have C2 := Lib.hid hc2
    clear hc1 hc2 hn
    go_enter Tryd.func39, Tryd.ntmps39
    go_wp2
    go_loopw [4, 5] (fun _ i wr => ∃ k : Nat, i = .int .i64 k ∧ k ≤ n ∧ Below w.heap.size w wr) (fun _ i _ => n - (intOf i).toNat)
    case atStart => exact ⟨0, rfl, Nat.zero_le _, Below.refl _ _⟩
    case round =>
      obtain ⟨k, rfl, hk, hb⟩ := hrel
      have HB := Lib.hid hb
      clear hb
      by_cases hlt : k < n
      · have d1 : wr.cell? ⟨g1, o1 + k, none⟩ = some (.string (l.getD k ByteArray.empty)) := (HB.out.cell (World.block_lt_of_cell? w _ (C1.out k hlt))).trans (C1.out k hlt)
        have d2 : wr.cell? ⟨g2, o2 + k, none⟩ = some (.string (l.getD k ByteArray.empty)) := (HB.out.cell (World.block_lt_of_cell? w _ (C2.out k hlt))).trans (C2.out k hlt)
        have k0 : (0 : Int) ≤ k := by omega
        have k1 : (k : Int) < n := by omega
        generalize l.getD k ByteArray.empty = x at d1 d2
        go_wp2
        go_quiet (fail)
        go_wp2
        go_roundw
        case rel => exact ⟨k + 1, by go_num, by omega, below_drewN HB.out _⟩
        case measure => first | (simp [intOf]; done) | (simp [intOf]; omega)
      · go_wp2
        go_ret
        exact ⟨rfl, HB.out⟩

/-- The letters that the laws write into a slice's places. -/
def mark (k : Nat) : ByteArray := ⟨(109 :: Dec.digs k).toArray⟩

/-- n places with letters from k on. -/
def marks (k n : Nat) : List ByteArray := (List.range n).map fun i => mark (k + i)
theorem marks_length (k n : Nat) : (marks k n).length = n := by simp [marks]
theorem marks_get (k n i : Nat) (h : i < n) : (marks k n).getD i ByteArray.empty = mark (k + i) := by
  simp [marks, List.getD, h]

/-- The places of a slice, the first i of them marked. -/
def partly (l : List ByteArray) (i : Nat) : List ByteArray := marks 1 i ++ l.drop i
theorem partly_length (l : List ByteArray) (i : Nat) (h : i ≤ l.length) : (partly l i).length = l.length := by
  simp [partly, marks_length]; omega
theorem marks_succ (k n : Nat) : marks k (n + 1) = marks k n ++ [mark (k + n)] := by simp [marks, List.range_succ]
theorem partly_set (l : List ByteArray) (i : Nat) (h : i < l.length) : (partly l i).set i (mark (1 + i)) = partly l (i + 1) := by
  unfold partly
  rw [marks_succ, List.set_append_right _ _ (by rw [marks_length]; exact Nat.le_refl _), marks_length, Nat.sub_self, List.drop_eq_getElem_cons h, List.append_assoc]
  rfl
theorem partly_zero (l : List ByteArray) : partly l 0 = l := by simp [partly, marks]
theorem partly_all (l : List ByteArray) : partly l l.length = marks 1 l.length := by simp [partly]

theorem owns_cell {w : World} {base g n cap : Nat} {l : List ByteArray} (hn : n = l.length) (h : Owns w base (.slice (some ⟨g, 0, none⟩) n cap) l) (i : Nat) (hi : i < n) : w.cell? ⟨g, i, none⟩ = some (.string (l.getD i ByteArray.empty)) ∧ w.frozen? ⟨g, i, none⟩ = false := by
  subst hn
  refine ⟨?_, World.ownsRow.frozenAt h i⟩
  rw [World.ownsRow.cellAt h i (by omega)]
  simp [List.getD, List.getElem?_eq_getElem hi]

theorem owns_set {w : World} {base g n cap : Nat} {l : List ByteArray} (hn : n = l.length) (h : Owns w base (.slice (some ⟨g, 0, none⟩) n cap) l) (i : Nat) (x : ByteArray) : Owns (w.setCell ⟨g, i, none⟩ (.string x)) base (.slice (some ⟨g, 0, none⟩) n cap) (l.set i x) := by
  subst hn
  have h1 := (World.ownsRow.stored h i (.string x)).1
  unfold Owns
  rw [List.length_set, List.map_set]
  exact h1

end Go.Proofs.YtbadepiakkhabaaDoor
/- What the laws write into a list of trees. No conditions. -/
namespace Go.Proofs.YtbadepiakkhabaaDoor
open Go.RowKit
set_option linter.unusedVariables false

mutual
/-- The tree that the laws write, from the letter k on. -/
def Ex.T.mrk : Ex.T → Nat → Ex.T
  | .node _ _ _ _ ks, k => .node (k : Int) (mark (k + 1)) ((k : Int) + 1 + 1) ((k : Int) + 1 + 1 + 1) (Ex.mrks ks (k + 4))
def Ex.mrks : List Ex.T → Nat → List Ex.T
  | [], _ => []
  | x :: r, k => x.mrk k :: Ex.mrks r (k + 4 * x.count)
end
theorem Ex.mrk_eq (t : Ex.T) (k : Nat) : t.mrk k = .node (k : Int) (mark (k + 1)) ((k : Int) + 1 + 1) ((k : Int) + 1 + 1 + 1) (Ex.mrks t.kids (k + 4)) := by cases t; rw [Ex.T.mrk]; rfl
theorem Ex.mrks_len : ∀ (l : List Ex.T) (k : Nat), (Ex.mrks l k).length = l.length := by
  intro l
  induction l with
  | nil => intro k; rw [Ex.mrks]
  | cons x r ih => intro k; rw [Ex.mrks, List.length_cons, ih, List.length_cons]
theorem Ex.mrks_snoc : ∀ (l : List Ex.T) (x : Ex.T) (k : Nat), Ex.mrks (l ++ [x]) k = Ex.mrks l k ++ [x.mrk (k + 4 * Ex.counts l)] := by
  intro l
  induction l with
  | nil => intro x k; simp [Ex.mrks, Ex.counts]
  | cons y r ih => intro x k; rw [List.cons_append, Ex.mrks, ih, Ex.mrks, Ex.counts, List.cons_append, show k + 4 * y.count + 4 * Ex.counts r = k + 4 * (y.count + Ex.counts r) by omega]
theorem Ex.mrks_get : ∀ (l : List Ex.T) (k i : Nat) (h : i < l.length), (Ex.mrks l k)[i]? = some (l[i].mrk (k + 4 * Ex.counts (l.take i))) := by
  intro l
  induction l with
  | nil => intro k i h; simp at h
  | cons y r ih =>
    intro k i h
    rw [Ex.mrks]
    match i with
    | 0 => simp [Ex.counts]
    | i + 1 =>
      have h2 := ih (k + 4 * y.count) i (by simpa using h)
      rw [List.getElem?_cons_succ, h2, List.take_succ_cons, Ex.counts, show k + 4 * y.count + 4 * Ex.counts (List.take i r) = k + 4 * (y.count + Ex.counts (List.take i r)) by omega]
      rfl
/-- Nothing that lay is turned but the blocks F. -/
def OnlyF (F : List Nat) (w w' : World) : Prop := Below 0 w w' ∧ ∀ b, b ∉ F → b < w.heap.size → w'.heap[b]? = w.heap[b]?
theorem OnlyF.refl (F : List Nat) (w : World) : OnlyF F w w := ⟨Below.refl _ _, fun _ _ _ => rfl⟩
theorem OnlyF.trans {F G : List Nat} {A B C : World} (h : OnlyF F A B) (k : OnlyF G B C) (hG : ∀ b ∈ G, b ∈ F) : OnlyF F A C :=
  ⟨h.1.trans k.1, fun b h1 h2 => (k.2 b (fun e => h1 (hG b e)) (Nat.lt_of_lt_of_le h2 h.1.size)).trans (h.2 b h1 h2)⟩
theorem OnlyF.later {F : List Nat} {A B C : World} (h : OnlyF F A B) (k : Below B.heap.size B C) : OnlyF F A C :=
  ⟨h.1.trans (k.mono (Nat.zero_le _)), fun b h1 h2 => (k.block b (Nat.lt_of_lt_of_le h2 h.1.size)).trans (h.2 b h1 h2)⟩
theorem OnlyF.set {F : List Nat} {A B : World} {g : Nat} (h : OnlyF F A B) (hg : g ∈ F) (o : Nat) (u : Value) : OnlyF F A (B.setCell ⟨g, o, none⟩ u) :=
  ⟨h.1.setCell (p := ⟨g, o, none⟩) (Nat.zero_le _) u, fun b h1 h2 => (Below.heap_setCell B ⟨g, o, none⟩ u b (fun e => h1 (e ▸ hg))).trans (h.2 b h1 h2)⟩
theorem OnlyF.below {F : List Nat} {A B : World} {m : Nat} (h : OnlyF F A B) (hF : ∀ b ∈ F, m ≤ b) (hm : m ≤ A.heap.size) : Below m A B :=
  ⟨h.1.os, h.1.tape, h.1.output, h.1.size, fun b hb => h.2 b (fun e => by have := hF b e; omega) (by omega)⟩
theorem rowV_mark {p : El} {k n l : Int} {s : ByteArray} {ks : List Ex.T} : ∀ (le : List El) (i : Nat), le[i]? = some p → ((((rowV le).set (i * 5) (.int .i64 k)).set (i * 5 + 1) (.string s)).set (i * 5 + 2) (.int .i64 n)).set (i * 5 + 3) (.int .i64 l) = rowV (le.set i (.node k s n l ks, p.2)) := by
  intro le
  induction le with
  | nil => intro i h; simp at h
  | cons q r ih =>
    intro i h
    match i with
    | 0 =>
      obtain rfl : q = p := Option.some.inj h
      rw [show (q :: r).set 0 (.node k s n l ks, q.2) = (.node k s n l ks, q.2) :: r from rfl, rowV_cons, rowV_cons]
      rfl
    | i + 1 =>
      have h2 := ih i h
      rw [show (q :: r).set (i + 1) (.node k s n l ks, p.2) = q :: r.set i (.node k s n l ks, p.2) from rfl, rowV_cons, rowV_cons, ← h2, show (i + 1) * 5 = i * 5 + 5 by omega]
      rfl
/-- Where the writing of a list stands. -/
def MkAt (w : World) (g c : Nat) (l : List El) (ks : List Ex.T) (k0 i : Nat) (wr : World) : Prop := ∃ le : List El, le.map Prod.snd = l.map Prod.snd ∧ le.map Prod.fst = Ex.mrks (ks.take i) k0 ++ ks.drop i ∧ RowE wr g ks.length c (rowV le) ∧ Els wr le ∧ OnlyF (g :: elsF l) w wr
theorem elsF_snd {l m : List El} (h : l.map Prod.snd = m.map Prod.snd) : elsF l = elsF m := by
  have e : ∀ l : List El, elsF l = (l.map Prod.snd).flatMap Prod.snd := fun l => by simp [elsF, List.flatMap_map]
  rw [e, e, h]
theorem MkAt.start {w : World} {g c k0 : Nat} {l : List El} {ks : List Ex.T} (hl : l.map Prod.fst = ks) (hr : RowE w g ks.length c (rowV l)) (he : Els w l) : MkAt w g c l ks k0 0 w :=
  ⟨l, rfl, by rw [List.take_zero, Ex.mrks, List.drop_zero]; exact hl, hr, he, OnlyF.refl _ _⟩
/-- An element of what is not yet written. -/
theorem mk_at {le l : List El} {ks : List Ex.T} {k0 i : Nat} (h1 : le.map Prod.snd = l.map Prod.snd) (h2 : le.map Prod.fst = Ex.mrks (ks.take i) k0 ++ ks.drop i) (hi : i < ks.length) : ∃ v F, le[i]? = some (ks[i], v, F) ∧ l[i]?.map Prod.snd = some (v, F) := by
  have hlen : le.length = ks.length := by
    have h3 := congrArg List.length h2
    rw [List.length_map, List.length_append, Ex.mrks_len, List.length_take, List.length_drop] at h3
    omega
  have e1 : (le.map Prod.fst)[i]? = some ks[i] := by
    rw [h2, List.getElem?_append_right (by rw [Ex.mrks_len, List.length_take]; omega), Ex.mrks_len, List.length_take, Nat.min_eq_left (by omega), Nat.sub_self, List.drop_eq_getElem_cons hi]
    rfl
  rw [List.getElem?_map] at e1
  have e2 := congrArg (fun x => x[i]?) h1
  simp only [List.getElem?_map] at e2
  rw [List.getElem?_eq_getElem (by omega)] at e1 e2
  refine ⟨le[i].2.1, le[i].2.2, ?_, ?_⟩
  · rw [List.getElem?_eq_getElem (by omega)]
    have e3 : le[i].1 = ks[i] := Option.some.inj e1
    rw [← e3]
  · rw [← e2]; rfl
end Go.Proofs.YtbadepiakkhabaaDoor
