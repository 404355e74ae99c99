/- Joined texts: N25, W1, W2, W6. No conditions besides those that each states. -/
import Derived.Test.YtiiogpafgoeblaaProg
import Derived.WalkKit
import Derived.ProofKit
import Derived.WalkLawsBesides
import Derived.WalkSpells
import Derived.Lib.Hide
import Derived.Laws.BytesArg
import Derived.Test.YtiiogpafgoeblaaZ1
import Derived.Test.YtiiogpafgoeblaaZ5
/- EraseLines of the program: its body, its end. No conditions. -/
namespace Go.Proofs.Ytiiogpafgoeblaa
open Go.RowKit Go.Shelf
set_option linter.unusedVariables false
attribute [local go_sem] Oper.semAt_some

theorem rowV_upd {p : El} {v : Value} {F : List Nat} : ∀ (l : List El) (i : Nat), l[i]? = some p → (((rowV l).set (i * 5 + 3) (.int .i64 0)).set (i * 5 + 1) (.string p.1.text)).set (i * 5 + 4) v = rowV (l.set i (p.1.erase, v, F)) := by
  intro l
  induction l with
  | nil => intro i h; simp at h
  | cons q r ih =>
    intro i h
    match i with
    | 0 =>
      obtain rfl : q = p := Option.some.inj h
      rw [show (q :: r).set 0 (q.1.erase, v, F) = (q.1.erase, v, F) :: r from rfl, rowV_cons, rowV_cons]
      show _ = Value.int .i64 q.1.erase.kind :: Value.string q.1.erase.text :: Value.int .i64 q.1.erase.num :: Value.int .i64 q.1.erase.line :: v :: rowV r
      rw [Ex.erase_kind, Ex.erase_text, Ex.erase_num, Ex.erase_line]
      rfl
    | i + 1 =>
      have h2 := ih i h
      rw [show (q :: r).set (i + 1) (p.1.erase, v, F) = q :: r.set i (p.1.erase, v, F) from rfl, rowV_cons, rowV_cons, ← h2, show (i + 1) * 5 = i * 5 + 5 by omega]
      rfl
theorem row_free {w : World} {g cap i : Nat} {l : List El} {p : El} (h : RowE w g l.length cap (rowV l)) (hp : l[i]? = some p) : (w.cell? ⟨g, i * 5 + 1, none⟩ = some (.string p.1.text) ∧ w.cell? ⟨g, i * 5 + 4, none⟩ = some p.2.1 ∧ ∃ u, w.cell? ⟨g, i * 5 + 3, none⟩ = some u) ∧ w.frozen? ⟨g, i * 5 + 1, none⟩ = false ∧ w.frozen? ⟨g, i * 5 + 3, none⟩ = false ∧ w.frozen? ⟨g, i * 5 + 4, none⟩ = false := by
  obtain ⟨hi, rfl⟩ := List.getElem?_eq_some_iff.1 hp
  have h2 := RowCells.node (rowE_cells rfl h) i hi
  rw [Nat.zero_add] at h2
  have hlt : i * 5 + 4 < l.length * 5 := by omega
  exact ⟨⟨h2.1.2.1, h2.2, _, h2.1.2.2.2⟩, (h.cell _ (by omega)).2, (h.cell _ (by omega)).2, (h.cell _ (by omega)).2⟩
theorem ShalK.mono {B B' : Nat} {w : World} {v : Value} {l : List El} (h : ShalK B w v l) (hB : B' ≤ B) : ShalK B' w v l := by
  rcases h with h | ⟨h0, g, c, e, hg, hr⟩
  · exact .inl h
  · exact .inr ⟨h0, g, c, e, Nat.le_trans hB hg, hr⟩
theorem ShalK.set {B g : Nat} {w : World} {v : Value} {l : List El} (h : ShalK B w v l) (hg : g < B) (o : Nat) (u : Value) : ShalK B (w.setCell ⟨g, o, none⟩ u) v l :=
  h.keep fun b hb => Below.heap_setCell w ⟨g, o, none⟩ u b (show b ≠ g by omega)
theorem root_row (W : World) (t : Ex.T) (v : Value) : RowE (W.alloc (.cells #[.int .i64 t.kind, .string t.text, .int .i64 t.num, .int .i64 t.line, v] 45)) W.heap.size 1 1 (rowV [(t, v, [])]) :=
  ⟨rfl, .inr ⟨W.heap.size, 1, _, rfl, Nat.zero_le _, World.alloc_heap_new W _, Nat.le_refl _, by unfold maxLen; omega, rfl, rfl⟩⟩
/-- What a round leaves, step by step. -/
theorem xrel_of {x : XN} {W W2 W4 : World} {v : Value} {w0 : World} {L : Nat} (hp : XPre w0 L x W) (h2 : Below (W.setCell ⟨x.g, x.i * 5 + 3, none⟩ (.int .i64 0)).heap.size (W.setCell ⟨x.g, x.i * 5 + 3, none⟩ (.int .i64 0)) W2)
    (h4 : Below (W2.setCell ⟨x.g, x.i * 5 + 1, none⟩ (.string x.p.1.text)).heap.size (W2.setCell ⟨x.g, x.i * 5 + 1, none⟩ (.string x.p.1.text)) W4) (hs : ShalK (W2.setCell ⟨x.g, x.i * 5 + 1, none⟩ (.string x.p.1.text)).heap.size W4 v x.lk) : XRel x W (W4.setCell ⟨x.g, x.i * 5 + 4, none⟩ v) := by
  have hz : ∀ (A : World) (o : Nat) (u : Value), (A.setCell ⟨x.g, o, none⟩ u).heap.size = A.heap.size := fun A o u => by simp [World.setCell]
  have hr := hp.1.2
  have hlt := hr.lt
  have r1 := hr.set (x.i * 5 + 3) (.int .i64 0)
  have r2 := r1.keep (h2.block x.g (by rw [hz]; exact hlt))
  have hsz := h2.size
  rw [hz] at hsz
  have r3 := r2.set (x.i * 5 + 1) (.string x.p.1.text)
  have r4 := r3.keep (h4.block x.g (by rw [hz]; omega))
  have r5 := r4.set (x.i * 5 + 4) v
  rw [rowV_upd (F := []) _ _ hp.1.1] at r5
  refine ⟨v, r5, ((((Oth.refl x.g W).set _ _).later h2).set _ _ |>.later h4).set _ _, ?_⟩
  rw [hz] at hs
  exact (hs.set (show x.g < W2.heap.size by omega) _ _).mono hsz
theorem kid_clone {w0 W : World} {p : El} {lk : List El} (h : KidOk w0 p lk) (hb : Below w0.heap.size w0 W) (hl : lk.length ≤ 1048576) : Calls Try.prog 53 #[p.2.1] W fun e w' => ∃ v', e = .returned v' ∧ ShalK W.heap.size w' v' lk ∧ Below W.heap.size W w' :=
  clone_kids p.2.1 lk W (h.2.1.later hb) (fun g o n c e => (h.2.2.1 g o n c e).later hb) (rowV_one h.2.2.2) hl
theorem nodes_erase (F : Fence) (hd : F.depth = none) (h1 : F.fn 74) (h2 : F.fn 75) (hro : F.round = none) (w0 : World) (L : Nat) (ob : Obj) (hob : ob.isCells = false)
    (hY : ∀ m (x : XN) (W : World), XPre w0 L x W → W.heap[L]? = some ob → YieldAt F m Try.prog L (xnV x) W fun e W' => e = .returned (.bool true) ∧ XRel x W W')
    (n C Bt : Nat) (t : Ex.T) (v : Value) (W : World) (hb : t.bulk ≤ 1048576) (hrow : RowE W C 1 1 (rowV [(t, v, [])])) (hC : w0.heap.size ≤ C) (hCL : C ≠ L) (hW : Below w0.heap.size w0 W) (hL : W.heap[L]? = some ob) (hk : Kids w0 v t.kids) (hBt : W.cell? ⟨Bt, 0, none⟩ = some (.pointer (some ⟨C, 0, none⟩))) :
    CallsIn F n Try.prog 74 #[.func (.yield L) #[] #[], .pointer (some ⟨Bt, 0, none⟩)] W fun e W' => (∃ v, e = .returned v) ∧ EraseAt C 0 1 [(t, v, [])] t W W' := by
  have hdk : ∀ k : Nat, (F.depth.isSome = true → 1 ≤ k) := fun k h => by rw [hd] at h; cases h
  have hds := small_deep hb
  have hp := erase_visit F hd h2 hro w0 L ob hob hY t.count t (Nat.le_refl _) (n - 1) C 0 1 1 [(t, v, [])] W (t, v, []) rfl rfl hb (by omega) hrow hC hCL hW hL hk
  rw [Nat.zero_mul] at hp
  refine callsIn_of_wp Try.func74 rfl h1 ?_ hro
  simp only [Try.ntmps74, List.size_toArray, List.length_cons, List.length_nil, Nat.reduceAdd, Nat.reduceSub, Array.replicate_succ, Array.replicate_zero, List.push_toArray, List.append_toArray, List.nil_append, List.cons_append]
  clear hY
  gi_wp2
  refine hp.mono ?_
  clear hp
  rintro e W1 ⟨rfl, he⟩
  gi_wp2
  go_end0
  exact ⟨⟨_, rfl⟩, he⟩
end Go.Proofs.Ytiiogpafgoeblaa
/- The reference model's FormatInt returns the decimal form, at every integer. No conditions. -/
namespace Go.Proofs.Ytiiogpafgoeblaa
open Go.RowKit

theorem ret_pair {a c : Int} {b d : Bool} (h1 : a = c) (h2 : b = d) : Ending.returned (.tuple #[.int .i64 a, .bool b]) = .returned (.tuple #[.int .i64 c, .bool d]) := by rw [h1, h2]
theorem ret_val {a c : Int} (h1 : a = c) : Value.int .i64 a = .int .i64 c := by rw [h1]

/-- A block of one byte, made into a string. -/
theorem conv_one (x : Int) (w : World) : (convert 107 9 (.slice (some ⟨w.heap.size, 0, none⟩) 1 1)).run Try.prog (w.alloc (.cells #[.int .u8 x] 5)) = .ok (.string ⟨#[UInt8.ofNat x.toNat]⟩) (w.alloc (.cells #[.int .u8 x] 5)) := by
  have h := run_convert_bytes_arg (P := Try.prog) (w.alloc (.cells #[.int .u8 x] 5)) 107 5 Try.underlying107 Try.underlying5 w.heap.size 0 1 1 [x] rfl
    (fun i hi => by
      obtain rfl : i = 0 := by omega
      exact cell_one_new w (.int .u8 x) 5 0 (.int .u8 x) rfl) 9 Try.underlying9
  simpa [strOfNums] using h

theorem string_eq {s : ByteArray} {l : List UInt8} (h : s.data.toList = l) : s = ⟨l.toArray⟩ := by
  subst h; cases s; simp

theorem size_eq (s : ByteArray) : s.size = s.data.toList.length := rfl

/-- One round's fact. -/
theorem fmt_round {n m : Int} {s : ByteArray} (hm : 0 < m) (h : Dec.digs n.toNat = Dec.digs m.toNat ++ s.data.toList) :
    Dec.digs n.toNat = Dec.digs (m / 10).toNat ++ (({ data := #[UInt8.ofNat (48 + m % 10).toNat] } : ByteArray) ++ s).data.toList := by
  rw [h, Dec.digs_pos (by omega), Dec.dg_byte m (by omega), show m.toNat / 10 = (m / 10).toNat by omega]
  simp [ByteArray.data_append]

theorem fmt_size {n m : Int} {s : ByteArray} (h0 : 0 ≤ n) (h1 : n ≤ 9223372036854775808) (h : Dec.digs n.toNat = Dec.digs m.toNat ++ s.data.toList) : s.size ≤ 20 := by
  have h2 := congrArg List.length h
  have h3 := Dec.digs_lt 20 n.toNat (Nat.lt_of_le_of_lt (show n.toNat ≤ 9223372036854775808 by omega) (by decide))
  rw [List.length_append, ← size_eq] at h2; omega

set_option maxRecDepth 100000 in
set_option maxHeartbeats 400000 in
theorem spec_fmt_pos (n : Int) (w : World) (h0 : 0 < n) (h1 : n ≤ 9223372036854775807) :
    Calls Try.prog 61 #[.int .i64 n] w fun e w' => e = .returned (.string ⟨(Dec.digs n.toNat).toArray⟩) ∧ Below w.heap.size w w' := by
  have c0 : (n == 0) = false := by simp; omega
  go_enter Try.func61, Try.ntmps61
  go_wp2
  go_loopw [0, 4, 5] (fun x o d wr => ∃ (m : Int) (s : ByteArray), x = .int .i64 m ∧ 0 ≤ m ∧ m ≤ n ∧ o = .string s ∧ Below w.heap.size w wr ∧ Dec.digs n.toNat = Dec.digs m.toNat ++ s.data.toList) (fun x _ _ _ => (intOf x).toNat)
  case atStart => exact ⟨n, _, rfl, by omega, by omega, rfl, Below.refl _ _, by simp⟩
  case round =>
    obtain ⟨m, s, rfl, h2, h3, rfl, h4, h5⟩ := hrel
    have hsz := fmt_size (by omega) (by omega) h5
    have H5 := Lib.hid h5
    clear h5
    by_cases hm : m = 0
    · subst hm
      go_wp2
      go_ret
      exact ⟨by rw [H5.out]; simp [Dec.digs_zero, ← string_eq (s := s) rfl], h4⟩
    · have hcv := conv_one (48 + m % 10) wr
      have hm' : (m == 0) = false := by simpa using hm
      go_wp2
      all_goals go_roundw
      case rel => exact ⟨m / 10, _, rfl, by omega, by omega, rfl, h4.alloc h4.size _, fmt_round (by omega) H5.out⟩
      case measure => simp [intOf]; omega

theorem cons_eq (b : UInt8) (s : ByteArray) : ({ data := #[b] } : ByteArray) ++ s = ⟨(b :: s.data.toList).toArray⟩ :=
  string_eq (by simp [ByteArray.data_append])

theorem quo_neg (m : Int) (h0 : 0 ≤ m) (h1 : m ≤ 9223372036854775808) : wrap64 (-m.tdiv 10) = -(m / 10) := by
  rw [Int.tdiv_eq_ediv_of_nonneg h0]
  unfold wrap64; omega

set_option maxRecDepth 100000 in
set_option maxHeartbeats 400000 in
theorem spec_fmt_neg (n : Int) (w : World) (h0 : 0 < n) (h1 : n ≤ 9223372036854775808) :
    Calls Try.prog 61 #[.int .i64 (-n)] w fun e w' => e = .returned (.string ⟨(45 :: Dec.digs n.toNat).toArray⟩) ∧ Below w.heap.size w w' := by
  have c0 : (-n == 0) = false := by simp; omega
  go_enter Try.func61, Try.ntmps61
  go_wp2
  go_loopw [0, 4, 5] (fun x o d wr => ∃ (m : Int) (s : ByteArray), x = .int .i64 (-m) ∧ 0 ≤ m ∧ m ≤ n ∧ o = .string s ∧ Below w.heap.size w wr ∧ Dec.digs n.toNat = Dec.digs m.toNat ++ s.data.toList) (fun x _ _ _ => (- intOf x).toNat)
  case atStart => exact ⟨n, _, rfl, by omega, by omega, rfl, Below.refl _ _, by simp⟩
  case round =>
    obtain ⟨m, s, rfl, h2, h3, rfl, h4, h5⟩ := hrel
    have hsz := fmt_size (by omega) h1 h5
    have H5 := Lib.hid h5
    clear h5
    by_cases hm : m = 0
    · subst hm
      go_wp2
      go_ret
      exact ⟨by rw [H5.out]; simp only [Dec.digs_zero, Int.toNat_zero, List.nil_append]; rw [← cons_eq]; rfl, h4⟩
    · have hcv := conv_one (48 + m % 10) wr
      have hcv2 := conv_one (48 + -(m % 10)) wr
      have hm' : (-m == 0) = false := by simpa using hm
      go_wp2
      all_goals go_roundw
      case rel => exact ⟨m / 10, _, by rw [quo_neg m h2 (by omega)], by omega, by omega, rfl, h4.alloc h4.size _, fmt_round (by omega) H5.out⟩
      case measure => rw [quo_neg m h2 (by omega)]; simp [intOf]; omega
      case rel => exact ⟨m / 10, _, by rw [quo_neg m h2 (by omega)], by omega, by omega, rfl, h4.alloc h4.size _, by rw [show (48 : Int) + -(m % 10) = 48 + m % 10 by omega]; exact fmt_round (by omega) H5.out⟩
      case measure => rw [quo_neg m h2 (by omega)]; simp [intOf]; omega
set_option maxRecDepth 100000 in
set_option maxHeartbeats 400000 in
theorem spec_fmt_zero (w : World) :
    Calls Try.prog 61 #[.int .i64 0] w fun e w' => e = .returned (.string ⟨#[48]⟩) ∧ Below w.heap.size w w' := by
  go_enter Try.func61, Try.ntmps61
  go_wp2
  go_ret
  exact ⟨rfl, Below.refl _ _⟩

/-- The reference model's FormatInt. -/
theorem spec_fmt (n : Int) (w : World) (h0 : -9223372036854775808 ≤ n) (h1 : n ≤ 9223372036854775807) :
    Calls Try.prog 61 #[.int .i64 n] w fun e w' => e = .returned (.string ⟨(Dec.fmt n).toArray⟩) ∧ Below w.heap.size w w' := by
  rcases Int.lt_trichotomy n 0 with h | h | h
  · have h2 := spec_fmt_neg (-n) w (by omega) (by omega)
    rw [Int.neg_neg] at h2
    have e : Dec.fmt n = 45 :: Dec.digs (-n).toNat := by
      unfold Dec.fmt; rw [if_neg (by omega), if_pos h, show n.natAbs = (-n).toNat by omega]
    rw [e]; exact h2
  · subst h; exact spec_fmt_zero w
  · have h2 := spec_fmt_pos n w h h1
    have e : Dec.fmt n = Dec.digs n.toNat := by
      unfold Dec.fmt; rw [if_neg (by omega), if_neg (by omega), show n.natAbs = n.toNat by omega]
    rw [e]; exact h2
end Go.Proofs.Ytiiogpafgoeblaa
/- The program's FormatInt returns the decimal form, at every integer. No conditions. -/
namespace Go.Proofs.Ytiiogpafgoeblaa
open Go.RowKit

/-- The block B holds the letters l at its end, from place at on. -/
def Holds (w : World) (B at_ : Nat) (l : List UInt8) : Prop :=
  (∀ j, j < 20 → ∃ v, w.cell? ⟨B, j, none⟩ = some v) ∧ (∀ j, w.frozen? ⟨B, j, none⟩ = false) ∧ (∀ j (h : j < l.length), w.cell? ⟨B, at_ + j, none⟩ = some (.int .u8 (l[j].toNat : Int)))

theorem holds_start (w : World) (C : Array Value) (t : TypeId) (hC : C.size = 20) : Holds (w.alloc (.cells C t)) w.heap.size 20 [] := by
  refine ⟨fun j hj => ⟨C[j]'(by omega), ?_⟩, fun j => ?_, fun j h => by simp at h⟩
  · rw [World.cell?_alloc_mark]; exact Array.getElem?_eq_getElem _
  · rw [World.frozen?_alloc_mark]; simp

theorem holds_next {w : World} {B p : Nat} {l : List UInt8} (h : Holds w B (p + 1) l) (hp : p < 20) (b : UInt8) (v : Value) (hv : v = .int .u8 (b.toNat : Int)) : Holds (w.setCell ⟨B, p, none⟩ v) B p (b :: l) := by
  subst hv
  obtain ⟨h1, h2, h3⟩ := h
  have hset : ∀ j, j ≠ p → (w.setCell ⟨B, p, none⟩ (.int .u8 (b.toNat : Int))).cell? ⟨B, j, none⟩ = w.cell? ⟨B, j, none⟩ := fun j hj => by
    go_simp
  refine ⟨fun j hj => ?_, fun j => by rw [World.frozen?_setCell]; exact h2 j, fun j hj => ?_⟩
  · obtain ⟨u, hu⟩ := h1 j hj
    by_cases e : j = p
    · subst e; exact ⟨_, by go_simp; exact rfl⟩
    · exact ⟨u, by rw [hset j e]; exact hu⟩
  · obtain ⟨u, hu⟩ := h1 p hp
    cases j with
    | zero => simp; go_simp
    | succ j => rw [hset _ (by omega), show p + (j + 1) = p + 1 + j by omega]; simpa using h3 j (by simpa using hj)

/-- The last letters of the array, as a slice. -/
theorem slice_at (B p : Nat) (hp : p < 20) (w : World) : (Instr.sliceAt 131 (.pointer (some ⟨B, 0, none⟩)) (some (.int .i64 (p : Int))) none none).run Try.prog w = .ok (.slice (some ⟨B, p, none⟩) (20 - p) (20 - p)) w := by
  have e : Try.prog.arrayLen 131 = 20 := by kernel_rfl
  have hs : ∀ wx : World, (sizeOf (Try.prog.elem 131)).run Try.prog wx = .ok 1 wx := fun _ => by kernel_rfl
  rw [run_sliceAt_array_l w 131 ⟨B, 0, none⟩ (by kernel_rfl) .i64 p (by omega) (by rw [e]; omega), hs, e]
  have e0 : ¬ (20 = p) := by omega
  by_cases e1 : p = 0
  · subst e1; simp [Result.andThen, slicedAt, Addr.add]
  · simp [Result.andThen, slicedAt, Addr.add, e0, e1]

/-- And those letters as a string. -/
theorem conv_at {w : World} {B p : Nat} {l : List UInt8} (h : Holds w B p l) (n : Nat) (hn : n = l.length) : (convert 107 9 (.slice (some ⟨B, p, none⟩) n n)).run Try.prog w = .ok (.string ⟨l.toArray⟩) w := by
  subst hn
  exact run_convert_bytes_back w 107 9 5 ⟨B, p, none⟩ _ l Try.underlying107 Try.underlying5 Try.underlying9 (fun j hj => by
    rw [show (⟨B, p, none⟩ : Addr).add j = ⟨B, p + j, none⟩ from by simp [Addr.add]]
    exact h.2.2 j hj)

set_option maxRecDepth 100000 in
set_option maxHeartbeats 400000 in
theorem impl_fmt_nn (n : Nat) (w : World) (h1 : (n : Int) ≤ 9223372036854775807) :
    Calls Try.prog 87 #[.int .i64 n] w fun e w' => e = .returned (.string ⟨(Dec.fmtN n).toArray⟩) ∧ Below w.heap.size w w' := by
  go_enter Try.func87, Try.ntmps87
  go_wp2
  go_loopw [3, 5, 12] (fun x a i wr => ∃ (m p : Nat) (l : List UInt8), x = .int .u64 m ∧ m ≤ n ∧ a = .int .i64 (p + 1) ∧ i = .int .i64 l.length ∧ Below w.heap.size w wr ∧ Holds wr w.heap.size (p + 1) l ∧ p + 1 + l.length = 20 ∧ Dec.Left n m l) (fun x _ _ _ => (intOf x).toNat)
  case atStart =>
    exact ⟨n, 19, [], rfl, by omega, by rfl, by rfl, (Below.refl _ _).alloc (Nat.le_refl _) _, holds_start w _ _ rfl, by rfl, Dec.left_start n⟩
  case round =>
    obtain ⟨m, p, l, rfl, h2, rfl, rfl, h3, h4, h5, h6⟩ := hrel
    have h7 := Dec.left_short (by omega) h6
    have H5 := Lib.hid h5
    have H6 := Lib.hid h6
    have h8 : p < 20 := by omega
    obtain ⟨v, hv⟩ := h4.1 p h8
    have hf := h4.2.1 p
    have H4 := Lib.hid h4
    clear h4 h5 h6
    have h9 : (l.length : Int) < 19 := by omega
    by_cases hm : m / 10 = 0
    · have hsl := slice_at w.heap.size p h8
      have hcv := conv_at (holds_next H4.out h8 (Dec.dg m) (.int .u8 (48 + ↑m % 10)) (by rw [Dec.dg_toNat]; go_num)) (20 - p) (by have := H5.out; simp; omega)
      go_wp2
      go_ret
      exact ⟨by rw [Dec.left_end H6.out hm]; rfl, h3.setCell (Nat.le_refl _) _⟩
    · go_wp2
      go_roundw
      case rel =>
        obtain ⟨p, rfl⟩ : ∃ q, p = q + 1 := ⟨p - 1, by have := H5.out; omega⟩
        exact ⟨m / 10, p, Dec.dg m :: l, by go_num, by omega, by go_num, by simp, h3.setCell (Nat.le_refl _) _, holds_next H4.out h8 _ _ (by rw [Dec.dg_toNat]; go_num), by have := H5.out; simp; omega, Dec.left_next H6.out (by omega)⟩
      case measure => simp [intOf]; omega
theorem neg_size (n : Nat) (h1 : (n : Int) ≤ 9223372036854775808) : IntKind.u64.wrap (-IntKind.u64.wrap (-(n : Int))) = n := by
  simp only [IntKind.wrap, IntKind.signed, IntKind.bits]
  simp
  omega

set_option maxRecDepth 100000 in
set_option maxHeartbeats 400000 in
theorem impl_fmt_neg (n : Nat) (w : World) (h0 : 0 < (n : Int)) (h1 : (n : Int) ≤ 9223372036854775808) :
    Calls Try.prog 87 #[.int .i64 (-(n : Int))] w fun e w' => e = .returned (.string ⟨(45 :: Dec.fmtN n).toArray⟩) ∧ Below w.heap.size w w' := by
  go_enter Try.func87, Try.ntmps87
  go_wp2
  go_loopw [3, 5, 12] (fun x a i wr => ∃ (m p : Nat) (l : List UInt8), x = .int .u64 m ∧ m ≤ n ∧ a = .int .i64 (p + 1) ∧ i = .int .i64 l.length ∧ Below w.heap.size w wr ∧ Holds wr w.heap.size (p + 1) l ∧ p + 1 + l.length = 20 ∧ Dec.Left n m l) (fun x _ _ _ => (intOf x).toNat)
  case atStart =>
    exact ⟨n, 19, [], by rw [neg_size n h1], by omega, by rfl, by rfl, (Below.refl _ _).alloc (Nat.le_refl _) _, holds_start w _ _ rfl, by rfl, Dec.left_start n⟩
  case round =>
    obtain ⟨m, p, l, rfl, h2, rfl, rfl, h3, h4, h5, h6⟩ := hrel
    have h7 := Dec.left_short (by omega) h6
    obtain ⟨q, rfl⟩ : ∃ q, p = q + 1 := ⟨p - 1, by omega⟩
    have H5 := Lib.hid h5
    have H6 := Lib.hid h6
    have h8 : q + 1 < 20 := by omega
    obtain ⟨v, hv⟩ := h4.1 (q + 1) h8
    obtain ⟨v2, hv2⟩ := h4.1 q (by omega)
    have hf := h4.2.1 (q + 1)
    have hf2 := h4.2.1 q
    have H4 := Lib.hid h4
    clear h4 h5 h6
    have h9 : (l.length : Int) < 19 := by omega
    by_cases hm : m / 10 = 0
    · have hsl := slice_at w.heap.size q (by omega)
      have hcv := conv_at (holds_next (holds_next H4.out h8 (Dec.dg m) (.int .u8 (48 + ↑m % 10)) (by rw [Dec.dg_toNat]; go_num)) (by omega) 45 (.int .u8 45) (by rfl)) (20 - q) (by have := H5.out; simp; omega)
      go_wp2
      go_ret
      exact ⟨by rw [Dec.left_end H6.out hm]; rfl, (h3.setCell (Nat.le_refl _) _).setCell (Nat.le_refl _) _⟩
    · go_wp2
      go_roundw
      case rel =>
        exact ⟨m / 10, q, Dec.dg m :: l, by go_num, by omega, by go_num, by simp, h3.setCell (Nat.le_refl _) _, holds_next H4.out h8 _ _ (by rw [Dec.dg_toNat]; go_num), by have := H5.out; simp; omega, Dec.left_next H6.out (by omega)⟩
      case measure => simp [intOf]; omega

/-- The program's FormatInt. -/
theorem impl_fmt (n : Int) (w : World) (h0 : -9223372036854775808 ≤ n) (h1 : n ≤ 9223372036854775807) :
    Calls Try.prog 87 #[.int .i64 n] w fun e w' => e = .returned (.string ⟨(Dec.fmt n).toArray⟩) ∧ Below w.heap.size w w' := by
  by_cases h : 0 ≤ n
  · have h2 := impl_fmt_nn n.toNat w (by omega)
    rw [Int.toNat_of_nonneg h, ← Dec.fmt_nn n h] at h2
    exact h2
  · have h2 := impl_fmt_neg (-n).toNat w (by omega) (by omega)
    rw [Int.toNat_of_nonneg (by omega), Int.neg_neg, ← Dec.fmt_neg n (by omega)] at h2
    exact h2
end Go.Proofs.Ytiiogpafgoeblaa
/- The reference model's SplitByte returns the parts of a string, in memory of its own. -/
namespace Go.Proofs.Ytiiogpafgoeblaa
open Go.RowKit
set_option linter.unusedVariables false

theorem info_string : (Try.prog.info? 9).map (fun i => (i.zero, i.size, i.bytes)) = some (some (.string ByteArray.empty), 1, 16) := by kernel_rfl

/-- Strings of the call's own: a slice whose elements are l, in a block from base on. -/
def Owns (w : World) (base : Nat) (v : Value) (l : List ByteArray) : Prop := w.ownsRow base 9 1 v l.length (l.map Value.string)

theorem map_snoc (l : List ByteArray) (x : ByteArray) : (l ++ [x]).map Value.string = l.map Value.string ++ [Value.string x] := by simp

theorem owns_app {w1 : World} {base : Nat} {v' : Value} {l : List ByteArray} {x : ByteArray} (h : w1.ownsRow base 9 1 v' (l.length + 1) (l.map Value.string ++ [Value.string x])) : Owns w1 base v' (l ++ [x]) := by
  unfold Owns; rw [map_snoc, List.length_append]; exact h

theorem below_app {w wr w1 : World} {v : Value} {l : List ByteArray} {o : Obj} (hb : Below w.heap.size w wr) (hown : Owns wr w.heap.size v l) (hg : (wr.alloc o).grownBy w1 v.ownBlock) : Below w.heap.size w w1 :=
  (hb.alloc hb.size o).grown hg (by have := hb.size; simp; omega) (fun k hk => (hown.lt k hk).1)

theorem owns_below {w w1 : World} {base : Nat} {v : Value} {l : List ByteArray} (h : Owns w base v l) (hb : Below w.heap.size w w1) : Owns w1 base v l := by
  refine ⟨h.1, ?_⟩
  rcases h.2 with hn | ⟨g, cap, cur, hv, hg, hgg, r⟩
  · exact .inl hn
  · exact .inr ⟨g, cap, cur, hv, hg, by rw [hb.block g (Array.getElem?_eq_some_iff.1 hgg).1]; exact hgg, r⟩

theorem new_cell (w : World) (x : Value) (t : TypeId) : ∀ (j : Nat) (u : Value), [x][j]? = some u → (w.alloc (.cells #[x] t)).cell? ((⟨w.heap.size, 0, none⟩ : Addr).add j) = some u := by
  intro j u hj
  match j, hj with
  | 0, hj => simp at hj; subst hj; simp [Addr.add]

theorem one_string (x : ByteArray) : ∀ u ∈ [Value.string x], u.oneCell' = true := by
  intro u hu; simp at hu; subst hu; rfl

theorem max_small {n : Nat} (h : n ≤ 1048577) : n ≤ maxLen := by unfold maxLen; omega

end Go.Proofs.Ytiiogpafgoeblaa
