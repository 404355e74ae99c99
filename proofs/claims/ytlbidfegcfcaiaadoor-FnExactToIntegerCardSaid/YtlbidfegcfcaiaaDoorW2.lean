/- The program's FormatInt returns the decimal form, at every integer. No conditions. -/
import Derived.Test.YtlbidfegcfcaiaaDoorW1
namespace Go.Proofs.YtlbidfegcfcaiaaDoor
open Go.RowKit

/-- The block B holds the letters l at its end, from place at on. -/
def Holds (w : World) (B at_ : Nat) (l : List UInt8) : Prop :=
  (∀ j, j < 20 → ∃ v, w.cell? ⟨B, j, none⟩ = some v) ∧ (∀ j, w.frozen? ⟨B, j, none⟩ = false) ∧ (∀ j (h : j < l.length), w.cell? ⟨B, at_ + j, none⟩ = some (.int .u8 (l[j].toNat : Int)))

theorem holds_start (w : World) (C : Array Value) (t : TypeId) (hC : C.size = 20) : Holds (w.alloc (.cells C t)) w.heap.size 20 [] := by
  refine ⟨fun j hj => ⟨C[j]'(by omega), ?_⟩, fun j => ?_, fun j h => by simp at h⟩
  · rw [World.cell?_alloc_mark]; exact Array.getElem?_eq_getElem _
  · rw [World.frozen?_alloc_mark]; simp

theorem holds_next {w : World} {B p : Nat} {l : List UInt8} (h : Holds w B (p + 1) l) (hp : p < 20) (b : UInt8) (v : Value) (hv : v = .int .u8 (b.toNat : Int)) : Holds (w.setCell ⟨B, p, none⟩ v) B p (b :: l) := by
  subst hv
  obtain ⟨h1, h2, h3⟩ := h
  have hset : ∀ j, j ≠ p → (w.setCell ⟨B, p, none⟩ (.int .u8 (b.toNat : Int))).cell? ⟨B, j, none⟩ = w.cell? ⟨B, j, none⟩ := fun j hj => by
    go_simp
  refine ⟨fun j hj => ?_, fun j => by rw [World.frozen?_setCell]; exact h2 j, fun j hj => ?_⟩
  · obtain ⟨u, hu⟩ := h1 j hj
    by_cases e : j = p
    · subst e; exact ⟨_, by go_simp; exact rfl⟩
    · exact ⟨u, by rw [hset j e]; exact hu⟩
  · obtain ⟨u, hu⟩ := h1 p hp
    cases j with
    | zero => simp; go_simp
    | succ j => rw [hset _ (by omega), show p + (j + 1) = p + 1 + j by omega]; simpa using h3 j (by simpa using hj)

/-- The last letters of the array, as a slice. -/
theorem slice_at (B p : Nat) (hp : p < 20) (w : World) : (Instr.sliceAt 60 (.pointer (some ⟨B, 0, none⟩)) (some (.int .i64 (p : Int))) none none).run Tryd.prog w = .ok (.slice (some ⟨B, p, none⟩) (20 - p) (20 - p)) w := by
  have e : Tryd.prog.arrayLen 60 = 20 := by kernel_rfl
  have hs : ∀ wx : World, (sizeOf (Tryd.prog.elem 60)).run Tryd.prog wx = .ok 1 wx := fun _ => by kernel_rfl
  rw [run_sliceAt_array_l w 60 ⟨B, 0, none⟩ (by kernel_rfl) .i64 p (by omega) (by rw [e]; omega), hs, e]
  have e0 : ¬ (20 = p) := by omega
  by_cases e1 : p = 0
  · subst e1; simp [Result.andThen, slicedAt, Addr.add]
  · simp [Result.andThen, slicedAt, Addr.add, e0, e1]

/-- And those letters as a string. -/
theorem conv_at {w : World} {B p : Nat} {l : List UInt8} (h : Holds w B p l) (n : Nat) (hn : n = l.length) : (convert 22 9 (.slice (some ⟨B, p, none⟩) n n)).run Tryd.prog w = .ok (.string ⟨l.toArray⟩) w := by
  subst hn
  exact run_convert_bytes_back w 22 9 5 ⟨B, p, none⟩ _ l Tryd.underlying22 Tryd.underlying5 Tryd.underlying9 (fun j hj => by
    rw [show (⟨B, p, none⟩ : Addr).add j = ⟨B, p + j, none⟩ from by simp [Addr.add]]
    exact h.2.2 j hj)

set_option maxRecDepth 100000 in
set_option maxHeartbeats 400000 in
theorem impl_fmt_nn (n : Nat) (w : World) (h1 : (n : Int) ≤ 9223372036854775807) :
    Calls Tryd.prog 18 #[.int .i64 n] w fun e w' => e = .returned (.string ⟨(Dec.fmtN n).toArray⟩) ∧ Below w.heap.size w w' := by
  go_enter Tryd.func18, Tryd.ntmps18
  go_wp2
  go_loopw [3, 5, 12] (fun x a i wr => ∃ (m p : Nat) (l : List UInt8), x = .int .u64 m ∧ m ≤ n ∧ a = .int .i64 (p + 1) ∧ i = .int .i64 l.length ∧ Below w.heap.size w wr ∧ Holds wr w.heap.size (p + 1) l ∧ p + 1 + l.length = 20 ∧ Dec.Left n m l) (fun x _ _ _ => (intOf x).toNat)
  case atStart =>
    exact ⟨n, 19, [], rfl, by omega, by rfl, by rfl, (Below.refl _ _).alloc (Nat.le_refl _) _, holds_start w _ _ rfl, by rfl, Dec.left_start n⟩
  case round =>
    obtain ⟨m, p, l, rfl, h2, rfl, rfl, h3, h4, h5, h6⟩ := hrel
    have h7 := Dec.left_short (by omega) h6
    have H5 := Lib.hid h5
    have H6 := Lib.hid h6
    have h8 : p < 20 := by omega
    obtain ⟨v, hv⟩ := h4.1 p h8
    have hf := h4.2.1 p
    have H4 := Lib.hid h4
    clear h4 h5 h6
    have h9 : (l.length : Int) < 19 := by omega
    by_cases hm : m / 10 = 0
    · have hsl := slice_at w.heap.size p h8
      have hcv := conv_at (holds_next H4.out h8 (Dec.dg m) (.int .u8 (48 + ↑m % 10)) (by rw [Dec.dg_toNat]; go_num)) (20 - p) (by have := H5.out; simp; omega)
      go_wp2
      go_ret
      exact ⟨by rw [Dec.left_end H6.out hm]; rfl, h3.setCell (Nat.le_refl _) _⟩
    · go_wp2
      go_roundw
      case rel =>
        obtain ⟨p, rfl⟩ : ∃ q, p = q + 1 := ⟨p - 1, by have := H5.out; omega⟩
        exact ⟨m / 10, p, Dec.dg m :: l, by go_num, by omega, by go_num, by simp, h3.setCell (Nat.le_refl _) _, holds_next H4.out h8 _ _ (by rw [Dec.dg_toNat]; go_num), by have := H5.out; simp; omega, Dec.left_next H6.out (by omega)⟩
      case measure => simp [intOf]; omega
theorem neg_size (n : Nat) (h1 : (n : Int) ≤ 9223372036854775808) : IntKind.u64.wrap (-IntKind.u64.wrap (-(n : Int))) = n := by
  simp only [IntKind.wrap, IntKind.signed, IntKind.bits]
  simp
  omega

set_option maxRecDepth 100000 in
set_option maxHeartbeats 400000 in
theorem impl_fmt_neg (n : Nat) (w : World) (h0 : 0 < (n : Int)) (h1 : (n : Int) ≤ 9223372036854775808) :
    Calls Tryd.prog 18 #[.int .i64 (-(n : Int))] w fun e w' => e = .returned (.string ⟨(45 :: Dec.fmtN n).toArray⟩) ∧ Below w.heap.size w w' := by
  go_enter Tryd.func18, Tryd.ntmps18
  go_wp2
  go_loopw [3, 5, 12] (fun x a i wr => ∃ (m p : Nat) (l : List UInt8), x = .int .u64 m ∧ m ≤ n ∧ a = .int .i64 (p + 1) ∧ i = .int .i64 l.length ∧ Below w.heap.size w wr ∧ Holds wr w.heap.size (p + 1) l ∧ p + 1 + l.length = 20 ∧ Dec.Left n m l) (fun x _ _ _ => (intOf x).toNat)
  case atStart =>
    exact ⟨n, 19, [], by rw [neg_size n h1], by omega, by rfl, by rfl, (Below.refl _ _).alloc (Nat.le_refl _) _, holds_start w _ _ rfl, by rfl, Dec.left_start n⟩
  case round =>
    obtain ⟨m, p, l, rfl, h2, rfl, rfl, h3, h4, h5, h6⟩ := hrel
    have h7 := Dec.left_short (by omega) h6
    obtain ⟨q, rfl⟩ : ∃ q, p = q + 1 := ⟨p - 1, by omega⟩
    have H5 := Lib.hid h5
    have H6 := Lib.hid h6
    have h8 : q + 1 < 20 := by omega
    obtain ⟨v, hv⟩ := h4.1 (q + 1) h8
    obtain ⟨v2, hv2⟩ := h4.1 q (by omega)
    have hf := h4.2.1 (q + 1)
    have hf2 := h4.2.1 q
    have H4 := Lib.hid h4
    clear h4 h5 h6
    have h9 : (l.length : Int) < 19 := by omega
    by_cases hm : m / 10 = 0
    · have hsl := slice_at w.heap.size q (by omega)
      have hcv := conv_at (holds_next (holds_next H4.out h8 (Dec.dg m) (.int .u8 (48 + ↑m % 10)) (by rw [Dec.dg_toNat]; go_num)) (by omega) 45 (.int .u8 45) (by rfl)) (20 - q) (by have := H5.out; simp; omega)
      go_wp2
      go_ret
      exact ⟨by rw [Dec.left_end H6.out hm]; rfl, (h3.setCell (Nat.le_refl _) _).setCell (Nat.le_refl _) _⟩
    · go_wp2
      go_roundw
      case rel =>
        exact ⟨m / 10, q, Dec.dg m :: l, by go_num, by omega, by go_num, by simp, h3.setCell (Nat.le_refl _) _, holds_next H4.out h8 _ _ (by rw [Dec.dg_toNat]; go_num), by have := H5.out; simp; omega, Dec.left_next H6.out (by omega)⟩
      case measure => simp [intOf]; omega

/-- The program's FormatInt. -/
theorem impl_fmt (n : Int) (w : World) (h0 : -9223372036854775808 ≤ n) (h1 : n ≤ 9223372036854775807) :
    Calls Tryd.prog 18 #[.int .i64 n] w fun e w' => e = .returned (.string ⟨(Dec.fmt n).toArray⟩) ∧ Below w.heap.size w w' := by
  by_cases h : 0 ≤ n
  · have h2 := impl_fmt_nn n.toNat w (by omega)
    rw [Int.toNat_of_nonneg h, ← Dec.fmt_nn n h] at h2
    exact h2
  · have h2 := impl_fmt_neg (-n).toNat w (by omega) (by omega)
    rw [Int.toNat_of_nonneg (by omega), Int.neg_neg, ← Dec.fmt_neg n (by omega)] at h2
    exact h2
end Go.Proofs.YtlbidfegcfcaiaaDoor
