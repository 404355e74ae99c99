/- OnesCount64 counts the ones of a word. No conditions. -/
import Derived.Test.YtlbidfegcfcaiaaDoorC2
import Derived.Test.YtlbidfegcfcaiaaDoorC5
import Derived.Laws.Bits128
namespace Go.Proofs.YtlbidfegcfcaiaaDoor
open Go.RowKit
set_option linter.unusedVariables false

theorem Cs.wrap_u64 {n : Int} (h0 : 0 ≤ n) (h1 : n < 18446744073709551616) : IntKind.u64.wrap n = n := by
  have : IntKind.u64.wrap n = n % 18446744073709551616 := by simp [IntKind.wrap, IntKind.bits, IntKind.signed]
  rw [this]; omega
theorem Cs.mask1 : Cs.mask 1 32 = 6148914691236517205 := by decide
theorem Cs.mask2 : Cs.mask 2 16 = 3689348814741910323 := by decide
theorem Cs.mask4 : Cs.mask 4 8 = 1085102592571150095 := by decide
theorem Cs.step_and (x d m : Nat) (hx : x < 18446744073709551616) (hm : m < 18446744073709551616) : bits .and .u64 ((x : Int) / (d : Nat)) (m : Nat) = ((x / d &&& m : Nat) : Int) := by
  rw [← Int.natCast_ediv]
  exact u64_and_nat _ _ (Nat.lt_of_le_of_lt (Nat.div_le_self _ _) hx) hm
theorem Cs.step1 (x : Nat) (hx : x < 18446744073709551616) : IntKind.u64.wrap (bits .and .u64 ((x : Int) / 2) 6148914691236517205 + bits .and .u64 (x : Int) 6148914691236517205) = ((Cs.pair 1 32 x : Nat) : Int) := by
  have h1 : bits .and .u64 ((x : Int) / 2) 6148914691236517205 = ((x / 2 &&& 6148914691236517205 : Nat) : Int) := Cs.step_and x 2 6148914691236517205 hx (by decide)
  have h2 : bits .and .u64 (x : Int) 6148914691236517205 = ((x &&& 6148914691236517205 : Nat) : Int) := u64_and_nat x 6148914691236517205 hx (by decide)
  have h3 := Cs.pair_lt 1 32 x
  have e : Cs.pair 1 32 x = (x / 2 &&& 6148914691236517205) + (x &&& 6148914691236517205) := by unfold Cs.pair; rw [Cs.mask1]
  rw [Cs.mask1] at h3
  rw [e] at h3
  rw [h1, h2, e]
  rw [Cs.wrap_u64 (by omega) (by omega)]; rfl
theorem Cs.step2 (x : Nat) (hx : x < 18446744073709551616) : IntKind.u64.wrap (bits .and .u64 ((x : Int) / 4) 3689348814741910323 + bits .and .u64 (x : Int) 3689348814741910323) = ((Cs.pair 2 16 x : Nat) : Int) := by
  have h1 : bits .and .u64 ((x : Int) / 4) 3689348814741910323 = ((x / 4 &&& 3689348814741910323 : Nat) : Int) := Cs.step_and x 4 3689348814741910323 hx (by decide)
  have h2 : bits .and .u64 (x : Int) 3689348814741910323 = ((x &&& 3689348814741910323 : Nat) : Int) := u64_and_nat x 3689348814741910323 hx (by decide)
  have h3 := Cs.pair_lt 2 16 x
  have e : Cs.pair 2 16 x = (x / 4 &&& 3689348814741910323) + (x &&& 3689348814741910323) := by unfold Cs.pair; rw [Cs.mask2]
  rw [Cs.mask2] at h3
  rw [e] at h3
  rw [h1, h2, e]
  rw [Cs.wrap_u64 (by omega) (by omega)]; rfl
theorem Cs.step3 (x : Nat) (hx : x ≤ 7378697629483820646) (hs : Cs.small 4 4 16 x) : bits .and .u64 (IntKind.u64.wrap ((x : Int) / 16 + x)) 1085102592571150095 = ((Cs.pair 4 8 x : Nat) : Int) := by
  have e := Cs.lump_step 4 4 (by decide) 8 x hs
  rw [Cs.mask4, show (2 : Nat) ^ 4 = 16 from rfl] at e
  rw [Cs.wrap_u64 (by omega) (by omega), ← e]
  have := u64_and_nat (x / 16 + x) 1085102592571150095 (by omega) (by decide)
  rw [← this]; rfl
theorem Cs.step4 (x d : Nat) (hx : x + x / d < 18446744073709551616) : IntKind.u64.wrap ((x : Int) + (x : Int) / (d : Nat)) = ((x + x / d : Nat) : Int) := by
  rw [← Int.natCast_ediv, ← Int.natCast_add]
  exact Cs.wrap_u64 (Int.natCast_nonneg _) (by omega)
/-- The steps together. -/
theorem Cs.steps (x : Nat) (hx : x < 18446744073709551616) (y1 y2 y3 z1 z2 z3 : Nat) (h1 : y1 = Cs.pair 1 32 x) (h2 : y2 = Cs.pair 2 16 y1) (h3 : y3 = Cs.pair 4 8 y2) (e1 : z1 = y3 + y3 / 256) (e2 : z2 = z1 + z1 / 65536) (e3 : z3 = z2 + z2 / 4294967296) :
    y1 < 18446744073709551616 ∧ y2 ≤ 7378697629483820646 ∧ Cs.small 4 4 16 y2 ∧ y3 < 18446744073709551616 ∧ z1 < 18446744073709551616 ∧ z2 < 18446744073709551616 ∧ z3 < 18446744073709551616 ∧ z3 % 128 = Cs.dsum 1 64 x := by
  obtain ⟨s1, t1⟩ := Cs.pair_step 1 1 (by decide) 32 x (Cs.small_one 64 x)
  rw [← h1] at s1 t1
  obtain ⟨s2, t2⟩ := Cs.pair_step 2 2 (by decide) 16 y1 t1
  rw [← h2] at s2 t2
  obtain ⟨s3, t3⟩ := Cs.pair_step 4 4 (by decide) 8 y2 t2
  rw [← h3] at s3 t3
  have l1 := Cs.pair_lt 1 32 x
  have l2 := Cs.pair_lt 2 16 y1
  have l3 := Cs.pair_lt 4 8 y2
  rw [← h1, Cs.mask1] at l1
  rw [← h2, Cs.mask2] at l2
  rw [← h3, Cs.mask4] at l3
  obtain ⟨f1, f2, f3, f4⟩ := Cs.fold_bytes y3 t3 (by omega) z1 z2 z3 e1 e2 e3
  exact ⟨by omega, by omega, t2, by omega, f1, f2, f3, by rw [f4, s3, s2, s1]⟩
theorem ret_i {k : IntKind} {a b : Int} (h : a = b) : Ending.returned (.int k a) = .returned (.int k b) := by rw [h]

theorem Cs.last (z s : Nat) (h : z % 128 = s) : wrap64 (z : Int) % 128 = (s : Int) := by
  unfold wrap64; omega
theorem ones (x : Nat) (hx : x < 18446744073709551616) (w : World) : Calls Tryd.prog 44 #[.int .u64 x] w fun e w' => e = .returned (.int .i64 ((Cs.dsum 1 64 x : Nat) : Int)) ∧ w = w' := by
  go_enter Tryd.func44, Tryd.ntmps44
  go_wp2
  go_ret
  refine ⟨ret_i ?_, rfl⟩
  obtain ⟨a1, a2, a3, a4, b1, b2, b3, b4⟩ := Cs.steps x hx _ _ _ _ _ _ rfl rfl rfl rfl rfl rfl
  rw [Cs.step1 x hx, Cs.step2 _ a1, Cs.step3 _ a2 a3]
  generalize Cs.pair 4 8 (Cs.pair 2 16 (Cs.pair 1 32 x)) = y at *
  have c1 : IntKind.u64.wrap ((y : Int) + (y : Int) / 256) = ((y + y / 256 : Nat) : Int) := Cs.step4 y 256 b1
  rw [c1]
  generalize y + y / 256 = y1 at *
  have c2 : IntKind.u64.wrap ((y1 : Int) + (y1 : Int) / 65536) = ((y1 + y1 / 65536 : Nat) : Int) := Cs.step4 y1 65536 b2
  rw [c2]
  generalize y1 + y1 / 65536 = y2 at *
  have c3 : IntKind.u64.wrap ((y2 : Int) + (y2 : Int) / 4294967296) = ((y2 + y2 / 4294967296 : Nat) : Int) := Cs.step4 y2 4294967296 b3
  rw [c3, i64_and127]
  exact Cs.last _ _ b4
end Go.Proofs.YtlbidfegcfcaiaaDoor
