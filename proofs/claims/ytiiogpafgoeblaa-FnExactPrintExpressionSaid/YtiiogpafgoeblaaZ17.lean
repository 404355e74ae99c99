/- Joined texts: Y3, W2, W6. No conditions besides those that each states. -/
import Derived.Deep.RegionHeld3
import Derived.BigQuiet
import Derived.WalkSmall
import Derived.Test.YtiiogpafgoeblaaZ4
import Derived.Test.YtiiogpafgoeblaaZ15
import Derived.Test.YtiiogpafgoeblaaZ16
/- The reference model's printer: levels; a tree where a level is required. No conditions. -/
namespace Go.Proofs.Ytiiogpafgoeblaa
open Go.RowKit
set_option linter.unusedVariables false

def RetI (w : World) (n : Int) (e : Ending) (w' : World) : Prop := e = .returned (.int .i64 n) ∧ Below w.heap.size w w'

theorem spec_lev_1 (t : Ex.T) (v : Value) (w : World) (h : t.kind = 1) : Calls Try.prog 81 #[exV t v] w (RetI w 13) := by
  unfold RetI
  go_enter Try.func81, Try.ntmps81
  go_wp2
  go_ret
  exact ⟨rfl, bl1 _ _⟩
theorem spec_lev_2 (t : Ex.T) (v : Value) (w : World) (h : t.kind = 2) : Calls Try.prog 81 #[exV t v] w (RetI w 13) := by
  unfold RetI
  go_enter Try.func81, Try.ntmps81
  go_wp2
  go_ret
  exact ⟨rfl, bl1 _ _⟩
theorem spec_lev_3 (t : Ex.T) (v : Value) (w : World) (h : t.kind = 3) : Calls Try.prog 81 #[exV t v] w (RetI w 13) := by
  unfold RetI
  go_enter Try.func81, Try.ntmps81
  go_wp2
  go_ret
  exact ⟨rfl, bl1 _ _⟩
theorem spec_lev_4 (t : Ex.T) (v : Value) (w : World) (h : t.kind = 4) : Calls Try.prog 81 #[exV t v] w (RetI w 13) := by
  unfold RetI
  go_enter Try.func81, Try.ntmps81
  go_wp2
  go_ret
  exact ⟨rfl, bl1 _ _⟩
theorem spec_lev_5 (t : Ex.T) (v : Value) (w : World) (h : t.kind = 5) : Calls Try.prog 81 #[exV t v] w (RetI w 13) := by
  unfold RetI
  go_enter Try.func81, Try.ntmps81
  go_wp2
  go_ret
  exact ⟨rfl, bl1 _ _⟩
theorem spec_lev_6 (t : Ex.T) (v : Value) (w : World) (h : t.kind = 6) : Calls Try.prog 81 #[exV t v] w (RetI w 13) := by
  unfold RetI
  go_enter Try.func81, Try.ntmps81
  go_wp2
  go_ret
  exact ⟨rfl, bl1 _ _⟩
theorem spec_lev_7 (t : Ex.T) (v : Value) (w : World) (h : t.kind = 7) : Calls Try.prog 81 #[exV t v] w (RetI w 12) := by
  unfold RetI
  go_enter Try.func81, Try.ntmps81
  go_wp2
  go_ret
  exact ⟨rfl, bl1 _ _⟩
theorem spec_lev_8 (t : Ex.T) (v : Value) (w : World) (h : t.kind = 8) : Calls Try.prog 81 #[exV t v] w (RetI w (Ex.lvl t.text.data.toList)) := by
  unfold RetI
  have HC := Lib.hid (fun wr => spec_level t.text wr)
  generalize Ex.lvl t.text.data.toList = z at HC ⊢
  go_enter Try.func81, Try.ntmps81
  go_wp2_with (go_at_call 67; refine (HC.out _).mono ?_; rintro e w1 ⟨rfl, rfl⟩)
  go_ret
  exact ⟨rfl, bl1 _ _⟩
theorem spec_lev_9 (t : Ex.T) (v : Value) (w : World) (h : t.kind = 9) : Calls Try.prog 81 #[exV t v] w (RetI w 4) := by
  unfold RetI
  go_enter Try.func81, Try.ntmps81
  go_wp2
  go_ret
  exact ⟨rfl, bl1 _ _⟩
theorem spec_lev_10 (t : Ex.T) (v : Value) (w : World) (h : t.kind = 10) : Calls Try.prog 81 #[exV t v] w (RetI w 13) := by
  unfold RetI
  go_enter Try.func81, Try.ntmps81
  go_wp2
  go_ret
  exact ⟨rfl, bl1 _ _⟩
theorem spec_lev_11 (t : Ex.T) (v : Value) (w : World) (h : t.kind = 11) : Calls Try.prog 81 #[exV t v] w (RetI w 13) := by
  unfold RetI
  go_enter Try.func81, Try.ntmps81
  go_wp2
  go_ret
  exact ⟨rfl, bl1 _ _⟩
theorem spec_lev_12 (t : Ex.T) (v : Value) (w : World) (h : t.kind = 12) : Calls Try.prog 81 #[exV t v] w (RetI w 13) := by
  unfold RetI
  go_enter Try.func81, Try.ntmps81
  go_wp2
  go_ret
  exact ⟨rfl, bl1 _ _⟩
theorem spec_lev_13 (t : Ex.T) (v : Value) (w : World) (h : t.kind = 13) : Calls Try.prog 81 #[exV t v] w (RetI w 13) := by
  unfold RetI
  go_enter Try.func81, Try.ntmps81
  go_wp2
  go_ret
  exact ⟨rfl, bl1 _ _⟩
theorem spec_lev_14 (t : Ex.T) (v : Value) (w : World) (h : t.kind = 14) : Calls Try.prog 81 #[exV t v] w (RetI w 13) := by
  unfold RetI
  go_enter Try.func81, Try.ntmps81
  go_wp2
  go_ret
  exact ⟨rfl, bl1 _ _⟩
theorem spec_lev_15 (t : Ex.T) (v : Value) (w : World) (h : t.kind = 15) : Calls Try.prog 81 #[exV t v] w (RetI w 0) := by
  unfold RetI
  go_enter Try.func81, Try.ntmps81
  go_wp2
  go_ret
  exact ⟨rfl, bl1 _ _⟩
theorem spec_lev_16 (t : Ex.T) (v : Value) (w : World) (h : t.kind = 16) : Calls Try.prog 81 #[exV t v] w (RetI w 0) := by
  unfold RetI
  go_enter Try.func81, Try.ntmps81
  go_wp2
  go_ret
  exact ⟨rfl, bl1 _ _⟩
theorem spec_lev_17 (t : Ex.T) (v : Value) (w : World) (h : t.kind = 17) : Calls Try.prog 81 #[exV t v] w (RetI w 0) := by
  unfold RetI
  go_enter Try.func81, Try.ntmps81
  go_wp2
  go_ret
  exact ⟨rfl, bl1 _ _⟩
theorem spec_lev_18 (t : Ex.T) (v : Value) (w : World) (h : t.kind = 18) : Calls Try.prog 81 #[exV t v] w (RetI w 0) := by
  unfold RetI
  go_enter Try.func81, Try.ntmps81
  go_wp2
  go_ret
  exact ⟨rfl, bl1 _ _⟩
theorem spec_lev_19 (t : Ex.T) (v : Value) (w : World) (h : t.kind = 19) : Calls Try.prog 81 #[exV t v] w (RetI w 0) := by
  unfold RetI
  go_enter Try.func81, Try.ntmps81
  go_wp2
  go_ret
  exact ⟨rfl, bl1 _ _⟩
theorem spec_lev_20 (t : Ex.T) (v : Value) (w : World) (h : t.kind = 20) : Calls Try.prog 81 #[exV t v] w (RetI w 0) := by
  unfold RetI
  go_enter Try.func81, Try.ntmps81
  go_wp2
  go_ret
  exact ⟨rfl, bl1 _ _⟩
theorem spec_lev_21 (t : Ex.T) (v : Value) (w : World) (h : t.kind = 21) : Calls Try.prog 81 #[exV t v] w (RetI w 0) := by
  unfold RetI
  go_enter Try.func81, Try.ntmps81
  go_wp2
  go_ret
  exact ⟨rfl, bl1 _ _⟩
theorem spec_lev_22 (t : Ex.T) (v : Value) (w : World) (h : t.kind = 22) : Calls Try.prog 81 #[exV t v] w (RetI w 0) := by
  unfold RetI
  go_enter Try.func81, Try.ntmps81
  go_wp2
  go_ret
  exact ⟨rfl, bl1 _ _⟩
theorem spec_lev_23 (t : Ex.T) (v : Value) (w : World) (h : t.kind = 23) : Calls Try.prog 81 #[exV t v] w (RetI w 13) := by
  unfold RetI
  go_enter Try.func81, Try.ntmps81
  go_wp2
  go_ret
  exact ⟨rfl, bl1 _ _⟩
theorem spec_lev_24 (t : Ex.T) (v : Value) (w : World) (h : t.kind = 24) : Calls Try.prog 81 #[exV t v] w (RetI w 0) := by
  unfold RetI
  go_enter Try.func81, Try.ntmps81
  go_wp2
  go_ret
  exact ⟨rfl, bl1 _ _⟩
theorem spec_lev_25 (t : Ex.T) (v : Value) (w : World) (h : t.kind = 25) : Calls Try.prog 81 #[exV t v] w (RetI w 13) := by
  unfold RetI
  go_enter Try.func81, Try.ntmps81
  go_wp2
  go_ret
  exact ⟨rfl, bl1 _ _⟩
theorem spec_lev_26 (t : Ex.T) (v : Value) (w : World) (h : t.kind = 26) : Calls Try.prog 81 #[exV t v] w (RetI w 0) := by
  unfold RetI
  go_enter Try.func81, Try.ntmps81
  go_wp2
  go_ret
  exact ⟨rfl, bl1 _ _⟩
theorem spec_lev_27 (t : Ex.T) (v : Value) (w : World) (h : t.kind = 27) : Calls Try.prog 81 #[exV t v] w (RetI w 12) := by
  unfold RetI
  go_enter Try.func81, Try.ntmps81
  go_wp2
  go_ret
  exact ⟨rfl, bl1 _ _⟩
theorem spec_lev_28 (t : Ex.T) (v : Value) (w : World) (h : t.kind = 28) : Calls Try.prog 81 #[exV t v] w (RetI w 13) := by
  unfold RetI
  go_enter Try.func81, Try.ntmps81
  go_wp2
  go_ret
  exact ⟨rfl, bl1 _ _⟩
theorem spec_lev_29 (t : Ex.T) (v : Value) (w : World) (h : t.kind = 29) : Calls Try.prog 81 #[exV t v] w (RetI w 13) := by
  unfold RetI
  go_enter Try.func81, Try.ntmps81
  go_wp2
  go_ret
  exact ⟨rfl, bl1 _ _⟩
theorem spec_lev (t : Ex.T) (v : Value) (w : World) (h1 : 1 ≤ t.kind) (h2 : t.kind ≤ 29) : Calls Try.prog 81 #[exV t v] w (RetI w t.lev) := by
  have hc : t.kind = 1 ∨ t.kind = 2 ∨ t.kind = 3 ∨ t.kind = 4 ∨ t.kind = 5 ∨ t.kind = 6 ∨ t.kind = 7 ∨ t.kind = 8 ∨ t.kind = 9 ∨ t.kind = 10 ∨ t.kind = 11 ∨ t.kind = 12 ∨ t.kind = 13 ∨ t.kind = 14 ∨ t.kind = 15 ∨ t.kind = 16 ∨ t.kind = 17 ∨ t.kind = 18 ∨ t.kind = 19 ∨ t.kind = 20 ∨ t.kind = 21 ∨ t.kind = 22 ∨ t.kind = 23 ∨ t.kind = 24 ∨ t.kind = 25 ∨ t.kind = 26 ∨ t.kind = 27 ∨ t.kind = 28 ∨ t.kind = 29 := by omega
  rcases hc with h | h | h | h | h | h | h | h | h | h | h | h | h | h | h | h | h | h | h | h | h | h | h | h | h | h | h | h | h
  · rw [show t.lev = 13 by unfold Ex.T.lev Ex.levK; rw [h]; rfl]; exact spec_lev_1 t v w h
  · rw [show t.lev = 13 by unfold Ex.T.lev Ex.levK; rw [h]; rfl]; exact spec_lev_2 t v w h
  · rw [show t.lev = 13 by unfold Ex.T.lev Ex.levK; rw [h]; rfl]; exact spec_lev_3 t v w h
  · rw [show t.lev = 13 by unfold Ex.T.lev Ex.levK; rw [h]; rfl]; exact spec_lev_4 t v w h
  · rw [show t.lev = 13 by unfold Ex.T.lev Ex.levK; rw [h]; rfl]; exact spec_lev_5 t v w h
  · rw [show t.lev = 13 by unfold Ex.T.lev Ex.levK; rw [h]; rfl]; exact spec_lev_6 t v w h
  · rw [show t.lev = 12 by unfold Ex.T.lev Ex.levK; rw [h]; rfl]; exact spec_lev_7 t v w h
  · rw [show t.lev = Ex.lvl t.text.data.toList by unfold Ex.T.lev Ex.levK; rw [h]; rfl]; exact spec_lev_8 t v w h
  · rw [show t.lev = 4 by unfold Ex.T.lev Ex.levK; rw [h]; rfl]; exact spec_lev_9 t v w h
  · rw [show t.lev = 13 by unfold Ex.T.lev Ex.levK; rw [h]; rfl]; exact spec_lev_10 t v w h
  · rw [show t.lev = 13 by unfold Ex.T.lev Ex.levK; rw [h]; rfl]; exact spec_lev_11 t v w h
  · rw [show t.lev = 13 by unfold Ex.T.lev Ex.levK; rw [h]; rfl]; exact spec_lev_12 t v w h
  · rw [show t.lev = 13 by unfold Ex.T.lev Ex.levK; rw [h]; rfl]; exact spec_lev_13 t v w h
  · rw [show t.lev = 13 by unfold Ex.T.lev Ex.levK; rw [h]; rfl]; exact spec_lev_14 t v w h
  · rw [show t.lev = 0 by unfold Ex.T.lev Ex.levK; rw [h]; rfl]; exact spec_lev_15 t v w h
  · rw [show t.lev = 0 by unfold Ex.T.lev Ex.levK; rw [h]; rfl]; exact spec_lev_16 t v w h
  · rw [show t.lev = 0 by unfold Ex.T.lev Ex.levK; rw [h]; rfl]; exact spec_lev_17 t v w h
  · rw [show t.lev = 0 by unfold Ex.T.lev Ex.levK; rw [h]; rfl]; exact spec_lev_18 t v w h
  · rw [show t.lev = 0 by unfold Ex.T.lev Ex.levK; rw [h]; rfl]; exact spec_lev_19 t v w h
  · rw [show t.lev = 0 by unfold Ex.T.lev Ex.levK; rw [h]; rfl]; exact spec_lev_20 t v w h
  · rw [show t.lev = 0 by unfold Ex.T.lev Ex.levK; rw [h]; rfl]; exact spec_lev_21 t v w h
  · rw [show t.lev = 0 by unfold Ex.T.lev Ex.levK; rw [h]; rfl]; exact spec_lev_22 t v w h
  · rw [show t.lev = 13 by unfold Ex.T.lev Ex.levK; rw [h]; rfl]; exact spec_lev_23 t v w h
  · rw [show t.lev = 0 by unfold Ex.T.lev Ex.levK; rw [h]; rfl]; exact spec_lev_24 t v w h
  · rw [show t.lev = 13 by unfold Ex.T.lev Ex.levK; rw [h]; rfl]; exact spec_lev_25 t v w h
  · rw [show t.lev = 0 by unfold Ex.T.lev Ex.levK; rw [h]; rfl]; exact spec_lev_26 t v w h
  · rw [show t.lev = 12 by unfold Ex.T.lev Ex.levK; rw [h]; rfl]; exact spec_lev_27 t v w h
  · rw [show t.lev = 13 by unfold Ex.T.lev Ex.levK; rw [h]; rfl]; exact spec_lev_28 t v w h
  · rw [show t.lev = 13 by unfold Ex.T.lev Ex.levK; rw [h]; rfl]; exact spec_lev_29 t v w h
/-- A tree is printed as it is. -/
def NodeC (t : Ex.T) : Prop := ∀ (w : World) (v : Value), Kids w v t.kids → Calls Try.prog 40 #[exV t v] w (RetT w (str8 t.form))
/-- A tree is printed where a level is required. -/
def AtC (t : Ex.T) : Prop := ∀ (n : Int) (w : World) (v : Value), Kids w v t.kids → Calls Try.prog 66 #[exV t v, .int .i64 n] w (RetT w (str8 (t.fit n)))
theorem str8_app (a b : List UInt8) : str8 a ++ str8 b = str8 (a ++ b) := by apply ByteArray.ext; simp [str8]
theorem str8_of (s : ByteArray) : str8 s.data.toList = s := str8_data s
theorem brk_yes {b : Bool} (h : b = true) (l : List UInt8) : Ex.brk b l = [40] ++ l ++ [41] := by unfold Ex.brk; rw [if_pos h]
theorem brk_no {b : Bool} (h : b = false) (l : List UInt8) : Ex.brk b l = l := by unfold Ex.brk; rw [if_neg (by rw [h]; decide)]
theorem ret_str {a b : ByteArray} (h : a = b) : Ending.returned (.string a) = .returned (.string b) := by rw [h]
set_option maxHeartbeats 1600000 in
theorem spec_at (t : Ex.T) (hN : NodeC t) (h1 : 1 ≤ t.kind) (h2 : t.kind ≤ 29) (hz : t.form.length ≤ 1048576) : AtC t := by
  intro n w v hk
  unfold RetT
  have HK := Lib.hid hk
  have HL := Lib.hid (fun W => spec_lev t v W h1 h2)
  have HF := Lib.hid (show t.fit n = Ex.brk (decide (t.lev < n)) t.form from rfl)
  unfold RetI at HL
  unfold NodeC RetT at hN
  have HN := Lib.hid hN
  have hsz : (str8 t.form).size ≤ 1048576 := by rw [str8_size]; exact hz
  obtain ⟨s, hs⟩ : ∃ s, str8 t.form = s := ⟨_, rfl⟩
  rw [hs] at HN hsz
  have HS := Lib.hid hs
  have HE := Lib.hid (CellsE.new w t v 45)
  clear hk hz h1 h2 hs hN
  by_cases hd : t.lev < n
  · have hb : decide (t.lev < n) = true := decide_eq_true hd
    have HB := Lib.hid (brk_yes hb t.form)
    rw [HF.out]
    clear hd
    generalize t.lev = z at HL hb HB HF ⊢
    go_enter Try.func66, Try.ntmps66
    go_wp2_with fail
    refine (HL.out _).mono ?_
    rintro e w1 ⟨rfl, b1⟩
    have B1 := Lib.hid (below_then (bl1 _ _) b1)
    obtain ⟨e0, e1, e2, e3, e4⟩ := HE.out.later b1
    clear b1
    go_wp2_with fail
    refine (HN.out _ _ (HK.out.later B1.out)).mono ?_
    rintro e w2 ⟨rfl, b2⟩
    have B2 := Lib.hid (below_then B1.out b2)
    clear b2
    go_wp2
    go_ret
    exact ⟨ret_str (by rw [HB.out, ← HS.out]; apply ByteArray.ext; simp [str8]), B2.out⟩
  · have hb : decide (t.lev < n) = false := decide_eq_false hd
    have HB := Lib.hid (brk_no hb t.form)
    rw [HF.out]
    clear hd
    generalize t.lev = z at HL hb HB HF ⊢
    go_enter Try.func66, Try.ntmps66
    go_wp2_with fail
    refine (HL.out _).mono ?_
    rintro e w1 ⟨rfl, b1⟩
    have B1 := Lib.hid (below_then (bl1 _ _) b1)
    obtain ⟨e0, e1, e2, e3, e4⟩ := HE.out.later b1
    clear b1
    go_wp2_with fail
    refine (HN.out _ _ (HK.out.later B1.out)).mono ?_
    rintro e w2 ⟨rfl, b2⟩
    have B2 := Lib.hid (below_then B1.out b2)
    clear b2
    go_wp2
    go_ret
    exact ⟨ret_str (by rw [HB.out, ← HS.out]), B2.out⟩
end Go.Proofs.Ytiiogpafgoeblaa
/- The program's FormatInt returns the decimal form, at every integer. No conditions. -/
namespace Go.Proofs.Ytiiogpafgoeblaa
open Go.RowKit

/-- The block B holds the letters l at its end, from place at on. -/
def Holds (w : World) (B at_ : Nat) (l : List UInt8) : Prop :=
  (∀ j, j < 20 → ∃ v, w.cell? ⟨B, j, none⟩ = some v) ∧ (∀ j, w.frozen? ⟨B, j, none⟩ = false) ∧ (∀ j (h : j < l.length), w.cell? ⟨B, at_ + j, none⟩ = some (.int .u8 (l[j].toNat : Int)))

theorem holds_start (w : World) (C : Array Value) (t : TypeId) (hC : C.size = 20) : Holds (w.alloc (.cells C t)) w.heap.size 20 [] := by
  refine ⟨fun j hj => ⟨C[j]'(by omega), ?_⟩, fun j => ?_, fun j h => by simp at h⟩
  · rw [World.cell?_alloc_mark]; exact Array.getElem?_eq_getElem _
  · rw [World.frozen?_alloc_mark]; simp

theorem holds_next {w : World} {B p : Nat} {l : List UInt8} (h : Holds w B (p + 1) l) (hp : p < 20) (b : UInt8) (v : Value) (hv : v = .int .u8 (b.toNat : Int)) : Holds (w.setCell ⟨B, p, none⟩ v) B p (b :: l) := by
  subst hv
  obtain ⟨h1, h2, h3⟩ := h
  have hset : ∀ j, j ≠ p → (w.setCell ⟨B, p, none⟩ (.int .u8 (b.toNat : Int))).cell? ⟨B, j, none⟩ = w.cell? ⟨B, j, none⟩ := fun j hj => by
    go_simp
  refine ⟨fun j hj => ?_, fun j => by rw [World.frozen?_setCell]; exact h2 j, fun j hj => ?_⟩
  · obtain ⟨u, hu⟩ := h1 j hj
    by_cases e : j = p
    · subst e; exact ⟨_, by go_simp; exact rfl⟩
    · exact ⟨u, by rw [hset j e]; exact hu⟩
  · obtain ⟨u, hu⟩ := h1 p hp
    cases j with
    | zero => simp; go_simp
    | succ j => rw [hset _ (by omega), show p + (j + 1) = p + 1 + j by omega]; simpa using h3 j (by simpa using hj)

/-- The last letters of the array, as a slice. -/
theorem slice_at (B p : Nat) (hp : p < 20) (w : World) : (Instr.sliceAt 131 (.pointer (some ⟨B, 0, none⟩)) (some (.int .i64 (p : Int))) none none).run Try.prog w = .ok (.slice (some ⟨B, p, none⟩) (20 - p) (20 - p)) w := by
  have e : Try.prog.arrayLen 131 = 20 := by kernel_rfl
  have hs : ∀ wx : World, (sizeOf (Try.prog.elem 131)).run Try.prog wx = .ok 1 wx := fun _ => by kernel_rfl
  rw [run_sliceAt_array_l w 131 ⟨B, 0, none⟩ (by kernel_rfl) .i64 p (by omega) (by rw [e]; omega), hs, e]
  have e0 : ¬ (20 = p) := by omega
  by_cases e1 : p = 0
  · subst e1; simp [Result.andThen, slicedAt, Addr.add]
  · simp [Result.andThen, slicedAt, Addr.add, e0, e1]

/-- And those letters as a string. -/
theorem conv_at {w : World} {B p : Nat} {l : List UInt8} (h : Holds w B p l) (n : Nat) (hn : n = l.length) : (convert 107 9 (.slice (some ⟨B, p, none⟩) n n)).run Try.prog w = .ok (.string ⟨l.toArray⟩) w := by
  subst hn
  exact run_convert_bytes_back w 107 9 5 ⟨B, p, none⟩ _ l Try.underlying107 Try.underlying5 Try.underlying9 (fun j hj => by
    rw [show (⟨B, p, none⟩ : Addr).add j = ⟨B, p + j, none⟩ from by simp [Addr.add]]
    exact h.2.2 j hj)

set_option maxRecDepth 100000 in
set_option maxHeartbeats 400000 in
theorem impl_fmt_nn (n : Nat) (w : World) (h1 : (n : Int) ≤ 9223372036854775807) :
    Calls Try.prog 87 #[.int .i64 n] w fun e w' => e = .returned (.string ⟨(Dec.fmtN n).toArray⟩) ∧ Below w.heap.size w w' := by
  go_enter Try.func87, Try.ntmps87
  go_wp2
  go_loopw [3, 5, 12] (fun x a i wr => ∃ (m p : Nat) (l : List UInt8), x = .int .u64 m ∧ m ≤ n ∧ a = .int .i64 (p + 1) ∧ i = .int .i64 l.length ∧ Below w.heap.size w wr ∧ Holds wr w.heap.size (p + 1) l ∧ p + 1 + l.length = 20 ∧ Dec.Left n m l) (fun x _ _ _ => (intOf x).toNat)
  case atStart =>
    exact ⟨n, 19, [], rfl, by omega, by rfl, by rfl, (Below.refl _ _).alloc (Nat.le_refl _) _, holds_start w _ _ rfl, by rfl, Dec.left_start n⟩
  case round =>
    obtain ⟨m, p, l, rfl, h2, rfl, rfl, h3, h4, h5, h6⟩ := hrel
    have h7 := Dec.left_short (by omega) h6
    have H5 := Lib.hid h5
    have H6 := Lib.hid h6
    have h8 : p < 20 := by omega
    obtain ⟨v, hv⟩ := h4.1 p h8
    have hf := h4.2.1 p
    have H4 := Lib.hid h4
    clear h4 h5 h6
    have h9 : (l.length : Int) < 19 := by omega
    by_cases hm : m / 10 = 0
    · have hsl := slice_at w.heap.size p h8
      have hcv := conv_at (holds_next H4.out h8 (Dec.dg m) (.int .u8 (48 + ↑m % 10)) (by rw [Dec.dg_toNat]; go_num)) (20 - p) (by have := H5.out; simp; omega)
      go_wp2
      go_ret
      exact ⟨by rw [Dec.left_end H6.out hm]; rfl, h3.setCell (Nat.le_refl _) _⟩
    · go_wp2
      go_roundw
      case rel =>
        obtain ⟨p, rfl⟩ : ∃ q, p = q + 1 := ⟨p - 1, by have := H5.out; omega⟩
        exact ⟨m / 10, p, Dec.dg m :: l, by go_num, by omega, by go_num, by simp, h3.setCell (Nat.le_refl _) _, holds_next H4.out h8 _ _ (by rw [Dec.dg_toNat]; go_num), by have := H5.out; simp; omega, Dec.left_next H6.out (by omega)⟩
      case measure => simp [intOf]; omega
theorem neg_size (n : Nat) (h1 : (n : Int) ≤ 9223372036854775808) : IntKind.u64.wrap (-IntKind.u64.wrap (-(n : Int))) = n := by
  simp only [IntKind.wrap, IntKind.signed, IntKind.bits]
  simp
  omega

set_option maxRecDepth 100000 in
set_option maxHeartbeats 400000 in
theorem impl_fmt_neg (n : Nat) (w : World) (h0 : 0 < (n : Int)) (h1 : (n : Int) ≤ 9223372036854775808) :
    Calls Try.prog 87 #[.int .i64 (-(n : Int))] w fun e w' => e = .returned (.string ⟨(45 :: Dec.fmtN n).toArray⟩) ∧ Below w.heap.size w w' := by
  go_enter Try.func87, Try.ntmps87
  go_wp2
  go_loopw [3, 5, 12] (fun x a i wr => ∃ (m p : Nat) (l : List UInt8), x = .int .u64 m ∧ m ≤ n ∧ a = .int .i64 (p + 1) ∧ i = .int .i64 l.length ∧ Below w.heap.size w wr ∧ Holds wr w.heap.size (p + 1) l ∧ p + 1 + l.length = 20 ∧ Dec.Left n m l) (fun x _ _ _ => (intOf x).toNat)
  case atStart =>
    exact ⟨n, 19, [], by rw [neg_size n h1], by omega, by rfl, by rfl, (Below.refl _ _).alloc (Nat.le_refl _) _, holds_start w _ _ rfl, by rfl, Dec.left_start n⟩
  case round =>
    obtain ⟨m, p, l, rfl, h2, rfl, rfl, h3, h4, h5, h6⟩ := hrel
    have h7 := Dec.left_short (by omega) h6
    obtain ⟨q, rfl⟩ : ∃ q, p = q + 1 := ⟨p - 1, by omega⟩
    have H5 := Lib.hid h5
    have H6 := Lib.hid h6
    have h8 : q + 1 < 20 := by omega
    obtain ⟨v, hv⟩ := h4.1 (q + 1) h8
    obtain ⟨v2, hv2⟩ := h4.1 q (by omega)
    have hf := h4.2.1 (q + 1)
    have hf2 := h4.2.1 q
    have H4 := Lib.hid h4
    clear h4 h5 h6
    have h9 : (l.length : Int) < 19 := by omega
    by_cases hm : m / 10 = 0
    · have hsl := slice_at w.heap.size q (by omega)
      have hcv := conv_at (holds_next (holds_next H4.out h8 (Dec.dg m) (.int .u8 (48 + ↑m % 10)) (by rw [Dec.dg_toNat]; go_num)) (by omega) 45 (.int .u8 45) (by rfl)) (20 - q) (by have := H5.out; simp; omega)
      go_wp2
      go_ret
      exact ⟨by rw [Dec.left_end H6.out hm]; rfl, (h3.setCell (Nat.le_refl _) _).setCell (Nat.le_refl _) _⟩
    · go_wp2
      go_roundw
      case rel =>
        exact ⟨m / 10, q, Dec.dg m :: l, by go_num, by omega, by go_num, by simp, h3.setCell (Nat.le_refl _) _, holds_next H4.out h8 _ _ (by rw [Dec.dg_toNat]; go_num), by have := H5.out; simp; omega, Dec.left_next H6.out (by omega)⟩
      case measure => simp [intOf]; omega

/-- The program's FormatInt. -/
theorem impl_fmt (n : Int) (w : World) (h0 : -9223372036854775808 ≤ n) (h1 : n ≤ 9223372036854775807) :
    Calls Try.prog 87 #[.int .i64 n] w fun e w' => e = .returned (.string ⟨(Dec.fmt n).toArray⟩) ∧ Below w.heap.size w w' := by
  by_cases h : 0 ≤ n
  · have h2 := impl_fmt_nn n.toNat w (by omega)
    rw [Int.toNat_of_nonneg h, ← Dec.fmt_nn n h] at h2
    exact h2
  · have h2 := impl_fmt_neg (-n).toNat w (by omega) (by omega)
    rw [Int.toNat_of_nonneg (by omega), Int.neg_neg, ← Dec.fmt_neg n (by omega)] at h2
    exact h2
end Go.Proofs.Ytiiogpafgoeblaa
/- The reference model's SplitByte returns the parts of a string, in memory of its own. -/
namespace Go.Proofs.Ytiiogpafgoeblaa
open Go.RowKit
set_option linter.unusedVariables false

theorem info_string : (Try.prog.info? 9).map (fun i => (i.zero, i.size, i.bytes)) = some (some (.string ByteArray.empty), 1, 16) := by kernel_rfl

/-- Strings of the call's own: a slice whose elements are l, in a block from base on. -/
def Owns (w : World) (base : Nat) (v : Value) (l : List ByteArray) : Prop := w.ownsRow base 9 1 v l.length (l.map Value.string)

theorem map_snoc (l : List ByteArray) (x : ByteArray) : (l ++ [x]).map Value.string = l.map Value.string ++ [Value.string x] := by simp

theorem owns_app {w1 : World} {base : Nat} {v' : Value} {l : List ByteArray} {x : ByteArray} (h : w1.ownsRow base 9 1 v' (l.length + 1) (l.map Value.string ++ [Value.string x])) : Owns w1 base v' (l ++ [x]) := by
  unfold Owns; rw [map_snoc, List.length_append]; exact h

theorem below_app {w wr w1 : World} {v : Value} {l : List ByteArray} {o : Obj} (hb : Below w.heap.size w wr) (hown : Owns wr w.heap.size v l) (hg : (wr.alloc o).grownBy w1 v.ownBlock) : Below w.heap.size w w1 :=
  (hb.alloc hb.size o).grown hg (by have := hb.size; simp; omega) (fun k hk => (hown.lt k hk).1)

theorem owns_below {w w1 : World} {base : Nat} {v : Value} {l : List ByteArray} (h : Owns w base v l) (hb : Below w.heap.size w w1) : Owns w1 base v l := by
  refine ⟨h.1, ?_⟩
  rcases h.2 with hn | ⟨g, cap, cur, hv, hg, hgg, r⟩
  · exact .inl hn
  · exact .inr ⟨g, cap, cur, hv, hg, by rw [hb.block g (Array.getElem?_eq_some_iff.1 hgg).1]; exact hgg, r⟩

theorem new_cell (w : World) (x : Value) (t : TypeId) : ∀ (j : Nat) (u : Value), [x][j]? = some u → (w.alloc (.cells #[x] t)).cell? ((⟨w.heap.size, 0, none⟩ : Addr).add j) = some u := by
  intro j u hj
  match j, hj with
  | 0, hj => simp at hj; subst hj; simp [Addr.add]

theorem one_string (x : ByteArray) : ∀ u ∈ [Value.string x], u.oneCell' = true := by
  intro u hu; simp at hu; subst hu; rfl

theorem max_small {n : Nat} (h : n ≤ 1048577) : n ≤ maxLen := by unfold maxLen; omega

end Go.Proofs.Ytiiogpafgoeblaa
