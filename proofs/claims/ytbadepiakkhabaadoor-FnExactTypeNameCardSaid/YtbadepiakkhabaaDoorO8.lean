/- TypeName of the program and of the reference model. The table reads as the program's text lays it. -/
import Derived.Test.YtbadepiakkhabaaDoorO1
import Derived.Test.YtbadepiakkhabaaDoorTB
import Derived.BigQuiet
namespace Go.Proofs.YtbadepiakkhabaaDoor
open Go.RowKit
set_option linter.unusedVariables false

/-- The names of the types. -/
def typL : List ByteArray := [⟨#[110, 117, 108, 108]⟩, ⟨#[105, 110, 116, 101, 103, 101, 114]⟩, ⟨#[115, 116, 114, 105, 110, 103]⟩, ⟨#[99, 115, 101, 116]⟩, ⟨#[108, 105, 115, 116]⟩, ⟨#[116, 97, 98, 108, 101]⟩, ⟨#[115, 101, 116]⟩, ⟨#[114, 101, 99, 111, 114, 100]⟩, ⟨#[112, 114, 111, 99, 101, 100, 117, 114, 101]⟩, ⟨#[112, 114, 111, 99, 101, 100, 117, 114, 101]⟩, ⟨#[112, 114, 111, 99, 101, 100, 117, 114, 101]⟩, ⟨#[99, 111, 45, 101, 120, 112, 114, 101, 115, 115, 105, 111, 110]⟩, ⟨#[112, 97, 116, 116, 101, 114, 110]⟩, ⟨#[118, 97, 114, 105, 97, 98, 108, 101]⟩, ⟨#[118, 97, 114, 105, 97, 98, 108, 101]⟩, ⟨#[118, 97, 114, 105, 97, 98, 108, 101]⟩, ⟨#[118, 97, 114, 105, 97, 98, 108, 101]⟩, ⟨#[118, 97, 114, 105, 97, 98, 108, 101]⟩, ⟨#[118, 97, 114, 105, 97, 98, 108, 101]⟩, ⟨#[102, 114, 97, 109, 101]⟩, ⟨#[115, 99, 97, 110]⟩]
theorem typL_len : typL.length = 21 := rfl
/-- The name of a value's type. -/
def typT (k : Int) : ByteArray := if k = 0 then ⟨#[110, 117, 108, 108]⟩ else if k = 1 then ⟨#[105, 110, 116, 101, 103, 101, 114]⟩ else if k = 2 then ⟨#[115, 116, 114, 105, 110, 103]⟩ else if k = 3 then ⟨#[99, 115, 101, 116]⟩ else if k = 4 then ⟨#[108, 105, 115, 116]⟩ else if k = 5 then ⟨#[116, 97, 98, 108, 101]⟩ else if k = 6 then ⟨#[115, 101, 116]⟩ else if k = 7 then ⟨#[114, 101, 99, 111, 114, 100]⟩ else if k = 8 then ⟨#[112, 114, 111, 99, 101, 100, 117, 114, 101]⟩ else if k = 9 then ⟨#[112, 114, 111, 99, 101, 100, 117, 114, 101]⟩ else if k = 10 then ⟨#[112, 114, 111, 99, 101, 100, 117, 114, 101]⟩ else if k = 11 then ⟨#[99, 111, 45, 101, 120, 112, 114, 101, 115, 115, 105, 111, 110]⟩ else if k = 12 then ⟨#[112, 97, 116, 116, 101, 114, 110]⟩ else if k = 13 then ⟨#[118, 97, 114, 105, 97, 98, 108, 101]⟩ else if k = 14 then ⟨#[118, 97, 114, 105, 97, 98, 108, 101]⟩ else if k = 15 then ⟨#[118, 97, 114, 105, 97, 98, 108, 101]⟩ else if k = 16 then ⟨#[118, 97, 114, 105, 97, 98, 108, 101]⟩ else if k = 17 then ⟨#[118, 97, 114, 105, 97, 98, 108, 101]⟩ else if k = 18 then ⟨#[118, 97, 114, 105, 97, 98, 108, 101]⟩ else if k = 19 then ⟨#[102, 114, 97, 109, 101]⟩ else if k = 20 then ⟨#[115, 99, 97, 110]⟩ else ⟨#[]⟩
/-- The table of the types' names. -/
abbrev TypsAt (W : World) : Prop := TabAt 0 typL W

theorem impl_tn_0 (n i : Int) (t : ByteArray) (a b : Int) (w : World) (hT : TypsAt w) : Calls Tryd.prog 9 #[vlV 0 n i t a b] w fun e w' => e = .returned (.string ⟨#[110, 117, 108, 108]⟩) ∧ Below w.heap.size w w' := by
  have HK := Lib.hid (fun W => knd_val 0 n i t a b W)
  rw [show Vl.kndF 0 = true from rfl] at HK
  have HT := Lib.hid hT
  have V0 := Lib.hid (Var.new w #[.int .i64 0, .int .i64 n, .int .i64 i, .string t, .int .i64 a, .int .i64 b] 30)
  clear hT
  unfold vlV at HK ⊢
  go_enter Tryd.func9, Tryd.ntmps9
  go_wp2_with fail
  (with_reducible refine (HK.out _).mono ?_)
  rintro e w1 ⟨rfl, b1⟩
  have B1 := Lib.hid (below_then (bl1 _ _) b1)
  have c0 := (V0.out.later b1 0 _ rfl).1
  have ct := (HT.out.later (below_then (bl1 _ _) b1)).cell (k := 0) (x := ⟨#[110, 117, 108, 108]⟩) rfl
  clear b1
  go_wp2
  go_ret
  exact ⟨rfl, B1.out⟩
theorem spec_tn_0 (n i : Int) (t : ByteArray) (a b : Int) (w : World) : Calls Tryd.prog 7 #[vlV 0 n i t a b] w fun e w' => e = .returned (.string ⟨#[110, 117, 108, 108]⟩) ∧ Below w.heap.size w w' := by
  unfold vlV
  go_enter Tryd.func7, Tryd.ntmps7
  go_wp2
  go_ret
  exact ⟨rfl, bl2 _ _ _⟩

theorem impl_tn_1 (n i : Int) (t : ByteArray) (a b : Int) (w : World) (hT : TypsAt w) : Calls Tryd.prog 9 #[vlV 1 n i t a b] w fun e w' => e = .returned (.string ⟨#[105, 110, 116, 101, 103, 101, 114]⟩) ∧ Below w.heap.size w w' := by
  have HK := Lib.hid (fun W => knd_val 1 n i t a b W)
  rw [show Vl.kndF 1 = true from rfl] at HK
  have HT := Lib.hid hT
  have V0 := Lib.hid (Var.new w #[.int .i64 1, .int .i64 n, .int .i64 i, .string t, .int .i64 a, .int .i64 b] 30)
  clear hT
  unfold vlV at HK ⊢
  go_enter Tryd.func9, Tryd.ntmps9
  go_wp2_with fail
  (with_reducible refine (HK.out _).mono ?_)
  rintro e w1 ⟨rfl, b1⟩
  have B1 := Lib.hid (below_then (bl1 _ _) b1)
  have c0 := (V0.out.later b1 0 _ rfl).1
  have ct := (HT.out.later (below_then (bl1 _ _) b1)).cell (k := 1) (x := ⟨#[105, 110, 116, 101, 103, 101, 114]⟩) rfl
  clear b1
  go_wp2
  go_ret
  exact ⟨rfl, B1.out⟩
theorem spec_tn_1 (n i : Int) (t : ByteArray) (a b : Int) (w : World) : Calls Tryd.prog 7 #[vlV 1 n i t a b] w fun e w' => e = .returned (.string ⟨#[105, 110, 116, 101, 103, 101, 114]⟩) ∧ Below w.heap.size w w' := by
  unfold vlV
  go_enter Tryd.func7, Tryd.ntmps7
  go_wp2
  go_ret
  exact ⟨rfl, bl2 _ _ _⟩

theorem impl_tn_2 (n i : Int) (t : ByteArray) (a b : Int) (w : World) (hT : TypsAt w) : Calls Tryd.prog 9 #[vlV 2 n i t a b] w fun e w' => e = .returned (.string ⟨#[115, 116, 114, 105, 110, 103]⟩) ∧ Below w.heap.size w w' := by
  have HK := Lib.hid (fun W => knd_val 2 n i t a b W)
  rw [show Vl.kndF 2 = true from rfl] at HK
  have HT := Lib.hid hT
  have V0 := Lib.hid (Var.new w #[.int .i64 2, .int .i64 n, .int .i64 i, .string t, .int .i64 a, .int .i64 b] 30)
  clear hT
  unfold vlV at HK ⊢
  go_enter Tryd.func9, Tryd.ntmps9
  go_wp2_with fail
  (with_reducible refine (HK.out _).mono ?_)
  rintro e w1 ⟨rfl, b1⟩
  have B1 := Lib.hid (below_then (bl1 _ _) b1)
  have c0 := (V0.out.later b1 0 _ rfl).1
  have ct := (HT.out.later (below_then (bl1 _ _) b1)).cell (k := 2) (x := ⟨#[115, 116, 114, 105, 110, 103]⟩) rfl
  clear b1
  go_wp2
  go_ret
  exact ⟨rfl, B1.out⟩
theorem spec_tn_2 (n i : Int) (t : ByteArray) (a b : Int) (w : World) : Calls Tryd.prog 7 #[vlV 2 n i t a b] w fun e w' => e = .returned (.string ⟨#[115, 116, 114, 105, 110, 103]⟩) ∧ Below w.heap.size w w' := by
  unfold vlV
  go_enter Tryd.func7, Tryd.ntmps7
  go_wp2
  go_ret
  exact ⟨rfl, bl2 _ _ _⟩

theorem impl_tn_3 (n i : Int) (t : ByteArray) (a b : Int) (w : World) (hT : TypsAt w) : Calls Tryd.prog 9 #[vlV 3 n i t a b] w fun e w' => e = .returned (.string ⟨#[99, 115, 101, 116]⟩) ∧ Below w.heap.size w w' := by
  have HK := Lib.hid (fun W => knd_val 3 n i t a b W)
  rw [show Vl.kndF 3 = true from rfl] at HK
  have HT := Lib.hid hT
  have V0 := Lib.hid (Var.new w #[.int .i64 3, .int .i64 n, .int .i64 i, .string t, .int .i64 a, .int .i64 b] 30)
  clear hT
  unfold vlV at HK ⊢
  go_enter Tryd.func9, Tryd.ntmps9
  go_wp2_with fail
  (with_reducible refine (HK.out _).mono ?_)
  rintro e w1 ⟨rfl, b1⟩
  have B1 := Lib.hid (below_then (bl1 _ _) b1)
  have c0 := (V0.out.later b1 0 _ rfl).1
  have ct := (HT.out.later (below_then (bl1 _ _) b1)).cell (k := 3) (x := ⟨#[99, 115, 101, 116]⟩) rfl
  clear b1
  go_wp2
  go_ret
  exact ⟨rfl, B1.out⟩
theorem spec_tn_3 (n i : Int) (t : ByteArray) (a b : Int) (w : World) : Calls Tryd.prog 7 #[vlV 3 n i t a b] w fun e w' => e = .returned (.string ⟨#[99, 115, 101, 116]⟩) ∧ Below w.heap.size w w' := by
  unfold vlV
  go_enter Tryd.func7, Tryd.ntmps7
  go_wp2
  go_ret
  exact ⟨rfl, bl2 _ _ _⟩

theorem impl_tn_4 (n i : Int) (t : ByteArray) (a b : Int) (w : World) (hT : TypsAt w) : Calls Tryd.prog 9 #[vlV 4 n i t a b] w fun e w' => e = .returned (.string ⟨#[108, 105, 115, 116]⟩) ∧ Below w.heap.size w w' := by
  have HK := Lib.hid (fun W => knd_val 4 n i t a b W)
  rw [show Vl.kndF 4 = true from rfl] at HK
  have HT := Lib.hid hT
  have V0 := Lib.hid (Var.new w #[.int .i64 4, .int .i64 n, .int .i64 i, .string t, .int .i64 a, .int .i64 b] 30)
  clear hT
  unfold vlV at HK ⊢
  go_enter Tryd.func9, Tryd.ntmps9
  go_wp2_with fail
  (with_reducible refine (HK.out _).mono ?_)
  rintro e w1 ⟨rfl, b1⟩
  have B1 := Lib.hid (below_then (bl1 _ _) b1)
  have c0 := (V0.out.later b1 0 _ rfl).1
  have ct := (HT.out.later (below_then (bl1 _ _) b1)).cell (k := 4) (x := ⟨#[108, 105, 115, 116]⟩) rfl
  clear b1
  go_wp2
  go_ret
  exact ⟨rfl, B1.out⟩
theorem spec_tn_4 (n i : Int) (t : ByteArray) (a b : Int) (w : World) : Calls Tryd.prog 7 #[vlV 4 n i t a b] w fun e w' => e = .returned (.string ⟨#[108, 105, 115, 116]⟩) ∧ Below w.heap.size w w' := by
  unfold vlV
  go_enter Tryd.func7, Tryd.ntmps7
  go_wp2
  go_ret
  exact ⟨rfl, bl2 _ _ _⟩

theorem impl_tn_5 (n i : Int) (t : ByteArray) (a b : Int) (w : World) (hT : TypsAt w) : Calls Tryd.prog 9 #[vlV 5 n i t a b] w fun e w' => e = .returned (.string ⟨#[116, 97, 98, 108, 101]⟩) ∧ Below w.heap.size w w' := by
  have HK := Lib.hid (fun W => knd_val 5 n i t a b W)
  rw [show Vl.kndF 5 = true from rfl] at HK
  have HT := Lib.hid hT
  have V0 := Lib.hid (Var.new w #[.int .i64 5, .int .i64 n, .int .i64 i, .string t, .int .i64 a, .int .i64 b] 30)
  clear hT
  unfold vlV at HK ⊢
  go_enter Tryd.func9, Tryd.ntmps9
  go_wp2_with fail
  (with_reducible refine (HK.out _).mono ?_)
  rintro e w1 ⟨rfl, b1⟩
  have B1 := Lib.hid (below_then (bl1 _ _) b1)
  have c0 := (V0.out.later b1 0 _ rfl).1
  have ct := (HT.out.later (below_then (bl1 _ _) b1)).cell (k := 5) (x := ⟨#[116, 97, 98, 108, 101]⟩) rfl
  clear b1
  go_wp2
  go_ret
  exact ⟨rfl, B1.out⟩
theorem spec_tn_5 (n i : Int) (t : ByteArray) (a b : Int) (w : World) : Calls Tryd.prog 7 #[vlV 5 n i t a b] w fun e w' => e = .returned (.string ⟨#[116, 97, 98, 108, 101]⟩) ∧ Below w.heap.size w w' := by
  unfold vlV
  go_enter Tryd.func7, Tryd.ntmps7
  go_wp2
  go_ret
  exact ⟨rfl, bl2 _ _ _⟩

theorem impl_tn_6 (n i : Int) (t : ByteArray) (a b : Int) (w : World) (hT : TypsAt w) : Calls Tryd.prog 9 #[vlV 6 n i t a b] w fun e w' => e = .returned (.string ⟨#[115, 101, 116]⟩) ∧ Below w.heap.size w w' := by
  have HK := Lib.hid (fun W => knd_val 6 n i t a b W)
  rw [show Vl.kndF 6 = true from rfl] at HK
  have HT := Lib.hid hT
  have V0 := Lib.hid (Var.new w #[.int .i64 6, .int .i64 n, .int .i64 i, .string t, .int .i64 a, .int .i64 b] 30)
  clear hT
  unfold vlV at HK ⊢
  go_enter Tryd.func9, Tryd.ntmps9
  go_wp2_with fail
  (with_reducible refine (HK.out _).mono ?_)
  rintro e w1 ⟨rfl, b1⟩
  have B1 := Lib.hid (below_then (bl1 _ _) b1)
  have c0 := (V0.out.later b1 0 _ rfl).1
  have ct := (HT.out.later (below_then (bl1 _ _) b1)).cell (k := 6) (x := ⟨#[115, 101, 116]⟩) rfl
  clear b1
  go_wp2
  go_ret
  exact ⟨rfl, B1.out⟩
theorem spec_tn_6 (n i : Int) (t : ByteArray) (a b : Int) (w : World) : Calls Tryd.prog 7 #[vlV 6 n i t a b] w fun e w' => e = .returned (.string ⟨#[115, 101, 116]⟩) ∧ Below w.heap.size w w' := by
  unfold vlV
  go_enter Tryd.func7, Tryd.ntmps7
  go_wp2
  go_ret
  exact ⟨rfl, bl2 _ _ _⟩

theorem impl_tn_7 (n i : Int) (t : ByteArray) (a b : Int) (w : World) (hT : TypsAt w) : Calls Tryd.prog 9 #[vlV 7 n i t a b] w fun e w' => e = .returned (.string ⟨#[114, 101, 99, 111, 114, 100]⟩) ∧ Below w.heap.size w w' := by
  have HK := Lib.hid (fun W => knd_val 7 n i t a b W)
  rw [show Vl.kndF 7 = true from rfl] at HK
  have HT := Lib.hid hT
  have V0 := Lib.hid (Var.new w #[.int .i64 7, .int .i64 n, .int .i64 i, .string t, .int .i64 a, .int .i64 b] 30)
  clear hT
  unfold vlV at HK ⊢
  go_enter Tryd.func9, Tryd.ntmps9
  go_wp2_with fail
  (with_reducible refine (HK.out _).mono ?_)
  rintro e w1 ⟨rfl, b1⟩
  have B1 := Lib.hid (below_then (bl1 _ _) b1)
  have c0 := (V0.out.later b1 0 _ rfl).1
  have ct := (HT.out.later (below_then (bl1 _ _) b1)).cell (k := 7) (x := ⟨#[114, 101, 99, 111, 114, 100]⟩) rfl
  clear b1
  go_wp2
  go_ret
  exact ⟨rfl, B1.out⟩
theorem spec_tn_7 (n i : Int) (t : ByteArray) (a b : Int) (w : World) : Calls Tryd.prog 7 #[vlV 7 n i t a b] w fun e w' => e = .returned (.string ⟨#[114, 101, 99, 111, 114, 100]⟩) ∧ Below w.heap.size w w' := by
  unfold vlV
  go_enter Tryd.func7, Tryd.ntmps7
  go_wp2
  go_ret
  exact ⟨rfl, bl2 _ _ _⟩

theorem impl_tn_8 (n i : Int) (t : ByteArray) (a b : Int) (w : World) (hT : TypsAt w) : Calls Tryd.prog 9 #[vlV 8 n i t a b] w fun e w' => e = .returned (.string ⟨#[112, 114, 111, 99, 101, 100, 117, 114, 101]⟩) ∧ Below w.heap.size w w' := by
  have HK := Lib.hid (fun W => knd_val 8 n i t a b W)
  rw [show Vl.kndF 8 = true from rfl] at HK
  have HT := Lib.hid hT
  have V0 := Lib.hid (Var.new w #[.int .i64 8, .int .i64 n, .int .i64 i, .string t, .int .i64 a, .int .i64 b] 30)
  clear hT
  unfold vlV at HK ⊢
  go_enter Tryd.func9, Tryd.ntmps9
  go_wp2_with fail
  (with_reducible refine (HK.out _).mono ?_)
  rintro e w1 ⟨rfl, b1⟩
  have B1 := Lib.hid (below_then (bl1 _ _) b1)
  have c0 := (V0.out.later b1 0 _ rfl).1
  have ct := (HT.out.later (below_then (bl1 _ _) b1)).cell (k := 8) (x := ⟨#[112, 114, 111, 99, 101, 100, 117, 114, 101]⟩) rfl
  clear b1
  go_wp2
  go_ret
  exact ⟨rfl, B1.out⟩
theorem spec_tn_8 (n i : Int) (t : ByteArray) (a b : Int) (w : World) : Calls Tryd.prog 7 #[vlV 8 n i t a b] w fun e w' => e = .returned (.string ⟨#[112, 114, 111, 99, 101, 100, 117, 114, 101]⟩) ∧ Below w.heap.size w w' := by
  unfold vlV
  go_enter Tryd.func7, Tryd.ntmps7
  go_wp2
  go_ret
  exact ⟨rfl, bl2 _ _ _⟩

theorem impl_tn_9 (n i : Int) (t : ByteArray) (a b : Int) (w : World) (hT : TypsAt w) : Calls Tryd.prog 9 #[vlV 9 n i t a b] w fun e w' => e = .returned (.string ⟨#[112, 114, 111, 99, 101, 100, 117, 114, 101]⟩) ∧ Below w.heap.size w w' := by
  have HK := Lib.hid (fun W => knd_val 9 n i t a b W)
  rw [show Vl.kndF 9 = true from rfl] at HK
  have HT := Lib.hid hT
  have V0 := Lib.hid (Var.new w #[.int .i64 9, .int .i64 n, .int .i64 i, .string t, .int .i64 a, .int .i64 b] 30)
  clear hT
  unfold vlV at HK ⊢
  go_enter Tryd.func9, Tryd.ntmps9
  go_wp2_with fail
  (with_reducible refine (HK.out _).mono ?_)
  rintro e w1 ⟨rfl, b1⟩
  have B1 := Lib.hid (below_then (bl1 _ _) b1)
  have c0 := (V0.out.later b1 0 _ rfl).1
  have ct := (HT.out.later (below_then (bl1 _ _) b1)).cell (k := 9) (x := ⟨#[112, 114, 111, 99, 101, 100, 117, 114, 101]⟩) rfl
  clear b1
  go_wp2
  go_ret
  exact ⟨rfl, B1.out⟩
theorem spec_tn_9 (n i : Int) (t : ByteArray) (a b : Int) (w : World) : Calls Tryd.prog 7 #[vlV 9 n i t a b] w fun e w' => e = .returned (.string ⟨#[112, 114, 111, 99, 101, 100, 117, 114, 101]⟩) ∧ Below w.heap.size w w' := by
  unfold vlV
  go_enter Tryd.func7, Tryd.ntmps7
  go_wp2
  go_ret
  exact ⟨rfl, bl2 _ _ _⟩

theorem impl_tn_10 (n i : Int) (t : ByteArray) (a b : Int) (w : World) (hT : TypsAt w) : Calls Tryd.prog 9 #[vlV 10 n i t a b] w fun e w' => e = .returned (.string ⟨#[112, 114, 111, 99, 101, 100, 117, 114, 101]⟩) ∧ Below w.heap.size w w' := by
  have HK := Lib.hid (fun W => knd_val 10 n i t a b W)
  rw [show Vl.kndF 10 = true from rfl] at HK
  have HT := Lib.hid hT
  have V0 := Lib.hid (Var.new w #[.int .i64 10, .int .i64 n, .int .i64 i, .string t, .int .i64 a, .int .i64 b] 30)
  clear hT
  unfold vlV at HK ⊢
  go_enter Tryd.func9, Tryd.ntmps9
  go_wp2_with fail
  (with_reducible refine (HK.out _).mono ?_)
  rintro e w1 ⟨rfl, b1⟩
  have B1 := Lib.hid (below_then (bl1 _ _) b1)
  have c0 := (V0.out.later b1 0 _ rfl).1
  have ct := (HT.out.later (below_then (bl1 _ _) b1)).cell (k := 10) (x := ⟨#[112, 114, 111, 99, 101, 100, 117, 114, 101]⟩) rfl
  clear b1
  go_wp2
  go_ret
  exact ⟨rfl, B1.out⟩
theorem spec_tn_10 (n i : Int) (t : ByteArray) (a b : Int) (w : World) : Calls Tryd.prog 7 #[vlV 10 n i t a b] w fun e w' => e = .returned (.string ⟨#[112, 114, 111, 99, 101, 100, 117, 114, 101]⟩) ∧ Below w.heap.size w w' := by
  unfold vlV
  go_enter Tryd.func7, Tryd.ntmps7
  go_wp2
  go_ret
  exact ⟨rfl, bl2 _ _ _⟩

theorem impl_tn_11 (n i : Int) (t : ByteArray) (a b : Int) (w : World) (hT : TypsAt w) : Calls Tryd.prog 9 #[vlV 11 n i t a b] w fun e w' => e = .returned (.string ⟨#[99, 111, 45, 101, 120, 112, 114, 101, 115, 115, 105, 111, 110]⟩) ∧ Below w.heap.size w w' := by
  have HK := Lib.hid (fun W => knd_val 11 n i t a b W)
  rw [show Vl.kndF 11 = true from rfl] at HK
  have HT := Lib.hid hT
  have V0 := Lib.hid (Var.new w #[.int .i64 11, .int .i64 n, .int .i64 i, .string t, .int .i64 a, .int .i64 b] 30)
  clear hT
  unfold vlV at HK ⊢
  go_enter Tryd.func9, Tryd.ntmps9
  go_wp2_with fail
  (with_reducible refine (HK.out _).mono ?_)
  rintro e w1 ⟨rfl, b1⟩
  have B1 := Lib.hid (below_then (bl1 _ _) b1)
  have c0 := (V0.out.later b1 0 _ rfl).1
  have ct := (HT.out.later (below_then (bl1 _ _) b1)).cell (k := 11) (x := ⟨#[99, 111, 45, 101, 120, 112, 114, 101, 115, 115, 105, 111, 110]⟩) rfl
  clear b1
  go_wp2
  go_ret
  exact ⟨rfl, B1.out⟩
theorem spec_tn_11 (n i : Int) (t : ByteArray) (a b : Int) (w : World) : Calls Tryd.prog 7 #[vlV 11 n i t a b] w fun e w' => e = .returned (.string ⟨#[99, 111, 45, 101, 120, 112, 114, 101, 115, 115, 105, 111, 110]⟩) ∧ Below w.heap.size w w' := by
  unfold vlV
  go_enter Tryd.func7, Tryd.ntmps7
  go_wp2
  go_ret
  exact ⟨rfl, bl2 _ _ _⟩

theorem impl_tn_12 (n i : Int) (t : ByteArray) (a b : Int) (w : World) (hT : TypsAt w) : Calls Tryd.prog 9 #[vlV 12 n i t a b] w fun e w' => e = .returned (.string ⟨#[112, 97, 116, 116, 101, 114, 110]⟩) ∧ Below w.heap.size w w' := by
  have HK := Lib.hid (fun W => knd_val 12 n i t a b W)
  rw [show Vl.kndF 12 = true from rfl] at HK
  have HT := Lib.hid hT
  have V0 := Lib.hid (Var.new w #[.int .i64 12, .int .i64 n, .int .i64 i, .string t, .int .i64 a, .int .i64 b] 30)
  clear hT
  unfold vlV at HK ⊢
  go_enter Tryd.func9, Tryd.ntmps9
  go_wp2_with fail
  (with_reducible refine (HK.out _).mono ?_)
  rintro e w1 ⟨rfl, b1⟩
  have B1 := Lib.hid (below_then (bl1 _ _) b1)
  have c0 := (V0.out.later b1 0 _ rfl).1
  have ct := (HT.out.later (below_then (bl1 _ _) b1)).cell (k := 12) (x := ⟨#[112, 97, 116, 116, 101, 114, 110]⟩) rfl
  clear b1
  go_wp2
  go_ret
  exact ⟨rfl, B1.out⟩
theorem spec_tn_12 (n i : Int) (t : ByteArray) (a b : Int) (w : World) : Calls Tryd.prog 7 #[vlV 12 n i t a b] w fun e w' => e = .returned (.string ⟨#[112, 97, 116, 116, 101, 114, 110]⟩) ∧ Below w.heap.size w w' := by
  unfold vlV
  go_enter Tryd.func7, Tryd.ntmps7
  go_wp2
  go_ret
  exact ⟨rfl, bl2 _ _ _⟩

theorem impl_tn_13 (n i : Int) (t : ByteArray) (a b : Int) (w : World) (hT : TypsAt w) : Calls Tryd.prog 9 #[vlV 13 n i t a b] w fun e w' => e = .returned (.string ⟨#[118, 97, 114, 105, 97, 98, 108, 101]⟩) ∧ Below w.heap.size w w' := by
  have HK := Lib.hid (fun W => knd_val 13 n i t a b W)
  rw [show Vl.kndF 13 = true from rfl] at HK
  have HT := Lib.hid hT
  have V0 := Lib.hid (Var.new w #[.int .i64 13, .int .i64 n, .int .i64 i, .string t, .int .i64 a, .int .i64 b] 30)
  clear hT
  unfold vlV at HK ⊢
  go_enter Tryd.func9, Tryd.ntmps9
  go_wp2_with fail
  (with_reducible refine (HK.out _).mono ?_)
  rintro e w1 ⟨rfl, b1⟩
  have B1 := Lib.hid (below_then (bl1 _ _) b1)
  have c0 := (V0.out.later b1 0 _ rfl).1
  have ct := (HT.out.later (below_then (bl1 _ _) b1)).cell (k := 13) (x := ⟨#[118, 97, 114, 105, 97, 98, 108, 101]⟩) rfl
  clear b1
  go_wp2
  go_ret
  exact ⟨rfl, B1.out⟩
theorem spec_tn_13 (n i : Int) (t : ByteArray) (a b : Int) (w : World) : Calls Tryd.prog 7 #[vlV 13 n i t a b] w fun e w' => e = .returned (.string ⟨#[118, 97, 114, 105, 97, 98, 108, 101]⟩) ∧ Below w.heap.size w w' := by
  unfold vlV
  go_enter Tryd.func7, Tryd.ntmps7
  go_wp2
  go_ret
  exact ⟨rfl, bl2 _ _ _⟩

theorem impl_tn_14 (n i : Int) (t : ByteArray) (a b : Int) (w : World) (hT : TypsAt w) : Calls Tryd.prog 9 #[vlV 14 n i t a b] w fun e w' => e = .returned (.string ⟨#[118, 97, 114, 105, 97, 98, 108, 101]⟩) ∧ Below w.heap.size w w' := by
  have HK := Lib.hid (fun W => knd_val 14 n i t a b W)
  rw [show Vl.kndF 14 = true from rfl] at HK
  have HT := Lib.hid hT
  have V0 := Lib.hid (Var.new w #[.int .i64 14, .int .i64 n, .int .i64 i, .string t, .int .i64 a, .int .i64 b] 30)
  clear hT
  unfold vlV at HK ⊢
  go_enter Tryd.func9, Tryd.ntmps9
  go_wp2_with fail
  (with_reducible refine (HK.out _).mono ?_)
  rintro e w1 ⟨rfl, b1⟩
  have B1 := Lib.hid (below_then (bl1 _ _) b1)
  have c0 := (V0.out.later b1 0 _ rfl).1
  have ct := (HT.out.later (below_then (bl1 _ _) b1)).cell (k := 14) (x := ⟨#[118, 97, 114, 105, 97, 98, 108, 101]⟩) rfl
  clear b1
  go_wp2
  go_ret
  exact ⟨rfl, B1.out⟩
theorem spec_tn_14 (n i : Int) (t : ByteArray) (a b : Int) (w : World) : Calls Tryd.prog 7 #[vlV 14 n i t a b] w fun e w' => e = .returned (.string ⟨#[118, 97, 114, 105, 97, 98, 108, 101]⟩) ∧ Below w.heap.size w w' := by
  unfold vlV
  go_enter Tryd.func7, Tryd.ntmps7
  go_wp2
  go_ret
  exact ⟨rfl, bl2 _ _ _⟩

theorem impl_tn_15 (n i : Int) (t : ByteArray) (a b : Int) (w : World) (hT : TypsAt w) : Calls Tryd.prog 9 #[vlV 15 n i t a b] w fun e w' => e = .returned (.string ⟨#[118, 97, 114, 105, 97, 98, 108, 101]⟩) ∧ Below w.heap.size w w' := by
  have HK := Lib.hid (fun W => knd_val 15 n i t a b W)
  rw [show Vl.kndF 15 = true from rfl] at HK
  have HT := Lib.hid hT
  have V0 := Lib.hid (Var.new w #[.int .i64 15, .int .i64 n, .int .i64 i, .string t, .int .i64 a, .int .i64 b] 30)
  clear hT
  unfold vlV at HK ⊢
  go_enter Tryd.func9, Tryd.ntmps9
  go_wp2_with fail
  (with_reducible refine (HK.out _).mono ?_)
  rintro e w1 ⟨rfl, b1⟩
  have B1 := Lib.hid (below_then (bl1 _ _) b1)
  have c0 := (V0.out.later b1 0 _ rfl).1
  have ct := (HT.out.later (below_then (bl1 _ _) b1)).cell (k := 15) (x := ⟨#[118, 97, 114, 105, 97, 98, 108, 101]⟩) rfl
  clear b1
  go_wp2
  go_ret
  exact ⟨rfl, B1.out⟩
theorem spec_tn_15 (n i : Int) (t : ByteArray) (a b : Int) (w : World) : Calls Tryd.prog 7 #[vlV 15 n i t a b] w fun e w' => e = .returned (.string ⟨#[118, 97, 114, 105, 97, 98, 108, 101]⟩) ∧ Below w.heap.size w w' := by
  unfold vlV
  go_enter Tryd.func7, Tryd.ntmps7
  go_wp2
  go_ret
  exact ⟨rfl, bl2 _ _ _⟩

theorem impl_tn_16 (n i : Int) (t : ByteArray) (a b : Int) (w : World) (hT : TypsAt w) : Calls Tryd.prog 9 #[vlV 16 n i t a b] w fun e w' => e = .returned (.string ⟨#[118, 97, 114, 105, 97, 98, 108, 101]⟩) ∧ Below w.heap.size w w' := by
  have HK := Lib.hid (fun W => knd_val 16 n i t a b W)
  rw [show Vl.kndF 16 = true from rfl] at HK
  have HT := Lib.hid hT
  have V0 := Lib.hid (Var.new w #[.int .i64 16, .int .i64 n, .int .i64 i, .string t, .int .i64 a, .int .i64 b] 30)
  clear hT
  unfold vlV at HK ⊢
  go_enter Tryd.func9, Tryd.ntmps9
  go_wp2_with fail
  (with_reducible refine (HK.out _).mono ?_)
  rintro e w1 ⟨rfl, b1⟩
  have B1 := Lib.hid (below_then (bl1 _ _) b1)
  have c0 := (V0.out.later b1 0 _ rfl).1
  have ct := (HT.out.later (below_then (bl1 _ _) b1)).cell (k := 16) (x := ⟨#[118, 97, 114, 105, 97, 98, 108, 101]⟩) rfl
  clear b1
  go_wp2
  go_ret
  exact ⟨rfl, B1.out⟩
theorem spec_tn_16 (n i : Int) (t : ByteArray) (a b : Int) (w : World) : Calls Tryd.prog 7 #[vlV 16 n i t a b] w fun e w' => e = .returned (.string ⟨#[118, 97, 114, 105, 97, 98, 108, 101]⟩) ∧ Below w.heap.size w w' := by
  unfold vlV
  go_enter Tryd.func7, Tryd.ntmps7
  go_wp2
  go_ret
  exact ⟨rfl, bl2 _ _ _⟩

theorem impl_tn_17 (n i : Int) (t : ByteArray) (a b : Int) (w : World) (hT : TypsAt w) : Calls Tryd.prog 9 #[vlV 17 n i t a b] w fun e w' => e = .returned (.string ⟨#[118, 97, 114, 105, 97, 98, 108, 101]⟩) ∧ Below w.heap.size w w' := by
  have HK := Lib.hid (fun W => knd_val 17 n i t a b W)
  rw [show Vl.kndF 17 = true from rfl] at HK
  have HT := Lib.hid hT
  have V0 := Lib.hid (Var.new w #[.int .i64 17, .int .i64 n, .int .i64 i, .string t, .int .i64 a, .int .i64 b] 30)
  clear hT
  unfold vlV at HK ⊢
  go_enter Tryd.func9, Tryd.ntmps9
  go_wp2_with fail
  (with_reducible refine (HK.out _).mono ?_)
  rintro e w1 ⟨rfl, b1⟩
  have B1 := Lib.hid (below_then (bl1 _ _) b1)
  have c0 := (V0.out.later b1 0 _ rfl).1
  have ct := (HT.out.later (below_then (bl1 _ _) b1)).cell (k := 17) (x := ⟨#[118, 97, 114, 105, 97, 98, 108, 101]⟩) rfl
  clear b1
  go_wp2
  go_ret
  exact ⟨rfl, B1.out⟩
theorem spec_tn_17 (n i : Int) (t : ByteArray) (a b : Int) (w : World) : Calls Tryd.prog 7 #[vlV 17 n i t a b] w fun e w' => e = .returned (.string ⟨#[118, 97, 114, 105, 97, 98, 108, 101]⟩) ∧ Below w.heap.size w w' := by
  unfold vlV
  go_enter Tryd.func7, Tryd.ntmps7
  go_wp2
  go_ret
  exact ⟨rfl, bl2 _ _ _⟩

theorem impl_tn_18 (n i : Int) (t : ByteArray) (a b : Int) (w : World) (hT : TypsAt w) : Calls Tryd.prog 9 #[vlV 18 n i t a b] w fun e w' => e = .returned (.string ⟨#[118, 97, 114, 105, 97, 98, 108, 101]⟩) ∧ Below w.heap.size w w' := by
  have HK := Lib.hid (fun W => knd_val 18 n i t a b W)
  rw [show Vl.kndF 18 = true from rfl] at HK
  have HT := Lib.hid hT
  have V0 := Lib.hid (Var.new w #[.int .i64 18, .int .i64 n, .int .i64 i, .string t, .int .i64 a, .int .i64 b] 30)
  clear hT
  unfold vlV at HK ⊢
  go_enter Tryd.func9, Tryd.ntmps9
  go_wp2_with fail
  (with_reducible refine (HK.out _).mono ?_)
  rintro e w1 ⟨rfl, b1⟩
  have B1 := Lib.hid (below_then (bl1 _ _) b1)
  have c0 := (V0.out.later b1 0 _ rfl).1
  have ct := (HT.out.later (below_then (bl1 _ _) b1)).cell (k := 18) (x := ⟨#[118, 97, 114, 105, 97, 98, 108, 101]⟩) rfl
  clear b1
  go_wp2
  go_ret
  exact ⟨rfl, B1.out⟩
theorem spec_tn_18 (n i : Int) (t : ByteArray) (a b : Int) (w : World) : Calls Tryd.prog 7 #[vlV 18 n i t a b] w fun e w' => e = .returned (.string ⟨#[118, 97, 114, 105, 97, 98, 108, 101]⟩) ∧ Below w.heap.size w w' := by
  unfold vlV
  go_enter Tryd.func7, Tryd.ntmps7
  go_wp2
  go_ret
  exact ⟨rfl, bl2 _ _ _⟩

theorem impl_tn_19 (n i : Int) (t : ByteArray) (a b : Int) (w : World) (hT : TypsAt w) : Calls Tryd.prog 9 #[vlV 19 n i t a b] w fun e w' => e = .returned (.string ⟨#[102, 114, 97, 109, 101]⟩) ∧ Below w.heap.size w w' := by
  have HK := Lib.hid (fun W => knd_val 19 n i t a b W)
  rw [show Vl.kndF 19 = true from rfl] at HK
  have HT := Lib.hid hT
  have V0 := Lib.hid (Var.new w #[.int .i64 19, .int .i64 n, .int .i64 i, .string t, .int .i64 a, .int .i64 b] 30)
  clear hT
  unfold vlV at HK ⊢
  go_enter Tryd.func9, Tryd.ntmps9
  go_wp2_with fail
  (with_reducible refine (HK.out _).mono ?_)
  rintro e w1 ⟨rfl, b1⟩
  have B1 := Lib.hid (below_then (bl1 _ _) b1)
  have c0 := (V0.out.later b1 0 _ rfl).1
  have ct := (HT.out.later (below_then (bl1 _ _) b1)).cell (k := 19) (x := ⟨#[102, 114, 97, 109, 101]⟩) rfl
  clear b1
  go_wp2
  go_ret
  exact ⟨rfl, B1.out⟩
theorem spec_tn_19 (n i : Int) (t : ByteArray) (a b : Int) (w : World) : Calls Tryd.prog 7 #[vlV 19 n i t a b] w fun e w' => e = .returned (.string ⟨#[102, 114, 97, 109, 101]⟩) ∧ Below w.heap.size w w' := by
  unfold vlV
  go_enter Tryd.func7, Tryd.ntmps7
  go_wp2
  go_ret
  exact ⟨rfl, bl2 _ _ _⟩

theorem impl_tn_20 (n i : Int) (t : ByteArray) (a b : Int) (w : World) (hT : TypsAt w) : Calls Tryd.prog 9 #[vlV 20 n i t a b] w fun e w' => e = .returned (.string ⟨#[115, 99, 97, 110]⟩) ∧ Below w.heap.size w w' := by
  have HK := Lib.hid (fun W => knd_val 20 n i t a b W)
  rw [show Vl.kndF 20 = true from rfl] at HK
  have HT := Lib.hid hT
  have V0 := Lib.hid (Var.new w #[.int .i64 20, .int .i64 n, .int .i64 i, .string t, .int .i64 a, .int .i64 b] 30)
  clear hT
  unfold vlV at HK ⊢
  go_enter Tryd.func9, Tryd.ntmps9
  go_wp2_with fail
  (with_reducible refine (HK.out _).mono ?_)
  rintro e w1 ⟨rfl, b1⟩
  have B1 := Lib.hid (below_then (bl1 _ _) b1)
  have c0 := (V0.out.later b1 0 _ rfl).1
  have ct := (HT.out.later (below_then (bl1 _ _) b1)).cell (k := 20) (x := ⟨#[115, 99, 97, 110]⟩) rfl
  clear b1
  go_wp2
  go_ret
  exact ⟨rfl, B1.out⟩
theorem spec_tn_20 (n i : Int) (t : ByteArray) (a b : Int) (w : World) : Calls Tryd.prog 7 #[vlV 20 n i t a b] w fun e w' => e = .returned (.string ⟨#[115, 99, 97, 110]⟩) ∧ Below w.heap.size w w' := by
  unfold vlV
  go_enter Tryd.func7, Tryd.ntmps7
  go_wp2
  go_ret
  exact ⟨rfl, bl2 _ _ _⟩

theorem impl_tn_no (k : Int) (hk : Vl.kndF k = false) (n i : Int) (t : ByteArray) (a b : Int) (w : World) : Calls Tryd.prog 9 #[vlV k n i t a b] w fun e w' => e = .returned (.string ⟨#[]⟩) ∧ Below w.heap.size w w' := by
  have HK := Lib.hid (fun W => knd_val k n i t a b W)
  rw [hk] at HK
  clear hk
  unfold vlV at HK ⊢
  go_enter Tryd.func9, Tryd.ntmps9
  go_wp2_with fail
  (with_reducible refine (HK.out _).mono ?_)
  rintro e w1 ⟨rfl, b1⟩
  have B1 := Lib.hid (below_then (bl1 _ _) b1)
  clear b1
  go_wp2
  go_ret
  exact ⟨rfl, B1.out⟩
theorem spec_tn_lo (k : Int) (h : k < 0) (n i : Int) (t : ByteArray) (a b : Int) (w : World) : Calls Tryd.prog 7 #[vlV k n i t a b] w fun e w' => e = .returned (.string ⟨#[]⟩) ∧ Below w.heap.size w w' := by
  unfold vlV
  go_enter Tryd.func7, Tryd.ntmps7
  go_wp2
  go_ret
  exact ⟨rfl, bl1 _ _⟩
theorem spec_tn_hi (k : Int) (h0 : ¬ k < 0) (h : 20 < k) (n i : Int) (t : ByteArray) (a b : Int) (w : World) : Calls Tryd.prog 7 #[vlV k n i t a b] w fun e w' => e = .returned (.string ⟨#[]⟩) ∧ Below w.heap.size w w' := by
  unfold vlV
  go_enter Tryd.func7, Tryd.ntmps7
  go_wp2
  go_ret
  exact ⟨rfl, bl1 _ _⟩
theorem typ_none {k : Int} (h : k < 0 ∨ 20 < k) : typT k = ⟨#[]⟩ := by
  unfold typT
  rw [if_neg (by omega), if_neg (by omega), if_neg (by omega), if_neg (by omega), if_neg (by omega), if_neg (by omega), if_neg (by omega), if_neg (by omega), if_neg (by omega), if_neg (by omega), if_neg (by omega), if_neg (by omega), if_neg (by omega), if_neg (by omega), if_neg (by omega), if_neg (by omega), if_neg (by omega), if_neg (by omega), if_neg (by omega), if_neg (by omega), if_neg (by omega)]
theorem impl_tn (k n i : Int) (t : ByteArray) (a b : Int) (w : World) (hT : TypsAt w) : Calls Tryd.prog 9 #[vlV k n i t a b] w fun e w' => e = .returned (.string (typT k)) ∧ Below w.heap.size w w' := by
  by_cases h : k < 0 ∨ 20 < k
  · rw [typ_none h]
    exact impl_tn_no k (by unfold Vl.kndF; rw [Bool.and_eq_false_iff, decide_eq_false_iff_not, decide_eq_false_iff_not]; omega) n i t a b w
  rcases (show k = 0 ∨ k = 1 ∨ k = 2 ∨ k = 3 ∨ k = 4 ∨ k = 5 ∨ k = 6 ∨ k = 7 ∨ k = 8 ∨ k = 9 ∨ k = 10 ∨ k = 11 ∨ k = 12 ∨ k = 13 ∨ k = 14 ∨ k = 15 ∨ k = 16 ∨ k = 17 ∨ k = 18 ∨ k = 19 ∨ k = 20 by omega) with rfl | rfl | rfl | rfl | rfl | rfl | rfl | rfl | rfl | rfl | rfl | rfl | rfl | rfl | rfl | rfl | rfl | rfl | rfl | rfl | rfl
  · exact impl_tn_0 n i t a b w hT
  · exact impl_tn_1 n i t a b w hT
  · exact impl_tn_2 n i t a b w hT
  · exact impl_tn_3 n i t a b w hT
  · exact impl_tn_4 n i t a b w hT
  · exact impl_tn_5 n i t a b w hT
  · exact impl_tn_6 n i t a b w hT
  · exact impl_tn_7 n i t a b w hT
  · exact impl_tn_8 n i t a b w hT
  · exact impl_tn_9 n i t a b w hT
  · exact impl_tn_10 n i t a b w hT
  · exact impl_tn_11 n i t a b w hT
  · exact impl_tn_12 n i t a b w hT
  · exact impl_tn_13 n i t a b w hT
  · exact impl_tn_14 n i t a b w hT
  · exact impl_tn_15 n i t a b w hT
  · exact impl_tn_16 n i t a b w hT
  · exact impl_tn_17 n i t a b w hT
  · exact impl_tn_18 n i t a b w hT
  · exact impl_tn_19 n i t a b w hT
  · exact impl_tn_20 n i t a b w hT
theorem spec_tn (k n i : Int) (t : ByteArray) (a b : Int) (w : World) : Calls Tryd.prog 7 #[vlV k n i t a b] w fun e w' => e = .returned (.string (typT k)) ∧ Below w.heap.size w w' := by
  by_cases h0 : k < 0
  · rw [typ_none (.inl h0)]
    exact spec_tn_lo k h0 n i t a b w
  by_cases h1 : 20 < k
  · rw [typ_none (.inr h1)]
    exact spec_tn_hi k h0 h1 n i t a b w
  rcases (show k = 0 ∨ k = 1 ∨ k = 2 ∨ k = 3 ∨ k = 4 ∨ k = 5 ∨ k = 6 ∨ k = 7 ∨ k = 8 ∨ k = 9 ∨ k = 10 ∨ k = 11 ∨ k = 12 ∨ k = 13 ∨ k = 14 ∨ k = 15 ∨ k = 16 ∨ k = 17 ∨ k = 18 ∨ k = 19 ∨ k = 20 by omega) with rfl | rfl | rfl | rfl | rfl | rfl | rfl | rfl | rfl | rfl | rfl | rfl | rfl | rfl | rfl | rfl | rfl | rfl | rfl | rfl | rfl
  · exact spec_tn_0 n i t a b w
  · exact spec_tn_1 n i t a b w
  · exact spec_tn_2 n i t a b w
  · exact spec_tn_3 n i t a b w
  · exact spec_tn_4 n i t a b w
  · exact spec_tn_5 n i t a b w
  · exact spec_tn_6 n i t a b w
  · exact spec_tn_7 n i t a b w
  · exact spec_tn_8 n i t a b w
  · exact spec_tn_9 n i t a b w
  · exact spec_tn_10 n i t a b w
  · exact spec_tn_11 n i t a b w
  · exact spec_tn_12 n i t a b w
  · exact spec_tn_13 n i t a b w
  · exact spec_tn_14 n i t a b w
  · exact spec_tn_15 n i t a b w
  · exact spec_tn_16 n i t a b w
  · exact spec_tn_17 n i t a b w
  · exact spec_tn_18 n i t a b w
  · exact spec_tn_19 n i t a b w
  · exact spec_tn_20 n i t a b w

theorem FnExactTypeName_walk (k n i : Int) (t : ByteArray) (a b : Int) (wt : t.size ≤ maxLen) (w : World) (hT : TypsAt w) : Calls Tryd.prog 3 #[vlV k n i t a b] w fun e w' => e = .returned (.bool true) ∧ Below w.heap.size w w' := by
  have HZ := Lib.hid (fun W => sz_val k n i t a b W wt)
  have HT := Lib.hid (fun W => to_val k n i t a b W)
  have HS := Lib.hid (fun W => spec_tn k n i t a b W)
  have HI := Lib.hid (fun W (hW : Below w.heap.size w W) => impl_tn k n i t a b W (hT.later hW))
  clear hT
  generalize typT k = r at HS HI
  have V0 := Lib.hid (Var.new w #[.int .i64 k, .int .i64 n, .int .i64 i, .string t, .int .i64 a, .int .i64 b] 25)
  unfold vlV at HZ HT HS HI ⊢
  by_cases h : (t.size : Int) ≤ 1048576
  · rw [if_pos h] at HZ
    have hm : ¬ (1048576 - (t.size : Int)) < 0 := by omega
    go_enter Tryd.func3, Tryd.ntmps3
    go_wp2_with fail
    (with_reducible refine (HZ.out _).mono ?_)
    rintro e w1 ⟨rfl, b1⟩
    have B1 := Lib.hid (below_then (bl1 _ _) b1)
    have V1 := Lib.hid (V0.out.later b1)
    clear b1
    obtain ⟨c0, _⟩ := V1.out 0 _ rfl
    obtain ⟨c1, _⟩ := V1.out 1 _ rfl
    obtain ⟨c2, _⟩ := V1.out 2 _ rfl
    obtain ⟨c3, _⟩ := V1.out 3 _ rfl
    obtain ⟨c4, _⟩ := V1.out 4 _ rfl
    obtain ⟨c5, _⟩ := V1.out 5 _ rfl
    go_wp2_with fail
    (with_reducible refine (HT.out _).mono ?_)
    rintro e w2 ⟨rfl, b2⟩
    have B2 := Lib.hid (below_then B1.out b2)
    have V2 := Lib.hid (V1.out.later b2)
    clear b2 c0 c1 c2 c3 c4 c5
    go_wp2_with fail
    (with_reducible refine (HS.out _).mono ?_)
    rintro e w3 ⟨rfl, b3⟩
    have B3 := Lib.hid (below_then B2.out b3)
    have V3 := Lib.hid (V2.out.later b3)
    clear b3
    obtain ⟨c0, _⟩ := V3.out 0 _ rfl
    obtain ⟨c1, _⟩ := V3.out 1 _ rfl
    obtain ⟨c2, _⟩ := V3.out 2 _ rfl
    obtain ⟨c3, _⟩ := V3.out 3 _ rfl
    obtain ⟨c4, _⟩ := V3.out 4 _ rfl
    obtain ⟨c5, _⟩ := V3.out 5 _ rfl
    go_wp2_with fail
    (with_reducible refine (HT.out _).mono ?_)
    rintro e w4 ⟨rfl, b4⟩
    have B4 := Lib.hid (below_then B3.out b4)
    clear b4 c0 c1 c2 c3 c4 c5
    go_wp2_with fail
    (with_reducible refine (HI.out _ B4.out).mono ?_)
    rintro e w5 ⟨rfl, b5⟩
    have B5 := Lib.hid (below_then B4.out b5)
    clear b5
    go_wp2
    go_ret
    exact ⟨rfl, B5.out⟩
  · rw [if_neg h] at HZ
    go_enter Tryd.func3, Tryd.ntmps3
    go_wp2_with fail
    (with_reducible refine (HZ.out _).mono ?_)
    rintro e w1 ⟨rfl, b1⟩
    have B1 := Lib.hid (below_then (bl1 _ _) b1)
    clear b1
    go_wp2
    go_ret
    exact ⟨rfl, B1.out⟩

end Go.Proofs.YtbadepiakkhabaaDoor
