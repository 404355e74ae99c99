/- Joined texts: J2, J3, J4, J6, J8. No conditions besides those that each states. -/
import Derived.Test.YtfhakailbikjkaaGreatDoorShelf
import Derived.Deep.QuietTactic
import Derived.BigQuiet
import Derived.IntWalk
import Derived.Deep.RegionLaw
import Derived.Test.YtfhakailbikjkaaGreatDoorZ5
/- Escapes are read: the program's readHex and readEscape. No conditions beside what the variable holds. -/
namespace Go.Proofs.YtfhakailbikjkaaGreatDoor
open Go.RowKit
set_option linter.unusedVariables false

/-- What an escape gives: a byte and the rest and nil, or the sentinel. -/
def escE (a : Addr) : Option (UInt8 × List UInt8) → Ending
  | none => .returned (.tuple #[.int .u8 0, .string ByteArray.empty, .iface 118 (.pointer (some a))])
  | some (b, r) => .returned (.tuple #[.int .u8 (b.toNat : Int), .string (str8 r), .nilIface])
def RetEsc (a : Addr) (w : World) (o : Option (UInt8 × List UInt8)) (e : Ending) (w' : World) : Prop := e = escE a o ∧ Below w.heap.size w w'
/-- A hexadecimal digit's value as an integer. -/
def hexI (b : UInt8) : Int := match Lt.hexN b with
  | some n => n
  | none => -1
theorem hexI_all : ∀ k : Fin 256, Lib.indexByte [48, 49, 50, 51, 52, 53, 54, 55, 56, 57, 97, 98, 99, 100, 101, 102] (UInt8.ofNat k.val) = hexI (UInt8.ofNat k.val) := by decide +kernel
theorem hexI_at (b : UInt8) : Lib.indexByte [48, 49, 50, 51, 52, 53, 54, 55, 56, 57, 97, 98, 99, 100, 101, 102] b = hexI b := by
  have h := hexI_all ⟨b.toNat, UInt8.toNat_lt b⟩
  simpa using h
theorem idx_any (b : UInt8) (w : World) : Calls Tryz.prog 95 #[.string ⟨#[48, 49, 50, 51, 52, 53, 54, 55, 56, 57, 97, 98, 99, 100, 101, 102]⟩, .int .u8 (b.toNat : Int)] w fun e w' => e = .returned (.int .i64 (hexI b)) ∧ w = w' := by
  refine (Tryz.strings_IndexByte ⟨#[48, 49, 50, 51, 52, 53, 54, 55, 56, 57, 97, 98, 99, 100, 101, 102]⟩ (b.toNat : Int) w).mono fun e w' ⟨h1, h2⟩ => ⟨?_, h2.symm⟩
  rw [h1]
  have e1 : ((b.toNat : Int)).toNat.toUInt8 = b := by simp
  rw [e1]
  exact congrArg (fun z => Ending.returned (.int .i64 z)) (hexI_at b)
theorem hexI_some {b : UInt8} {n : Nat} (h : Lt.hexN b = some n) : hexI b = n := by unfold hexI; rw [h]
theorem hexI_none {b : UInt8} (h : Lt.hexN b = none) : hexI b = -1 := by unfold hexI; rw [h]

theorem str_len {x : ByteArray} {R : List UInt8} (hx : x = str8 R) : x.size = R.length := by rw [hx, str8_size]
theorem str_at {x : ByteArray} {R : List UInt8} (hx : x = str8 R) (k : Nat) (h : k < x.size) (h2 : k < R.length) : x[k] = R[k] := by
  subst hx; rfl
theorem str_cut {x : ByteArray} {R : List UInt8} (hx : x = str8 R) (k : Nat) : x.extract k x.size = str8 (R.drop k) := by
  subst hx
  have h : ((str8 R).extract k (str8 R).size).data.toList = R.drop k := by
    simp only [ByteArray.data_extract, Array.toList_extract, List.extract_eq_take_drop]
    rw [str8_size]
    show ((R.drop k).take (R.length - k)) = _
    rw [List.take_of_length_le (by rw [List.length_drop]; exact Nat.le_refl _)]
  exact str8_inj h

set_option maxRecDepth 100000 in
set_option maxHeartbeats 800000 in
theorem read_hex (a : Addr) (R : List UInt8) (w : World) (hS : SentAt a w) (hl : (R.length : Int) ≤ 10000000) : Calls Tryz.prog 92 #[.string (str8 R)] w (RetEsc a w (Lt.esc (120 :: R))) := by
  unfold RetEsc
  obtain ⟨x, hx⟩ : ∃ x, x = str8 R := ⟨_, rfl⟩
  rw [← hx]
  have hz := str_len hx
  unfold SentAt at hS
  by_cases h2 : R.length < 2
  · have e : Lt.esc (120 :: R) = none := by
      rcases R with _ | ⟨b, _ | ⟨c, R⟩⟩
      · simp [Lt.esc]
      · simp [Lt.esc]
      · simp at h2; omega
    rw [e]
    have hs : (x.size : Int) < 2 := by omega
    clear hz h2 hx e hl
    go_enter Tryz.func92, Tryz.ntmps92
    go_wp2
    go_quiet (fail)
    go_wp2
    exact bodyPost_ret (v := .tuple #[.int .u8 0, .string ByteArray.empty, .iface 118 (.pointer (some a))]) (by simp [results, Tryz.results92, go_sem]; rfl) rfl ⟨rfl, drewN8 (Below.refl _ _) _⟩
  · obtain ⟨h, l, r, rfl⟩ : ∃ h l r, R = h :: l :: r := by
      rcases R with _ | ⟨b, _ | ⟨c, R⟩⟩
      · simp at h2
      · simp at h2
      · exact ⟨b, c, R, rfl⟩
    have hs : (2 : Int) ≤ x.size := by rw [hz]; simp; omega
    have i0 : (0 : Int) < x.size := by omega
    have i1 : (1 : Int) < x.size := by omega
    have j0 : 0 < x.size := by omega
    have j1 : 1 < x.size := by omega
    have x0 : x[0] = h := str_at hx 0 j0 (by simp)
    have x1 : x[1] = l := str_at hx 1 j1 (by simp)
    have xc : x.extract 2 x.size = str8 r := str_cut hx 2
    cases eh : Lt.hexN h with
    | none =>
      have e : Lt.esc (120 :: h :: l :: r) = none := by simp [Lt.esc, eh]
      rw [e]
      have H1 := Lib.hid (fun W => idx_any h W)
      rw [hexI_none eh] at H1
      have H2 := Lib.hid (fun W => idx_any l W)
      generalize hexI l = y at H2
      clear hz hx e hl eh
      go_enter Tryz.func92, Tryz.ntmps92
      go_wp2_with fail
      refine (H1.out _).mono ?_
      rintro e w1 ⟨rfl, rfl⟩
      go_wp2_with fail
      refine (H2.out _).mono ?_
      rintro e w1 ⟨rfl, rfl⟩
      go_wp2_with fail
      go_quiet (fail)
      go_wp2
      exact bodyPost_ret (v := .tuple #[.int .u8 0, .string ByteArray.empty, .iface 118 (.pointer (some a))]) (by simp [results, Tryz.results92, go_sem]; rfl) rfl ⟨rfl, drewN8 (Below.refl _ _) _⟩
    | some n =>
      have n16 := Lt.hexN_lt eh
      have H1 := Lib.hid (fun W => idx_any h W)
      rw [hexI_some eh] at H1
      have H2 := Lib.hid (fun W => idx_any l W)
      cases el : Lt.hexN l with
      | none =>
        have e : Lt.esc (120 :: h :: l :: r) = none := by simp [Lt.esc, eh, el]
        rw [e]
        rw [hexI_none el] at H2
        clear hz hx e hl eh el
        go_enter Tryz.func92, Tryz.ntmps92
        go_wp2_with fail
        refine (H1.out _).mono ?_
        rintro e w1 ⟨rfl, rfl⟩
        go_wp2_with fail
        refine (H2.out _).mono ?_
        rintro e w1 ⟨rfl, rfl⟩
        go_wp2_with fail
        go_quiet (fail)
        go_wp2
        exact bodyPost_ret (v := .tuple #[.int .u8 0, .string ByteArray.empty, .iface 118 (.pointer (some a))]) (by simp [results, Tryz.results92, go_sem]; rfl) rfl ⟨rfl, drewN8 (Below.refl _ _) _⟩
      | some m =>
        have m16 := Lt.hexN_lt el
        have e : Lt.esc (120 :: h :: l :: r) = some (UInt8.ofNat (16 * n + m), r) := by simp [Lt.esc, eh, el]
        rw [e]
        rw [hexI_some el] at H2
        obtain ⟨b, hb⟩ : ∃ b, b = UInt8.ofNat (16 * n + m) := ⟨_, rfl⟩
        have hbn : b.toNat = 16 * n + m := by rw [hb, UInt8.toNat_ofNat']; omega
        rw [← hb]
        have HBN := Lib.hid (show (b.toNat : Int) = (n : Int) * 16 + m by omega)
        have e1 : IntKind.i64.wrap ((n : Int) * 16) = (n : Int) * 16 := IntWalk.i64_in _ (by omega)
        have e2 : IntKind.i64.wrap ((n : Int) * 16 + m) = (n : Int) * 16 + m := IntWalk.i64_in _ (by omega)
        have e3 : IntKind.u8.wrap ((n : Int) * 16 + m) = (n : Int) * 16 + m := by simp [IntKind.wrap, IntKind.signed, IntKind.bits]; omega
        have p1 : (0 : Int) ≤ n := by omega
        have p2 : (0 : Int) ≤ m := by omega
        clear hz hx e hl eh el hb hbn
        go_enter Tryz.func92, Tryz.ntmps92
        go_wp2_with fail
        refine (H1.out _).mono ?_
        rintro e w1 ⟨rfl, rfl⟩
        go_wp2_with fail
        refine (H2.out _).mono ?_
        rintro e w1 ⟨rfl, rfl⟩
        go_wp2_with fail
        go_quiet (fail)
        go_wp2
        exact bodyPost_ret (v := .tuple #[.int .u8 (b.toNat : Int), .string (str8 r), .nilIface]) (by rw [HBN.out]; simp [results, Tryz.results92, go_sem]) rfl ⟨rfl, drewN8 (Below.refl _ _) _⟩

/-- The cases of an escape. -/
theorem esc_cases (R : List UInt8) : (R = [] ∧ Lt.esc R = none) ∨ ∃ c r, R = c :: r ∧
    ((c = 110 ∧ Lt.esc R = some (10, r)) ∨ (c = 116 ∧ Lt.esc R = some (9, r)) ∨ (c = 92 ∧ Lt.esc R = some (c, r)) ∨ (c = 34 ∧ Lt.esc R = some (c, r)) ∨ (c = 39 ∧ Lt.esc R = some (c, r)) ∨ c = 120
      ∨ (c ≠ 110 ∧ c ≠ 116 ∧ c ≠ 92 ∧ c ≠ 34 ∧ c ≠ 39 ∧ c ≠ 120 ∧ Lt.esc R = none)) := by
  rcases R with _ | ⟨c, r⟩
  · left; exact ⟨rfl, by simp [Lt.esc]⟩
  · right
    refine ⟨c, r, rfl, ?_⟩
    by_cases h1 : c = 110
    · left; exact ⟨h1, by simp [Lt.esc, h1]⟩
    · by_cases h2 : c = 116
      · right; left; exact ⟨h2, by simp [Lt.esc, h2]⟩
      · by_cases h3 : c = 92
        · right; right; left; exact ⟨h3, by simp [Lt.esc, h3]⟩
        · by_cases h4 : c = 34
          · right; right; right; left; exact ⟨h4, by simp [Lt.esc, h4]⟩
          · by_cases h5 : c = 39
            · right; right; right; right; left; exact ⟨h5, by simp [Lt.esc, h5]⟩
            · by_cases h6 : c = 120
              · right; right; right; right; right; left; exact h6
              · right; right; right; right; right; right
                exact ⟨h1, h2, h3, h4, h5, h6, by simp [Lt.esc, h1, h2, h3, h4, h5, h6]⟩

set_option maxRecDepth 100000 in
set_option maxHeartbeats 800000 in
theorem read_esc (a : Addr) (R : List UInt8) (w : World) (hS : SentAt a w) (hl : (R.length : Int) ≤ 10000000) : Calls Tryz.prog 90 #[.string (str8 R)] w (RetEsc a w (Lt.esc R)) := by
  unfold RetEsc
  obtain ⟨x, hx⟩ : ∃ x, x = str8 R := ⟨_, rfl⟩
  rw [← hx]
  have hz := str_len hx
  have HS := Lib.hid hS
  rcases esc_cases R with ⟨rfl, e⟩ | ⟨c, r, rfl, hc⟩
  · rw [e]
    have c1 : x.toList = [] := by rw [ByteArray.toList_eq]; exact List.length_eq_zero_iff.1 (by show x.size = 0; rw [hz]; rfl)
    have c2 : x.toList.isEmpty = true := by rw [c1]; rfl
    unfold SentAt at hS
    clear hz hx e hl HS
    go_enter Tryz.func90, Tryz.ntmps90
    go_wp2
    go_quiet (fail)
    go_wp2
    exact bodyPost_ret (v := .tuple #[.int .u8 0, .string ByteArray.empty, .iface 118 (.pointer (some a))]) (by simp [results, Tryz.results90, go_sem]; rfl) rfl ⟨rfl, drewN8 (Below.refl _ _) _⟩
  · have j0 : 0 < x.size := by rw [hz]; simp
    have i0 : (0 : Int) < x.size := by omega
    have i1 : (1 : Int) ≤ x.size := by omega
    have c1 : ¬ x.toList = [] := by rw [ByteArray.toList_eq]; intro h; have h3 : x.data.toList.length = x.size := rfl; rw [h, List.length_nil] at h3; omega
    have c2 : x.toList.isEmpty = false := by simpa using c1
    have x0 : x[0] = c := str_at hx 0 j0 (by simp)
    have xc : x.extract 1 x.size = str8 r := str_cut hx 1
    have hl2 : (r.length : Int) ≤ 10000000 := by simp at hl; omega
    unfold SentAt at hS
    clear hz hx hl
    rcases hc with ⟨h, e⟩ | ⟨h, e⟩ | ⟨h, e⟩ | ⟨h, e⟩ | ⟨h, e⟩ | h | ⟨h1, h2, h3, h4, h5, h6, e⟩
    · rw [e]
      have t110 : ((c.toNat : Int) == 110) = true := by rw [h]; rfl
      clear h e HS hS
      go_enter Tryz.func90, Tryz.ntmps90
      go_wp2_with fail
      go_quiet (fail)
      go_wp2
      exact bodyPost_ret (v := .tuple #[.int .u8 10, .string (str8 r), .nilIface]) (by simp [results, Tryz.results90, go_sem]) rfl ⟨rfl, drewN8 (Below.refl _ _) _⟩
    · rw [e]
      have t110 : ((c.toNat : Int) == 110) = false := by rw [h]; rfl
      have t116 : ((c.toNat : Int) == 116) = true := by rw [h]; rfl
      clear h e HS hS
      go_enter Tryz.func90, Tryz.ntmps90
      go_wp2_with fail
      go_quiet (fail)
      go_wp2
      exact bodyPost_ret (v := .tuple #[.int .u8 9, .string (str8 r), .nilIface]) (by simp [results, Tryz.results90, go_sem]) rfl ⟨rfl, drewN8 (Below.refl _ _) _⟩
    · rw [e]
      have t110 : ((c.toNat : Int) == 110) = false := by rw [h]; rfl
      have t116 : ((c.toNat : Int) == 116) = false := by rw [h]; rfl
      have t92 : ((c.toNat : Int) == 92) = true := by rw [h]; rfl
      clear h e HS hS
      go_enter Tryz.func90, Tryz.ntmps90
      go_wp2_with fail
      go_quiet (fail)
      go_wp2
      exact bodyPost_ret (v := .tuple #[.int .u8 (c.toNat : Int), .string (str8 r), .nilIface]) (by simp [results, Tryz.results90, go_sem]) rfl ⟨rfl, drewN8 (Below.refl _ _) _⟩
    · rw [e]
      have t110 : ((c.toNat : Int) == 110) = false := by rw [h]; rfl
      have t116 : ((c.toNat : Int) == 116) = false := by rw [h]; rfl
      have t92 : ((c.toNat : Int) == 92) = false := by rw [h]; rfl
      have t34 : ((c.toNat : Int) == 34) = true := by rw [h]; rfl
      clear h e HS hS
      go_enter Tryz.func90, Tryz.ntmps90
      go_wp2_with fail
      go_quiet (fail)
      go_wp2
      exact bodyPost_ret (v := .tuple #[.int .u8 (c.toNat : Int), .string (str8 r), .nilIface]) (by simp [results, Tryz.results90, go_sem]) rfl ⟨rfl, drewN8 (Below.refl _ _) _⟩
    · rw [e]
      have t110 : ((c.toNat : Int) == 110) = false := by rw [h]; rfl
      have t116 : ((c.toNat : Int) == 116) = false := by rw [h]; rfl
      have t92 : ((c.toNat : Int) == 92) = false := by rw [h]; rfl
      have t34 : ((c.toNat : Int) == 34) = false := by rw [h]; rfl
      have t39 : ((c.toNat : Int) == 39) = true := by rw [h]; rfl
      clear h e HS hS
      go_enter Tryz.func90, Tryz.ntmps90
      go_wp2_with fail
      go_quiet (fail)
      go_wp2
      exact bodyPost_ret (v := .tuple #[.int .u8 (c.toNat : Int), .string (str8 r), .nilIface]) (by simp [results, Tryz.results90, go_sem]) rfl ⟨rfl, drewN8 (Below.refl _ _) _⟩
    · have HR := Lib.hid (fun W hW => read_hex a r W hW hl2)
      rw [← h] at HR
      unfold RetEsc at HR
      have t110 : ((c.toNat : Int) == 110) = false := by rw [h]; rfl
      have t116 : ((c.toNat : Int) == 116) = false := by rw [h]; rfl
      have t92 : ((c.toNat : Int) == 92) = false := by rw [h]; rfl
      have t34 : ((c.toNat : Int) == 34) = false := by rw [h]; rfl
      have t39 : ((c.toNat : Int) == 39) = false := by rw [h]; rfl
      have t120 : ((c.toNat : Int) == 120) = true := by rw [h]; rfl
      clear h hS
      cases ho : Lt.esc (c :: r) with
      | none =>
        rw [ho] at HR
        clear ho
        unfold escE at HR ⊢
        go_enter Tryz.func90, Tryz.ntmps90
        go_wp2_with fail
        go_quiet (fail)
        go_wp2_with fail
        refine (HR.out _ ?hs).mono ?_
        case hs => exact sentAt_below HS.out (drewN8 (Below.refl _ _) _)
        rintro e w2 ⟨rfl, hb2⟩
        have HB := Lib.hid (below_then (drewN8 (Below.refl w.heap.size w) _) hb2)
        clear hb2
        go_wp2
        exact bodyPost_ret (v := .tuple #[.int .u8 0, .string ByteArray.empty, .iface 118 (.pointer (some a))]) (by simp [results, Tryz.results90, go_sem]) rfl ⟨rfl, HB.out⟩
      | some y =>
        obtain ⟨b, q⟩ := y
        rw [ho] at HR
        clear ho
        unfold escE at HR ⊢
        go_enter Tryz.func90, Tryz.ntmps90
        go_wp2_with fail
        go_quiet (fail)
        go_wp2_with fail
        refine (HR.out _ ?ht).mono ?_
        case ht => exact sentAt_below HS.out (drewN8 (Below.refl _ _) _)
        rintro e w2 ⟨rfl, hb2⟩
        have HB := Lib.hid (below_then (drewN8 (Below.refl w.heap.size w) _) hb2)
        clear hb2
        go_wp2
        exact bodyPost_ret (v := .tuple #[.int .u8 (b.toNat : Int), .string (str8 q), .nilIface]) (by simp [results, Tryz.results90, go_sem]) rfl ⟨rfl, HB.out⟩
    · rw [e]
      have t110 : ((c.toNat : Int) == 110) = false := ne_int (b := 110) h1
      have t116 : ((c.toNat : Int) == 116) = false := ne_int (b := 116) h2
      have t92 : ((c.toNat : Int) == 92) = false := ne_int (b := 92) h3
      have t34 : ((c.toNat : Int) == 34) = false := ne_int (b := 34) h4
      have t39 : ((c.toNat : Int) == 39) = false := ne_int (b := 39) h5
      have t120 : ((c.toNat : Int) == 120) = false := ne_int (b := 120) h6
      clear h1 h2 h3 h4 h5 h6 e HS
      go_enter Tryz.func90, Tryz.ntmps90
      go_wp2_with fail
      go_quiet (fail)
      go_wp2
      go_quiet (fail)
      go_wp2
      exact bodyPost_ret (v := .tuple #[.int .u8 0, .string ByteArray.empty, .iface 118 (.pointer (some a))]) (by simp [results, Tryz.results90, go_sem]; rfl) rfl ⟨rfl, drewN8 (drewN8 (Below.refl _ _) _) _⟩
end Go.Proofs.YtfhakailbikjkaaGreatDoor
/- What a literal denotes: the program's unquote. No conditions beside what the variable holds. -/
namespace Go.Proofs.YtfhakailbikjkaaGreatDoor
open Go.RowKit
set_option linter.unusedVariables false

theorem ret_tb {s s' : ByteArray} {b b' : Bool} (h : s = s') (h2 : b = b') : Ending.returned (.tuple #[.string s, .bool b]) = .returned (.tuple #[.string s', .bool b']) := by rw [h, h2]
/-- A call that returns a text and a bool, and makes memory alone. -/
def RetLit (w : World) (d : UInt8) (S : List UInt8) (e : Ending) (w' : World) : Prop := e = .returned (.tuple #[.string (str8 (Lt.litL d S)), .bool (Lt.litB d S)]) ∧ Below w.heap.size w w'
theorem lit_no {d : UInt8} {S : List UInt8} (h : Lt.lit d S = none) : Ending.returned (.tuple #[.string ByteArray.empty, .bool false]) = .returned (.tuple #[.string (str8 (Lt.litL d S)), .bool (Lt.litB d S)]) := by
  rw [(Lt.lit_none h).1, (Lt.lit_none h).2]; rfl
theorem lit_yes {d : UInt8} {S A : List UInt8} (h : Lt.lit d S = some A) : Ending.returned (.tuple #[.string (str8 A), .bool true]) = .returned (.tuple #[.string (str8 (Lt.litL d S)), .bool (Lt.litB d S)]) := by
  rw [(Lt.lit_some h).1, (Lt.lit_some h).2]
/-- The first byte and the last. -/
theorem lit_cases (d : UInt8) (s : ByteArray) : (s.size < 2 ∧ Lt.lit d s.data.toList = none)
    ∨ (∃ n, ∃ h : s.size = n + 1, 1 ≤ n ∧ ((s[0] ≠ d ∧ Lt.lit d s.data.toList = none) ∨ (s[0] = d ∧ s[n] ≠ d ∧ Lt.lit d s.data.toList = none)
      ∨ (s[0] = d ∧ s[n] = d ∧ s.data.toList.getLast? = some d ∧ Lt.lit d s.data.toList = Lt.uq d (s.data.toList.drop 1).dropLast))) := by
  have hl := len8 s
  by_cases h2 : s.size < 2
  · left
    refine ⟨h2, ?_⟩
    unfold Lt.lit
    rw [if_pos (.inl (by omega))]
  · right
    refine ⟨s.size - 1, by omega, by omega, ?_⟩
    have k0 : 0 < s.data.toList.length := by omega
    have k1 : s.size - 1 < s.data.toList.length := by omega
    have eh : s.data.toList.head? = some (s[0]'(by omega)) := by rw [List.head?_eq_getElem?, List.getElem?_eq_getElem k0]; rfl
    have el : s.data.toList.getLast? = some (s[s.size - 1]'(by omega)) := by rw [List.getLast?_eq_getElem?, hl, List.getElem?_eq_getElem k1]; rfl
    by_cases e0 : s[0]'(by omega) = d
    · by_cases e1 : s[s.size - 1]'(by omega) = d
      · right; right
        refine ⟨e0, e1, by rw [el, e1], ?_⟩
        unfold Lt.lit
        rw [if_neg (by rw [eh, el, e0, e1]; simp; omega)]
      · right; left
        refine ⟨e0, e1, ?_⟩
        unfold Lt.lit
        rw [if_pos (.inr (.inr (by rw [el]; simpa using e1)))]
    · left
      refine ⟨e0, ?_⟩
      unfold Lt.lit
      rw [if_pos (.inr (.inl (by rw [eh]; simpa using e0)))]
theorem cut_mid (s : ByteArray) (n : Nat) (h : s.size = n + 1) : s.extract 1 n = str8 (s.data.toList.drop 1).dropLast := by
  apply str8_inj
  have hl := len8 s
  simp only [ByteArray.data_extract, Array.toList_extract, List.extract_eq_take_drop]
  rw [List.dropLast_eq_take, List.length_drop, hl, h]
  rfl
theorem step_eq (d b : UInt8) (r : List UInt8) : Lt.step d (b :: r) = if b = d ∨ Lt.plain b = false then none else if b = 92 then Lt.esc r else some (b, r) := by simp [Lt.step]
/-- The state of the loop. -/
def UAt (w : World) (d : UInt8) (L R A : List UInt8) (v : Value) (wr : World) : Prop := Own8 wr w.heap.size v A ∧ Lt.Rd d L A R ∧ A.length + R.length ≤ L.length ∧ Below w.heap.size w wr
theorem UAt.next {w wr w2 : World} {d b : UInt8} {L R A r : List UInt8} {v v2 : Value} (h : Hid (UAt w d L R A v wr)) (hs : Lt.step d R = some (b, r)) (ho : Hid (Own8 w2 w.heap.size v2 (A ++ [b]))) (h2 : Hid (Below w.heap.size wr w2)) : UAt w d L r (A ++ [b]) v2 w2 := by
  have h3 := Lt.step_len hs
  have h4 := h.out.2.2.1
  refine ⟨ho.out, Lt.rd_next h.out.2.1 hs, ?_, h.out.2.2.2.trans h2.out⟩
  rw [List.length_append, List.length_singleton]; omega

theorem unq_no (d : UInt8) (s : ByteArray) (w : World) (hs : (s.size : Int) ≤ 1048576) (h : (s.size < 2 ∧ Lt.lit d s.data.toList = none) ∨ ∃ n, ∃ h : s.size = n + 1, 1 ≤ n ∧ ((s[0] ≠ d ∧ Lt.lit d s.data.toList = none) ∨ (s[0] = d ∧ s[n] ≠ d ∧ Lt.lit d s.data.toList = none))) :
    Calls Tryz.prog 89 #[.string s, .int .u8 (d.toNat : Int)] w (RetLit w d s.data.toList) := by
  unfold RetLit
  rcases h with ⟨h2, e⟩ | ⟨n, hn, h1, ⟨h2, e⟩ | ⟨h2, h3, e⟩⟩
  · have HL := Lib.hid (lit_no e)
    have t1 : (s.size : Int) < 2 := by omega
    clear e h2
    go_enter Tryz.func89, Tryz.ntmps89
    go_wp2
    go_ret2
    exact ⟨HL.out, Below.refl _ _⟩
  · have HL := Lib.hid (lit_no e)
    have t1 : ¬ (s.size : Int) < 2 := by omega
    have t0 : (0 : Int) < s.size := by omega
    have j0 : 0 < s.size := by omega
    have t2 : ((s[0].toNat : Int) == (d.toNat : Int)) = false := ne_int h2
    have t3 : ((s[0].toNat : Int) != (d.toNat : Int)) = true := by simp only [bne, t2]; rfl
    clear e h2 h1
    clear hn
    go_enter Tryz.func89, Tryz.ntmps89
    go_wp2
    go_ret2
    exact ⟨HL.out, Below.refl _ _⟩
  · have HL := Lib.hid (lit_no e)
    have t1 : ¬ ((n : Int) + 1) < 2 := by omega
    have t2 : ((s[0].toNat : Int) == (d.toNat : Int)) = true := by rw [h2]; simp
    have t3 : ((s[0].toNat : Int) != (d.toNat : Int)) = false := by simp only [bne, t2]; rfl
    have t4 : ((s[n].toNat : Int) == (d.toNat : Int)) = false := ne_int h3
    have t5 : ((s[n].toNat : Int) != (d.toNat : Int)) = true := by simp only [bne, t4]; rfl
    clear e h2 h3
    go_enter Tryz.func89, Tryz.ntmps89
    go_wp2
    go_ret2
    exact ⟨HL.out, Below.refl _ _⟩
end Go.Proofs.YtfhakailbikjkaaGreatDoor
/- What a literal denotes: the program's unquote, its loop. No conditions beside what the variable holds. -/
namespace Go.Proofs.YtfhakailbikjkaaGreatDoor
open Go.RowKit
set_option linter.unusedVariables false

def sizeV : Value → Nat
  | .string s => s.size
  | _ => 0
set_option maxRecDepth 100000 in
set_option maxHeartbeats 1600000 in
theorem unq_yes (a : Addr) (d : UInt8) (s : ByteArray) (w : World) (hS : SentAt a w) (hs : (s.size : Int) ≤ 1048576) (n : Nat) (hn : s.size = n + 1) (h1 : 1 ≤ n) (h2 : s[0] = d) (h3 : s[n] = d) (hlit : Lt.lit d s.data.toList = Lt.uq d (s.data.toList.drop 1).dropLast) :
    Calls Tryz.prog 89 #[.string s, .int .u8 (d.toNat : Int)] w (RetLit w d s.data.toList) := by
  unfold RetLit
  have hxc := cut_mid s n hn
  have hll : (s.data.toList.drop 1).dropLast.length ≤ 1048576 := by rw [List.length_dropLast, List.length_drop, len8]; omega
  generalize hL : (s.data.toList.drop 1).dropLast = L at *
  obtain ⟨i0, hi, hz0, hz1, hz2⟩ := info_parts info8
  obtain ⟨w0, hmk0, hown0, hgr0⟩ := run_make_own (P := Tryz.prog) w w.heap.size 22 5 i0 (.int .u8 0) 1 Tryz.underlying22 hi hz0 hz1 .i64 .i64 L.length (by rw [hz2]; omega) (max8b (by omega)) (Nat.le_refl _)
  have hbel0 : Below w.heap.size w w0 := (Below.refl _ _).grown hgr0 (Nat.le_refl _) (fun k hk => by cases hk)
  have HU : Hid (UAt w d L L [] (.slice (some ⟨w.heap.size, 0, none⟩) 0 L.length) w0) := ⟨hown0, Lt.rd_start d L, by simp, hbel0⟩
  have hzl := str8_size L
  have HLIT := Lib.hid hlit
  have HS := Lib.hid hS
  clear hown0 hgr0 hbel0 hi hz0 hz1 hz2 hlit hL hS
  have t1 : ¬ ((n : Int) + 1) < 2 := by omega
  have t2 : ((s[0].toNat : Int) == (d.toNat : Int)) = true := by rw [h2]; simp
  have t3 : ((s[0].toNat : Int) != (d.toNat : Int)) = false := by simp only [bne, t2]; rfl
  have t4 : ((s[n].toNat : Int) == (d.toNat : Int)) = true := by rw [h3]; simp
  have t5 : ((s[n].toNat : Int) != (d.toNat : Int)) = false := by simp only [bne, t4]; rfl
  clear h2 h3
  generalize s.data.toList = S at *
  go_enter Tryz.func89, Tryz.ntmps89
  go_wp2
  go_loopw [4, 5, 6, 7, 8, 9, 10, 53] (fun _ _ x v _ _ _ _ wr => ∃ R A : List UInt8, x = .string (str8 R) ∧ UAt w d L R A v wr) (fun _ _ x _ _ _ _ _ _ => sizeV x)
  case atStart => exact ⟨L, [], rfl, HU.out⟩
  case round =>
    clear hmk0 HU hzl hxc t1 t2 t3 t4 t5
    obtain ⟨R, A, rfl, hu⟩ := hrel
    have HU := Lib.hid hu
    have HO := Lib.hid hu.1
    have hsz := hu.2.2.2.size
    have hlen := hu.2.2.1
    clear hu
    rcases R with _ | ⟨b, r⟩
    · have c1 : (str8 []).toList = [] := by rw [ByteArray.toList_eq]; rfl
      have c2 : (str8 []).toList.isEmpty = true := by rw [c1]; rfl
      have hcv := conv8 HO.out
      have HY := Lib.hid (lit_yes (HLIT.out.trans (Lt.rd_end HU.out.2.1)))
      go_wp2
      go_ret2
      exact ⟨HY.out, HU.out.2.2.2⟩
    · have hstep := step_eq d b r
      have HSZ : Hid ((str8 (b :: r)).size = r.length + 1) := by show _ = _; rw [str8_size]; rfl
      generalize hx : str8 (b :: r) = x at HSZ
      have hz : x.size = r.length + 1 := HSZ.out
      have j0 : 0 < x.size := by rw [hz]; omega
      have i0 : (0 : Int) < x.size := by omega
      have i1 : (1 : Int) ≤ x.size := by omega
      have c1 : ¬ x.toList = [] := by rw [ByteArray.toList_eq]; intro h; have h3 : x.data.toList.length = x.size := rfl; rw [h, List.length_nil] at h3; omega
      have c2 : x.toList.isEmpty = false := by simpa using c1
      have x0 : x[0] = b := str_at hx.symm 0 j0 (by simp)
      have xc : x.extract 1 x.size = str8 r := str_cut hx.symm 1
      have hrl : (r.length : Int) ≤ 10000000 := by simp at hlen; omega
      have hal : (A.length : Int) ≤ 10000000 := by simp at hlen; omega
      clear hz hlen
      clear hx
      by_cases hbad : b = d ∨ Lt.plain b = false
      · rw [if_pos hbad] at hstep
        have HNO := Lib.hid (lit_no (HLIT.out.trans (Lt.rd_bad HU.out.2.1 (by simp) hstep)))
        clear hstep
        by_cases hbd : b = d
        · have u1 : ((b.toNat : Int) == (d.toNat : Int)) = true := by rw [hbd]; simp
          clear hbd hbad
          go_wp2_with fail
          go_quiet (fail)
          go_wp2
          go_ret2
          exact ⟨HNO.out, drewN8 HU.out.2.2.2 _⟩
        · have u1 := ne_int hbd
          have HP := Lib.hid (fun W => plain_any b W)
          rw [show Lt.plain b = false by rcases hbad with h | h; exact absurd h hbd; exact h] at HP
          clear hbd hbad
          go_wp2_with fail
          go_quiet (fail)
          go_wp2_with (go_at_call 86; refine (HP.out _).mono ?_; rintro e w1 ⟨rfl, rfl⟩)
          go_ret2
          exact ⟨HNO.out, drewN8 HU.out.2.2.2 _⟩
      · rw [if_neg hbad] at hstep
        have u1 := ne_int (fun h => hbad (.inl h) : b ≠ d)
        have HP := Lib.hid (fun W => plain_any b W)
        rw [show Lt.plain b = true by cases hp : Lt.plain b; exact absurd (.inr hp) hbad; rfl] at HP
        clear hbad
        by_cases h92 : b = 92
        · rw [if_pos h92] at hstep
          have u2 : ((b.toNat : Int) == 92) = true := by rw [h92]; rfl
          clear h92
          have HR := Lib.hid (fun W hW => read_esc a r W hW hrl)
          unfold RetEsc at HR
          cases ho : Lt.esc r with
          | none =>
            rw [ho] at hstep HR
            have HNO := Lib.hid (lit_no (HLIT.out.trans (Lt.rd_bad HU.out.2.1 (by simp) hstep)))
            clear hstep ho
            unfold escE at HR
            go_wp2_with fail
            go_quiet (fail)
            go_wp2_with (first | (go_at_call 86; refine (HP.out _).mono ?_; rintro e w1 ⟨rfl, rfl⟩) | fail)
            refine (HR.out _ ?k1).mono ?_
            case k1 => exact sentAt_below HS.out (drewN8 HU.out.2.2.2 _)
            rintro e w2 ⟨rfl, hb2⟩
            have HB2 := Lib.hid (HU.out.2.2.2.trans ((drewN8 (Below.refl w.heap.size wr) nq).trans (hb2.mono hsz)))
            have hS2 := sentAt_below HS.out HB2.out
            unfold SentAt at hS2
            clear hb2
            go_wp2_with fail
            refine (is_same a _).mono ?_
            rintro e w3 ⟨rfl, rfl⟩
            go_wp2
            go_ret2
            exact ⟨HNO.out, HB2.out⟩
          | some y =>
            obtain ⟨c, q⟩ := y
            rw [ho] at hstep HR
            have HST := Lib.hid hstep
            have HQ := Lib.hid (Lt.esc_len ho)
            clear hstep ho
            unfold escE at HR
            go_wp2_with fail
            go_quiet (fail)
            go_wp2_with (first | (go_at_call 86; refine (HP.out _).mono ?_; rintro e w1 ⟨rfl, rfl⟩) | fail)
            refine (HR.out _ ?k2).mono ?_
            case k2 => exact sentAt_below HS.out (drewN8 HU.out.2.2.2 _)
            rintro e w2 ⟨rfl, hb2⟩
            have HB1 := Lib.hid ((drewN8 (Below.refl w.heap.size wr) nq).trans (hb2.mono hsz))
            have HB2 := Lib.hid (HU.out.2.2.2.trans HB1.out)
            have HO2 := Lib.hid (own8_below (own8_drewN HO.out nq) hb2)
            have hS2 := sentAt_below HS.out HB2.out
            have hsz2 := HB2.out.size
            unfold SentAt at hS2
            clear hb2
            go_wp2_with fail
            refine (is_nil a _).mono ?_
            rintro e w3 ⟨rfl, rfl⟩
            go_wp2_with (at_builtin; refine wpList_app8 rfl _ _ rfl w.heap.size _ A [c] rfl HO2.out hsz2 1 rfl rfl (by omega) _ _ rfl ?_)
            intro v3 w3 HO3 HB3
            have HN := Lib.hid (UAt.next HU HST.out HO3 (Lib.hid (HB1.out.trans HB3.out)))
            clear HO3 HB3 hS2
            go_wp2
            go_roundw
            case rel => exact ⟨q, A ++ [c], rfl, HN.out⟩
            case measure => first | (simp [sizeV, str8_size]; have := HQ.out; have := HSZ.out; omega) | trace_state
        · rw [if_neg h92] at hstep
          have u2 : ((b.toNat : Int) == 92) = false := ne_int (b := 92) h92
          have HST := Lib.hid hstep
          clear h92 hstep
          have HOq := Lib.hid (fun k => own8_drewN HO.out k)
          go_wp2_with fail
          go_quiet (fail)
          have HO1 := Lib.hid (HOq.out nq)
          have HB1 := Lib.hid (drewN8 (Below.refl w.heap.size wr) nq)
          have hsz1 := Nat.le_trans hsz HB1.out.size
          clear HOq
          generalize wr.drewN nq = wq at *
          go_wp2_with (first | (go_at_call 86; refine (HP.out _).mono ?_; rintro e w1 ⟨rfl, rfl⟩) | (at_builtin; refine wpList_app8 rfl _ _ rfl w.heap.size _ A [b] rfl HO1.out hsz1 1 rfl rfl (by omega) _ _ rfl ?_))
          intro v3 w3 HO3 HB3
          have HN := Lib.hid (UAt.next HU HST.out HO3 (Lib.hid (HB1.out.trans HB3.out)))
          clear HO3 HB3
          go_wp2
          go_roundw
          case rel => exact ⟨r, A ++ [b], rfl, HN.out⟩
          case measure => first | (simp [sizeV, str8_size]; have := HSZ.out; omega) | trace_state
end Go.Proofs.YtfhakailbikjkaaGreatDoor
/- What a literal denotes: the reference model's hexadecimal digit, end of a literal, and reading of one. No conditions. -/
namespace Go.Proofs.YtfhakailbikjkaaGreatDoor
open Go.RowKit
set_option linter.unusedVariables false

theorem Lt.hex_peel {d c : UInt8} {x : Nat} (hd : d = 34 ∨ d = 39) (hc : Lt.hexN c = some x) : c ≠ d ∧ Lt.plain c = true ∧ c ≠ 92 := by
  rcases Lt.hexN_cases c with ⟨q1, q2, q3⟩ | ⟨q1, q2, q3⟩ | ⟨q1, q3⟩ | ⟨q1, q2, q3⟩ | ⟨q1, q3⟩
  · refine ⟨?_, (Lt.plain_iff c).2 (by omega), ?_⟩
    · rintro rfl; rcases hd with rfl | rfl <;> simp at q1
    · rintro rfl; simp at q2
  · refine ⟨?_, (Lt.plain_iff c).2 (by omega), ?_⟩
    · rintro rfl; rcases hd with rfl | rfl <;> simp at q1
    · rintro rfl; simp at q1
  all_goals (rw [q3] at hc; cases hc)
theorem Lt.ends_last {d : UInt8} (hd : d = 34 ∨ d = 39) (S : List UInt8) : ∀ m k n, S.length - k ≤ m → Lt.ends d S k = some n → ∃ h : n - 1 < S.length, 1 ≤ n ∧ S[n - 1] = d := by
  have hd1 : (92 : UInt8) ≠ d := by rcases hd with rfl | rfl <;> decide
  intro m
  induction m with
  | zero =>
    intro k n hm h
    have := (Lt.ends_lt h).1
    omega
  | succ m ih =>
    intro k n hm h
    have hk := (Lt.ends_lt h).1
    by_cases e : S[k] = d
    · rw [Lt.ends_hit hk e] at h
      cases h
      exact ⟨by omega, by omega, by simpa using e⟩
    · cases hp : Lt.plain S[k]
      · rw [Lt.ends_bad hk e hp] at h; cases h
      · by_cases h92 : S[k] = 92
        · rw [Lt.ends_back hk hd1 h92] at h
          exact ih (k + 2) n (by omega) h
        · rw [Lt.ends_one hk e hp h92] at h
          exact ih (k + 1) n (by omega) h

theorem ret_i64 {a b : Int} (h : a = b) : Ending.returned (.int .i64 a) = .returned (.int .i64 b) := by rw [h]
theorem hexv_any (b : UInt8) (w : World) : Calls Tryz.prog 84 #[.int .u8 (b.toNat : Int)] w fun e w' => e = .returned (.int .i64 (hexI b)) ∧ w = w' := by
  have hb := UInt8.toNat_lt b
  rcases Lt.hexN_cases b with ⟨h1, h2, e⟩ | ⟨h1, h2, e⟩ | ⟨h1, e⟩ | ⟨h1, h2, e⟩ | ⟨h1, e⟩
  · rw [hexI_some e]
    have t1 : (48 : Int) ≤ b.toNat := by omega
    have t2 : (b.toNat : Int) ≤ 57 := by omega
    have HV : Hid (((b.toNat - 48 : Nat) : Int) = (b.toNat : Int) - 48) := by show _ = _; omega
    clear e h1 h2
    go_enter Tryz.func84, Tryz.ntmps84
    go_wp2
    go_ret
    exact ⟨ret_i64 HV.out.symm, rfl⟩
  · rw [hexI_some e]
    have t1 : (97 : Int) ≤ b.toNat := by omega
    have t2 : (b.toNat : Int) ≤ 102 := by omega
    have t3 : (48 : Int) ≤ b.toNat := by omega
    have t4 : ¬ (b.toNat : Int) ≤ 57 := by omega
    have HV : Hid (((b.toNat - 87 : Nat) : Int) = (b.toNat : Int) - 87) := by show _ = _; omega
    clear e h1 h2
    go_enter Tryz.func84, Tryz.ntmps84
    go_wp2
    go_ret
    exact ⟨ret_i64 HV.out.symm, rfl⟩
  · rw [hexI_none e]
    have t1 : (b.toNat : Int) < 48 := by omega
    have t2 : (b.toNat : Int) < 97 := by omega
    clear e h1
    go_enter Tryz.func84, Tryz.ntmps84
    go_wp2
    go_ret
    exact ⟨rfl, rfl⟩
  · rw [hexI_none e]
    have t1 : (48 : Int) ≤ b.toNat := by omega
    have t2 : (57 : Int) < b.toNat := by omega
    have t3 : (b.toNat : Int) < 97 := by omega
    clear e h1 h2
    go_enter Tryz.func84, Tryz.ntmps84
    go_wp2
    go_ret
    exact ⟨rfl, rfl⟩
  · rw [hexI_none e]
    have t1 : (48 : Int) ≤ b.toNat := by omega
    have t2 : (57 : Int) < b.toNat := by omega
    have t3 : (97 : Int) ≤ b.toNat := by omega
    have t4 : (102 : Int) < b.toNat := by omega
    clear e h1
    go_enter Tryz.func84, Tryz.ntmps84
    go_wp2
    go_ret
    exact ⟨rfl, rfl⟩

/-- Where a literal ends, as the model answers it. -/
def endV : Option Nat → Int
  | some n => n
  | none => -1
def RetEnd (w : World) (o : Option Nat) (e : Ending) (w' : World) : Prop := e = .returned (.int .i64 (endV o)) ∧ Below w.heap.size w w'
theorem ret_end {z : Int} {o o' : Option Nat} (h : o = o') (hz : endV o' = z) : Ending.returned (.int .i64 z) = .returned (.int .i64 (endV o)) := by rw [h, hz]

set_option maxHeartbeats 1600000 in
theorem spec_end (s : ByteArray) (p : Nat) (w : World) (hs : (s.size : Int) ≤ 1048576) (hp : p < s.size) :
    Calls Tryz.prog 44 #[.string s, .int .i64 (p : Int)] w (RetEnd w (Lt.ends s[p] s.data.toList (p + 1))) := by
  unfold RetEnd
  generalize hE : Lt.ends s[p] s.data.toList (p + 1) = E
  have HE := Lib.hid hE
  have HL := Lib.hid (len8 s)
  have hpi : (p : Int) < s.size := by omega
  have hp0 : (0 : Int) ≤ p := by omega
  clear hE
  go_enter Tryz.func44, Tryz.ntmps44
  go_wp2
  go_loopw [4, 5] (fun _ i wr => ∃ k q : Nat, i = .int .i64 k ∧ k ≤ s.size + 1 ∧ Lt.ends s[p] s.data.toList k = E ∧ wr = w.drewN q) (fun _ i _ => s.size + 1 - (intOf i).toNat)
  case atStart => exact ⟨p + 1, 0, by go_num, by omega, HE.out, rfl⟩
  case round =>
    clear HE
    obtain ⟨k, q, rfl, hk, he, rfl⟩ := hrel
    have HE := Lib.hid he
    clear he
    have k0 : (0 : Int) ≤ k := by omega
    by_cases hlt : k < s.size
    · have ki : (k : Int) < s.size := by omega
      have hkl : k < s.data.toList.length := by rw [HL.out]; exact hlt
      by_cases hh : s[k] = s[p]
      · have t1 : ((s[k].toNat : Int) == (s[p].toNat : Int)) = true := by rw [hh]; simp
        have HH := Lib.hid (Lt.ends_hit (d := s[p]) hkl hh)
        clear hh
        go_wp2_with fail
        go_quiet (fail)
        go_wp2
        go_ret
        exact ⟨ret_end (HE.out.symm.trans HH.out) (by simp [endV]), drewN8 (Below.refl _ _) _⟩
      · have t1 := ne_int hh
        cases hpl : Lt.plain s[k]
        · have HB := Lib.hid (Lt.ends_bad (d := s[p]) hkl hh hpl)
          rcases (Lt.plain_no _).1 hpl with h | h
          · have u1 : (s[k].toNat : Int) < 32 := by omega
            clear hh hpl h
            go_wp2_with fail
            go_quiet (fail)
            go_wp2
            go_ret
            exact ⟨ret_end (HE.out.symm.trans HB.out) rfl, drewN8 (Below.refl _ _) _⟩
          · have u1 : ¬ (s[k].toNat : Int) < 32 := by omega
            have u2 : (126 : Int) < s[k].toNat := by omega
            clear hh hpl h
            go_wp2_with fail
            go_quiet (fail)
            go_wp2
            go_ret
            exact ⟨ret_end (HE.out.symm.trans HB.out) rfl, drewN8 (Below.refl _ _) _⟩
        · obtain ⟨g1, g2⟩ := (Lt.plain_iff _).1 hpl
          have u1 : ¬ (s[k].toNat : Int) < 32 := by omega
          have u2 : ¬ (126 : Int) < s[k].toNat := by omega
          by_cases h92 : s[k] = 92
          · have u3 : ((s[k].toNat : Int) == 92) = true := by rw [h92]; rfl
            have HB := Lib.hid (Lt.ends_back (d := s[p]) hkl (fun e => hh (h92.trans e)) h92)
            clear hh hpl h92 g1 g2
            go_wp2_with fail
            go_quiet (fail)
            go_wp2
            go_roundw
            case rel => exact ⟨k + 2, _, by first | rfl | go_num | (congr 1; omega), by omega, HB.out.symm.trans HE.out, rfl⟩
            case measure => first | (simp [intOf]; done) | (simp [intOf]; omega)
          · have u3 : ((s[k].toNat : Int) == 92) = false := ne_int (b := 92) h92
            have HB := Lib.hid (Lt.ends_one (d := s[p]) hkl hh hpl h92)
            clear hh hpl h92 g1 g2
            go_wp2_with fail
            go_quiet (fail)
            go_wp2
            go_roundw
            case rel => exact ⟨k + 1, _, by first | rfl | go_num, by omega, HB.out.symm.trans HE.out, rfl⟩
            case measure => first | (simp [intOf]; done) | (simp [intOf]; omega)
    · have HO := Lib.hid (Lt.ends_over (d := s[p]) (S := s.data.toList) (k := k) (by rw [HL.out]; omega))
      have ki : ¬ (k : Int) < s.size := by omega
      go_wp2
      go_ret
      exact ⟨ret_end (HE.out.symm.trans HO.out) rfl, drewN8 (Below.refl _ _) _⟩
end Go.Proofs.YtfhakailbikjkaaGreatDoor
/- A call that only answers, as a step of a region that draws its order. -/
namespace Go.Proofs.YtfhakailbikjkaaGreatDoor
open Go.RowKit
set_option linter.unusedVariables false
theorem step_hexv {w : World} {ops : Array Oper} {o : Oper} {a : Act} {K : Act → World → Prop} {Q : Exit → Act → World → Prop} {E : Prop} (hgd : o.guard = none) (x : Operand)
    (ho : o.op = .call { callee := .value (.func 84), args := #[x], argTypes := #[5] }) (b : UInt8) (z : Int) (hx : a.eval x = .int .u8 (b.toNat : Int)) (hc : Calls Tryz.prog 84 #[.int .u8 (b.toNat : Int)] w fun e w' => e = .returned (.int .i64 z) ∧ w = w')
    (h : K (a.put o.dst (.int .i64 z)) w) : if Region.wanted o (yielded ops a.tmps) = true then Oper.wp Tryz.prog o a w K Q else E := by
  have hw : Region.wanted o (yielded ops a.tmps) = true := by simp [Region.wanted, hgd]
  rw [if_pos hw]
  have hen : (execOp a.eval o).run Tryz.prog w = .ok (.enter 84 #[.int .u8 (b.toNat : Int)]) w := by
    unfold execOp
    rw [ho]
    have hx2 : a.eval x = .int .u8 (b.toNat : Int) := hx
    unfold Act.eval at hx2
    go_simp
    simpa using hx2
  unfold Oper.wp
  rw [hen, Oper.upon_enter]
  exact hc.mono fun e w' ⟨h1, h2⟩ => by subst h1; subst h2; exact h
end Go.Proofs.YtfhakailbikjkaaGreatDoor
