/- Escapes are read: the program's readHex and readEscape. No conditions beside what the variable holds. -/
import Derived.Test.YtjgnigalodebkaaDoorJ1
import Derived.Test.YtjgnigalodebkaaDoorL2
import Derived.Test.YtjgnigalodebkaaDoorShelf
import Derived.Deep.QuietTactic
import Derived.BigQuiet
import Derived.IntWalk
namespace Go.Proofs.YtjgnigalodebkaaDoor
open Go.RowKit
set_option linter.unusedVariables false

/-- What an escape gives: a byte and the rest and nil, or the sentinel. -/
def escE (a : Addr) : Option (UInt8 × List UInt8) → Ending
  | none => .returned (.tuple #[.int .u8 0, .string ByteArray.empty, .iface 111 (.pointer (some a))])
  | some (b, r) => .returned (.tuple #[.int .u8 (b.toNat : Int), .string (str8 r), .nilIface])
def RetEsc (a : Addr) (w : World) (o : Option (UInt8 × List UInt8)) (e : Ending) (w' : World) : Prop := e = escE a o ∧ Below w.heap.size w w'
/-- A hexadecimal digit's value as an integer. -/
def hexI (b : UInt8) : Int := match Lt.hexN b with
  | some n => n
  | none => -1
theorem hexI_all : ∀ k : Fin 256, Lib.indexByte [48, 49, 50, 51, 52, 53, 54, 55, 56, 57, 97, 98, 99, 100, 101, 102] (UInt8.ofNat k.val) = hexI (UInt8.ofNat k.val) := by decide +kernel
theorem hexI_at (b : UInt8) : Lib.indexByte [48, 49, 50, 51, 52, 53, 54, 55, 56, 57, 97, 98, 99, 100, 101, 102] b = hexI b := by
  have h := hexI_all ⟨b.toNat, UInt8.toNat_lt b⟩
  simpa using h
theorem idx_any (b : UInt8) (w : World) : Calls Tryd.prog 74 #[.string ⟨#[48, 49, 50, 51, 52, 53, 54, 55, 56, 57, 97, 98, 99, 100, 101, 102]⟩, .int .u8 (b.toNat : Int)] w fun e w' => e = .returned (.int .i64 (hexI b)) ∧ w = w' := by
  refine (Tryd.strings_IndexByte ⟨#[48, 49, 50, 51, 52, 53, 54, 55, 56, 57, 97, 98, 99, 100, 101, 102]⟩ (b.toNat : Int) w).mono fun e w' ⟨h1, h2⟩ => ⟨?_, h2.symm⟩
  rw [h1]
  have e1 : ((b.toNat : Int)).toNat.toUInt8 = b := by simp
  rw [e1]
  exact congrArg (fun z => Ending.returned (.int .i64 z)) (hexI_at b)
theorem hexI_some {b : UInt8} {n : Nat} (h : Lt.hexN b = some n) : hexI b = n := by unfold hexI; rw [h]
theorem hexI_none {b : UInt8} (h : Lt.hexN b = none) : hexI b = -1 := by unfold hexI; rw [h]

theorem str_len {x : ByteArray} {R : List UInt8} (hx : x = str8 R) : x.size = R.length := by rw [hx, str8_size]
theorem str_at {x : ByteArray} {R : List UInt8} (hx : x = str8 R) (k : Nat) (h : k < x.size) (h2 : k < R.length) : x[k] = R[k] := by
  subst hx; rfl
theorem str_cut {x : ByteArray} {R : List UInt8} (hx : x = str8 R) (k : Nat) : x.extract k x.size = str8 (R.drop k) := by
  subst hx
  have h : ((str8 R).extract k (str8 R).size).data.toList = R.drop k := by
    simp only [ByteArray.data_extract, Array.toList_extract, List.extract_eq_take_drop]
    rw [str8_size]
    show ((R.drop k).take (R.length - k)) = _
    rw [List.take_of_length_le (by rw [List.length_drop]; exact Nat.le_refl _)]
  exact str8_inj h

set_option maxRecDepth 100000 in
set_option maxHeartbeats 800000 in
theorem read_hex (a : Addr) (R : List UInt8) (w : World) (hS : SentAt a w) (hl : (R.length : Int) ≤ 10000000) : Calls Tryd.prog 63 #[.string (str8 R)] w (RetEsc a w (Lt.esc (120 :: R))) := by
  unfold RetEsc
  obtain ⟨x, hx⟩ : ∃ x, x = str8 R := ⟨_, rfl⟩
  rw [← hx]
  have hz := str_len hx
  unfold SentAt at hS
  by_cases h2 : R.length < 2
  · have e : Lt.esc (120 :: R) = none := by
      rcases R with _ | ⟨b, _ | ⟨c, R⟩⟩
      · simp [Lt.esc]
      · simp [Lt.esc]
      · simp at h2; omega
    rw [e]
    have hs : (x.size : Int) < 2 := by omega
    clear hz h2 hx e hl
    go_enter Tryd.func63, Tryd.ntmps63
    go_wp2
    go_quiet (fail)
    go_wp2
    exact bodyPost_ret (v := .tuple #[.int .u8 0, .string ByteArray.empty, .iface 111 (.pointer (some a))]) (by simp [results, Tryd.results63, go_sem]; rfl) rfl ⟨rfl, drewN8 (Below.refl _ _) _⟩
  · obtain ⟨h, l, r, rfl⟩ : ∃ h l r, R = h :: l :: r := by
      rcases R with _ | ⟨b, _ | ⟨c, R⟩⟩
      · simp at h2
      · simp at h2
      · exact ⟨b, c, R, rfl⟩
    have hs : (2 : Int) ≤ x.size := by rw [hz]; simp; omega
    have i0 : (0 : Int) < x.size := by omega
    have i1 : (1 : Int) < x.size := by omega
    have j0 : 0 < x.size := by omega
    have j1 : 1 < x.size := by omega
    have x0 : x[0] = h := str_at hx 0 j0 (by simp)
    have x1 : x[1] = l := str_at hx 1 j1 (by simp)
    have xc : x.extract 2 x.size = str8 r := str_cut hx 2
    cases eh : Lt.hexN h with
    | none =>
      have e : Lt.esc (120 :: h :: l :: r) = none := by simp [Lt.esc, eh]
      rw [e]
      have H1 := Lib.hid (fun W => idx_any h W)
      rw [hexI_none eh] at H1
      have H2 := Lib.hid (fun W => idx_any l W)
      generalize hexI l = y at H2
      clear hz hx e hl eh
      go_enter Tryd.func63, Tryd.ntmps63
      go_wp2_with fail
      refine (H1.out _).mono ?_
      rintro e w1 ⟨rfl, rfl⟩
      go_wp2_with fail
      refine (H2.out _).mono ?_
      rintro e w1 ⟨rfl, rfl⟩
      go_wp2_with fail
      go_quiet (fail)
      go_wp2
      exact bodyPost_ret (v := .tuple #[.int .u8 0, .string ByteArray.empty, .iface 111 (.pointer (some a))]) (by simp [results, Tryd.results63, go_sem]; rfl) rfl ⟨rfl, drewN8 (Below.refl _ _) _⟩
    | some n =>
      have n16 := Lt.hexN_lt eh
      have H1 := Lib.hid (fun W => idx_any h W)
      rw [hexI_some eh] at H1
      have H2 := Lib.hid (fun W => idx_any l W)
      cases el : Lt.hexN l with
      | none =>
        have e : Lt.esc (120 :: h :: l :: r) = none := by simp [Lt.esc, eh, el]
        rw [e]
        rw [hexI_none el] at H2
        clear hz hx e hl eh el
        go_enter Tryd.func63, Tryd.ntmps63
        go_wp2_with fail
        refine (H1.out _).mono ?_
        rintro e w1 ⟨rfl, rfl⟩
        go_wp2_with fail
        refine (H2.out _).mono ?_
        rintro e w1 ⟨rfl, rfl⟩
        go_wp2_with fail
        go_quiet (fail)
        go_wp2
        exact bodyPost_ret (v := .tuple #[.int .u8 0, .string ByteArray.empty, .iface 111 (.pointer (some a))]) (by simp [results, Tryd.results63, go_sem]; rfl) rfl ⟨rfl, drewN8 (Below.refl _ _) _⟩
      | some m =>
        have m16 := Lt.hexN_lt el
        have e : Lt.esc (120 :: h :: l :: r) = some (UInt8.ofNat (16 * n + m), r) := by simp [Lt.esc, eh, el]
        rw [e]
        rw [hexI_some el] at H2
        obtain ⟨b, hb⟩ : ∃ b, b = UInt8.ofNat (16 * n + m) := ⟨_, rfl⟩
        have hbn : b.toNat = 16 * n + m := by rw [hb, UInt8.toNat_ofNat']; omega
        rw [← hb]
        have HBN := Lib.hid (show (b.toNat : Int) = (n : Int) * 16 + m by omega)
        have e1 : IntKind.i64.wrap ((n : Int) * 16) = (n : Int) * 16 := IntWalk.i64_in _ (by omega)
        have e2 : IntKind.i64.wrap ((n : Int) * 16 + m) = (n : Int) * 16 + m := IntWalk.i64_in _ (by omega)
        have e3 : IntKind.u8.wrap ((n : Int) * 16 + m) = (n : Int) * 16 + m := by simp [IntKind.wrap, IntKind.signed, IntKind.bits]; omega
        have p1 : (0 : Int) ≤ n := by omega
        have p2 : (0 : Int) ≤ m := by omega
        clear hz hx e hl eh el hb hbn
        go_enter Tryd.func63, Tryd.ntmps63
        go_wp2_with fail
        refine (H1.out _).mono ?_
        rintro e w1 ⟨rfl, rfl⟩
        go_wp2_with fail
        refine (H2.out _).mono ?_
        rintro e w1 ⟨rfl, rfl⟩
        go_wp2_with fail
        go_quiet (fail)
        go_wp2
        exact bodyPost_ret (v := .tuple #[.int .u8 (b.toNat : Int), .string (str8 r), .nilIface]) (by rw [HBN.out]; simp [results, Tryd.results63, go_sem]) rfl ⟨rfl, drewN8 (Below.refl _ _) _⟩

/-- The cases of an escape. -/
theorem esc_cases (R : List UInt8) : (R = [] ∧ Lt.esc R = none) ∨ ∃ c r, R = c :: r ∧
    ((c = 110 ∧ Lt.esc R = some (10, r)) ∨ (c = 116 ∧ Lt.esc R = some (9, r)) ∨ (c = 92 ∧ Lt.esc R = some (c, r)) ∨ (c = 34 ∧ Lt.esc R = some (c, r)) ∨ (c = 39 ∧ Lt.esc R = some (c, r)) ∨ c = 120
      ∨ (c ≠ 110 ∧ c ≠ 116 ∧ c ≠ 92 ∧ c ≠ 34 ∧ c ≠ 39 ∧ c ≠ 120 ∧ Lt.esc R = none)) := by
  rcases R with _ | ⟨c, r⟩
  · left; exact ⟨rfl, by simp [Lt.esc]⟩
  · right
    refine ⟨c, r, rfl, ?_⟩
    by_cases h1 : c = 110
    · left; exact ⟨h1, by simp [Lt.esc, h1]⟩
    · by_cases h2 : c = 116
      · right; left; exact ⟨h2, by simp [Lt.esc, h2]⟩
      · by_cases h3 : c = 92
        · right; right; left; exact ⟨h3, by simp [Lt.esc, h3]⟩
        · by_cases h4 : c = 34
          · right; right; right; left; exact ⟨h4, by simp [Lt.esc, h4]⟩
          · by_cases h5 : c = 39
            · right; right; right; right; left; exact ⟨h5, by simp [Lt.esc, h5]⟩
            · by_cases h6 : c = 120
              · right; right; right; right; right; left; exact h6
              · right; right; right; right; right; right
                exact ⟨h1, h2, h3, h4, h5, h6, by simp [Lt.esc, h1, h2, h3, h4, h5, h6]⟩

set_option maxRecDepth 100000 in
set_option maxHeartbeats 800000 in
theorem read_esc (a : Addr) (R : List UInt8) (w : World) (hS : SentAt a w) (hl : (R.length : Int) ≤ 10000000) : Calls Tryd.prog 39 #[.string (str8 R)] w (RetEsc a w (Lt.esc R)) := by
  unfold RetEsc
  obtain ⟨x, hx⟩ : ∃ x, x = str8 R := ⟨_, rfl⟩
  rw [← hx]
  have hz := str_len hx
  have HS := Lib.hid hS
  rcases esc_cases R with ⟨rfl, e⟩ | ⟨c, r, rfl, hc⟩
  · rw [e]
    have c1 : x.toList = [] := by rw [ByteArray.toList_eq]; exact List.length_eq_zero_iff.1 (by show x.size = 0; rw [hz]; rfl)
    have c2 : x.toList.isEmpty = true := by rw [c1]; rfl
    unfold SentAt at hS
    clear hz hx e hl HS
    go_enter Tryd.func39, Tryd.ntmps39
    go_wp2
    go_quiet (fail)
    go_wp2
    exact bodyPost_ret (v := .tuple #[.int .u8 0, .string ByteArray.empty, .iface 111 (.pointer (some a))]) (by simp [results, Tryd.results39, go_sem]; rfl) rfl ⟨rfl, drewN8 (Below.refl _ _) _⟩
  · have j0 : 0 < x.size := by rw [hz]; simp
    have i0 : (0 : Int) < x.size := by omega
    have i1 : (1 : Int) ≤ x.size := by omega
    have c1 : ¬ x.toList = [] := by rw [ByteArray.toList_eq]; intro h; have h3 : x.data.toList.length = x.size := rfl; rw [h, List.length_nil] at h3; omega
    have c2 : x.toList.isEmpty = false := by simpa using c1
    have x0 : x[0] = c := str_at hx 0 j0 (by simp)
    have xc : x.extract 1 x.size = str8 r := str_cut hx 1
    have hl2 : (r.length : Int) ≤ 10000000 := by simp at hl; omega
    unfold SentAt at hS
    clear hz hx hl
    rcases hc with ⟨h, e⟩ | ⟨h, e⟩ | ⟨h, e⟩ | ⟨h, e⟩ | ⟨h, e⟩ | h | ⟨h1, h2, h3, h4, h5, h6, e⟩
    · rw [e]
      have t110 : ((c.toNat : Int) == 110) = true := by rw [h]; rfl
      clear h e HS hS
      go_enter Tryd.func39, Tryd.ntmps39
      go_wp2_with fail
      go_quiet (fail)
      go_wp2
      exact bodyPost_ret (v := .tuple #[.int .u8 10, .string (str8 r), .nilIface]) (by simp [results, Tryd.results39, go_sem]) rfl ⟨rfl, drewN8 (Below.refl _ _) _⟩
    · rw [e]
      have t110 : ((c.toNat : Int) == 110) = false := by rw [h]; rfl
      have t116 : ((c.toNat : Int) == 116) = true := by rw [h]; rfl
      clear h e HS hS
      go_enter Tryd.func39, Tryd.ntmps39
      go_wp2_with fail
      go_quiet (fail)
      go_wp2
      exact bodyPost_ret (v := .tuple #[.int .u8 9, .string (str8 r), .nilIface]) (by simp [results, Tryd.results39, go_sem]) rfl ⟨rfl, drewN8 (Below.refl _ _) _⟩
    · rw [e]
      have t110 : ((c.toNat : Int) == 110) = false := by rw [h]; rfl
      have t116 : ((c.toNat : Int) == 116) = false := by rw [h]; rfl
      have t92 : ((c.toNat : Int) == 92) = true := by rw [h]; rfl
      clear h e HS hS
      go_enter Tryd.func39, Tryd.ntmps39
      go_wp2_with fail
      go_quiet (fail)
      go_wp2
      exact bodyPost_ret (v := .tuple #[.int .u8 (c.toNat : Int), .string (str8 r), .nilIface]) (by simp [results, Tryd.results39, go_sem]) rfl ⟨rfl, drewN8 (Below.refl _ _) _⟩
    · rw [e]
      have t110 : ((c.toNat : Int) == 110) = false := by rw [h]; rfl
      have t116 : ((c.toNat : Int) == 116) = false := by rw [h]; rfl
      have t92 : ((c.toNat : Int) == 92) = false := by rw [h]; rfl
      have t34 : ((c.toNat : Int) == 34) = true := by rw [h]; rfl
      clear h e HS hS
      go_enter Tryd.func39, Tryd.ntmps39
      go_wp2_with fail
      go_quiet (fail)
      go_wp2
      exact bodyPost_ret (v := .tuple #[.int .u8 (c.toNat : Int), .string (str8 r), .nilIface]) (by simp [results, Tryd.results39, go_sem]) rfl ⟨rfl, drewN8 (Below.refl _ _) _⟩
    · rw [e]
      have t110 : ((c.toNat : Int) == 110) = false := by rw [h]; rfl
      have t116 : ((c.toNat : Int) == 116) = false := by rw [h]; rfl
      have t92 : ((c.toNat : Int) == 92) = false := by rw [h]; rfl
      have t34 : ((c.toNat : Int) == 34) = false := by rw [h]; rfl
      have t39 : ((c.toNat : Int) == 39) = true := by rw [h]; rfl
      clear h e HS hS
      go_enter Tryd.func39, Tryd.ntmps39
      go_wp2_with fail
      go_quiet (fail)
      go_wp2
      exact bodyPost_ret (v := .tuple #[.int .u8 (c.toNat : Int), .string (str8 r), .nilIface]) (by simp [results, Tryd.results39, go_sem]) rfl ⟨rfl, drewN8 (Below.refl _ _) _⟩
    · have HR := Lib.hid (fun W hW => read_hex a r W hW hl2)
      rw [← h] at HR
      unfold RetEsc at HR
      have t110 : ((c.toNat : Int) == 110) = false := by rw [h]; rfl
      have t116 : ((c.toNat : Int) == 116) = false := by rw [h]; rfl
      have t92 : ((c.toNat : Int) == 92) = false := by rw [h]; rfl
      have t34 : ((c.toNat : Int) == 34) = false := by rw [h]; rfl
      have t39 : ((c.toNat : Int) == 39) = false := by rw [h]; rfl
      have t120 : ((c.toNat : Int) == 120) = true := by rw [h]; rfl
      clear h hS
      cases ho : Lt.esc (c :: r) with
      | none =>
        rw [ho] at HR
        clear ho
        unfold escE at HR ⊢
        go_enter Tryd.func39, Tryd.ntmps39
        go_wp2_with fail
        go_quiet (fail)
        go_wp2_with fail
        refine (HR.out _ ?hs).mono ?_
        case hs => exact sentAt_below HS.out (drewN8 (Below.refl _ _) _)
        rintro e w2 ⟨rfl, hb2⟩
        have HB := Lib.hid (below_then (drewN8 (Below.refl w.heap.size w) _) hb2)
        clear hb2
        go_wp2
        exact bodyPost_ret (v := .tuple #[.int .u8 0, .string ByteArray.empty, .iface 111 (.pointer (some a))]) (by simp [results, Tryd.results39, go_sem]) rfl ⟨rfl, HB.out⟩
      | some y =>
        obtain ⟨b, q⟩ := y
        rw [ho] at HR
        clear ho
        unfold escE at HR ⊢
        go_enter Tryd.func39, Tryd.ntmps39
        go_wp2_with fail
        go_quiet (fail)
        go_wp2_with fail
        refine (HR.out _ ?ht).mono ?_
        case ht => exact sentAt_below HS.out (drewN8 (Below.refl _ _) _)
        rintro e w2 ⟨rfl, hb2⟩
        have HB := Lib.hid (below_then (drewN8 (Below.refl w.heap.size w) _) hb2)
        clear hb2
        go_wp2
        exact bodyPost_ret (v := .tuple #[.int .u8 (b.toNat : Int), .string (str8 q), .nilIface]) (by simp [results, Tryd.results39, go_sem]) rfl ⟨rfl, HB.out⟩
    · rw [e]
      have t110 : ((c.toNat : Int) == 110) = false := ne_int (b := 110) h1
      have t116 : ((c.toNat : Int) == 116) = false := ne_int (b := 116) h2
      have t92 : ((c.toNat : Int) == 92) = false := ne_int (b := 92) h3
      have t34 : ((c.toNat : Int) == 34) = false := ne_int (b := 34) h4
      have t39 : ((c.toNat : Int) == 39) = false := ne_int (b := 39) h5
      have t120 : ((c.toNat : Int) == 120) = false := ne_int (b := 120) h6
      clear h1 h2 h3 h4 h5 h6 e HS
      go_enter Tryd.func39, Tryd.ntmps39
      go_wp2_with fail
      go_quiet (fail)
      go_wp2
      go_quiet (fail)
      go_wp2
      exact bodyPost_ret (v := .tuple #[.int .u8 0, .string ByteArray.empty, .iface 111 (.pointer (some a))]) (by simp [results, Tryd.results39, go_sem]; rfl) rfl ⟨rfl, drewN8 (drewN8 (Below.refl _ _) _) _⟩
end Go.Proofs.YtjgnigalodebkaaDoor
