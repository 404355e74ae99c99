/- IntegerOfText of the program: blanks around, a sign, up to 12 digits. No conditions. -/
import Derived.Test.YtlbidfegcfcaiaaDoorW3
import Derived.Test.YtlbidfegcfcaiaaDoorT1
import Derived.Test.YtlbidfegcfcaiaaDoorShelf
import Derived.Lib.TrimByte
namespace Go.Proofs.YtlbidfegcfcaiaaDoor
open Go.RowKit
set_option linter.unusedVariables false

/-- What a text without blanks around it denotes as data. -/
def itN (T : List UInt8) : Bool := T.head? == some 45
def itD (T : List UInt8) : List UInt8 := if T.head? = some 45 ∨ T.head? = some 43 then T.tail else T
def itV (T : List UInt8) : Int := if itN T = true then -Dec.dvv 12 (itD T) else Dec.dvv 12 (itD T)
def itB (T : List UInt8) : Bool := Dec.dok 12 (itD T)
theorem dvv_bound (t : List UInt8) : 0 ≤ Dec.dvv 12 t ∧ Dec.dvv 12 t < 1000000000000 := by
  unfold Dec.dvv
  split
  · rename_i h
    unfold Dec.dok at h
    simp only [Bool.and_eq_true, decide_eq_true_eq] at h
    have h1 := Dec.val_lt t h.2
    have h2 : 10 ^ t.length ≤ 10 ^ 12 := Nat.pow_le_pow_right (by omega) (by omega)
    have h3 : (10 : Nat) ^ 12 = 1000000000000 := by rfl
    omega
  · omega
theorem hasP (T : List UInt8) (c : UInt8) : Lib.hasPrefix T [c] = (T.head? == some c) := by
  unfold Lib.hasPrefix
  cases T with
  | nil => rfl
  | cons b l =>
    by_cases h : b = c
    · subst h; simp
    · have h2 : (c == b) = false := by simpa using fun e => h e.symm
      simp [List.isPrefixOf, h, h2]
theorem trimP (T : List UInt8) (c : UInt8) : Lib.trimPrefix T [c] = if T.head? = some c then T.tail else T := by
  unfold Lib.trimPrefix
  rw [hasP]
  by_cases h : T.head? = some c
  · rw [if_pos h, if_pos (by simpa using h)]; simp
  · rw [if_neg h, if_neg (by simpa using h)]
theorem str8_max {T : List UInt8} {s : ByteArray} (hs : s.size ≤ maxLen) (h : T.length ≤ s.size) : (str8 T).size ≤ maxLen := by rw [str8_size]; omega

theorem call_trim (s : ByteArray) (w : World) (hs : (s.size : Int) ≤ 1048576) : Calls Tryd.prog 37 #[.string s, .string ⟨#[32]⟩] w fun e w' => e = .returned (.string (str8 (Lib.trimB s.data.toList 32))) ∧ Below w.heap.size w w' :=
  (Tryd.strings_Trim_one s 32 (by decide) w (by omega)).mono fun e w' ⟨h1, h2⟩ => ⟨h1, by rcases h2 with rfl | rfl; exact Below.refl _ _; exact (Below.refl _ _).drew⟩
theorem call_cut (T : List UInt8) (w : World) : Calls Tryd.prog 36 #[.string (str8 T), .string ⟨#[45]⟩] w fun e w' => e = .returned (.tuple #[.string (str8 (if T.head? = some 45 then T.tail else T)), .bool (itN T)]) ∧ w = w' := by
  refine (Tryd.strings_CutPrefix (str8 T) ⟨#[45]⟩ w).mono fun e w' ⟨h1, h2⟩ => ⟨?_, h2.symm⟩
  rw [h1, str8_list]
  show Ending.returned (.tuple #[.string ⟨(Lib.trimPrefix T [45]).toArray⟩, .bool (Lib.hasPrefix T [45])]) = _
  rw [trimP, hasP]; rfl
theorem call_plus (T : List UInt8) (w : World) : Calls Tryd.prog 38 #[.string (str8 T), .string ⟨#[43]⟩] w fun e w' => e = .returned (.string (str8 (if T.head? = some 43 then T.tail else T))) ∧ w = w' := by
  refine (Tryd.strings_TrimPrefix (str8 T) ⟨#[43]⟩ w).mono fun e w' ⟨h1, h2⟩ => ⟨?_, h2.symm⟩
  rw [h1, str8_list]
  show Ending.returned (.string ⟨(Lib.trimPrefix T [43]).toArray⟩) = _
  rw [trimP]; rfl
theorem call_dig (D : List UInt8) (w : World) (hs : (D.length : Int) ≤ 1048576) : Calls Tryd.prog 39 #[.string (str8 D), .int .i64 12] w fun e w' => e = .returned (.tuple #[.int .i64 (Dec.dvv 12 D), .bool (Dec.dok 12 D)]) ∧ w = w' := by
  have h := dv_any (str8 D) 12 w (by rw [str8_size]; unfold maxLen; omega) (by omega)
  rw [str8_list] at h
  exact h
theorem trim_len (l : List UInt8) (c : UInt8) : (Lib.trimB l c).length ≤ l.length := by
  unfold Lib.trimB Lib.trimLeftB Lib.trimRightB
  have h1 := (List.dropWhile_sublist (p := (· == c)) (l := (l.reverse.dropWhile (· == c)).reverse)).length_le
  have h2 := (List.dropWhile_sublist (p := (· == c)) (l := l.reverse)).length_le
  rw [List.length_reverse] at h1 h2
  omega
/-- What IntegerOfText answers. -/
def RetIt (w : World) (T : List UInt8) (e : Ending) (w' : World) : Prop := e = .returned (.tuple #[.int .i64 (itV T), .bool (itB T)]) ∧ Below w.heap.size w w'

theorem impl_it (s : ByteArray) (w : World) (hs : (s.size : Int) ≤ 1048576) : Calls Tryd.prog 22 #[.string s] w (RetIt w (Lib.trimB s.data.toList 32)) := by
  unfold RetIt
  have HT := Lib.hid (fun W => call_trim s W hs)
  have hl : ((Lib.trimB s.data.toList 32).length : Int) ≤ 1048576 := by have := trim_len s.data.toList 32; rw [len8] at this; omega
  generalize Lib.trimB s.data.toList 32 = T at *
  have HC := Lib.hid (fun W => call_cut T W)
  have HP := Lib.hid (fun W => call_plus T W)
  have hlt : (T.tail.length : Int) ≤ 1048576 := by rw [List.length_tail]; omega
  by_cases h1 : T.head? = some 45
  · have e1 : itN T = true := by unfold itN; rw [h1]; rfl
    have e2 : itD T = T.tail := by unfold itD; rw [if_pos (.inl h1)]
    have e3 : itV T = -Dec.dvv 12 T.tail := by unfold itV; rw [if_pos e1, e2]
    have e4 : itB T = Dec.dok 12 T.tail := by unfold itB; rw [e2]
    have HD := Lib.hid (fun W => call_dig T.tail W hlt)
    obtain ⟨b1, b2⟩ := dvv_bound T.tail
    rw [if_pos h1, e1] at HC
    rw [e3, e4]
    clear e1 e2 e3 e4 HP h1 hl hlt hs
    generalize Dec.dvv 12 T.tail = x at *
    generalize Dec.dok 12 T.tail = y at *
    go_enter Tryd.func22, Tryd.ntmps22
    go_wp2_with (first | (go_at_call 37; refine (HT.out _).mono ?_; rintro e w1 ⟨rfl, hb1⟩; have HB1 := Lib.hid hb1; clear hb1) | (go_at_call 36; refine (HC.out _).mono ?_; rintro e w2 ⟨rfl, rfl⟩) | (go_at_call 39; refine (HD.out _).mono ?_; rintro e w3 ⟨rfl, rfl⟩))
    go_ret2
    exact ⟨rfl, HB1.out⟩
  · have e1 : itN T = false := by unfold itN; simpa using h1
    have e3 : itV T = Dec.dvv 12 (itD T) := by unfold itV; rw [if_neg (by rw [e1]; simp)]
    have e4 : itB T = Dec.dok 12 (itD T) := rfl
    have e2 : itD T = if T.head? = some 43 then T.tail else T := by
      unfold itD
      by_cases h2 : T.head? = some 43
      · rw [if_pos (.inr h2), if_pos h2]
      · rw [if_neg (fun h => h.elim h1 h2), if_neg h2]
    have hl2 : ((itD T).length : Int) ≤ 1048576 := by rw [e2]; split <;> omega
    have HD := Lib.hid (fun W => call_dig (itD T) W hl2)
    obtain ⟨b1, b2⟩ := dvv_bound (itD T)
    rw [if_neg h1, e1] at HC
    rw [← e2] at HP
    rw [e3, e4]
    clear e1 e2 e3 e4 h1 hl hlt hs hl2
    generalize Dec.dvv 12 (itD T) = x at *
    generalize Dec.dok 12 (itD T) = y at *
    go_enter Tryd.func22, Tryd.ntmps22
    go_wp2_with (first | (go_at_call 37; refine (HT.out _).mono ?_; rintro e w1 ⟨rfl, hb1⟩; have HB1 := Lib.hid hb1; clear hb1) | (go_at_call 36; refine (HC.out _).mono ?_; rintro e w2 ⟨rfl, rfl⟩) | (go_at_call 38; refine (HP.out _).mono ?_; rintro e w4 ⟨rfl, rfl⟩) | (go_at_call 39; refine (HD.out _).mono ?_; rintro e w3 ⟨rfl, rfl⟩))
    go_ret2
    exact ⟨rfl, HB1.out⟩
end Go.Proofs.YtlbidfegcfcaiaaDoor
