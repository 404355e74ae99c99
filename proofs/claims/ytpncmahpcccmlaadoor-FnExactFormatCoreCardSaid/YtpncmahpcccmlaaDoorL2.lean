/- Literals are written: what the program appends for a byte, and the reference model's hexadecimal digit. No conditions. -/
import Derived.Test.YtpncmahpcccmlaaDoorT3
import Derived.Test.YtpncmahpcccmlaaDoorL1
import Derived.IntWalk
import Derived.Deep.RegionLaw
namespace Go.Proofs.YtpncmahpcccmlaaDoor
open Go.RowKit
set_option linter.unusedVariables false

theorem plain_any (b : UInt8) (w : World) : Calls Tryd.prog 179 #[.int .u8 (b.toNat : Int)] w fun e w' => e = .returned (.bool (Lt.plain b)) ∧ w = w' := by
  cases hp : Lt.plain b
  · rcases (Lt.plain_no b).1 hp with h | h
    · have h1 : (b.toNat : Int) < 32 := by omega
      clear hp h
      go_enter Tryd.func179, Tryd.ntmps179
      go_wp2
      go_ret
      exact ⟨rfl, rfl⟩
    · have h1 : decide ((b.toNat : Int) ≤ 126) = false := by simp; omega
      have h2 : (32 : Int) ≤ b.toNat := by omega
      clear hp h
      go_enter Tryd.func179, Tryd.ntmps179
      go_wp2
      go_ret
      exact ⟨rfl, rfl⟩
  · obtain ⟨h1, h2⟩ := (Lt.plain_iff b).1 hp
    have h3 : (b.toNat : Int) ≤ 126 := by omega
    have h4 : (32 : Int) ≤ b.toNat := by omega
    clear hp h1 h2
    go_enter Tryd.func179, Tryd.ntmps179
    go_wp2
    go_ret
    exact ⟨rfl, rfl⟩
theorem hex_any (n : Nat) (w : World) (h : (n : Int) < 16) : Calls Tryd.prog 134 #[.int .i64 n] w fun e w' => e = .returned (.int .u8 ((Lt.hexC n).toNat : Int)) ∧ w = w' := by
  have HX := Lib.hid (Lt.hexC_nat n (by omega))
  by_cases h1 : (n : Int) < 10
  · go_enter Tryd.func134, Tryd.ntmps134
    go_wp2
    go_ret
    exact ⟨by rw [HX.out, if_pos (by omega)]; go_num, rfl⟩
  · go_enter Tryd.func134, Tryd.ntmps134
    go_wp2
    go_ret
    exact ⟨by rw [HX.out, if_neg (by omega)]; go_num, rfl⟩

/-- A byte's part of a literal is appended. -/
def RetEl (base : Nat) (w : World) (m : List UInt8) (e : Ending) (w' : World) : Prop := ∃ v', e = .returned v' ∧ Own8 w' base v' m ∧ Below base w w'

theorem ne_int {a b : UInt8} (h : a ≠ b) : ((a.toNat : Int) == (b.toNat : Int)) = false := by
  have := Lt.ne_nat h
  simp; omega
theorem app_el1 (base : Nat) (v : Value) (l : List UInt8) (d b : UInt8) (w : World) (ho : Own8 w base v l) (hB : base ≤ w.heap.size) (hl : (l.length : Int) ≤ 10000000) (h1 : b = d) :
    Calls Tryd.prog 170 #[v, .int .u8 (b.toNat : Int), .int .u8 (d.toNat : Int)] w (RetEl base w (l ++ [92, b])) := by
  have HO := Lib.hid ho
  clear ho
  subst h1
  go_enter Tryd.func170, Tryd.ntmps170
  go_wp2_with ((at_builtin; refine wpList_app8 rfl _ _ rfl base _ l [92, b] rfl HO.out hB 2 rfl rfl (by omega) _ _ rfl ?_))
  intro v' w2 HO2 HB2
  go_wp2
  go_ret
  exact ⟨_, rfl, HO2.out, HB2.out⟩
theorem app_el2 (base : Nat) (v : Value) (l : List UInt8) (d b : UInt8) (w : World) (ho : Own8 w base v l) (hB : base ≤ w.heap.size) (hl : (l.length : Int) ≤ 10000000) (h1 : b ≠ d) (h2 : b = 92) :
    Calls Tryd.prog 170 #[v, .int .u8 (b.toNat : Int), .int .u8 (d.toNat : Int)] w (RetEl base w (l ++ [92, b])) := by
  have HO := Lib.hid ho
  clear ho
  have t1 := ne_int h1
  have t2 : ((b.toNat : Int) == 92) = true := by rw [h2]; rfl
  clear h1 h2
  go_enter Tryd.func170, Tryd.ntmps170
  go_wp2_with ((at_builtin; refine wpList_app8 rfl _ _ rfl base _ l [92, b] rfl HO.out hB 2 rfl rfl (by omega) _ _ rfl ?_))
  intro v' w2 HO2 HB2
  go_wp2
  go_ret
  exact ⟨_, rfl, HO2.out, HB2.out⟩
theorem app_el3 (base : Nat) (v : Value) (l : List UInt8) (d b : UInt8) (w : World) (ho : Own8 w base v l) (hB : base ≤ w.heap.size) (hl : (l.length : Int) ≤ 10000000) (h1 : b ≠ d) (h2 : b ≠ 92) (h3 : Lt.plain b = true) :
    Calls Tryd.prog 170 #[v, .int .u8 (b.toNat : Int), .int .u8 (d.toNat : Int)] w (RetEl base w (l ++ [b])) := by
  have HO := Lib.hid ho
  clear ho
  have t1 := ne_int h1
  have t2 : ((b.toNat : Int) == 92) = false := ne_int (b := 92) h2
  have HP := Lib.hid (fun W => plain_any b W)
  rw [h3] at HP
  clear h1 h2 h3
  go_enter Tryd.func170, Tryd.ntmps170
  go_wp2_with (first | (go_at_call 179; refine (HP.out _).mono ?_; rintro e w1 ⟨rfl, rfl⟩) | (at_builtin; refine wpList_app8 rfl _ _ rfl base _ l [b] rfl HO.out hB 1 rfl rfl (by omega) _ _ rfl ?_))
  intro v' w2 HO2 HB2
  go_wp2
  go_ret
  exact ⟨_, rfl, HO2.out, HB2.out⟩
theorem app_el4 (base : Nat) (v : Value) (l : List UInt8) (d b : UInt8) (w : World) (ho : Own8 w base v l) (hB : base ≤ w.heap.size) (hl : (l.length : Int) ≤ 10000000) (h1 : b ≠ d) (h3 : b = 10) :
    Calls Tryd.prog 170 #[v, .int .u8 (b.toNat : Int), .int .u8 (d.toNat : Int)] w (RetEl base w (l ++ [92, 110])) := by
  have HO := Lib.hid ho
  clear ho
  have t1 := ne_int h1
  have t2 : ((b.toNat : Int) == 92) = false := by rw [h3]; rfl
  have HP := Lib.hid (fun W => plain_any b W)
  rw [show Lt.plain b = false by rw [h3]; decide] at HP
  have t3 : ((b.toNat : Int) == 10) = true := by rw [h3]; rfl
  clear h1 h3
  go_enter Tryd.func170, Tryd.ntmps170
  go_wp2_with (first | (go_at_call 179; refine (HP.out _).mono ?_; rintro e w1 ⟨rfl, rfl⟩) | (at_builtin; refine wpList_app8 rfl _ _ rfl base _ l [92, 110] rfl HO.out hB 2 rfl rfl (by omega) _ _ rfl ?_))
  intro v' w2 HO2 HB2
  go_wp2
  go_ret
  exact ⟨_, rfl, HO2.out, HB2.out⟩
theorem app_el5 (base : Nat) (v : Value) (l : List UInt8) (d b : UInt8) (w : World) (ho : Own8 w base v l) (hB : base ≤ w.heap.size) (hl : (l.length : Int) ≤ 10000000) (h1 : b ≠ d) (h3 : b = 9) :
    Calls Tryd.prog 170 #[v, .int .u8 (b.toNat : Int), .int .u8 (d.toNat : Int)] w (RetEl base w (l ++ [92, 116])) := by
  have HO := Lib.hid ho
  clear ho
  have t1 := ne_int h1
  have t2 : ((b.toNat : Int) == 92) = false := by rw [h3]; rfl
  have HP := Lib.hid (fun W => plain_any b W)
  rw [show Lt.plain b = false by rw [h3]; decide] at HP
  have t3 : ((b.toNat : Int) == 10) = false := by rw [h3]; rfl
  have t4 : ((b.toNat : Int) == 9) = true := by rw [h3]; rfl
  clear h1 h3
  go_enter Tryd.func170, Tryd.ntmps170
  go_wp2_with (first | (go_at_call 179; refine (HP.out _).mono ?_; rintro e w1 ⟨rfl, rfl⟩) | (at_builtin; refine wpList_app8 rfl _ _ rfl base _ l [92, 116] rfl HO.out hB 2 rfl rfl (by omega) _ _ rfl ?_))
  intro v' w2 HO2 HB2
  go_wp2
  go_ret
  exact ⟨_, rfl, HO2.out, HB2.out⟩

/-- The digits. -/
def hexS : ByteArray := ⟨#[48, 49, 50, 51, 52, 53, 54, 55, 56, 57, 97, 98, 99, 100, 101, 102]⟩
theorem hexS_at (n : Nat) (h : n < 16) : hexS[n]'h = Lt.hexC n := by
  have h2 : ∀ k : Fin 16, hexS[k.val]'k.isLt = Lt.hexC k.val := by decide
  exact h2 ⟨n, h⟩

set_option maxHeartbeats 800000 in
theorem app_el6 (base : Nat) (v : Value) (l : List UInt8) (d b : UInt8) (w : World) (ho : Own8 w base v l) (hB : base ≤ w.heap.size) (hl : (l.length : Int) ≤ 10000000) (h1 : b ≠ d) (h2 : b ≠ 92) (h3 : Lt.plain b = false) (h4 : b ≠ 10) (h5 : b ≠ 9) :
    Calls Tryd.prog 170 #[v, .int .u8 (b.toNat : Int), .int .u8 (d.toNat : Int)] w (RetEl base w (l ++ [92, 120, Lt.hexC (b.toNat / 16), Lt.hexC (b.toNat % 16)])) := by
  have HO := Lib.hid ho
  clear ho
  have hb := UInt8.toNat_lt b
  have t1 := ne_int h1
  have t2 : ((b.toNat : Int) == 92) = false := ne_int (b := 92) h2
  have t3 : ((b.toNat : Int) == 10) = false := ne_int (b := 10) h4
  have t4 : ((b.toNat : Int) == 9) = false := ne_int (b := 9) h5
  have HP := Lib.hid (fun W => plain_any b W)
  rw [h3] at HP
  clear h1 h2 h3 h4 h5
  obtain ⟨p, hp⟩ : ∃ p, p = b.toNat / 16 := ⟨_, rfl⟩
  obtain ⟨q, hq⟩ : ∃ q, q = b.toNat % 16 := ⟨_, rfl⟩
  have hp2 : p < 16 := by omega
  have hq2 : q < 16 := by omega
  have HX := Lib.hid (hexS_at p hp2)
  have HY := Lib.hid (hexS_at q hq2)
  rw [← hp, ← hq]
  have e0 : IntKind.i64.wrap (b.toNat : Int) = b.toNat := IntWalk.i64_in _ (by omega)
  have e1 : (b.toNat : Int).tdiv 16 = p := by rw [Int.tdiv_eq_ediv_of_nonneg (by omega)]; omega
  have e2 : (b.toNat : Int).tmod 16 = q := by rw [Int.tmod_eq_emod_of_nonneg (by omega)]; omega
  have e3 : IntKind.i64.wrap (p : Int) = p := IntWalk.i64_in _ (by omega)
  have e4 : IntKind.i64.wrap (q : Int) = q := IntWalk.i64_in _ (by omega)
  have i1 : (0 : Int) ≤ p := by omega
  have i2 : (0 : Int) ≤ q := by omega
  have i3 : (p : Int) < 16 := by omega
  have i4 : (q : Int) < 16 := by omega
  clear hp hq
  go_enter Tryd.func170, Tryd.ntmps170
  go_wp2_with ((go_at_call 179; refine (HP.out _).mono ?_; rintro e w1 ⟨rfl, rfl⟩))
  go_region_law (refine step_app8d rfl (.tmp 38) (.tmp 47) rfl base v l [92, 120, hexS[p]'hp2, hexS[q]'hq2] (by simp [Act.eval]) HO.out hB 4 rfl (by simp [Act.eval]) (by omega) _ _ rfl ?_; intro v' w2 HO2 HB2)
  all_goals
    rw [HX.out, HY.out] at HO2
    simp only [List.getElem_toArray, List.getElem_cons_succ, List.getElem_cons_zero, Act.put, List.setIfInBounds_toArray, List.set_cons_succ, List.set_cons_zero]
    first
      | (go_ret; exact ⟨_, rfl, HO2.out, HB2.out⟩)
      | (go_wp2; go_ret; exact ⟨_, rfl, HO2.out, HB2.out⟩)

/-- What the program appends for a byte. -/
theorem app_el (base : Nat) (v : Value) (l : List UInt8) (d b : UInt8) (w : World) (ho : Own8 w base v l) (hB : base ≤ w.heap.size) (hl : (l.length : Int) ≤ 10000000) :
    Calls Tryd.prog 170 #[v, .int .u8 (b.toNat : Int), .int .u8 (d.toNat : Int)] w (RetEl base w (l ++ Lt.el d b)) := by
  rcases Lt.el_cases d b with ⟨h1, e⟩ | ⟨h1, h2, e⟩ | ⟨h1, h2, h3, h4, e⟩ | ⟨h1, h2, e⟩ | ⟨h1, h2, e⟩ | ⟨h1, h2, h3, h4, h5, e⟩ | ⟨h1, h2, h3, h4, h5, e⟩ <;> rw [e]
  · exact app_el1 base v l d b w ho hB hl h1
  · exact app_el2 base v l d b w ho hB hl h1 h2
  · exact app_el3 base v l d b w ho hB hl h1 h2 ((Lt.plain_iff b).2 ⟨h3, h4⟩)
  · exact app_el4 base v l d b w ho hB hl h1 h2
  · exact app_el5 base v l d b w ho hB hl h1 h2
  · exact app_el6 base v l d b w ho hB hl h1 h2 ((Lt.plain_no b).2 (.inl h5)) h3 h4
  · exact app_el6 base v l d b w ho hB hl h1 h2 ((Lt.plain_no b).2 (.inr h5)) h3 h4
end Go.Proofs.YtpncmahpcccmlaaDoor
