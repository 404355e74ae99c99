/- What a literal denotes: the program's unquote. No conditions beside what the variable holds. -/
import Derived.Test.YtjgnigalodebkaaDoorJ2
namespace Go.Proofs.YtjgnigalodebkaaDoor
open Go.RowKit
set_option linter.unusedVariables false

theorem ret_tb {s s' : ByteArray} {b b' : Bool} (h : s = s') (h2 : b = b') : Ending.returned (.tuple #[.string s, .bool b]) = .returned (.tuple #[.string s', .bool b']) := by rw [h, h2]
/-- A call that returns a text and a bool, and makes memory alone. -/
def RetLit (w : World) (d : UInt8) (S : List UInt8) (e : Ending) (w' : World) : Prop := e = .returned (.tuple #[.string (str8 (Lt.litL d S)), .bool (Lt.litB d S)]) ∧ Below w.heap.size w w'
theorem lit_no {d : UInt8} {S : List UInt8} (h : Lt.lit d S = none) : Ending.returned (.tuple #[.string ByteArray.empty, .bool false]) = .returned (.tuple #[.string (str8 (Lt.litL d S)), .bool (Lt.litB d S)]) := by
  rw [(Lt.lit_none h).1, (Lt.lit_none h).2]; rfl
theorem lit_yes {d : UInt8} {S A : List UInt8} (h : Lt.lit d S = some A) : Ending.returned (.tuple #[.string (str8 A), .bool true]) = .returned (.tuple #[.string (str8 (Lt.litL d S)), .bool (Lt.litB d S)]) := by
  rw [(Lt.lit_some h).1, (Lt.lit_some h).2]
/-- The first byte and the last. -/
theorem lit_cases (d : UInt8) (s : ByteArray) : (s.size < 2 ∧ Lt.lit d s.data.toList = none)
    ∨ (∃ n, ∃ h : s.size = n + 1, 1 ≤ n ∧ ((s[0] ≠ d ∧ Lt.lit d s.data.toList = none) ∨ (s[0] = d ∧ s[n] ≠ d ∧ Lt.lit d s.data.toList = none)
      ∨ (s[0] = d ∧ s[n] = d ∧ s.data.toList.getLast? = some d ∧ Lt.lit d s.data.toList = Lt.uq d (s.data.toList.drop 1).dropLast))) := by
  have hl := len8 s
  by_cases h2 : s.size < 2
  · left
    refine ⟨h2, ?_⟩
    unfold Lt.lit
    rw [if_pos (.inl (by omega))]
  · right
    refine ⟨s.size - 1, by omega, by omega, ?_⟩
    have k0 : 0 < s.data.toList.length := by omega
    have k1 : s.size - 1 < s.data.toList.length := by omega
    have eh : s.data.toList.head? = some (s[0]'(by omega)) := by rw [List.head?_eq_getElem?, List.getElem?_eq_getElem k0]; rfl
    have el : s.data.toList.getLast? = some (s[s.size - 1]'(by omega)) := by rw [List.getLast?_eq_getElem?, hl, List.getElem?_eq_getElem k1]; rfl
    by_cases e0 : s[0]'(by omega) = d
    · by_cases e1 : s[s.size - 1]'(by omega) = d
      · right; right
        refine ⟨e0, e1, by rw [el, e1], ?_⟩
        unfold Lt.lit
        rw [if_neg (by rw [eh, el, e0, e1]; simp; omega)]
      · right; left
        refine ⟨e0, e1, ?_⟩
        unfold Lt.lit
        rw [if_pos (.inr (.inr (by rw [el]; simpa using e1)))]
    · left
      refine ⟨e0, ?_⟩
      unfold Lt.lit
      rw [if_pos (.inr (.inl (by rw [eh]; simpa using e0)))]
theorem cut_mid (s : ByteArray) (n : Nat) (h : s.size = n + 1) : s.extract 1 n = str8 (s.data.toList.drop 1).dropLast := by
  apply str8_inj
  have hl := len8 s
  simp only [ByteArray.data_extract, Array.toList_extract, List.extract_eq_take_drop]
  rw [List.dropLast_eq_take, List.length_drop, hl, h]
  rfl
theorem step_eq (d b : UInt8) (r : List UInt8) : Lt.step d (b :: r) = if b = d ∨ Lt.plain b = false then none else if b = 92 then Lt.esc r else some (b, r) := by simp [Lt.step]
/-- The state of the loop. -/
def UAt (w : World) (d : UInt8) (L R A : List UInt8) (v : Value) (wr : World) : Prop := Own8 wr w.heap.size v A ∧ Lt.Rd d L A R ∧ A.length + R.length ≤ L.length ∧ Below w.heap.size w wr
theorem UAt.next {w wr w2 : World} {d b : UInt8} {L R A r : List UInt8} {v v2 : Value} (h : Hid (UAt w d L R A v wr)) (hs : Lt.step d R = some (b, r)) (ho : Hid (Own8 w2 w.heap.size v2 (A ++ [b]))) (h2 : Hid (Below w.heap.size wr w2)) : UAt w d L r (A ++ [b]) v2 w2 := by
  have h3 := Lt.step_len hs
  have h4 := h.out.2.2.1
  refine ⟨ho.out, Lt.rd_next h.out.2.1 hs, ?_, h.out.2.2.2.trans h2.out⟩
  rw [List.length_append, List.length_singleton]; omega

theorem unq_no (d : UInt8) (s : ByteArray) (w : World) (hs : (s.size : Int) ≤ 1048576) (h : (s.size < 2 ∧ Lt.lit d s.data.toList = none) ∨ ∃ n, ∃ h : s.size = n + 1, 1 ≤ n ∧ ((s[0] ≠ d ∧ Lt.lit d s.data.toList = none) ∨ (s[0] = d ∧ s[n] ≠ d ∧ Lt.lit d s.data.toList = none))) :
    Calls Tryd.prog 23 #[.string s, .int .u8 (d.toNat : Int)] w (RetLit w d s.data.toList) := by
  unfold RetLit
  rcases h with ⟨h2, e⟩ | ⟨n, hn, h1, ⟨h2, e⟩ | ⟨h2, h3, e⟩⟩
  · have HL := Lib.hid (lit_no e)
    have t1 : (s.size : Int) < 2 := by omega
    clear e h2
    go_enter Tryd.func23, Tryd.ntmps23
    go_wp2
    go_ret2
    exact ⟨HL.out, Below.refl _ _⟩
  · have HL := Lib.hid (lit_no e)
    have t1 : ¬ (s.size : Int) < 2 := by omega
    have t0 : (0 : Int) < s.size := by omega
    have j0 : 0 < s.size := by omega
    have t2 : ((s[0].toNat : Int) == (d.toNat : Int)) = false := ne_int h2
    have t3 : ((s[0].toNat : Int) != (d.toNat : Int)) = true := by simp only [bne, t2]; rfl
    clear e h2 h1
    clear hn
    go_enter Tryd.func23, Tryd.ntmps23
    go_wp2
    go_ret2
    exact ⟨HL.out, Below.refl _ _⟩
  · have HL := Lib.hid (lit_no e)
    have t1 : ¬ ((n : Int) + 1) < 2 := by omega
    have t2 : ((s[0].toNat : Int) == (d.toNat : Int)) = true := by rw [h2]; simp
    have t3 : ((s[0].toNat : Int) != (d.toNat : Int)) = false := by simp only [bne, t2]; rfl
    have t4 : ((s[n].toNat : Int) == (d.toNat : Int)) = false := ne_int h3
    have t5 : ((s[n].toNat : Int) != (d.toNat : Int)) = true := by simp only [bne, t4]; rfl
    clear e h2 h3
    go_enter Tryd.func23, Tryd.ntmps23
    go_wp2
    go_ret2
    exact ⟨HL.out, Below.refl _ _⟩
end Go.Proofs.YtjgnigalodebkaaDoor
