/- The operators' texts and numbers of kids, the kinds' names. Plain. No conditions. -/
import Derived.Lib.Hide
namespace Go.Proofs.YtpncmahpcccmlaaDoor
set_option linter.unusedVariables false

/-- The operators' texts by their numbers. -/
def opL : List ByteArray := [⟨#[]⟩, ⟨#[45]⟩, ⟨#[43]⟩, ⟨#[42]⟩, ⟨#[47]⟩, ⟨#[92]⟩, ⟨#[126]⟩, ⟨#[33]⟩, ⟨#[61]⟩, ⟨#[94]⟩, ⟨#[46]⟩, ⟨#[46, 62]⟩, ⟨#[]⟩, ⟨#[]⟩, ⟨#[]⟩, ⟨#[]⟩, ⟨#[]⟩, ⟨#[]⟩, ⟨#[]⟩, ⟨#[]⟩, ⟨#[43]⟩, ⟨#[45]⟩, ⟨#[42]⟩, ⟨#[47]⟩, ⟨#[37]⟩, ⟨#[94]⟩, ⟨#[]⟩, ⟨#[]⟩, ⟨#[]⟩, ⟨#[]⟩, ⟨#[60]⟩, ⟨#[60, 61]⟩, ⟨#[61]⟩, ⟨#[62, 61]⟩, ⟨#[62]⟩, ⟨#[126, 61]⟩, ⟨#[]⟩, ⟨#[]⟩, ⟨#[]⟩, ⟨#[]⟩, ⟨#[60, 60]⟩, ⟨#[60, 60, 61]⟩, ⟨#[61, 61]⟩, ⟨#[62, 62, 61]⟩, ⟨#[62, 62]⟩, ⟨#[126, 61, 61]⟩, ⟨#[61, 61, 61]⟩, ⟨#[126, 61, 61, 61]⟩, ⟨#[]⟩, ⟨#[]⟩, ⟨#[124, 124]⟩, ⟨#[124, 124, 124]⟩, ⟨#[43, 43]⟩, ⟨#[45, 45]⟩, ⟨#[42, 42]⟩, ⟨#[]⟩, ⟨#[]⟩, ⟨#[]⟩, ⟨#[]⟩, ⟨#[]⟩, ⟨#[58, 61]⟩, ⟨#[60, 45]⟩, ⟨#[58, 61, 58]⟩, ⟨#[60, 45, 62]⟩, ⟨#[]⟩, ⟨#[]⟩, ⟨#[]⟩, ⟨#[]⟩, ⟨#[]⟩, ⟨#[]⟩, ⟨#[91, 93]⟩, ⟨#[91, 58, 93]⟩, ⟨#[116, 111]⟩, ⟨#[38]⟩, ⟨#[91, 46, 46, 46, 93]⟩, ⟨#[63, 63]⟩, ⟨#[46, 124]⟩, ⟨#[45, 62]⟩, ⟨#[61, 62]⟩, ⟨#[102, 105, 101, 108, 100]⟩, ⟨#[]⟩, ⟨#[100, 101, 102, 101, 114]⟩]
theorem opL_len : opL.length = 82 := rfl
/-- The model's two lists. -/
def opU : List ByteArray := [⟨#[45]⟩, ⟨#[43]⟩, ⟨#[42]⟩, ⟨#[47]⟩, ⟨#[92]⟩, ⟨#[126]⟩, ⟨#[33]⟩, ⟨#[61]⟩, ⟨#[94]⟩, ⟨#[46]⟩, ⟨#[46, 62]⟩]
def opB : List ByteArray := [⟨#[43]⟩, ⟨#[45]⟩, ⟨#[42]⟩, ⟨#[47]⟩, ⟨#[37]⟩, ⟨#[94]⟩, ⟨#[]⟩, ⟨#[]⟩, ⟨#[]⟩, ⟨#[]⟩, ⟨#[60]⟩, ⟨#[60, 61]⟩, ⟨#[61]⟩, ⟨#[62, 61]⟩, ⟨#[62]⟩, ⟨#[126, 61]⟩, ⟨#[]⟩, ⟨#[]⟩, ⟨#[]⟩, ⟨#[]⟩, ⟨#[60, 60]⟩, ⟨#[60, 60, 61]⟩, ⟨#[61, 61]⟩, ⟨#[62, 62, 61]⟩, ⟨#[62, 62]⟩, ⟨#[126, 61, 61]⟩, ⟨#[61, 61, 61]⟩, ⟨#[126, 61, 61, 61]⟩, ⟨#[]⟩, ⟨#[]⟩, ⟨#[124, 124]⟩, ⟨#[124, 124, 124]⟩, ⟨#[43, 43]⟩, ⟨#[45, 45]⟩, ⟨#[42, 42]⟩, ⟨#[]⟩, ⟨#[]⟩, ⟨#[]⟩, ⟨#[]⟩, ⟨#[]⟩, ⟨#[58, 61]⟩, ⟨#[60, 45]⟩, ⟨#[58, 61, 58]⟩, ⟨#[60, 45, 62]⟩]
/-- The names of the kinds. -/
def coL : List ByteArray := [⟨#[63]⟩, ⟨#[105, 110, 116, 101, 103, 101, 114]⟩, ⟨#[115, 116, 114, 105, 110, 103]⟩, ⟨#[99, 115, 101, 116]⟩, ⟨#[110, 117, 108, 108]⟩, ⟨#[108, 111, 99, 97, 108]⟩, ⟨#[103, 108, 111, 98, 97, 108]⟩, ⟨#[112, 114, 111, 99, 101, 100, 117, 114, 101]⟩, ⟨#[102, 117, 110, 99, 116, 105, 111, 110]⟩, ⟨#[99, 111, 110, 115, 116, 114, 117, 99, 116, 111, 114]⟩, ⟨#[107, 101, 121, 119, 111, 114, 100]⟩, ⟨#[111, 112, 101, 114, 97, 116, 101]⟩, ⟨#[99, 97, 108, 108]⟩, ⟨#[97, 108, 116, 101, 114, 110, 97, 116, 101]⟩, ⟨#[114, 101, 112, 101, 97, 116]⟩, ⟨#[108, 105, 109, 105, 116]⟩, ⟨#[98, 108, 111, 99, 107]⟩, ⟨#[105, 102]⟩, ⟨#[119, 104, 105, 108, 101]⟩, ⟨#[101, 118, 101, 114, 121]⟩, ⟨#[98, 114, 101, 97, 107]⟩, ⟨#[110, 101, 120, 116]⟩, ⟨#[115, 99, 97, 110]⟩, ⟨#[114, 101, 116, 117, 114, 110]⟩, ⟨#[102, 97, 105, 108]⟩, ⟨#[115, 117, 115, 112, 101, 110, 100]⟩, ⟨#[99, 114, 101, 97, 116, 101]⟩, ⟨#[97, 99, 116, 105, 118, 97, 116, 101]⟩, ⟨#[110, 111, 110, 101]⟩]
theorem coL_len : coL.length = 29 := rfl
def atL (l : List ByteArray) (n : Nat) : ByteArray := match l[n]? with | some x => x | none => ⟨#[]⟩
def augO (n : Int) : Bool := (decide (220 ≤ n) && decide (n ≤ 225)) || (decide (250 ≤ n) && decide (n ≤ 254))
def setB : ByteArray := ⟨#[58, 61]⟩
/-- The text of an operator. -/
def opT (n : Int) : ByteArray := if augO n = true then atL opL (n - 200).toNat ++ setB else if 0 ≤ n then atL opL n.toNat else ⟨#[]⟩
/-- The text of an operator is empty. -/
def opNo (n : Int) : Bool := (opT n).data.toList.isEmpty
/-- The fewest and the most kids of an operator. -/
def arLo (n : Int) : Int := if opNo n = true then 0 else if n ≤ 11 ∨ n = 81 then 1 else if n = 71 ∨ n = 72 then 3 else if n = 73 then 2 else if n = 74 then 0 else 2
def arHi (n : Int) : Int := if opNo n = true then -1 else if n ≤ 11 ∨ n = 81 then 1 else if n = 71 ∨ n = 72 then 3 else if n = 73 then 8 else if n = 74 then 8 else 2
/-- The name of a kind. -/
def coN (k : Int) : ByteArray := if 0 ≤ k then (if k < 29 then atL coL k.toNat else ⟨#[63]⟩) else ⟨#[63]⟩
theorem atL_at {l : List ByteArray} {k : Nat} {x : ByteArray} (h : l[k]? = some x) : atL l k = x := by unfold atL; rw [h]
theorem opT_aug {k : Nat} {x : ByteArray} (h : augO ((k : Int) + 200) = true) (hx : opL[k]? = some x) : opT ((k : Int) + 200) = x ++ setB := by
  unfold opT
  rw [if_pos h, show ((k : Int) + 200 - 200).toNat = k by omega, atL_at hx]
theorem opT_at {k : Nat} {x : ByteArray} (h : augO (k : Int) = false) (hx : opL[k]? = some x) : opT (k : Int) = x := by
  unfold opT
  rw [if_neg (by rw [h]; decide), if_pos (by omega), Int.toNat_natCast, atL_at hx]
theorem opT_neg {n : Int} (h : n < 0) : opT n = ⟨#[]⟩ := by
  unfold opT augO
  rw [if_neg (by simp; omega), if_neg (by omega)]
theorem opT_far {n : Int} (h : 82 ≤ n) (h2 : augO n = false) : opT n = ⟨#[]⟩ := by
  unfold opT
  rw [if_neg (by rw [h2]; decide), if_pos (by omega)]
  unfold atL
  rw [List.getElem?_eq_none (by rw [opL_len]; omega)]
theorem aug_yes {n : Int} (h : (220 ≤ n ∧ n ≤ 225) ∨ (250 ≤ n ∧ n ≤ 254)) : augO n = true := by unfold augO; simp; omega
theorem aug_no {n : Int} (h : ¬ ((220 ≤ n ∧ n ≤ 225) ∨ (250 ≤ n ∧ n ≤ 254))) : augO n = false := by unfold augO; simp; omega
theorem coN_at {k : Nat} {x : ByteArray} (hk : k < 29) (hx : coL[k]? = some x) : coN (k : Int) = x := by
  unfold coN
  rw [if_pos (by omega), if_pos (by omega), Int.toNat_natCast, atL_at hx]
theorem coN_neg {n : Int} (h : n < 0) : coN n = ⟨#[63]⟩ := by unfold coN; rw [if_neg (by omega)]
theorem coN_far {n : Int} (h : 29 ≤ n) : coN n = ⟨#[63]⟩ := by unfold coN; rw [if_pos (by omega), if_neg (by omega)]
end Go.Proofs.YtpncmahpcccmlaaDoor
