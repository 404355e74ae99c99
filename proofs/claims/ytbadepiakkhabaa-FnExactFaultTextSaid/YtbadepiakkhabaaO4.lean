/- FaultText of the program and of the reference model. No conditions. -/
import Derived.Test.YtbadepiakkhabaaU0
namespace Go.Proofs.Ytbadepiakkhabaa
open Go.RowKit
set_option linter.unusedVariables false

/-- The text of an error. -/
def fltT (c : Int) : ByteArray := if c = 101 then ⟨#[105, 110, 116, 101, 103, 101, 114, 32, 101, 120, 112, 101, 99, 116, 101, 100, 32, 111, 114, 32, 111, 117, 116, 32, 111, 102, 32, 114, 97, 110, 103, 101]⟩ else if c = 103 then ⟨#[115, 116, 114, 105, 110, 103, 32, 101, 120, 112, 101, 99, 116, 101, 100]⟩ else if c = 104 then ⟨#[99, 115, 101, 116, 32, 101, 120, 112, 101, 99, 116, 101, 100]⟩ else if c = 106 then ⟨#[112, 114, 111, 99, 101, 100, 117, 114, 101, 32, 111, 114, 32, 105, 110, 116, 101, 103, 101, 114, 32, 101, 120, 112, 101, 99, 116, 101, 100]⟩ else if c = 107 then ⟨#[114, 101, 99, 111, 114, 100, 32, 101, 120, 112, 101, 99, 116, 101, 100]⟩ else if c = 108 then ⟨#[108, 105, 115, 116, 32, 101, 120, 112, 101, 99, 116, 101, 100]⟩ else if c = 111 then ⟨#[118, 97, 114, 105, 97, 98, 108, 101, 32, 101, 120, 112, 101, 99, 116, 101, 100]⟩ else if c = 114 then ⟨#[115, 116, 114, 117, 99, 116, 117, 114, 101, 32, 101, 120, 112, 101, 99, 116, 101, 100]⟩ else if c = 118 then ⟨#[99, 111, 45, 101, 120, 112, 114, 101, 115, 115, 105, 111, 110, 32, 101, 120, 112, 101, 99, 116, 101, 100]⟩ else if c = 119 then ⟨#[99, 111, 45, 101, 120, 112, 114, 101, 115, 115, 105, 111, 110, 32, 105, 115, 32, 97, 99, 116, 105, 118, 101]⟩ else if c = 122 then ⟨#[115, 101, 116, 32, 111, 114, 32, 116, 97, 98, 108, 101, 32, 101, 120, 112, 101, 99, 116, 101, 100]⟩ else if c = 124 then ⟨#[116, 97, 98, 108, 101, 32, 101, 120, 112, 101, 99, 116, 101, 100]⟩ else if c = 127 then ⟨#[112, 97, 116, 116, 101, 114, 110, 32, 101, 120, 112, 101, 99, 116, 101, 100]⟩ else if c = 201 then ⟨#[100, 105, 118, 105, 115, 105, 111, 110, 32, 98, 121, 32, 122, 101, 114, 111]⟩ else if c = 203 then ⟨#[105, 110, 116, 101, 103, 101, 114, 32, 111, 118, 101, 114, 102, 108, 111, 119]⟩ else if c = 205 then ⟨#[118, 97, 108, 117, 101, 32, 111, 117, 116, 32, 111, 102, 32, 114, 97, 110, 103, 101]⟩ else if c = 207 then ⟨#[114, 101, 99, 111, 114, 100, 32, 104, 97, 115, 32, 110, 111, 32, 115, 117, 99, 104, 32, 102, 105, 101, 108, 100]⟩ else if c = 301 then ⟨#[116, 111, 111, 32, 109, 97, 110, 121, 32, 97, 99, 116, 105, 118, 101, 32, 112, 114, 111, 99, 101, 100, 117, 114, 101, 115]⟩ else if c = 302 then ⟨#[114, 101, 115, 117, 108, 116, 32, 116, 111, 111, 32, 108, 97, 114, 103, 101]⟩ else ⟨#[]⟩

theorem impl_flt_101 (w : World) : Calls Try.prog 20 #[.int .i64 101] w fun e w' => e = .returned (.string ⟨#[105, 110, 116, 101, 103, 101, 114, 32, 101, 120, 112, 101, 99, 116, 101, 100, 32, 111, 114, 32, 111, 117, 116, 32, 111, 102, 32, 114, 97, 110, 103, 101]⟩) ∧ w = w' := by
  go_enter Try.func20, Try.ntmps20
  go_wp2
  go_ret
  exact ⟨rfl, rfl⟩

theorem impl_flt_103 (w : World) : Calls Try.prog 20 #[.int .i64 103] w fun e w' => e = .returned (.string ⟨#[115, 116, 114, 105, 110, 103, 32, 101, 120, 112, 101, 99, 116, 101, 100]⟩) ∧ w = w' := by
  go_enter Try.func20, Try.ntmps20
  go_wp2
  go_ret
  exact ⟨rfl, rfl⟩

theorem impl_flt_104 (w : World) : Calls Try.prog 20 #[.int .i64 104] w fun e w' => e = .returned (.string ⟨#[99, 115, 101, 116, 32, 101, 120, 112, 101, 99, 116, 101, 100]⟩) ∧ w = w' := by
  go_enter Try.func20, Try.ntmps20
  go_wp2
  go_ret
  exact ⟨rfl, rfl⟩

theorem impl_flt_106 (w : World) : Calls Try.prog 20 #[.int .i64 106] w fun e w' => e = .returned (.string ⟨#[112, 114, 111, 99, 101, 100, 117, 114, 101, 32, 111, 114, 32, 105, 110, 116, 101, 103, 101, 114, 32, 101, 120, 112, 101, 99, 116, 101, 100]⟩) ∧ w = w' := by
  go_enter Try.func20, Try.ntmps20
  go_wp2
  go_ret
  exact ⟨rfl, rfl⟩

theorem impl_flt_107 (w : World) : Calls Try.prog 20 #[.int .i64 107] w fun e w' => e = .returned (.string ⟨#[114, 101, 99, 111, 114, 100, 32, 101, 120, 112, 101, 99, 116, 101, 100]⟩) ∧ w = w' := by
  go_enter Try.func20, Try.ntmps20
  go_wp2
  go_ret
  exact ⟨rfl, rfl⟩

theorem impl_flt_108 (w : World) : Calls Try.prog 20 #[.int .i64 108] w fun e w' => e = .returned (.string ⟨#[108, 105, 115, 116, 32, 101, 120, 112, 101, 99, 116, 101, 100]⟩) ∧ w = w' := by
  go_enter Try.func20, Try.ntmps20
  go_wp2
  go_ret
  exact ⟨rfl, rfl⟩

theorem impl_flt_111 (w : World) : Calls Try.prog 20 #[.int .i64 111] w fun e w' => e = .returned (.string ⟨#[118, 97, 114, 105, 97, 98, 108, 101, 32, 101, 120, 112, 101, 99, 116, 101, 100]⟩) ∧ w = w' := by
  go_enter Try.func20, Try.ntmps20
  go_wp2
  go_ret
  exact ⟨rfl, rfl⟩

theorem impl_flt_114 (w : World) : Calls Try.prog 20 #[.int .i64 114] w fun e w' => e = .returned (.string ⟨#[115, 116, 114, 117, 99, 116, 117, 114, 101, 32, 101, 120, 112, 101, 99, 116, 101, 100]⟩) ∧ w = w' := by
  go_enter Try.func20, Try.ntmps20
  go_wp2
  go_ret
  exact ⟨rfl, rfl⟩

theorem impl_flt_118 (w : World) : Calls Try.prog 20 #[.int .i64 118] w fun e w' => e = .returned (.string ⟨#[99, 111, 45, 101, 120, 112, 114, 101, 115, 115, 105, 111, 110, 32, 101, 120, 112, 101, 99, 116, 101, 100]⟩) ∧ w = w' := by
  go_enter Try.func20, Try.ntmps20
  go_wp2
  go_ret
  exact ⟨rfl, rfl⟩

theorem impl_flt_119 (w : World) : Calls Try.prog 20 #[.int .i64 119] w fun e w' => e = .returned (.string ⟨#[99, 111, 45, 101, 120, 112, 114, 101, 115, 115, 105, 111, 110, 32, 105, 115, 32, 97, 99, 116, 105, 118, 101]⟩) ∧ w = w' := by
  go_enter Try.func20, Try.ntmps20
  go_wp2
  go_ret
  exact ⟨rfl, rfl⟩

theorem impl_flt_122 (w : World) : Calls Try.prog 20 #[.int .i64 122] w fun e w' => e = .returned (.string ⟨#[115, 101, 116, 32, 111, 114, 32, 116, 97, 98, 108, 101, 32, 101, 120, 112, 101, 99, 116, 101, 100]⟩) ∧ w = w' := by
  go_enter Try.func20, Try.ntmps20
  go_wp2
  go_ret
  exact ⟨rfl, rfl⟩

theorem impl_flt_124 (w : World) : Calls Try.prog 20 #[.int .i64 124] w fun e w' => e = .returned (.string ⟨#[116, 97, 98, 108, 101, 32, 101, 120, 112, 101, 99, 116, 101, 100]⟩) ∧ w = w' := by
  go_enter Try.func20, Try.ntmps20
  go_wp2
  go_ret
  exact ⟨rfl, rfl⟩

theorem impl_flt_127 (w : World) : Calls Try.prog 20 #[.int .i64 127] w fun e w' => e = .returned (.string ⟨#[112, 97, 116, 116, 101, 114, 110, 32, 101, 120, 112, 101, 99, 116, 101, 100]⟩) ∧ w = w' := by
  go_enter Try.func20, Try.ntmps20
  go_wp2
  go_ret
  exact ⟨rfl, rfl⟩

theorem impl_flt_201 (w : World) : Calls Try.prog 20 #[.int .i64 201] w fun e w' => e = .returned (.string ⟨#[100, 105, 118, 105, 115, 105, 111, 110, 32, 98, 121, 32, 122, 101, 114, 111]⟩) ∧ w = w' := by
  go_enter Try.func20, Try.ntmps20
  go_wp2
  go_ret
  exact ⟨rfl, rfl⟩

theorem impl_flt_203 (w : World) : Calls Try.prog 20 #[.int .i64 203] w fun e w' => e = .returned (.string ⟨#[105, 110, 116, 101, 103, 101, 114, 32, 111, 118, 101, 114, 102, 108, 111, 119]⟩) ∧ w = w' := by
  go_enter Try.func20, Try.ntmps20
  go_wp2
  go_ret
  exact ⟨rfl, rfl⟩

theorem impl_flt_205 (w : World) : Calls Try.prog 20 #[.int .i64 205] w fun e w' => e = .returned (.string ⟨#[118, 97, 108, 117, 101, 32, 111, 117, 116, 32, 111, 102, 32, 114, 97, 110, 103, 101]⟩) ∧ w = w' := by
  go_enter Try.func20, Try.ntmps20
  go_wp2
  go_ret
  exact ⟨rfl, rfl⟩

theorem impl_flt_207 (w : World) : Calls Try.prog 20 #[.int .i64 207] w fun e w' => e = .returned (.string ⟨#[114, 101, 99, 111, 114, 100, 32, 104, 97, 115, 32, 110, 111, 32, 115, 117, 99, 104, 32, 102, 105, 101, 108, 100]⟩) ∧ w = w' := by
  go_enter Try.func20, Try.ntmps20
  go_wp2
  go_ret
  exact ⟨rfl, rfl⟩

theorem impl_flt_301 (w : World) : Calls Try.prog 20 #[.int .i64 301] w fun e w' => e = .returned (.string ⟨#[116, 111, 111, 32, 109, 97, 110, 121, 32, 97, 99, 116, 105, 118, 101, 32, 112, 114, 111, 99, 101, 100, 117, 114, 101, 115]⟩) ∧ w = w' := by
  go_enter Try.func20, Try.ntmps20
  go_wp2
  go_ret
  exact ⟨rfl, rfl⟩

theorem impl_flt_302 (w : World) : Calls Try.prog 20 #[.int .i64 302] w fun e w' => e = .returned (.string ⟨#[114, 101, 115, 117, 108, 116, 32, 116, 111, 111, 32, 108, 97, 114, 103, 101]⟩) ∧ w = w' := by
  go_enter Try.func20, Try.ntmps20
  go_wp2
  go_ret
  exact ⟨rfl, rfl⟩

theorem impl_flt_n (c : Int) (m101 : (c == 101) = false) (m103 : (c == 103) = false) (m104 : (c == 104) = false) (m106 : (c == 106) = false) (m107 : (c == 107) = false) (m108 : (c == 108) = false) (m111 : (c == 111) = false) (m114 : (c == 114) = false) (m118 : (c == 118) = false) (m119 : (c == 119) = false) (m122 : (c == 122) = false) (m124 : (c == 124) = false) (m127 : (c == 127) = false) (m201 : (c == 201) = false) (m203 : (c == 203) = false) (m205 : (c == 205) = false) (m207 : (c == 207) = false) (m301 : (c == 301) = false) (m302 : (c == 302) = false) (w : World) : Calls Try.prog 20 #[.int .i64 c] w fun e w' => e = .returned (.string ⟨#[]⟩) ∧ w = w' := by
  go_enter Try.func20, Try.ntmps20
  go_wp2
  go_ret
  exact ⟨rfl, rfl⟩
theorem impl_flt (c : Int) (w : World) : Calls Try.prog 20 #[.int .i64 c] w fun e w' => e = .returned (.string (fltT c)) ∧ w = w' := by
  by_cases h101 : c = 101
  · subst h101; exact impl_flt_101 w
  by_cases h103 : c = 103
  · subst h103; exact impl_flt_103 w
  by_cases h104 : c = 104
  · subst h104; exact impl_flt_104 w
  by_cases h106 : c = 106
  · subst h106; exact impl_flt_106 w
  by_cases h107 : c = 107
  · subst h107; exact impl_flt_107 w
  by_cases h108 : c = 108
  · subst h108; exact impl_flt_108 w
  by_cases h111 : c = 111
  · subst h111; exact impl_flt_111 w
  by_cases h114 : c = 114
  · subst h114; exact impl_flt_114 w
  by_cases h118 : c = 118
  · subst h118; exact impl_flt_118 w
  by_cases h119 : c = 119
  · subst h119; exact impl_flt_119 w
  by_cases h122 : c = 122
  · subst h122; exact impl_flt_122 w
  by_cases h124 : c = 124
  · subst h124; exact impl_flt_124 w
  by_cases h127 : c = 127
  · subst h127; exact impl_flt_127 w
  by_cases h201 : c = 201
  · subst h201; exact impl_flt_201 w
  by_cases h203 : c = 203
  · subst h203; exact impl_flt_203 w
  by_cases h205 : c = 205
  · subst h205; exact impl_flt_205 w
  by_cases h207 : c = 207
  · subst h207; exact impl_flt_207 w
  by_cases h301 : c = 301
  · subst h301; exact impl_flt_301 w
  by_cases h302 : c = 302
  · subst h302; exact impl_flt_302 w
  have e : fltT c = ⟨#[]⟩ := by unfold fltT; rw [if_neg h101, if_neg h103, if_neg h104, if_neg h106, if_neg h107, if_neg h108, if_neg h111, if_neg h114, if_neg h118, if_neg h119, if_neg h122, if_neg h124, if_neg h127, if_neg h201, if_neg h203, if_neg h205, if_neg h207, if_neg h301, if_neg h302]
  rw [e]
  exact impl_flt_n c (beq_eq_false_iff_ne.2 h101) (beq_eq_false_iff_ne.2 h103) (beq_eq_false_iff_ne.2 h104) (beq_eq_false_iff_ne.2 h106) (beq_eq_false_iff_ne.2 h107) (beq_eq_false_iff_ne.2 h108) (beq_eq_false_iff_ne.2 h111) (beq_eq_false_iff_ne.2 h114) (beq_eq_false_iff_ne.2 h118) (beq_eq_false_iff_ne.2 h119) (beq_eq_false_iff_ne.2 h122) (beq_eq_false_iff_ne.2 h124) (beq_eq_false_iff_ne.2 h127) (beq_eq_false_iff_ne.2 h201) (beq_eq_false_iff_ne.2 h203) (beq_eq_false_iff_ne.2 h205) (beq_eq_false_iff_ne.2 h207) (beq_eq_false_iff_ne.2 h301) (beq_eq_false_iff_ne.2 h302) w

theorem spec_flt_101 (w : World) : Calls Try.prog 19 #[.int .i64 101] w fun e w' => e = .returned (.string ⟨#[105, 110, 116, 101, 103, 101, 114, 32, 101, 120, 112, 101, 99, 116, 101, 100, 32, 111, 114, 32, 111, 117, 116, 32, 111, 102, 32, 114, 97, 110, 103, 101]⟩) ∧ w = w' := by
  go_enter Try.func19, Try.ntmps19
  go_wp2
  go_ret
  exact ⟨rfl, rfl⟩

theorem spec_flt_103 (w : World) : Calls Try.prog 19 #[.int .i64 103] w fun e w' => e = .returned (.string ⟨#[115, 116, 114, 105, 110, 103, 32, 101, 120, 112, 101, 99, 116, 101, 100]⟩) ∧ w = w' := by
  go_enter Try.func19, Try.ntmps19
  go_wp2
  go_ret
  exact ⟨rfl, rfl⟩

theorem spec_flt_104 (w : World) : Calls Try.prog 19 #[.int .i64 104] w fun e w' => e = .returned (.string ⟨#[99, 115, 101, 116, 32, 101, 120, 112, 101, 99, 116, 101, 100]⟩) ∧ w = w' := by
  go_enter Try.func19, Try.ntmps19
  go_wp2
  go_ret
  exact ⟨rfl, rfl⟩

theorem spec_flt_106 (w : World) : Calls Try.prog 19 #[.int .i64 106] w fun e w' => e = .returned (.string ⟨#[112, 114, 111, 99, 101, 100, 117, 114, 101, 32, 111, 114, 32, 105, 110, 116, 101, 103, 101, 114, 32, 101, 120, 112, 101, 99, 116, 101, 100]⟩) ∧ w = w' := by
  go_enter Try.func19, Try.ntmps19
  go_wp2
  go_ret
  exact ⟨rfl, rfl⟩

theorem spec_flt_107 (w : World) : Calls Try.prog 19 #[.int .i64 107] w fun e w' => e = .returned (.string ⟨#[114, 101, 99, 111, 114, 100, 32, 101, 120, 112, 101, 99, 116, 101, 100]⟩) ∧ w = w' := by
  go_enter Try.func19, Try.ntmps19
  go_wp2
  go_ret
  exact ⟨rfl, rfl⟩

theorem spec_flt_108 (w : World) : Calls Try.prog 19 #[.int .i64 108] w fun e w' => e = .returned (.string ⟨#[108, 105, 115, 116, 32, 101, 120, 112, 101, 99, 116, 101, 100]⟩) ∧ w = w' := by
  go_enter Try.func19, Try.ntmps19
  go_wp2
  go_ret
  exact ⟨rfl, rfl⟩

theorem spec_flt_111 (w : World) : Calls Try.prog 19 #[.int .i64 111] w fun e w' => e = .returned (.string ⟨#[118, 97, 114, 105, 97, 98, 108, 101, 32, 101, 120, 112, 101, 99, 116, 101, 100]⟩) ∧ w = w' := by
  go_enter Try.func19, Try.ntmps19
  go_wp2
  go_ret
  exact ⟨rfl, rfl⟩

theorem spec_flt_114 (w : World) : Calls Try.prog 19 #[.int .i64 114] w fun e w' => e = .returned (.string ⟨#[115, 116, 114, 117, 99, 116, 117, 114, 101, 32, 101, 120, 112, 101, 99, 116, 101, 100]⟩) ∧ w = w' := by
  go_enter Try.func19, Try.ntmps19
  go_wp2
  go_ret
  exact ⟨rfl, rfl⟩

theorem spec_flt_118 (w : World) : Calls Try.prog 19 #[.int .i64 118] w fun e w' => e = .returned (.string ⟨#[99, 111, 45, 101, 120, 112, 114, 101, 115, 115, 105, 111, 110, 32, 101, 120, 112, 101, 99, 116, 101, 100]⟩) ∧ w = w' := by
  go_enter Try.func19, Try.ntmps19
  go_wp2
  go_ret
  exact ⟨rfl, rfl⟩

theorem spec_flt_119 (w : World) : Calls Try.prog 19 #[.int .i64 119] w fun e w' => e = .returned (.string ⟨#[99, 111, 45, 101, 120, 112, 114, 101, 115, 115, 105, 111, 110, 32, 105, 115, 32, 97, 99, 116, 105, 118, 101]⟩) ∧ w = w' := by
  go_enter Try.func19, Try.ntmps19
  go_wp2
  go_ret
  exact ⟨rfl, rfl⟩

theorem spec_flt_122 (w : World) : Calls Try.prog 19 #[.int .i64 122] w fun e w' => e = .returned (.string ⟨#[115, 101, 116, 32, 111, 114, 32, 116, 97, 98, 108, 101, 32, 101, 120, 112, 101, 99, 116, 101, 100]⟩) ∧ w = w' := by
  go_enter Try.func19, Try.ntmps19
  go_wp2
  go_ret
  exact ⟨rfl, rfl⟩

theorem spec_flt_124 (w : World) : Calls Try.prog 19 #[.int .i64 124] w fun e w' => e = .returned (.string ⟨#[116, 97, 98, 108, 101, 32, 101, 120, 112, 101, 99, 116, 101, 100]⟩) ∧ w = w' := by
  go_enter Try.func19, Try.ntmps19
  go_wp2
  go_ret
  exact ⟨rfl, rfl⟩

theorem spec_flt_127 (w : World) : Calls Try.prog 19 #[.int .i64 127] w fun e w' => e = .returned (.string ⟨#[112, 97, 116, 116, 101, 114, 110, 32, 101, 120, 112, 101, 99, 116, 101, 100]⟩) ∧ w = w' := by
  go_enter Try.func19, Try.ntmps19
  go_wp2
  go_ret
  exact ⟨rfl, rfl⟩

theorem spec_flt_201 (w : World) : Calls Try.prog 19 #[.int .i64 201] w fun e w' => e = .returned (.string ⟨#[100, 105, 118, 105, 115, 105, 111, 110, 32, 98, 121, 32, 122, 101, 114, 111]⟩) ∧ w = w' := by
  go_enter Try.func19, Try.ntmps19
  go_wp2
  go_ret
  exact ⟨rfl, rfl⟩

theorem spec_flt_203 (w : World) : Calls Try.prog 19 #[.int .i64 203] w fun e w' => e = .returned (.string ⟨#[105, 110, 116, 101, 103, 101, 114, 32, 111, 118, 101, 114, 102, 108, 111, 119]⟩) ∧ w = w' := by
  go_enter Try.func19, Try.ntmps19
  go_wp2
  go_ret
  exact ⟨rfl, rfl⟩

theorem spec_flt_205 (w : World) : Calls Try.prog 19 #[.int .i64 205] w fun e w' => e = .returned (.string ⟨#[118, 97, 108, 117, 101, 32, 111, 117, 116, 32, 111, 102, 32, 114, 97, 110, 103, 101]⟩) ∧ w = w' := by
  go_enter Try.func19, Try.ntmps19
  go_wp2
  go_ret
  exact ⟨rfl, rfl⟩

theorem spec_flt_207 (w : World) : Calls Try.prog 19 #[.int .i64 207] w fun e w' => e = .returned (.string ⟨#[114, 101, 99, 111, 114, 100, 32, 104, 97, 115, 32, 110, 111, 32, 115, 117, 99, 104, 32, 102, 105, 101, 108, 100]⟩) ∧ w = w' := by
  go_enter Try.func19, Try.ntmps19
  go_wp2
  go_ret
  exact ⟨rfl, rfl⟩

theorem spec_flt_301 (w : World) : Calls Try.prog 19 #[.int .i64 301] w fun e w' => e = .returned (.string ⟨#[116, 111, 111, 32, 109, 97, 110, 121, 32, 97, 99, 116, 105, 118, 101, 32, 112, 114, 111, 99, 101, 100, 117, 114, 101, 115]⟩) ∧ w = w' := by
  go_enter Try.func19, Try.ntmps19
  go_wp2
  go_ret
  exact ⟨rfl, rfl⟩

theorem spec_flt_302 (w : World) : Calls Try.prog 19 #[.int .i64 302] w fun e w' => e = .returned (.string ⟨#[114, 101, 115, 117, 108, 116, 32, 116, 111, 111, 32, 108, 97, 114, 103, 101]⟩) ∧ w = w' := by
  go_enter Try.func19, Try.ntmps19
  go_wp2
  go_ret
  exact ⟨rfl, rfl⟩

theorem spec_flt_n (c : Int) (m101 : (c == 101) = false) (m103 : (c == 103) = false) (m104 : (c == 104) = false) (m106 : (c == 106) = false) (m107 : (c == 107) = false) (m108 : (c == 108) = false) (m111 : (c == 111) = false) (m114 : (c == 114) = false) (m118 : (c == 118) = false) (m119 : (c == 119) = false) (m122 : (c == 122) = false) (m124 : (c == 124) = false) (m127 : (c == 127) = false) (m201 : (c == 201) = false) (m203 : (c == 203) = false) (m205 : (c == 205) = false) (m207 : (c == 207) = false) (m301 : (c == 301) = false) (m302 : (c == 302) = false) (w : World) : Calls Try.prog 19 #[.int .i64 c] w fun e w' => e = .returned (.string ⟨#[]⟩) ∧ w = w' := by
  go_enter Try.func19, Try.ntmps19
  go_wp2
  go_ret
  exact ⟨rfl, rfl⟩
theorem spec_flt (c : Int) (w : World) : Calls Try.prog 19 #[.int .i64 c] w fun e w' => e = .returned (.string (fltT c)) ∧ w = w' := by
  by_cases h101 : c = 101
  · subst h101; exact spec_flt_101 w
  by_cases h103 : c = 103
  · subst h103; exact spec_flt_103 w
  by_cases h104 : c = 104
  · subst h104; exact spec_flt_104 w
  by_cases h106 : c = 106
  · subst h106; exact spec_flt_106 w
  by_cases h107 : c = 107
  · subst h107; exact spec_flt_107 w
  by_cases h108 : c = 108
  · subst h108; exact spec_flt_108 w
  by_cases h111 : c = 111
  · subst h111; exact spec_flt_111 w
  by_cases h114 : c = 114
  · subst h114; exact spec_flt_114 w
  by_cases h118 : c = 118
  · subst h118; exact spec_flt_118 w
  by_cases h119 : c = 119
  · subst h119; exact spec_flt_119 w
  by_cases h122 : c = 122
  · subst h122; exact spec_flt_122 w
  by_cases h124 : c = 124
  · subst h124; exact spec_flt_124 w
  by_cases h127 : c = 127
  · subst h127; exact spec_flt_127 w
  by_cases h201 : c = 201
  · subst h201; exact spec_flt_201 w
  by_cases h203 : c = 203
  · subst h203; exact spec_flt_203 w
  by_cases h205 : c = 205
  · subst h205; exact spec_flt_205 w
  by_cases h207 : c = 207
  · subst h207; exact spec_flt_207 w
  by_cases h301 : c = 301
  · subst h301; exact spec_flt_301 w
  by_cases h302 : c = 302
  · subst h302; exact spec_flt_302 w
  have e : fltT c = ⟨#[]⟩ := by unfold fltT; rw [if_neg h101, if_neg h103, if_neg h104, if_neg h106, if_neg h107, if_neg h108, if_neg h111, if_neg h114, if_neg h118, if_neg h119, if_neg h122, if_neg h124, if_neg h127, if_neg h201, if_neg h203, if_neg h205, if_neg h207, if_neg h301, if_neg h302]
  rw [e]
  exact spec_flt_n c (beq_eq_false_iff_ne.2 h101) (beq_eq_false_iff_ne.2 h103) (beq_eq_false_iff_ne.2 h104) (beq_eq_false_iff_ne.2 h106) (beq_eq_false_iff_ne.2 h107) (beq_eq_false_iff_ne.2 h108) (beq_eq_false_iff_ne.2 h111) (beq_eq_false_iff_ne.2 h114) (beq_eq_false_iff_ne.2 h118) (beq_eq_false_iff_ne.2 h119) (beq_eq_false_iff_ne.2 h122) (beq_eq_false_iff_ne.2 h124) (beq_eq_false_iff_ne.2 h127) (beq_eq_false_iff_ne.2 h201) (beq_eq_false_iff_ne.2 h203) (beq_eq_false_iff_ne.2 h205) (beq_eq_false_iff_ne.2 h207) (beq_eq_false_iff_ne.2 h301) (beq_eq_false_iff_ne.2 h302) w

theorem FnExactFaultText_walk (a0 : Int) (w0 : (Lit.int .i64 a0).wf = true) (w : World) : Calls Try.prog 7 #[.int .i64 a0] w fun e w' => e = .returned (.bool true) ∧ Below w.heap.size w w' := by
  have HS := Lib.hid (fun W => spec_flt a0 W)
  have HI := Lib.hid (fun W => impl_flt a0 W)
  generalize fltT a0 = s at HS HI
  go_enter Try.func7, Try.ntmps7
  go_wp2_with fail
  refine (HS.out _).mono ?_
  rintro e w2 ⟨rfl, rfl⟩
  go_wp2_with fail
  refine (HI.out _).mono ?_
  rintro e w2 ⟨rfl, rfl⟩
  go_wp2
  go_ret
  exact ⟨rfl, Below.refl _ _⟩
end Go.Proofs.Ytbadepiakkhabaa
