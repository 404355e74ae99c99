/- A call that only answers, as a step of a region that draws its order. -/
import Derived.Test.YtjgnigalodebkaaDoorJ6
import Derived.Deep.RegionLaw
namespace Go.Proofs.YtjgnigalodebkaaDoor
open Go.RowKit
set_option linter.unusedVariables false
theorem step_hexv {w : World} {ops : Array Oper} {o : Oper} {a : Act} {K : Act → World → Prop} {Q : Exit → Act → World → Prop} {E : Prop} (hgd : o.guard = none) (x : Operand)
    (ho : o.op = .call { callee := .value (.func 47), args := #[x], argTypes := #[5] }) (b : UInt8) (z : Int) (hx : a.eval x = .int .u8 (b.toNat : Int)) (hc : Calls Tryd.prog 47 #[.int .u8 (b.toNat : Int)] w fun e w' => e = .returned (.int .i64 z) ∧ w = w')
    (h : K (a.put o.dst (.int .i64 z)) w) : if Region.wanted o (yielded ops a.tmps) = true then Oper.wp Tryd.prog o a w K Q else E := by
  have hw : Region.wanted o (yielded ops a.tmps) = true := by simp [Region.wanted, hgd]
  rw [if_pos hw]
  have hen : (execOp a.eval o).run Tryd.prog w = .ok (.enter 47 #[.int .u8 (b.toNat : Int)]) w := by
    unfold execOp
    rw [ho]
    have hx2 : a.eval x = .int .u8 (b.toNat : Int) := hx
    unfold Act.eval at hx2
    go_simp
    simpa using hx2
  unfold Oper.wp
  rw [hen, Oper.upon_enter]
  exact hc.mono fun e w' ⟨h1, h2⟩ => by subst h1; subst h2; exact h
end Go.Proofs.YtjgnigalodebkaaDoor
