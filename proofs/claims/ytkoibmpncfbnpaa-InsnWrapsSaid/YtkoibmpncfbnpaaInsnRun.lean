/-
  Loads of whole processors and acts, and their comparison, as single operations: for regions that draw their order.
-/
import Derived.Test.YtkoibmpncfbnpaaInsnBd
import Derived.OrdersHeld
import Derived.Deep.RegionHeld3
namespace Go.Proofs.Ytkoibmpncfbnpaa
open Go.ChangeShapes Go.WideShapes Go.ChangeAt Go.RowKit
set_option linter.unusedVariables false

section
variable {a : Act} {w : World}
theorem run_load_cpu {ds ty ps af gd} {x : Operand} {g : Nat} {cs : List Int} (hg : Blk w g 35 (u32A cs)) (hx : a.eval x = .pointer (some ⟨g, 0, none⟩)) (hl : cs.length = 17) :
    (execOp a.eval ⟨ds, .load 35 x, ty, ps, af, gd⟩).run Try.prog w = .ok (.value (.agg (u32A cs))) w := by
  simp only [execOp, hx, Instr.loadAt, Instr.sureAddr, Sem.run_bind, Sem.run_pure, Result.andThen_ok, run_loadVar_row w g 35 35 (u32A cs) (0, 0) _ hg Try.underlying35 rfl (by rw [info_cpu, size_u32A, hl])]
theorem run_load_act {ds ty ps af gd} {x : Operand} {g : Nat} {k ad sz rg va ol : Int} (hg : Blk w g 37 (actC k ad sz rg va ol)) (hx : a.eval x = .pointer (some ⟨g, 0, none⟩)) :
    (execOp a.eval ⟨ds, .load 37 x, ty, ps, af, gd⟩).run Try.prog w = .ok (.value (actV k ad sz rg va ol)) w := by
  simp only [execOp, hx, Instr.loadAt, Instr.sureAddr, Sem.run_bind, Sem.run_pure, Result.andThen_ok, run_loadVar_row w g 37 37 (actC k ad sz rg va ol) (0, 0) _ hg Try.underlying37 rfl (by rw [info_act]; rfl)]
  rfl
theorem run_cmp_cpu {ds ty ps af gd} {op : BinOp} {x y : Operand} {cs : List Int} {c : Bool} {t2 : TypeId} (hop : op = .eql ∨ op = .neq) (hr : (binOp op 35 (.agg (u32A cs)) (.agg (u32A cs))).run Try.prog w = .ok (.bool c) w) (hx : a.eval x = .agg (u32A cs)) (hy : a.eval y = .agg (u32A cs)) :
    (execOp a.eval ⟨ds, .binOp op 35 x y t2, ty, ps, af, gd⟩).run Try.prog w = .ok (.value (.bool c)) w := by
  have hm : Try.prog.eqGuardType Try.prog.depth 35 = false := by kernel_rfl
  rcases hop with rfl | rfl
  all_goals simp only [execOp, hx, hy, Sem.run_bind, run_eqGuard_agg _ _ _ _ _ _ _ hm, Result.andThen_ok, hr, Sem.run_pure]
theorem run_cmp_act {ds ty ps af gd} {op : BinOp} {x y : Operand} {k ad sz rg va ol : Int} {c : Bool} {t2 : TypeId} (hop : op = .eql ∨ op = .neq) (hr : (binOp op 37 (actV k ad sz rg va ol) (actV k ad sz rg va ol)).run Try.prog w = .ok (.bool c) w) (hx : a.eval x = actV k ad sz rg va ol) (hy : a.eval y = actV k ad sz rg va ol) :
    (execOp a.eval ⟨ds, .binOp op 37 x y t2, ty, ps, af, gd⟩).run Try.prog w = .ok (.value (.bool c)) w := by
  have hm : Try.prog.eqGuardType Try.prog.depth 37 = false := by kernel_rfl
  unfold actV at hr hx hy
  rcases hop with rfl | rfl
  all_goals simp only [execOp, hx, hy, Sem.run_bind, run_eqGuard_agg _ _ _ _ _ _ _ hm, Result.andThen_ok, hr, Sem.run_pure]
end

theorem world_from {P : Program} {c : Code} {Q : Exit → Act → World → Prop} {a : Act} {W : World} (Φ : World → Prop) (h : Φ W) (k : ∀ W', Φ W' → Code.wp P c Q a W') : Code.wp P c Q a W := k W h
end Go.Proofs.Ytkoibmpncfbnpaa
