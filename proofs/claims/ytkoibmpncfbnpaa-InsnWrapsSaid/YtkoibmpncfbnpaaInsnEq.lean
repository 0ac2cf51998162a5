/-
  Equal processors and acts are told equal; two results laid into new blocks.
-/
import Derived.Test.YtkoibmpncfbnpaaInsnStepAll
import Derived.Test.YtkoibmpncfbnpaaInsnLives
import Derived.Test.YtkoibmpncfbnpaaReadInsn
import Derived.OrdersHeld
namespace Go.Proofs.Ytkoibmpncfbnpaa
open Go.ChangeShapes Go.WideShapes Go.ChangeAt Go.RowKit
set_option linter.unusedVariables false

theorem arr_eql (d : Nat) (xs ys : Array Value) (w : World) (h : ∀ i, i < 16 → ((do let a ← part 22 xs (i * 1); let b ← part 22 ys (i * 1); Op.equalIn d 22 a b) : Sem Bool).run Try.prog w = .ok true w) :
    (Op.equalIn (d + 1) 33 (.agg xs) (.agg ys)).run Try.prog w = .ok true w := by
  have hsz : (sizeOf 22).run Try.prog w = .ok 1 w := by kernel_rfl
  have key : ∀ (l : List Nat), (∀ i ∈ l, i < 16) →
      (forIn l ((none, ()) : Option Bool × Unit) (fun i (r : Option Bool × Unit) => do
        let __do_lift ← part 22 xs (i * 1)
        let __do_lift_1 ← part 22 ys (i * 1)
        let __do_lift ← Op.equalIn d 22 __do_lift __do_lift_1
        if (!__do_lift) = true then pure (ForInStep.done (some false, ())) else pure (ForInStep.yield (none, ()))) : Sem (Option Bool × Unit)).run Try.prog w = .ok (none, ()) w := by
    intro l
    induction l with
    | nil => intro _; rfl
    | cons i l ih =>
      intro hl
      have hi := h i (hl i (by simp))
      simp only [Sem.run_bind] at hi
      simp only [List.forIn_cons, Sem.run_bind]
      generalize (part 22 xs (i * 1)).run Try.prog w = r1 at hi ⊢
      cases r1 with
      | halt x w1 => simp [Result.andThen] at hi
      | ok a w1 =>
        simp only [Result.andThen_ok] at hi ⊢
        generalize (part 22 ys (i * 1)).run Try.prog w1 = r2 at hi ⊢
        cases r2 with
        | halt x w2 => simp [Result.andThen] at hi
        | ok b w2 =>
          simp only [Result.andThen_ok] at hi ⊢
          rw [hi]
          simp only [Result.andThen_ok, Bool.not_true, Bool.false_eq_true, if_false, Sem.run_pure]
          exact ih (fun j hj => hl j (by simp [hj]))
  simp only [Op.equalIn, Sem.run_bind, run_underlying Try.underlying33, Result.andThen_ok, hsz]
  first
    | rw [Std.Legacy.Range.forIn_eq_forIn_range']
    | rw [Std.Range.forIn_eq_forIn_range']
  rw [key _ (by intro j hj; simp [List.mem_range'] at hj; omega)]
  rfl
theorem u32_eql (d : Nat) (cs : List Int) (i : Nat) (hi : i < cs.length) (w : World) : ((do let a ← part 22 (u32A cs) (i * 1); let b ← part 22 (u32A cs) (i * 1); Op.equalIn (d + 1) 22 a b) : Sem Bool).run Try.prog w = .ok true w := by
  have hp : (part 22 (u32A cs) (i * 1)).run Try.prog w = .ok (.int .u32 (gb cs i)) w := by
    have hg := u32A_get cs i hi
    have hag : (isAgg 22).run Try.prog w = .ok false w := by kernel_rfl
    rw [Nat.mul_one]
    unfold part
    simp [Sem.run_bind, hag, hg]
  simp only [Sem.run_bind, hp, Result.andThen_ok]
  rw [run_equalIn_int _ _ _ .u32 .u32 _ _ Try.underlying22]
  simp
theorem u32A_cut (cs : List Int) (n : Nat) : (u32A cs).extract 0 n = u32A (cs.take n) := by
  simp [u32A, List.map_take]
theorem cpu_eq (cs : List Int) (hl : cs.length = 17) (w : World) : (Op.equalIn 10000 35 (.agg (u32A cs)) (.agg (u32A cs))).run Try.prog w = .ok true w := by
  have h16 := u32A_get cs 16 (by omega)
  have ha := arr_eql 9998 (u32A (cs.take 16)) (u32A (cs.take 16)) w (fun i hi => u32_eql 9997 (cs.take 16) i (by simp; omega) w)
  have hb := u32A_cut cs 16
  have hi := run_equalIn_int (P := Try.prog) w 9998 22 .u32 .u32 (gb cs 16) (gb cs 16) Try.underlying22
  go_simp
theorem cpu_eql (cs : List Int) (hl : cs.length = 17) (w : World) : (binOp .eql 35 (.agg (u32A cs)) (.agg (u32A cs))).run Try.prog w = .ok (.bool true) w := by
  rw [run_eql_struct, cpu_eq cs hl w]
  rfl
theorem cpu_neq (cs : List Int) (hl : cs.length = 17) (w : World) : (binOp .neq 35 (.agg (u32A cs)) (.agg (u32A cs))).run Try.prog w = .ok (.bool false) w := by
  rw [run_neq_struct, cpu_eq cs hl w]
  rfl
theorem act_eq (k ad sz rg va ol : Int) (w : World) : (Op.equalIn 10000 37 (actV k ad sz rg va ol) (actV k ad sz rg va ol)).run Try.prog w = .ok true w := by
  unfold actV
  go_simp
theorem act_eql (k ad sz rg va ol : Int) (w : World) : (binOp .eql 37 (actV k ad sz rg va ol) (actV k ad sz rg va ol)).run Try.prog w = .ok (.bool true) w := by
  unfold actV
  rw [run_eql_struct]
  have := act_eq k ad sz rg va ol w
  unfold actV at this
  rw [this]
  rfl
theorem act_neq (k ad sz rg va ol : Int) (w : World) : (binOp .neq 37 (actV k ad sz rg va ol) (actV k ad sz rg va ol)).run Try.prog w = .ok (.bool false) w := by
  unfold actV
  rw [run_neq_struct]
  have := act_eq k ad sz rg va ol w
  unfold actV at this
  rw [this]
  rfl

theorem two_new (w1 : World) (zs fs : Array Value) (hz : zs.size = 17) (hf : fs.size = 6) :
    (∃ old : Array Value, old.size = 17 ∧ Blk ((w1.alloc (.cells zs 35)).alloc (.cells fs 37)) w1.heap.size 35 old) ∧
    (∃ old : Array Value, old.size = 6 ∧ Blk ((w1.alloc (.cells zs 35)).alloc (.cells fs 37)) (w1.heap.size + 1) 37 old) := by
  have e1 : (w1.alloc (.cells zs 35)).heap.size = w1.heap.size + 1 := by simp
  have h := Blk.new (w1.alloc (.cells zs 35)) 37 fs
  rw [e1] at h
  exact ⟨⟨zs, hz, (Blk.new _ _ _).alloc _⟩, ⟨fs, hf, h⟩⟩
/-- Two results laid into new blocks. -/
theorem two_laid {w w1 : World} {zs fs : Array Value} {ds : List Int} {as' : Array Value} (hb : Below w.heap.size w w1) :
    Blk ((((w1.alloc (.cells zs 35)).alloc (.cells fs 37)).setRow w1.heap.size (u32A ds)).setRow (w1.heap.size + 1) as') w1.heap.size 35 (u32A ds) ∧
    Blk ((((w1.alloc (.cells zs 35)).alloc (.cells fs 37)).setRow w1.heap.size (u32A ds)).setRow (w1.heap.size + 1) as') (w1.heap.size + 1) 37 as' ∧
    Below w.heap.size w ((((w1.alloc (.cells zs 35)).alloc (.cells fs 37)).setRow w1.heap.size (u32A ds)).setRow (w1.heap.size + 1) as') ∧
    ∀ {g t cs}, Blk w1 g t cs → Blk ((((w1.alloc (.cells zs 35)).alloc (.cells fs 37)).setRow w1.heap.size (u32A ds)).setRow (w1.heap.size + 1) as') g t cs := by
  have e1 : (w1.alloc (.cells zs 35)).heap.size = w1.heap.size + 1 := by simp
  have h := Blk.new (w1.alloc (.cells zs 35)) 37 fs
  rw [e1] at h
  have hs := hb.size
  refine ⟨((((Blk.new w1 35 zs).alloc _).row _).rowFar (by omega) _), (h.rowFar (by omega) _).row _, below_setRow (below_setRow ((hb.alloc hs _).alloc (by rw [e1]; omega) _) hs) (by omega), fun hg => ?_⟩
  have := hg.lt
  exact (((hg.alloc _).alloc _).rowFar (by omega) _).rowFar (by omega) _
end Go.Proofs.Ytkoibmpncfbnpaa
