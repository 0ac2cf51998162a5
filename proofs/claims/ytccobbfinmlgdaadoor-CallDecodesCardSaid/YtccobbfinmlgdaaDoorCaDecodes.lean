/-
  The walk of 'CallDecodes'.
-/
import Derived.Test.YtccobbfinmlgdaaDoorCaXDecode
import Derived.Laws.StructEq
namespace Go.Proofs.YtccobbfinmlgdaaDoor
open Go.ChangeShapes Go.WideShapes Go.ChangeAt Go.RowKit
set_option linter.unusedVariables false

theorem arr4_eql (d : Nat) (xs ys : Array Value) (w : World) (h : ∀ i, i < 4 → ((do let a ← part 34 xs (i * 1); let b ← part 34 ys (i * 1); Op.equalIn d 34 a b) : Sem Bool).run Tryd.prog w = .ok true w) :
    (Op.equalIn (d + 1) 38 (.agg xs) (.agg ys)).run Tryd.prog w = .ok true w := by
  have hsz : (sizeOf 34).run Tryd.prog w = .ok 1 w := by kernel_rfl
  have key : ∀ (l : List Nat), (∀ i ∈ l, i < 4) →
      (forIn l ((none, ()) : Option Bool × Unit) (fun i (r : Option Bool × Unit) => do
        let __do_lift ← part 34 xs (i * 1)
        let __do_lift_1 ← part 34 ys (i * 1)
        let __do_lift ← Op.equalIn d 34 __do_lift __do_lift_1
        if (!__do_lift) = true then pure (ForInStep.done (some false, ())) else pure (ForInStep.yield (none, ()))) : Sem (Option Bool × Unit)).run Tryd.prog w = .ok (none, ()) w := by
    intro l
    induction l with
    | nil => intro _; rfl
    | cons i l ih =>
      intro hl
      have hi := h i (hl i (by simp))
      simp only [Sem.run_bind] at hi
      simp only [List.forIn_cons, Sem.run_bind]
      generalize (part 34 xs (i * 1)).run Tryd.prog w = r1 at hi ⊢
      cases r1 with
      | halt x w1 => simp [Result.andThen] at hi
      | ok a w1 =>
        simp only [Result.andThen_ok] at hi ⊢
        generalize (part 34 ys (i * 1)).run Tryd.prog w1 = r2 at hi ⊢
        cases r2 with
        | halt x w2 => simp [Result.andThen] at hi
        | ok b w2 =>
          simp only [Result.andThen_ok] at hi ⊢
          rw [hi]
          simp only [Result.andThen_ok, Bool.not_true, Bool.false_eq_true, if_false, Sem.run_pure]
          exact ih (fun j hj => hl j (by simp [hj]))
  simp only [Op.equalIn, Sem.run_bind, run_underlying Tryd.underlying38, Result.andThen_ok, hsz]
  first
    | rw [Std.Legacy.Range.forIn_eq_forIn_range']
    | rw [Std.Range.forIn_eq_forIn_range']
  rw [key _ (by intro j hj; simp [List.mem_range'] at hj; omega)]
  rfl
theorem u32_eql (d : Nat) (cs : List Int) (i : Nat) (hi : i < cs.length) (w : World) : ((do let a ← part 34 (u32A cs) (i * 1); let b ← part 34 (u32A cs) (i * 1); Op.equalIn (d + 1) 34 a b) : Sem Bool).run Tryd.prog w = .ok true w := by
  have hp : (part 34 (u32A cs) (i * 1)).run Tryd.prog w = .ok (.int .u32 (gb cs i)) w := by
    have hg := u32A_get cs i hi
    have hag : (isAgg 34).run Tryd.prog w = .ok false w := by kernel_rfl
    rw [Nat.mul_one]
    unfold part
    simp [Sem.run_bind, hag, hg]
  simp only [Sem.run_bind, hp, Result.andThen_ok]
  rw [run_equalIn_int _ _ _ .u32 .u32 _ _ Tryd.underlying34]
  simp
theorem u32A_cut (cs : List Int) (n : Nat) : (u32A cs).extract 0 n = u32A (cs.take n) := by
  simp [u32A, List.map_take]
theorem trap_eq (n b c d e : Int) (w : World) : (Op.equalIn 10000 40 (.agg (trapA n b c d e)) (.agg (trapA n b c d e))).run Tryd.prog w = .ok true w := by
  have ha := arr4_eql 9998 (u32A [b, c, d, e]) (u32A [b, c, d, e]) w (fun i hi => u32_eql 9997 [b, c, d, e] i (by simpa using hi) w)
  have hi := run_equalIn_int (P := Tryd.prog) w 9998 3 .i64 .i64 n n Tryd.underlying3
  unfold trapA
  simp only [u32A, List.map_cons, List.map_nil] at ha
  go_simp
theorem trap_eql (n b c d e : Int) (w : World) : (binOp .eql 40 (.agg (trapA n b c d e)) (.agg (trapA n b c d e))).run Tryd.prog w = .ok (.bool true) w := by
  rw [run_eql_struct, trap_eq]
  rfl
theorem cpu17 {cs : List Int} (h : cs.length = 17) : ∃ x0 x1 x2 x3 x4 x5 x6 x7 x8 x9 x10 x11 x12 x13 x14 x15 x16 : Int, cs = [x0, x1, x2, x3, x4, x5, x6, x7, x8, x9, x10, x11, x12, x13, x14, x15, x16] := by
  match cs, h with
  | [x0, x1, x2, x3, x4, x5, x6, x7, x8, x9, x10, x11, x12, x13, x14, x15, x16], _ => exact ⟨x0, x1, x2, x3, x4, x5, x6, x7, x8, x9, x10, x11, x12, x13, x14, x15, x16, rfl⟩
set_option maxRecDepth 100000 in
set_option maxHeartbeats 2000000 in
theorem callDecodes_is (x0 x1 x2 x3 x4 x5 x6 x7 x8 x9 x10 x11 x12 x13 x14 x15 x16 : Int) (h0 : 0 ≤ x1) (h1 : x1 < 4294967296) (w : World) (hT : TabS w) : Calls Tryd.prog 5 #[cpuV x0 x1 x2 x3 x4 x5 x6 x7 x8 x9 x10 x11 x12 x13 x14 x15 x16] w fun e w' => e = .returned (.bool true) ∧ Below w.heap.size w w' := by
  have HD := hide (fun w => cdecode_is x0 x1 x2 x3 x4 x5 x6 x7 x8 x9 x10 x11 x12 x13 x14 x15 x16 h0 h1 w)
  have HX := hide (fun w => xdecode_is x0 x1 x2 x3 x4 x5 x6 x7 x8 x9 x10 x11 x12 x13 x14 x15 x16 h0 h1 w)
  have HA := hide (fun W (h : Only [] w W) => awake26 W (hT.only h (by simp)))
  have he := fun w => trap_eql (numT x1) x2 x3 x4 x5 w
  generalize numT x1 = n at *
  generalize errT x1 = er at *
  unfold trapA at he HD HX
  unfold cpuV at HD HX ⊢
  clear h0 h1 hT
  go_enter Tryd.func5, Tryd.ntmps5
  go_wp2_with fail
  refine (HD.out _).mono ?_
  rintro e w1 ⟨rfl, o1⟩
  have X1 := (Blk.new w 37 #[.int .u32 x0, .int .u32 x1, .int .u32 x2, .int .u32 x3, .int .u32 x4, .int .u32 x5, .int .u32 x6, .int .u32 x7, .int .u32 x8, .int .u32 x9, .int .u32 x10, .int .u32 x11, .int .u32 x12, .int .u32 x13, .int .u32 x14, .int .u32 x15, .int .u32 x16]).only o1 (by simp)
  have O1 := ((Only.refl [] w).alloc _).trans o1
  have X1' := hide X1
  have c0 : ∀ o, (w1.alloc o).cell? ⟨w.heap.size, 0, none⟩ = some (.int .u32 x0) := fun o => (X1'.out.alloc o).cell 0
  have c1 : ∀ o, (w1.alloc o).cell? ⟨w.heap.size, 1, none⟩ = some (.int .u32 x1) := fun o => (X1'.out.alloc o).cell 1
  have c2 : ∀ o, (w1.alloc o).cell? ⟨w.heap.size, 2, none⟩ = some (.int .u32 x2) := fun o => (X1'.out.alloc o).cell 2
  have c3 : ∀ o, (w1.alloc o).cell? ⟨w.heap.size, 3, none⟩ = some (.int .u32 x3) := fun o => (X1'.out.alloc o).cell 3
  have c4 : ∀ o, (w1.alloc o).cell? ⟨w.heap.size, 4, none⟩ = some (.int .u32 x4) := fun o => (X1'.out.alloc o).cell 4
  have c5 : ∀ o, (w1.alloc o).cell? ⟨w.heap.size, 5, none⟩ = some (.int .u32 x5) := fun o => (X1'.out.alloc o).cell 5
  have c6 : ∀ o, (w1.alloc o).cell? ⟨w.heap.size, 6, none⟩ = some (.int .u32 x6) := fun o => (X1'.out.alloc o).cell 6
  have c7 : ∀ o, (w1.alloc o).cell? ⟨w.heap.size, 7, none⟩ = some (.int .u32 x7) := fun o => (X1'.out.alloc o).cell 7
  have c8 : ∀ o, (w1.alloc o).cell? ⟨w.heap.size, 8, none⟩ = some (.int .u32 x8) := fun o => (X1'.out.alloc o).cell 8
  have c9 : ∀ o, (w1.alloc o).cell? ⟨w.heap.size, 9, none⟩ = some (.int .u32 x9) := fun o => (X1'.out.alloc o).cell 9
  have c10 : ∀ o, (w1.alloc o).cell? ⟨w.heap.size, 10, none⟩ = some (.int .u32 x10) := fun o => (X1'.out.alloc o).cell 10
  have c11 : ∀ o, (w1.alloc o).cell? ⟨w.heap.size, 11, none⟩ = some (.int .u32 x11) := fun o => (X1'.out.alloc o).cell 11
  have c12 : ∀ o, (w1.alloc o).cell? ⟨w.heap.size, 12, none⟩ = some (.int .u32 x12) := fun o => (X1'.out.alloc o).cell 12
  have c13 : ∀ o, (w1.alloc o).cell? ⟨w.heap.size, 13, none⟩ = some (.int .u32 x13) := fun o => (X1'.out.alloc o).cell 13
  have c14 : ∀ o, (w1.alloc o).cell? ⟨w.heap.size, 14, none⟩ = some (.int .u32 x14) := fun o => (X1'.out.alloc o).cell 14
  have c15 : ∀ o, (w1.alloc o).cell? ⟨w.heap.size, 15, none⟩ = some (.int .u32 x15) := fun o => (X1'.out.alloc o).cell 15
  have c16 : ∀ o, (w1.alloc o).cell? ⟨w.heap.size, 16, none⟩ = some (.int .u32 x16) := fun o => (X1'.out.alloc o).cell 16
  have O1' := hide O1
  clear X1 O1 o1
  go_wp2_with fail
  clear c0 c1 c2 c3 c4 c5 c6 c7 c8 c9 c10 c11 c12 c13 c14 c15 c16
  refine (HX.out _).mono ?_
  rintro e w2 ⟨rfl, o2⟩
  have T1 := hide ((Blk.new w1 40 #[.int .i64 n, .int .u32 x2, .int .u32 x3, .int .u32 x4, .int .u32 x5]).only o2 (by simp))
  have O2 := hide ((O1'.out.alloc _).trans o2)
  clear o2
  go_wp2_with fail
  refine (HA.out _ (O2.out.alloc _)).mono ?_
  rintro e w3 ⟨rfl, o3⟩
  have T3 := hide ((Blk.new w2 40 #[.int .i64 n, .int .u32 x2, .int .u32 x3, .int .u32 x4, .int .u32 x5]).only o3 (by simp))
  have T2 := hide ((T1.out.alloc (.cells #[.int .i64 n, .int .u32 x2, .int .u32 x3, .int .u32 x4, .int .u32 x5] 40)).only o3 (by simp))
  have O3 := hide ((O2.out.alloc _).trans o3)
  clear o3 T1
  have a0 := T2.out.cell 0
  have a1 := T2.out.cell 1
  have a2 := T2.out.cell 2
  have a3 := T2.out.cell 3
  have a4 := T2.out.cell 4
  have b0 := T3.out.cell 0
  have b1 := T3.out.cell 1
  have b2 := T3.out.cell 2
  have b3 := T3.out.cell 3
  have b4 := T3.out.cell 4
  go_wp2
  go_ret
  exact ⟨rfl, O3.out.below (Nat.le_refl _) (by simp)⟩
theorem callDecodes_walk {H : Type} {enc : TypeId × Value → H} {W : World} {base : Nat} {d : DataW H} {v : Value} (hT : TabS W) (o : Value.okWide Tryd.prog W .any base 37 v) (h : Rd enc Tryd.prog W 37 v.cells.toList d) :
    Calls Tryd.prog 5 #[v] W fun e w' => e = .returned (.bool true) ∧ Below W.heap.size W w' := by
  obtain ⟨cs, rfl, hc⟩ := Rd.cpu o h
  obtain ⟨x0, x1, x2, x3, x4, x5, x6, x7, x8, x9, x10, x11, x12, x13, x14, x15, x16, rfl⟩ := cpu17 hc.1
  have h1 := hc.2 x1 (by simp)
  have := callDecodes_is x0 x1 x2 x3 x4 x5 x6 x7 x8 x9 x10 x11 x12 x13 x14 x15 x16 h1.1 h1.2 W hT
  exact this
end Go.Proofs.YtccobbfinmlgdaaDoor
