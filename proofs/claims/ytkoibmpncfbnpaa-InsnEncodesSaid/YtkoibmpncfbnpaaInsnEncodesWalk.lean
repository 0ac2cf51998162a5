/-
  The walk of 'InsnEncodes'.
-/
import Derived.Test.YtkoibmpncfbnpaaInsnLives
import Derived.Test.YtkoibmpncfbnpaaReadInsn
namespace Go.Proofs.Ytkoibmpncfbnpaa
open Go.ChangeShapes Go.WideShapes Go.ChangeAt Go.RowKit
set_option linter.unusedVariables false

set_option maxHeartbeats 2000000 in
theorem insnEncodes_is (o A B i : Int) (w : World) (ho : I64 o) (hA : I64 A) (hB : I64 B) (hi : I64 i) :
    Calls Try.prog 4 #[insnV o A B i] w fun e w' => e = .returned (.bool true) ∧ Below w.heap.size w w' := by
  by_cases hf : Fits o A B i
  · have E := hide (fun w => encode_ok o A B i w hf)
    have R := hide (fun w => rencode_ok o A B i w hf)
    have D : Hid (∀ w, Calls Try.prog 10 #[.int .u32 (wordOf o A B i)] w fun e w' => e = .returned (.tuple #[insnV o A B i, .int .i64 0]) ∧ Below w.heap.size w w') := by
      refine hide fun w => ?_
      obtain ⟨w0, w1⟩ := wordOf_in hf
      obtain ⟨q0, q1, q2, q3⟩ := wordOf_parts hf
      have h := decode_ok (wordOf o A B i) w w0 w1 (by rw [q0]; exact hf.1) (by rw [q0]; exact hf.2.1)
      rw [q0, q1, q2, q3] at h
      exact h
    clear hf ho hA hB hi
    unfold insnV at E R D ⊢
    generalize wordOf o A B i = v at *
    go_enter Try.func4, Try.ntmps4
    go_wp2_with fail
    refine (E.out _).mono ?_
    rintro e w1 ⟨rfl, h1⟩
    have X1 := below_blk h1 (Blk.new _ _ _) (by simp)
    have H1 := hide (((Below.refl w.heap.size w).alloc (Nat.le_refl _) _).trans (h1.mono (by simp)))
    clear h1
    have x0 := X1.cell 0
    have x1 := X1.cell 1
    have x2 := X1.cell 2
    have x3 := X1.cell 3
    go_wp2_with fail
    clear x0 x1 x2 x3
    refine (R.out _).mono ?_
    rintro e w2 ⟨rfl, h2⟩
    have X2 := below_blk h2 X1 X1.lt
    have H2 := hide (H1.out.trans (h2.mono H1.out.size))
    clear h2 X1 H1
    go_wp2_with fail
    refine (lives_ok _).mono ?_
    rintro e w3 ⟨rfl, h3⟩
    have X3 := below_blk h3 X2 X2.lt
    have H3 := hide (H2.out.trans (h3.mono H2.out.size))
    clear h3 X2 H2
    go_wp2_with fail
    refine (D.out _).mono ?_
    rintro e w4 ⟨rfl, h4⟩
    have X4 := below_blk h4 X3 X3.lt
    have H4 := hide (H3.out.trans (h4.mono H3.out.size))
    have xl := X4.lt
    clear h4 X3 H3
    have x0 := X4.cell 0
    have x1 := X4.cell 1
    have x2 := X4.cell 2
    have x3 := X4.cell 3
    clear X4
    go_wp2
    go_ret
    exact ⟨rfl, H4.out.alloc H4.out.size _⟩
  · have E := hide (fun w => encode_bad o A B i w hf ho hA hB hi)
    have R := hide (fun w => rencode_bad o A B i w hf ho hA hB hi)
    clear hf ho hA hB hi
    unfold insnV at E R ⊢
    go_enter Try.func4, Try.ntmps4
    go_wp2_with fail
    refine (E.out _).mono ?_
    rintro e w1 ⟨rfl, h1⟩
    have X1 := below_blk h1 (Blk.new _ _ _) (by simp)
    have H1 := hide (((Below.refl w.heap.size w).alloc (Nat.le_refl _) _).trans (h1.mono (by simp)))
    clear h1
    have x0 := X1.cell 0
    have x1 := X1.cell 1
    have x2 := X1.cell 2
    have x3 := X1.cell 3
    go_wp2_with fail
    clear x0 x1 x2 x3
    refine (R.out _).mono ?_
    rintro e w2 ⟨rfl, h2⟩
    have X2 := below_blk h2 X1 X1.lt
    have H2 := hide (H1.out.trans (h2.mono H1.out.size))
    clear h2 X1 H1
    go_wp2_with fail
    refine (lives_ok _).mono ?_
    rintro e w3 ⟨rfl, h3⟩
    have X3 := below_blk h3 X2 X2.lt
    have H3 := hide (H2.out.trans (h3.mono H2.out.size))
    clear h3 X2 H2
    go_wp2
    go_ret
    exact ⟨rfl, H3.out⟩

theorem insnEncodes_walk {H : Type} {enc : TypeId × Value → H} {w : World} {base : Nat} {v : Value} {d : DataW H} (ok : Value.okWide Try.prog w .any base 24 v) (r : Rd enc Try.prog w 24 v.cells.toList d) :
    Calls Try.prog 4 #[v] w fun e w' => e = .returned (.bool true) ∧ Below w.heap.size w w' := by
  obtain ⟨o, A, B, i, rfl, ho, hA, hB, hi⟩ := r.insn ok
  exact insnEncodes_is o A B i w ho hA hB hi
end Go.Proofs.Ytkoibmpncfbnpaa
