/-
  Names compared; slices.Index of names.
-/
import Derived.Test.YtjpojoflbjhjjaaNmApp
import Derived.Laws.StructEq
namespace Go.Proofs.Ytjpojoflbjhjjaa
open Go.ChangeShapes Go.WideShapes Go.ChangeAt Go.RowKit Go.Maps
set_option linter.unusedVariables false
set_option linter.unusedSimpArgs false
theorem str_beq (a b : ByteArray) : (a.toList == b.toList) = decide (a = b) := by
  rw [← beq_toListBytes]
  obtain ⟨x⟩ := a
  obtain ⟨y⟩ := b
  show (x == y) = _
  by_cases h : x = y
  · subst h; simp
  · simp [h]
theorem str_ne {a b : ByteArray} (h : a ≠ b) : ¬ a.toList = b.toList := fun e => by
  have := str_beq a b
  rw [e] at this
  simp [h] at this
theorem name_eq {a b : NM} {r : Bool} (h : decide (a = b) = r) (w : World) : (Op.equalIn 10000 42 (.agg #[.int .i64 a.dir, .string a.name]) (.agg #[.int .i64 b.dir, .string b.name])).run Try.prog w = .ok r w := by
  have i1 := run_equalIn_int (P := Try.prog) w 9999 3 .i64 .i64 a.dir b.dir Try.underlying3
  have i2 := run_equalIn_string (P := Try.prog) w 9999 9 a.name b.name Try.underlying9
  rw [str_beq] at i2
  obtain ⟨a1, a2⟩ := a
  obtain ⟨b1, b2⟩ := b
  subst h
  by_cases e1 : a1 = b1
  · by_cases e2 : a2 = b2
    · subst e1; subst e2
      go_simp
    · have f : ¬ a2.toList = b2.toList := str_ne e2
      have f2 : (a2.toList == b2.toList) = false := by simp [f]
      subst e1
      go_simp
  · have f : (a1 == b1) = false := by simp [e1]
    go_simp
theorem name_eql {a b : NM} {r : Bool} (h : decide (a = b) = r) (w : World) : (binOp .eql 42 (.agg #[.int .i64 a.dir, .string a.name]) (.agg #[.int .i64 b.dir, .string b.name])).run Try.prog w = .ok (.bool r) w := by
  rw [run_eql_struct, name_eq h w]
  rfl
end Go.Proofs.Ytjpojoflbjhjjaa
