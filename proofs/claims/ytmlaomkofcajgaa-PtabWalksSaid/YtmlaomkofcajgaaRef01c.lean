/-
  What the calls of the document's own memory (parapetref01) come to: Write, frames, New.
-/
import Derived.Test.YtmlaomkofcajgaaRef01b
import Derived.Test.YtmlaomkofcajgaaAppendNew
namespace Go.Proofs.Ytmlaomkofcajgaa
open Go.ChangeShapes Go.WideShapes Go.ChangeAt Go.RowKit
set_option linter.unusedVariables false

theorem made_u8 (n : Nat) : madeCells #[.int .u8 0] n = (u8l (List.replicate n 0) ++ ([] : List Value)).toArray := by
  apply Array.ext'
  rw [toList_madeCells_one]
  simp [u8l]
theorem sees_made (w : World) (n : Nat) : Sees (w.alloc (.cells (madeCells #[.int .u8 0] n) 5)) (some ⟨w.heap.size, 0, none⟩) n (List.replicate n 0) := by
  refine ⟨by simp, fun _ => ⟨w.heap.size, 0, rfl, by simp, fun i hi => ?_⟩⟩
  rw [Nat.zero_add, (Blk.new w 5 (madeCells #[.int .u8 0] n)).cell, made_u8]
  exact u8l_get _ _ i (by simpa using hi)

section
variable {w : World} {g d cap : Nat} {xs : List Int} {r : List Value} (hm : IsRef w g d cap xs r)
include hm





















end

theorem rnew_bad (n : Int) (w : World) (h : n < 1 ∨ 4096 < n) : Calls Try.prog 24 #[.int .i64 n] w fun e w' => e = .returned (.tuple #[.pointer none, .int .i64 1]) ∧ w = w' := by
  by_cases h1 : n < 1
  · clear h
    go_enter Try.func24, Try.ntmps24
    go_wp2
    go_ret2
    exact ⟨rfl, rfl⟩
  · have h2 : 4096 < n := by omega
    clear h
    go_enter Try.func24, Try.ntmps24
    go_wp2
    go_ret2
    exact ⟨rfl, rfl⟩

set_option maxRecDepth 100000 in
theorem rnew_ok (n : Int) (w : World) (h1 : 1 ≤ n) (h2 : n ≤ 4096) :
    Calls Try.prog 24 #[.int .i64 n] w fun e w' => ∃ g d, e = .returned (.tuple #[.pointer (some ⟨g, 0, none⟩), .int .i64 0]) ∧ w.heap.size ≤ g ∧ w.heap.size ≤ d ∧ IsRef w' g d (256 * n.toNat) (List.replicate (256 * n.toNat) 0) [] ∧ Only [] w w' := by
  obtain ⟨i0, hi, hz0, hz1, hz2⟩ := info_parts info_u8
  have hmk : ∀ u : World, (Instr.makeSlice 40 (.int .i64 (256 * n)) (.int .i64 (256 * n))).run Try.prog u =
      .ok (.slice (some ⟨u.heap.size, 0, none⟩) (256 * n.toNat) (256 * n.toNat)) (u.alloc (.cells (madeCells #[.int .u8 0] (256 * n.toNat)) 5)) := fun u => by
    have h := run_make (P := Try.prog) u 40 5 i0 (.int .u8 0) Try.underlying40 hi hz0 .i64 .i64 (256 * n) (256 * n) (by omega) (Int.le_refl _) (by rw [hz2]; omega) (by omega)
    have e : (256 * n).toNat = 256 * n.toNat := by omega
    rw [e] at h
    simpa [hz1, Value.cells] using h
  go_enter Try.func24, Try.ntmps24
  go_wp2
  go_ret2
  refine ⟨w.heap.size + 1, w.heap.size, rfl, Nat.le_succ _, Nat.le_refl _, ?_, ?_⟩
  rotate_left
  · exact ((Only.refl _ _).alloc _).alloc _
  refine ⟨?_, ?_, by simp, by simp; omega, by simp, by simp; omega, by decide⟩
  · have := Blk.new (w.alloc (.cells (madeCells #[.int .u8 0] (256 * n.toNat)) 5)) 97 #[.slice (some ⟨w.heap.size, 0, none⟩) (256 * n.toNat) (256 * n.toNat)]
    simpa using this
  · refine Blk.alloc ?_ _
    rw [← made_u8]
    exact Blk.new _ _ _
end Go.Proofs.Ytmlaomkofcajgaa
