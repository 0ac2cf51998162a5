/-
  What the exported calls of a memory (parapet/phys) come to: Zero, Copy, Frame, Fork, New.
-/
import Derived.Test.YtfbegickdnjfcaaPhysFrames
namespace Go.Proofs.Ytfbegickdnjfcaa
open Go.ChangeShapes Go.WideShapes Go.ChangeAt Go.RowKit
set_option linter.unusedVariables false
section
variable {w : World} {g d cap : Nat} {xs : List Int} {r : List Value} (hm : IsMem w g d cap xs r)
include hm

theorem zero_ok (n : Int) (h0 : 0 ≤ n) (hn : 256 * n + 256 ≤ xs.length) :
    Calls Try.prog 18 #[.pointer (some ⟨g, 0, none⟩), .int .i64 n] w fun e w' => e = .returned (.int .i64 0) ∧ Only [d] w w' ∧ IsMem w' g d cap (Go.splice xs (256 * n.toNat) (List.replicate 256 0)) r := by
  have HS := hide (frame_ok hm n h0 hn)
  obtain ⟨w1, hrun, ho, hm1⟩ := run_clear_mem hm (256 * n.toNat) 256 256 (by decide) (by omega)
  have HR := hide hrun
  clear hrun hm
  go_enter Try.func18, Try.ntmps18
  go_wp2_with (first | (go_at_call 43; refine HS.out.mono ?_; rintro e w' ⟨rfl, rfl⟩) | (simp only [HR.out]))
  go_ret
  exact ⟨rfl, ho, hm1⟩

theorem zero_bad (n : Int) (hn : n < 0 ∨ xs.length < 256 * n + 256) :
    Calls Try.prog 18 #[.pointer (some ⟨g, 0, none⟩), .int .i64 n] w fun e w' => e = .returned (.int .i64 10) ∧ w = w' := by
  have HS := hide (frame_bad hm n hn)
  clear hm hn
  go_enter Try.func18, Try.ntmps18
  go_wp2_with (go_at_call 43; refine HS.out.mono ?_; rintro e w' ⟨rfl, rfl⟩)
  go_ret
  exact ⟨rfl, rfl⟩







theorem getframe_ok (n : Int) (h0 : 0 ≤ n) (hn : 256 * n + 256 ≤ xs.length) :
    Calls Try.prog 46 #[.pointer (some ⟨g, 0, none⟩), .int .i64 n] w fun e w' => ∃ v, e = .returned (.tuple #[v, .int .i64 0]) ∧ Fresh w' w.heap.size v ((xs.drop (256 * n.toNat)).take 256) ∧ Only [] w w' := by
  have HS := hide (frame_ok hm n h0 hn)
  have HC := hide (clone_ok ⟨d, 256 * n.toNat, none⟩ 256 256 ((xs.drop (256 * n.toNat)).take 256) w (by simp; omega) (by omega) (by
    intro j hj
    rw [add_at, gb_cut _ _ _ _ hj]
    exact hm.byte (by omega)))
  clear hm
  go_enter Try.func46, Try.ntmps46
  go_wp2_with (first | (go_at_call 43; refine HS.out.mono ?_; rintro e w' ⟨rfl, rfl⟩) | (go_at_call 55; refine HC.out.mono ?_; rintro e w' ⟨v, rfl, hf, ho⟩))
  go_ret2
  exact ⟨v, rfl, hf, ho⟩

theorem getframe_bad (n : Int) (hn : n < 0 ∨ xs.length < 256 * n + 256) :
    Calls Try.prog 46 #[.pointer (some ⟨g, 0, none⟩), .int .i64 n] w fun e w' => e = .returned (.tuple #[.slice none 0 0, .int .i64 10]) ∧ w = w' := by
  have HS := hide (frame_bad hm n hn)
  clear hm hn
  go_enter Try.func46, Try.ntmps46
  go_wp2_with (go_at_call 43; refine HS.out.mono ?_; rintro e w' ⟨rfl, rfl⟩)
  go_ret2
  exact ⟨rfl, rfl⟩

end

theorem new_bad (n : Int) (w : World) (h : n < 1 ∨ 4096 < n) : Calls Try.prog 5 #[.int .i64 n] w fun e w' => e = .returned (.tuple #[.pointer none, .int .i64 1]) ∧ w = w' := by
  by_cases h1 : n < 1
  · clear h
    go_enter Try.func5, Try.ntmps5
    go_wp2
    go_ret2
    exact ⟨rfl, rfl⟩
  · have h2 : 4096 < n := by omega
    clear h
    go_enter Try.func5, Try.ntmps5
    go_wp2
    go_ret2
    exact ⟨rfl, rfl⟩

set_option maxRecDepth 100000 in
theorem new_ok (n : Int) (w : World) (h1 : 1 ≤ n) (h2 : n ≤ 4096) :
    Calls Try.prog 5 #[.int .i64 n] w fun e w' => ∃ g d, e = .returned (.tuple #[.pointer (some ⟨g, 0, none⟩), .int .i64 0]) ∧ w.heap.size ≤ g ∧ w.heap.size ≤ d ∧ IsMem w' g d (256 * n.toNat) (List.replicate (256 * n.toNat) 0) [] ∧ Only [] w w' := by
  obtain ⟨i0, hi, hz0, hz1, hz2⟩ := info_parts info_u8
  have hmk : ∀ u : World, (Instr.makeSlice 51 (.int .i64 (n * 256)) (.int .i64 (n * 256))).run Try.prog u =
      .ok (.slice (some ⟨u.heap.size, 0, none⟩) (256 * n.toNat) (256 * n.toNat)) (u.alloc (.cells (madeCells #[.int .u8 0] (256 * n.toNat)) 5)) := fun u => by
    have h := run_make (P := Try.prog) u 51 5 i0 (.int .u8 0) Try.underlying51 hi hz0 .i64 .i64 (n * 256) (n * 256) (by omega) (Int.le_refl _) (by rw [hz2]; omega) (by omega)
    have e : (n * 256).toNat = 256 * n.toNat := by omega
    rw [e] at h
    simpa [hz1, Value.cells] using h
  have HM := hide (toList_madeCells_one (.int .u8 0) (256 * n.toNat))
  go_enter Try.func5, Try.ntmps5
  go_wp2
  go_ret2
  refine ⟨w.heap.size + 1, w.heap.size, rfl, Nat.le_succ _, Nat.le_refl _, ?_, ?_⟩
  rotate_left
  · exact ((Only.refl _ _).alloc _).alloc _
  refine ⟨?_, ?_, by simp, by simp; omega, by simp, by simp; omega, by decide⟩
  · have := Blk.new (w.alloc (.cells (madeCells #[.int .u8 0] (256 * n.toNat)) 5)) 53 #[.slice (some ⟨w.heap.size, 0, none⟩) (256 * n.toNat) (256 * n.toNat)]
    simpa using this
  · refine Blk.alloc ?_ _
    have e : (u8l (List.replicate (256 * n.toNat) 0) ++ ([] : List Value)).toArray = madeCells #[.int .u8 0] (256 * n.toNat) := by
      apply Array.ext'
      rw [HM.out]
      simp [u8l]
    rw [e]
    exact Blk.new _ _ _
end Go.Proofs.Ytfbegickdnjfcaa
