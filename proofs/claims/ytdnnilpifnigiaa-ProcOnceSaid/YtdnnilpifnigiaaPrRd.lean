/-
  Processes and threads (parapetlaw24): the laws' calls, read.
-/
import Derived.Test.YtdnnilpifnigiaaPrPt
import Derived.Test.YtdnnilpifnigiaaRead
namespace Go.Proofs.Ytdnnilpifnigiaa
open Go.ChangeShapes Go.WideShapes Go.ChangeAt Go.RowKit Go.Maps Go.Deep
set_option linter.unusedVariables false
set_option linter.unusedSimpArgs false
/-- What is known of call i of the list. -/
def OpAt24 (w : World) (A : Option Addr) (i : Nat) : Prop :=
  ∃ (q o : Nat) (a b c : Int), A = some ⟨q, o, none⟩ ∧ q < w.heap.size ∧ iW b ∧ iW c ∧
    w.cell? ⟨q, o + i * 3, none⟩ = some (.int .i64 a) ∧ w.cell? ⟨q, o + i * 3 + 1, none⟩ = some (.int .i64 b) ∧ w.cell? ⟨q, o + i * 3 + 2, none⟩ = some (.int .i64 c)

theorem cells_tDeed24 : Try.prog.cellsOf 66 = 3 := by kernel_rfl
section
variable {H : Type} {enc : TypeId × Value → H} {w : World} {d : DataW H} {A : Option Addr} {n c : Nat}
theorem Rd.deeds24 (h : Rd enc Try.prog w 64 [.slice A n c] d) : n < 5900000000000 ∧ ∀ i, i < n → OpAt24 w A i := by
  obtain ⟨A', n', c', hv, hl, hm, hb, _, hf⟩ := h.structs Try.underlying64 Try.underlying66
  injection hv with hv _
  injection hv with e1 e2 e3
  subst e1 e2 e3
  have hby : Try.prog.bytesOf 66 = 24 := by kernel_rfl
  rw [hby] at hb
  refine ⟨by unfold reachBytes at hb; omega, fun i hi => ?_⟩
  rw [cells_tDeed24] at hf
  obtain ⟨q, o, v0, y0, hA, hq, c0, r0⟩ := hf i hi 0 _ rfl (by kernel_rfl) (by decide)
  obtain ⟨q1, o1, v1, y1, hA1, _, c1, r1⟩ := hf i hi 1 _ rfl (by kernel_rfl) (by decide)
  obtain ⟨q2, o2, v2, y2, hA2, _, c2, r2⟩ := hf i hi 2 _ rfl (by kernel_rfl) (by decide)
  have a1 : q1 = q ∧ o1 = o := by rw [hA] at hA1; injection hA1 with h; injection h with h1 h2; exact ⟨h1.symm, h2.symm⟩
  have a2 : q2 = q ∧ o2 = o := by rw [hA] at hA2; injection hA2 with h; injection h with h1 h2; exact ⟨h1.symm, h2.symm⟩
  obtain ⟨rfl, rfl⟩ := a1
  obtain ⟨rfl, rfl⟩ := a2
  obtain ⟨x0, e0, w0⟩ := r0.int (k := .i64) Try.underlying3
  injection e0 with e0 _
  subst e0
  obtain ⟨x1, e1, w1⟩ := r1.int (k := .i64) Try.underlying3
  injection e1 with e1 _
  subst e1
  obtain ⟨x2, e2, w2⟩ := r2.int (k := .i64) Try.underlying3
  injection e2 with e2 _
  subst e2
  exact ⟨_, _, x0, x1, x2, hA, hq, w1, w2, c0, c1, c2⟩
end

theorem cells_tOp24 : Try.prog.cellsOf 29 = 3 := by kernel_rfl
section
variable {H : Type} {enc : TypeId × Value → H} {w : World} {d : DataW H} {A : Option Addr} {n c : Nat}
theorem Rd.ops24 (h : Rd enc Try.prog w 22 [.slice A n c] d) : n < 5900000000000 ∧ ∀ i, i < n → OpAt24 w A i := by
  obtain ⟨A', n', c', hv, hl, hm, hb, _, hf⟩ := h.structs Try.underlying22 Try.underlying29
  injection hv with hv _
  injection hv with e1 e2 e3
  subst e1 e2 e3
  have hby : Try.prog.bytesOf 29 = 24 := by kernel_rfl
  rw [hby] at hb
  refine ⟨by unfold reachBytes at hb; omega, fun i hi => ?_⟩
  rw [cells_tOp24] at hf
  obtain ⟨q, o, v0, y0, hA, hq, c0, r0⟩ := hf i hi 0 _ rfl (by kernel_rfl) (by decide)
  obtain ⟨q1, o1, v1, y1, hA1, _, c1, r1⟩ := hf i hi 1 _ rfl (by kernel_rfl) (by decide)
  obtain ⟨q2, o2, v2, y2, hA2, _, c2, r2⟩ := hf i hi 2 _ rfl (by kernel_rfl) (by decide)
  have a1 : q1 = q ∧ o1 = o := by rw [hA] at hA1; injection hA1 with h; injection h with h1 h2; exact ⟨h1.symm, h2.symm⟩
  have a2 : q2 = q ∧ o2 = o := by rw [hA] at hA2; injection hA2 with h; injection h with h1 h2; exact ⟨h1.symm, h2.symm⟩
  obtain ⟨rfl, rfl⟩ := a1
  obtain ⟨rfl, rfl⟩ := a2
  obtain ⟨x0, e0, w0⟩ := r0.int (k := .i64) Try.underlying3
  injection e0 with e0 _
  subst e0
  obtain ⟨x1, e1, w1⟩ := r1.int (k := .i64) Try.underlying3
  injection e1 with e1 _
  subst e1
  obtain ⟨x2, e2, w2⟩ := r2.int (k := .i64) Try.underlying3
  injection e2 with e2 _
  subst e2
  exact ⟨_, _, x0, x1, x2, hA, hq, w1, w2, c0, c1, c2⟩
end
end Go.Proofs.Ytdnnilpifnigiaa
