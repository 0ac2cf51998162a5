/-
  The log: what the arguments of its statements read as.
-/
import Derived.Test.YtpajdnjbeplneaaLgTell
import Derived.Test.YtpajdnjbeplneaaRead
namespace Go.Proofs.Ytpajdnjbeplneaa
open Go.ChangeShapes Go.WideShapes Go.ChangeAt Go.RowKit
set_option linter.unusedVariables false
theorem cells_op16 : Try.prog.cellsOf 27 = 4 := by kernel_rfl
theorem bytes_op16 : Try.prog.bytesOf 27 = 32 := by kernel_rfl
/-- Call i of the list. -/
def OpAt16 (w : World) (A : Option Addr) (i : Nat) : Prop :=
  ∃ (q o : Nat) (kd n b m : Int), A = some ⟨q, o, none⟩ ∧ q < w.heap.size ∧
    w.cell? ⟨q, o + i * 4, none⟩ = some (.int .i64 kd) ∧ w.cell? ⟨q, o + i * 4 + 1, none⟩ = some (.int .i64 n) ∧ w.cell? ⟨q, o + i * 4 + 2, none⟩ = some (.int .u8 b) ∧ w.cell? ⟨q, o + i * 4 + 3, none⟩ = some (.int .i64 m) ∧
    (0 ≤ b ∧ b ≤ 255) ∧ (-9223372036854775808 ≤ n ∧ n ≤ 9223372036854775807) ∧ (-9223372036854775808 ≤ m ∧ m ≤ 9223372036854775807)
theorem Rd.ops16 {H : Type} {enc : TypeId × Value → H} {w : World} {A : Option Addr} {n c : Nat} {d : DataW H} (h : Rd enc Try.prog w 22 [.slice A n c] d) : n ≤ 4398046511104 ∧ ∀ i, i < n → OpAt16 w A i := by
  obtain ⟨A', n', c', hv, hl, hm, hre, _, hf⟩ := h.structs Try.underlying22 Try.underlying27
  injection hv with hv _
  injection hv with e1 e2 e3
  subst e1 e2 e3
  rw [bytes_op16] at hre
  refine ⟨by unfold reachBytes at hre; omega, fun i hi => ?_⟩
  rw [cells_op16] at hf
  obtain ⟨q, o, v0, y0, hA, hq, c0, r0⟩ := hf i hi 0 _ rfl (by kernel_rfl) (by decide)
  obtain ⟨q1, o1, v1, y1, hA1, _, c1, r1⟩ := hf i hi 1 _ rfl (by kernel_rfl) (by decide)
  obtain ⟨q2, o2, v2, y2, hA2, _, c2, r2⟩ := hf i hi 2 _ rfl (by kernel_rfl) (by decide)
  obtain ⟨q3, o3, v3, y3, hA3, _, c3, r3⟩ := hf i hi 3 _ rfl (by kernel_rfl) (by decide)
  obtain ⟨x0, h0, _⟩ := r0.int (k := .i64) Try.underlying3
  obtain ⟨x1, h1, w1⟩ := r1.int (k := .i64) Try.underlying3
  obtain ⟨x2, h2, w2⟩ := r2.int (k := .u8) Try.underlying5
  obtain ⟨x3, h3, w3⟩ := r3.int (k := .i64) Try.underlying3
  injection h0 with h0 _
  injection h1 with h1 _
  injection h2 with h2 _
  injection h3 with h3 _
  subst h0 h1 h2 h3
  have a1 : q1 = q ∧ o1 = o := by rw [hA] at hA1; injection hA1 with h; injection h with h1 h2; exact ⟨h1.symm, h2.symm⟩
  have a2 : q2 = q ∧ o2 = o := by rw [hA] at hA2; injection hA2 with h; injection h with h1 h2; exact ⟨h1.symm, h2.symm⟩
  have a3 : q3 = q ∧ o3 = o := by rw [hA] at hA3; injection hA3 with h; injection h with h1 h2; exact ⟨h1.symm, h2.symm⟩
  obtain ⟨rfl, rfl⟩ := a1
  obtain ⟨rfl, rfl⟩ := a2
  obtain ⟨rfl, rfl⟩ := a3
  have b2 : 0 ≤ x2 ∧ x2 ≤ 255 := by simpa [Lit.wf, IntKind.min, IntKind.max, IntKind.signed, IntKind.bits] using w2
  have b1 : -9223372036854775808 ≤ x1 ∧ x1 ≤ 9223372036854775807 := by simpa [Lit.wf, IntKind.min, IntKind.max, IntKind.signed, IntKind.bits] using w1
  have b3 : -9223372036854775808 ≤ x3 ∧ x3 ≤ 9223372036854775807 := by simpa [Lit.wf, IntKind.min, IntKind.max, IntKind.signed, IntKind.bits] using w3
  exact ⟨_, _, x0, x1, x2, x3, hA, hq, c0, c1, c2, c3, b2, b1, b3⟩
end Go.Proofs.Ytpajdnjbeplneaa
