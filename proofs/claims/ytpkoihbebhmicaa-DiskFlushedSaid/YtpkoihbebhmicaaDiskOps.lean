/-
  What the arguments of the disk's statements read as: the calls, and what a crash keeps.
-/
import Derived.Test.YtpkoihbebhmicaaDiskOne
namespace Go.Proofs.Ytpkoihbebhmicaa
open Go.ChangeShapes Go.WideShapes Go.ChangeAt Go.RowKit
set_option linter.unusedVariables false

theorem cells_op2 : Try.prog.cellsOf 33 = 5 := by kernel_rfl
theorem cells_torn : Try.prog.cellsOf 52 = 2 := by kernel_rfl
theorem bytes_op2 : Try.prog.bytesOf 33 = 56 := by kernel_rfl

def intVal : Option Value → Int
  | some (.int _ x) => x
  | _ => 0

theorem Rd.torns {H : Type} {enc : TypeId × Value → H} {w : World} {v : Value} {d : DataW H} (h : Rd enc Try.prog w 31 [v] d) : ∃ A n c t, v = .slice A n c ∧ n ≤ 9223372036854775807 ∧ Torns w A n t := by
  obtain ⟨A, n, c, hv, hl, hm, _, hA, hf⟩ := h.structs Try.underlying31 Try.underlying52
  have hv' : v = .slice A n c := by injection hv
  rw [cells_torn] at hf
  by_cases h0 : n = 0
  · exact ⟨A, n, c, [], hv', by omega, by simp [h0], fun hp => absurd hp (by omega)⟩
  · obtain ⟨b, o, _, _, rfl, hb, _, _⟩ := hf 0 (by omega) 0 _ rfl (by kernel_rfl) (by decide)
    refine ⟨_, n, c, (List.range n).map fun i => (intVal (w.cell? ⟨b, o + i * 2, none⟩), intVal (w.cell? ⟨b, o + i * 2 + 1, none⟩)), hv', by unfold maxLen at hm; omega, by simp, fun _ => ⟨b, o, rfl, hb, fun i p hp => ?_⟩⟩
    have hi : i < n := by
      have := (List.getElem?_eq_some_iff.1 hp).1
      simpa using this
    have hp' : p = (intVal (w.cell? ⟨b, o + i * 2, none⟩), intVal (w.cell? ⟨b, o + i * 2 + 1, none⟩)) := by simpa [hi] using hp.symm
    obtain ⟨q0, o0, v0, y0, e0, _, c0, r0⟩ := hf i hi 0 _ rfl (by kernel_rfl) (by decide)
    obtain ⟨q1, o1, v1, y1, e1, _, c1, r1⟩ := hf i hi 1 _ rfl (by kernel_rfl) (by decide)
    obtain ⟨x, hx, _⟩ := r0.int (k := .i64) Try.underlying3
    obtain ⟨y, hy, _⟩ := r1.int (k := .i64) Try.underlying3
    injection hx with hx _
    injection hy with hy _
    subst hx hy
    injection e0 with e0; injection e0 with e0 e0'
    injection e1 with e1; injection e1 with e1 e1'
    subst e0 e0' e1 e1'
    have c0' : w.cell? ⟨b, o + i * 2, none⟩ = some (.int .i64 x) := c0
    have c1' : w.cell? ⟨b, o + i * 2 + 1, none⟩ = some (.int .i64 y) := c1
    rw [hp', c0', c1']
    exact ⟨rfl, rfl⟩

/-- What is known of call i of the list. -/
def OpAt2 (w : World) (A : Option Addr) (i : Nat) : Prop :=
  ∃ (q o : Nat) (k m b x : Int) (K : Option Addr) (kn kc : Nat) (t : List (Int × Int)), A = some ⟨q, o, none⟩ ∧ q < w.heap.size ∧
    w.cell? ⟨q, o + i * 5, none⟩ = some (.int .i64 k) ∧ w.cell? ⟨q, o + i * 5 + 1, none⟩ = some (.int .i64 m) ∧ w.cell? ⟨q, o + i * 5 + 2, none⟩ = some (.int .u8 b) ∧
    w.cell? ⟨q, o + i * 5 + 3, none⟩ = some (.int .i64 x) ∧ w.cell? ⟨q, o + i * 5 + 4, none⟩ = some (.slice K kn kc) ∧
    0 ≤ b ∧ b ≤ 255 ∧ -9223372036854775808 ≤ m ∧ m ≤ 9223372036854775807 ∧ -9223372036854775808 ≤ x ∧ x ≤ 9223372036854775807 ∧ kn ≤ 9223372036854775807 ∧ Torns w K kn t

theorem Rd.ops2 {H : Type} {enc : TypeId × Value → H} {w : World} {A : Option Addr} {n c : Nat} {d : DataW H} (h : Rd enc Try.prog w 22 [.slice A n c] d) : n < 4398046511000 ∧ ∀ i, i < n → OpAt2 w A i := by
  obtain ⟨A', n', c', hv, hl, hm, hre, _, hf⟩ := h.structs Try.underlying22 Try.underlying33
  injection hv with hv _
  injection hv with e1 e2 e3
  subst e1 e2 e3
  rw [bytes_op2] at hre
  refine ⟨by unfold reachBytes at hre; omega, fun i hi => ?_⟩
  rw [cells_op2] at hf
  obtain ⟨q, o, v0, y0, hA, hq, c0, r0⟩ := hf i hi 0 _ rfl (by kernel_rfl) (by decide)
  obtain ⟨q1, o1, v1, y1, hA1, _, c1, r1⟩ := hf i hi 1 _ rfl (by kernel_rfl) (by decide)
  obtain ⟨q2, o2, v2, y2, hA2, _, c2, r2⟩ := hf i hi 2 _ rfl (by kernel_rfl) (by decide)
  obtain ⟨q3, o3, v3, y3, hA3, _, c3, r3⟩ := hf i hi 3 _ rfl (by kernel_rfl) (by decide)
  obtain ⟨q4, o4, v4, y4, hA4, _, c4, r4⟩ := hf i hi 4 _ rfl (by kernel_rfl) (by decide)
  have a1 : q1 = q ∧ o1 = o := by rw [hA] at hA1; injection hA1 with h; injection h with h1 h2; exact ⟨h1.symm, h2.symm⟩
  have a2 : q2 = q ∧ o2 = o := by rw [hA] at hA2; injection hA2 with h; injection h with h1 h2; exact ⟨h1.symm, h2.symm⟩
  have a3 : q3 = q ∧ o3 = o := by rw [hA] at hA3; injection hA3 with h; injection h with h1 h2; exact ⟨h1.symm, h2.symm⟩
  have a4 : q4 = q ∧ o4 = o := by rw [hA] at hA4; injection hA4 with h; injection h with h1 h2; exact ⟨h1.symm, h2.symm⟩
  obtain ⟨rfl, rfl⟩ := a1
  obtain ⟨rfl, rfl⟩ := a2
  obtain ⟨rfl, rfl⟩ := a3
  obtain ⟨rfl, rfl⟩ := a4
  obtain ⟨k, e0, _⟩ := r0.int (k := .i64) Try.underlying3
  obtain ⟨m, e1, wm⟩ := r1.int (k := .i64) Try.underlying3
  obtain ⟨b, e2, wb⟩ := r2.int (k := .u8) Try.underlying5
  obtain ⟨x, e3, wx⟩ := r3.int (k := .i64) Try.underlying3
  obtain ⟨K, kn, kc, t, e4, hkn, ht⟩ := Rd.torns r4
  injection e0 with e0 _; injection e1 with e1 _; injection e2 with e2 _; injection e3 with e3 _
  subst e0 e1 e2 e3 e4
  have bb : 0 ≤ b ∧ b ≤ 255 := by simpa [Lit.wf, IntKind.min, IntKind.max, IntKind.signed, IntKind.bits] using wb
  have bm : -9223372036854775808 ≤ m ∧ m ≤ 9223372036854775807 := by simpa [Lit.wf, IntKind.min, IntKind.max, IntKind.signed, IntKind.bits] using wm
  have bx : -9223372036854775808 ≤ x ∧ x ≤ 9223372036854775807 := by simpa [Lit.wf, IntKind.min, IntKind.max, IntKind.signed, IntKind.bits] using wx
  exact ⟨_, _, k, m, b, x, K, kn, kc, t, hA, hq, c0, c1, c2, c3, c4, bb.1, bb.2, bm.1, bm.2, bx.1, bx.2, hkn, ht⟩
end Go.Proofs.Ytpkoihbebhmicaa
