/-
  The walk of 'PhysPlays': it answers true, and turns nothing that was there.
-/
import Derived.Test.YtfkbgnoppigdnaaPhysStep4
import Derived.Test.YtfkbgnoppigdnaaRead
namespace Go.Proofs.Ytfkbgnoppigdnaa
open Go.ChangeShapes Go.WideShapes Go.ChangeAt Go.RowKit
set_option linter.unusedVariables false

theorem cells_op1 : Try.prog.cellsOf 34 = 6 := by kernel_rfl
theorem cells_u8 : Try.prog.cellsOf 5 = 1 := by kernel_rfl
theorem bytes_u8 : Try.prog.bytesOf 5 = 1 := by kernel_rfl

/-- A slice of bytes that is read: it sees a list of bytes, within the reach. -/
theorem Rd.bytes {H : Type} {enc : TypeId × Value → H} {w : World} {v : Value} {d : DataW H} (h : Rd enc Try.prog w 32 [v] d) :
    ∃ A n c zs, v = .slice A n c ∧ Sees w A n zs ∧ U8 zs ∧ (A = none → n = 0 ∧ c = 0) ∧ n ≤ 140737488351232 ∧ (0 < n → ∀ q, A = some q → q.block < w.heap.size) := by
  obtain ⟨A, n, c, zs, hv, hr, hb⟩ := h.ints Try.underlying32 Try.underlying5 cells_u8
  have hv' : v = .slice A n c := by injection hv
  rw [bytes_u8, Nat.mul_one] at hb
  rcases hr with ⟨rfl, rfl, rfl, rfl⟩ | ⟨x, rfl, hl, hm, hz, hc, hw⟩
  · exact ⟨none, 0, 0, [], hv', ⟨rfl, fun h => absurd h (by omega)⟩, (by intro x hx; cases hx), fun _ => ⟨rfl, rfl⟩, by omega, fun h => absurd h (by omega)⟩
  · refine ⟨some x, n, c, zs.take n, hv', ⟨by simp; omega, fun hn => ?_⟩, ?_, (fun h => by cases h), (by unfold reachBytes at hb; omega), ?_⟩
    · obtain ⟨b, o, rfl, hc'⟩ := ints_at hc (by omega)
      refine ⟨b, o, rfl, World.block_lt_of_cell? w _ (hc' 0 (by omega)), fun i hi => ?_⟩
      rw [hc' i (by omega)]
      simp [gb, List.getD, hi]
    · intro y hy
      have := hw y (List.mem_of_mem_take hy)
      simpa [Lit.wf, IntKind.min, IntKind.max, IntKind.signed, IntKind.bits] using this
    · intro hn q hq
      obtain ⟨b, o, rfl, hc'⟩ := ints_at hc (by omega)
      cases hq
      exact World.block_lt_of_cell? w _ (hc' 0 (by omega))

/-- What is known of call k of the list. -/
def OpAt (w : World) (A : Option Addr) (i : Nat) : Prop :=
  ∃ (q o : Nat) (k a b x y : Int) (B : Option Addr) (bn bc : Nat) (zs : List Int), A = some ⟨q, o, none⟩ ∧ q < w.heap.size ∧
    w.cell? ⟨q, o + i * 6, none⟩ = some (.int .i64 k) ∧ w.cell? ⟨q, o + i * 6 + 1, none⟩ = some (.int .i64 a) ∧ w.cell? ⟨q, o + i * 6 + 2, none⟩ = some (.int .i64 b) ∧
    w.cell? ⟨q, o + i * 6 + 3, none⟩ = some (.int .u32 x) ∧ w.cell? ⟨q, o + i * 6 + 4, none⟩ = some (.int .u32 y) ∧ w.cell? ⟨q, o + i * 6 + 5, none⟩ = some (.slice B bn bc) ∧
    0 ≤ x ∧ x ≤ 4294967295 ∧ 0 ≤ y ∧ y ≤ 4294967295 ∧ Sees w B bn zs ∧ U8 zs ∧ (B = none → bn = 0 ∧ bc = 0) ∧ bn ≤ 140737488351232 ∧ (0 < bn → ∀ q, B = some q → q.block < w.heap.size)

theorem Rd.ops1 {H : Type} {enc : TypeId × Value → H} {w : World} {A : Option Addr} {n c : Nat} {d : DataW H} (h : Rd enc Try.prog w 22 [.slice A n c] d) : n ≤ 9223372036854775807 ∧ ∀ i, i < n → OpAt w A i := by
  obtain ⟨A', n', c', hv, hl, hm, _, _, hf⟩ := h.structs Try.underlying22 Try.underlying34
  injection hv with hv _
  injection hv with e1 e2 e3
  subst e1 e2 e3
  refine ⟨by unfold maxLen at hm; omega, fun i hi => ?_⟩
  rw [cells_op1] at hf
  obtain ⟨q, o, v0, y0, hA, hq, c0, r0⟩ := hf i hi 0 _ rfl (by kernel_rfl) (by decide)
  obtain ⟨q1, o1, v1, y1, hA1, _, c1, r1⟩ := hf i hi 1 _ rfl (by kernel_rfl) (by decide)
  obtain ⟨q2, o2, v2, y2, hA2, _, c2, r2⟩ := hf i hi 2 _ rfl (by kernel_rfl) (by decide)
  obtain ⟨q3, o3, v3, y3, hA3, _, c3, r3⟩ := hf i hi 3 _ rfl (by kernel_rfl) (by decide)
  obtain ⟨q4, o4, v4, y4, hA4, _, c4, r4⟩ := hf i hi 4 _ rfl (by kernel_rfl) (by decide)
  obtain ⟨q5, o5, v5, y5, hA5, _, c5, r5⟩ := hf i hi 5 _ rfl (by kernel_rfl) (by decide)
  have a1 : q1 = q ∧ o1 = o := by rw [hA] at hA1; injection hA1 with h; injection h with h1 h2; exact ⟨h1.symm, h2.symm⟩
  have a2 : q2 = q ∧ o2 = o := by rw [hA] at hA2; injection hA2 with h; injection h with h1 h2; exact ⟨h1.symm, h2.symm⟩
  have a3 : q3 = q ∧ o3 = o := by rw [hA] at hA3; injection hA3 with h; injection h with h1 h2; exact ⟨h1.symm, h2.symm⟩
  have a4 : q4 = q ∧ o4 = o := by rw [hA] at hA4; injection hA4 with h; injection h with h1 h2; exact ⟨h1.symm, h2.symm⟩
  have a5 : q5 = q ∧ o5 = o := by rw [hA] at hA5; injection hA5 with h; injection h with h1 h2; exact ⟨h1.symm, h2.symm⟩
  obtain ⟨rfl, rfl⟩ := a1
  obtain ⟨rfl, rfl⟩ := a2
  obtain ⟨rfl, rfl⟩ := a3
  obtain ⟨rfl, rfl⟩ := a4
  obtain ⟨rfl, rfl⟩ := a5
  obtain ⟨k, e0, _⟩ := r0.int (k := .i64) Try.underlying3
  obtain ⟨a, e1, _⟩ := r1.int (k := .i64) Try.underlying3
  obtain ⟨b, e2, _⟩ := r2.int (k := .i64) Try.underlying3
  obtain ⟨x, e3, wx⟩ := r3.int (k := .u32) Try.underlying31
  obtain ⟨y, e4, wy⟩ := r4.int (k := .u32) Try.underlying31
  obtain ⟨B, bn, bc, zs, e5, hs, hu, hB0, hbn, hbl⟩ := Rd.bytes r5
  injection e0 with e0 _; injection e1 with e1 _; injection e2 with e2 _; injection e3 with e3 _; injection e4 with e4 _
  subst e0 e1 e2 e3 e4 e5
  have bx : 0 ≤ x ∧ x ≤ 4294967295 := by simpa [Lit.wf, IntKind.min, IntKind.max, IntKind.signed, IntKind.bits] using wx
  have by_ : 0 ≤ y ∧ y ≤ 4294967295 := by simpa [Lit.wf, IntKind.min, IntKind.max, IntKind.signed, IntKind.bits] using wy
  exact ⟨_, _, k, a, b, x, y, B, bn, bc, zs, hA, hq, c0, c1, c2, c3, c4, c5, bx.1, bx.2, by_.1, by_.2, hs, hu, hB0, hbn, hbl⟩
end Go.Proofs.Ytfkbgnoppigdnaa
