/-
  The pipe's laws (parapetlaw21): their calls, read; the bound of the second form.
-/
import Derived.Test.YteljjngmhldfbaaPiRow
import Derived.Test.YteljjngmhldfbaaRead
namespace Go.Proofs.Yteljjngmhldfbaa
open Go.ChangeShapes Go.WideShapes Go.ChangeAt Go.RowKit Go.Deep
set_option linter.unusedVariables false
theorem cells_op21 : Try.prog.cellsOf 31 = 4 := by kernel_rfl
theorem cells_u8 : Try.prog.cellsOf 5 = 1 := by kernel_rfl
theorem bytes_u8 : Try.prog.bytesOf 5 = 1 := by kernel_rfl

/-- A slice of bytes that is read: it sees a list of bytes, within the reach. -/
theorem Rd.bytes {H : Type} {enc : TypeId × Value → H} {w : World} {v : Value} {d : DataW H} (h : Rd enc Try.prog w 29 [v] d) :
    ∃ A n c zs, v = .slice A n c ∧ Sees w A n zs ∧ U8 zs ∧ (A = none → n = 0 ∧ c = 0) ∧ n ≤ 140737488351232 ∧ (0 < n → ∀ q, A = some q → q.block < w.heap.size) ∧ n ≤ c ∧ c ≤ 140737488355328 := by
  obtain ⟨A, n, c, zs, hv, hr, hb⟩ := h.ints Try.underlying29 Try.underlying5 cells_u8
  have hv' : v = .slice A n c := by injection hv
  rw [bytes_u8, Nat.mul_one] at hb
  rcases hr with ⟨rfl, rfl, rfl, rfl⟩ | ⟨x, rfl, hl, hm, hz, hc, hw⟩
  · exact ⟨none, 0, 0, [], hv', ⟨rfl, fun h => absurd h (by omega)⟩, (by intro x hx; cases hx), fun _ => ⟨rfl, rfl⟩, by omega, (fun h => absurd h (by omega)), Nat.le_refl _, by omega⟩
  · refine ⟨some x, n, c, zs.take n, hv', ⟨by simp; omega, fun hn => ?_⟩, ?_, (fun h => by cases h), (by unfold reachBytes at hb; omega), ?_, hl, by unfold reachBytes at hb; omega⟩
    · obtain ⟨b, o, rfl, hc'⟩ := ints_at hc (by omega)
      refine ⟨b, o, rfl, World.block_lt_of_cell? w _ (hc' 0 (by omega)), fun i hi => ?_⟩
      rw [hc' i (by omega)]
      simp [gb, List.getD, hi]
    · intro y hy
      have := hw y (List.mem_of_mem_take hy)
      simpa [Lit.wf, IntKind.min, IntKind.max, IntKind.signed, IntKind.bits] using this
    · intro hn q hq
      obtain ⟨b, o, rfl, hc'⟩ := ints_at hc (by omega)
      cases hq
      exact World.block_lt_of_cell? w _ (hc' 0 (by omega))

theorem Rd.bool_ {H : Type} {enc : TypeId × Value → H} {P : Program} {w : World} {t : TypeId} {cs : List Value} {d : DataW H} (ht : P.underlying t = some .bool) (h : Rd enc P w t cs d) : ∃ b, cs = [.bool b] := by
  obtain ⟨⟨n, ps, hn⟩, _⟩ := h
  obtain ⟨x, hx, _⟩ := DataW.trod_bool ht hn
  exact ⟨x, hx⟩

/-- What is known of call i of the list. -/
def OpAt21 (w : World) (A : Option Addr) (i : Nat) : Prop :=
  ∃ (q o : Nat) (k : Int) (wr : Bool) (n : Int) (B : Option Addr) (bn bc : Nat) (zs : List Int), A = some ⟨q, o, none⟩ ∧ q < w.heap.size ∧
    w.cell? ⟨q, o + i * 4, none⟩ = some (.int .i64 k) ∧ w.cell? ⟨q, o + i * 4 + 1, none⟩ = some (.bool wr) ∧ w.cell? ⟨q, o + i * 4 + 2, none⟩ = some (.int .i64 n) ∧
    w.cell? ⟨q, o + i * 4 + 3, none⟩ = some (.slice B bn bc) ∧ Sees w B bn zs ∧ U8 zs ∧ (B = none → bn = 0 ∧ bc = 0) ∧ bn ≤ bc ∧ bc ≤ 140737488355328 ∧ (0 < bn → ∀ q, B = some q → q.block < w.heap.size)
section
variable {H : Type} {enc : TypeId × Value → H} {w : World} {d : DataW H} {A : Option Addr} {n c : Nat}
theorem Rd.ops21 (h : Rd enc Try.prog w 22 [.slice A n c] d) : n < 5900000000000 ∧ ∀ i, i < n → OpAt21 w A i := by
  obtain ⟨A', n', c', hv, hl, hm, hb, _, hf⟩ := h.structs Try.underlying22 Try.underlying31
  injection hv with hv _
  injection hv with e1 e2 e3
  subst e1 e2 e3
  have hby : Try.prog.bytesOf 31 = 48 := by kernel_rfl
  rw [hby] at hb
  refine ⟨by unfold reachBytes at hb; omega, fun i hi => ?_⟩
  rw [cells_op21] at hf
  obtain ⟨q, o, v0, y0, hA, hq, c0, r0⟩ := hf i hi 0 _ rfl (by kernel_rfl) (by decide)
  obtain ⟨q1, o1, v1, y1, hA1, _, c1, r1⟩ := hf i hi 1 _ rfl (by kernel_rfl) (by decide)
  obtain ⟨q2, o2, v2, y2, hA2, _, c2, r2⟩ := hf i hi 2 _ rfl (by kernel_rfl) (by decide)
  obtain ⟨q3, o3, v3, y3, hA3, _, c3, r3⟩ := hf i hi 3 _ rfl (by kernel_rfl) (by decide)
  have a1 : q1 = q ∧ o1 = o := by rw [hA] at hA1; injection hA1 with h; injection h with h1 h2; exact ⟨h1.symm, h2.symm⟩
  have a2 : q2 = q ∧ o2 = o := by rw [hA] at hA2; injection hA2 with h; injection h with h1 h2; exact ⟨h1.symm, h2.symm⟩
  have a3 : q3 = q ∧ o3 = o := by rw [hA] at hA3; injection hA3 with h; injection h with h1 h2; exact ⟨h1.symm, h2.symm⟩
  obtain ⟨rfl, rfl⟩ := a1
  obtain ⟨rfl, rfl⟩ := a2
  obtain ⟨rfl, rfl⟩ := a3
  obtain ⟨k, e0, _⟩ := r0.int (k := .i64) Try.underlying3
  obtain ⟨b, e1⟩ := r1.bool_ Try.underlying4
  obtain ⟨m, e2, _⟩ := r2.int (k := .i64) Try.underlying3
  obtain ⟨B, bn, bc, zs, e3, hs, hu, hB0, hbn, hbl, hbc, hcm⟩ := Rd.bytes r3
  injection e0 with e0 _; injection e1 with e1 _; injection e2 with e2 _
  subst e0 e1 e2 e3
  exact ⟨_, _, k, b, m, B, bn, bc, zs, hA, hq, c0, c1, c2, c3, hs, hu, hB0, hbc, hcm, hbl⟩
theorem bulk_len (l : List (DataW H)) : l.length ≤ Rows.uptoBulkAll l := by
  induction l with
  | nil => simp [Rows.uptoBulkAll]
  | cons x r ih =>
    have h1 : 1 ≤ Rows.uptoBulk x := by
      cases x with
      | lit l => cases l <;> simp [Rows.uptoBulk]
      | nil => simp [Rows.uptoBulk]
      | ptr d => simp [Rows.uptoBulk]
      | slice a b => simp [Rows.uptoBulk]
      | agg p => simp [Rows.uptoBulk]
      | iface t d => simp [Rows.uptoBulk]
      | map e => simp [Rows.uptoBulk]
      | held h => simp [Rows.uptoBulk]
    simp only [Rows.uptoBulkAll, List.length_cons]
    omega
/-- In the second form there are few calls. -/
theorem Rd.few21 (h : Rd enc Try.prog w 22 [.slice A n c] d) (hk : Rows.uptoSmall H [d] = true) : n ≤ 1048576 := by
  have hb : Rows.uptoBulkAll [d] ≤ 1048576 := of_decide_eq_true hk
  simp only [Rows.uptoBulkAll, Nat.add_zero] at hb
  obtain ⟨⟨fu, ps, hf⟩, hw⟩ := h
  rcases open_slice Try.underlying22 hf with ⟨hcs, hx⟩ | ⟨a, len, cap, m', n', D, Pl, hcs, _, hl, hm, hmm, hx, hi'⟩
  · injection hcs with hcs _
    injection hcs with e1 e2 e3
    omega
  · injection hcs with hcs _
    injection hcs with e1 e2 e3
    subst e2
    simp only [Prod.mk.injEq] at hx
    rw [hx.1] at hb
    simp only [Rows.uptoBulk] at hb
    have h1 := bulk_len (List.map D (List.range n))
    rw [List.length_map, List.length_range] at h1
    omega
end
end Go.Proofs.Yteljjngmhldfbaa
