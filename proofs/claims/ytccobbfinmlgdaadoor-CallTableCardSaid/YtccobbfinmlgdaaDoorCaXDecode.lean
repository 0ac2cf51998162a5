/-
  The document's Decode.
-/
import Derived.Test.YtccobbfinmlgdaaDoorCaDecode
namespace Go.Proofs.YtccobbfinmlgdaaDoor
open Go.ChangeShapes Go.WideShapes Go.ChangeAt Go.RowKit
set_option linter.unusedVariables false

theorem str_beqC (a b : ByteArray) : (a.toList == b.toList) = decide (a = b) := by
  rw [← beq_toListBytes]
  obtain ⟨x⟩ := a
  obtain ⟨y⟩ := b
  show (x == y) = _
  by_cases h : x = y
  · subst h; simp
  · simp [h]
theorem str_some {a : ByteArray} (h : a ≠ ⟨#[]⟩) : a.toList.isEmpty = false := by
  have h1 := str_beqC a ⟨#[]⟩
  rw [decide_eq_false h] at h1
  cases hl : a.toList with
  | nil => rw [hl] at h1; simp [show ByteArray.toList ⟨#[]⟩ = [] by simp [Lib.toList_data]] at h1
  | cons x l => rfl
set_option maxRecDepth 100000 in
set_option maxHeartbeats 800000 in
theorem xdecode_is (x0 x1 x2 x3 x4 x5 x6 x7 x8 x9 x10 x11 x12 x13 x14 x15 x16 : Int) (h0 : 0 ≤ x1) (h1 : x1 < 4294967296) (w : World) :
    Calls Tryd.prog 21 #[cpuV x0 x1 x2 x3 x4 x5 x6 x7 x8 x9 x10 x11 x12 x13 x14 x15 x16] w fun e w' =>
    e = .returned (.tuple #[.agg (trapA (numT x1) x2 x3 x4 x5), .int .i64 (errT x1)]) ∧ Only [] w w' := by
  have hf := fieldX0
  unfold cpuV
  by_cases hb : x1 ≤ 2147483647
  · have HN := hide (show numT x1 = x1 from if_pos hb)
    have HC := hide (fun w => xget_is x1 w)
    have e1 : IntKind.i64.wrap x1 = x1 := by rw [IntKind.wrap_i64]; omega
    have e2 : x1 < 2147483648 := by omega
    by_cases hc : 1 ≤ x1 ∧ x1 ≤ 30
    · have HE := hide (show errT x1 = 0 by unfold errT; rw [HN.out]; exact if_pos hc)
      have hne := str_some (nm_some hc)
      clear hc
      generalize (entF x1).nm = nm at *
      generalize (entF x1).cnt = ct at *
      go_enter Tryd.func21, Tryd.ntmps21
      go_wp2_with (first | (go_at_call 9; refine (HC.out _).mono ?_; rintro e w' ⟨v, rfl, h2, h3⟩; obtain ⟨A, c, rfl, -⟩ := KRow.form h2; have HT := hide (show Blk w' (w.heap.size + 1) 40 (trapA 0 0 0 0 0) ∧ Blk w' (w.heap.size + 1 + 1) 40 (trapA x1 x2 x3 x4 x5) ∧ Only [] w w' from two_blks h3); clear h2 h3; have b0 : w'.cell? ⟨w.heap.size + 1 + 1, 0, none⟩ = some (.int .i64 x1) := HT.out.2.1.cell 0; have a0 : w'.cell? ⟨w.heap.size + 1, 0, none⟩ = some (.int .i64 0) := HT.out.1.cell 0; have f0 := HT.out.1.frozen 0; have b1 : w'.cell? ⟨w.heap.size + 1 + 1, 1, none⟩ = some (.int .u32 x2) := HT.out.2.1.cell 1; have a1 : w'.cell? ⟨w.heap.size + 1, 1, none⟩ = some (.int .u32 0) := HT.out.1.cell 1; have f1 := HT.out.1.frozen 1; have b2 : w'.cell? ⟨w.heap.size + 1 + 1, 2, none⟩ = some (.int .u32 x3) := HT.out.2.1.cell 2; have a2 : w'.cell? ⟨w.heap.size + 1, 2, none⟩ = some (.int .u32 0) := HT.out.1.cell 2; have f2 := HT.out.1.frozen 2; have b3 : w'.cell? ⟨w.heap.size + 1 + 1, 3, none⟩ = some (.int .u32 x4) := HT.out.2.1.cell 3; have a3 : w'.cell? ⟨w.heap.size + 1, 3, none⟩ = some (.int .u32 0) := HT.out.1.cell 3; have f3 := HT.out.1.frozen 3; have b4 : w'.cell? ⟨w.heap.size + 1 + 1, 4, none⟩ = some (.int .u32 x5) := HT.out.2.1.cell 4; have a4 : w'.cell? ⟨w.heap.size + 1, 4, none⟩ = some (.int .u32 0) := HT.out.1.cell 4; have f4 := HT.out.1.frozen 4))
      refine bodyPost_ret (trap_results (p := 2) (q := 3) (r := w.heap.size + 1) (n := x1) (b := x2) (c := x3) (d := x4) (e := x5) rfl rfl rfl (((((HT.out.1.set_ 0 (.int .i64 x1)).set_ 1 (.int .u32 x2)).set_ 2 (.int .u32 x3)).set_ 3 (.int .u32 x4)).set_ 4 (.int .u32 x5))) rfl ⟨?_, ((((HT.out.2.2.setCell _ (fun hm => by simp at hm; omega)).setCell _ (fun hm => by simp at hm; omega)).setCell _ (fun hm => by simp at hm; omega)).setCell _ (fun hm => by simp at hm; omega)).setCell _ (fun hm => by simp at hm; omega)⟩
      rw [HN.out, HE.out]
      rfl
    · have HE := hide (show errT x1 = 260 by unfold errT; rw [HN.out]; exact if_neg hc)
      rw [nm_empty hc] at HC
      clear hc
      generalize (entF x1).cnt = ct at *
      go_enter Tryd.func21, Tryd.ntmps21
      go_wp2_with (first | (go_at_call 9; refine (HC.out _).mono ?_; rintro e w' ⟨v, rfl, h2, h3⟩; obtain ⟨A, c, rfl, -⟩ := KRow.form h2; have HT := hide (show Blk w' (w.heap.size + 1) 40 (trapA 0 0 0 0 0) ∧ Blk w' (w.heap.size + 1 + 1) 40 (trapA x1 x2 x3 x4 x5) ∧ Only [] w w' from two_blks h3); clear h2 h3; have b0 : w'.cell? ⟨w.heap.size + 1 + 1, 0, none⟩ = some (.int .i64 x1) := HT.out.2.1.cell 0; have a0 : w'.cell? ⟨w.heap.size + 1, 0, none⟩ = some (.int .i64 0) := HT.out.1.cell 0; have f0 := HT.out.1.frozen 0; have b1 : w'.cell? ⟨w.heap.size + 1 + 1, 1, none⟩ = some (.int .u32 x2) := HT.out.2.1.cell 1; have a1 : w'.cell? ⟨w.heap.size + 1, 1, none⟩ = some (.int .u32 0) := HT.out.1.cell 1; have f1 := HT.out.1.frozen 1; have b2 : w'.cell? ⟨w.heap.size + 1 + 1, 2, none⟩ = some (.int .u32 x3) := HT.out.2.1.cell 2; have a2 : w'.cell? ⟨w.heap.size + 1, 2, none⟩ = some (.int .u32 0) := HT.out.1.cell 2; have f2 := HT.out.1.frozen 2; have b3 : w'.cell? ⟨w.heap.size + 1 + 1, 3, none⟩ = some (.int .u32 x4) := HT.out.2.1.cell 3; have a3 : w'.cell? ⟨w.heap.size + 1, 3, none⟩ = some (.int .u32 0) := HT.out.1.cell 3; have f3 := HT.out.1.frozen 3; have b4 : w'.cell? ⟨w.heap.size + 1 + 1, 4, none⟩ = some (.int .u32 x5) := HT.out.2.1.cell 4; have a4 : w'.cell? ⟨w.heap.size + 1, 4, none⟩ = some (.int .u32 0) := HT.out.1.cell 4; have f4 := HT.out.1.frozen 4))
      refine bodyPost_ret (trap_results (p := 2) (q := 3) (r := w.heap.size + 1) (n := x1) (b := x2) (c := x3) (d := x4) (e := x5) rfl rfl rfl (((((HT.out.1.set_ 0 (.int .i64 x1)).set_ 1 (.int .u32 x2)).set_ 2 (.int .u32 x3)).set_ 3 (.int .u32 x4)).set_ 4 (.int .u32 x5))) rfl ⟨?_, ((((HT.out.2.2.setCell _ (fun hm => by simp at hm; omega)).setCell _ (fun hm => by simp at hm; omega)).setCell _ (fun hm => by simp at hm; omega)).setCell _ (fun hm => by simp at hm; omega)).setCell _ (fun hm => by simp at hm; omega)⟩
      rw [HN.out, HE.out]
      rfl
  · have HN := hide (show numT x1 = 0 from if_neg hb)
    have HC := hide (fun w => xget_is 0 w)
    have e2 : decide (x1 < 2147483648) = false := by simp; omega
    · have HE := hide (show errT x1 = 260 by unfold errT; rw [HN.out]; exact if_neg (by omega))
      rw [nm_empty (n := 0) (by omega)] at HC
      clear hb
      generalize (entF 0).cnt = ct at *
      go_enter Tryd.func21, Tryd.ntmps21
      go_wp2_with (first | (go_at_call 9; refine (HC.out _).mono ?_; rintro e w' ⟨v, rfl, h2, h3⟩; obtain ⟨A, c, rfl, -⟩ := KRow.form h2; have HT := hide (show Blk w' (w.heap.size + 1) 40 (trapA 0 0 0 0 0) ∧ Blk w' (w.heap.size + 1 + 1) 40 (trapA 0 x2 x3 x4 x5) ∧ Only [] w w' from two_blks h3); clear h2 h3; have b0 : w'.cell? ⟨w.heap.size + 1 + 1, 0, none⟩ = some (.int .i64 0) := HT.out.2.1.cell 0; have a0 : w'.cell? ⟨w.heap.size + 1, 0, none⟩ = some (.int .i64 0) := HT.out.1.cell 0; have f0 := HT.out.1.frozen 0; have b1 : w'.cell? ⟨w.heap.size + 1 + 1, 1, none⟩ = some (.int .u32 x2) := HT.out.2.1.cell 1; have a1 : w'.cell? ⟨w.heap.size + 1, 1, none⟩ = some (.int .u32 0) := HT.out.1.cell 1; have f1 := HT.out.1.frozen 1; have b2 : w'.cell? ⟨w.heap.size + 1 + 1, 2, none⟩ = some (.int .u32 x3) := HT.out.2.1.cell 2; have a2 : w'.cell? ⟨w.heap.size + 1, 2, none⟩ = some (.int .u32 0) := HT.out.1.cell 2; have f2 := HT.out.1.frozen 2; have b3 : w'.cell? ⟨w.heap.size + 1 + 1, 3, none⟩ = some (.int .u32 x4) := HT.out.2.1.cell 3; have a3 : w'.cell? ⟨w.heap.size + 1, 3, none⟩ = some (.int .u32 0) := HT.out.1.cell 3; have f3 := HT.out.1.frozen 3; have b4 : w'.cell? ⟨w.heap.size + 1 + 1, 4, none⟩ = some (.int .u32 x5) := HT.out.2.1.cell 4; have a4 : w'.cell? ⟨w.heap.size + 1, 4, none⟩ = some (.int .u32 0) := HT.out.1.cell 4; have f4 := HT.out.1.frozen 4))
      refine bodyPost_ret (trap_results (p := 2) (q := 3) (r := w.heap.size + 1) (n := 0) (b := x2) (c := x3) (d := x4) (e := x5) rfl rfl rfl (((((HT.out.1.set_ 0 (.int .i64 0)).set_ 1 (.int .u32 x2)).set_ 2 (.int .u32 x3)).set_ 3 (.int .u32 x4)).set_ 4 (.int .u32 x5))) rfl ⟨?_, ((((HT.out.2.2.setCell _ (fun hm => by simp at hm; omega)).setCell _ (fun hm => by simp at hm; omega)).setCell _ (fun hm => by simp at hm; omega)).setCell _ (fun hm => by simp at hm; omega)).setCell _ (fun hm => by simp at hm; omega)⟩
      rw [HN.out, HE.out]
      rfl
end Go.Proofs.YtccobbfinmlgdaaDoor
