/-
  Step of parapet/insn: the instructions of numbers. (Written by gen_step.py.)
-/
import Derived.Test.YtkoibmpncfbnpaaInsnTouch
namespace Go.Proofs.Ytkoibmpncfbnpaa
open Go.ChangeShapes Go.WideShapes Go.ChangeAt Go.RowKit
set_option linter.unusedVariables false

set_option maxRecDepth 100000 in
set_option maxHeartbeats 2000000 in
theorem step_num (v : Int) (cs : List Int) (hc : IsCpu cs) (v0 : 0 ≤ v) (v1 : v < 4294967296) (o A B i : Int) (ho : v % 256 = o) (hA : v / 256 % 16 = A) (hB : v / 4096 % 16 = B) (hi : immOf v = i) (o1 : 1 ≤ o) (o2 : o ≤ 16) (w : World) :
    Calls Try.prog 15 #[.agg (u32A cs), .int .u32 v] w fun e w' => e = .returned (.tuple #[.agg (u32A ((cs.set A.toNat (val o (gb cs A.toNat) (gb cs B.toNat) (i % 4294967296))).set 16 ((gb cs 16 + 4) % 4294967296))), actV 1 0 0 0 0 0]) ∧ Below w.heap.size w w' := by
  have D := hide (fun w => decode_ok v w v0 v1 (by omega) (by omega))
  rw [ho, hA, hB, hi] at D
  have A0 : 0 ≤ A := by omega
  have A1 : A < 16 := by omega
  have B0 : 0 ≤ B := by omega
  have B1 : B < 16 := by omega
  obtain ⟨i0, i1⟩ := immOf_wf v v0 v1
  rw [hi] at i0 i1
  clear ho hA hB hi v0 v1
  have hs : (u32A cs).size = 17 := by rw [size_u32A, hc.1]
  obtain ⟨p0, p1⟩ := hc.get 16
  obtain ⟨a0, a1⟩ := hc.get A.toNat
  obtain ⟨b0, b1⟩ := hc.get B.toNat
  have R := hide (fun w => reckon_is o (gb cs A.toNat) (gb cs B.toNat) (i % 4294967296) w o1 o2 a0 a1 b0 b1 (by omega) (by omega))
  have n17 : (o == 17) = false := beq_eq_false_iff_ne.2 (by omega)
  have n18 : (o == 18) = false := beq_eq_false_iff_ne.2 (by omega)
  have n19 : (o == 19) = false := beq_eq_false_iff_ne.2 (by omega)
  have n20 : (o == 20) = false := beq_eq_false_iff_ne.2 (by omega)
  have n27 : (o == 27) = false := beq_eq_false_iff_ne.2 (by omega)
  have n21 : (o == 21) = false := beq_eq_false_iff_ne.2 (by omega)
  have n22 : (o == 22) = false := beq_eq_false_iff_ne.2 (by omega)
  have n23 : (o == 23) = false := beq_eq_false_iff_ne.2 (by omega)
  have n24 : (o == 24) = false := beq_eq_false_iff_ne.2 (by omega)
  have n25 : (o == 25) = false := beq_eq_false_iff_ne.2 (by omega)
  have n26 : (o == 26) = false := beq_eq_false_iff_ne.2 (by omega)
  have n28 : (o == 28) = false := beq_eq_false_iff_ne.2 (by omega)
  have HC := hide hc
  clear hc
  go_enter Try.func15, Try.ntmps15
  go_wp2_with fail
  refine (D.out _).mono ?_
  rintro e w1 ⟨rfl, hb⟩
  have HB := hide (boxed_of hb)
  have hz : w.heap.size + 1 + 1 < w1.heap.size := by have := hb.size; simp at this; omega
  have hz0 : w.heap.size < w1.heap.size := by omega
  have hz1 : w.heap.size + 1 < w1.heap.size := by omega
  clear hb
  unfold insnV
  go_upto_region 6 with (fail)
  refine boxed_insn HB.out ?_
  intro w2 hB2 hx2
  have x0 := hx2.cell 0
  have x1 := hx2.cell 1
  have x2 := hx2.cell 2
  have x3 := hx2.cell 3
  have HB2 := hide hB2
  clear HB hB2 hz hz0 hz1 hx2
  generalize w1.heap.size = xb at *
  have cp := fun i => HB2.out.cpu.frozen i
  have c16 : w2.cell? ⟨w.heap.size, 16, none⟩ = some (.int .u32 (gb cs 16)) := (HB2.out.cpu.cell 16).trans (u32A_get cs 16 (by rw [HC.out.1]; decide))
  have cA : w2.cell? ⟨w.heap.size, A.toNat, none⟩ = some (.int .u32 (gb cs A.toNat)) := (HB2.out.cpu.cell _).trans (u32A_get cs _ (by rw [HC.out.1]; omega))
  have cB : w2.cell? ⟨w.heap.size, B.toNat, none⟩ = some (.int .u32 (gb cs B.toNat)) := (HB2.out.cpu.cell _).trans (u32A_get cs _ (by rw [HC.out.1]; omega))
  refine wp_region_still_tail 18 (by kernel_rfl) (by kernel_rfl) ?_
  change wpStill _ _ w2.drew _ _ _
  simp only [List.take_succ_cons, List.take_zero, List.drop_succ_cons, List.drop_zero]
  repeat still_step
  still_call ((R.out _).mono fun e w' h => ⟨h.1, h.2.symm⟩)
  repeat still_step
  refine wpStill_nil ?_
  go_upto_region 28 with (fail)
  refine boxed_from (((HB2.out.set A.toNat _).set 16 _).drew) ?_
  intro w3 ds hB3 hds
  have HB3 := hide hB3
  have HL := hide (show ds.length = 17 by rw [hds.out, List.length_set, List.length_set]; exact HC.out.1)
  clear hB3 cp c16 cA cB x0 x1 x2 x3 HB2
  go_wp2_with (first
    | (with_reducible refine wp_region_lit (id := 28) ?_)
    | ((with_reducible refine cpu_load (.tmp 2) HB3.out.cpu ?_ ?_ ?_); (· rfl); (· exact HL.out))
    | ((with_reducible refine cpu_store (.tmp 4) (.tmp 119) ds HB3.out.res ?_ ?_ ?_ ?_); (· rfl); (· rfl); (· exact HL.out))
    | ((with_reducible refine act_store (.tmp 5) (.tmp 120) 1 0 0 0 0 0 (HB3.out.row ds HL.out).act ?_ ?_ ?_); (· rfl); (· rfl)))
  have HE := HB3.out.end_ ds 1 0 0 0 0 0
  refine bodyPost_ret (v := .tuple #[.agg (u32A ds), actV 1 0 0 0 0 0]) ?_ rfl ?_
  · exact step_results (p := 4) (q := 5) rfl rfl rfl HL.out HE.1 HE.2.1
  · refine ⟨?_, HE.2.2⟩
    rw [hds.out]
end Go.Proofs.Ytkoibmpncfbnpaa
