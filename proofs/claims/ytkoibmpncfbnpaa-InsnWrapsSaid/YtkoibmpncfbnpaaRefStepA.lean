/-
  Step of the document's own processor (parapetref03): the instructions of numbers. (Written by gen_rstep.py.)
-/
import Derived.Test.YtkoibmpncfbnpaaInsnTouch
namespace Go.Proofs.Ytkoibmpncfbnpaa
open Go.ChangeShapes Go.WideShapes Go.ChangeAt Go.RowKit
set_option linter.unusedVariables false

set_option maxRecDepth 100000 in
set_option maxHeartbeats 2000000 in
theorem rstep_num (v : Int) (cs : List Int) (hc : IsCpu cs) (v0 : 0 ≤ v) (v1 : v < 4294967296) (o A B i : Int) (ho : v % 256 = o) (hA : v / 256 % 16 = A) (hB : v / 4096 % 16 = B) (hi : immOf v = i) (o1 : 1 ≤ o) (o2 : o ≤ 16) (w : World) :
    Calls Try.prog 16 #[.agg (u32A cs), .int .u32 v] w fun e w' => e = .returned (.tuple #[.agg (u32A ((cs.set A.toNat (val o (gb cs A.toNat) (gb cs B.toNat) (i % 4294967296))).set 16 ((gb cs 16 + 4) % 4294967296))), actV 1 0 0 0 0 0]) ∧ Below w.heap.size w w' := by
  have D := hide (fun w => rdecode_ok v w v0 v1 (by omega) (by omega))
  rw [ho, hA, hB, hi] at D
  have A0 : 0 ≤ A := by omega
  have A1 : A < 16 := by omega
  have B0 : 0 ≤ B := by omega
  have B1 : B < 16 := by omega
  obtain ⟨i0, i1⟩ := immOf_wf v v0 v1
  rw [hi] at i0 i1
  clear ho hA hB hi v0 v1
  have hs : (u32A cs).size = 17 := by rw [size_u32A, hc.1]
  obtain ⟨p0, p1⟩ := hc.get 16
  obtain ⟨a0, a1⟩ := hc.get A.toNat
  obtain ⟨b0, b1⟩ := hc.get B.toNat
  have R := hide (fun w => value_is o A B (gb cs A.toNat) (gb cs B.toNat) i w o1 o2 a0 a1 b0 b1 i0 i1)
  have n28 : (o == 28) = false := beq_eq_false_iff_ne.2 (by omega)
  have n21 : (o == 21) = false := beq_eq_false_iff_ne.2 (by omega)
  have n22 : (o == 22) = false := beq_eq_false_iff_ne.2 (by omega)
  have n23 : (o == 23) = false := beq_eq_false_iff_ne.2 (by omega)
  have n24 : (o == 24) = false := beq_eq_false_iff_ne.2 (by omega)
  have n25 : (o == 25) = false := beq_eq_false_iff_ne.2 (by omega)
  have n26 : (o == 26) = false := beq_eq_false_iff_ne.2 (by omega)
  have n17 : (o == 17) = false := beq_eq_false_iff_ne.2 (by omega)
  have n18 : (o == 18) = false := beq_eq_false_iff_ne.2 (by omega)
  have n19 : (o == 19) = false := beq_eq_false_iff_ne.2 (by omega)
  have n20 : (o == 20) = false := beq_eq_false_iff_ne.2 (by omega)
  have n27 : (o == 27) = false := beq_eq_false_iff_ne.2 (by omega)
  have HC := hide hc
  clear hc
  go_enter Try.func16, Try.ntmps16
  go_wp2_with fail
  refine (D.out _).mono ?_
  rintro e w1 ⟨rfl, hb⟩
  have HB := hide (boxed_of hb)
  have hz : w.heap.size + 1 + 1 < w1.heap.size := by have := hb.size; simp at this; omega
  have hz0 : w.heap.size < w1.heap.size := by omega
  have hz1 : w.heap.size + 1 < w1.heap.size := by omega
  clear hb
  unfold insnV
  go_upto_region 4 with (fail)
  refine boxed_insn HB.out ?_
  intro w2 hB2 hx2
  have x0 := hx2.cell 0
  have x1 := hx2.cell 1
  have x2 := hx2.cell 2
  have x3 := hx2.cell 3
  have HB2 := hide hB2
  have HX2 := hide hx2
  clear HB hB2 hz hz0 hz1 hx2
  generalize w1.heap.size = xb at *
  have cp := fun i => HB2.out.cpu.frozen i
  have c16 : w2.cell? ⟨w.heap.size, 16, none⟩ = some (.int .u32 (gb cs 16)) := (HB2.out.cpu.cell 16).trans (u32A_get cs 16 (by rw [HC.out.1]; decide))
  have cA : w2.cell? ⟨w.heap.size, A.toNat, none⟩ = some (.int .u32 (gb cs A.toNat)) := (HB2.out.cpu.cell _).trans (u32A_get cs _ (by rw [HC.out.1]; omega))
  have cB : w2.cell? ⟨w.heap.size, B.toNat, none⟩ = some (.int .u32 (gb cs B.toNat)) := (HB2.out.cpu.cell _).trans (u32A_get cs _ (by rw [HC.out.1]; omega))
  have c15 : w2.cell? ⟨w.heap.size, 15, none⟩ = some (.int .u32 (gb cs 15)) := (HB2.out.cpu.cell 15).trans (u32A_get cs 15 (by rw [HC.out.1]; decide))
  have W1 : IntKind.u32.wrap i = i % 4294967296 := IntKind.wrap_u32' i
  refine wp_region_still_lit (by kernel_rfl) (by kernel_rfl) ?_
  change wpStill _ _ w2.drew _ _ _
  repeat still_step
  refine wpStill_nil ?_
  clear W1
  go_upto_region 17 with (first
    | (with_reducible refine wp_region_lit (id := 16) ?_)
    | ((with_reducible refine cpu_load (.tmp 2) HB2.out.drew.cpu ?_ ?_ ?_); (· rfl); (· exact HC.out.1))
    | ((with_reducible refine cpu_store (.tmp 11) (.tmp 82) cs ⟨_, ?_, (Blk.new w2 _ _).drew⟩ ?_ ?_ ?_ ?_); (· rfl); (· rfl); (· rfl); (· exact HC.out.1)))
  refine boxed_second HB2.out HX2.out _ ?_
  intro w3 hB3 hg3 hx3
  have y0 := hx3.cell 0
  have y1 := hx3.cell 1
  have y2 := hx3.cell 2
  have y3 := hx3.cell 3
  have d16 : w3.cell? ⟨w.heap.size, 16, none⟩ = some (.int .u32 (gb cs 16)) := (hg3.cell 16).trans (u32A_get cs 16 (by rw [HC.out.1]; decide))
  have HN := hide (show w.heap.size < w2.heap.size from HB2.out.cpu.lt)
  have HX := hide (show xb < w2.heap.size from HX2.out.lt)
  have HB3 := hide hB3
  have hx3' := hx3
  clear hB3 hg3 hx3 c16 cA cB cp c15 x0 x1 x2 x3 HB2 HX2
  generalize w2.heap.size = dg at *
  have cp := fun i => HB3.out.cpu.frozen i
  have e16 : w3.cell? ⟨dg, 16, none⟩ = some (.int .u32 (gb cs 16)) := (HB3.out.cpu.cell 16).trans (u32A_get cs 16 (by rw [HC.out.1]; decide))
  have eA : w3.cell? ⟨dg, A.toNat, none⟩ = some (.int .u32 (gb cs A.toNat)) := (HB3.out.cpu.cell _).trans (u32A_get cs _ (by rw [HC.out.1]; omega))
  have dne : w.heap.size ≠ dg := by have := HN.out; omega
  have dne' : dg ≠ w.heap.size := by have := HN.out; omega
  have xne : xb ≠ dg := by have := HX.out; omega
  have xne' : dg ≠ xb := by have := HX.out; omega
  have HX3 := hide hx3'
  go_upto_region 19 with (fail)
  refine boxed_from_x (HB3.out.set 16 _) (HX3.out.far (by exact xne) _) ?_
  intro w4 ds hB4 hx4 hds
  have HB4 := hide hB4
  have HL := hide (show ds.length = 17 by rw [hds.out, List.length_set]; exact HC.out.1)
  have z0 := hx4.cell 0
  have z1 := hx4.cell 1
  have z2 := hx4.cell 2
  have z3 := hx4.cell 3
  have cp4 := fun i => HB4.out.cpu.frozen i
  have eA4 : w4.cell? ⟨dg, A.toNat, none⟩ = some (.int .u32 (gb ds A.toNat)) := (HB4.out.cpu.cell _).trans (u32A_get ds _ (by rw [HL.out]; omega))
  have HX4 := hide hx4
  clear hB4 hx4 HB3 HX3 hx3' cp e16 eA d16 y0 y1 y2 y3
  refine wp_region_any (by kernel_rfl) ?_
  change wpAny _ _ _ _ _ _ _ (World.drew _)
  refine wpAny_take (i := 0) (v := ?_) rfl (by kernel_rfl) (by kernel_rfl) (by kernel_rfl) (fun _ _ _ h => h) (Or.inl ⟨by rfl, ?_⟩) ?_
  rotate_left
  · (intro w; go_simp; try with_reducible rfl)
  refine wpAny_take (i := 3) (v := ?_) rfl (by kernel_rfl) (by kernel_rfl) (by kernel_rfl) (fun _ _ _ h => h) (Or.inl ⟨by rfl, ?_⟩) ?_
  rotate_left
  · (intro w; go_simp; try with_reducible rfl)
  refine wpAny_take (i := 4) (v := ?_) rfl (by kernel_rfl) (by kernel_rfl) (by kernel_rfl) (fun _ _ _ h => h) (Or.inl ⟨by rfl, ?_⟩) ?_
  rotate_left
  · (intro w; go_simp; try with_reducible rfl)
  refine wpAny_take (i := 6) (v := ?_) rfl (by kernel_rfl) (by kernel_rfl) (by kernel_rfl) (fun _ _ _ h => h) (Or.inl ⟨by rfl, ?_⟩) ?_
  rotate_left
  · (intro w; go_simp; try with_reducible rfl)
  refine wpAny_ready (rs := [1, 2]) (by kernel_rfl) (by simp) ?_
  refine AllReady.cons rfl (fun K hK => ?_) ?_
  · go_simp
    refine hK _ _ ?_
    clear hK K
    refine wpAny_ready (rs := [2]) (by kernel_rfl) (by simp) ?_
    refine AllReady.cons rfl (fun K hK => ?_) AllReady.nil
    · go_simp
      refine hK _ _ ?_
      clear hK K
      refine wpAny_ready (rs := [5]) (by kernel_rfl) (by simp) ?_
      refine AllReady.cons rfl (fun K hK => ?_) AllReady.nil
      · go_simp
        go_at_call 24
        refine (R.out _).mono ?_
        rintro e w5 ⟨rfl, hb5⟩
        have HB5 := hide (HB4.out.drew.later hb5)
        have cp5 := fun i => HB5.out.cpu.frozen i
        have eA5 : w5.cell? ⟨dg, A.toNat, none⟩ = some (.int .u32 (gb ds A.toNat)) := (HB5.out.cpu.cell _).trans (u32A_get ds _ (by rw [HL.out]; omega))
        have u1 := (below_blk hb5 HX4.out.drew HX4.out.drew.lt).cell 1
        clear hb5
        go_simp
        refine hK _ _ ?_
        clear hK K
        refine wpAny_take (i := 7) (v := ?_) rfl (by kernel_rfl) (by kernel_rfl) (by kernel_rfl) (fun _ _ _ h => h) (Or.inl ⟨by rfl, ?_⟩) ?_
        rotate_left
        · (intro w; go_simp; try with_reducible rfl)
        refine wpAny_ready (rs := [8]) (by kernel_rfl) (by simp) ?_
        refine AllReady.cons rfl (fun K hK => ?_) AllReady.nil
        · go_simp
          refine hK _ _ ?_
          clear hK K
          refine wpAny_done (by kernel_rfl) ?_ _
          go_upto_region 34 with (fail)
          refine boxed_from (HB5.out.set A.toNat _) ?_
          intro w6 ds' hB4 hds'
          have HB4' := HB4
          clear HB4
          have HB4 := hide hB4
          have HL' := hide (show ds'.length = 17 by rw [hds'.out, List.length_set]; exact HL.out)
          clear hB4 HB5 HB4' cp5 eA5 u1 cp4 eA4 z0 z1 z2 z3
          have HB3 := HB4
          clear HB4
          go_wp2_with (first
            | (with_reducible refine wp_region_lit (id := 34) ?_)
            | ((with_reducible refine cpu_load (.tmp 11) HB3.out.cpu ?_ ?_ ?_); (· rfl); (· exact HL'.out))
            | ((with_reducible refine cpu_store (.tmp 4) (.tmp 145) ds' HB3.out.res ?_ ?_ ?_ ?_); (· rfl); (· rfl); (· exact HL'.out))
            | ((with_reducible refine act_store (.tmp 5) (.tmp 146) 1 0 0 0 0 0 (HB3.out.row ds' HL'.out).act ?_ ?_ ?_); (· rfl); (· rfl)))
          have HE := HB3.out.end_ ds' 1 0 0 0 0 0
          refine bodyPost_ret (v := .tuple #[.agg (u32A ds'), actV 1 0 0 0 0 0]) ?_ rfl ?_
          · exact step_results (p := 4) (q := 5) rfl rfl rfl HL'.out HE.1 HE.2.1
          · refine ⟨?_, HE.2.2⟩
            rw [hds'.out, hds.out, List.set_comm _ _ (show 16 ≠ A.toNat by omega)]
  refine AllReady.cons rfl (fun K hK => ?_) AllReady.nil
  · go_simp
    refine hK _ _ ?_
    clear hK K
    refine wpAny_ready (rs := [1, 5]) (by kernel_rfl) (by simp) ?_
    refine AllReady.cons rfl (fun K hK => ?_) ?_
    · go_simp
      refine hK _ _ ?_
      clear hK K
      refine wpAny_ready (rs := [5]) (by kernel_rfl) (by simp) ?_
      refine AllReady.cons rfl (fun K hK => ?_) AllReady.nil
      · go_simp
        go_at_call 24
        refine (R.out _).mono ?_
        rintro e w5 ⟨rfl, hb5⟩
        have HB5 := hide (HB4.out.drew.later hb5)
        have cp5 := fun i => HB5.out.cpu.frozen i
        have eA5 : w5.cell? ⟨dg, A.toNat, none⟩ = some (.int .u32 (gb ds A.toNat)) := (HB5.out.cpu.cell _).trans (u32A_get ds _ (by rw [HL.out]; omega))
        have u1 := (below_blk hb5 HX4.out.drew HX4.out.drew.lt).cell 1
        clear hb5
        go_simp
        refine hK _ _ ?_
        clear hK K
        refine wpAny_take (i := 7) (v := ?_) rfl (by kernel_rfl) (by kernel_rfl) (by kernel_rfl) (fun _ _ _ h => h) (Or.inl ⟨by rfl, ?_⟩) ?_
        rotate_left
        · (intro w; go_simp; try with_reducible rfl)
        refine wpAny_ready (rs := [8]) (by kernel_rfl) (by simp) ?_
        refine AllReady.cons rfl (fun K hK => ?_) AllReady.nil
        · go_simp
          refine hK _ _ ?_
          clear hK K
          refine wpAny_done (by kernel_rfl) ?_ _
          go_upto_region 34 with (fail)
          refine boxed_from (HB5.out.set A.toNat _) ?_
          intro w6 ds' hB4 hds'
          have HB4' := HB4
          clear HB4
          have HB4 := hide hB4
          have HL' := hide (show ds'.length = 17 by rw [hds'.out, List.length_set]; exact HL.out)
          clear hB4 HB5 HB4' cp5 eA5 u1 cp4 eA4 z0 z1 z2 z3
          have HB3 := HB4
          clear HB4
          go_wp2_with (first
            | (with_reducible refine wp_region_lit (id := 34) ?_)
            | ((with_reducible refine cpu_load (.tmp 11) HB3.out.cpu ?_ ?_ ?_); (· rfl); (· exact HL'.out))
            | ((with_reducible refine cpu_store (.tmp 4) (.tmp 145) ds' HB3.out.res ?_ ?_ ?_ ?_); (· rfl); (· rfl); (· exact HL'.out))
            | ((with_reducible refine act_store (.tmp 5) (.tmp 146) 1 0 0 0 0 0 (HB3.out.row ds' HL'.out).act ?_ ?_ ?_); (· rfl); (· rfl)))
          have HE := HB3.out.end_ ds' 1 0 0 0 0 0
          refine bodyPost_ret (v := .tuple #[.agg (u32A ds'), actV 1 0 0 0 0 0]) ?_ rfl ?_
          · exact step_results (p := 4) (q := 5) rfl rfl rfl HL'.out HE.1 HE.2.1
          · refine ⟨?_, HE.2.2⟩
            rw [hds'.out, hds.out, List.set_comm _ _ (show 16 ≠ A.toNat by omega)]
    refine AllReady.cons rfl (fun K hK => ?_) AllReady.nil
    · go_simp
      go_at_call 24
      refine (R.out _).mono ?_
      rintro e w5 ⟨rfl, hb5⟩
      have HB5 := hide (HB4.out.drew.later hb5)
      have cp5 := fun i => HB5.out.cpu.frozen i
      have eA5 : w5.cell? ⟨dg, A.toNat, none⟩ = some (.int .u32 (gb ds A.toNat)) := (HB5.out.cpu.cell _).trans (u32A_get ds _ (by rw [HL.out]; omega))
      have u1 := (below_blk hb5 HX4.out.drew HX4.out.drew.lt).cell 1
      clear hb5
      go_simp
      refine hK _ _ ?_
      clear hK K
      refine wpAny_ready (rs := [1]) (by kernel_rfl) (by simp) ?_
      refine AllReady.cons rfl (fun K hK => ?_) AllReady.nil
      · go_simp
        refine hK _ _ ?_
        clear hK K
        refine wpAny_take (i := 7) (v := ?_) rfl (by kernel_rfl) (by kernel_rfl) (by kernel_rfl) (fun _ _ _ h => h) (Or.inl ⟨by rfl, ?_⟩) ?_
        rotate_left
        · (intro w; go_simp; try with_reducible rfl)
        refine wpAny_ready (rs := [8]) (by kernel_rfl) (by simp) ?_
        refine AllReady.cons rfl (fun K hK => ?_) AllReady.nil
        · go_simp
          refine hK _ _ ?_
          clear hK K
          refine wpAny_done (by kernel_rfl) ?_ _
          go_upto_region 34 with (fail)
          refine boxed_from (HB5.out.set A.toNat _) ?_
          intro w6 ds' hB4 hds'
          have HB4' := HB4
          clear HB4
          have HB4 := hide hB4
          have HL' := hide (show ds'.length = 17 by rw [hds'.out, List.length_set]; exact HL.out)
          clear hB4 HB5 HB4' cp5 eA5 u1 cp4 eA4 z0 z1 z2 z3
          have HB3 := HB4
          clear HB4
          go_wp2_with (first
            | (with_reducible refine wp_region_lit (id := 34) ?_)
            | ((with_reducible refine cpu_load (.tmp 11) HB3.out.cpu ?_ ?_ ?_); (· rfl); (· exact HL'.out))
            | ((with_reducible refine cpu_store (.tmp 4) (.tmp 145) ds' HB3.out.res ?_ ?_ ?_ ?_); (· rfl); (· rfl); (· exact HL'.out))
            | ((with_reducible refine act_store (.tmp 5) (.tmp 146) 1 0 0 0 0 0 (HB3.out.row ds' HL'.out).act ?_ ?_ ?_); (· rfl); (· rfl)))
          have HE := HB3.out.end_ ds' 1 0 0 0 0 0
          refine bodyPost_ret (v := .tuple #[.agg (u32A ds'), actV 1 0 0 0 0 0]) ?_ rfl ?_
          · exact step_results (p := 4) (q := 5) rfl rfl rfl HL'.out HE.1 HE.2.1
          · refine ⟨?_, HE.2.2⟩
            rw [hds'.out, hds.out, List.set_comm _ _ (show 16 ≠ A.toNat by omega)]

end Go.Proofs.Ytkoibmpncfbnpaa
