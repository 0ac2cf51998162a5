/-
  Step of the document's own processor (parapetref03): compare and set. (Written by gen_rstep.py.)
-/
import Derived.Test.YtkoibmpncfbnpaaInsnTouch
namespace Go.Proofs.Ytkoibmpncfbnpaa
open Go.ChangeShapes Go.WideShapes Go.ChangeAt Go.RowKit
set_option linter.unusedVariables false

set_option maxRecDepth 100000 in
set_option maxHeartbeats 2000000 in
theorem rstep_27 (v : Int) (cs : List Int) (hc : IsCpu cs) (v0 : 0 ≤ v) (v1 : v < 4294967296) (o A B i : Int) (ho : v % 256 = o) (hA : v / 256 % 16 = A) (hB : v / 4096 % 16 = B) (hi : immOf v = i) (ho27 : o = 27) (w : World) :
    Calls Try.prog 16 #[.agg (u32A cs), .int .u32 v] w fun e w' => e = .returned (.tuple #[.agg (u32A cs), actV 4 ((gb cs B.toNat + i) % 4294967296) 4 0 (gb cs A.toNat) (gb cs 15)]) ∧ Below w.heap.size w w' := by
  have D := hide (fun w => rdecode_ok v w v0 v1 (by omega) (by omega))
  rw [ho, hA, hB, hi] at D
  have A0 : 0 ≤ A := by omega
  have A1 : A < 16 := by omega
  have B0 : 0 ≤ B := by omega
  have B1 : B < 16 := by omega
  obtain ⟨i0, i1⟩ := immOf_wf v v0 v1
  rw [hi] at i0 i1
  clear ho hA hB hi v0 v1
  have hs : (u32A cs).size = 17 := by rw [size_u32A, hc.1]
  obtain ⟨p0, p1⟩ := hc.get 16
  obtain ⟨a0, a1⟩ := hc.get A.toNat
  obtain ⟨b0, b1⟩ := hc.get B.toNat
  subst ho27
  obtain ⟨q0, q1⟩ := hc.get 15
  have HC := hide hc
  clear hc
  go_enter Try.func16, Try.ntmps16
  go_wp2_with fail
  refine (D.out _).mono ?_
  rintro e w1 ⟨rfl, hb⟩
  have HB := hide (boxed_of hb)
  have hz : w.heap.size + 1 + 1 < w1.heap.size := by have := hb.size; simp at this; omega
  have hz0 : w.heap.size < w1.heap.size := by omega
  have hz1 : w.heap.size + 1 < w1.heap.size := by omega
  clear hb
  unfold insnV
  go_upto_region 4 with (fail)
  refine boxed_insn HB.out ?_
  intro w2 hB2 hx2
  have x0 := hx2.cell 0
  have x1 := hx2.cell 1
  have x2 := hx2.cell 2
  have x3 := hx2.cell 3
  have HB2 := hide hB2
  have HX2 := hide hx2
  clear HB hB2 hz hz0 hz1 hx2
  generalize w1.heap.size = xb at *
  have cp := fun i => HB2.out.cpu.frozen i
  have c16 : w2.cell? ⟨w.heap.size, 16, none⟩ = some (.int .u32 (gb cs 16)) := (HB2.out.cpu.cell 16).trans (u32A_get cs 16 (by rw [HC.out.1]; decide))
  have cA : w2.cell? ⟨w.heap.size, A.toNat, none⟩ = some (.int .u32 (gb cs A.toNat)) := (HB2.out.cpu.cell _).trans (u32A_get cs _ (by rw [HC.out.1]; omega))
  have cB : w2.cell? ⟨w.heap.size, B.toNat, none⟩ = some (.int .u32 (gb cs B.toNat)) := (HB2.out.cpu.cell _).trans (u32A_get cs _ (by rw [HC.out.1]; omega))
  have c15 : w2.cell? ⟨w.heap.size, 15, none⟩ = some (.int .u32 (gb cs 15)) := (HB2.out.cpu.cell 15).trans (u32A_get cs 15 (by rw [HC.out.1]; decide))
  have W1 : IntKind.u32.wrap i = i % 4294967296 := IntKind.wrap_u32' i
  refine wp_region_still_lit (by kernel_rfl) (by kernel_rfl) ?_
  change wpStill _ _ w2.drew _ _ _
  repeat still_step
  refine wpStill_nil ?_
  clear W1
  go_upto_region 15 with (fail)
  have W2 : IntKind.u32.wrap (gb cs B.toNat + i % 4294967296) = (gb cs B.toNat + i) % 4294967296 := by rw [IntKind.wrap_u32']; omega
  have xr : xb ≠ w.heap.size + 1 := by obtain ⟨_, _, h⟩ := HB2.out.res; exact HX2.out.ne_ h (by decide)
  have HB3 := hide HB2.out.drew.drew
  have HL := hide HC.out.1
  have z1 := (HX2.out.drew.drew.rowFar xr (u32A cs)).cell 1
  have z15 : (w2.drew.drew.setRow (w.heap.size + 1) (u32A cs)).cell? ⟨w.heap.size, 15, none⟩ = some (.int .u32 (gb cs 15)) := ((HB3.out.cpu.rowFar (by omega) (u32A cs)).cell 15).trans (u32A_get cs 15 (by rw [HC.out.1]; decide))
  clear c16 cA cB
  refine wp_region_any (by kernel_rfl) ?_
  change wpAny _ _ _ _ _ _ _ (World.drew _)
  refine wpAny_take (i := 1) (v := ?_) rfl (by kernel_rfl) (by kernel_rfl) (by kernel_rfl) (fun _ _ _ h => h) (Or.inl ⟨by rfl, ?_⟩) ?_
  rotate_left
  · (intro w; go_simp; try with_reducible rfl)
  refine wpAny_take (i := 2) (v := ?_) rfl (by kernel_rfl) (by kernel_rfl) (by kernel_rfl) (fun _ _ _ h => h) (Or.inl ⟨by rfl, ?_⟩) ?_
  rotate_left
  · (intro w; go_simp; try with_reducible rfl)
  refine wpAny_take (i := 3) (v := ?_) rfl (by kernel_rfl) (by kernel_rfl) (by kernel_rfl) (fun _ _ _ h => h) (Or.inl ⟨by rfl, ?_⟩) ?_
  rotate_left
  · (intro w; go_simp; try with_reducible rfl)
  refine wpAny_take (i := 4) (v := ?_) rfl (by kernel_rfl) (by kernel_rfl) (by kernel_rfl) (fun _ _ _ h => h) (Or.inl ⟨by rfl, ?_⟩) ?_
  rotate_left
  · (intro w; go_simp; try with_reducible rfl)
  refine wpAny_take (i := 5) (v := ?_) rfl (by kernel_rfl) (by kernel_rfl) (by kernel_rfl) (fun _ _ _ h => h) (Or.inl ⟨by rfl, ?_⟩) ?_
  rotate_left
  · (intro w; go_simp; try with_reducible rfl)
  refine wpAny_take (i := 6) (v := ?_) rfl (by kernel_rfl) (by kernel_rfl) (by kernel_rfl) (fun _ _ _ h => h) (Or.inl ⟨by rfl, ?_⟩) ?_
  rotate_left
  · (intro w; go_simp; try with_reducible rfl)
  refine wpAny_ready (rs := [0, 7]) (by kernel_rfl) (by simp) ?_
  refine AllReady.cons (o := ⟨some 73, .load 35 (.tmp 2), _, _, _, none⟩) rfl (fun K hK => ?_) ?_
  · with_reducible refine step_cpu_load (.tmp 2) HB3.out.cpu ?_ HL.out ?_
    · go_simp
    try go_simp
    refine hK _ _ ?_
    clear hK K
    refine wpAny_ready (rs := [7, 9]) (by kernel_rfl) (by simp) ?_
    refine AllReady.cons rfl (fun K hK => ?_) ?_
    · go_simp
      refine hK _ _ ?_
      clear hK K
      refine wpAny_take (i := 8) (v := ?_) rfl (by kernel_rfl) (by kernel_rfl) (by kernel_rfl) (fun _ _ _ h => h) (Or.inl ⟨by rfl, ?_⟩) ?_
      rotate_left
      · (intro w; go_simp; try with_reducible rfl)
      refine wpAny_ready (rs := [9]) (by kernel_rfl) (by simp) ?_
      refine AllReady.cons (o := ⟨none, .store 35 (.tmp 4) (.tmp 73), _, _, _, none⟩) rfl (fun K hK => ?_) AllReady.nil
      · refine step_cpu_store (.tmp 4) (.tmp 73) cs HB3.out.res rfl rfl HL.out ?_
        try go_simp
        refine hK _ _ ?_
        clear hK K
        refine wpAny_ready (rs := [10]) (by kernel_rfl) (by simp) ?_
        refine AllReady.cons (o := ⟨none, .store 37 (.tmp 5) (.tmp 81), _, _, _, none⟩) rfl (fun K hK => ?_) AllReady.nil
        · refine step_act_store (.tmp 5) (.tmp 81) 4 ((gb cs B.toNat + i) % 4294967296) 4 0 (gb cs A.toNat) (gb cs 15) (HB3.out.row cs HL.out).act rfl rfl ?_
          refine hK _ _ ?_
          clear hK K
          refine wpAny_done (by kernel_rfl) ?_ _
          go_wp2
          have HE := HB3.out.end_ cs 4 ((gb cs B.toNat + i) % 4294967296) 4 0 (gb cs A.toNat) (gb cs 15)
          refine bodyPost_ret (v := .tuple #[.agg (u32A cs), actV 4 ((gb cs B.toNat + i) % 4294967296) 4 0 (gb cs A.toNat) (gb cs 15)]) ?_ rfl ?_
          · exact step_results (p := 4) (q := 5) rfl rfl rfl HL.out HE.1 HE.2.1
          · exact ⟨rfl, HE.2.2⟩
    refine AllReady.cons (o := ⟨none, .store 35 (.tmp 4) (.tmp 73), _, _, _, none⟩) rfl (fun K hK => ?_) AllReady.nil
    · refine step_cpu_store (.tmp 4) (.tmp 73) cs HB3.out.res rfl rfl HL.out ?_
      try go_simp
      refine hK _ _ ?_
      clear hK K
      refine wpAny_ready (rs := [7]) (by kernel_rfl) (by simp) ?_
      refine AllReady.cons rfl (fun K hK => ?_) AllReady.nil
      · go_simp
        refine hK _ _ ?_
        clear hK K
        refine wpAny_take (i := 8) (v := ?_) rfl (by kernel_rfl) (by kernel_rfl) (by kernel_rfl) (fun _ _ _ h => h) (Or.inl ⟨by rfl, ?_⟩) ?_
        rotate_left
        · (intro w; go_simp; try with_reducible rfl)
        refine wpAny_ready (rs := [10]) (by kernel_rfl) (by simp) ?_
        refine AllReady.cons (o := ⟨none, .store 37 (.tmp 5) (.tmp 81), _, _, _, none⟩) rfl (fun K hK => ?_) AllReady.nil
        · refine step_act_store (.tmp 5) (.tmp 81) 4 ((gb cs B.toNat + i) % 4294967296) 4 0 (gb cs A.toNat) (gb cs 15) (HB3.out.row cs HL.out).act rfl rfl ?_
          refine hK _ _ ?_
          clear hK K
          refine wpAny_done (by kernel_rfl) ?_ _
          go_wp2
          have HE := HB3.out.end_ cs 4 ((gb cs B.toNat + i) % 4294967296) 4 0 (gb cs A.toNat) (gb cs 15)
          refine bodyPost_ret (v := .tuple #[.agg (u32A cs), actV 4 ((gb cs B.toNat + i) % 4294967296) 4 0 (gb cs A.toNat) (gb cs 15)]) ?_ rfl ?_
          · exact step_results (p := 4) (q := 5) rfl rfl rfl HL.out HE.1 HE.2.1
          · exact ⟨rfl, HE.2.2⟩
  refine AllReady.cons rfl (fun K hK => ?_) AllReady.nil
  · go_simp
    refine hK _ _ ?_
    clear hK K
    refine wpAny_take (i := 8) (v := ?_) rfl (by kernel_rfl) (by kernel_rfl) (by kernel_rfl) (fun _ _ _ h => h) (Or.inl ⟨by rfl, ?_⟩) ?_
    rotate_left
    · (intro w; go_simp; try with_reducible rfl)
    refine wpAny_ready (rs := [0]) (by kernel_rfl) (by simp) ?_
    refine AllReady.cons (o := ⟨some 73, .load 35 (.tmp 2), _, _, _, none⟩) rfl (fun K hK => ?_) AllReady.nil
    · with_reducible refine step_cpu_load (.tmp 2) HB3.out.cpu ?_ HL.out ?_
      · go_simp
      try go_simp
      refine hK _ _ ?_
      clear hK K
      refine wpAny_ready (rs := [9]) (by kernel_rfl) (by simp) ?_
      refine AllReady.cons (o := ⟨none, .store 35 (.tmp 4) (.tmp 73), _, _, _, none⟩) rfl (fun K hK => ?_) AllReady.nil
      · refine step_cpu_store (.tmp 4) (.tmp 73) cs HB3.out.res rfl rfl HL.out ?_
        try go_simp
        refine hK _ _ ?_
        clear hK K
        refine wpAny_ready (rs := [10]) (by kernel_rfl) (by simp) ?_
        refine AllReady.cons (o := ⟨none, .store 37 (.tmp 5) (.tmp 81), _, _, _, none⟩) rfl (fun K hK => ?_) AllReady.nil
        · refine step_act_store (.tmp 5) (.tmp 81) 4 ((gb cs B.toNat + i) % 4294967296) 4 0 (gb cs A.toNat) (gb cs 15) (HB3.out.row cs HL.out).act rfl rfl ?_
          refine hK _ _ ?_
          clear hK K
          refine wpAny_done (by kernel_rfl) ?_ _
          go_wp2
          have HE := HB3.out.end_ cs 4 ((gb cs B.toNat + i) % 4294967296) 4 0 (gb cs A.toNat) (gb cs 15)
          refine bodyPost_ret (v := .tuple #[.agg (u32A cs), actV 4 ((gb cs B.toNat + i) % 4294967296) 4 0 (gb cs A.toNat) (gb cs 15)]) ?_ rfl ?_
          · exact step_results (p := 4) (q := 5) rfl rfl rfl HL.out HE.1 HE.2.1
          · exact ⟨rfl, HE.2.2⟩

end Go.Proofs.Ytkoibmpncfbnpaa
