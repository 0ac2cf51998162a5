/-
  Step of parapet/insn: what asks the memory. (Written by gen_step.py.)
-/
import Derived.Test.YtkoibmpncfbnpaaInsnTouch
namespace Go.Proofs.Ytkoibmpncfbnpaa
open Go.ChangeShapes Go.WideShapes Go.ChangeAt Go.RowKit
set_option linter.unusedVariables false

set_option maxRecDepth 100000 in
set_option maxHeartbeats 2000000 in
theorem step_17 (v : Int) (cs : List Int) (hc : IsCpu cs) (v0 : 0 ≤ v) (v1 : v < 4294967296) (o A B i : Int) (ho : v % 256 = o) (hA : v / 256 % 16 = A) (hB : v / 4096 % 16 = B) (hi : immOf v = i) (ho17 : o = 17) (w : World) :
    Calls Try.prog 15 #[.agg (u32A cs), .int .u32 v] w fun e w' => e = .returned (.tuple #[.agg (u32A cs), actV 2 ((gb cs B.toNat + i) % 4294967296) 4 A 0 0]) ∧ Below w.heap.size w w' := by
  have D := hide (fun w => decode_ok v w v0 v1 (by omega) (by omega))
  rw [ho, hA, hB, hi] at D
  have A0 : 0 ≤ A := by omega
  have A1 : A < 16 := by omega
  have B0 : 0 ≤ B := by omega
  have B1 : B < 16 := by omega
  obtain ⟨i0, i1⟩ := immOf_wf v v0 v1
  rw [hi] at i0 i1
  clear ho hA hB hi v0 v1
  have hs : (u32A cs).size = 17 := by rw [size_u32A, hc.1]
  obtain ⟨p0, p1⟩ := hc.get 16
  obtain ⟨a0, a1⟩ := hc.get A.toNat
  obtain ⟨b0, b1⟩ := hc.get B.toNat
  subst ho17
  have R := hide (fun (g : Nat) (w : World) (hg : Blk w g 35 (u32A cs)) => show Calls Try.prog 20 #[.pointer (some ⟨g, 0, none⟩), insnV 17 A B i] w fun e w' => e = .returned (actV 2 ((gb cs B.toNat + i) % 4294967296) 4 A 0 0) ∧ Below w.heap.size w w' from touch_17 A B i cs hc g w hg A0 (by omega) B0 (by omega) i0 i1)
  have HC := hide hc
  clear hc
  go_enter Try.func15, Try.ntmps15
  go_wp2_with fail
  refine (D.out _).mono ?_
  rintro e w1 ⟨rfl, hb⟩
  have HB := hide (boxed_of hb)
  have hz : w.heap.size + 1 + 1 < w1.heap.size := by have := hb.size; simp at this; omega
  have hz0 : w.heap.size < w1.heap.size := by omega
  have hz1 : w.heap.size + 1 < w1.heap.size := by omega
  clear hb
  unfold insnV
  go_upto_region 13 with (fail)
  refine boxed_insn HB.out ?_
  intro w2 hB2 hx2
  have x0 := hx2.cell 0
  have x1 := hx2.cell 1
  have x2 := hx2.cell 2
  have x3 := hx2.cell 3
  have HB2 := hide hB2
  clear HB hB2 hz hz0 hz1 hx2
  generalize w1.heap.size = xb at *
  have cp := fun i => HB2.out.cpu.frozen i
  have c16 : w2.cell? ⟨w.heap.size, 16, none⟩ = some (.int .u32 (gb cs 16)) := (HB2.out.cpu.cell 16).trans (u32A_get cs 16 (by rw [HC.out.1]; decide))
  have cA : w2.cell? ⟨w.heap.size, A.toNat, none⟩ = some (.int .u32 (gb cs A.toNat)) := (HB2.out.cpu.cell _).trans (u32A_get cs _ (by rw [HC.out.1]; omega))
  have cB : w2.cell? ⟨w.heap.size, B.toNat, none⟩ = some (.int .u32 (gb cs B.toNat)) := (HB2.out.cpu.cell _).trans (u32A_get cs _ (by rw [HC.out.1]; omega))
  clear c16 cA cB cp
  refine wp_region_any (by kernel_rfl) ?_
  change wpAny _ _ _ _ _ _ _ (World.drew _)
  refine wpAny_ready (rs := [0, 1]) (by kernel_rfl) (by simp) ?_
  refine AllReady.cons rfl (fun K hK => ?_) ?_
  · refine step_cpu_load (.tmp 2) HB2.out.drew.cpu rfl HC.out.1 ?_
    refine hK _ _ ?_
    clear hK K
    refine wpAny_ready (rs := [1]) (by kernel_rfl) (by simp) ?_
    refine AllReady.cons rfl (fun K hK => ?_) AllReady.nil
    · go_simp
      refine hK _ _ ?_
      clear hK K
      refine wpAny_ready (rs := [2]) (by kernel_rfl) (by simp) ?_
      refine AllReady.cons rfl (fun K hK => ?_) AllReady.nil
      · go_simp
        go_at_call 20
        refine (R.out _ _ HB2.out.drew.cpu).mono ?_
        rintro e w4 ⟨rfl, hb4⟩
        have HB4 := hide (HB2.out.drew.later hb4)
        clear hb4
        go_simp
        refine hK _ _ ?_
        clear hK K
        refine wpAny_ready (rs := [3]) (by kernel_rfl) (by simp) ?_
        refine AllReady.cons rfl (fun K hK => ?_) AllReady.nil
        refine step_cpu_store (.tmp 4) (.tmp 51) cs HB4.out.res rfl rfl HC.out.1 ?_
        refine hK _ _ ?_
        clear hK K
        refine wpAny_ready (rs := [4]) (by kernel_rfl) (by simp) ?_
        refine AllReady.cons rfl (fun K hK => ?_) AllReady.nil
        refine step_act_store (.tmp 5) (.tmp 53) 2 ((gb cs B.toNat + i) % 4294967296) 4 A 0 0 (HB4.out.row cs HC.out.1).act rfl rfl ?_
        refine hK _ _ ?_
        clear hK K
        refine wpAny_done (by kernel_rfl) ?_ _
        go_wp2
        have HE := HB4.out.end_ cs 2 ((gb cs B.toNat + i) % 4294967296) 4 A 0 0
        refine bodyPost_ret (v := .tuple #[.agg (u32A cs), actV 2 ((gb cs B.toNat + i) % 4294967296) 4 A 0 0]) ?_ rfl ?_
        · exact step_results (p := 4) (q := 5) rfl rfl rfl HC.out.1 HE.1 HE.2.1
        · exact ⟨rfl, HE.2.2⟩
  refine AllReady.cons rfl (fun K hK => ?_) AllReady.nil
  · go_simp
    refine hK _ _ ?_
    clear hK K
    refine wpAny_ready (rs := [0, 2]) (by kernel_rfl) (by simp) ?_
    refine AllReady.cons rfl (fun K hK => ?_) ?_
    · refine step_cpu_load (.tmp 2) HB2.out.drew.cpu rfl HC.out.1 ?_
      refine hK _ _ ?_
      clear hK K
      refine wpAny_ready (rs := [2]) (by kernel_rfl) (by simp) ?_
      refine AllReady.cons rfl (fun K hK => ?_) AllReady.nil
      · go_simp
        go_at_call 20
        refine (R.out _ _ HB2.out.drew.cpu).mono ?_
        rintro e w4 ⟨rfl, hb4⟩
        have HB4 := hide (HB2.out.drew.later hb4)
        clear hb4
        go_simp
        refine hK _ _ ?_
        clear hK K
        refine wpAny_ready (rs := [3]) (by kernel_rfl) (by simp) ?_
        refine AllReady.cons rfl (fun K hK => ?_) AllReady.nil
        refine step_cpu_store (.tmp 4) (.tmp 51) cs HB4.out.res rfl rfl HC.out.1 ?_
        refine hK _ _ ?_
        clear hK K
        refine wpAny_ready (rs := [4]) (by kernel_rfl) (by simp) ?_
        refine AllReady.cons rfl (fun K hK => ?_) AllReady.nil
        refine step_act_store (.tmp 5) (.tmp 53) 2 ((gb cs B.toNat + i) % 4294967296) 4 A 0 0 (HB4.out.row cs HC.out.1).act rfl rfl ?_
        refine hK _ _ ?_
        clear hK K
        refine wpAny_done (by kernel_rfl) ?_ _
        go_wp2
        have HE := HB4.out.end_ cs 2 ((gb cs B.toNat + i) % 4294967296) 4 A 0 0
        refine bodyPost_ret (v := .tuple #[.agg (u32A cs), actV 2 ((gb cs B.toNat + i) % 4294967296) 4 A 0 0]) ?_ rfl ?_
        · exact step_results (p := 4) (q := 5) rfl rfl rfl HC.out.1 HE.1 HE.2.1
        · exact ⟨rfl, HE.2.2⟩
    refine AllReady.cons rfl (fun K hK => ?_) AllReady.nil
    · go_simp
      go_at_call 20
      refine (R.out _ _ HB2.out.drew.cpu).mono ?_
      rintro e w4 ⟨rfl, hb4⟩
      have HB4 := hide (HB2.out.drew.later hb4)
      clear hb4
      go_simp
      refine hK _ _ ?_
      clear hK K
      refine wpAny_ready (rs := [0]) (by kernel_rfl) (by simp) ?_
      refine AllReady.cons rfl (fun K hK => ?_) AllReady.nil
      · refine step_cpu_load (.tmp 2) HB4.out.cpu rfl HC.out.1 ?_
        refine hK _ _ ?_
        clear hK K
        refine wpAny_ready (rs := [3]) (by kernel_rfl) (by simp) ?_
        refine AllReady.cons rfl (fun K hK => ?_) AllReady.nil
        refine step_cpu_store (.tmp 4) (.tmp 51) cs HB4.out.res rfl rfl HC.out.1 ?_
        refine hK _ _ ?_
        clear hK K
        refine wpAny_ready (rs := [4]) (by kernel_rfl) (by simp) ?_
        refine AllReady.cons rfl (fun K hK => ?_) AllReady.nil
        refine step_act_store (.tmp 5) (.tmp 53) 2 ((gb cs B.toNat + i) % 4294967296) 4 A 0 0 (HB4.out.row cs HC.out.1).act rfl rfl ?_
        refine hK _ _ ?_
        clear hK K
        refine wpAny_done (by kernel_rfl) ?_ _
        go_wp2
        have HE := HB4.out.end_ cs 2 ((gb cs B.toNat + i) % 4294967296) 4 A 0 0
        refine bodyPost_ret (v := .tuple #[.agg (u32A cs), actV 2 ((gb cs B.toNat + i) % 4294967296) 4 A 0 0]) ?_ rfl ?_
        · exact step_results (p := 4) (q := 5) rfl rfl rfl HC.out.1 HE.1 HE.2.1
        · exact ⟨rfl, HE.2.2⟩

set_option maxRecDepth 100000 in
set_option maxHeartbeats 2000000 in
theorem step_18 (v : Int) (cs : List Int) (hc : IsCpu cs) (v0 : 0 ≤ v) (v1 : v < 4294967296) (o A B i : Int) (ho : v % 256 = o) (hA : v / 256 % 16 = A) (hB : v / 4096 % 16 = B) (hi : immOf v = i) (ho18 : o = 18) (w : World) :
    Calls Try.prog 15 #[.agg (u32A cs), .int .u32 v] w fun e w' => e = .returned (.tuple #[.agg (u32A cs), actV 3 ((gb cs B.toNat + i) % 4294967296) 4 0 (gb cs A.toNat) 0]) ∧ Below w.heap.size w w' := by
  have D := hide (fun w => decode_ok v w v0 v1 (by omega) (by omega))
  rw [ho, hA, hB, hi] at D
  have A0 : 0 ≤ A := by omega
  have A1 : A < 16 := by omega
  have B0 : 0 ≤ B := by omega
  have B1 : B < 16 := by omega
  obtain ⟨i0, i1⟩ := immOf_wf v v0 v1
  rw [hi] at i0 i1
  clear ho hA hB hi v0 v1
  have hs : (u32A cs).size = 17 := by rw [size_u32A, hc.1]
  obtain ⟨p0, p1⟩ := hc.get 16
  obtain ⟨a0, a1⟩ := hc.get A.toNat
  obtain ⟨b0, b1⟩ := hc.get B.toNat
  subst ho18
  have R := hide (fun (g : Nat) (w : World) (hg : Blk w g 35 (u32A cs)) => show Calls Try.prog 20 #[.pointer (some ⟨g, 0, none⟩), insnV 18 A B i] w fun e w' => e = .returned (actV 3 ((gb cs B.toNat + i) % 4294967296) 4 0 (gb cs A.toNat) 0) ∧ Below w.heap.size w w' from touch_18 A B i cs hc g w hg A0 (by omega) B0 (by omega) i0 i1)
  have HC := hide hc
  clear hc
  go_enter Try.func15, Try.ntmps15
  go_wp2_with fail
  refine (D.out _).mono ?_
  rintro e w1 ⟨rfl, hb⟩
  have HB := hide (boxed_of hb)
  have hz : w.heap.size + 1 + 1 < w1.heap.size := by have := hb.size; simp at this; omega
  have hz0 : w.heap.size < w1.heap.size := by omega
  have hz1 : w.heap.size + 1 < w1.heap.size := by omega
  clear hb
  unfold insnV
  go_upto_region 13 with (fail)
  refine boxed_insn HB.out ?_
  intro w2 hB2 hx2
  have x0 := hx2.cell 0
  have x1 := hx2.cell 1
  have x2 := hx2.cell 2
  have x3 := hx2.cell 3
  have HB2 := hide hB2
  clear HB hB2 hz hz0 hz1 hx2
  generalize w1.heap.size = xb at *
  have cp := fun i => HB2.out.cpu.frozen i
  have c16 : w2.cell? ⟨w.heap.size, 16, none⟩ = some (.int .u32 (gb cs 16)) := (HB2.out.cpu.cell 16).trans (u32A_get cs 16 (by rw [HC.out.1]; decide))
  have cA : w2.cell? ⟨w.heap.size, A.toNat, none⟩ = some (.int .u32 (gb cs A.toNat)) := (HB2.out.cpu.cell _).trans (u32A_get cs _ (by rw [HC.out.1]; omega))
  have cB : w2.cell? ⟨w.heap.size, B.toNat, none⟩ = some (.int .u32 (gb cs B.toNat)) := (HB2.out.cpu.cell _).trans (u32A_get cs _ (by rw [HC.out.1]; omega))
  clear c16 cA cB cp
  refine wp_region_any (by kernel_rfl) ?_
  change wpAny _ _ _ _ _ _ _ (World.drew _)
  refine wpAny_ready (rs := [0, 1]) (by kernel_rfl) (by simp) ?_
  refine AllReady.cons rfl (fun K hK => ?_) ?_
  · refine step_cpu_load (.tmp 2) HB2.out.drew.cpu rfl HC.out.1 ?_
    refine hK _ _ ?_
    clear hK K
    refine wpAny_ready (rs := [1]) (by kernel_rfl) (by simp) ?_
    refine AllReady.cons rfl (fun K hK => ?_) AllReady.nil
    · go_simp
      refine hK _ _ ?_
      clear hK K
      refine wpAny_ready (rs := [2]) (by kernel_rfl) (by simp) ?_
      refine AllReady.cons rfl (fun K hK => ?_) AllReady.nil
      · go_simp
        go_at_call 20
        refine (R.out _ _ HB2.out.drew.cpu).mono ?_
        rintro e w4 ⟨rfl, hb4⟩
        have HB4 := hide (HB2.out.drew.later hb4)
        clear hb4
        go_simp
        refine hK _ _ ?_
        clear hK K
        refine wpAny_ready (rs := [3]) (by kernel_rfl) (by simp) ?_
        refine AllReady.cons rfl (fun K hK => ?_) AllReady.nil
        refine step_cpu_store (.tmp 4) (.tmp 51) cs HB4.out.res rfl rfl HC.out.1 ?_
        refine hK _ _ ?_
        clear hK K
        refine wpAny_ready (rs := [4]) (by kernel_rfl) (by simp) ?_
        refine AllReady.cons rfl (fun K hK => ?_) AllReady.nil
        refine step_act_store (.tmp 5) (.tmp 53) 3 ((gb cs B.toNat + i) % 4294967296) 4 0 (gb cs A.toNat) 0 (HB4.out.row cs HC.out.1).act rfl rfl ?_
        refine hK _ _ ?_
        clear hK K
        refine wpAny_done (by kernel_rfl) ?_ _
        go_wp2
        have HE := HB4.out.end_ cs 3 ((gb cs B.toNat + i) % 4294967296) 4 0 (gb cs A.toNat) 0
        refine bodyPost_ret (v := .tuple #[.agg (u32A cs), actV 3 ((gb cs B.toNat + i) % 4294967296) 4 0 (gb cs A.toNat) 0]) ?_ rfl ?_
        · exact step_results (p := 4) (q := 5) rfl rfl rfl HC.out.1 HE.1 HE.2.1
        · exact ⟨rfl, HE.2.2⟩
  refine AllReady.cons rfl (fun K hK => ?_) AllReady.nil
  · go_simp
    refine hK _ _ ?_
    clear hK K
    refine wpAny_ready (rs := [0, 2]) (by kernel_rfl) (by simp) ?_
    refine AllReady.cons rfl (fun K hK => ?_) ?_
    · refine step_cpu_load (.tmp 2) HB2.out.drew.cpu rfl HC.out.1 ?_
      refine hK _ _ ?_
      clear hK K
      refine wpAny_ready (rs := [2]) (by kernel_rfl) (by simp) ?_
      refine AllReady.cons rfl (fun K hK => ?_) AllReady.nil
      · go_simp
        go_at_call 20
        refine (R.out _ _ HB2.out.drew.cpu).mono ?_
        rintro e w4 ⟨rfl, hb4⟩
        have HB4 := hide (HB2.out.drew.later hb4)
        clear hb4
        go_simp
        refine hK _ _ ?_
        clear hK K
        refine wpAny_ready (rs := [3]) (by kernel_rfl) (by simp) ?_
        refine AllReady.cons rfl (fun K hK => ?_) AllReady.nil
        refine step_cpu_store (.tmp 4) (.tmp 51) cs HB4.out.res rfl rfl HC.out.1 ?_
        refine hK _ _ ?_
        clear hK K
        refine wpAny_ready (rs := [4]) (by kernel_rfl) (by simp) ?_
        refine AllReady.cons rfl (fun K hK => ?_) AllReady.nil
        refine step_act_store (.tmp 5) (.tmp 53) 3 ((gb cs B.toNat + i) % 4294967296) 4 0 (gb cs A.toNat) 0 (HB4.out.row cs HC.out.1).act rfl rfl ?_
        refine hK _ _ ?_
        clear hK K
        refine wpAny_done (by kernel_rfl) ?_ _
        go_wp2
        have HE := HB4.out.end_ cs 3 ((gb cs B.toNat + i) % 4294967296) 4 0 (gb cs A.toNat) 0
        refine bodyPost_ret (v := .tuple #[.agg (u32A cs), actV 3 ((gb cs B.toNat + i) % 4294967296) 4 0 (gb cs A.toNat) 0]) ?_ rfl ?_
        · exact step_results (p := 4) (q := 5) rfl rfl rfl HC.out.1 HE.1 HE.2.1
        · exact ⟨rfl, HE.2.2⟩
    refine AllReady.cons rfl (fun K hK => ?_) AllReady.nil
    · go_simp
      go_at_call 20
      refine (R.out _ _ HB2.out.drew.cpu).mono ?_
      rintro e w4 ⟨rfl, hb4⟩
      have HB4 := hide (HB2.out.drew.later hb4)
      clear hb4
      go_simp
      refine hK _ _ ?_
      clear hK K
      refine wpAny_ready (rs := [0]) (by kernel_rfl) (by simp) ?_
      refine AllReady.cons rfl (fun K hK => ?_) AllReady.nil
      · refine step_cpu_load (.tmp 2) HB4.out.cpu rfl HC.out.1 ?_
        refine hK _ _ ?_
        clear hK K
        refine wpAny_ready (rs := [3]) (by kernel_rfl) (by simp) ?_
        refine AllReady.cons rfl (fun K hK => ?_) AllReady.nil
        refine step_cpu_store (.tmp 4) (.tmp 51) cs HB4.out.res rfl rfl HC.out.1 ?_
        refine hK _ _ ?_
        clear hK K
        refine wpAny_ready (rs := [4]) (by kernel_rfl) (by simp) ?_
        refine AllReady.cons rfl (fun K hK => ?_) AllReady.nil
        refine step_act_store (.tmp 5) (.tmp 53) 3 ((gb cs B.toNat + i) % 4294967296) 4 0 (gb cs A.toNat) 0 (HB4.out.row cs HC.out.1).act rfl rfl ?_
        refine hK _ _ ?_
        clear hK K
        refine wpAny_done (by kernel_rfl) ?_ _
        go_wp2
        have HE := HB4.out.end_ cs 3 ((gb cs B.toNat + i) % 4294967296) 4 0 (gb cs A.toNat) 0
        refine bodyPost_ret (v := .tuple #[.agg (u32A cs), actV 3 ((gb cs B.toNat + i) % 4294967296) 4 0 (gb cs A.toNat) 0]) ?_ rfl ?_
        · exact step_results (p := 4) (q := 5) rfl rfl rfl HC.out.1 HE.1 HE.2.1
        · exact ⟨rfl, HE.2.2⟩

set_option maxRecDepth 100000 in
set_option maxHeartbeats 2000000 in
theorem step_19 (v : Int) (cs : List Int) (hc : IsCpu cs) (v0 : 0 ≤ v) (v1 : v < 4294967296) (o A B i : Int) (ho : v % 256 = o) (hA : v / 256 % 16 = A) (hB : v / 4096 % 16 = B) (hi : immOf v = i) (ho19 : o = 19) (w : World) :
    Calls Try.prog 15 #[.agg (u32A cs), .int .u32 v] w fun e w' => e = .returned (.tuple #[.agg (u32A cs), actV 2 ((gb cs B.toNat + i) % 4294967296) 1 A 0 0]) ∧ Below w.heap.size w w' := by
  have D := hide (fun w => decode_ok v w v0 v1 (by omega) (by omega))
  rw [ho, hA, hB, hi] at D
  have A0 : 0 ≤ A := by omega
  have A1 : A < 16 := by omega
  have B0 : 0 ≤ B := by omega
  have B1 : B < 16 := by omega
  obtain ⟨i0, i1⟩ := immOf_wf v v0 v1
  rw [hi] at i0 i1
  clear ho hA hB hi v0 v1
  have hs : (u32A cs).size = 17 := by rw [size_u32A, hc.1]
  obtain ⟨p0, p1⟩ := hc.get 16
  obtain ⟨a0, a1⟩ := hc.get A.toNat
  obtain ⟨b0, b1⟩ := hc.get B.toNat
  subst ho19
  have R := hide (fun (g : Nat) (w : World) (hg : Blk w g 35 (u32A cs)) => show Calls Try.prog 20 #[.pointer (some ⟨g, 0, none⟩), insnV 19 A B i] w fun e w' => e = .returned (actV 2 ((gb cs B.toNat + i) % 4294967296) 1 A 0 0) ∧ Below w.heap.size w w' from touch_19 A B i cs hc g w hg A0 (by omega) B0 (by omega) i0 i1)
  have HC := hide hc
  clear hc
  go_enter Try.func15, Try.ntmps15
  go_wp2_with fail
  refine (D.out _).mono ?_
  rintro e w1 ⟨rfl, hb⟩
  have HB := hide (boxed_of hb)
  have hz : w.heap.size + 1 + 1 < w1.heap.size := by have := hb.size; simp at this; omega
  have hz0 : w.heap.size < w1.heap.size := by omega
  have hz1 : w.heap.size + 1 < w1.heap.size := by omega
  clear hb
  unfold insnV
  go_upto_region 13 with (fail)
  refine boxed_insn HB.out ?_
  intro w2 hB2 hx2
  have x0 := hx2.cell 0
  have x1 := hx2.cell 1
  have x2 := hx2.cell 2
  have x3 := hx2.cell 3
  have HB2 := hide hB2
  clear HB hB2 hz hz0 hz1 hx2
  generalize w1.heap.size = xb at *
  have cp := fun i => HB2.out.cpu.frozen i
  have c16 : w2.cell? ⟨w.heap.size, 16, none⟩ = some (.int .u32 (gb cs 16)) := (HB2.out.cpu.cell 16).trans (u32A_get cs 16 (by rw [HC.out.1]; decide))
  have cA : w2.cell? ⟨w.heap.size, A.toNat, none⟩ = some (.int .u32 (gb cs A.toNat)) := (HB2.out.cpu.cell _).trans (u32A_get cs _ (by rw [HC.out.1]; omega))
  have cB : w2.cell? ⟨w.heap.size, B.toNat, none⟩ = some (.int .u32 (gb cs B.toNat)) := (HB2.out.cpu.cell _).trans (u32A_get cs _ (by rw [HC.out.1]; omega))
  clear c16 cA cB cp
  refine wp_region_any (by kernel_rfl) ?_
  change wpAny _ _ _ _ _ _ _ (World.drew _)
  refine wpAny_ready (rs := [0, 1]) (by kernel_rfl) (by simp) ?_
  refine AllReady.cons rfl (fun K hK => ?_) ?_
  · refine step_cpu_load (.tmp 2) HB2.out.drew.cpu rfl HC.out.1 ?_
    refine hK _ _ ?_
    clear hK K
    refine wpAny_ready (rs := [1]) (by kernel_rfl) (by simp) ?_
    refine AllReady.cons rfl (fun K hK => ?_) AllReady.nil
    · go_simp
      refine hK _ _ ?_
      clear hK K
      refine wpAny_ready (rs := [2]) (by kernel_rfl) (by simp) ?_
      refine AllReady.cons rfl (fun K hK => ?_) AllReady.nil
      · go_simp
        go_at_call 20
        refine (R.out _ _ HB2.out.drew.cpu).mono ?_
        rintro e w4 ⟨rfl, hb4⟩
        have HB4 := hide (HB2.out.drew.later hb4)
        clear hb4
        go_simp
        refine hK _ _ ?_
        clear hK K
        refine wpAny_ready (rs := [3]) (by kernel_rfl) (by simp) ?_
        refine AllReady.cons rfl (fun K hK => ?_) AllReady.nil
        refine step_cpu_store (.tmp 4) (.tmp 51) cs HB4.out.res rfl rfl HC.out.1 ?_
        refine hK _ _ ?_
        clear hK K
        refine wpAny_ready (rs := [4]) (by kernel_rfl) (by simp) ?_
        refine AllReady.cons rfl (fun K hK => ?_) AllReady.nil
        refine step_act_store (.tmp 5) (.tmp 53) 2 ((gb cs B.toNat + i) % 4294967296) 1 A 0 0 (HB4.out.row cs HC.out.1).act rfl rfl ?_
        refine hK _ _ ?_
        clear hK K
        refine wpAny_done (by kernel_rfl) ?_ _
        go_wp2
        have HE := HB4.out.end_ cs 2 ((gb cs B.toNat + i) % 4294967296) 1 A 0 0
        refine bodyPost_ret (v := .tuple #[.agg (u32A cs), actV 2 ((gb cs B.toNat + i) % 4294967296) 1 A 0 0]) ?_ rfl ?_
        · exact step_results (p := 4) (q := 5) rfl rfl rfl HC.out.1 HE.1 HE.2.1
        · exact ⟨rfl, HE.2.2⟩
  refine AllReady.cons rfl (fun K hK => ?_) AllReady.nil
  · go_simp
    refine hK _ _ ?_
    clear hK K
    refine wpAny_ready (rs := [0, 2]) (by kernel_rfl) (by simp) ?_
    refine AllReady.cons rfl (fun K hK => ?_) ?_
    · refine step_cpu_load (.tmp 2) HB2.out.drew.cpu rfl HC.out.1 ?_
      refine hK _ _ ?_
      clear hK K
      refine wpAny_ready (rs := [2]) (by kernel_rfl) (by simp) ?_
      refine AllReady.cons rfl (fun K hK => ?_) AllReady.nil
      · go_simp
        go_at_call 20
        refine (R.out _ _ HB2.out.drew.cpu).mono ?_
        rintro e w4 ⟨rfl, hb4⟩
        have HB4 := hide (HB2.out.drew.later hb4)
        clear hb4
        go_simp
        refine hK _ _ ?_
        clear hK K
        refine wpAny_ready (rs := [3]) (by kernel_rfl) (by simp) ?_
        refine AllReady.cons rfl (fun K hK => ?_) AllReady.nil
        refine step_cpu_store (.tmp 4) (.tmp 51) cs HB4.out.res rfl rfl HC.out.1 ?_
        refine hK _ _ ?_
        clear hK K
        refine wpAny_ready (rs := [4]) (by kernel_rfl) (by simp) ?_
        refine AllReady.cons rfl (fun K hK => ?_) AllReady.nil
        refine step_act_store (.tmp 5) (.tmp 53) 2 ((gb cs B.toNat + i) % 4294967296) 1 A 0 0 (HB4.out.row cs HC.out.1).act rfl rfl ?_
        refine hK _ _ ?_
        clear hK K
        refine wpAny_done (by kernel_rfl) ?_ _
        go_wp2
        have HE := HB4.out.end_ cs 2 ((gb cs B.toNat + i) % 4294967296) 1 A 0 0
        refine bodyPost_ret (v := .tuple #[.agg (u32A cs), actV 2 ((gb cs B.toNat + i) % 4294967296) 1 A 0 0]) ?_ rfl ?_
        · exact step_results (p := 4) (q := 5) rfl rfl rfl HC.out.1 HE.1 HE.2.1
        · exact ⟨rfl, HE.2.2⟩
    refine AllReady.cons rfl (fun K hK => ?_) AllReady.nil
    · go_simp
      go_at_call 20
      refine (R.out _ _ HB2.out.drew.cpu).mono ?_
      rintro e w4 ⟨rfl, hb4⟩
      have HB4 := hide (HB2.out.drew.later hb4)
      clear hb4
      go_simp
      refine hK _ _ ?_
      clear hK K
      refine wpAny_ready (rs := [0]) (by kernel_rfl) (by simp) ?_
      refine AllReady.cons rfl (fun K hK => ?_) AllReady.nil
      · refine step_cpu_load (.tmp 2) HB4.out.cpu rfl HC.out.1 ?_
        refine hK _ _ ?_
        clear hK K
        refine wpAny_ready (rs := [3]) (by kernel_rfl) (by simp) ?_
        refine AllReady.cons rfl (fun K hK => ?_) AllReady.nil
        refine step_cpu_store (.tmp 4) (.tmp 51) cs HB4.out.res rfl rfl HC.out.1 ?_
        refine hK _ _ ?_
        clear hK K
        refine wpAny_ready (rs := [4]) (by kernel_rfl) (by simp) ?_
        refine AllReady.cons rfl (fun K hK => ?_) AllReady.nil
        refine step_act_store (.tmp 5) (.tmp 53) 2 ((gb cs B.toNat + i) % 4294967296) 1 A 0 0 (HB4.out.row cs HC.out.1).act rfl rfl ?_
        refine hK _ _ ?_
        clear hK K
        refine wpAny_done (by kernel_rfl) ?_ _
        go_wp2
        have HE := HB4.out.end_ cs 2 ((gb cs B.toNat + i) % 4294967296) 1 A 0 0
        refine bodyPost_ret (v := .tuple #[.agg (u32A cs), actV 2 ((gb cs B.toNat + i) % 4294967296) 1 A 0 0]) ?_ rfl ?_
        · exact step_results (p := 4) (q := 5) rfl rfl rfl HC.out.1 HE.1 HE.2.1
        · exact ⟨rfl, HE.2.2⟩

set_option maxRecDepth 100000 in
set_option maxHeartbeats 2000000 in
theorem step_20 (v : Int) (cs : List Int) (hc : IsCpu cs) (v0 : 0 ≤ v) (v1 : v < 4294967296) (o A B i : Int) (ho : v % 256 = o) (hA : v / 256 % 16 = A) (hB : v / 4096 % 16 = B) (hi : immOf v = i) (ho20 : o = 20) (w : World) :
    Calls Try.prog 15 #[.agg (u32A cs), .int .u32 v] w fun e w' => e = .returned (.tuple #[.agg (u32A cs), actV 3 ((gb cs B.toNat + i) % 4294967296) 1 0 (gb cs A.toNat % 256) 0]) ∧ Below w.heap.size w w' := by
  have D := hide (fun w => decode_ok v w v0 v1 (by omega) (by omega))
  rw [ho, hA, hB, hi] at D
  have A0 : 0 ≤ A := by omega
  have A1 : A < 16 := by omega
  have B0 : 0 ≤ B := by omega
  have B1 : B < 16 := by omega
  obtain ⟨i0, i1⟩ := immOf_wf v v0 v1
  rw [hi] at i0 i1
  clear ho hA hB hi v0 v1
  have hs : (u32A cs).size = 17 := by rw [size_u32A, hc.1]
  obtain ⟨p0, p1⟩ := hc.get 16
  obtain ⟨a0, a1⟩ := hc.get A.toNat
  obtain ⟨b0, b1⟩ := hc.get B.toNat
  subst ho20
  have R := hide (fun (g : Nat) (w : World) (hg : Blk w g 35 (u32A cs)) => show Calls Try.prog 20 #[.pointer (some ⟨g, 0, none⟩), insnV 20 A B i] w fun e w' => e = .returned (actV 3 ((gb cs B.toNat + i) % 4294967296) 1 0 (gb cs A.toNat % 256) 0) ∧ Below w.heap.size w w' from touch_20 A B i cs hc g w hg A0 (by omega) B0 (by omega) i0 i1)
  have HC := hide hc
  clear hc
  go_enter Try.func15, Try.ntmps15
  go_wp2_with fail
  refine (D.out _).mono ?_
  rintro e w1 ⟨rfl, hb⟩
  have HB := hide (boxed_of hb)
  have hz : w.heap.size + 1 + 1 < w1.heap.size := by have := hb.size; simp at this; omega
  have hz0 : w.heap.size < w1.heap.size := by omega
  have hz1 : w.heap.size + 1 < w1.heap.size := by omega
  clear hb
  unfold insnV
  go_upto_region 13 with (fail)
  refine boxed_insn HB.out ?_
  intro w2 hB2 hx2
  have x0 := hx2.cell 0
  have x1 := hx2.cell 1
  have x2 := hx2.cell 2
  have x3 := hx2.cell 3
  have HB2 := hide hB2
  clear HB hB2 hz hz0 hz1 hx2
  generalize w1.heap.size = xb at *
  have cp := fun i => HB2.out.cpu.frozen i
  have c16 : w2.cell? ⟨w.heap.size, 16, none⟩ = some (.int .u32 (gb cs 16)) := (HB2.out.cpu.cell 16).trans (u32A_get cs 16 (by rw [HC.out.1]; decide))
  have cA : w2.cell? ⟨w.heap.size, A.toNat, none⟩ = some (.int .u32 (gb cs A.toNat)) := (HB2.out.cpu.cell _).trans (u32A_get cs _ (by rw [HC.out.1]; omega))
  have cB : w2.cell? ⟨w.heap.size, B.toNat, none⟩ = some (.int .u32 (gb cs B.toNat)) := (HB2.out.cpu.cell _).trans (u32A_get cs _ (by rw [HC.out.1]; omega))
  clear c16 cA cB cp
  refine wp_region_any (by kernel_rfl) ?_
  change wpAny _ _ _ _ _ _ _ (World.drew _)
  refine wpAny_ready (rs := [0, 1]) (by kernel_rfl) (by simp) ?_
  refine AllReady.cons rfl (fun K hK => ?_) ?_
  · refine step_cpu_load (.tmp 2) HB2.out.drew.cpu rfl HC.out.1 ?_
    refine hK _ _ ?_
    clear hK K
    refine wpAny_ready (rs := [1]) (by kernel_rfl) (by simp) ?_
    refine AllReady.cons rfl (fun K hK => ?_) AllReady.nil
    · go_simp
      refine hK _ _ ?_
      clear hK K
      refine wpAny_ready (rs := [2]) (by kernel_rfl) (by simp) ?_
      refine AllReady.cons rfl (fun K hK => ?_) AllReady.nil
      · go_simp
        go_at_call 20
        refine (R.out _ _ HB2.out.drew.cpu).mono ?_
        rintro e w4 ⟨rfl, hb4⟩
        have HB4 := hide (HB2.out.drew.later hb4)
        clear hb4
        go_simp
        refine hK _ _ ?_
        clear hK K
        refine wpAny_ready (rs := [3]) (by kernel_rfl) (by simp) ?_
        refine AllReady.cons rfl (fun K hK => ?_) AllReady.nil
        refine step_cpu_store (.tmp 4) (.tmp 51) cs HB4.out.res rfl rfl HC.out.1 ?_
        refine hK _ _ ?_
        clear hK K
        refine wpAny_ready (rs := [4]) (by kernel_rfl) (by simp) ?_
        refine AllReady.cons rfl (fun K hK => ?_) AllReady.nil
        refine step_act_store (.tmp 5) (.tmp 53) 3 ((gb cs B.toNat + i) % 4294967296) 1 0 (gb cs A.toNat % 256) 0 (HB4.out.row cs HC.out.1).act rfl rfl ?_
        refine hK _ _ ?_
        clear hK K
        refine wpAny_done (by kernel_rfl) ?_ _
        go_wp2
        have HE := HB4.out.end_ cs 3 ((gb cs B.toNat + i) % 4294967296) 1 0 (gb cs A.toNat % 256) 0
        refine bodyPost_ret (v := .tuple #[.agg (u32A cs), actV 3 ((gb cs B.toNat + i) % 4294967296) 1 0 (gb cs A.toNat % 256) 0]) ?_ rfl ?_
        · exact step_results (p := 4) (q := 5) rfl rfl rfl HC.out.1 HE.1 HE.2.1
        · exact ⟨rfl, HE.2.2⟩
  refine AllReady.cons rfl (fun K hK => ?_) AllReady.nil
  · go_simp
    refine hK _ _ ?_
    clear hK K
    refine wpAny_ready (rs := [0, 2]) (by kernel_rfl) (by simp) ?_
    refine AllReady.cons rfl (fun K hK => ?_) ?_
    · refine step_cpu_load (.tmp 2) HB2.out.drew.cpu rfl HC.out.1 ?_
      refine hK _ _ ?_
      clear hK K
      refine wpAny_ready (rs := [2]) (by kernel_rfl) (by simp) ?_
      refine AllReady.cons rfl (fun K hK => ?_) AllReady.nil
      · go_simp
        go_at_call 20
        refine (R.out _ _ HB2.out.drew.cpu).mono ?_
        rintro e w4 ⟨rfl, hb4⟩
        have HB4 := hide (HB2.out.drew.later hb4)
        clear hb4
        go_simp
        refine hK _ _ ?_
        clear hK K
        refine wpAny_ready (rs := [3]) (by kernel_rfl) (by simp) ?_
        refine AllReady.cons rfl (fun K hK => ?_) AllReady.nil
        refine step_cpu_store (.tmp 4) (.tmp 51) cs HB4.out.res rfl rfl HC.out.1 ?_
        refine hK _ _ ?_
        clear hK K
        refine wpAny_ready (rs := [4]) (by kernel_rfl) (by simp) ?_
        refine AllReady.cons rfl (fun K hK => ?_) AllReady.nil
        refine step_act_store (.tmp 5) (.tmp 53) 3 ((gb cs B.toNat + i) % 4294967296) 1 0 (gb cs A.toNat % 256) 0 (HB4.out.row cs HC.out.1).act rfl rfl ?_
        refine hK _ _ ?_
        clear hK K
        refine wpAny_done (by kernel_rfl) ?_ _
        go_wp2
        have HE := HB4.out.end_ cs 3 ((gb cs B.toNat + i) % 4294967296) 1 0 (gb cs A.toNat % 256) 0
        refine bodyPost_ret (v := .tuple #[.agg (u32A cs), actV 3 ((gb cs B.toNat + i) % 4294967296) 1 0 (gb cs A.toNat % 256) 0]) ?_ rfl ?_
        · exact step_results (p := 4) (q := 5) rfl rfl rfl HC.out.1 HE.1 HE.2.1
        · exact ⟨rfl, HE.2.2⟩
    refine AllReady.cons rfl (fun K hK => ?_) AllReady.nil
    · go_simp
      go_at_call 20
      refine (R.out _ _ HB2.out.drew.cpu).mono ?_
      rintro e w4 ⟨rfl, hb4⟩
      have HB4 := hide (HB2.out.drew.later hb4)
      clear hb4
      go_simp
      refine hK _ _ ?_
      clear hK K
      refine wpAny_ready (rs := [0]) (by kernel_rfl) (by simp) ?_
      refine AllReady.cons rfl (fun K hK => ?_) AllReady.nil
      · refine step_cpu_load (.tmp 2) HB4.out.cpu rfl HC.out.1 ?_
        refine hK _ _ ?_
        clear hK K
        refine wpAny_ready (rs := [3]) (by kernel_rfl) (by simp) ?_
        refine AllReady.cons rfl (fun K hK => ?_) AllReady.nil
        refine step_cpu_store (.tmp 4) (.tmp 51) cs HB4.out.res rfl rfl HC.out.1 ?_
        refine hK _ _ ?_
        clear hK K
        refine wpAny_ready (rs := [4]) (by kernel_rfl) (by simp) ?_
        refine AllReady.cons rfl (fun K hK => ?_) AllReady.nil
        refine step_act_store (.tmp 5) (.tmp 53) 3 ((gb cs B.toNat + i) % 4294967296) 1 0 (gb cs A.toNat % 256) 0 (HB4.out.row cs HC.out.1).act rfl rfl ?_
        refine hK _ _ ?_
        clear hK K
        refine wpAny_done (by kernel_rfl) ?_ _
        go_wp2
        have HE := HB4.out.end_ cs 3 ((gb cs B.toNat + i) % 4294967296) 1 0 (gb cs A.toNat % 256) 0
        refine bodyPost_ret (v := .tuple #[.agg (u32A cs), actV 3 ((gb cs B.toNat + i) % 4294967296) 1 0 (gb cs A.toNat % 256) 0]) ?_ rfl ?_
        · exact step_results (p := 4) (q := 5) rfl rfl rfl HC.out.1 HE.1 HE.2.1
        · exact ⟨rfl, HE.2.2⟩

set_option maxRecDepth 100000 in
set_option maxHeartbeats 2000000 in
theorem step_27 (v : Int) (cs : List Int) (hc : IsCpu cs) (v0 : 0 ≤ v) (v1 : v < 4294967296) (o A B i : Int) (ho : v % 256 = o) (hA : v / 256 % 16 = A) (hB : v / 4096 % 16 = B) (hi : immOf v = i) (ho27 : o = 27) (w : World) :
    Calls Try.prog 15 #[.agg (u32A cs), .int .u32 v] w fun e w' => e = .returned (.tuple #[.agg (u32A cs), actV 4 ((gb cs B.toNat + i) % 4294967296) 4 0 (gb cs A.toNat) (gb cs 15)]) ∧ Below w.heap.size w w' := by
  have D := hide (fun w => decode_ok v w v0 v1 (by omega) (by omega))
  rw [ho, hA, hB, hi] at D
  have A0 : 0 ≤ A := by omega
  have A1 : A < 16 := by omega
  have B0 : 0 ≤ B := by omega
  have B1 : B < 16 := by omega
  obtain ⟨i0, i1⟩ := immOf_wf v v0 v1
  rw [hi] at i0 i1
  clear ho hA hB hi v0 v1
  have hs : (u32A cs).size = 17 := by rw [size_u32A, hc.1]
  obtain ⟨p0, p1⟩ := hc.get 16
  obtain ⟨a0, a1⟩ := hc.get A.toNat
  obtain ⟨b0, b1⟩ := hc.get B.toNat
  subst ho27
  have R := hide (fun (g : Nat) (w : World) (hg : Blk w g 35 (u32A cs)) => show Calls Try.prog 20 #[.pointer (some ⟨g, 0, none⟩), insnV 27 A B i] w fun e w' => e = .returned (actV 4 ((gb cs B.toNat + i) % 4294967296) 4 0 (gb cs A.toNat) (gb cs 15)) ∧ Below w.heap.size w w' from touch_27 A B i cs hc g w hg A0 (by omega) B0 (by omega) i0 i1)
  have HC := hide hc
  clear hc
  go_enter Try.func15, Try.ntmps15
  go_wp2_with fail
  refine (D.out _).mono ?_
  rintro e w1 ⟨rfl, hb⟩
  have HB := hide (boxed_of hb)
  have hz : w.heap.size + 1 + 1 < w1.heap.size := by have := hb.size; simp at this; omega
  have hz0 : w.heap.size < w1.heap.size := by omega
  have hz1 : w.heap.size + 1 < w1.heap.size := by omega
  clear hb
  unfold insnV
  go_upto_region 13 with (fail)
  refine boxed_insn HB.out ?_
  intro w2 hB2 hx2
  have x0 := hx2.cell 0
  have x1 := hx2.cell 1
  have x2 := hx2.cell 2
  have x3 := hx2.cell 3
  have HB2 := hide hB2
  clear HB hB2 hz hz0 hz1 hx2
  generalize w1.heap.size = xb at *
  have cp := fun i => HB2.out.cpu.frozen i
  have c16 : w2.cell? ⟨w.heap.size, 16, none⟩ = some (.int .u32 (gb cs 16)) := (HB2.out.cpu.cell 16).trans (u32A_get cs 16 (by rw [HC.out.1]; decide))
  have cA : w2.cell? ⟨w.heap.size, A.toNat, none⟩ = some (.int .u32 (gb cs A.toNat)) := (HB2.out.cpu.cell _).trans (u32A_get cs _ (by rw [HC.out.1]; omega))
  have cB : w2.cell? ⟨w.heap.size, B.toNat, none⟩ = some (.int .u32 (gb cs B.toNat)) := (HB2.out.cpu.cell _).trans (u32A_get cs _ (by rw [HC.out.1]; omega))
  clear c16 cA cB cp
  refine wp_region_any (by kernel_rfl) ?_
  change wpAny _ _ _ _ _ _ _ (World.drew _)
  refine wpAny_ready (rs := [0, 1]) (by kernel_rfl) (by simp) ?_
  refine AllReady.cons rfl (fun K hK => ?_) ?_
  · refine step_cpu_load (.tmp 2) HB2.out.drew.cpu rfl HC.out.1 ?_
    refine hK _ _ ?_
    clear hK K
    refine wpAny_ready (rs := [1]) (by kernel_rfl) (by simp) ?_
    refine AllReady.cons rfl (fun K hK => ?_) AllReady.nil
    · go_simp
      refine hK _ _ ?_
      clear hK K
      refine wpAny_ready (rs := [2]) (by kernel_rfl) (by simp) ?_
      refine AllReady.cons rfl (fun K hK => ?_) AllReady.nil
      · go_simp
        go_at_call 20
        refine (R.out _ _ HB2.out.drew.cpu).mono ?_
        rintro e w4 ⟨rfl, hb4⟩
        have HB4 := hide (HB2.out.drew.later hb4)
        clear hb4
        go_simp
        refine hK _ _ ?_
        clear hK K
        refine wpAny_ready (rs := [3]) (by kernel_rfl) (by simp) ?_
        refine AllReady.cons rfl (fun K hK => ?_) AllReady.nil
        refine step_cpu_store (.tmp 4) (.tmp 51) cs HB4.out.res rfl rfl HC.out.1 ?_
        refine hK _ _ ?_
        clear hK K
        refine wpAny_ready (rs := [4]) (by kernel_rfl) (by simp) ?_
        refine AllReady.cons rfl (fun K hK => ?_) AllReady.nil
        refine step_act_store (.tmp 5) (.tmp 53) 4 ((gb cs B.toNat + i) % 4294967296) 4 0 (gb cs A.toNat) (gb cs 15) (HB4.out.row cs HC.out.1).act rfl rfl ?_
        refine hK _ _ ?_
        clear hK K
        refine wpAny_done (by kernel_rfl) ?_ _
        go_wp2
        have HE := HB4.out.end_ cs 4 ((gb cs B.toNat + i) % 4294967296) 4 0 (gb cs A.toNat) (gb cs 15)
        refine bodyPost_ret (v := .tuple #[.agg (u32A cs), actV 4 ((gb cs B.toNat + i) % 4294967296) 4 0 (gb cs A.toNat) (gb cs 15)]) ?_ rfl ?_
        · exact step_results (p := 4) (q := 5) rfl rfl rfl HC.out.1 HE.1 HE.2.1
        · exact ⟨rfl, HE.2.2⟩
  refine AllReady.cons rfl (fun K hK => ?_) AllReady.nil
  · go_simp
    refine hK _ _ ?_
    clear hK K
    refine wpAny_ready (rs := [0, 2]) (by kernel_rfl) (by simp) ?_
    refine AllReady.cons rfl (fun K hK => ?_) ?_
    · refine step_cpu_load (.tmp 2) HB2.out.drew.cpu rfl HC.out.1 ?_
      refine hK _ _ ?_
      clear hK K
      refine wpAny_ready (rs := [2]) (by kernel_rfl) (by simp) ?_
      refine AllReady.cons rfl (fun K hK => ?_) AllReady.nil
      · go_simp
        go_at_call 20
        refine (R.out _ _ HB2.out.drew.cpu).mono ?_
        rintro e w4 ⟨rfl, hb4⟩
        have HB4 := hide (HB2.out.drew.later hb4)
        clear hb4
        go_simp
        refine hK _ _ ?_
        clear hK K
        refine wpAny_ready (rs := [3]) (by kernel_rfl) (by simp) ?_
        refine AllReady.cons rfl (fun K hK => ?_) AllReady.nil
        refine step_cpu_store (.tmp 4) (.tmp 51) cs HB4.out.res rfl rfl HC.out.1 ?_
        refine hK _ _ ?_
        clear hK K
        refine wpAny_ready (rs := [4]) (by kernel_rfl) (by simp) ?_
        refine AllReady.cons rfl (fun K hK => ?_) AllReady.nil
        refine step_act_store (.tmp 5) (.tmp 53) 4 ((gb cs B.toNat + i) % 4294967296) 4 0 (gb cs A.toNat) (gb cs 15) (HB4.out.row cs HC.out.1).act rfl rfl ?_
        refine hK _ _ ?_
        clear hK K
        refine wpAny_done (by kernel_rfl) ?_ _
        go_wp2
        have HE := HB4.out.end_ cs 4 ((gb cs B.toNat + i) % 4294967296) 4 0 (gb cs A.toNat) (gb cs 15)
        refine bodyPost_ret (v := .tuple #[.agg (u32A cs), actV 4 ((gb cs B.toNat + i) % 4294967296) 4 0 (gb cs A.toNat) (gb cs 15)]) ?_ rfl ?_
        · exact step_results (p := 4) (q := 5) rfl rfl rfl HC.out.1 HE.1 HE.2.1
        · exact ⟨rfl, HE.2.2⟩
    refine AllReady.cons rfl (fun K hK => ?_) AllReady.nil
    · go_simp
      go_at_call 20
      refine (R.out _ _ HB2.out.drew.cpu).mono ?_
      rintro e w4 ⟨rfl, hb4⟩
      have HB4 := hide (HB2.out.drew.later hb4)
      clear hb4
      go_simp
      refine hK _ _ ?_
      clear hK K
      refine wpAny_ready (rs := [0]) (by kernel_rfl) (by simp) ?_
      refine AllReady.cons rfl (fun K hK => ?_) AllReady.nil
      · refine step_cpu_load (.tmp 2) HB4.out.cpu rfl HC.out.1 ?_
        refine hK _ _ ?_
        clear hK K
        refine wpAny_ready (rs := [3]) (by kernel_rfl) (by simp) ?_
        refine AllReady.cons rfl (fun K hK => ?_) AllReady.nil
        refine step_cpu_store (.tmp 4) (.tmp 51) cs HB4.out.res rfl rfl HC.out.1 ?_
        refine hK _ _ ?_
        clear hK K
        refine wpAny_ready (rs := [4]) (by kernel_rfl) (by simp) ?_
        refine AllReady.cons rfl (fun K hK => ?_) AllReady.nil
        refine step_act_store (.tmp 5) (.tmp 53) 4 ((gb cs B.toNat + i) % 4294967296) 4 0 (gb cs A.toNat) (gb cs 15) (HB4.out.row cs HC.out.1).act rfl rfl ?_
        refine hK _ _ ?_
        clear hK K
        refine wpAny_done (by kernel_rfl) ?_ _
        go_wp2
        have HE := HB4.out.end_ cs 4 ((gb cs B.toNat + i) % 4294967296) 4 0 (gb cs A.toNat) (gb cs 15)
        refine bodyPost_ret (v := .tuple #[.agg (u32A cs), actV 4 ((gb cs B.toNat + i) % 4294967296) 4 0 (gb cs A.toNat) (gb cs 15)]) ?_ rfl ?_
        · exact step_results (p := 4) (q := 5) rfl rfl rfl HC.out.1 HE.1 HE.2.1
        · exact ⟨rfl, HE.2.2⟩

end Go.Proofs.Ytkoibmpncfbnpaa
