/-
  Finish of parapet/insn and of the reference: the processor with the memory's answer. (Written by gen_fin.py.)
-/
import Derived.Test.YtkoibmpncfbnpaaInsnTouch
namespace Go.Proofs.Ytkoibmpncfbnpaa
open Go.ChangeShapes Go.WideShapes Go.ChangeAt Go.RowKit
set_option linter.unusedVariables false

/-- The processor behind an act: k its kind, z its size, r its register; v: what the memory said. -/
def finC (cs : List Int) (k z r v : Int) : List Int :=
  if k = 2 then (cs.set r.toNat (if z = 1 then v % 256 else v)).set 16 ((gb cs 16 + 4) % 4294967296)
  else if k = 4 then (cs.set 15 v).set 16 ((gb cs 16 + 4) % 4294967296)
  else if k = 3 then cs.set 16 ((gb cs 16 + 4) % 4294967296)
  else cs

theorem fin_from {P : Program} {c : Code} {Q : Exit → Act → World → Prop} {a : Act} {w : World} {cs : List Int} {fs zs : Array Value} (hf : fs.size = 6) (hz : zs.size = 17)
    (k : ∀ W' : World, Boxed w W' cs w.heap.size (w.heap.size + 1 + 1) (w.heap.size + 1) → Blk W' (w.heap.size + 1) 37 fs → Code.wp P c Q a W') :
    Code.wp P c Q a (((w.alloc (.cells (u32A cs) 35)).alloc (.cells fs 37)).alloc (.cells zs 35)) := by
  have e1 : (w.alloc (.cells (u32A cs) 35)).heap.size = w.heap.size + 1 := by simp
  have e2 : ((w.alloc (.cells (u32A cs) 35)).alloc (.cells fs 37)).heap.size = w.heap.size + 1 + 1 := by simp
  have h1 : Blk (((w.alloc (.cells (u32A cs) 35)).alloc (.cells fs 37)).alloc (.cells zs 35)) (w.heap.size + 1) 37 fs := by
    have h := Blk.new (w.alloc (.cells (u32A cs) 35)) 37 fs
    rw [e1] at h
    exact h.alloc _
  refine k _ ⟨((Blk.new w 35 (u32A cs)).alloc _).alloc _, ⟨zs, hz, ?_⟩, ⟨fs, hf, h1⟩, (((Below.refl _ _).alloc (Nat.le_refl _) _).alloc (by simp) _ |>.alloc (by simp; omega) _), by omega, by omega⟩ h1
  have h := Blk.new ((w.alloc (.cells (u32A cs) 35)).alloc (.cells fs 37)) 35 zs
  rw [e2] at h
  exact h

theorem fin_frame {P : Program} {c : Code} {Q : Exit → Act → World → Prop} {a : Act} {w W : World} {ds : List Int} {g r b : Nat} (h : Boxed w W ds g r b)
    (k : ∀ (W' : World) (ds' : List Int), Boxed w W' ds' g r b → Hid (ds' = ds) → Code.wp P c Q a W') : Code.wp P c Q a W := k W ds h rfl

set_option maxRecDepth 100000 in
set_option maxHeartbeats 1000000 in
theorem fin_load1 (cs : List Int) (hc : IsCpu cs) (ad r va ol v : Int) (v0 : 0 ≤ v) (v1 : v < 4294967296) (r0 : 0 ≤ r) (r1 : r < 16) (w : World) :
    Calls Try.prog 17 #[.agg (u32A cs), actV 2 ad 1 r va ol, .int .u32 v] w fun e w' => e = .returned (.agg (u32A (finC cs 2 1 r v))) ∧ Below w.heap.size w w' := by
  have hs : (u32A cs).size = 17 := by rw [size_u32A, hc.1]
  obtain ⟨p0, p1⟩ := hc.get 16
  have HC := hide hc
  clear hc
  unfold actV
  go_enter Try.func17, Try.ntmps17
  go_upto_region 1 with (fail)
  refine fin_from rfl rfl ?_
  intro w2 hB ha
  have a0 := ha.cell 0
  have a2 := ha.cell 2
  have a3 := ha.cell 3
  have HB := hide hB
  have g1 : w.heap.size ≠ w.heap.size + 1 := by omega
  have g2 : w.heap.size + 1 ≠ w.heap.size := by omega
  have cp := fun i => HB.out.cpu.frozen i
  have c16 : w2.cell? ⟨w.heap.size, 16, none⟩ = some (.int .u32 (gb cs 16)) := (HB.out.cpu.cell 16).trans (u32A_get cs 16 (by rw [HC.out.1]; decide))
  have c15 : w2.cell? ⟨w.heap.size, 15, none⟩ = some (.int .u32 (gb cs 15)) := (HB.out.cpu.cell 15).trans (u32A_get cs 15 (by rw [HC.out.1]; decide))
  have cr : w2.cell? ⟨w.heap.size, r.toNat, none⟩ = some (.int .u32 (gb cs r.toNat)) := (HB.out.cpu.cell _).trans (u32A_get cs _ (by rw [HC.out.1]; omega))
  clear hB ha
  go_upto_region 13 with ((go_at_call 19; refine (register_yes _ _ (by omega) (by omega)).mono ?_; rintro e w' ⟨rfl, rfl⟩))
  refine fin_frame ((HB.out.set r.toNat _).set 16 _) ?_
  intro w3 ds hB3 hds
  have HB3 := hide hB3
  have HL := hide (show ds.length = 17 by rw [hds.out, List.length_set, List.length_set]; exact HC.out.1)
  clear hB3 a0 a2 a3 cp c16 c15 HB
  go_wp2_with (first
    | (with_reducible refine wp_region_lit (id := 13) ?_)
    | ((with_reducible refine cpu_load (.tmp 3) HB3.out.cpu ?_ ?_ ?_); (· rfl); (· exact HL.out))
    | ((with_reducible refine cpu_store (.tmp 6) (.tmp 39) ds HB3.out.res ?_ ?_ ?_ ?_); (· rfl); (· rfl); (· exact HL.out)))
  have HR := HB3.out.row ds HL.out
  have hrow : Blk (w3.setRow (w.heap.size + 1 + 1) (u32A ds)) (w.heap.size + 1 + 1) 35 (u32A ds) := by
    obtain ⟨_, _, h⟩ := HB3.out.res
    exact h.row _
  refine bodyPost_ret (v := .agg (u32A ds)) ?_ rfl ?_
  · exact finish_results (p := 6) rfl rfl HL.out hrow
  · refine ⟨?_, HR.below⟩
    rw [hds.out]
    simp [finC]

set_option maxRecDepth 100000 in
set_option maxHeartbeats 1000000 in
theorem fin_load4 (cs : List Int) (hc : IsCpu cs) (ad r va ol v : Int) (v0 : 0 ≤ v) (v1 : v < 4294967296) (r0 : 0 ≤ r) (r1 : r < 16) (w : World) :
    Calls Try.prog 17 #[.agg (u32A cs), actV 2 ad 4 r va ol, .int .u32 v] w fun e w' => e = .returned (.agg (u32A (finC cs 2 4 r v))) ∧ Below w.heap.size w w' := by
  have hs : (u32A cs).size = 17 := by rw [size_u32A, hc.1]
  obtain ⟨p0, p1⟩ := hc.get 16
  have HC := hide hc
  clear hc
  unfold actV
  go_enter Try.func17, Try.ntmps17
  go_upto_region 1 with (fail)
  refine fin_from rfl rfl ?_
  intro w2 hB ha
  have a0 := ha.cell 0
  have a2 := ha.cell 2
  have a3 := ha.cell 3
  have HB := hide hB
  have g1 : w.heap.size ≠ w.heap.size + 1 := by omega
  have g2 : w.heap.size + 1 ≠ w.heap.size := by omega
  have cp := fun i => HB.out.cpu.frozen i
  have c16 : w2.cell? ⟨w.heap.size, 16, none⟩ = some (.int .u32 (gb cs 16)) := (HB.out.cpu.cell 16).trans (u32A_get cs 16 (by rw [HC.out.1]; decide))
  have c15 : w2.cell? ⟨w.heap.size, 15, none⟩ = some (.int .u32 (gb cs 15)) := (HB.out.cpu.cell 15).trans (u32A_get cs 15 (by rw [HC.out.1]; decide))
  have cr : w2.cell? ⟨w.heap.size, r.toNat, none⟩ = some (.int .u32 (gb cs r.toNat)) := (HB.out.cpu.cell _).trans (u32A_get cs _ (by rw [HC.out.1]; omega))
  clear hB ha
  go_upto_region 13 with ((go_at_call 19; refine (register_yes _ _ (by omega) (by omega)).mono ?_; rintro e w' ⟨rfl, rfl⟩))
  refine fin_frame ((HB.out.set r.toNat _).set 16 _) ?_
  intro w3 ds hB3 hds
  have HB3 := hide hB3
  have HL := hide (show ds.length = 17 by rw [hds.out, List.length_set, List.length_set]; exact HC.out.1)
  clear hB3 a0 a2 a3 cp c16 c15 HB
  go_wp2_with (first
    | (with_reducible refine wp_region_lit (id := 13) ?_)
    | ((with_reducible refine cpu_load (.tmp 3) HB3.out.cpu ?_ ?_ ?_); (· rfl); (· exact HL.out))
    | ((with_reducible refine cpu_store (.tmp 6) (.tmp 39) ds HB3.out.res ?_ ?_ ?_ ?_); (· rfl); (· rfl); (· exact HL.out)))
  have HR := HB3.out.row ds HL.out
  have hrow : Blk (w3.setRow (w.heap.size + 1 + 1) (u32A ds)) (w.heap.size + 1 + 1) 35 (u32A ds) := by
    obtain ⟨_, _, h⟩ := HB3.out.res
    exact h.row _
  refine bodyPost_ret (v := .agg (u32A ds)) ?_ rfl ?_
  · exact finish_results (p := 6) rfl rfl HL.out hrow
  · refine ⟨?_, HR.below⟩
    rw [hds.out]
    simp [finC]

set_option maxRecDepth 100000 in
set_option maxHeartbeats 1000000 in
theorem fin_store (cs : List Int) (hc : IsCpu cs) (ad z r va ol v : Int) (v0 : 0 ≤ v) (v1 : v < 4294967296)  (w : World) :
    Calls Try.prog 17 #[.agg (u32A cs), actV 3 ad z r va ol, .int .u32 v] w fun e w' => e = .returned (.agg (u32A (finC cs 3 z r v))) ∧ Below w.heap.size w w' := by
  have hs : (u32A cs).size = 17 := by rw [size_u32A, hc.1]
  obtain ⟨p0, p1⟩ := hc.get 16
  have HC := hide hc
  clear hc
  unfold actV
  go_enter Try.func17, Try.ntmps17
  go_upto_region 1 with (fail)
  refine fin_from rfl rfl ?_
  intro w2 hB ha
  have a0 := ha.cell 0
  have a2 := ha.cell 2
  have a3 := ha.cell 3
  have HB := hide hB
  have g1 : w.heap.size ≠ w.heap.size + 1 := by omega
  have g2 : w.heap.size + 1 ≠ w.heap.size := by omega
  have cp := fun i => HB.out.cpu.frozen i
  have c16 : w2.cell? ⟨w.heap.size, 16, none⟩ = some (.int .u32 (gb cs 16)) := (HB.out.cpu.cell 16).trans (u32A_get cs 16 (by rw [HC.out.1]; decide))
  have c15 : w2.cell? ⟨w.heap.size, 15, none⟩ = some (.int .u32 (gb cs 15)) := (HB.out.cpu.cell 15).trans (u32A_get cs 15 (by rw [HC.out.1]; decide))
  clear hB ha
  go_upto_region 13 with (fail)
  refine fin_frame (HB.out.set 16 _) ?_
  intro w3 ds hB3 hds
  have HB3 := hide hB3
  have HL := hide (show ds.length = 17 by rw [hds.out, List.length_set]; exact HC.out.1)
  clear hB3 a0 a2 a3 cp c16 c15 HB
  go_wp2_with (first
    | (with_reducible refine wp_region_lit (id := 13) ?_)
    | ((with_reducible refine cpu_load (.tmp 3) HB3.out.cpu ?_ ?_ ?_); (· rfl); (· exact HL.out))
    | ((with_reducible refine cpu_store (.tmp 6) (.tmp 39) ds HB3.out.res ?_ ?_ ?_ ?_); (· rfl); (· rfl); (· exact HL.out)))
  have HR := HB3.out.row ds HL.out
  have hrow : Blk (w3.setRow (w.heap.size + 1 + 1) (u32A ds)) (w.heap.size + 1 + 1) 35 (u32A ds) := by
    obtain ⟨_, _, h⟩ := HB3.out.res
    exact h.row _
  refine bodyPost_ret (v := .agg (u32A ds)) ?_ rfl ?_
  · exact finish_results (p := 6) rfl rfl HL.out hrow
  · refine ⟨?_, HR.below⟩
    rw [hds.out]
    simp [finC]

set_option maxRecDepth 100000 in
set_option maxHeartbeats 1000000 in
theorem fin_cas (cs : List Int) (hc : IsCpu cs) (ad z r va ol v : Int) (v0 : 0 ≤ v) (v1 : v < 4294967296)  (w : World) :
    Calls Try.prog 17 #[.agg (u32A cs), actV 4 ad z r va ol, .int .u32 v] w fun e w' => e = .returned (.agg (u32A (finC cs 4 z r v))) ∧ Below w.heap.size w w' := by
  have hs : (u32A cs).size = 17 := by rw [size_u32A, hc.1]
  obtain ⟨p0, p1⟩ := hc.get 16
  have HC := hide hc
  clear hc
  unfold actV
  go_enter Try.func17, Try.ntmps17
  go_upto_region 1 with (fail)
  refine fin_from rfl rfl ?_
  intro w2 hB ha
  have a0 := ha.cell 0
  have a2 := ha.cell 2
  have a3 := ha.cell 3
  have HB := hide hB
  have g1 : w.heap.size ≠ w.heap.size + 1 := by omega
  have g2 : w.heap.size + 1 ≠ w.heap.size := by omega
  have cp := fun i => HB.out.cpu.frozen i
  have c16 : w2.cell? ⟨w.heap.size, 16, none⟩ = some (.int .u32 (gb cs 16)) := (HB.out.cpu.cell 16).trans (u32A_get cs 16 (by rw [HC.out.1]; decide))
  have c15 : w2.cell? ⟨w.heap.size, 15, none⟩ = some (.int .u32 (gb cs 15)) := (HB.out.cpu.cell 15).trans (u32A_get cs 15 (by rw [HC.out.1]; decide))
  clear hB ha
  go_upto_region 13 with (fail)
  refine fin_frame ((HB.out.set 15 _).set 16 _) ?_
  intro w3 ds hB3 hds
  have HB3 := hide hB3
  have HL := hide (show ds.length = 17 by rw [hds.out, List.length_set, List.length_set]; exact HC.out.1)
  clear hB3 a0 a2 a3 cp c16 c15 HB
  go_wp2_with (first
    | (with_reducible refine wp_region_lit (id := 13) ?_)
    | ((with_reducible refine cpu_load (.tmp 3) HB3.out.cpu ?_ ?_ ?_); (· rfl); (· exact HL.out))
    | ((with_reducible refine cpu_store (.tmp 6) (.tmp 39) ds HB3.out.res ?_ ?_ ?_ ?_); (· rfl); (· rfl); (· exact HL.out)))
  have HR := HB3.out.row ds HL.out
  have hrow : Blk (w3.setRow (w.heap.size + 1 + 1) (u32A ds)) (w.heap.size + 1 + 1) 35 (u32A ds) := by
    obtain ⟨_, _, h⟩ := HB3.out.res
    exact h.row _
  refine bodyPost_ret (v := .agg (u32A ds)) ?_ rfl ?_
  · exact finish_results (p := 6) rfl rfl HL.out hrow
  · refine ⟨?_, HR.below⟩
    rw [hds.out]
    simp [finC]

set_option maxRecDepth 100000 in
set_option maxHeartbeats 1000000 in
theorem fin_none1 (cs : List Int) (hc : IsCpu cs) (ad z r va ol v : Int) (v0 : 0 ≤ v) (v1 : v < 4294967296)  (w : World) :
    Calls Try.prog 17 #[.agg (u32A cs), actV 1 ad z r va ol, .int .u32 v] w fun e w' => e = .returned (.agg (u32A (finC cs 1 z r v))) ∧ Below w.heap.size w w' := by
  have hs : (u32A cs).size = 17 := by rw [size_u32A, hc.1]
  obtain ⟨p0, p1⟩ := hc.get 16
  have HC := hide hc
  clear hc
  unfold actV
  go_enter Try.func17, Try.ntmps17
  go_upto_region 1 with (fail)
  refine fin_from rfl rfl ?_
  intro w2 hB ha
  have a0 := ha.cell 0
  have a2 := ha.cell 2
  have a3 := ha.cell 3
  have HB := hide hB
  have g1 : w.heap.size ≠ w.heap.size + 1 := by omega
  have g2 : w.heap.size + 1 ≠ w.heap.size := by omega
  have cp := fun i => HB.out.cpu.frozen i
  have c16 : w2.cell? ⟨w.heap.size, 16, none⟩ = some (.int .u32 (gb cs 16)) := (HB.out.cpu.cell 16).trans (u32A_get cs 16 (by rw [HC.out.1]; decide))
  have c15 : w2.cell? ⟨w.heap.size, 15, none⟩ = some (.int .u32 (gb cs 15)) := (HB.out.cpu.cell 15).trans (u32A_get cs 15 (by rw [HC.out.1]; decide))
  clear hB ha
  go_upto_region 2 with (fail)
  refine fin_frame (HB.out) ?_
  intro w3 ds hB3 hds
  have HB3 := hide hB3
  have HL := hide (show ds.length = 17 by rw [hds.out]; exact HC.out.1)
  clear hB3 a0 a2 a3 cp c16 c15 HB
  go_wp2_with (first
    | (with_reducible refine wp_region_lit (id := 2) ?_)
    | ((with_reducible refine cpu_load (.tmp 3) HB3.out.cpu ?_ ?_ ?_); (· rfl); (· exact HL.out))
    | ((with_reducible refine cpu_store (.tmp 6) (.tmp 9) ds HB3.out.res ?_ ?_ ?_ ?_); (· rfl); (· rfl); (· exact HL.out)))
  have HR := HB3.out.row ds HL.out
  have hrow : Blk (w3.setRow (w.heap.size + 1 + 1) (u32A ds)) (w.heap.size + 1 + 1) 35 (u32A ds) := by
    obtain ⟨_, _, h⟩ := HB3.out.res
    exact h.row _
  refine bodyPost_ret (v := .agg (u32A ds)) ?_ rfl ?_
  · exact finish_results (p := 6) rfl rfl HL.out hrow
  · refine ⟨?_, HR.below⟩
    rw [hds.out]
    simp [finC]

set_option maxRecDepth 100000 in
set_option maxHeartbeats 1000000 in
theorem fin_none5 (cs : List Int) (hc : IsCpu cs) (ad z r va ol v : Int) (v0 : 0 ≤ v) (v1 : v < 4294967296)  (w : World) :
    Calls Try.prog 17 #[.agg (u32A cs), actV 5 ad z r va ol, .int .u32 v] w fun e w' => e = .returned (.agg (u32A (finC cs 5 z r v))) ∧ Below w.heap.size w w' := by
  have hs : (u32A cs).size = 17 := by rw [size_u32A, hc.1]
  obtain ⟨p0, p1⟩ := hc.get 16
  have HC := hide hc
  clear hc
  unfold actV
  go_enter Try.func17, Try.ntmps17
  go_upto_region 1 with (fail)
  refine fin_from rfl rfl ?_
  intro w2 hB ha
  have a0 := ha.cell 0
  have a2 := ha.cell 2
  have a3 := ha.cell 3
  have HB := hide hB
  have g1 : w.heap.size ≠ w.heap.size + 1 := by omega
  have g2 : w.heap.size + 1 ≠ w.heap.size := by omega
  have cp := fun i => HB.out.cpu.frozen i
  have c16 : w2.cell? ⟨w.heap.size, 16, none⟩ = some (.int .u32 (gb cs 16)) := (HB.out.cpu.cell 16).trans (u32A_get cs 16 (by rw [HC.out.1]; decide))
  have c15 : w2.cell? ⟨w.heap.size, 15, none⟩ = some (.int .u32 (gb cs 15)) := (HB.out.cpu.cell 15).trans (u32A_get cs 15 (by rw [HC.out.1]; decide))
  clear hB ha
  go_upto_region 2 with (fail)
  refine fin_frame (HB.out) ?_
  intro w3 ds hB3 hds
  have HB3 := hide hB3
  have HL := hide (show ds.length = 17 by rw [hds.out]; exact HC.out.1)
  clear hB3 a0 a2 a3 cp c16 c15 HB
  go_wp2_with (first
    | (with_reducible refine wp_region_lit (id := 2) ?_)
    | ((with_reducible refine cpu_load (.tmp 3) HB3.out.cpu ?_ ?_ ?_); (· rfl); (· exact HL.out))
    | ((with_reducible refine cpu_store (.tmp 6) (.tmp 9) ds HB3.out.res ?_ ?_ ?_ ?_); (· rfl); (· rfl); (· exact HL.out)))
  have HR := HB3.out.row ds HL.out
  have hrow : Blk (w3.setRow (w.heap.size + 1 + 1) (u32A ds)) (w.heap.size + 1 + 1) 35 (u32A ds) := by
    obtain ⟨_, _, h⟩ := HB3.out.res
    exact h.row _
  refine bodyPost_ret (v := .agg (u32A ds)) ?_ rfl ?_
  · exact finish_results (p := 6) rfl rfl HL.out hrow
  · refine ⟨?_, HR.below⟩
    rw [hds.out]
    simp [finC]

set_option maxRecDepth 100000 in
set_option maxHeartbeats 1000000 in
theorem fin_none6 (cs : List Int) (hc : IsCpu cs) (ad z r va ol v : Int) (v0 : 0 ≤ v) (v1 : v < 4294967296)  (w : World) :
    Calls Try.prog 17 #[.agg (u32A cs), actV 6 ad z r va ol, .int .u32 v] w fun e w' => e = .returned (.agg (u32A (finC cs 6 z r v))) ∧ Below w.heap.size w w' := by
  have hs : (u32A cs).size = 17 := by rw [size_u32A, hc.1]
  obtain ⟨p0, p1⟩ := hc.get 16
  have HC := hide hc
  clear hc
  unfold actV
  go_enter Try.func17, Try.ntmps17
  go_upto_region 1 with (fail)
  refine fin_from rfl rfl ?_
  intro w2 hB ha
  have a0 := ha.cell 0
  have a2 := ha.cell 2
  have a3 := ha.cell 3
  have HB := hide hB
  have g1 : w.heap.size ≠ w.heap.size + 1 := by omega
  have g2 : w.heap.size + 1 ≠ w.heap.size := by omega
  have cp := fun i => HB.out.cpu.frozen i
  have c16 : w2.cell? ⟨w.heap.size, 16, none⟩ = some (.int .u32 (gb cs 16)) := (HB.out.cpu.cell 16).trans (u32A_get cs 16 (by rw [HC.out.1]; decide))
  have c15 : w2.cell? ⟨w.heap.size, 15, none⟩ = some (.int .u32 (gb cs 15)) := (HB.out.cpu.cell 15).trans (u32A_get cs 15 (by rw [HC.out.1]; decide))
  clear hB ha
  go_upto_region 2 with (fail)
  refine fin_frame (HB.out) ?_
  intro w3 ds hB3 hds
  have HB3 := hide hB3
  have HL := hide (show ds.length = 17 by rw [hds.out]; exact HC.out.1)
  clear hB3 a0 a2 a3 cp c16 c15 HB
  go_wp2_with (first
    | (with_reducible refine wp_region_lit (id := 2) ?_)
    | ((with_reducible refine cpu_load (.tmp 3) HB3.out.cpu ?_ ?_ ?_); (· rfl); (· exact HL.out))
    | ((with_reducible refine cpu_store (.tmp 6) (.tmp 9) ds HB3.out.res ?_ ?_ ?_ ?_); (· rfl); (· rfl); (· exact HL.out)))
  have HR := HB3.out.row ds HL.out
  have hrow : Blk (w3.setRow (w.heap.size + 1 + 1) (u32A ds)) (w.heap.size + 1 + 1) 35 (u32A ds) := by
    obtain ⟨_, _, h⟩ := HB3.out.res
    exact h.row _
  refine bodyPost_ret (v := .agg (u32A ds)) ?_ rfl ?_
  · exact finish_results (p := 6) rfl rfl HL.out hrow
  · refine ⟨?_, HR.below⟩
    rw [hds.out]
    simp [finC]

/-- An act that a step may tell. -/
theorem fin_is (cs : List Int) (hc : IsCpu cs) (k ad z r va ol v : Int) (v0 : 0 ≤ v) (v1 : v < 4294967296) (hk : k = 1 ∨ k = 2 ∨ k = 3 ∨ k = 4 ∨ k = 5 ∨ k = 6) (hz : k = 2 → z = 1 ∨ z = 4) (hr : k = 2 → 0 ≤ r ∧ r < 16) (w : World) :
    Calls Try.prog 17 #[.agg (u32A cs), actV k ad z r va ol, .int .u32 v] w fun e w' => e = .returned (.agg (u32A (finC cs k z r v))) ∧ Below w.heap.size w w' := by
  rcases hk with rfl | rfl | rfl | rfl | rfl | rfl
  · exact fin_none1 cs hc ad z r va ol v v0 v1 w
  · rcases hz rfl with rfl | rfl
    · exact fin_load1 cs hc ad r va ol v v0 v1 (hr rfl).1 (hr rfl).2 w
    · exact fin_load4 cs hc ad r va ol v v0 v1 (hr rfl).1 (hr rfl).2 w
  · exact fin_store cs hc ad z r va ol v v0 v1 w
  · exact fin_cas cs hc ad z r va ol v v0 v1 w
  · exact fin_none5 cs hc ad z r va ol v v0 v1 w
  · exact fin_none6 cs hc ad z r va ol v v0 v1 w

set_option maxRecDepth 100000 in
set_option maxHeartbeats 1000000 in
theorem rfin_load1 (cs : List Int) (hc : IsCpu cs) (ad r va ol v : Int) (v0 : 0 ≤ v) (v1 : v < 4294967296) (r0 : 0 ≤ r) (r1 : r < 16) (w : World) :
    Calls Try.prog 18 #[.agg (u32A cs), actV 2 ad 1 r va ol, .int .u32 v] w fun e w' => e = .returned (.agg (u32A (finC cs 2 1 r v))) ∧ Below w.heap.size w w' := by
  have hs : (u32A cs).size = 17 := by rw [size_u32A, hc.1]
  obtain ⟨p0, p1⟩ := hc.get 16
  have HC := hide hc
  clear hc
  unfold actV
  go_enter Try.func18, Try.ntmps18
  go_upto_region 1 with (fail)
  refine fin_from rfl rfl ?_
  intro w2 hB ha
  have a0 := ha.cell 0
  have a2 := ha.cell 2
  have a3 := ha.cell 3
  have HB := hide hB
  have g1 : w.heap.size ≠ w.heap.size + 1 := by omega
  have g2 : w.heap.size + 1 ≠ w.heap.size := by omega
  have cp := fun i => HB.out.cpu.frozen i
  have c16 : w2.cell? ⟨w.heap.size, 16, none⟩ = some (.int .u32 (gb cs 16)) := (HB.out.cpu.cell 16).trans (u32A_get cs 16 (by rw [HC.out.1]; decide))
  have c15 : w2.cell? ⟨w.heap.size, 15, none⟩ = some (.int .u32 (gb cs 15)) := (HB.out.cpu.cell 15).trans (u32A_get cs 15 (by rw [HC.out.1]; decide))
  have cr : w2.cell? ⟨w.heap.size, r.toNat, none⟩ = some (.int .u32 (gb cs r.toNat)) := (HB.out.cpu.cell _).trans (u32A_get cs _ (by rw [HC.out.1]; omega))
  clear hB ha
  go_upto_region 11 with (fail)
  refine fin_frame ((HB.out.set r.toNat _).set 16 _) ?_
  intro w3 ds hB3 hds
  have HB3 := hide hB3
  have HL := hide (show ds.length = 17 by rw [hds.out, List.length_set, List.length_set]; exact HC.out.1)
  clear hB3 a0 a2 a3 cp c16 c15 HB
  go_wp2_with (first
    | (with_reducible refine wp_region_lit (id := 11) ?_)
    | ((with_reducible refine cpu_load (.tmp 3) HB3.out.cpu ?_ ?_ ?_); (· rfl); (· exact HL.out))
    | ((with_reducible refine cpu_store (.tmp 6) (.tmp 33) ds HB3.out.res ?_ ?_ ?_ ?_); (· rfl); (· rfl); (· exact HL.out)))
  have HR := HB3.out.row ds HL.out
  have hrow : Blk (w3.setRow (w.heap.size + 1 + 1) (u32A ds)) (w.heap.size + 1 + 1) 35 (u32A ds) := by
    obtain ⟨_, _, h⟩ := HB3.out.res
    exact h.row _
  refine bodyPost_ret (v := .agg (u32A ds)) ?_ rfl ?_
  · exact finish_results (p := 6) rfl rfl HL.out hrow
  · refine ⟨?_, HR.below⟩
    rw [hds.out]
    simp [finC]

set_option maxRecDepth 100000 in
set_option maxHeartbeats 1000000 in
theorem rfin_load4 (cs : List Int) (hc : IsCpu cs) (ad r va ol v : Int) (v0 : 0 ≤ v) (v1 : v < 4294967296) (r0 : 0 ≤ r) (r1 : r < 16) (w : World) :
    Calls Try.prog 18 #[.agg (u32A cs), actV 2 ad 4 r va ol, .int .u32 v] w fun e w' => e = .returned (.agg (u32A (finC cs 2 4 r v))) ∧ Below w.heap.size w w' := by
  have hs : (u32A cs).size = 17 := by rw [size_u32A, hc.1]
  obtain ⟨p0, p1⟩ := hc.get 16
  have HC := hide hc
  clear hc
  unfold actV
  go_enter Try.func18, Try.ntmps18
  go_upto_region 1 with (fail)
  refine fin_from rfl rfl ?_
  intro w2 hB ha
  have a0 := ha.cell 0
  have a2 := ha.cell 2
  have a3 := ha.cell 3
  have HB := hide hB
  have g1 : w.heap.size ≠ w.heap.size + 1 := by omega
  have g2 : w.heap.size + 1 ≠ w.heap.size := by omega
  have cp := fun i => HB.out.cpu.frozen i
  have c16 : w2.cell? ⟨w.heap.size, 16, none⟩ = some (.int .u32 (gb cs 16)) := (HB.out.cpu.cell 16).trans (u32A_get cs 16 (by rw [HC.out.1]; decide))
  have c15 : w2.cell? ⟨w.heap.size, 15, none⟩ = some (.int .u32 (gb cs 15)) := (HB.out.cpu.cell 15).trans (u32A_get cs 15 (by rw [HC.out.1]; decide))
  have cr : w2.cell? ⟨w.heap.size, r.toNat, none⟩ = some (.int .u32 (gb cs r.toNat)) := (HB.out.cpu.cell _).trans (u32A_get cs _ (by rw [HC.out.1]; omega))
  clear hB ha
  go_upto_region 11 with (fail)
  refine fin_frame ((HB.out.set r.toNat _).set 16 _) ?_
  intro w3 ds hB3 hds
  have HB3 := hide hB3
  have HL := hide (show ds.length = 17 by rw [hds.out, List.length_set, List.length_set]; exact HC.out.1)
  clear hB3 a0 a2 a3 cp c16 c15 HB
  go_wp2_with (first
    | (with_reducible refine wp_region_lit (id := 11) ?_)
    | ((with_reducible refine cpu_load (.tmp 3) HB3.out.cpu ?_ ?_ ?_); (· rfl); (· exact HL.out))
    | ((with_reducible refine cpu_store (.tmp 6) (.tmp 33) ds HB3.out.res ?_ ?_ ?_ ?_); (· rfl); (· rfl); (· exact HL.out)))
  have HR := HB3.out.row ds HL.out
  have hrow : Blk (w3.setRow (w.heap.size + 1 + 1) (u32A ds)) (w.heap.size + 1 + 1) 35 (u32A ds) := by
    obtain ⟨_, _, h⟩ := HB3.out.res
    exact h.row _
  refine bodyPost_ret (v := .agg (u32A ds)) ?_ rfl ?_
  · exact finish_results (p := 6) rfl rfl HL.out hrow
  · refine ⟨?_, HR.below⟩
    rw [hds.out]
    simp [finC]

set_option maxRecDepth 100000 in
set_option maxHeartbeats 1000000 in
theorem rfin_store (cs : List Int) (hc : IsCpu cs) (ad z r va ol v : Int) (v0 : 0 ≤ v) (v1 : v < 4294967296)  (w : World) :
    Calls Try.prog 18 #[.agg (u32A cs), actV 3 ad z r va ol, .int .u32 v] w fun e w' => e = .returned (.agg (u32A (finC cs 3 z r v))) ∧ Below w.heap.size w w' := by
  have hs : (u32A cs).size = 17 := by rw [size_u32A, hc.1]
  obtain ⟨p0, p1⟩ := hc.get 16
  have HC := hide hc
  clear hc
  unfold actV
  go_enter Try.func18, Try.ntmps18
  go_upto_region 1 with (fail)
  refine fin_from rfl rfl ?_
  intro w2 hB ha
  have a0 := ha.cell 0
  have a2 := ha.cell 2
  have a3 := ha.cell 3
  have HB := hide hB
  have g1 : w.heap.size ≠ w.heap.size + 1 := by omega
  have g2 : w.heap.size + 1 ≠ w.heap.size := by omega
  have cp := fun i => HB.out.cpu.frozen i
  have c16 : w2.cell? ⟨w.heap.size, 16, none⟩ = some (.int .u32 (gb cs 16)) := (HB.out.cpu.cell 16).trans (u32A_get cs 16 (by rw [HC.out.1]; decide))
  have c15 : w2.cell? ⟨w.heap.size, 15, none⟩ = some (.int .u32 (gb cs 15)) := (HB.out.cpu.cell 15).trans (u32A_get cs 15 (by rw [HC.out.1]; decide))
  clear hB ha
  go_upto_region 11 with (fail)
  refine fin_frame (HB.out.set 16 _) ?_
  intro w3 ds hB3 hds
  have HB3 := hide hB3
  have HL := hide (show ds.length = 17 by rw [hds.out, List.length_set]; exact HC.out.1)
  clear hB3 a0 a2 a3 cp c16 c15 HB
  go_wp2_with (first
    | (with_reducible refine wp_region_lit (id := 11) ?_)
    | ((with_reducible refine cpu_load (.tmp 3) HB3.out.cpu ?_ ?_ ?_); (· rfl); (· exact HL.out))
    | ((with_reducible refine cpu_store (.tmp 6) (.tmp 33) ds HB3.out.res ?_ ?_ ?_ ?_); (· rfl); (· rfl); (· exact HL.out)))
  have HR := HB3.out.row ds HL.out
  have hrow : Blk (w3.setRow (w.heap.size + 1 + 1) (u32A ds)) (w.heap.size + 1 + 1) 35 (u32A ds) := by
    obtain ⟨_, _, h⟩ := HB3.out.res
    exact h.row _
  refine bodyPost_ret (v := .agg (u32A ds)) ?_ rfl ?_
  · exact finish_results (p := 6) rfl rfl HL.out hrow
  · refine ⟨?_, HR.below⟩
    rw [hds.out]
    simp [finC]

set_option maxRecDepth 100000 in
set_option maxHeartbeats 1000000 in
theorem rfin_cas (cs : List Int) (hc : IsCpu cs) (ad z r va ol v : Int) (v0 : 0 ≤ v) (v1 : v < 4294967296)  (w : World) :
    Calls Try.prog 18 #[.agg (u32A cs), actV 4 ad z r va ol, .int .u32 v] w fun e w' => e = .returned (.agg (u32A (finC cs 4 z r v))) ∧ Below w.heap.size w w' := by
  have hs : (u32A cs).size = 17 := by rw [size_u32A, hc.1]
  obtain ⟨p0, p1⟩ := hc.get 16
  have HC := hide hc
  clear hc
  unfold actV
  go_enter Try.func18, Try.ntmps18
  go_upto_region 1 with (fail)
  refine fin_from rfl rfl ?_
  intro w2 hB ha
  have a0 := ha.cell 0
  have a2 := ha.cell 2
  have a3 := ha.cell 3
  have HB := hide hB
  have g1 : w.heap.size ≠ w.heap.size + 1 := by omega
  have g2 : w.heap.size + 1 ≠ w.heap.size := by omega
  have cp := fun i => HB.out.cpu.frozen i
  have c16 : w2.cell? ⟨w.heap.size, 16, none⟩ = some (.int .u32 (gb cs 16)) := (HB.out.cpu.cell 16).trans (u32A_get cs 16 (by rw [HC.out.1]; decide))
  have c15 : w2.cell? ⟨w.heap.size, 15, none⟩ = some (.int .u32 (gb cs 15)) := (HB.out.cpu.cell 15).trans (u32A_get cs 15 (by rw [HC.out.1]; decide))
  clear hB ha
  go_upto_region 11 with (fail)
  refine fin_frame ((HB.out.set 15 _).set 16 _) ?_
  intro w3 ds hB3 hds
  have HB3 := hide hB3
  have HL := hide (show ds.length = 17 by rw [hds.out, List.length_set, List.length_set]; exact HC.out.1)
  clear hB3 a0 a2 a3 cp c16 c15 HB
  go_wp2_with (first
    | (with_reducible refine wp_region_lit (id := 11) ?_)
    | ((with_reducible refine cpu_load (.tmp 3) HB3.out.cpu ?_ ?_ ?_); (· rfl); (· exact HL.out))
    | ((with_reducible refine cpu_store (.tmp 6) (.tmp 33) ds HB3.out.res ?_ ?_ ?_ ?_); (· rfl); (· rfl); (· exact HL.out)))
  have HR := HB3.out.row ds HL.out
  have hrow : Blk (w3.setRow (w.heap.size + 1 + 1) (u32A ds)) (w.heap.size + 1 + 1) 35 (u32A ds) := by
    obtain ⟨_, _, h⟩ := HB3.out.res
    exact h.row _
  refine bodyPost_ret (v := .agg (u32A ds)) ?_ rfl ?_
  · exact finish_results (p := 6) rfl rfl HL.out hrow
  · refine ⟨?_, HR.below⟩
    rw [hds.out]
    simp [finC]

set_option maxRecDepth 100000 in
set_option maxHeartbeats 1000000 in
theorem rfin_none1 (cs : List Int) (hc : IsCpu cs) (ad z r va ol v : Int) (v0 : 0 ≤ v) (v1 : v < 4294967296)  (w : World) :
    Calls Try.prog 18 #[.agg (u32A cs), actV 1 ad z r va ol, .int .u32 v] w fun e w' => e = .returned (.agg (u32A (finC cs 1 z r v))) ∧ Below w.heap.size w w' := by
  have hs : (u32A cs).size = 17 := by rw [size_u32A, hc.1]
  obtain ⟨p0, p1⟩ := hc.get 16
  have HC := hide hc
  clear hc
  unfold actV
  go_enter Try.func18, Try.ntmps18
  go_upto_region 1 with (fail)
  refine fin_from rfl rfl ?_
  intro w2 hB ha
  have a0 := ha.cell 0
  have a2 := ha.cell 2
  have a3 := ha.cell 3
  have HB := hide hB
  have g1 : w.heap.size ≠ w.heap.size + 1 := by omega
  have g2 : w.heap.size + 1 ≠ w.heap.size := by omega
  have cp := fun i => HB.out.cpu.frozen i
  have c16 : w2.cell? ⟨w.heap.size, 16, none⟩ = some (.int .u32 (gb cs 16)) := (HB.out.cpu.cell 16).trans (u32A_get cs 16 (by rw [HC.out.1]; decide))
  have c15 : w2.cell? ⟨w.heap.size, 15, none⟩ = some (.int .u32 (gb cs 15)) := (HB.out.cpu.cell 15).trans (u32A_get cs 15 (by rw [HC.out.1]; decide))
  clear hB ha
  go_upto_region 2 with (fail)
  refine fin_frame (HB.out) ?_
  intro w3 ds hB3 hds
  have HB3 := hide hB3
  have HL := hide (show ds.length = 17 by rw [hds.out]; exact HC.out.1)
  clear hB3 a0 a2 a3 cp c16 c15 HB
  go_wp2_with (first
    | (with_reducible refine wp_region_lit (id := 2) ?_)
    | ((with_reducible refine cpu_load (.tmp 3) HB3.out.cpu ?_ ?_ ?_); (· rfl); (· exact HL.out))
    | ((with_reducible refine cpu_store (.tmp 6) (.tmp 9) ds HB3.out.res ?_ ?_ ?_ ?_); (· rfl); (· rfl); (· exact HL.out)))
  have HR := HB3.out.row ds HL.out
  have hrow : Blk (w3.setRow (w.heap.size + 1 + 1) (u32A ds)) (w.heap.size + 1 + 1) 35 (u32A ds) := by
    obtain ⟨_, _, h⟩ := HB3.out.res
    exact h.row _
  refine bodyPost_ret (v := .agg (u32A ds)) ?_ rfl ?_
  · exact finish_results (p := 6) rfl rfl HL.out hrow
  · refine ⟨?_, HR.below⟩
    rw [hds.out]
    simp [finC]

set_option maxRecDepth 100000 in
set_option maxHeartbeats 1000000 in
theorem rfin_none5 (cs : List Int) (hc : IsCpu cs) (ad z r va ol v : Int) (v0 : 0 ≤ v) (v1 : v < 4294967296)  (w : World) :
    Calls Try.prog 18 #[.agg (u32A cs), actV 5 ad z r va ol, .int .u32 v] w fun e w' => e = .returned (.agg (u32A (finC cs 5 z r v))) ∧ Below w.heap.size w w' := by
  have hs : (u32A cs).size = 17 := by rw [size_u32A, hc.1]
  obtain ⟨p0, p1⟩ := hc.get 16
  have HC := hide hc
  clear hc
  unfold actV
  go_enter Try.func18, Try.ntmps18
  go_upto_region 1 with (fail)
  refine fin_from rfl rfl ?_
  intro w2 hB ha
  have a0 := ha.cell 0
  have a2 := ha.cell 2
  have a3 := ha.cell 3
  have HB := hide hB
  have g1 : w.heap.size ≠ w.heap.size + 1 := by omega
  have g2 : w.heap.size + 1 ≠ w.heap.size := by omega
  have cp := fun i => HB.out.cpu.frozen i
  have c16 : w2.cell? ⟨w.heap.size, 16, none⟩ = some (.int .u32 (gb cs 16)) := (HB.out.cpu.cell 16).trans (u32A_get cs 16 (by rw [HC.out.1]; decide))
  have c15 : w2.cell? ⟨w.heap.size, 15, none⟩ = some (.int .u32 (gb cs 15)) := (HB.out.cpu.cell 15).trans (u32A_get cs 15 (by rw [HC.out.1]; decide))
  clear hB ha
  go_upto_region 2 with (fail)
  refine fin_frame (HB.out) ?_
  intro w3 ds hB3 hds
  have HB3 := hide hB3
  have HL := hide (show ds.length = 17 by rw [hds.out]; exact HC.out.1)
  clear hB3 a0 a2 a3 cp c16 c15 HB
  go_wp2_with (first
    | (with_reducible refine wp_region_lit (id := 2) ?_)
    | ((with_reducible refine cpu_load (.tmp 3) HB3.out.cpu ?_ ?_ ?_); (· rfl); (· exact HL.out))
    | ((with_reducible refine cpu_store (.tmp 6) (.tmp 9) ds HB3.out.res ?_ ?_ ?_ ?_); (· rfl); (· rfl); (· exact HL.out)))
  have HR := HB3.out.row ds HL.out
  have hrow : Blk (w3.setRow (w.heap.size + 1 + 1) (u32A ds)) (w.heap.size + 1 + 1) 35 (u32A ds) := by
    obtain ⟨_, _, h⟩ := HB3.out.res
    exact h.row _
  refine bodyPost_ret (v := .agg (u32A ds)) ?_ rfl ?_
  · exact finish_results (p := 6) rfl rfl HL.out hrow
  · refine ⟨?_, HR.below⟩
    rw [hds.out]
    simp [finC]

set_option maxRecDepth 100000 in
set_option maxHeartbeats 1000000 in
theorem rfin_none6 (cs : List Int) (hc : IsCpu cs) (ad z r va ol v : Int) (v0 : 0 ≤ v) (v1 : v < 4294967296)  (w : World) :
    Calls Try.prog 18 #[.agg (u32A cs), actV 6 ad z r va ol, .int .u32 v] w fun e w' => e = .returned (.agg (u32A (finC cs 6 z r v))) ∧ Below w.heap.size w w' := by
  have hs : (u32A cs).size = 17 := by rw [size_u32A, hc.1]
  obtain ⟨p0, p1⟩ := hc.get 16
  have HC := hide hc
  clear hc
  unfold actV
  go_enter Try.func18, Try.ntmps18
  go_upto_region 1 with (fail)
  refine fin_from rfl rfl ?_
  intro w2 hB ha
  have a0 := ha.cell 0
  have a2 := ha.cell 2
  have a3 := ha.cell 3
  have HB := hide hB
  have g1 : w.heap.size ≠ w.heap.size + 1 := by omega
  have g2 : w.heap.size + 1 ≠ w.heap.size := by omega
  have cp := fun i => HB.out.cpu.frozen i
  have c16 : w2.cell? ⟨w.heap.size, 16, none⟩ = some (.int .u32 (gb cs 16)) := (HB.out.cpu.cell 16).trans (u32A_get cs 16 (by rw [HC.out.1]; decide))
  have c15 : w2.cell? ⟨w.heap.size, 15, none⟩ = some (.int .u32 (gb cs 15)) := (HB.out.cpu.cell 15).trans (u32A_get cs 15 (by rw [HC.out.1]; decide))
  clear hB ha
  go_upto_region 2 with (fail)
  refine fin_frame (HB.out) ?_
  intro w3 ds hB3 hds
  have HB3 := hide hB3
  have HL := hide (show ds.length = 17 by rw [hds.out]; exact HC.out.1)
  clear hB3 a0 a2 a3 cp c16 c15 HB
  go_wp2_with (first
    | (with_reducible refine wp_region_lit (id := 2) ?_)
    | ((with_reducible refine cpu_load (.tmp 3) HB3.out.cpu ?_ ?_ ?_); (· rfl); (· exact HL.out))
    | ((with_reducible refine cpu_store (.tmp 6) (.tmp 9) ds HB3.out.res ?_ ?_ ?_ ?_); (· rfl); (· rfl); (· exact HL.out)))
  have HR := HB3.out.row ds HL.out
  have hrow : Blk (w3.setRow (w.heap.size + 1 + 1) (u32A ds)) (w.heap.size + 1 + 1) 35 (u32A ds) := by
    obtain ⟨_, _, h⟩ := HB3.out.res
    exact h.row _
  refine bodyPost_ret (v := .agg (u32A ds)) ?_ rfl ?_
  · exact finish_results (p := 6) rfl rfl HL.out hrow
  · refine ⟨?_, HR.below⟩
    rw [hds.out]
    simp [finC]

/-- An act that a step may tell. -/
theorem rfin_is (cs : List Int) (hc : IsCpu cs) (k ad z r va ol v : Int) (v0 : 0 ≤ v) (v1 : v < 4294967296) (hk : k = 1 ∨ k = 2 ∨ k = 3 ∨ k = 4 ∨ k = 5 ∨ k = 6) (hz : k = 2 → z = 1 ∨ z = 4) (hr : k = 2 → 0 ≤ r ∧ r < 16) (w : World) :
    Calls Try.prog 18 #[.agg (u32A cs), actV k ad z r va ol, .int .u32 v] w fun e w' => e = .returned (.agg (u32A (finC cs k z r v))) ∧ Below w.heap.size w w' := by
  rcases hk with rfl | rfl | rfl | rfl | rfl | rfl
  · exact rfin_none1 cs hc ad z r va ol v v0 v1 w
  · rcases hz rfl with rfl | rfl
    · exact rfin_load1 cs hc ad r va ol v v0 v1 (hr rfl).1 (hr rfl).2 w
    · exact rfin_load4 cs hc ad r va ol v v0 v1 (hr rfl).1 (hr rfl).2 w
  · exact rfin_store cs hc ad z r va ol v v0 v1 w
  · exact rfin_cas cs hc ad z r va ol v v0 v1 w
  · exact rfin_none5 cs hc ad z r va ol v v0 v1 w
  · exact rfin_none6 cs hc ad z r va ol v v0 v1 w

end Go.Proofs.Ytkoibmpncfbnpaa
