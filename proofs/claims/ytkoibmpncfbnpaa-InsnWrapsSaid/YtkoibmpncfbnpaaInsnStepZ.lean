/-
  Step of parapet/insn: no instruction. (Written by gen_step.py.)
-/
import Derived.Test.YtkoibmpncfbnpaaInsnTouch
namespace Go.Proofs.Ytkoibmpncfbnpaa
open Go.ChangeShapes Go.WideShapes Go.ChangeAt Go.RowKit
set_option linter.unusedVariables false

set_option maxRecDepth 100000 in
set_option maxHeartbeats 1000000 in
theorem step_bad (v : Int) (cs : List Int) (hc : IsCpu cs) (v0 : 0 ≤ v) (v1 : v < 4294967296) (hop : v % 256 < 1 ∨ 28 < v % 256) (w : World) :
    Calls Try.prog 15 #[.agg (u32A cs), .int .u32 v] w fun e w' => e = .returned (.tuple #[.agg (u32A cs), actV 6 0 0 0 0 0]) ∧ Below w.heap.size w w' := by
  have D := hide (fun w => decode_bad v w v0 v1 hop)
  have hs : (u32A cs).size = 17 := by rw [size_u32A, hc.1]
  have HC := hide hc
  clear hc hop
  go_enter Try.func15, Try.ntmps15
  go_wp2_with fail
  refine (D.out _).mono ?_
  rintro e w1 ⟨rfl, hb⟩
  have HB := hide (boxed_of hb)
  clear hb
  unfold insnV
  go_upto_region 3 with (fail)
  refine boxed_insn HB.out ?_
  intro w3 hB3 hx2
  have HB3 := hide hB3
  have HL := hide HC.out.1
  clear hB3 hx2 HB
  go_wp2_with (first
    | (with_reducible refine wp_region_lit (id := 3) ?_)
    | ((with_reducible refine cpu_load (.tmp 2) HB3.out.cpu ?_ ?_ ?_); (· rfl); (· exact HL.out))
    | ((with_reducible refine cpu_store (.tmp 4) (.tmp 16) cs HB3.out.res ?_ ?_ ?_ ?_); (· rfl); (· rfl); (· exact HL.out))
    | ((with_reducible refine act_store (.tmp 5) (.tmp 17) 6 0 0 0 0 0 (HB3.out.row cs HL.out).act ?_ ?_ ?_); (· rfl); (· rfl)))
  have HE := HB3.out.end_ cs 6 0 0 0 0 0
  refine bodyPost_ret (v := .tuple #[.agg (u32A cs), actV 6 0 0 0 0 0]) ?_ rfl ?_
  · exact step_results (p := 4) (q := 5) rfl rfl rfl HL.out HE.1 HE.2.1
  · exact ⟨rfl, HE.2.2⟩

set_option maxRecDepth 100000 in
set_option maxHeartbeats 1000000 in
theorem rstep_bad (v : Int) (cs : List Int) (hc : IsCpu cs) (v0 : 0 ≤ v) (v1 : v < 4294967296) (hop : v % 256 < 1 ∨ 28 < v % 256) (w : World) :
    Calls Try.prog 16 #[.agg (u32A cs), .int .u32 v] w fun e w' => e = .returned (.tuple #[.agg (u32A cs), actV 6 0 0 0 0 0]) ∧ Below w.heap.size w w' := by
  have D := hide (fun w => rdecode_bad v w v0 v1 hop)
  have hs : (u32A cs).size = 17 := by rw [size_u32A, hc.1]
  have HC := hide hc
  clear hc hop
  go_enter Try.func16, Try.ntmps16
  go_wp2_with fail
  refine (D.out _).mono ?_
  rintro e w1 ⟨rfl, hb⟩
  have HB := hide (boxed_of hb)
  clear hb
  unfold insnV
  go_upto_region 3 with (fail)
  refine boxed_insn HB.out ?_
  intro w3 hB3 hx2
  have HB3 := hide hB3
  have HL := hide HC.out.1
  clear hB3 hx2 HB
  go_wp2_with (first
    | (with_reducible refine wp_region_lit (id := 3) ?_)
    | ((with_reducible refine cpu_load (.tmp 2) HB3.out.cpu ?_ ?_ ?_); (· rfl); (· exact HL.out))
    | ((with_reducible refine cpu_store (.tmp 4) (.tmp 19) cs HB3.out.res ?_ ?_ ?_ ?_); (· rfl); (· rfl); (· exact HL.out))
    | ((with_reducible refine act_store (.tmp 5) (.tmp 20) 6 0 0 0 0 0 (HB3.out.row cs HL.out).act ?_ ?_ ?_); (· rfl); (· rfl)))
  have HE := HB3.out.end_ cs 6 0 0 0 0 0
  refine bodyPost_ret (v := .tuple #[.agg (u32A cs), actV 6 0 0 0 0 0]) ?_ rfl ?_
  · exact step_results (p := 4) (q := 5) rfl rfl rfl HL.out HE.1 HE.2.1
  · exact ⟨rfl, HE.2.2⟩

end Go.Proofs.Ytkoibmpncfbnpaa
