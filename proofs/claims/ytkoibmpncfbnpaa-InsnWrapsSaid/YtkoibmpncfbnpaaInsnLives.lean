/-
  'lives' of layer 3's statements; and the walks of 'InsnDecodes' and 'InsnEncodes'.
-/
import Derived.Test.YtkoibmpncfbnpaaInsnStepA
namespace Go.Proofs.Ytkoibmpncfbnpaa
open Go.ChangeShapes Go.WideShapes Go.ChangeAt Go.RowKit
set_option linter.unusedVariables false

def lives0 : List Int := [0, 0, 0, 0, 0, 0, 0, 0, 0, 0, 0, 0, 0, 0, 0, 0, 0]
def lives1 : List Int := [0, 0, 0, 4294967295, 0, 0, 0, 0, 0, 0, 0, 0, 0, 0, 0, 0, 4]
theorem lives_encode (w : World) : Calls Try.prog 13 #[.agg #[.int .i64 1, .int .i64 3, .int .i64 0, .int .i64 (-1)]] w fun e w' => e = .returned (.tuple #[.int .u32 4294902529, .int .i64 0]) ∧ Below w.heap.size w w' := by
  have h := encode_ok 1 3 0 (-1) w (by unfold Fits; decide)
  exact h
theorem lives_step (w : World) : Calls Try.prog 15 #[.agg #[.int .u32 0, .int .u32 0, .int .u32 0, .int .u32 0, .int .u32 0, .int .u32 0, .int .u32 0, .int .u32 0, .int .u32 0, .int .u32 0, .int .u32 0, .int .u32 0, .int .u32 0, .int .u32 0, .int .u32 0, .int .u32 0, .int .u32 0], .int .u32 4294902529] w fun e w' =>
    e = .returned (.tuple #[.agg #[.int .u32 0, .int .u32 0, .int .u32 0, .int .u32 4294967295, .int .u32 0, .int .u32 0, .int .u32 0, .int .u32 0, .int .u32 0, .int .u32 0, .int .u32 0, .int .u32 0, .int .u32 0, .int .u32 0, .int .u32 0, .int .u32 0, .int .u32 4], .agg #[.int .i64 1, .int .u32 0, .int .i64 0, .int .i64 0, .int .u32 0, .int .u32 0]]) ∧ Below w.heap.size w w' := by
  have h := step_num 4294902529 lives0 (by unfold IsCpu lives0; exact ⟨rfl, by decide⟩) (by decide) (by decide) 1 3 0 (-1) (by decide) (by decide) (by decide) (by decide) (by decide) (by decide) w
  exact h
set_option maxHeartbeats 1000000 in
theorem lives_ok (w : World) : Calls Try.prog 12 #[] w fun e w' => e = .returned (.bool true) ∧ Below w.heap.size w w' := by
  go_enter Try.func12, Try.ntmps12
  go_wp2_with fail
  refine (lives_encode _).mono ?_
  rintro e w1 ⟨rfl, h1⟩
  go_wp2_with fail
  refine (lives_step _).mono ?_
  rintro e w2 ⟨rfl, h2⟩
  have H := hide ((h1.trans (h2.mono h1.size)))
  clear h1 h2
  go_wp2
  go_ret
  exact ⟨rfl, (H.out.alloc H.out.size _).alloc (by have := H.out.size; simp; omega) _⟩

set_option maxHeartbeats 1000000 in
theorem insnDecodes_walk (v : Int) (w : World) (wf : (Lit.int .u32 v).wf = true) :
    Calls Try.prog 3 #[.int .u32 v] w fun e w' => e = .returned (.bool true) ∧ Below w.heap.size w w' := by
  have hv : 0 ≤ v ∧ v ≤ 4294967295 := by simpa [Lit.wf, IntKind.min, IntKind.max, IntKind.signed, IntKind.bits] using wf
  obtain ⟨v0, v1⟩ := hv
  have v2 : v < 4294967296 := by omega
  clear wf
  by_cases hop : v % 256 < 1 ∨ 28 < v % 256
  · have D := hide (fun w => decode_bad v w v0 v2 hop)
    have R := hide (fun w => rdecode_bad v w v0 v2 hop)
    clear hop
    unfold insnV at D R
    go_enter Try.func3, Try.ntmps3
    go_wp2_with fail
    refine (D.out _).mono ?_
    rintro e w1 ⟨rfl, h1⟩
    go_wp2_with fail
    refine (R.out _).mono ?_
    rintro e w2 ⟨rfl, h2⟩
    have X2 := below_blk h2 (Blk.new _ _ _) (by simp)
    have H2 := hide (((h1.alloc h1.size _).trans (h2.mono (by have := h1.size; simp; omega))))
    clear h1 h2
    go_wp2_with fail
    refine (lives_ok _).mono ?_
    rintro e w3 ⟨rfl, h3⟩
    have Y3 := below_blk h3 (Blk.new _ _ _) (by simp)
    have X3 := below_blk h3 (X2.alloc _) (by have := X2.lt; simp; omega)
    have H3 := hide ((H2.out.alloc H2.out.size _).trans (h3.mono (by have := H2.out.size; simp; omega)))
    clear h3 X2 H2
    have x0 := X3.cell 0
    have x1 := X3.cell 1
    have x2 := X3.cell 2
    have x3 := X3.cell 3
    have y0 := Y3.cell 0
    have y1 := Y3.cell 1
    have y2 := Y3.cell 2
    have y3 := Y3.cell 3
    clear X3 Y3
    go_wp2
    go_ret
    exact ⟨rfl, H3.out⟩
  · have D := hide (fun w => decode_ok v w v0 v2 (by omega) (by omega))
    have R := hide (fun w => rdecode_ok v w v0 v2 (by omega) (by omega))
    have E := hide (fun w => encode_ok (v % 256) (v / 256 % 16) (v / 4096 % 16) (immOf v) w (fits_of v v0 v2 (by omega) (by omega)))
    rw [wordOf_of v v0 v2] at E
    clear hop
    unfold insnV at D R E
    generalize v % 256 = o at *
    generalize v / 256 % 16 = A at *
    generalize v / 4096 % 16 = B at *
    generalize immOf v = i at *
    go_enter Try.func3, Try.ntmps3
    go_wp2_with fail
    refine (D.out _).mono ?_
    rintro e w1 ⟨rfl, h1⟩
    go_wp2_with fail
    refine (R.out _).mono ?_
    rintro e w2 ⟨rfl, h2⟩
    have X2 := below_blk h2 (Blk.new _ _ _) (by simp)
    have H2 := hide (((h1.alloc h1.size _).trans (h2.mono (by have := h1.size; simp; omega))))
    clear h1 h2
    go_wp2_with fail
    refine (lives_ok _).mono ?_
    rintro e w3 ⟨rfl, h3⟩
    have Y3 := below_blk h3 (Blk.new _ _ _) (by simp)
    have X3 := below_blk h3 (X2.alloc _) (by have := X2.lt; simp; omega)
    have H3 := hide ((H2.out.alloc H2.out.size _).trans (h3.mono (by have := H2.out.size; simp; omega)))
    clear h3 X2 H2
    have x0 := X3.cell 0
    have x1 := X3.cell 1
    have x2 := X3.cell 2
    have x3 := X3.cell 3
    have y0 := Y3.cell 0
    have y1 := Y3.cell 1
    have y2 := Y3.cell 2
    have y3 := Y3.cell 3
    clear X3 Y3
    go_wp2_with (first | (go_at_call 13; refine (E.out _).mono ?_; rintro e w4 ⟨rfl, h4⟩; have H4 := hide (H3.out.trans (h4.mono H3.out.size)); clear h4))
    go_ret
    exact ⟨rfl, H4.out⟩
end Go.Proofs.Ytkoibmpncfbnpaa
