/-
  What every word does to every processor: 'stepC' and 'stepA'; Step of parapet/insn and of the reference come to these.
-/
import Derived.Test.YtkoibmpncfbnpaaInsnStepA
import Derived.Test.YtkoibmpncfbnpaaInsnStepB
import Derived.Test.YtkoibmpncfbnpaaInsnStepC
import Derived.Test.YtkoibmpncfbnpaaInsnStepD
import Derived.Test.YtkoibmpncfbnpaaInsnStepZ
import Derived.Test.YtkoibmpncfbnpaaRefStepA
import Derived.Test.YtkoibmpncfbnpaaRefStepB
import Derived.Test.YtkoibmpncfbnpaaRefStepC
import Derived.Test.YtkoibmpncfbnpaaRefStepD
import Derived.Test.YtkoibmpncfbnpaaRefStepE
import Derived.Test.YtkoibmpncfbnpaaInsnFinish
namespace Go.Proofs.Ytkoibmpncfbnpaa
open Go.ChangeShapes Go.WideShapes Go.ChangeAt Go.RowKit
set_option linter.unusedVariables false

/-- An act in its parts. -/
structure ActN where
  k : Int
  ad : Int
  sz : Int
  rg : Int
  va : Int
  ol : Int
def ActN.v (a : ActN) : Value := actV a.k a.ad a.sz a.rg a.va a.ol

def stepO (cs : List Int) (o A B i : Int) : List Int :=
  if o < 1 ∨ 28 < o then cs
  else if o ≤ 16 then (cs.set A.toNat (val o (gb cs A.toNat) (gb cs B.toNat) (i % 4294967296))).set 16 ((gb cs 16 + 4) % 4294967296)
  else if o = 17 ∨ o = 18 ∨ o = 19 ∨ o = 20 ∨ o = 27 then cs
  else if o = 25 then (cs.set A.toNat ((gb cs 16 + 4) % 4294967296)).set 16 ((gb cs 16 + 4 * i) % 4294967296)
  else if o = 26 then (cs.set A.toNat ((gb cs 16 + 4) % 4294967296)).set 16 ((gb cs B.toNat + i) % 4294967296)
  else if o = 28 then cs.set 16 ((gb cs 16 + 4) % 4294967296)
  else if turnsB o (gb cs A.toNat) (gb cs B.toNat) = true then cs.set 16 ((gb cs 16 + 4 * i) % 4294967296)
  else cs.set 16 ((gb cs 16 + 4) % 4294967296)
def actO (cs : List Int) (o A B i : Int) : ActN :=
  if o < 1 ∨ 28 < o then ⟨6, 0, 0, 0, 0, 0⟩
  else if o = 17 then ⟨2, (gb cs B.toNat + i) % 4294967296, 4, A, 0, 0⟩
  else if o = 18 then ⟨3, (gb cs B.toNat + i) % 4294967296, 4, 0, gb cs A.toNat, 0⟩
  else if o = 19 then ⟨2, (gb cs B.toNat + i) % 4294967296, 1, A, 0, 0⟩
  else if o = 20 then ⟨3, (gb cs B.toNat + i) % 4294967296, 1, 0, gb cs A.toNat % 256, 0⟩
  else if o = 27 then ⟨4, (gb cs B.toNat + i) % 4294967296, 4, 0, gb cs A.toNat, gb cs 15⟩
  else if o = 28 then ⟨5, 0, 0, 0, 0, 0⟩
  else ⟨1, 0, 0, 0, 0, 0⟩
def stepC (cs : List Int) (v : Int) : List Int := stepO cs (v % 256) (v / 256 % 16) (v / 4096 % 16) (immOf v)
def stepA (cs : List Int) (v : Int) : ActN := actO cs (v % 256) (v / 256 % 16) (v / 4096 % 16) (immOf v)

def StepPost (cs : List Int) (v : Int) (w : World) (e : Ending) (w' : World) : Prop := e = .returned (.tuple #[.agg (u32A (stepC cs v)), (stepA cs v).v]) ∧ Below w.heap.size w w'

section
variable (v : Int) (cs : List Int) (hc : IsCpu cs) (v0 : 0 ≤ v) (v1 : v < 4294967296) (w : World)
include hc v0 v1
theorem step_is : Calls Try.prog 15 #[.agg (u32A cs), .int .u32 v] w (StepPost cs v w) := by
  unfold StepPost stepC stepA
  generalize ho : v % 256 = o
  generalize hA : v / 256 % 16 = A
  generalize hB : v / 4096 % 16 = B
  generalize hi : immOf v = i
  by_cases hbad : o < 1 ∨ 28 < o
  · simp only [stepO, actO, if_pos hbad, ActN.v]
    exact step_bad v cs hc v0 v1 (by rw [ho]; exact hbad) w
  by_cases h16 : o ≤ 16
  · simp only [stepO, actO, if_neg hbad, if_pos h16, ActN.v]
    rw [if_neg (by omega), if_neg (by omega), if_neg (by omega), if_neg (by omega), if_neg (by omega), if_neg (by omega)]
    exact step_num v cs hc v0 v1 o A B i ho hA hB hi (by omega) h16 w
  have hs : o = 17 ∨ o = 18 ∨ o = 19 ∨ o = 20 ∨ o = 21 ∨ o = 22 ∨ o = 23 ∨ o = 24 ∨ o = 25 ∨ o = 26 ∨ o = 27 ∨ o = 28 := by omega
  clear hbad h16
  rcases hs with hs | hs | hs | hs | hs | hs | hs | hs | hs | hs | hs | hs
  · have h := step_17 v cs hc v0 v1 o A B i ho hA hB hi hs w; subst hs; exact h
  · have h := step_18 v cs hc v0 v1 o A B i ho hA hB hi hs w; subst hs; exact h
  · have h := step_19 v cs hc v0 v1 o A B i ho hA hB hi hs w; subst hs; exact h
  · have h := step_20 v cs hc v0 v1 o A B i ho hA hB hi hs w; subst hs; exact h
  all_goals first
    | (have h := step_27 v cs hc v0 v1 o A B i ho hA hB hi hs w; subst hs; exact h)
    | (have h := step_sys v cs hc v0 v1 o A B i ho hA hB hi hs w; subst hs; exact h)
    | (have h := step_jal v cs hc v0 v1 o A B i ho hA hB hi hs w; subst hs; exact h)
    | (have h := step_jalr v cs hc v0 v1 o A B i ho hA hB hi hs w; subst hs; exact h)
    | skip
  all_goals
    cases ht : turnsB o (gb cs A.toNat) (gb cs B.toNat) with
    | true =>
      have h := step_turns v cs hc v0 v1 o A B i ho hA hB hi (by omega) ht w
      subst hs
      simp only [stepO, ht, if_true]
      exact h
    | false =>
      have h := step_stays v cs hc v0 v1 o A B i ho hA hB hi (by omega) ht w
      subst hs
      simp only [stepO, ht]
      exact h
theorem rstep_is : Calls Try.prog 16 #[.agg (u32A cs), .int .u32 v] w (StepPost cs v w) := by
  unfold StepPost stepC stepA
  generalize ho : v % 256 = o
  generalize hA : v / 256 % 16 = A
  generalize hB : v / 4096 % 16 = B
  generalize hi : immOf v = i
  by_cases hbad : o < 1 ∨ 28 < o
  · simp only [stepO, actO, if_pos hbad, ActN.v]
    exact rstep_bad v cs hc v0 v1 (by rw [ho]; exact hbad) w
  by_cases h16 : o ≤ 16
  · simp only [stepO, actO, if_neg hbad, if_pos h16, ActN.v]
    rw [if_neg (by omega), if_neg (by omega), if_neg (by omega), if_neg (by omega), if_neg (by omega), if_neg (by omega)]
    exact rstep_num v cs hc v0 v1 o A B i ho hA hB hi (by omega) h16 w
  have hs : o = 17 ∨ o = 18 ∨ o = 19 ∨ o = 20 ∨ o = 21 ∨ o = 22 ∨ o = 23 ∨ o = 24 ∨ o = 25 ∨ o = 26 ∨ o = 27 ∨ o = 28 := by omega
  clear hbad h16
  rcases hs with hs | hs | hs | hs | hs | hs | hs | hs | hs | hs | hs | hs
  · have h := rstep_17 v cs hc v0 v1 o A B i ho hA hB hi hs w; subst hs; exact h
  · have h := rstep_18 v cs hc v0 v1 o A B i ho hA hB hi hs w; subst hs; exact h
  · have h := rstep_19 v cs hc v0 v1 o A B i ho hA hB hi hs w; subst hs; exact h
  · have h := rstep_20 v cs hc v0 v1 o A B i ho hA hB hi hs w; subst hs; exact h
  all_goals first
    | (have h := rstep_27 v cs hc v0 v1 o A B i ho hA hB hi hs w; subst hs; exact h)
    | (have h := rstep_sys v cs hc v0 v1 o A B i ho hA hB hi hs w; subst hs; exact h)
    | (have h := rstep_jal v cs hc v0 v1 o A B i ho hA hB hi hs w; subst hs; exact h)
    | (have h := rstep_jalr v cs hc v0 v1 o A B i ho hA hB hi hs w; subst hs; exact h)
    | skip
  all_goals
    cases ht : turnsB o (gb cs A.toNat) (gb cs B.toNat) with
    | true =>
      have h := rstep_turns v cs hc v0 v1 o A B i ho hA hB hi (by omega) ht w
      subst hs
      simp only [stepO, ht, if_true]
      exact h
    | false =>
      have h := rstep_stays v cs hc v0 v1 o A B i ho hA hB hi (by omega) ht w
      subst hs
      simp only [stepO, ht]
      exact h
end
end Go.Proofs.Ytkoibmpncfbnpaa
