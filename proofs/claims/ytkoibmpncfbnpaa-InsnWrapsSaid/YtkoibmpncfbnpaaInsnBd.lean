/-
  What a step comes to is a processor again; and what an act may be.
-/
import Derived.Test.YtkoibmpncfbnpaaInsnEq
namespace Go.Proofs.Ytkoibmpncfbnpaa
open Go.ChangeShapes Go.WideShapes Go.ChangeAt Go.RowKit
set_option linter.unusedVariables false

theorem bits_bd (op : BinOp) (a b : Int) : 0 ≤ bits op .u32 a b ∧ bits op .u32 a b < 4294967296 := wf_u32 (wf_bits op .u32 a b)
theorem val_bd (o a b i : Int) (a0 : 0 ≤ a) (a1 : a < 4294967296) (b0 : 0 ≤ b) (b1 : b < 4294967296) (i0 : 0 ≤ i) (i1 : i < 4294967296) : 0 ≤ val o a b i ∧ val o a b i < 4294967296 := by
  unfold val
  by_cases h1 : o = 1
  · rw [if_pos h1]; exact ⟨i0, i1⟩
  rw [if_neg h1]
  by_cases h2 : o = 2
  · rw [if_pos h2]; omega
  rw [if_neg h2]
  by_cases h3 : o = 3
  · rw [if_pos h3]; omega
  rw [if_neg h3]
  by_cases h4 : o = 4
  · rw [if_pos h4]; omega
  rw [if_neg h4]
  by_cases h5 : o = 5
  · rw [if_pos h5]; exact bits_bd _ _ _
  rw [if_neg h5]
  by_cases h6 : o = 6
  · rw [if_pos h6]; exact bits_bd _ _ _
  rw [if_neg h6]
  by_cases h7 : o = 7
  · rw [if_pos h7]; exact bits_bd _ _ _
  rw [if_neg h7]
  by_cases h8 : o = 8
  · rw [if_pos h8]; exact ⟨Int.emod_nonneg _ (by decide), Int.emod_lt_of_pos _ (by decide)⟩
  rw [if_neg h8]
  by_cases h9 : o = 9
  · rw [if_pos h9]; exact ⟨Int.ediv_nonneg a0 (by have := pow_pos' (b % 32).toNat; omega), Int.lt_of_le_of_lt (Int.ediv_le_self _ a0) a1⟩
  rw [if_neg h9]
  by_cases h10 : o = 10
  · rw [if_pos h10]; exact ⟨Int.emod_nonneg _ (by decide), Int.emod_lt_of_pos _ (by decide)⟩
  rw [if_neg h10]
  by_cases h11 : o = 11
  · rw [if_pos h11]; exact ⟨Int.emod_nonneg _ (by decide), Int.emod_lt_of_pos _ (by decide)⟩
  rw [if_neg h11]
  by_cases h12 : o = 12
  · rw [if_pos h12]; by_cases hb : b = 0
    · rw [if_pos hb]; omega
    · rw [if_neg hb]; exact ⟨Int.ediv_nonneg a0 b0, Int.lt_of_le_of_lt (Int.ediv_le_self _ a0) a1⟩
  rw [if_neg h12]
  by_cases h13 : o = 13
  · rw [if_pos h13]; by_cases hb : b = 0
    · rw [if_pos hb]; omega
    · rw [if_neg hb]; have := Int.emod_nonneg a hb; have := Int.emod_lt_of_pos a (show 0 < b by omega); omega
  rw [if_neg h13]
  by_cases h14 : o = 14
  · rw [if_pos h14]; by_cases hb : sg a < sg b
    · rw [if_pos hb]; omega
    · rw [if_neg hb]; omega
  rw [if_neg h14]
  by_cases h15 : o = 15
  · rw [if_pos h15]; by_cases hb : a < b
    · rw [if_pos hb]; omega
    · rw [if_neg hb]; omega
  rw [if_neg h15]
  omega

theorem stepO_cpu {cs : List Int} (hc : IsCpu cs) (o A B i : Int) : IsCpu (stepO cs o A B i) := by
  have p := hc.get 16
  have a := hc.get A.toNat
  have b := hc.get B.toNat
  have vb := val_bd o _ _ (i % 4294967296) a.1 a.2 b.1 b.2 (by omega) (by omega)
  unfold stepO
  split; · exact hc
  split; · exact (hc.set _ vb.1 vb.2).set _ (by omega) (by omega)
  split; · exact hc
  split; · exact (hc.set _ (by omega) (by omega)).set _ (by omega) (by omega)
  split; · exact (hc.set _ (by omega) (by omega)).set _ (by omega) (by omega)
  split; · exact hc.set _ (by omega) (by omega)
  split; · exact hc.set _ (by omega) (by omega)
  exact hc.set _ (by omega) (by omega)
theorem stepC_cpu {cs : List Int} (hc : IsCpu cs) (v : Int) : IsCpu (stepC cs v) := stepO_cpu hc _ _ _ _
/-- An act that Finish takes. -/
def OkAct (a : ActN) : Prop := (a.k = 1 ∨ a.k = 2 ∨ a.k = 3 ∨ a.k = 4 ∨ a.k = 5 ∨ a.k = 6) ∧ (a.k = 2 → a.sz = 1 ∨ a.sz = 4) ∧ (a.k = 2 → 0 ≤ a.rg ∧ a.rg < 16)
theorem actO_ok (cs : List Int) (o A B i : Int) (A0 : 0 ≤ A) (A1 : A < 16) : OkAct (actO cs o A B i) := by
  unfold OkAct actO
  repeat' split
  all_goals (refine ⟨by simp, by simp, by simp <;> omega⟩)
theorem stepA_ok (cs : List Int) (v : Int) : OkAct (stepA cs v) := actO_ok _ _ _ _ _ (by omega) (by omega)
theorem finC_cpu {cs : List Int} (hc : IsCpu cs) (k z r v : Int) (v0 : 0 ≤ v) (v1 : v < 4294967296) : IsCpu (finC cs k z r v) := by
  have p := hc.get 16
  unfold finC
  split
  · refine (hc.set _ ?_ ?_).set _ (by omega) (by omega)
    · split <;> omega
    · split <;> omega
  split; · exact (hc.set _ v0 v1).set _ (by omega) (by omega)
  split; · exact hc.set _ (by omega) (by omega)
  exact hc
theorem finish_any (cs : List Int) (hc : IsCpu cs) (a : ActN) (ha : OkAct a) (v : Int) (v0 : 0 ≤ v) (v1 : v < 4294967296) (w : World) :
    Calls Try.prog 17 #[.agg (u32A cs), actV a.k a.ad a.sz a.rg a.va a.ol, .int .u32 v] w fun e w' => e = .returned (.agg (u32A (finC cs a.k a.sz a.rg v))) ∧ Below w.heap.size w w' :=
  fin_is cs hc a.k a.ad a.sz a.rg a.va a.ol v v0 v1 ha.1 ha.2.1 ha.2.2 w
theorem rfinish_any (cs : List Int) (hc : IsCpu cs) (a : ActN) (ha : OkAct a) (v : Int) (v0 : 0 ≤ v) (v1 : v < 4294967296) (w : World) :
    Calls Try.prog 18 #[.agg (u32A cs), actV a.k a.ad a.sz a.rg a.va a.ol, .int .u32 v] w fun e w' => e = .returned (.agg (u32A (finC cs a.k a.sz a.rg v))) ∧ Below w.heap.size w w' :=
  rfin_is cs hc a.k a.ad a.sz a.rg a.va a.ol v v0 v1 ha.1 ha.2.1 ha.2.2 w
end Go.Proofs.Ytkoibmpncfbnpaa
