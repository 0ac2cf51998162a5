/-
  The walk of 'InsnSteps'.
-/
import Derived.Test.YtkoibmpncfbnpaaInsnRun
namespace Go.Proofs.Ytkoibmpncfbnpaa
open Go.ChangeShapes Go.WideShapes Go.ChangeAt Go.RowKit
set_option linter.unusedVariables false
set_option linter.unusedSimpArgs false

/-- What holds in every world of the last statement. -/
def StS (w : World) (g1 g2 : Nat) (ds : List Int) (k ad sz rg va ol : Int) (W : World) : Prop :=
  Blk W g1 35 (u32A ds) ∧ Blk W (g1 + 1) 37 (actC k ad sz rg va ol) ∧ Blk W g2 35 (u32A ds) ∧ Blk W (g2 + 1) 37 (actC k ad sz rg va ol) ∧ Below w.heap.size w W
theorem StS.later {w W W' : World} {g1 g2 : Nat} {ds : List Int} {k ad sz rg va ol : Int} (h : StS w g1 g2 ds k ad sz rg va ol W) (hb : Below W.heap.size W W') : StS w g1 g2 ds k ad sz rg va ol W' :=
  ⟨below_blk hb h.1 h.1.lt, below_blk hb h.2.1 h.2.1.lt, below_blk hb h.2.2.1 h.2.2.1.lt, below_blk hb h.2.2.2.1 h.2.2.2.1.lt, h.2.2.2.2.trans (hb.mono h.2.2.2.2.size)⟩

set_option maxRecDepth 100000 in
set_option maxHeartbeats 4000000 in
theorem insnSteps_is (cs : List Int) (hc : IsCpu cs) (v u : Int) (v0 : 0 ≤ v) (v1 : v < 4294967296) (u0 : 0 ≤ u) (u1 : u < 4294967296) (w : World) :
    Calls Try.prog 5 #[.agg (u32A cs), .int .u32 v, .int .u32 u] w fun e w' => e = .returned (.bool true) ∧ Below w.heap.size w w' := by
  have S := hide (fun w => step_is v cs hc v0 v1 w)
  have R := hide (fun w => rstep_is v cs hc v0 v1 w)
  have HC := hide hc.1
  have HD := hide (stepC_cpu hc v)
  have HA := hide (stepA_ok cs v)
  unfold StepPost at S R
  clear hc
  generalize stepC cs v = ds at *
  generalize stepA cs v = an at *
  have HL := hide HD.out.1
  have F := hide (fun w => finish_any ds HD.out an HA.out u u0 u1 w)
  have G := hide (fun w => rfinish_any ds HD.out an HA.out u u0 u1 w)
  have HF := hide (finC_cpu HD.out an.k an.sz an.rg u u0 u1).1
  clear HD HA
  generalize finC ds an.k an.sz an.rg u = fs at *
  unfold ActN.v at S R
  generalize an.k = k at *
  generalize an.ad = ad at *
  generalize an.sz = sz at *
  generalize an.rg = rg at *
  generalize an.va = va at *
  generalize an.ol = ol at *
  go_enter Try.func5, Try.ntmps5
  have B0 := Blk.new w 35 (u32A cs)
  have b0 : Below w.heap.size w (w.alloc (.cells (u32A cs) 35)) := (Below.refl _ _).alloc (Nat.le_refl _) _
  go_upto_region 2 with (first
    | (with_reducible refine wp_region_lit (id := 1) ?_)
    | ((with_reducible refine cpu_load (.tmp 3) B0 ?_ ?_ ?_); (· rfl); (· exact HC.out))
    | (go_at_call 15; refine (S.out _).mono ?_; rintro e w1 ⟨rfl, h1⟩; have B1 := below_blk h1 B0 B0.lt; have H1 := hide (b0.trans (h1.mono b0.size)); clear h1)
    | ((with_reducible refine cpu_store (.tmp 7) (.tmp 15) ds (two_new w1 _ _ ?_ ?_).1 ?_ ?_ ?_ ?_); (· rfl); (· rfl); (· rfl); (· rfl); (· exact HL.out))
    | ((with_reducible refine act_store (.tmp 8) (.tmp 16) k ad sz rg va ol (let ⟨o, l, h⟩ := (two_new w1 _ _ ?_ ?_).2; ⟨o, l, h.rowFar (by omega) _⟩) ?_ ?_ ?_); (· rfl); (· rfl); (· rfl); (· rfl)))
  refine world_from (fun W => Blk W w1.heap.size 35 (u32A ds) ∧ Blk W (w1.heap.size + 1) 37 (actC k ad sz rg va ol) ∧ Below w.heap.size w W ∧ Blk W w.heap.size 35 (u32A cs)) ⟨(two_laid H1.out).1, (two_laid H1.out).2.1, (two_laid H1.out).2.2.1, (two_laid H1.out).2.2.2 B1⟩ ?_
  rintro w2 ⟨C2, A2, b2, B2⟩
  clear B0 b0 B1 H1
  generalize w1.heap.size = g1 at *
  go_upto_region 3 with (first
    | (with_reducible refine wp_region_lit (id := 2) ?_)
    | ((with_reducible refine cpu_load (.tmp 3) B2 ?_ ?_ ?_); (· rfl); (· exact HC.out))
    | (go_at_call 16; refine (R.out _).mono ?_; rintro e w3 ⟨rfl, h3⟩; have C3 := below_blk h3 C2 C2.lt; have A3 := below_blk h3 A2 A2.lt; have H3 := hide (b2.trans (h3.mono b2.size)); clear h3)
    | ((with_reducible refine cpu_store (.tmp 9) (.tmp 21) ds (two_new w3 _ _ ?_ ?_).1 ?_ ?_ ?_ ?_); (· rfl); (· rfl); (· rfl); (· rfl); (· exact HL.out))
    | ((with_reducible refine act_store (.tmp 10) (.tmp 22) k ad sz rg va ol (let ⟨o, l, h⟩ := (two_new w3 _ _ ?_ ?_).2; ⟨o, l, h.rowFar (by omega) _⟩) ?_ ?_ ?_); (· rfl); (· rfl); (· rfl); (· rfl)))
  refine world_from (fun W => StS w g1 w3.heap.size ds k ad sz rg va ol W) ⟨(two_laid H3.out).2.2.2 C3, (two_laid H3.out).2.2.2 A3, (two_laid H3.out).1, (two_laid H3.out).2.1, (two_laid H3.out).2.2.1⟩ ?_
  intro w4 s4
  clear C2 A2 b2 B2 C3 A3 H3
  generalize w3.heap.size = g2 at *
  refine wp_region_held (S := StS w g1 g2 ds k ad sz rg va ol) (by kernel_rfl) ?_
  change wpAnyH _ _ _ _ _ _ _ _ (World.drew _)
  have s4' : StS w g1 g2 ds k ad sz rg va ol w4.drew := ⟨s4.1, s4.2.1, s4.2.2.1, s4.2.2.2.1, s4.2.2.2.2.drew⟩
  clear s4
  refine wpAnyH_ready (rs := [0]) (by kernel_rfl) (by simp) ?_
  refine AllReadyH.cons (o := ⟨some 23, .call _, _, _, _, none⟩) rfl (fun K hK => ?_) AllReadyH.nil
  go_simp
  go_at_call 12
  refine (lives_ok _).mono ?_
  rintro e w5 ⟨rfl, h5⟩
  have s5 := s4'.later h5
  clear h5 s4'
  go_simp
  refine hK.out _ _ s5 (fun hHeld => ?_)
  clear hK K
  refine wpAnyH_take (i := 1) (oi := ⟨some 24, .move _, _, _, _, none⟩) (v := (.bool true)) rfl (by kernel_rfl) (by kernel_rfl) (by kernel_rfl) (fun _ _ _ h => h) (Or.inl ⟨by rfl, fun wx hx => ?_⟩) (by assumption) ?_
  · go_simp
  simp only [Act.put, List.setIfInBounds_toArray, List.set_cons_zero, List.set_cons_succ]
  refine wpAnyH_take (i := 2) (oi := ⟨some 25, .load 35 (.tmp 7), _, _, _, some (1, true)⟩) (v := (.agg (u32A ds))) rfl (by kernel_rfl) (by kernel_rfl) (by kernel_rfl) (fun _ _ _ h => h) (Or.inl ⟨by rfl, fun wx hx => ?_⟩) (by assumption) ?_
  · exact run_load_cpu hx.1 rfl HL.out
  simp only [Act.put, List.setIfInBounds_toArray, List.set_cons_zero, List.set_cons_succ]
  refine wpAnyH_take (i := 3) (oi := ⟨some 26, .load 35 (.tmp 9), _, _, _, some (1, true)⟩) (v := (.agg (u32A ds))) rfl (by kernel_rfl) (by kernel_rfl) (by kernel_rfl) (fun _ _ _ h => h) (Or.inl ⟨by rfl, fun wx hx => ?_⟩) (by assumption) ?_
  · exact run_load_cpu hx.2.2.1 rfl HL.out
  simp only [Act.put, List.setIfInBounds_toArray, List.set_cons_zero, List.set_cons_succ]
  refine wpAnyH_take (i := 4) (oi := ⟨some 27, .binOp .eql 35 (.tmp 25) (.tmp 26) _, _, _, _, some (1, true)⟩) (v := (.bool true)) rfl (by kernel_rfl) (by kernel_rfl) (by kernel_rfl) (fun _ _ _ h => h) (Or.inl ⟨by rfl, fun wx hx => ?_⟩) (by assumption) ?_
  · exact run_cmp_cpu (.inl rfl) (cpu_eql ds HL.out wx) rfl rfl
  simp only [Act.put, List.setIfInBounds_toArray, List.set_cons_zero, List.set_cons_succ]
  refine wpAnyH_take (i := 5) (oi := ⟨some 28, .pick _ _ _, _, _, _, none⟩) (v := (.bool true)) rfl (by kernel_rfl) (by kernel_rfl) (by kernel_rfl) (fun _ _ _ h => h) (Or.inl ⟨by rfl, fun wx hx => ?_⟩) (by assumption) ?_
  · go_simp
  simp only [Act.put, List.setIfInBounds_toArray, List.set_cons_zero, List.set_cons_succ]
  refine wpAnyH_take (i := 6) (oi := ⟨some 29, .move _, _, _, _, none⟩) (v := (.bool true)) rfl (by kernel_rfl) (by kernel_rfl) (by kernel_rfl) (fun _ _ _ h => h) (Or.inl ⟨by rfl, fun wx hx => ?_⟩) (by assumption) ?_
  · go_simp
  simp only [Act.put, List.setIfInBounds_toArray, List.set_cons_zero, List.set_cons_succ]
  refine wpAnyH_take (i := 7) (oi := ⟨some 30, .load 37 (.tmp 8), _, _, _, some (6, true)⟩) (v := (actV k ad sz rg va ol)) rfl (by kernel_rfl) (by kernel_rfl) (by kernel_rfl) (fun _ _ _ h => h) (Or.inl ⟨by rfl, fun wx hx => ?_⟩) (by assumption) ?_
  · exact run_load_act hx.2.1 rfl
  simp only [Act.put, List.setIfInBounds_toArray, List.set_cons_zero, List.set_cons_succ]
  refine wpAnyH_take (i := 8) (oi := ⟨some 31, .load 37 (.tmp 10), _, _, _, some (6, true)⟩) (v := (actV k ad sz rg va ol)) rfl (by kernel_rfl) (by kernel_rfl) (by kernel_rfl) (fun _ _ _ h => h) (Or.inl ⟨by rfl, fun wx hx => ?_⟩) (by assumption) ?_
  · exact run_load_act hx.2.2.2.1 rfl
  simp only [Act.put, List.setIfInBounds_toArray, List.set_cons_zero, List.set_cons_succ]
  refine wpAnyH_take (i := 9) (oi := ⟨some 32, .binOp .eql 37 (.tmp 30) (.tmp 31) _, _, _, _, some (6, true)⟩) (v := (.bool true)) rfl (by kernel_rfl) (by kernel_rfl) (by kernel_rfl) (fun _ _ _ h => h) (Or.inl ⟨by rfl, fun wx hx => ?_⟩) (by assumption) ?_
  · exact run_cmp_act (.inl rfl) (act_eql k ad sz rg va ol wx) rfl rfl
  simp only [Act.put, List.setIfInBounds_toArray, List.set_cons_zero, List.set_cons_succ]
  refine wpAnyH_take (i := 10) (oi := ⟨some 33, .pick _ _ _, _, _, _, none⟩) (v := (.bool true)) rfl (by kernel_rfl) (by kernel_rfl) (by kernel_rfl) (fun _ _ _ h => h) (Or.inl ⟨by rfl, fun wx hx => ?_⟩) (by assumption) ?_
  · go_simp
  simp only [Act.put, List.setIfInBounds_toArray, List.set_cons_zero, List.set_cons_succ]
  refine wpAnyH_take (i := 11) (oi := ⟨some 34, .move _, _, _, _, none⟩) (v := (.bool true)) rfl (by kernel_rfl) (by kernel_rfl) (by kernel_rfl) (fun _ _ _ h => h) (Or.inl ⟨by rfl, fun wx hx => ?_⟩) (by assumption) ?_
  · go_simp
  simp only [Act.put, List.setIfInBounds_toArray, List.set_cons_zero, List.set_cons_succ]
  refine wpAnyH_take (i := 12) (oi := ⟨some 35, .load 35 (.tmp 7), _, _, _, some (11, true)⟩) (v := (.agg (u32A ds))) rfl (by kernel_rfl) (by kernel_rfl) (by kernel_rfl) (fun _ _ _ h => h) (Or.inl ⟨by rfl, fun wx hx => ?_⟩) (by assumption) ?_
  · exact run_load_cpu hx.1 rfl HL.out
  simp only [Act.put, List.setIfInBounds_toArray, List.set_cons_zero, List.set_cons_succ]
  refine wpAnyH_take (i := 13) (oi := ⟨some 36, .load 37 (.tmp 8), _, _, _, some (11, true)⟩) (v := (actV k ad sz rg va ol)) rfl (by kernel_rfl) (by kernel_rfl) (by kernel_rfl) (fun _ _ _ h => h) (Or.inl ⟨by rfl, fun wx hx => ?_⟩) (by assumption) ?_
  · exact run_load_act hx.2.1 rfl
  simp only [Act.put, List.setIfInBounds_toArray, List.set_cons_zero, List.set_cons_succ]
  refine wpAnyH_take (i := 14) (oi := ⟨some 37, .move _, _, _, _, some (11, true)⟩) (v := (.int .u32 u)) rfl (by kernel_rfl) (by kernel_rfl) (by kernel_rfl) (fun _ _ _ h => h) (Or.inl ⟨by rfl, fun wx hx => ?_⟩) (by assumption) ?_
  · go_simp
  simp only [Act.put, List.setIfInBounds_toArray, List.set_cons_zero, List.set_cons_succ]
  refine wpAnyH_take (i := 16) (oi := ⟨some 39, .load 35 (.tmp 9), _, _, _, some (11, true)⟩) (v := (.agg (u32A ds))) rfl (by kernel_rfl) (by kernel_rfl) (by kernel_rfl) (fun _ _ _ h => h) (Or.inl ⟨by rfl, fun wx hx => ?_⟩) (by assumption) ?_
  · exact run_load_cpu hx.2.2.1 rfl HL.out
  simp only [Act.put, List.setIfInBounds_toArray, List.set_cons_zero, List.set_cons_succ]
  refine wpAnyH_take (i := 17) (oi := ⟨some 40, .load 37 (.tmp 10), _, _, _, some (11, true)⟩) (v := (actV k ad sz rg va ol)) rfl (by kernel_rfl) (by kernel_rfl) (by kernel_rfl) (fun _ _ _ h => h) (Or.inl ⟨by rfl, fun wx hx => ?_⟩) (by assumption) ?_
  · exact run_load_act hx.2.2.2.1 rfl
  simp only [Act.put, List.setIfInBounds_toArray, List.set_cons_zero, List.set_cons_succ]
  refine wpAnyH_take (i := 18) (oi := ⟨some 41, .move _, _, _, _, some (11, true)⟩) (v := (.int .u32 u)) rfl (by kernel_rfl) (by kernel_rfl) (by kernel_rfl) (fun _ _ _ h => h) (Or.inl ⟨by rfl, fun wx hx => ?_⟩) (by assumption) ?_
  · go_simp
  simp only [Act.put, List.setIfInBounds_toArray, List.set_cons_zero, List.set_cons_succ]
  refine wpAnyH_ready (rs := [15]) (by kernel_rfl) (by simp) ?_
  refine AllReadyH.cons (o := ⟨some 38, .call _, _, _, _, some (11, true)⟩) rfl (fun K hK => ?_) AllReadyH.nil
  go_simp
  go_at_call 17
  refine (F.out _).mono ?_
  rintro e w6 ⟨rfl, h6⟩
  have s6 := s5.later h6
  clear h6 s5 hHeld
  go_simp
  refine hK.out _ _ s6 (fun hHeld => ?_)
  clear hK K
  refine wpAnyH_ready (rs := [19]) (by kernel_rfl) (by simp) ?_
  refine AllReadyH.cons (o := ⟨some 42, .call _, _, _, _, some (11, true)⟩) rfl (fun K hK => ?_) AllReadyH.nil
  go_simp
  go_at_call 18
  refine (G.out _).mono ?_
  rintro e w7 ⟨rfl, h7⟩
  have s7 := s6.later h7
  clear h7 s6 hHeld
  go_simp
  refine hK.out _ _ s7 (fun hHeld => ?_)
  clear hK K
  refine wpAnyH_take (i := 20) (oi := ⟨some 43, .binOp .eql 35 (.tmp 38) (.tmp 42) _, _, _, _, some (11, true)⟩) (v := (.bool true)) rfl (by kernel_rfl) (by kernel_rfl) (by kernel_rfl) (fun _ _ _ h => h) (Or.inl ⟨by rfl, fun wx hx => ?_⟩) (by assumption) ?_
  · exact run_cmp_cpu (.inl rfl) (cpu_eql fs HF.out wx) rfl rfl
  simp only [Act.put, List.setIfInBounds_toArray, List.set_cons_zero, List.set_cons_succ]
  refine wpAnyH_take (i := 21) (oi := ⟨some 44, .pick _ _ _, _, _, _, none⟩) (v := (.bool true)) rfl (by kernel_rfl) (by kernel_rfl) (by kernel_rfl) (fun _ _ _ h => h) (Or.inl ⟨by rfl, fun wx hx => ?_⟩) (by assumption) ?_
  · go_simp
  simp only [Act.put, List.setIfInBounds_toArray, List.set_cons_zero, List.set_cons_succ]
  refine wpAnyH_take (i := 22) (oi := ⟨some 6, .assign _, _, _, _, none⟩) (v := (.bool true)) rfl (by kernel_rfl) (by kernel_rfl) (by kernel_rfl) (fun _ _ _ h => h) (Or.inl ⟨by rfl, fun wx hx => ?_⟩) (by assumption) ?_
  · go_simp
  simp only [Act.put, List.setIfInBounds_toArray, List.set_cons_zero, List.set_cons_succ]
  refine wpAnyH_done (by kernel_rfl) ?_ _
  go_wp2
  go_ret
  exact ⟨rfl, s7.2.2.2.2⟩

theorem insnSteps_walk {H : Type} {enc : TypeId × Value → H} {w : World} {base : Nat} {x : Value} {d : DataW H} (ok : Value.okWide Try.prog w .any base 35 x) (r : Rd enc Try.prog w 35 x.cells.toList d) (v u : Int) (wv : (Lit.int .u32 v).wf = true) (wu : (Lit.int .u32 u).wf = true) :
    Calls Try.prog 5 #[x, .int .u32 v, .int .u32 u] w fun e w' => e = .returned (.bool true) ∧ Below w.heap.size w w' := by
  obtain ⟨cs, rfl, hc⟩ := r.cpu ok
  exact insnSteps_is cs hc v u (wf_u32 wv).1 (wf_u32 wv).2 (wf_u32 wu).1 (wf_u32 wu).2 w
end Go.Proofs.Ytkoibmpncfbnpaa
