/-
  The walk of 'InsnRuns'.
-/
import Derived.Test.YtkoibmpncfbnpaaInsnRunsMid
namespace Go.Proofs.Ytkoibmpncfbnpaa
open Go.ChangeShapes Go.WideShapes Go.ChangeAt Go.RowKit
set_option linter.unusedVariables false
set_option linter.unusedSimpArgs false

theorem act_load_g {ops : Array Oper} {rest : List Oper} {ds ty ps af gd} {a : Act} {w : World} {Q : Exit → Act → World → Prop} (x : Operand)
    {g : Nat} {k ad sz rg va ol : Int} (hg : Blk w g 37 (actC k ad sz rg va ol)) (hw : Region.wanted ⟨ds, .load 37 x, ty, ps, af, gd⟩ (yielded ops a.tmps) = true) (hx : a.eval x = .pointer (some ⟨g, 0, none⟩))
    (h : wpList Try.prog ops Q rest (a.put ds (actV k ad sz rg va ol)) w) : wpList Try.prog ops Q (⟨ds, .load 37 x, ty, ps, af, gd⟩ :: rest) a w := by
  refine wpList_step fun K hK => ?_
  rw [if_pos hw]
  exact wp_load_row 37 x rfl _ hx 37 (actC k ad sz rg va ol) (0, 0) _ hg Try.underlying37 rfl (by rw [info_act]; rfl) (hK _ _ h)
theorem act_cmp_g {ops : Array Oper} {rest : List Oper} {ds ty ps af gd t2} {a : Act} {w : World} {Q : Exit → Act → World → Prop} {op : BinOp} (x y : Operand) (k ad sz rg va ol : Int) {c : Bool} (hop : op = .eql ∨ op = .neq)
    (hr : (binOp op 37 (actV k ad sz rg va ol) (actV k ad sz rg va ol)).run Try.prog w = .ok (.bool c) w)
    (hw : Region.wanted ⟨ds, .binOp op 37 x y t2, ty, ps, af, gd⟩ (yielded ops a.tmps) = true) (hx : a.eval x = actV k ad sz rg va ol) (hy : a.eval y = actV k ad sz rg va ol)
    (h : wpList Try.prog ops Q rest (a.put ds (.bool c)) w) : wpList Try.prog ops Q (⟨ds, .binOp op 37 x y t2, ty, ps, af, gd⟩ :: rest) a w := by
  refine wpList_step fun K hK => ?_
  rw [if_pos hw]
  unfold Oper.wp
  rw [run_cmp_act hop hr hx hy]
  exact hK _ _ h

/-- The loop: both processors are the same. -/
def RunsRel (w : World) (len g5 : Nat) (x : Value) (wr : World) : Prop :=
  ∃ (j : Nat) (ds : List Int), j ≤ len ∧ x = .int .i64 j ∧ IsCpu ds ∧ Blk wr w.heap.size 35 (u32A ds) ∧ Blk wr g5 35 (u32A ds) ∧ Below w.heap.size w wr

set_option maxRecDepth 100000 in
set_option maxHeartbeats 4000000 in
theorem insnRuns_is (cs : List Int) (hc : IsCpu cs) (A : Option Addr) (len cap : Nat) (zs : List Int) (w : World) (hr : IsRow .u32 w A len cap zs) :
    Calls Try.prog 8 #[.agg (u32A cs), .slice A len cap] w fun e w' => e = .returned (.bool true) ∧ Below w.heap.size w w' := by
  have HC := hide hc
  have HR := hide hr
  have HN : len ≤ 9223372036854775807 := by
    rcases hr with ⟨_, h0, _⟩ | ⟨x, rfl, hl, hm, _⟩
    · omega
    · unfold maxLen at hm; omega
  clear hc hr
  go_enter Try.func8, Try.ntmps8
  have B0 := Blk.new w 35 (u32A cs)
  have b0 : Below w.heap.size w (w.alloc (.cells (u32A cs) 35)) := (Below.refl _ _).alloc (Nat.le_refl _) _
  go_wp2_with fail
  refine (lives_ok _).mono ?_
  rintro e w1 ⟨rfl, h1⟩
  have B1 := below_blk h1 B0 B0.lt
  have H1 := hide (b0.trans (h1.mono b0.size))
  clear h1 B0 b0
  go_upto_region 4 with (first
    | (with_reducible refine wp_region_lit (id := 3) ?_)
    | ((with_reducible refine cpu_load (.tmp 2) B1 ?_ ?_ ?_); (· rfl); (· exact HC.out.1))
    | ((with_reducible refine cpu_store (.tmp 5) (.tmp 13) cs ⟨_, ?_, Blk.new w1 _ _⟩ ?_ ?_ ?_ ?_); (· rfl); (· rfl); (· rfl); (· exact HC.out.1)))
  refine world_from (fun W => Blk W w1.heap.size 35 (u32A cs) ∧ Below w.heap.size w W ∧ Blk W w.heap.size 35 (u32A cs)) ⟨(Blk.new w1 _ _).row _, below_setRow (H1.out.alloc H1.out.size _) H1.out.size, (B1.alloc _).rowFar (by have := B1.lt; omega) _⟩ ?_
  rintro w2 ⟨C2, b2, B2⟩
  have HNE := hide (show w.heap.size ≠ w1.heap.size by have := B1.lt; omega)
  have HGE := hide (show w.heap.size ≤ w1.heap.size from H1.out.size)
  clear B1 H1
  generalize w1.heap.size = g5 at *
  go_wp2_with fail
  go_loopw [6] (fun x wr => RunsRel w len g5 x wr) (fun x _ => len - (intOf x).toNat)
  case atStart => exact ⟨0, cs, Nat.zero_le _, rfl, HC.out, B2, C2, b2⟩
  case round =>
    obtain ⟨j, ds, hj, rfl, hds, bc, bx, hb⟩ := hrel
    clear C2 b2 B2
    by_cases hlt : j < len
    · obtain ⟨b, o, rfl, hb2, hnc, hcm, hz, hcell, hwf⟩ := HR.out.at_ (by omega)
      have hck := (hb.cell (p := ⟨b, o + j, none⟩) hb2).trans (hcell j (by omega))
      obtain ⟨z0, z1⟩ := wf_u32 (hwf j (by omega))
      generalize gb zs j = z at *
      have S := hide (fun w => step_is z ds hds z0 z1 w)
      have R := hide (fun w => rstep_is z ds hds z0 z1 w)
      have HDC := hide hds.1
      have HD := hide (stepC_cpu hds z)
      have HA := hide (stepA_ok ds z)
      unfold StepPost at S R
      generalize stepC ds z = es at *
      generalize stepA ds z = an at *
      have HL := hide HD.out.1
      have F := hide (fun u u0 u1 w => finish_any es HD.out an HA.out u u0 u1 w)
      have G := hide (fun u u0 u1 w => rfinish_any es HD.out an HA.out u u0 u1 w)
      have HF := hide (fun u u0 u1 => finC_cpu HD.out an.k an.sz an.rg u u0 u1)
      have s0 : RunS w w.heap.size g5 ds ⟨b, o + j, none⟩ z wr := ⟨bc, bx, hb, hck, Nat.lt_of_lt_of_le hb2 hb.size⟩
      have HS := hide s0
      have HB2 := hide hb2
      clear s0 hds bc bx hb hck hb2 hcell hwf hz hnc hcm z0 z1 HD HA
      go_upto_region 7 with (fail)
      go_cut [7, 8] from 14 to 55 (fun p p' wx => RunMid w w.heap.size g5 ds es an.k an.ad an.sz an.rg an.va an.ol ⟨b, o + j, none⟩ z p p' wx)
      case first =>
        have hJ : (j : Int) < len := by omega
        refine wp_region_held (S := RunS w w.heap.size g5 ds ⟨b, o + j, none⟩ z) (by kernel_rfl) ?_
        change wpAnyH _ _ _ _ _ _ _ _ (World.drew _)
        have s1 := (HS.out).drew
        generalize wr.drew = wd at *
        have l0 : w.heap.size < wd.heap.size := s1.c.lt
        have l5 : g5 < wd.heap.size := s1.x.lt
        refine wpAnyH_take (i := 1) (oi := ⟨some 22, .move _, _, _, _, none⟩) (v := (.slice (some ⟨b, o, none⟩) len cap)) rfl (by kernel_rfl) (by kernel_rfl) (by kernel_rfl) (fun _ _ _ h => h) (Or.inl ⟨by rfl, fun wx hx => ?_⟩) (by assumption) ?_
        · go_simp
        simp only [Act.put, List.setIfInBounds_toArray, List.set_cons_zero, List.set_cons_succ]
        refine wpAnyH_take (i := 2) (oi := ⟨some 23, .move _, _, _, _, none⟩) (v := (.int .i64 j)) rfl (by kernel_rfl) (by kernel_rfl) (by kernel_rfl) (fun _ _ _ h => h) (Or.inl ⟨by rfl, fun wx hx => ?_⟩) (by assumption) ?_
        · go_simp
        simp only [Act.put, List.setIfInBounds_toArray, List.set_cons_zero, List.set_cons_succ]
        refine wpAnyH_take (i := 3) (oi := ⟨some 24, .indexAddr _ _ _, _, _, _, none⟩) (v := (.pointer (some ⟨b, o + j, none⟩))) rfl (by kernel_rfl) (by kernel_rfl) (by kernel_rfl) (fun _ _ _ h => h) (Or.inl ⟨by rfl, fun wx hx => ?_⟩) (by assumption) ?_
        · go_simp
        simp only [Act.put, List.setIfInBounds_toArray, List.set_cons_zero, List.set_cons_succ]
        refine wpAnyH_take (i := 0) (oi := ⟨some 21, .load 35 (.tmp 2), _, _, _, none⟩) (v := (.agg (u32A ds))) rfl (by kernel_rfl) (by kernel_rfl) (by kernel_rfl) (fun _ _ _ h => h) (Or.inl ⟨by rfl, fun wx hx => ?_⟩) (by assumption) ?_
        · exact run_load_cpu hx.c rfl HDC.out
        simp only [Act.put, List.setIfInBounds_toArray, List.set_cons_zero, List.set_cons_succ]
        refine wpAnyH_take (i := 4) (oi := ⟨some 25, .load _ _, _, _, _, none⟩) (v := (.int .u32 z)) rfl (by kernel_rfl) (by kernel_rfl) (by kernel_rfl) (fun _ _ _ h => h) (Or.inl ⟨by rfl, fun wx hx => ?_⟩) (by assumption) ?_
        · (have hcl := hx.cell; go_simp)
        simp only [Act.put, List.setIfInBounds_toArray, List.set_cons_zero, List.set_cons_succ]
        refine wpAnyH_ready (rs := [5, 9, 10]) (by kernel_rfl) (by simp) ?_
        refine AllReadyH.cons (o := ⟨some 26, .call _, _, _, _, none⟩) rfl (fun K hK => ?_) ?_
        · go_simp
          go_at_call 15
          refine (S.out _).mono ?_
          rintro e v1 ⟨rfl, h1⟩
          have q1 : wd.heap.size ≤ v1.heap.size := by have := h1.size; (try simp at this); omega
          go_simp
          refine hK.out _ _ (s1.later h1) (fun s1 => ?_)
          clear hK K h1
          refine wpAnyH_take (i := 6) (oi := ⟨some 20, .move _, _, _, _, none⟩) (v := (.tuple #[.agg (u32A es), an.v])) rfl (by kernel_rfl) (by kernel_rfl) (by kernel_rfl) (fun _ _ _ h => h) (Or.inl ⟨by rfl, fun wx hx => ?_⟩) (by assumption) ?_
          · go_simp
          simp only [Act.put, List.setIfInBounds_toArray, List.set_cons_zero, List.set_cons_succ]
          refine wpAnyH_take (i := 7) (oi := ⟨some 27, .extract _ _, _, _, _, none⟩) (v := (.agg (u32A es))) rfl (by kernel_rfl) (by kernel_rfl) (by kernel_rfl) (fun _ _ _ h => h) (Or.inl ⟨by rfl, fun wx hx => ?_⟩) (by assumption) ?_
          · go_simp
          simp only [Act.put, List.setIfInBounds_toArray, List.set_cons_zero, List.set_cons_succ]
          refine wpAnyH_take (i := 8) (oi := ⟨some 28, .extract _ _, _, _, _, none⟩) (v := an.v) rfl (by kernel_rfl) (by kernel_rfl) (by kernel_rfl) (fun _ _ _ h => h) (Or.inl ⟨by rfl, fun wx hx => ?_⟩) (by assumption) ?_
          · go_simp
          simp only [Act.put, List.setIfInBounds_toArray, List.set_cons_zero, List.set_cons_succ]
          refine wpAnyH_ready (rs := [9, 10]) (by kernel_rfl) (by simp) ?_
          refine AllReadyH.cons (o := ⟨some 7, .alloc 35, _, _, _, none⟩) rfl (fun K hK => ?_) ?_
          · go_simp
            refine hK.out _ _ (s1.alloc _) (fun s2 => ?_)
            clear hK K
            have f2_9 : Blk (v1.alloc (.cells #[.int .u32 0, .int .u32 0, .int .u32 0, .int .u32 0, .int .u32 0, .int .u32 0, .int .u32 0, .int .u32 0, .int .u32 0, .int .u32 0, .int .u32 0, .int .u32 0, .int .u32 0, .int .u32 0, .int .u32 0, .int .u32 0, .int .u32 0] 35)) (v1.heap.size) 35 #[.int .u32 0, .int .u32 0, .int .u32 0, .int .u32 0, .int .u32 0, .int .u32 0, .int .u32 0, .int .u32 0, .int .u32 0, .int .u32 0, .int .u32 0, .int .u32 0, .int .u32 0, .int .u32 0, .int .u32 0, .int .u32 0, .int .u32 0] := Blk.new _ _ _
            refine wpAnyH_ready (rs := [10]) (by kernel_rfl) (by simp) ?_
            refine AllReadyH.cons (o := ⟨some 8, .alloc 37, _, _, _, none⟩) rfl (fun K hK => ?_) AllReadyH.nil
            · go_simp
              refine hK.out _ _ (s2.alloc _) (fun s3 => ?_)
              clear hK K
              have f3_10 : Blk ((v1.alloc (.cells #[.int .u32 0, .int .u32 0, .int .u32 0, .int .u32 0, .int .u32 0, .int .u32 0, .int .u32 0, .int .u32 0, .int .u32 0, .int .u32 0, .int .u32 0, .int .u32 0, .int .u32 0, .int .u32 0, .int .u32 0, .int .u32 0, .int .u32 0] 35)).alloc (.cells #[.int .i64 0, .int .u32 0, .int .i64 0, .int .i64 0, .int .u32 0, .int .u32 0] 37)) (v1.heap.size + 1) 37 #[.int .i64 0, .int .u32 0, .int .i64 0, .int .i64 0, .int .u32 0, .int .u32 0] := by
                have e : (v1.alloc (.cells #[.int .u32 0, .int .u32 0, .int .u32 0, .int .u32 0, .int .u32 0, .int .u32 0, .int .u32 0, .int .u32 0, .int .u32 0, .int .u32 0, .int .u32 0, .int .u32 0, .int .u32 0, .int .u32 0, .int .u32 0, .int .u32 0, .int .u32 0] 35)).heap.size = v1.heap.size + 1 := by simp
                have h := Blk.new (v1.alloc (.cells #[.int .u32 0, .int .u32 0, .int .u32 0, .int .u32 0, .int .u32 0, .int .u32 0, .int .u32 0, .int .u32 0, .int .u32 0, .int .u32 0, .int .u32 0, .int .u32 0, .int .u32 0, .int .u32 0, .int .u32 0, .int .u32 0, .int .u32 0] 35)) 37 #[.int .i64 0, .int .u32 0, .int .i64 0, .int .i64 0, .int .u32 0, .int .u32 0]
                rw [e] at h
                exact h
              have f3_9 := f2_9.alloc (.cells #[.int .i64 0, .int .u32 0, .int .i64 0, .int .i64 0, .int .u32 0, .int .u32 0] 37)
              refine wpAnyH_ready (rs := [11]) (by kernel_rfl) (by simp) ?_
              refine AllReadyH.cons (o := ⟨none, .store 35 (.tmp 7) (.tmp 27), _, _, _, none⟩) rfl (fun K hK => ?_) AllReadyH.nil
              (with_reducible refine step_cpu_store (.tmp 7) (.tmp 27) es ⟨_, ?_, f3_9⟩ ?_ ?_ HL.out ?_); (· rfl); (· rfl); (· rfl)
              try go_simp
              refine hK.out _ _ (s3.row (by omega) (by omega) (by omega) HB2.out) (fun t1 => ?_)
              clear hK K
              refine wpAnyH_ready (rs := [12]) (by kernel_rfl) (by simp) ?_
              refine AllReadyH.cons (o := ⟨none, .store 37 (.tmp 8) (.tmp 28), _, _, _, none⟩) rfl (fun K hK => ?_) AllReadyH.nil
              (with_reducible refine step_act_store (.tmp 8) (.tmp 28) an.k an.ad an.sz an.rg an.va an.ol ⟨_, ?_, f3_10.rowFar (by omega) _⟩ ?_ ?_ ?_); (· rfl); (· rfl); (· rfl)
              try go_simp
              refine hK.out _ _ (t1.row (by omega) (by omega) (by omega) HB2.out) (fun t2 => ?_)
              clear hK K
              refine wpAnyH_done (by kernel_rfl) ?_ _
              go_wp2_with fail
              go_meet
              case rel => exact ⟨(v1.heap.size), (v1.heap.size + 1), rfl, rfl, (f3_9.row _).rowFar (by omega) _, (f3_10.rowFar (by omega) _).row _, by omega, by omega, t2⟩
          refine AllReadyH.cons (o := ⟨some 8, .alloc 37, _, _, _, none⟩) rfl (fun K hK => ?_) AllReadyH.nil
          · go_simp
            refine hK.out _ _ (s1.alloc _) (fun s4 => ?_)
            clear hK K
            have f4_10 : Blk (v1.alloc (.cells #[.int .i64 0, .int .u32 0, .int .i64 0, .int .i64 0, .int .u32 0, .int .u32 0] 37)) (v1.heap.size) 37 #[.int .i64 0, .int .u32 0, .int .i64 0, .int .i64 0, .int .u32 0, .int .u32 0] := Blk.new _ _ _
            refine wpAnyH_ready (rs := [9]) (by kernel_rfl) (by simp) ?_
            refine AllReadyH.cons (o := ⟨some 7, .alloc 35, _, _, _, none⟩) rfl (fun K hK => ?_) AllReadyH.nil
            · go_simp
              refine hK.out _ _ (s4.alloc _) (fun s5 => ?_)
              clear hK K
              have f5_9 : Blk ((v1.alloc (.cells #[.int .i64 0, .int .u32 0, .int .i64 0, .int .i64 0, .int .u32 0, .int .u32 0] 37)).alloc (.cells #[.int .u32 0, .int .u32 0, .int .u32 0, .int .u32 0, .int .u32 0, .int .u32 0, .int .u32 0, .int .u32 0, .int .u32 0, .int .u32 0, .int .u32 0, .int .u32 0, .int .u32 0, .int .u32 0, .int .u32 0, .int .u32 0, .int .u32 0] 35)) (v1.heap.size + 1) 35 #[.int .u32 0, .int .u32 0, .int .u32 0, .int .u32 0, .int .u32 0, .int .u32 0, .int .u32 0, .int .u32 0, .int .u32 0, .int .u32 0, .int .u32 0, .int .u32 0, .int .u32 0, .int .u32 0, .int .u32 0, .int .u32 0, .int .u32 0] := by
                have e : (v1.alloc (.cells #[.int .i64 0, .int .u32 0, .int .i64 0, .int .i64 0, .int .u32 0, .int .u32 0] 37)).heap.size = v1.heap.size + 1 := by simp
                have h := Blk.new (v1.alloc (.cells #[.int .i64 0, .int .u32 0, .int .i64 0, .int .i64 0, .int .u32 0, .int .u32 0] 37)) 35 #[.int .u32 0, .int .u32 0, .int .u32 0, .int .u32 0, .int .u32 0, .int .u32 0, .int .u32 0, .int .u32 0, .int .u32 0, .int .u32 0, .int .u32 0, .int .u32 0, .int .u32 0, .int .u32 0, .int .u32 0, .int .u32 0, .int .u32 0]
                rw [e] at h
                exact h
              have f5_10 := f4_10.alloc (.cells #[.int .u32 0, .int .u32 0, .int .u32 0, .int .u32 0, .int .u32 0, .int .u32 0, .int .u32 0, .int .u32 0, .int .u32 0, .int .u32 0, .int .u32 0, .int .u32 0, .int .u32 0, .int .u32 0, .int .u32 0, .int .u32 0, .int .u32 0] 35)
              refine wpAnyH_ready (rs := [11]) (by kernel_rfl) (by simp) ?_
              refine AllReadyH.cons (o := ⟨none, .store 35 (.tmp 7) (.tmp 27), _, _, _, none⟩) rfl (fun K hK => ?_) AllReadyH.nil
              (with_reducible refine step_cpu_store (.tmp 7) (.tmp 27) es ⟨_, ?_, f5_9⟩ ?_ ?_ HL.out ?_); (· rfl); (· rfl); (· rfl)
              try go_simp
              refine hK.out _ _ (s5.row (by omega) (by omega) (by omega) HB2.out) (fun t1 => ?_)
              clear hK K
              refine wpAnyH_ready (rs := [12]) (by kernel_rfl) (by simp) ?_
              refine AllReadyH.cons (o := ⟨none, .store 37 (.tmp 8) (.tmp 28), _, _, _, none⟩) rfl (fun K hK => ?_) AllReadyH.nil
              (with_reducible refine step_act_store (.tmp 8) (.tmp 28) an.k an.ad an.sz an.rg an.va an.ol ⟨_, ?_, f5_10.rowFar (by omega) _⟩ ?_ ?_ ?_); (· rfl); (· rfl); (· rfl)
              try go_simp
              refine hK.out _ _ (t1.row (by omega) (by omega) (by omega) HB2.out) (fun t2 => ?_)
              clear hK K
              refine wpAnyH_done (by kernel_rfl) ?_ _
              go_wp2_with fail
              go_meet
              case rel => exact ⟨(v1.heap.size + 1), (v1.heap.size), rfl, rfl, (f5_9.row _).rowFar (by omega) _, (f5_10.rowFar (by omega) _).row _, by omega, by omega, t2⟩
        refine AllReadyH.cons (o := ⟨some 7, .alloc 35, _, _, _, none⟩) rfl (fun K hK => ?_) ?_
        · go_simp
          refine hK.out _ _ (s1.alloc _) (fun s6 => ?_)
          clear hK K
          have f6_9 : Blk (wd.alloc (.cells #[.int .u32 0, .int .u32 0, .int .u32 0, .int .u32 0, .int .u32 0, .int .u32 0, .int .u32 0, .int .u32 0, .int .u32 0, .int .u32 0, .int .u32 0, .int .u32 0, .int .u32 0, .int .u32 0, .int .u32 0, .int .u32 0, .int .u32 0] 35)) (wd.heap.size) 35 #[.int .u32 0, .int .u32 0, .int .u32 0, .int .u32 0, .int .u32 0, .int .u32 0, .int .u32 0, .int .u32 0, .int .u32 0, .int .u32 0, .int .u32 0, .int .u32 0, .int .u32 0, .int .u32 0, .int .u32 0, .int .u32 0, .int .u32 0] := Blk.new _ _ _
          refine wpAnyH_ready (rs := [5, 10]) (by kernel_rfl) (by simp) ?_
          refine AllReadyH.cons (o := ⟨some 26, .call _, _, _, _, none⟩) rfl (fun K hK => ?_) ?_
          · go_simp
            go_at_call 15
            refine (S.out _).mono ?_
            rintro e v7 ⟨rfl, h7⟩
            have q7 : wd.heap.size + 1 ≤ v7.heap.size := by have := h7.size; (try simp at this); omega
            have f7_9 := below_blk h7 f6_9 f6_9.lt
            go_simp
            refine hK.out _ _ (s6.later h7) (fun s7 => ?_)
            clear hK K h7
            refine wpAnyH_take (i := 6) (oi := ⟨some 20, .move _, _, _, _, none⟩) (v := (.tuple #[.agg (u32A es), an.v])) rfl (by kernel_rfl) (by kernel_rfl) (by kernel_rfl) (fun _ _ _ h => h) (Or.inl ⟨by rfl, fun wx hx => ?_⟩) (by assumption) ?_
            · go_simp
            simp only [Act.put, List.setIfInBounds_toArray, List.set_cons_zero, List.set_cons_succ]
            refine wpAnyH_take (i := 7) (oi := ⟨some 27, .extract _ _, _, _, _, none⟩) (v := (.agg (u32A es))) rfl (by kernel_rfl) (by kernel_rfl) (by kernel_rfl) (fun _ _ _ h => h) (Or.inl ⟨by rfl, fun wx hx => ?_⟩) (by assumption) ?_
            · go_simp
            simp only [Act.put, List.setIfInBounds_toArray, List.set_cons_zero, List.set_cons_succ]
            refine wpAnyH_take (i := 8) (oi := ⟨some 28, .extract _ _, _, _, _, none⟩) (v := an.v) rfl (by kernel_rfl) (by kernel_rfl) (by kernel_rfl) (fun _ _ _ h => h) (Or.inl ⟨by rfl, fun wx hx => ?_⟩) (by assumption) ?_
            · go_simp
            simp only [Act.put, List.setIfInBounds_toArray, List.set_cons_zero, List.set_cons_succ]
            refine wpAnyH_ready (rs := [10]) (by kernel_rfl) (by simp) ?_
            refine AllReadyH.cons (o := ⟨some 8, .alloc 37, _, _, _, none⟩) rfl (fun K hK => ?_) AllReadyH.nil
            · go_simp
              refine hK.out _ _ (s7.alloc _) (fun s8 => ?_)
              clear hK K
              have f8_10 : Blk (v7.alloc (.cells #[.int .i64 0, .int .u32 0, .int .i64 0, .int .i64 0, .int .u32 0, .int .u32 0] 37)) (v7.heap.size) 37 #[.int .i64 0, .int .u32 0, .int .i64 0, .int .i64 0, .int .u32 0, .int .u32 0] := Blk.new _ _ _
              have f8_9 := f7_9.alloc (.cells #[.int .i64 0, .int .u32 0, .int .i64 0, .int .i64 0, .int .u32 0, .int .u32 0] 37)
              refine wpAnyH_ready (rs := [11]) (by kernel_rfl) (by simp) ?_
              refine AllReadyH.cons (o := ⟨none, .store 35 (.tmp 7) (.tmp 27), _, _, _, none⟩) rfl (fun K hK => ?_) AllReadyH.nil
              (with_reducible refine step_cpu_store (.tmp 7) (.tmp 27) es ⟨_, ?_, f8_9⟩ ?_ ?_ HL.out ?_); (· rfl); (· rfl); (· rfl)
              try go_simp
              refine hK.out _ _ (s8.row (by omega) (by omega) (by omega) HB2.out) (fun t1 => ?_)
              clear hK K
              refine wpAnyH_ready (rs := [12]) (by kernel_rfl) (by simp) ?_
              refine AllReadyH.cons (o := ⟨none, .store 37 (.tmp 8) (.tmp 28), _, _, _, none⟩) rfl (fun K hK => ?_) AllReadyH.nil
              (with_reducible refine step_act_store (.tmp 8) (.tmp 28) an.k an.ad an.sz an.rg an.va an.ol ⟨_, ?_, f8_10.rowFar (by omega) _⟩ ?_ ?_ ?_); (· rfl); (· rfl); (· rfl)
              try go_simp
              refine hK.out _ _ (t1.row (by omega) (by omega) (by omega) HB2.out) (fun t2 => ?_)
              clear hK K
              refine wpAnyH_done (by kernel_rfl) ?_ _
              go_wp2_with fail
              go_meet
              case rel => exact ⟨(wd.heap.size), (v7.heap.size), rfl, rfl, (f8_9.row _).rowFar (by omega) _, (f8_10.rowFar (by omega) _).row _, by omega, by omega, t2⟩
          refine AllReadyH.cons (o := ⟨some 8, .alloc 37, _, _, _, none⟩) rfl (fun K hK => ?_) AllReadyH.nil
          · go_simp
            refine hK.out _ _ (s6.alloc _) (fun s9 => ?_)
            clear hK K
            have f9_10 : Blk ((wd.alloc (.cells #[.int .u32 0, .int .u32 0, .int .u32 0, .int .u32 0, .int .u32 0, .int .u32 0, .int .u32 0, .int .u32 0, .int .u32 0, .int .u32 0, .int .u32 0, .int .u32 0, .int .u32 0, .int .u32 0, .int .u32 0, .int .u32 0, .int .u32 0] 35)).alloc (.cells #[.int .i64 0, .int .u32 0, .int .i64 0, .int .i64 0, .int .u32 0, .int .u32 0] 37)) (wd.heap.size + 1) 37 #[.int .i64 0, .int .u32 0, .int .i64 0, .int .i64 0, .int .u32 0, .int .u32 0] := by
              have e : (wd.alloc (.cells #[.int .u32 0, .int .u32 0, .int .u32 0, .int .u32 0, .int .u32 0, .int .u32 0, .int .u32 0, .int .u32 0, .int .u32 0, .int .u32 0, .int .u32 0, .int .u32 0, .int .u32 0, .int .u32 0, .int .u32 0, .int .u32 0, .int .u32 0] 35)).heap.size = wd.heap.size + 1 := by simp
              have h := Blk.new (wd.alloc (.cells #[.int .u32 0, .int .u32 0, .int .u32 0, .int .u32 0, .int .u32 0, .int .u32 0, .int .u32 0, .int .u32 0, .int .u32 0, .int .u32 0, .int .u32 0, .int .u32 0, .int .u32 0, .int .u32 0, .int .u32 0, .int .u32 0, .int .u32 0] 35)) 37 #[.int .i64 0, .int .u32 0, .int .i64 0, .int .i64 0, .int .u32 0, .int .u32 0]
              rw [e] at h
              exact h
            have f9_9 := f6_9.alloc (.cells #[.int .i64 0, .int .u32 0, .int .i64 0, .int .i64 0, .int .u32 0, .int .u32 0] 37)
            refine wpAnyH_ready (rs := [5]) (by kernel_rfl) (by simp) ?_
            refine AllReadyH.cons (o := ⟨some 26, .call _, _, _, _, none⟩) rfl (fun K hK => ?_) AllReadyH.nil
            · go_simp
              go_at_call 15
              refine (S.out _).mono ?_
              rintro e v10 ⟨rfl, h10⟩
              have q10 : wd.heap.size + 1 + 1 ≤ v10.heap.size := by have := h10.size; (try simp at this); omega
              have f10_10 := below_blk h10 f9_10 f9_10.lt
              have f10_9 := below_blk h10 f9_9 f9_9.lt
              go_simp
              refine hK.out _ _ (s9.later h10) (fun s10 => ?_)
              clear hK K h10
              refine wpAnyH_take (i := 6) (oi := ⟨some 20, .move _, _, _, _, none⟩) (v := (.tuple #[.agg (u32A es), an.v])) rfl (by kernel_rfl) (by kernel_rfl) (by kernel_rfl) (fun _ _ _ h => h) (Or.inl ⟨by rfl, fun wx hx => ?_⟩) (by assumption) ?_
              · go_simp
              simp only [Act.put, List.setIfInBounds_toArray, List.set_cons_zero, List.set_cons_succ]
              refine wpAnyH_take (i := 7) (oi := ⟨some 27, .extract _ _, _, _, _, none⟩) (v := (.agg (u32A es))) rfl (by kernel_rfl) (by kernel_rfl) (by kernel_rfl) (fun _ _ _ h => h) (Or.inl ⟨by rfl, fun wx hx => ?_⟩) (by assumption) ?_
              · go_simp
              simp only [Act.put, List.setIfInBounds_toArray, List.set_cons_zero, List.set_cons_succ]
              refine wpAnyH_take (i := 8) (oi := ⟨some 28, .extract _ _, _, _, _, none⟩) (v := an.v) rfl (by kernel_rfl) (by kernel_rfl) (by kernel_rfl) (fun _ _ _ h => h) (Or.inl ⟨by rfl, fun wx hx => ?_⟩) (by assumption) ?_
              · go_simp
              simp only [Act.put, List.setIfInBounds_toArray, List.set_cons_zero, List.set_cons_succ]
              refine wpAnyH_ready (rs := [11]) (by kernel_rfl) (by simp) ?_
              refine AllReadyH.cons (o := ⟨none, .store 35 (.tmp 7) (.tmp 27), _, _, _, none⟩) rfl (fun K hK => ?_) AllReadyH.nil
              (with_reducible refine step_cpu_store (.tmp 7) (.tmp 27) es ⟨_, ?_, f10_9⟩ ?_ ?_ HL.out ?_); (· rfl); (· rfl); (· rfl)
              try go_simp
              refine hK.out _ _ (s10.row (by omega) (by omega) (by omega) HB2.out) (fun t1 => ?_)
              clear hK K
              refine wpAnyH_ready (rs := [12]) (by kernel_rfl) (by simp) ?_
              refine AllReadyH.cons (o := ⟨none, .store 37 (.tmp 8) (.tmp 28), _, _, _, none⟩) rfl (fun K hK => ?_) AllReadyH.nil
              (with_reducible refine step_act_store (.tmp 8) (.tmp 28) an.k an.ad an.sz an.rg an.va an.ol ⟨_, ?_, f10_10.rowFar (by omega) _⟩ ?_ ?_ ?_); (· rfl); (· rfl); (· rfl)
              try go_simp
              refine hK.out _ _ (t1.row (by omega) (by omega) (by omega) HB2.out) (fun t2 => ?_)
              clear hK K
              refine wpAnyH_done (by kernel_rfl) ?_ _
              go_wp2_with fail
              go_meet
              case rel => exact ⟨(wd.heap.size), (wd.heap.size + 1), rfl, rfl, (f10_9.row _).rowFar (by omega) _, (f10_10.rowFar (by omega) _).row _, by omega, by omega, t2⟩
        refine AllReadyH.cons (o := ⟨some 8, .alloc 37, _, _, _, none⟩) rfl (fun K hK => ?_) AllReadyH.nil
        · go_simp
          refine hK.out _ _ (s1.alloc _) (fun s11 => ?_)
          clear hK K
          have f11_10 : Blk (wd.alloc (.cells #[.int .i64 0, .int .u32 0, .int .i64 0, .int .i64 0, .int .u32 0, .int .u32 0] 37)) (wd.heap.size) 37 #[.int .i64 0, .int .u32 0, .int .i64 0, .int .i64 0, .int .u32 0, .int .u32 0] := Blk.new _ _ _
          refine wpAnyH_ready (rs := [5, 9]) (by kernel_rfl) (by simp) ?_
          refine AllReadyH.cons (o := ⟨some 26, .call _, _, _, _, none⟩) rfl (fun K hK => ?_) ?_
          · go_simp
            go_at_call 15
            refine (S.out _).mono ?_
            rintro e v12 ⟨rfl, h12⟩
            have q12 : wd.heap.size + 1 ≤ v12.heap.size := by have := h12.size; (try simp at this); omega
            have f12_10 := below_blk h12 f11_10 f11_10.lt
            go_simp
            refine hK.out _ _ (s11.later h12) (fun s12 => ?_)
            clear hK K h12
            refine wpAnyH_take (i := 6) (oi := ⟨some 20, .move _, _, _, _, none⟩) (v := (.tuple #[.agg (u32A es), an.v])) rfl (by kernel_rfl) (by kernel_rfl) (by kernel_rfl) (fun _ _ _ h => h) (Or.inl ⟨by rfl, fun wx hx => ?_⟩) (by assumption) ?_
            · go_simp
            simp only [Act.put, List.setIfInBounds_toArray, List.set_cons_zero, List.set_cons_succ]
            refine wpAnyH_take (i := 7) (oi := ⟨some 27, .extract _ _, _, _, _, none⟩) (v := (.agg (u32A es))) rfl (by kernel_rfl) (by kernel_rfl) (by kernel_rfl) (fun _ _ _ h => h) (Or.inl ⟨by rfl, fun wx hx => ?_⟩) (by assumption) ?_
            · go_simp
            simp only [Act.put, List.setIfInBounds_toArray, List.set_cons_zero, List.set_cons_succ]
            refine wpAnyH_take (i := 8) (oi := ⟨some 28, .extract _ _, _, _, _, none⟩) (v := an.v) rfl (by kernel_rfl) (by kernel_rfl) (by kernel_rfl) (fun _ _ _ h => h) (Or.inl ⟨by rfl, fun wx hx => ?_⟩) (by assumption) ?_
            · go_simp
            simp only [Act.put, List.setIfInBounds_toArray, List.set_cons_zero, List.set_cons_succ]
            refine wpAnyH_ready (rs := [9]) (by kernel_rfl) (by simp) ?_
            refine AllReadyH.cons (o := ⟨some 7, .alloc 35, _, _, _, none⟩) rfl (fun K hK => ?_) AllReadyH.nil
            · go_simp
              refine hK.out _ _ (s12.alloc _) (fun s13 => ?_)
              clear hK K
              have f13_9 : Blk (v12.alloc (.cells #[.int .u32 0, .int .u32 0, .int .u32 0, .int .u32 0, .int .u32 0, .int .u32 0, .int .u32 0, .int .u32 0, .int .u32 0, .int .u32 0, .int .u32 0, .int .u32 0, .int .u32 0, .int .u32 0, .int .u32 0, .int .u32 0, .int .u32 0] 35)) (v12.heap.size) 35 #[.int .u32 0, .int .u32 0, .int .u32 0, .int .u32 0, .int .u32 0, .int .u32 0, .int .u32 0, .int .u32 0, .int .u32 0, .int .u32 0, .int .u32 0, .int .u32 0, .int .u32 0, .int .u32 0, .int .u32 0, .int .u32 0, .int .u32 0] := Blk.new _ _ _
              have f13_10 := f12_10.alloc (.cells #[.int .u32 0, .int .u32 0, .int .u32 0, .int .u32 0, .int .u32 0, .int .u32 0, .int .u32 0, .int .u32 0, .int .u32 0, .int .u32 0, .int .u32 0, .int .u32 0, .int .u32 0, .int .u32 0, .int .u32 0, .int .u32 0, .int .u32 0] 35)
              refine wpAnyH_ready (rs := [11]) (by kernel_rfl) (by simp) ?_
              refine AllReadyH.cons (o := ⟨none, .store 35 (.tmp 7) (.tmp 27), _, _, _, none⟩) rfl (fun K hK => ?_) AllReadyH.nil
              (with_reducible refine step_cpu_store (.tmp 7) (.tmp 27) es ⟨_, ?_, f13_9⟩ ?_ ?_ HL.out ?_); (· rfl); (· rfl); (· rfl)
              try go_simp
              refine hK.out _ _ (s13.row (by omega) (by omega) (by omega) HB2.out) (fun t1 => ?_)
              clear hK K
              refine wpAnyH_ready (rs := [12]) (by kernel_rfl) (by simp) ?_
              refine AllReadyH.cons (o := ⟨none, .store 37 (.tmp 8) (.tmp 28), _, _, _, none⟩) rfl (fun K hK => ?_) AllReadyH.nil
              (with_reducible refine step_act_store (.tmp 8) (.tmp 28) an.k an.ad an.sz an.rg an.va an.ol ⟨_, ?_, f13_10.rowFar (by omega) _⟩ ?_ ?_ ?_); (· rfl); (· rfl); (· rfl)
              try go_simp
              refine hK.out _ _ (t1.row (by omega) (by omega) (by omega) HB2.out) (fun t2 => ?_)
              clear hK K
              refine wpAnyH_done (by kernel_rfl) ?_ _
              go_wp2_with fail
              go_meet
              case rel => exact ⟨(v12.heap.size), (wd.heap.size), rfl, rfl, (f13_9.row _).rowFar (by omega) _, (f13_10.rowFar (by omega) _).row _, by omega, by omega, t2⟩
          refine AllReadyH.cons (o := ⟨some 7, .alloc 35, _, _, _, none⟩) rfl (fun K hK => ?_) AllReadyH.nil
          · go_simp
            refine hK.out _ _ (s11.alloc _) (fun s14 => ?_)
            clear hK K
            have f14_9 : Blk ((wd.alloc (.cells #[.int .i64 0, .int .u32 0, .int .i64 0, .int .i64 0, .int .u32 0, .int .u32 0] 37)).alloc (.cells #[.int .u32 0, .int .u32 0, .int .u32 0, .int .u32 0, .int .u32 0, .int .u32 0, .int .u32 0, .int .u32 0, .int .u32 0, .int .u32 0, .int .u32 0, .int .u32 0, .int .u32 0, .int .u32 0, .int .u32 0, .int .u32 0, .int .u32 0] 35)) (wd.heap.size + 1) 35 #[.int .u32 0, .int .u32 0, .int .u32 0, .int .u32 0, .int .u32 0, .int .u32 0, .int .u32 0, .int .u32 0, .int .u32 0, .int .u32 0, .int .u32 0, .int .u32 0, .int .u32 0, .int .u32 0, .int .u32 0, .int .u32 0, .int .u32 0] := by
              have e : (wd.alloc (.cells #[.int .i64 0, .int .u32 0, .int .i64 0, .int .i64 0, .int .u32 0, .int .u32 0] 37)).heap.size = wd.heap.size + 1 := by simp
              have h := Blk.new (wd.alloc (.cells #[.int .i64 0, .int .u32 0, .int .i64 0, .int .i64 0, .int .u32 0, .int .u32 0] 37)) 35 #[.int .u32 0, .int .u32 0, .int .u32 0, .int .u32 0, .int .u32 0, .int .u32 0, .int .u32 0, .int .u32 0, .int .u32 0, .int .u32 0, .int .u32 0, .int .u32 0, .int .u32 0, .int .u32 0, .int .u32 0, .int .u32 0, .int .u32 0]
              rw [e] at h
              exact h
            have f14_10 := f11_10.alloc (.cells #[.int .u32 0, .int .u32 0, .int .u32 0, .int .u32 0, .int .u32 0, .int .u32 0, .int .u32 0, .int .u32 0, .int .u32 0, .int .u32 0, .int .u32 0, .int .u32 0, .int .u32 0, .int .u32 0, .int .u32 0, .int .u32 0, .int .u32 0] 35)
            refine wpAnyH_ready (rs := [5]) (by kernel_rfl) (by simp) ?_
            refine AllReadyH.cons (o := ⟨some 26, .call _, _, _, _, none⟩) rfl (fun K hK => ?_) AllReadyH.nil
            · go_simp
              go_at_call 15
              refine (S.out _).mono ?_
              rintro e v15 ⟨rfl, h15⟩
              have q15 : wd.heap.size + 1 + 1 ≤ v15.heap.size := by have := h15.size; (try simp at this); omega
              have f15_9 := below_blk h15 f14_9 f14_9.lt
              have f15_10 := below_blk h15 f14_10 f14_10.lt
              go_simp
              refine hK.out _ _ (s14.later h15) (fun s15 => ?_)
              clear hK K h15
              refine wpAnyH_take (i := 6) (oi := ⟨some 20, .move _, _, _, _, none⟩) (v := (.tuple #[.agg (u32A es), an.v])) rfl (by kernel_rfl) (by kernel_rfl) (by kernel_rfl) (fun _ _ _ h => h) (Or.inl ⟨by rfl, fun wx hx => ?_⟩) (by assumption) ?_
              · go_simp
              simp only [Act.put, List.setIfInBounds_toArray, List.set_cons_zero, List.set_cons_succ]
              refine wpAnyH_take (i := 7) (oi := ⟨some 27, .extract _ _, _, _, _, none⟩) (v := (.agg (u32A es))) rfl (by kernel_rfl) (by kernel_rfl) (by kernel_rfl) (fun _ _ _ h => h) (Or.inl ⟨by rfl, fun wx hx => ?_⟩) (by assumption) ?_
              · go_simp
              simp only [Act.put, List.setIfInBounds_toArray, List.set_cons_zero, List.set_cons_succ]
              refine wpAnyH_take (i := 8) (oi := ⟨some 28, .extract _ _, _, _, _, none⟩) (v := an.v) rfl (by kernel_rfl) (by kernel_rfl) (by kernel_rfl) (fun _ _ _ h => h) (Or.inl ⟨by rfl, fun wx hx => ?_⟩) (by assumption) ?_
              · go_simp
              simp only [Act.put, List.setIfInBounds_toArray, List.set_cons_zero, List.set_cons_succ]
              refine wpAnyH_ready (rs := [11]) (by kernel_rfl) (by simp) ?_
              refine AllReadyH.cons (o := ⟨none, .store 35 (.tmp 7) (.tmp 27), _, _, _, none⟩) rfl (fun K hK => ?_) AllReadyH.nil
              (with_reducible refine step_cpu_store (.tmp 7) (.tmp 27) es ⟨_, ?_, f15_9⟩ ?_ ?_ HL.out ?_); (· rfl); (· rfl); (· rfl)
              try go_simp
              refine hK.out _ _ (s15.row (by omega) (by omega) (by omega) HB2.out) (fun t1 => ?_)
              clear hK K
              refine wpAnyH_ready (rs := [12]) (by kernel_rfl) (by simp) ?_
              refine AllReadyH.cons (o := ⟨none, .store 37 (.tmp 8) (.tmp 28), _, _, _, none⟩) rfl (fun K hK => ?_) AllReadyH.nil
              (with_reducible refine step_act_store (.tmp 8) (.tmp 28) an.k an.ad an.sz an.rg an.va an.ol ⟨_, ?_, f15_10.rowFar (by omega) _⟩ ?_ ?_ ?_); (· rfl); (· rfl); (· rfl)
              try go_simp
              refine hK.out _ _ (t1.row (by omega) (by omega) (by omega) HB2.out) (fun t2 => ?_)
              clear hK K
              refine wpAnyH_done (by kernel_rfl) ?_ _
              go_wp2_with fail
              go_meet
              case rel => exact ⟨(wd.heap.size + 1), (wd.heap.size), rfl, rfl, (f15_9.row _).rowFar (by omega) _, (f15_10.rowFar (by omega) _).row _, by omega, by omega, t2⟩
      case rest =>
        obtain ⟨g7, g8, rfl, rfl, D7, D8, n1, n2, s1⟩ := hcut
        have HT := hide (RunT.mk s1 D7 D8)
        clear D7 D8 s1 HS
        go_upto_region 8 with (fail)
        go_cut [9, 10] from 14 to 55 (fun p p' wx => RunEnd w w.heap.size g5 ds es an.k an.ad an.sz an.rg an.va an.ol ⟨b, o + j, none⟩ z g7 g8 p p' wx)
        case first =>
          have hJ : (j : Int) < len := by omega
          refine wp_region_held (S := RunT w w.heap.size g5 ds ⟨b, o + j, none⟩ z g7 g8 es (actC an.k an.ad an.sz an.rg an.va an.ol)) (by kernel_rfl) ?_
          change wpAnyH _ _ _ _ _ _ _ _ (World.drew _)
          have s1 := (HT.out).drew
          generalize wc.drew = wd at *
          have l0 : w.heap.size < wd.heap.size := s1.base.c.lt
          have l5 : g5 < wd.heap.size := s1.base.x.lt
          have l7 : g7 < wd.heap.size := s1.d7.lt
          have l8 : g8 < wd.heap.size := s1.d8.lt
          refine wpAnyH_take (i := 1) (oi := ⟨some 31, .move _, _, _, _, none⟩) (v := (.slice (some ⟨b, o, none⟩) len cap)) rfl (by kernel_rfl) (by kernel_rfl) (by kernel_rfl) (fun _ _ _ h => h) (Or.inl ⟨by rfl, fun wx hx => ?_⟩) (by assumption) ?_
          · go_simp
          simp only [Act.put, List.setIfInBounds_toArray, List.set_cons_zero, List.set_cons_succ]
          refine wpAnyH_take (i := 2) (oi := ⟨some 32, .move _, _, _, _, none⟩) (v := (.int .i64 j)) rfl (by kernel_rfl) (by kernel_rfl) (by kernel_rfl) (fun _ _ _ h => h) (Or.inl ⟨by rfl, fun wx hx => ?_⟩) (by assumption) ?_
          · go_simp
          simp only [Act.put, List.setIfInBounds_toArray, List.set_cons_zero, List.set_cons_succ]
          refine wpAnyH_take (i := 3) (oi := ⟨some 33, .indexAddr _ _ _, _, _, _, none⟩) (v := (.pointer (some ⟨b, o + j, none⟩))) rfl (by kernel_rfl) (by kernel_rfl) (by kernel_rfl) (fun _ _ _ h => h) (Or.inl ⟨by rfl, fun wx hx => ?_⟩) (by assumption) ?_
          · go_simp
          simp only [Act.put, List.setIfInBounds_toArray, List.set_cons_zero, List.set_cons_succ]
          refine wpAnyH_take (i := 0) (oi := ⟨some 30, .load 35 (.tmp 5), _, _, _, none⟩) (v := (.agg (u32A ds))) rfl (by kernel_rfl) (by kernel_rfl) (by kernel_rfl) (fun _ _ _ h => h) (Or.inl ⟨by rfl, fun wx hx => ?_⟩) (by assumption) ?_
          · exact run_load_cpu hx.base.x rfl HDC.out
          simp only [Act.put, List.setIfInBounds_toArray, List.set_cons_zero, List.set_cons_succ]
          refine wpAnyH_take (i := 4) (oi := ⟨some 34, .load _ _, _, _, _, none⟩) (v := (.int .u32 z)) rfl (by kernel_rfl) (by kernel_rfl) (by kernel_rfl) (fun _ _ _ h => h) (Or.inl ⟨by rfl, fun wx hx => ?_⟩) (by assumption) ?_
          · (have hcl := hx.base.cell; go_simp)
          simp only [Act.put, List.setIfInBounds_toArray, List.set_cons_zero, List.set_cons_succ]
          refine wpAnyH_ready (rs := [5, 9, 10]) (by kernel_rfl) (by simp) ?_
          refine AllReadyH.cons (o := ⟨some 35, .call _, _, _, _, none⟩) rfl (fun K hK => ?_) ?_
          · go_simp
            go_at_call 16
            refine (R.out _).mono ?_
            rintro e v1 ⟨rfl, h1⟩
            have q1 : wd.heap.size ≤ v1.heap.size := by have := h1.size; (try simp at this); omega
            go_simp
            refine hK.out _ _ (s1.later h1) (fun s1 => ?_)
            clear hK K h1
            refine wpAnyH_take (i := 6) (oi := ⟨some 29, .move _, _, _, _, none⟩) (v := (.tuple #[.agg (u32A es), an.v])) rfl (by kernel_rfl) (by kernel_rfl) (by kernel_rfl) (fun _ _ _ h => h) (Or.inl ⟨by rfl, fun wx hx => ?_⟩) (by assumption) ?_
            · go_simp
            simp only [Act.put, List.setIfInBounds_toArray, List.set_cons_zero, List.set_cons_succ]
            refine wpAnyH_take (i := 7) (oi := ⟨some 36, .extract _ _, _, _, _, none⟩) (v := (.agg (u32A es))) rfl (by kernel_rfl) (by kernel_rfl) (by kernel_rfl) (fun _ _ _ h => h) (Or.inl ⟨by rfl, fun wx hx => ?_⟩) (by assumption) ?_
            · go_simp
            simp only [Act.put, List.setIfInBounds_toArray, List.set_cons_zero, List.set_cons_succ]
            refine wpAnyH_take (i := 8) (oi := ⟨some 37, .extract _ _, _, _, _, none⟩) (v := an.v) rfl (by kernel_rfl) (by kernel_rfl) (by kernel_rfl) (fun _ _ _ h => h) (Or.inl ⟨by rfl, fun wx hx => ?_⟩) (by assumption) ?_
            · go_simp
            simp only [Act.put, List.setIfInBounds_toArray, List.set_cons_zero, List.set_cons_succ]
            refine wpAnyH_ready (rs := [9, 10]) (by kernel_rfl) (by simp) ?_
            refine AllReadyH.cons (o := ⟨some 9, .alloc 35, _, _, _, none⟩) rfl (fun K hK => ?_) ?_
            · go_simp
              refine hK.out _ _ (s1.alloc _) (fun s2 => ?_)
              clear hK K
              have f2_9 : Blk (v1.alloc (.cells #[.int .u32 0, .int .u32 0, .int .u32 0, .int .u32 0, .int .u32 0, .int .u32 0, .int .u32 0, .int .u32 0, .int .u32 0, .int .u32 0, .int .u32 0, .int .u32 0, .int .u32 0, .int .u32 0, .int .u32 0, .int .u32 0, .int .u32 0] 35)) (v1.heap.size) 35 #[.int .u32 0, .int .u32 0, .int .u32 0, .int .u32 0, .int .u32 0, .int .u32 0, .int .u32 0, .int .u32 0, .int .u32 0, .int .u32 0, .int .u32 0, .int .u32 0, .int .u32 0, .int .u32 0, .int .u32 0, .int .u32 0, .int .u32 0] := Blk.new _ _ _
              refine wpAnyH_ready (rs := [10]) (by kernel_rfl) (by simp) ?_
              refine AllReadyH.cons (o := ⟨some 10, .alloc 37, _, _, _, none⟩) rfl (fun K hK => ?_) AllReadyH.nil
              · go_simp
                refine hK.out _ _ (s2.alloc _) (fun s3 => ?_)
                clear hK K
                have f3_10 : Blk ((v1.alloc (.cells #[.int .u32 0, .int .u32 0, .int .u32 0, .int .u32 0, .int .u32 0, .int .u32 0, .int .u32 0, .int .u32 0, .int .u32 0, .int .u32 0, .int .u32 0, .int .u32 0, .int .u32 0, .int .u32 0, .int .u32 0, .int .u32 0, .int .u32 0] 35)).alloc (.cells #[.int .i64 0, .int .u32 0, .int .i64 0, .int .i64 0, .int .u32 0, .int .u32 0] 37)) (v1.heap.size + 1) 37 #[.int .i64 0, .int .u32 0, .int .i64 0, .int .i64 0, .int .u32 0, .int .u32 0] := by
                  have e : (v1.alloc (.cells #[.int .u32 0, .int .u32 0, .int .u32 0, .int .u32 0, .int .u32 0, .int .u32 0, .int .u32 0, .int .u32 0, .int .u32 0, .int .u32 0, .int .u32 0, .int .u32 0, .int .u32 0, .int .u32 0, .int .u32 0, .int .u32 0, .int .u32 0] 35)).heap.size = v1.heap.size + 1 := by simp
                  have h := Blk.new (v1.alloc (.cells #[.int .u32 0, .int .u32 0, .int .u32 0, .int .u32 0, .int .u32 0, .int .u32 0, .int .u32 0, .int .u32 0, .int .u32 0, .int .u32 0, .int .u32 0, .int .u32 0, .int .u32 0, .int .u32 0, .int .u32 0, .int .u32 0, .int .u32 0] 35)) 37 #[.int .i64 0, .int .u32 0, .int .i64 0, .int .i64 0, .int .u32 0, .int .u32 0]
                  rw [e] at h
                  exact h
                have f3_9 := f2_9.alloc (.cells #[.int .i64 0, .int .u32 0, .int .i64 0, .int .i64 0, .int .u32 0, .int .u32 0] 37)
                refine wpAnyH_ready (rs := [11]) (by kernel_rfl) (by simp) ?_
                refine AllReadyH.cons (o := ⟨none, .store 35 (.tmp 9) (.tmp 36), _, _, _, none⟩) rfl (fun K hK => ?_) AllReadyH.nil
                (with_reducible refine step_cpu_store (.tmp 9) (.tmp 36) es ⟨_, ?_, f3_9⟩ ?_ ?_ HL.out ?_); (· rfl); (· rfl); (· rfl)
                try go_simp
                refine hK.out _ _ (s3.row (by omega) (by omega) (by omega) HB2.out (by omega) (by omega)) (fun t1 => ?_)
                clear hK K
                refine wpAnyH_ready (rs := [12]) (by kernel_rfl) (by simp) ?_
                refine AllReadyH.cons (o := ⟨none, .store 37 (.tmp 10) (.tmp 37), _, _, _, none⟩) rfl (fun K hK => ?_) AllReadyH.nil
                (with_reducible refine step_act_store (.tmp 10) (.tmp 37) an.k an.ad an.sz an.rg an.va an.ol ⟨_, ?_, f3_10.rowFar (by omega) _⟩ ?_ ?_ ?_); (· rfl); (· rfl); (· rfl)
                try go_simp
                refine hK.out _ _ (t1.row (by omega) (by omega) (by omega) HB2.out (by omega) (by omega)) (fun t2 => ?_)
                clear hK K
                refine wpAnyH_done (by kernel_rfl) ?_ _
                go_wp2_with fail
                go_meet
                case rel => exact ⟨(v1.heap.size), (v1.heap.size + 1), rfl, rfl, (f3_9.row _).rowFar (by omega) _, (f3_10.rowFar (by omega) _).row _, by omega, by omega, t2⟩
            refine AllReadyH.cons (o := ⟨some 10, .alloc 37, _, _, _, none⟩) rfl (fun K hK => ?_) AllReadyH.nil
            · go_simp
              refine hK.out _ _ (s1.alloc _) (fun s4 => ?_)
              clear hK K
              have f4_10 : Blk (v1.alloc (.cells #[.int .i64 0, .int .u32 0, .int .i64 0, .int .i64 0, .int .u32 0, .int .u32 0] 37)) (v1.heap.size) 37 #[.int .i64 0, .int .u32 0, .int .i64 0, .int .i64 0, .int .u32 0, .int .u32 0] := Blk.new _ _ _
              refine wpAnyH_ready (rs := [9]) (by kernel_rfl) (by simp) ?_
              refine AllReadyH.cons (o := ⟨some 9, .alloc 35, _, _, _, none⟩) rfl (fun K hK => ?_) AllReadyH.nil
              · go_simp
                refine hK.out _ _ (s4.alloc _) (fun s5 => ?_)
                clear hK K
                have f5_9 : Blk ((v1.alloc (.cells #[.int .i64 0, .int .u32 0, .int .i64 0, .int .i64 0, .int .u32 0, .int .u32 0] 37)).alloc (.cells #[.int .u32 0, .int .u32 0, .int .u32 0, .int .u32 0, .int .u32 0, .int .u32 0, .int .u32 0, .int .u32 0, .int .u32 0, .int .u32 0, .int .u32 0, .int .u32 0, .int .u32 0, .int .u32 0, .int .u32 0, .int .u32 0, .int .u32 0] 35)) (v1.heap.size + 1) 35 #[.int .u32 0, .int .u32 0, .int .u32 0, .int .u32 0, .int .u32 0, .int .u32 0, .int .u32 0, .int .u32 0, .int .u32 0, .int .u32 0, .int .u32 0, .int .u32 0, .int .u32 0, .int .u32 0, .int .u32 0, .int .u32 0, .int .u32 0] := by
                  have e : (v1.alloc (.cells #[.int .i64 0, .int .u32 0, .int .i64 0, .int .i64 0, .int .u32 0, .int .u32 0] 37)).heap.size = v1.heap.size + 1 := by simp
                  have h := Blk.new (v1.alloc (.cells #[.int .i64 0, .int .u32 0, .int .i64 0, .int .i64 0, .int .u32 0, .int .u32 0] 37)) 35 #[.int .u32 0, .int .u32 0, .int .u32 0, .int .u32 0, .int .u32 0, .int .u32 0, .int .u32 0, .int .u32 0, .int .u32 0, .int .u32 0, .int .u32 0, .int .u32 0, .int .u32 0, .int .u32 0, .int .u32 0, .int .u32 0, .int .u32 0]
                  rw [e] at h
                  exact h
                have f5_10 := f4_10.alloc (.cells #[.int .u32 0, .int .u32 0, .int .u32 0, .int .u32 0, .int .u32 0, .int .u32 0, .int .u32 0, .int .u32 0, .int .u32 0, .int .u32 0, .int .u32 0, .int .u32 0, .int .u32 0, .int .u32 0, .int .u32 0, .int .u32 0, .int .u32 0] 35)
                refine wpAnyH_ready (rs := [11]) (by kernel_rfl) (by simp) ?_
                refine AllReadyH.cons (o := ⟨none, .store 35 (.tmp 9) (.tmp 36), _, _, _, none⟩) rfl (fun K hK => ?_) AllReadyH.nil
                (with_reducible refine step_cpu_store (.tmp 9) (.tmp 36) es ⟨_, ?_, f5_9⟩ ?_ ?_ HL.out ?_); (· rfl); (· rfl); (· rfl)
                try go_simp
                refine hK.out _ _ (s5.row (by omega) (by omega) (by omega) HB2.out (by omega) (by omega)) (fun t1 => ?_)
                clear hK K
                refine wpAnyH_ready (rs := [12]) (by kernel_rfl) (by simp) ?_
                refine AllReadyH.cons (o := ⟨none, .store 37 (.tmp 10) (.tmp 37), _, _, _, none⟩) rfl (fun K hK => ?_) AllReadyH.nil
                (with_reducible refine step_act_store (.tmp 10) (.tmp 37) an.k an.ad an.sz an.rg an.va an.ol ⟨_, ?_, f5_10.rowFar (by omega) _⟩ ?_ ?_ ?_); (· rfl); (· rfl); (· rfl)
                try go_simp
                refine hK.out _ _ (t1.row (by omega) (by omega) (by omega) HB2.out (by omega) (by omega)) (fun t2 => ?_)
                clear hK K
                refine wpAnyH_done (by kernel_rfl) ?_ _
                go_wp2_with fail
                go_meet
                case rel => exact ⟨(v1.heap.size + 1), (v1.heap.size), rfl, rfl, (f5_9.row _).rowFar (by omega) _, (f5_10.rowFar (by omega) _).row _, by omega, by omega, t2⟩
          refine AllReadyH.cons (o := ⟨some 9, .alloc 35, _, _, _, none⟩) rfl (fun K hK => ?_) ?_
          · go_simp
            refine hK.out _ _ (s1.alloc _) (fun s6 => ?_)
            clear hK K
            have f6_9 : Blk (wd.alloc (.cells #[.int .u32 0, .int .u32 0, .int .u32 0, .int .u32 0, .int .u32 0, .int .u32 0, .int .u32 0, .int .u32 0, .int .u32 0, .int .u32 0, .int .u32 0, .int .u32 0, .int .u32 0, .int .u32 0, .int .u32 0, .int .u32 0, .int .u32 0] 35)) (wd.heap.size) 35 #[.int .u32 0, .int .u32 0, .int .u32 0, .int .u32 0, .int .u32 0, .int .u32 0, .int .u32 0, .int .u32 0, .int .u32 0, .int .u32 0, .int .u32 0, .int .u32 0, .int .u32 0, .int .u32 0, .int .u32 0, .int .u32 0, .int .u32 0] := Blk.new _ _ _
            refine wpAnyH_ready (rs := [5, 10]) (by kernel_rfl) (by simp) ?_
            refine AllReadyH.cons (o := ⟨some 35, .call _, _, _, _, none⟩) rfl (fun K hK => ?_) ?_
            · go_simp
              go_at_call 16
              refine (R.out _).mono ?_
              rintro e v7 ⟨rfl, h7⟩
              have q7 : wd.heap.size + 1 ≤ v7.heap.size := by have := h7.size; (try simp at this); omega
              have f7_9 := below_blk h7 f6_9 f6_9.lt
              go_simp
              refine hK.out _ _ (s6.later h7) (fun s7 => ?_)
              clear hK K h7
              refine wpAnyH_take (i := 6) (oi := ⟨some 29, .move _, _, _, _, none⟩) (v := (.tuple #[.agg (u32A es), an.v])) rfl (by kernel_rfl) (by kernel_rfl) (by kernel_rfl) (fun _ _ _ h => h) (Or.inl ⟨by rfl, fun wx hx => ?_⟩) (by assumption) ?_
              · go_simp
              simp only [Act.put, List.setIfInBounds_toArray, List.set_cons_zero, List.set_cons_succ]
              refine wpAnyH_take (i := 7) (oi := ⟨some 36, .extract _ _, _, _, _, none⟩) (v := (.agg (u32A es))) rfl (by kernel_rfl) (by kernel_rfl) (by kernel_rfl) (fun _ _ _ h => h) (Or.inl ⟨by rfl, fun wx hx => ?_⟩) (by assumption) ?_
              · go_simp
              simp only [Act.put, List.setIfInBounds_toArray, List.set_cons_zero, List.set_cons_succ]
              refine wpAnyH_take (i := 8) (oi := ⟨some 37, .extract _ _, _, _, _, none⟩) (v := an.v) rfl (by kernel_rfl) (by kernel_rfl) (by kernel_rfl) (fun _ _ _ h => h) (Or.inl ⟨by rfl, fun wx hx => ?_⟩) (by assumption) ?_
              · go_simp
              simp only [Act.put, List.setIfInBounds_toArray, List.set_cons_zero, List.set_cons_succ]
              refine wpAnyH_ready (rs := [10]) (by kernel_rfl) (by simp) ?_
              refine AllReadyH.cons (o := ⟨some 10, .alloc 37, _, _, _, none⟩) rfl (fun K hK => ?_) AllReadyH.nil
              · go_simp
                refine hK.out _ _ (s7.alloc _) (fun s8 => ?_)
                clear hK K
                have f8_10 : Blk (v7.alloc (.cells #[.int .i64 0, .int .u32 0, .int .i64 0, .int .i64 0, .int .u32 0, .int .u32 0] 37)) (v7.heap.size) 37 #[.int .i64 0, .int .u32 0, .int .i64 0, .int .i64 0, .int .u32 0, .int .u32 0] := Blk.new _ _ _
                have f8_9 := f7_9.alloc (.cells #[.int .i64 0, .int .u32 0, .int .i64 0, .int .i64 0, .int .u32 0, .int .u32 0] 37)
                refine wpAnyH_ready (rs := [11]) (by kernel_rfl) (by simp) ?_
                refine AllReadyH.cons (o := ⟨none, .store 35 (.tmp 9) (.tmp 36), _, _, _, none⟩) rfl (fun K hK => ?_) AllReadyH.nil
                (with_reducible refine step_cpu_store (.tmp 9) (.tmp 36) es ⟨_, ?_, f8_9⟩ ?_ ?_ HL.out ?_); (· rfl); (· rfl); (· rfl)
                try go_simp
                refine hK.out _ _ (s8.row (by omega) (by omega) (by omega) HB2.out (by omega) (by omega)) (fun t1 => ?_)
                clear hK K
                refine wpAnyH_ready (rs := [12]) (by kernel_rfl) (by simp) ?_
                refine AllReadyH.cons (o := ⟨none, .store 37 (.tmp 10) (.tmp 37), _, _, _, none⟩) rfl (fun K hK => ?_) AllReadyH.nil
                (with_reducible refine step_act_store (.tmp 10) (.tmp 37) an.k an.ad an.sz an.rg an.va an.ol ⟨_, ?_, f8_10.rowFar (by omega) _⟩ ?_ ?_ ?_); (· rfl); (· rfl); (· rfl)
                try go_simp
                refine hK.out _ _ (t1.row (by omega) (by omega) (by omega) HB2.out (by omega) (by omega)) (fun t2 => ?_)
                clear hK K
                refine wpAnyH_done (by kernel_rfl) ?_ _
                go_wp2_with fail
                go_meet
                case rel => exact ⟨(wd.heap.size), (v7.heap.size), rfl, rfl, (f8_9.row _).rowFar (by omega) _, (f8_10.rowFar (by omega) _).row _, by omega, by omega, t2⟩
            refine AllReadyH.cons (o := ⟨some 10, .alloc 37, _, _, _, none⟩) rfl (fun K hK => ?_) AllReadyH.nil
            · go_simp
              refine hK.out _ _ (s6.alloc _) (fun s9 => ?_)
              clear hK K
              have f9_10 : Blk ((wd.alloc (.cells #[.int .u32 0, .int .u32 0, .int .u32 0, .int .u32 0, .int .u32 0, .int .u32 0, .int .u32 0, .int .u32 0, .int .u32 0, .int .u32 0, .int .u32 0, .int .u32 0, .int .u32 0, .int .u32 0, .int .u32 0, .int .u32 0, .int .u32 0] 35)).alloc (.cells #[.int .i64 0, .int .u32 0, .int .i64 0, .int .i64 0, .int .u32 0, .int .u32 0] 37)) (wd.heap.size + 1) 37 #[.int .i64 0, .int .u32 0, .int .i64 0, .int .i64 0, .int .u32 0, .int .u32 0] := by
                have e : (wd.alloc (.cells #[.int .u32 0, .int .u32 0, .int .u32 0, .int .u32 0, .int .u32 0, .int .u32 0, .int .u32 0, .int .u32 0, .int .u32 0, .int .u32 0, .int .u32 0, .int .u32 0, .int .u32 0, .int .u32 0, .int .u32 0, .int .u32 0, .int .u32 0] 35)).heap.size = wd.heap.size + 1 := by simp
                have h := Blk.new (wd.alloc (.cells #[.int .u32 0, .int .u32 0, .int .u32 0, .int .u32 0, .int .u32 0, .int .u32 0, .int .u32 0, .int .u32 0, .int .u32 0, .int .u32 0, .int .u32 0, .int .u32 0, .int .u32 0, .int .u32 0, .int .u32 0, .int .u32 0, .int .u32 0] 35)) 37 #[.int .i64 0, .int .u32 0, .int .i64 0, .int .i64 0, .int .u32 0, .int .u32 0]
                rw [e] at h
                exact h
              have f9_9 := f6_9.alloc (.cells #[.int .i64 0, .int .u32 0, .int .i64 0, .int .i64 0, .int .u32 0, .int .u32 0] 37)
              refine wpAnyH_ready (rs := [5]) (by kernel_rfl) (by simp) ?_
              refine AllReadyH.cons (o := ⟨some 35, .call _, _, _, _, none⟩) rfl (fun K hK => ?_) AllReadyH.nil
              · go_simp
                go_at_call 16
                refine (R.out _).mono ?_
                rintro e v10 ⟨rfl, h10⟩
                have q10 : wd.heap.size + 1 + 1 ≤ v10.heap.size := by have := h10.size; (try simp at this); omega
                have f10_10 := below_blk h10 f9_10 f9_10.lt
                have f10_9 := below_blk h10 f9_9 f9_9.lt
                go_simp
                refine hK.out _ _ (s9.later h10) (fun s10 => ?_)
                clear hK K h10
                refine wpAnyH_take (i := 6) (oi := ⟨some 29, .move _, _, _, _, none⟩) (v := (.tuple #[.agg (u32A es), an.v])) rfl (by kernel_rfl) (by kernel_rfl) (by kernel_rfl) (fun _ _ _ h => h) (Or.inl ⟨by rfl, fun wx hx => ?_⟩) (by assumption) ?_
                · go_simp
                simp only [Act.put, List.setIfInBounds_toArray, List.set_cons_zero, List.set_cons_succ]
                refine wpAnyH_take (i := 7) (oi := ⟨some 36, .extract _ _, _, _, _, none⟩) (v := (.agg (u32A es))) rfl (by kernel_rfl) (by kernel_rfl) (by kernel_rfl) (fun _ _ _ h => h) (Or.inl ⟨by rfl, fun wx hx => ?_⟩) (by assumption) ?_
                · go_simp
                simp only [Act.put, List.setIfInBounds_toArray, List.set_cons_zero, List.set_cons_succ]
                refine wpAnyH_take (i := 8) (oi := ⟨some 37, .extract _ _, _, _, _, none⟩) (v := an.v) rfl (by kernel_rfl) (by kernel_rfl) (by kernel_rfl) (fun _ _ _ h => h) (Or.inl ⟨by rfl, fun wx hx => ?_⟩) (by assumption) ?_
                · go_simp
                simp only [Act.put, List.setIfInBounds_toArray, List.set_cons_zero, List.set_cons_succ]
                refine wpAnyH_ready (rs := [11]) (by kernel_rfl) (by simp) ?_
                refine AllReadyH.cons (o := ⟨none, .store 35 (.tmp 9) (.tmp 36), _, _, _, none⟩) rfl (fun K hK => ?_) AllReadyH.nil
                (with_reducible refine step_cpu_store (.tmp 9) (.tmp 36) es ⟨_, ?_, f10_9⟩ ?_ ?_ HL.out ?_); (· rfl); (· rfl); (· rfl)
                try go_simp
                refine hK.out _ _ (s10.row (by omega) (by omega) (by omega) HB2.out (by omega) (by omega)) (fun t1 => ?_)
                clear hK K
                refine wpAnyH_ready (rs := [12]) (by kernel_rfl) (by simp) ?_
                refine AllReadyH.cons (o := ⟨none, .store 37 (.tmp 10) (.tmp 37), _, _, _, none⟩) rfl (fun K hK => ?_) AllReadyH.nil
                (with_reducible refine step_act_store (.tmp 10) (.tmp 37) an.k an.ad an.sz an.rg an.va an.ol ⟨_, ?_, f10_10.rowFar (by omega) _⟩ ?_ ?_ ?_); (· rfl); (· rfl); (· rfl)
                try go_simp
                refine hK.out _ _ (t1.row (by omega) (by omega) (by omega) HB2.out (by omega) (by omega)) (fun t2 => ?_)
                clear hK K
                refine wpAnyH_done (by kernel_rfl) ?_ _
                go_wp2_with fail
                go_meet
                case rel => exact ⟨(wd.heap.size), (wd.heap.size + 1), rfl, rfl, (f10_9.row _).rowFar (by omega) _, (f10_10.rowFar (by omega) _).row _, by omega, by omega, t2⟩
          refine AllReadyH.cons (o := ⟨some 10, .alloc 37, _, _, _, none⟩) rfl (fun K hK => ?_) AllReadyH.nil
          · go_simp
            refine hK.out _ _ (s1.alloc _) (fun s11 => ?_)
            clear hK K
            have f11_10 : Blk (wd.alloc (.cells #[.int .i64 0, .int .u32 0, .int .i64 0, .int .i64 0, .int .u32 0, .int .u32 0] 37)) (wd.heap.size) 37 #[.int .i64 0, .int .u32 0, .int .i64 0, .int .i64 0, .int .u32 0, .int .u32 0] := Blk.new _ _ _
            refine wpAnyH_ready (rs := [5, 9]) (by kernel_rfl) (by simp) ?_
            refine AllReadyH.cons (o := ⟨some 35, .call _, _, _, _, none⟩) rfl (fun K hK => ?_) ?_
            · go_simp
              go_at_call 16
              refine (R.out _).mono ?_
              rintro e v12 ⟨rfl, h12⟩
              have q12 : wd.heap.size + 1 ≤ v12.heap.size := by have := h12.size; (try simp at this); omega
              have f12_10 := below_blk h12 f11_10 f11_10.lt
              go_simp
              refine hK.out _ _ (s11.later h12) (fun s12 => ?_)
              clear hK K h12
              refine wpAnyH_take (i := 6) (oi := ⟨some 29, .move _, _, _, _, none⟩) (v := (.tuple #[.agg (u32A es), an.v])) rfl (by kernel_rfl) (by kernel_rfl) (by kernel_rfl) (fun _ _ _ h => h) (Or.inl ⟨by rfl, fun wx hx => ?_⟩) (by assumption) ?_
              · go_simp
              simp only [Act.put, List.setIfInBounds_toArray, List.set_cons_zero, List.set_cons_succ]
              refine wpAnyH_take (i := 7) (oi := ⟨some 36, .extract _ _, _, _, _, none⟩) (v := (.agg (u32A es))) rfl (by kernel_rfl) (by kernel_rfl) (by kernel_rfl) (fun _ _ _ h => h) (Or.inl ⟨by rfl, fun wx hx => ?_⟩) (by assumption) ?_
              · go_simp
              simp only [Act.put, List.setIfInBounds_toArray, List.set_cons_zero, List.set_cons_succ]
              refine wpAnyH_take (i := 8) (oi := ⟨some 37, .extract _ _, _, _, _, none⟩) (v := an.v) rfl (by kernel_rfl) (by kernel_rfl) (by kernel_rfl) (fun _ _ _ h => h) (Or.inl ⟨by rfl, fun wx hx => ?_⟩) (by assumption) ?_
              · go_simp
              simp only [Act.put, List.setIfInBounds_toArray, List.set_cons_zero, List.set_cons_succ]
              refine wpAnyH_ready (rs := [9]) (by kernel_rfl) (by simp) ?_
              refine AllReadyH.cons (o := ⟨some 9, .alloc 35, _, _, _, none⟩) rfl (fun K hK => ?_) AllReadyH.nil
              · go_simp
                refine hK.out _ _ (s12.alloc _) (fun s13 => ?_)
                clear hK K
                have f13_9 : Blk (v12.alloc (.cells #[.int .u32 0, .int .u32 0, .int .u32 0, .int .u32 0, .int .u32 0, .int .u32 0, .int .u32 0, .int .u32 0, .int .u32 0, .int .u32 0, .int .u32 0, .int .u32 0, .int .u32 0, .int .u32 0, .int .u32 0, .int .u32 0, .int .u32 0] 35)) (v12.heap.size) 35 #[.int .u32 0, .int .u32 0, .int .u32 0, .int .u32 0, .int .u32 0, .int .u32 0, .int .u32 0, .int .u32 0, .int .u32 0, .int .u32 0, .int .u32 0, .int .u32 0, .int .u32 0, .int .u32 0, .int .u32 0, .int .u32 0, .int .u32 0] := Blk.new _ _ _
                have f13_10 := f12_10.alloc (.cells #[.int .u32 0, .int .u32 0, .int .u32 0, .int .u32 0, .int .u32 0, .int .u32 0, .int .u32 0, .int .u32 0, .int .u32 0, .int .u32 0, .int .u32 0, .int .u32 0, .int .u32 0, .int .u32 0, .int .u32 0, .int .u32 0, .int .u32 0] 35)
                refine wpAnyH_ready (rs := [11]) (by kernel_rfl) (by simp) ?_
                refine AllReadyH.cons (o := ⟨none, .store 35 (.tmp 9) (.tmp 36), _, _, _, none⟩) rfl (fun K hK => ?_) AllReadyH.nil
                (with_reducible refine step_cpu_store (.tmp 9) (.tmp 36) es ⟨_, ?_, f13_9⟩ ?_ ?_ HL.out ?_); (· rfl); (· rfl); (· rfl)
                try go_simp
                refine hK.out _ _ (s13.row (by omega) (by omega) (by omega) HB2.out (by omega) (by omega)) (fun t1 => ?_)
                clear hK K
                refine wpAnyH_ready (rs := [12]) (by kernel_rfl) (by simp) ?_
                refine AllReadyH.cons (o := ⟨none, .store 37 (.tmp 10) (.tmp 37), _, _, _, none⟩) rfl (fun K hK => ?_) AllReadyH.nil
                (with_reducible refine step_act_store (.tmp 10) (.tmp 37) an.k an.ad an.sz an.rg an.va an.ol ⟨_, ?_, f13_10.rowFar (by omega) _⟩ ?_ ?_ ?_); (· rfl); (· rfl); (· rfl)
                try go_simp
                refine hK.out _ _ (t1.row (by omega) (by omega) (by omega) HB2.out (by omega) (by omega)) (fun t2 => ?_)
                clear hK K
                refine wpAnyH_done (by kernel_rfl) ?_ _
                go_wp2_with fail
                go_meet
                case rel => exact ⟨(v12.heap.size), (wd.heap.size), rfl, rfl, (f13_9.row _).rowFar (by omega) _, (f13_10.rowFar (by omega) _).row _, by omega, by omega, t2⟩
            refine AllReadyH.cons (o := ⟨some 9, .alloc 35, _, _, _, none⟩) rfl (fun K hK => ?_) AllReadyH.nil
            · go_simp
              refine hK.out _ _ (s11.alloc _) (fun s14 => ?_)
              clear hK K
              have f14_9 : Blk ((wd.alloc (.cells #[.int .i64 0, .int .u32 0, .int .i64 0, .int .i64 0, .int .u32 0, .int .u32 0] 37)).alloc (.cells #[.int .u32 0, .int .u32 0, .int .u32 0, .int .u32 0, .int .u32 0, .int .u32 0, .int .u32 0, .int .u32 0, .int .u32 0, .int .u32 0, .int .u32 0, .int .u32 0, .int .u32 0, .int .u32 0, .int .u32 0, .int .u32 0, .int .u32 0] 35)) (wd.heap.size + 1) 35 #[.int .u32 0, .int .u32 0, .int .u32 0, .int .u32 0, .int .u32 0, .int .u32 0, .int .u32 0, .int .u32 0, .int .u32 0, .int .u32 0, .int .u32 0, .int .u32 0, .int .u32 0, .int .u32 0, .int .u32 0, .int .u32 0, .int .u32 0] := by
                have e : (wd.alloc (.cells #[.int .i64 0, .int .u32 0, .int .i64 0, .int .i64 0, .int .u32 0, .int .u32 0] 37)).heap.size = wd.heap.size + 1 := by simp
                have h := Blk.new (wd.alloc (.cells #[.int .i64 0, .int .u32 0, .int .i64 0, .int .i64 0, .int .u32 0, .int .u32 0] 37)) 35 #[.int .u32 0, .int .u32 0, .int .u32 0, .int .u32 0, .int .u32 0, .int .u32 0, .int .u32 0, .int .u32 0, .int .u32 0, .int .u32 0, .int .u32 0, .int .u32 0, .int .u32 0, .int .u32 0, .int .u32 0, .int .u32 0, .int .u32 0]
                rw [e] at h
                exact h
              have f14_10 := f11_10.alloc (.cells #[.int .u32 0, .int .u32 0, .int .u32 0, .int .u32 0, .int .u32 0, .int .u32 0, .int .u32 0, .int .u32 0, .int .u32 0, .int .u32 0, .int .u32 0, .int .u32 0, .int .u32 0, .int .u32 0, .int .u32 0, .int .u32 0, .int .u32 0] 35)
              refine wpAnyH_ready (rs := [5]) (by kernel_rfl) (by simp) ?_
              refine AllReadyH.cons (o := ⟨some 35, .call _, _, _, _, none⟩) rfl (fun K hK => ?_) AllReadyH.nil
              · go_simp
                go_at_call 16
                refine (R.out _).mono ?_
                rintro e v15 ⟨rfl, h15⟩
                have q15 : wd.heap.size + 1 + 1 ≤ v15.heap.size := by have := h15.size; (try simp at this); omega
                have f15_9 := below_blk h15 f14_9 f14_9.lt
                have f15_10 := below_blk h15 f14_10 f14_10.lt
                go_simp
                refine hK.out _ _ (s14.later h15) (fun s15 => ?_)
                clear hK K h15
                refine wpAnyH_take (i := 6) (oi := ⟨some 29, .move _, _, _, _, none⟩) (v := (.tuple #[.agg (u32A es), an.v])) rfl (by kernel_rfl) (by kernel_rfl) (by kernel_rfl) (fun _ _ _ h => h) (Or.inl ⟨by rfl, fun wx hx => ?_⟩) (by assumption) ?_
                · go_simp
                simp only [Act.put, List.setIfInBounds_toArray, List.set_cons_zero, List.set_cons_succ]
                refine wpAnyH_take (i := 7) (oi := ⟨some 36, .extract _ _, _, _, _, none⟩) (v := (.agg (u32A es))) rfl (by kernel_rfl) (by kernel_rfl) (by kernel_rfl) (fun _ _ _ h => h) (Or.inl ⟨by rfl, fun wx hx => ?_⟩) (by assumption) ?_
                · go_simp
                simp only [Act.put, List.setIfInBounds_toArray, List.set_cons_zero, List.set_cons_succ]
                refine wpAnyH_take (i := 8) (oi := ⟨some 37, .extract _ _, _, _, _, none⟩) (v := an.v) rfl (by kernel_rfl) (by kernel_rfl) (by kernel_rfl) (fun _ _ _ h => h) (Or.inl ⟨by rfl, fun wx hx => ?_⟩) (by assumption) ?_
                · go_simp
                simp only [Act.put, List.setIfInBounds_toArray, List.set_cons_zero, List.set_cons_succ]
                refine wpAnyH_ready (rs := [11]) (by kernel_rfl) (by simp) ?_
                refine AllReadyH.cons (o := ⟨none, .store 35 (.tmp 9) (.tmp 36), _, _, _, none⟩) rfl (fun K hK => ?_) AllReadyH.nil
                (with_reducible refine step_cpu_store (.tmp 9) (.tmp 36) es ⟨_, ?_, f15_9⟩ ?_ ?_ HL.out ?_); (· rfl); (· rfl); (· rfl)
                try go_simp
                refine hK.out _ _ (s15.row (by omega) (by omega) (by omega) HB2.out (by omega) (by omega)) (fun t1 => ?_)
                clear hK K
                refine wpAnyH_ready (rs := [12]) (by kernel_rfl) (by simp) ?_
                refine AllReadyH.cons (o := ⟨none, .store 37 (.tmp 10) (.tmp 37), _, _, _, none⟩) rfl (fun K hK => ?_) AllReadyH.nil
                (with_reducible refine step_act_store (.tmp 10) (.tmp 37) an.k an.ad an.sz an.rg an.va an.ol ⟨_, ?_, f15_10.rowFar (by omega) _⟩ ?_ ?_ ?_); (· rfl); (· rfl); (· rfl)
                try go_simp
                refine hK.out _ _ (t1.row (by omega) (by omega) (by omega) HB2.out (by omega) (by omega)) (fun t2 => ?_)
                clear hK K
                refine wpAnyH_done (by kernel_rfl) ?_ _
                go_wp2_with fail
                go_meet
                case rel => exact ⟨(wd.heap.size + 1), (wd.heap.size), rfl, rfl, (f15_9.row _).rowFar (by omega) _, (f15_10.rowFar (by omega) _).row _, by omega, by omega, t2⟩
        case rest =>
          obtain ⟨g9, g10, rfl, rfl, D9, D10, n3, n4, t1⟩ := hcut
          have C7 := t1.d7
          have A8 := t1.d8
          have HU := hide (And.intro (RunU.mk (k := an.k) C7 A8 D9 D10 t1.base.below) (And.intro t1.base.c t1.base.x))
          have F2 := hide (fun w => F.out ((j : Int) % 4294967296) (by omega) (by omega) w)
          have G2 := hide (fun w => G.out ((j : Int) % 4294967296) (by omega) (by omega) w)
          have HFI := hide (HF.out ((j : Int) % 4294967296) (by omega) (by omega))
          clear F G HF t1 HT
          generalize finC es an.k an.sz an.rg ((j : Int) % 4294967296) = fs at *
          have HFL := hide HFI.out.1
          go_upto_region 11 with (first
            | (with_reducible refine wp_region_lit (id := 9) ?_)
            | ((with_reducible refine cpu_load_g (.tmp 7) C7 ?_ ?_ ?_ ?_); (· rfl); (· rfl); (· exact HL.out))
            | ((with_reducible refine cpu_load_g (.tmp 9) D9 ?_ ?_ ?_ ?_); (· rfl); (· rfl); (· exact HL.out))
            | ((with_reducible refine cpu_cmp_g (.tmp 38) (.tmp 39) es (.inr rfl) (cpu_neq es HL.out _) ?_ ?_ ?_ ?_); (· rfl); (· rfl); (· rfl))
            | ((with_reducible refine act_load_g (.tmp 8) A8 ?_ ?_ ?_); (· rfl); (· rfl))
            | ((with_reducible refine act_load_g (.tmp 10) D10 ?_ ?_ ?_); (· rfl); (· rfl))
            | ((with_reducible refine act_cmp_g (.tmp 42) (.tmp 43) an.k an.ad an.sz an.rg an.va an.ol (.inr rfl) (act_neq _ _ _ _ _ _ _) ?_ ?_ ?_ ?_); (· rfl); (· rfl); (· rfl)))
          clear C7 A8 D9 D10
          refine wp_region_held (S := RunU w g7 g8 g9 g10 es an.k an.ad an.sz an.rg an.va an.ol) (by kernel_rfl) ?_
          change wpAnyH _ _ _ _ _ _ _ _ (World.drew _)
          have s1 := HU.out.1.drew
          have bn := HU.out.2.1.drew
          have b5 := HU.out.2.2.drew
          clear HU
          generalize wc.drew = wd at *
          have W1 : IntKind.u32.wrap (j : Int) = (j : Int) % 4294967296 := IntKind.wrap_u32' _
          refine wpAnyH_take (i := 0) (oi := ⟨some 46, .load 35 (.tmp 7), _, _, _, none⟩) (v := (.agg (u32A es))) rfl (by kernel_rfl) (by kernel_rfl) (by kernel_rfl) (fun _ _ _ h => h) (Or.inl ⟨by rfl, fun wx hx => ?_⟩) (by assumption) ?_
          · exact run_load_cpu hx.c7 rfl HL.out
          simp only [Act.put, List.setIfInBounds_toArray, List.set_cons_zero, List.set_cons_succ]
          refine wpAnyH_take (i := 1) (oi := ⟨some 47, .load 37 (.tmp 8), _, _, _, none⟩) (v := (actV an.k an.ad an.sz an.rg an.va an.ol)) rfl (by kernel_rfl) (by kernel_rfl) (by kernel_rfl) (fun _ _ _ h => h) (Or.inl ⟨by rfl, fun wx hx => ?_⟩) (by assumption) ?_
          · exact run_load_act hx.a8 rfl
          simp only [Act.put, List.setIfInBounds_toArray, List.set_cons_zero, List.set_cons_succ]
          refine wpAnyH_take (i := 2) (oi := ⟨some 48, .move _, _, _, _, none⟩) (v := (.int .i64 j)) rfl (by kernel_rfl) (by kernel_rfl) (by kernel_rfl) (fun _ _ _ h => h) (Or.inl ⟨by rfl, fun wx hx => ?_⟩) (by assumption) ?_
          · go_simp
          simp only [Act.put, List.setIfInBounds_toArray, List.set_cons_zero, List.set_cons_succ]
          refine wpAnyH_take (i := 3) (oi := ⟨some 49, .convert _ _ _, _, _, _, none⟩) (v := (.int .u32 ((j : Int) % 4294967296))) rfl (by kernel_rfl) (by kernel_rfl) (by kernel_rfl) (fun _ _ _ h => h) (Or.inl ⟨by rfl, fun wx hx => ?_⟩) (by assumption) ?_
          · go_simp
          simp only [Act.put, List.setIfInBounds_toArray, List.set_cons_zero, List.set_cons_succ]
          refine wpAnyH_take (i := 5) (oi := ⟨some 51, .load 35 (.tmp 9), _, _, _, none⟩) (v := (.agg (u32A es))) rfl (by kernel_rfl) (by kernel_rfl) (by kernel_rfl) (fun _ _ _ h => h) (Or.inl ⟨by rfl, fun wx hx => ?_⟩) (by assumption) ?_
          · exact run_load_cpu hx.c9 rfl HL.out
          simp only [Act.put, List.setIfInBounds_toArray, List.set_cons_zero, List.set_cons_succ]
          refine wpAnyH_take (i := 6) (oi := ⟨some 52, .load 37 (.tmp 10), _, _, _, none⟩) (v := (actV an.k an.ad an.sz an.rg an.va an.ol)) rfl (by kernel_rfl) (by kernel_rfl) (by kernel_rfl) (fun _ _ _ h => h) (Or.inl ⟨by rfl, fun wx hx => ?_⟩) (by assumption) ?_
          · exact run_load_act hx.a10 rfl
          simp only [Act.put, List.setIfInBounds_toArray, List.set_cons_zero, List.set_cons_succ]
          refine wpAnyH_take (i := 7) (oi := ⟨some 53, .move _, _, _, _, none⟩) (v := (.int .i64 j)) rfl (by kernel_rfl) (by kernel_rfl) (by kernel_rfl) (fun _ _ _ h => h) (Or.inl ⟨by rfl, fun wx hx => ?_⟩) (by assumption) ?_
          · go_simp
          simp only [Act.put, List.setIfInBounds_toArray, List.set_cons_zero, List.set_cons_succ]
          refine wpAnyH_take (i := 8) (oi := ⟨some 54, .convert _ _ _, _, _, _, none⟩) (v := (.int .u32 ((j : Int) % 4294967296))) rfl (by kernel_rfl) (by kernel_rfl) (by kernel_rfl) (fun _ _ _ h => h) (Or.inl ⟨by rfl, fun wx hx => ?_⟩) (by assumption) ?_
          · go_simp
          simp only [Act.put, List.setIfInBounds_toArray, List.set_cons_zero, List.set_cons_succ]
          refine wpAnyH_ready (rs := [4]) (by kernel_rfl) (by simp) ?_
          refine AllReadyH.cons (o := ⟨some 50, .call _, _, _, _, none⟩) rfl (fun K hK => ?_) AllReadyH.nil
          go_simp
          go_at_call 17
          refine (F2.out _).mono ?_
          rintro e v1 ⟨rfl, h1⟩
          have s2 := s1.later h1
          have bn1 := below_blk h1 bn bn.lt
          have b51 := below_blk h1 b5 b5.lt
          clear h1
          go_simp
          refine hK.out _ _ s2 (fun hHeld => ?_)
          clear hK K
          refine wpAnyH_ready (rs := [9]) (by kernel_rfl) (by simp) ?_
          refine AllReadyH.cons (o := ⟨some 55, .call _, _, _, _, none⟩) rfl (fun K hK => ?_) AllReadyH.nil
          go_simp
          go_at_call 18
          refine (G2.out _).mono ?_
          rintro e v2 ⟨rfl, h2⟩
          have s3 := s2.later h2
          have bn2 := below_blk h2 bn1 bn1.lt
          have b52 := below_blk h2 b51 b51.lt
          clear h2
          go_simp
          refine hK.out _ _ s3 (fun hHeld => ?_)
          clear hK K
          have m7 : w.heap.size ≠ g7 := Ne.symm n1
          have m8 := bn2.ne_ s3.a8 (by decide)
          have m9 : w.heap.size ≠ g9 := Ne.symm n3
          have m10 := bn2.ne_ s3.a10 (by decide)
          have k7 : g5 ≠ g7 := Ne.symm n2
          have k8 := b52.ne_ s3.a8 (by decide)
          have k9 : g5 ≠ g9 := Ne.symm n4
          have k10 := b52.ne_ s3.a10 (by decide)
          refine wpAnyH_ready (rs := [10]) (by kernel_rfl) (by simp) ?_
          refine AllReadyH.cons (o := ⟨none, .store 35 (.tmp 2) (.tmp 50), _, _, _, none⟩) rfl (fun K hK => ?_) AllReadyH.nil
          (with_reducible refine step_cpu_store (.tmp 2) (.tmp 50) fs ⟨_, ?_, bn2⟩ ?_ ?_ HFL.out ?_); (· rw [size_u32A]; exact HDC.out); (· rfl); (· rfl)
          try go_simp
          refine hK.out _ _ (s3.row (Nat.le_refl _) m7 m8 m9 m10) (fun t1 => ?_)
          clear hK K
          refine wpAnyH_ready (rs := [11]) (by kernel_rfl) (by simp) ?_
          refine AllReadyH.cons (o := ⟨none, .store 35 (.tmp 5) (.tmp 55), _, _, _, none⟩) rfl (fun K hK => ?_) AllReadyH.nil
          (with_reducible refine step_cpu_store (.tmp 5) (.tmp 55) fs ⟨_, ?_, b52.rowFar (Ne.symm HNE.out) _⟩ ?_ ?_ HFL.out ?_); (· rw [size_u32A]; exact HDC.out); (· rfl); (· rfl)
          try go_simp
          refine hK.out _ _ (t1.row HGE.out k7 k8 k9 k10) (fun t2 => ?_)
          clear hK K
          refine wpAnyH_done (by kernel_rfl) ?_ _
          go_wp2_with fail
          have hend := And.intro ((bn2.row (u32A fs)).rowFar HNE.out (u32A fs)) (And.intro ((b52.rowFar (Ne.symm HNE.out) (u32A fs)).row (u32A fs)) t2.below)
          have HEND := hide hend
          clear hend t1 t2
          go_roundw
          case rel => exact ⟨j + 1, fs, by omega, by go_num, HFI.out, HEND.out.1, HEND.out.2.1, HEND.out.2.2⟩
          case measure => simp [intOf]; omega
    · have HDL := hide hds.1
      go_wp2_with (first
        | (with_reducible refine wp_region_lit (id := 12) ?_)
        | ((with_reducible refine cpu_load (.tmp 2) bc ?_ ?_ ?_); (· rfl); (· exact HDL.out))
        | ((with_reducible refine cpu_load (.tmp 5) bx ?_ ?_ ?_); (· rfl); (· exact HDL.out))
        | ((with_reducible refine cpu_cmp_g (.tmp 56) (.tmp 57) ds (.inl rfl) (cpu_eql ds HDL.out _) ?_ ?_ ?_ ?_); (· rfl); (· rfl); (· rfl)))
      go_ret
      exact ⟨rfl, hb⟩

theorem insnRuns_walk {H : Type} {enc : TypeId × Value → H} {w : World} {base : Nat} {x : Value} {d : DataW H} (ok : Value.okWide Try.prog w .any base 35 x) (r : Rd enc Try.prog w 35 x.cells.toList d) (A : Option Addr) (len cap : Nat) (zs : List Int) (hr : IsRow .u32 w A len cap zs) :
    Calls Try.prog 8 #[x, .slice A len cap] w fun e w' => e = .returned (.bool true) ∧ Below w.heap.size w w' := by
  obtain ⟨cs, rfl, hc⟩ := r.cpu ok
  exact insnRuns_is cs hc A len cap zs w hr
end Go.Proofs.Ytkoibmpncfbnpaa
