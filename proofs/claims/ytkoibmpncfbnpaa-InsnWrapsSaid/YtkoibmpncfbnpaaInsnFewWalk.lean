/-
  The walk of 'InsnFew'.
-/
import Derived.Test.YtkoibmpncfbnpaaInsnOpsWalk
namespace Go.Proofs.Ytkoibmpncfbnpaa
open Go.ChangeShapes Go.WideShapes Go.ChangeAt Go.RowKit
set_option linter.unusedVariables false
set_option linter.unusedSimpArgs false

theorem act_load {ops : Array Oper} {rest : List Oper} {ds ty ps af} {a : Act} {w : World} {Q : Exit → Act → World → Prop} (x : Operand)
    {g : Nat} {k ad sz rg va ol : Int} (hg : Blk w g 37 (actC k ad sz rg va ol)) (hx : a.eval x = .pointer (some ⟨g, 0, none⟩))
    (h : wpList Try.prog ops Q rest (a.put ds (actV k ad sz rg va ol)) w) : wpList Try.prog ops Q (⟨ds, .load 37 x, ty, ps, af, none⟩ :: rest) a w :=
  wpList_load_row rfl 37 x rfl _ hx 37 (actC k ad sz rg va ol) (0, 0) _ hg Try.underlying37 rfl (by rw [info_act]; rfl) h
theorem cpu_cmp_g {ops : Array Oper} {rest : List Oper} {ds ty ps af gd t2} {a : Act} {w : World} {Q : Exit → Act → World → Prop} {op : BinOp} (x y : Operand) (cs : List Int) {c : Bool} (hop : op = .eql ∨ op = .neq)
    (hr : (binOp op 35 (.agg (u32A cs)) (.agg (u32A cs))).run Try.prog w = .ok (.bool c) w)
    (hw : Region.wanted ⟨ds, .binOp op 35 x y t2, ty, ps, af, gd⟩ (yielded ops a.tmps) = true) (hx : a.eval x = .agg (u32A cs)) (hy : a.eval y = .agg (u32A cs))
    (h : wpList Try.prog ops Q rest (a.put ds (.bool c)) w) : wpList Try.prog ops Q (⟨ds, .binOp op 35 x y t2, ty, ps, af, gd⟩ :: rest) a w := by
  refine wpList_step fun K hK => ?_
  rw [if_pos hw]
  unfold Oper.wp
  rw [run_cmp_cpu hop hr hx hy]
  exact hK _ _ h

/-- What turns, of the registers. -/
theorem gb_set (cs : List Int) (i j : Nat) (x : Int) (h : j ≠ i) : gb (cs.set i x) j = gb cs j := by
  unfold gb
  simp [List.getD, List.getElem?_set, Ne.symm h]
theorem few_step (cs : List Int) (v u : Int) (j : Nat) (hj : j < 16) (hA : (j : Int) ≠ v / 256 % 16) (hc : j ≠ 15 ∨ v % 256 ≠ 27) :
    gb (finC (stepC cs v) (stepA cs v).k (stepA cs v).sz (stepA cs v).rg u) j = gb cs j := by
  have h1 : gb (stepC cs v) j = gb cs j := by
    unfold stepC stepO
    have hA0 : 0 ≤ v / 256 % 16 := by omega
    generalize v / 256 % 16 = A at *
    have hn : j ≠ A.toNat := by omega
    repeat' split
    all_goals first
      | rfl
      | rw [gb_set _ _ _ _ (by omega), gb_set _ _ _ _ hn]
      | rw [gb_set _ _ _ _ (by omega)]
  have h2 : (stepA cs v).k = 2 → (stepA cs v).rg = v / 256 % 16 := by
    unfold stepA actO
    repeat' split
    all_goals simp
  have h3 : (stepA cs v).k = 4 → v % 256 = 27 := by
    unfold stepA actO
    repeat' split
    all_goals (first | (simp; done) | (intro _; assumption))
  unfold finC
  split
  · rename_i hk
    rw [gb_set _ _ _ _ (by omega), gb_set _ _ _ _ (by rw [h2 hk]; omega), h1]
  split
  · rename_i hk
    rw [gb_set _ _ _ _ (by omega), gb_set _ _ _ _ (by rcases hc with h | h; exact h; exact absurd (h3 hk) h), h1]
  split
  · rw [gb_set _ _ _ _ (by omega), h1]
  · exact h1
theorem few_bad (cs : List Int) (v u : Int) (h : v % 256 < 1 ∨ 28 < v % 256) : finC (stepC cs v) (stepA cs v).k (stepA cs v).sz (stepA cs v).rg u = cs ∧ (stepA cs v).k = 6 := by
  unfold stepC stepA stepO actO
  simp only [if_pos h]
  exact ⟨by simp [finC], trivial⟩

/-- The loop over the registers. -/
def FewRel (w : World) (g xb : Nat) (cs fs : List Int) (o A B i : Int) (x : Value) (wr : World) : Prop :=
  ∃ j : Nat, j ≤ 16 ∧ x = .int .i64 j ∧ Blk wr w.heap.size 35 (u32A cs) ∧ Blk wr g 35 (u32A fs) ∧ Blk wr xb 24 #[.int .i64 o, .int .i64 A, .int .i64 B, .int .i64 i] ∧ Below w.heap.size w wr

set_option maxRecDepth 100000 in
set_option maxHeartbeats 4000000 in
theorem insnFew_is (cs : List Int) (hc : IsCpu cs) (v u : Int) (v0 : 0 ≤ v) (v1 : v < 4294967296) (u0 : 0 ≤ u) (u1 : u < 4294967296) (w : World) :
    Calls Try.prog 7 #[.agg (u32A cs), .int .u32 v, .int .u32 u] w fun e w' => e = .returned (.bool true) ∧ Below w.heap.size w w' := by
  have S := hide (fun w => step_is v cs hc v0 v1 w)
  have HC := hide hc
  have HD := hide (stepC_cpu hc v)
  have HA := hide (stepA_ok cs v)
  have HW := hide (few_step cs v u)
  have HB := hide (few_bad cs v u)
  unfold StepPost at S
  clear hc
  generalize stepC cs v = ds at *
  generalize stepA cs v = an at *
  have HL := hide HD.out.1
  have F := hide (fun w => finish_any ds HD.out an HA.out u u0 u1 w)
  have HF := hide (finC_cpu HD.out an.k an.sz an.rg u u0 u1)
  clear HD HA
  generalize finC ds an.k an.sz an.rg u = fs at *
  unfold ActN.v at S
  generalize an.k = k at *
  generalize an.ad = ad at *
  generalize an.sz = sz at *
  generalize an.rg = rg at *
  generalize an.va = va at *
  generalize an.ol = ol at *
  have HFL := hide HF.out.1
  obtain ⟨o, A, B, i, er, hR, hbad, hgood⟩ : ∃ o A B i er, (∀ w, Calls Try.prog 11 #[.int .u32 v] w fun e w' => e = .returned (.tuple #[insnV o A B i, .int .i64 er]) ∧ Below w.heap.size w w') ∧ (er = 30 ∧ fs = cs ∧ k = 6 ∨ er = 0) ∧ ∀ j : Nat, j < 16 → gb fs j = gb cs j ∨ (j : Int) = A ∨ j = 15 ∧ o = 27 := by
    by_cases h : v % 256 < 1 ∨ 28 < v % 256
    · exact ⟨0, 0, 0, 0, 30, fun w => rdecode_bad v w v0 v1 h, .inl ⟨rfl, HB.out h⟩, fun j _ => .inl (by rw [(HB.out h).1])⟩
    · refine ⟨_, _, _, _, 0, fun w => rdecode_ok v w v0 v1 (by omega) (by omega), .inr rfl, fun j hj => ?_⟩
      by_cases h1 : (j : Int) = v / 256 % 16
      · exact .inr (.inl h1)
      · by_cases h2 : j = 15 ∧ v % 256 = 27
        · exact .inr (.inr h2)
        · exact .inl (HW.out j hj h1 (by omega))
  have R := hide hR
  have HG := hide hgood
  clear hR hgood HW HB
  go_enter Try.func7, Try.ntmps7
  have B0 := Blk.new w 35 (u32A cs)
  have b0 : Below w.heap.size w (w.alloc (.cells (u32A cs) 35)) := (Below.refl _ _).alloc (Nat.le_refl _) _
  go_upto_region 2 with (first
    | (with_reducible refine wp_region_lit (id := 1) ?_)
    | ((with_reducible refine cpu_load (.tmp 3) B0 ?_ ?_ ?_); (· rfl); (· exact HC.out.1))
    | (go_at_call 15; refine (S.out _).mono ?_; rintro e w1 ⟨rfl, h1⟩; have B1 := below_blk h1 B0 B0.lt; have H1 := hide (b0.trans (h1.mono b0.size)); clear h1)
    | ((with_reducible refine cpu_store (.tmp 7) (.tmp 17) ds (two_new w1 _ _ ?_ ?_).1 ?_ ?_ ?_ ?_); (· rfl); (· rfl); (· rfl); (· rfl); (· exact HL.out))
    | ((with_reducible refine act_store (.tmp 8) (.tmp 18) k ad sz rg va ol (let ⟨o, l, h⟩ := (two_new w1 _ _ ?_ ?_).2; ⟨o, l, h.rowFar (by omega) _⟩) ?_ ?_ ?_); (· rfl); (· rfl); (· rfl); (· rfl)))
  refine world_from (fun W => Blk W w1.heap.size 35 (u32A ds) ∧ Blk W (w1.heap.size + 1) 37 (actC k ad sz rg va ol) ∧ Below w.heap.size w W ∧ Blk W w.heap.size 35 (u32A cs)) ⟨(two_laid H1.out).1, (two_laid H1.out).2.1, (two_laid H1.out).2.2.1, (two_laid H1.out).2.2.2 B1⟩ ?_
  rintro w2 ⟨C2, A2, b2, B2⟩
  clear B0 b0 B1 H1 S
  generalize w1.heap.size = g1 at *
  go_upto_region 3 with (first
    | (with_reducible refine wp_region_lit (id := 2) ?_)
    | ((with_reducible refine cpu_load (.tmp 7) C2 ?_ ?_ ?_); (· rfl); (· exact HL.out))
    | ((with_reducible refine act_load (.tmp 8) A2 ?_ ?_); (· rfl))
    | (go_at_call 17; refine (F.out _).mono ?_; rintro e w3 ⟨rfl, h3⟩; have B3 := below_blk h3 B2 B2.lt; have A3 := below_blk h3 A2 A2.lt; have H3 := hide (b2.trans (h3.mono b2.size)); clear h3)
    | ((with_reducible refine cpu_store (.tmp 9) (.tmp 22) fs ⟨_, ?_, Blk.new w3 _ _⟩ ?_ ?_ ?_ ?_); (· rfl); (· rfl); (· rfl); (· exact HFL.out)))
  refine world_from (fun W => Blk W w3.heap.size 35 (u32A fs) ∧ Blk W (g1 + 1) 37 (actC k ad sz rg va ol) ∧ Below w.heap.size w W ∧ Blk W w.heap.size 35 (u32A cs)) ⟨(Blk.new w3 _ _).row _, (A3.alloc _).rowFar (by have := A3.lt; omega) _, below_setRow (H3.out.alloc H3.out.size _) H3.out.size, (B3.alloc _).rowFar (by have := B3.lt; omega) _⟩ ?_
  rintro w4 ⟨C4, A4, b4, B4⟩
  clear C2 A2 b2 B2 B3 A3 H3 F
  generalize w3.heap.size = g2 at *
  unfold insnV at R
  go_wp2_with fail
  refine (R.out _).mono ?_
  rintro e w5 ⟨rfl, h5⟩
  have C5 := below_blk h5 C4 C4.lt
  have A5 := below_blk h5 A4 A4.lt
  have B5 := below_blk h5 B4 B4.lt
  have H5 := hide (b4.trans (h5.mono b4.size))
  clear h5 C4 A4 b4 B4 R
  go_wp2_with fail
  refine (lives_ok _).mono ?_
  rintro e w6 ⟨rfl, h6⟩
  have X6 := below_blk h6 (Blk.new w5 24 #[.int .i64 o, .int .i64 A, .int .i64 B, .int .i64 i]) (by simp)
  have C6 := below_blk h6 (C5.alloc _) (by have := C5.lt; simp; omega)
  have A6 := below_blk h6 (A5.alloc _) (by have := A5.lt; simp; omega)
  have B6 := below_blk h6 (B5.alloc _) (by have := B5.lt; simp; omega)
  have H6 := hide ((H5.out.alloc H5.out.size _).trans (h6.mono (by have := H5.out.size; simp; omega)))
  clear h6 C5 A5 B5 H5
  generalize w5.heap.size = xb at *
  have y0 : w6.cell? ⟨g1 + 1, 0, none⟩ = some (.int .i64 k) := A6.cell 0
  clear A6
  have HX := hide (And.intro B6 (And.intro C6 X6))
  clear X6
  rcases hbad with ⟨rfl, hfs, rfl⟩ | rfl
  · have HE := hide hfs
    clear hfs
    go_wp2_with (first
      | ((with_reducible refine cpu_load_g (.tmp 9) C6 ?_ ?_ ?_ ?_); (· rfl); (· rfl); (· exact HFL.out))
      | ((with_reducible refine cpu_load_g (.tmp 3) B6 ?_ ?_ ?_ ?_); (· rfl); (· rfl); (· exact HC.out.1))
      | ((with_reducible refine cpu_cmp_g (.tmp 34) (.tmp 35) fs (.inr rfl) (cpu_neq fs HFL.out _) ?_ ?_ ?_ ?_); (· rfl); (· rfl); (· (rw [HE.out]; rfl))))
    clear y0 B6 C6
    go_loopw [12] (fun x wr => FewRel w g2 xb cs fs o A B i x wr) (fun x _ => 16 - (intOf x).toNat)
    case atStart => exact ⟨0, by omega, rfl, HX.out.1, HX.out.2.1, HX.out.2.2, H6.out⟩
    case round =>
      obtain ⟨j, hj, rfl, bc, bf, bx, hb⟩ := hrel
      by_cases hlt : j < 16
      · have cf : wr.cell? ⟨g2, j, none⟩ = some (.int .u32 (gb fs j)) := (bf.cell _).trans (u32A_get fs _ (by rw [HFL.out]; omega))
        have cc : wr.cell? ⟨w.heap.size, j, none⟩ = some (.int .u32 (gb cs j)) := (bc.cell _).trans (u32A_get cs _ (by rw [HC.out.1]; omega))
        have x0 := bx.cell 0
        have x1 := bx.cell 1
        have HZ := hide (And.intro bc (And.intro bf (And.intro bx hb)))
        have hJ : (j : Int) < 16 := by omega
        have hg := HG.out j hlt
        clear bc bf bx hb
        generalize gb fs j = p at *
        generalize gb cs j = q at *
        by_cases hpq : p = q
        · have e1 : (p != q) = false := by simp [hpq]
          clear hpq hg
          go_wp2
          go_quiet (fail)
          go_wp2
          go_roundw
          case rel => exact ⟨j + 1, by omega, by go_num, HZ.out.1.drewN _, HZ.out.2.1.drewN _, HZ.out.2.2.1.drewN _, below_drewN HZ.out.2.2.2 _⟩
          case measure => simp [intOf]; omega
        · have e1 : (p != q) = true := by simp [hpq]
          by_cases hjA : (j : Int) = A
          · have e2 : ((j : Int) != A) = false := by simp [hjA]
            clear hpq hg hjA
            go_wp2
            go_quiet (fail)
            go_wp2
            go_roundw
            case rel => exact ⟨j + 1, by omega, by go_num, HZ.out.1.drewN _, HZ.out.2.1.drewN _, HZ.out.2.2.1.drewN _, below_drewN HZ.out.2.2.2 _⟩
            case measure => simp [intOf]; omega
          · have e2 : ((j : Int) != A) = true := by simp [hjA]
            obtain ⟨h15, h27⟩ : j = 15 ∧ o = 27 := by rcases hg with h | h | h; exact absurd h hpq; exact absurd h hjA; exact h
            have e3 : ((j : Int) != 15) = false := by simp [h15]
            have e4 : (o != 27) = false := by simp [h27]
            clear hpq hg hjA h15 h27
            go_wp2
            go_quiet (fail)
            go_wp2
            go_roundw
            case rel => exact ⟨j + 1, by omega, by go_num, HZ.out.1.drewN _, HZ.out.2.1.drewN _, HZ.out.2.2.1.drewN _, below_drewN HZ.out.2.2.2 _⟩
            case measure => simp [intOf]; omega
      · go_wp2
        go_ret
        exact ⟨rfl, hb⟩
  · go_wp2
    clear y0 B6 C6
    go_loopw [12] (fun x wr => FewRel w g2 xb cs fs o A B i x wr) (fun x _ => 16 - (intOf x).toNat)
    case atStart => exact ⟨0, by omega, rfl, HX.out.1, HX.out.2.1, HX.out.2.2, H6.out⟩
    case round =>
      obtain ⟨j, hj, rfl, bc, bf, bx, hb⟩ := hrel
      by_cases hlt : j < 16
      · have cf : wr.cell? ⟨g2, j, none⟩ = some (.int .u32 (gb fs j)) := (bf.cell _).trans (u32A_get fs _ (by rw [HFL.out]; omega))
        have cc : wr.cell? ⟨w.heap.size, j, none⟩ = some (.int .u32 (gb cs j)) := (bc.cell _).trans (u32A_get cs _ (by rw [HC.out.1]; omega))
        have x0 := bx.cell 0
        have x1 := bx.cell 1
        have HZ := hide (And.intro bc (And.intro bf (And.intro bx hb)))
        have hJ : (j : Int) < 16 := by omega
        have hg := HG.out j hlt
        clear bc bf bx hb
        generalize gb fs j = p at *
        generalize gb cs j = q at *
        by_cases hpq : p = q
        · have e1 : (p != q) = false := by simp [hpq]
          clear hpq hg
          go_wp2
          go_quiet (fail)
          go_wp2
          go_roundw
          case rel => exact ⟨j + 1, by omega, by go_num, HZ.out.1.drewN _, HZ.out.2.1.drewN _, HZ.out.2.2.1.drewN _, below_drewN HZ.out.2.2.2 _⟩
          case measure => simp [intOf]; omega
        · have e1 : (p != q) = true := by simp [hpq]
          by_cases hjA : (j : Int) = A
          · have e2 : ((j : Int) != A) = false := by simp [hjA]
            clear hpq hg hjA
            go_wp2
            go_quiet (fail)
            go_wp2
            go_roundw
            case rel => exact ⟨j + 1, by omega, by go_num, HZ.out.1.drewN _, HZ.out.2.1.drewN _, HZ.out.2.2.1.drewN _, below_drewN HZ.out.2.2.2 _⟩
            case measure => simp [intOf]; omega
          · have e2 : ((j : Int) != A) = true := by simp [hjA]
            obtain ⟨h15, h27⟩ : j = 15 ∧ o = 27 := by rcases hg with h | h | h; exact absurd h hpq; exact absurd h hjA; exact h
            have e3 : ((j : Int) != 15) = false := by simp [h15]
            have e4 : (o != 27) = false := by simp [h27]
            clear hpq hg hjA h15 h27
            go_wp2
            go_quiet (fail)
            go_wp2
            go_roundw
            case rel => exact ⟨j + 1, by omega, by go_num, HZ.out.1.drewN _, HZ.out.2.1.drewN _, HZ.out.2.2.1.drewN _, below_drewN HZ.out.2.2.2 _⟩
            case measure => simp [intOf]; omega
      · go_wp2
        go_ret
        exact ⟨rfl, hb⟩

theorem insnFew_walk {H : Type} {enc : TypeId × Value → H} {w : World} {base : Nat} {x : Value} {d : DataW H} (ok : Value.okWide Try.prog w .any base 35 x) (r : Rd enc Try.prog w 35 x.cells.toList d) (v u : Int) (wv : (Lit.int .u32 v).wf = true) (wu : (Lit.int .u32 u).wf = true) :
    Calls Try.prog 7 #[x, .int .u32 v, .int .u32 u] w fun e w' => e = .returned (.bool true) ∧ Below w.heap.size w w' := by
  obtain ⟨cs, rfl, hc⟩ := r.cpu ok
  exact insnFew_is cs hc v u (wf_u32 wv).1 (wf_u32 wv).2 (wf_u32 wu).1 (wf_u32 wu).2 w
end Go.Proofs.Ytkoibmpncfbnpaa
