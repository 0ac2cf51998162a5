/-
  The walk of 'InsnOps'.
-/
import Derived.Test.YtkoibmpncfbnpaaInsnStepsWalk
namespace Go.Proofs.Ytkoibmpncfbnpaa
open Go.ChangeShapes Go.WideShapes Go.ChangeAt Go.RowKit
set_option linter.unusedVariables false

theorem cpu_load_g {ops : Array Oper} {rest : List Oper} {ds ty ps af gd} {a : Act} {w : World} {Q : Exit → Act → World → Prop} (x : Operand)
    {g : Nat} {cs : List Int} (hg : Blk w g 35 (u32A cs)) (hw : Region.wanted ⟨ds, .load 35 x, ty, ps, af, gd⟩ (yielded ops a.tmps) = true) (hx : a.eval x = .pointer (some ⟨g, 0, none⟩)) (hl : cs.length = 17)
    (h : wpList Try.prog ops Q rest (a.put ds (.agg (u32A cs))) w) : wpList Try.prog ops Q (⟨ds, .load 35 x, ty, ps, af, gd⟩ :: rest) a w := by
  refine wpList_step fun K hK => ?_
  rw [if_pos hw]
  exact wp_load_row 35 x rfl _ hx 35 (u32A cs) (0, 0) _ hg Try.underlying35 rfl (by rw [info_cpu, size_u32A, hl]) (hK _ _ h)

set_option maxRecDepth 100000 in
set_option maxHeartbeats 2000000 in
theorem insnOps_is (cs : List Int) (hc : IsCpu cs) (o A B i : Int) (ho : I64 o) (hA : I64 A) (hB : I64 B) (hi : I64 i) (u : Int) (u0 : 0 ≤ u) (u1 : u < 4294967296) (w : World) :
    Calls Try.prog 6 #[.agg (u32A cs), insnV o A B i, .int .u32 u] w fun e w' => e = .returned (.bool true) ∧ Below w.heap.size w w' := by
  by_cases hf : Fits o A B i
  · have E := hide (fun w => rencode_ok o A B i w hf)
    obtain ⟨v0, v1⟩ := wordOf_in hf
    have S := hide (fun w => insnSteps_is cs hc (wordOf o A B i) u v0 v1 u0 u1 w)
    have HC := hide hc.1
    clear hf ho hA hB hi v0 v1 hc
    unfold insnV at E ⊢
    generalize wordOf o A B i = v at *
    go_enter Try.func6, Try.ntmps6
    have C0 : Blk ((w.alloc (.cells (u32A cs) 35)).alloc (.cells #[.int .i64 o, .int .i64 A, .int .i64 B, .int .i64 i] 24)) w.heap.size 35 (u32A cs) := (Blk.new w _ _).alloc _
    have b0 : Below w.heap.size w ((w.alloc (.cells (u32A cs) 35)).alloc (.cells #[.int .i64 o, .int .i64 A, .int .i64 B, .int .i64 i] 24)) := ((Below.refl _ _).alloc (Nat.le_refl _) _).alloc (by simp) _
    go_wp2_with fail
    refine (E.out _).mono ?_
    rintro e w1 ⟨rfl, h1⟩
    have C1 := below_blk h1 C0 C0.lt
    have H1 := hide (b0.trans (h1.mono b0.size))
    clear h1 C0 b0
    go_wp2_with fail
    refine (lives_ok _).mono ?_
    rintro e w2 ⟨rfl, h2⟩
    have C2 := below_blk h2 C1 C1.lt
    have H2 := hide (H1.out.trans (h2.mono H1.out.size))
    clear h2 C1 H1
    go_wp2_with (first
      | ((with_reducible refine cpu_load_g (.tmp 3) C2 ?_ ?_ ?_ ?_); (· rfl); (· rfl); (· exact HC.out))
      | (go_at_call 5; refine (S.out _).mono ?_; rintro e w3 ⟨rfl, h3⟩; have H3 := hide (H2.out.trans (h3.mono H2.out.size)); clear h3))
    go_ret
    exact ⟨rfl, H3.out⟩
  · have E := hide (fun w => rencode_bad o A B i w hf ho hA hB hi)
    have HC := hide hc.1
    clear hf ho hA hB hi hc
    unfold insnV at E ⊢
    go_enter Try.func6, Try.ntmps6
    have b0 : Below w.heap.size w ((w.alloc (.cells (u32A cs) 35)).alloc (.cells #[.int .i64 o, .int .i64 A, .int .i64 B, .int .i64 i] 24)) := ((Below.refl _ _).alloc (Nat.le_refl _) _).alloc (by simp) _
    go_wp2_with fail
    refine (E.out _).mono ?_
    rintro e w1 ⟨rfl, h1⟩
    have H1 := hide (b0.trans (h1.mono b0.size))
    clear h1 b0
    go_wp2_with fail
    refine (lives_ok _).mono ?_
    rintro e w2 ⟨rfl, h2⟩
    have H2 := hide (H1.out.trans (h2.mono H1.out.size))
    clear h2 H1
    go_wp2
    go_ret
    exact ⟨rfl, H2.out⟩

theorem insnOps_walk {H : Type} {enc : TypeId × Value → H} {w : World} {base base' : Nat} {x y : Value} {d d' : DataW H} (ok : Value.okWide Try.prog w .any base 35 x) (r : Rd enc Try.prog w 35 x.cells.toList d)
    (ok' : Value.okWide Try.prog w .any base' 24 y) (r' : Rd enc Try.prog w 24 y.cells.toList d') (u : Int) (wu : (Lit.int .u32 u).wf = true) :
    Calls Try.prog 6 #[x, y, .int .u32 u] w fun e w' => e = .returned (.bool true) ∧ Below w.heap.size w w' := by
  obtain ⟨cs, rfl, hc⟩ := r.cpu ok
  obtain ⟨o, A, B, i, rfl, ho, hA, hB, hi⟩ := r'.insn ok'
  exact insnOps_is cs hc o A B i ho hA hB hi u (wf_u32 wu).1 (wf_u32 wu).2 w
end Go.Proofs.Ytkoibmpncfbnpaa
