/-
  Open files (parapet/fdtab): Move.
-/
import Derived.Test.YtfplfpfnlffnjaaFdSem
namespace Go.Proofs.Ytfplfpfnlffnjaa
open Go.ChangeShapes Go.WideShapes Go.ChangeAt Go.RowKit Go.Maps
set_option linter.unusedVariables false
set_option linter.unusedSimpArgs false
def moveS (O : List (Int × F5)) (k a : Int) : Int × List (Int × F5) :=
  match lookO O k with
  | none => (221, O)
  | some x => if a < 0 then (1, O) else (0, setV O k { x with at_ := a })
section
variable {w w' w1 : World} {t f m : Nat} {O : List (Int × F5)} {T : List Int} {S : List Nat} {k : Int} {x : F5} {B : Int}
theorem move_none (h : IsFi w f m O) (hk : iW k) (hn : k ∉ O.map (·.1)) (a : Int) : Calls Try.prog 16 #[.pointer (some ⟨f, 0, none⟩), .int .i64 k, .int .i64 a] w fun e w' => e = .returned (.int .i64 221) ∧ Only [] w w' := by
  have HC := hide (get_none h hk hn)
  clear h hk hn
  dsimp only [fV, fC] at HC
  go_enter Try.func16, Try.ntmps16
  go_wp2_with (go_at_call 19; refine HC.out.mono ?_; rintro e w' ⟨rfl, ho⟩; have HO := hide ho; clear ho)
  go_ret
  exact ⟨rfl, HO.out.alloc _⟩
theorem move_bad (h : IsFi w f m O) (hp : (k, x) ∈ O) {a : Int} (ha : a < 0) : Calls Try.prog 16 #[.pointer (some ⟨f, 0, none⟩), .int .i64 k, .int .i64 a] w fun e w' => e = .returned (.int .i64 1) ∧ Only [] w w' := by
  have HC := hide (get_ok h hp)
  clear h hp
  obtain ⟨x1, x2, x3, x4, x5⟩ := x
  dsimp only [fV, fC] at HC
  go_enter Try.func16, Try.ntmps16
  go_wp2_with (go_at_call 19; refine HC.out.mono ?_; rintro e w' ⟨rfl, ho⟩; have HO := hide ho; clear ho)
  go_ret
  exact ⟨rfl, HO.out.alloc _⟩
set_option maxRecDepth 100000 in
theorem move_ok (h : IsFi w f m O) (hp : (k, x) ∈ O) {a : Int} (ha : 0 ≤ a) : Calls Try.prog 16 #[.pointer (some ⟨f, 0, none⟩), .int .i64 k, .int .i64 a] w fun e w' => e = .returned (.int .i64 0) ∧ IsFi w' f m (setV O k { x with at_ := a }) ∧ Only [m] w w' := by
  have HC := hide (get_ok h hp)
  have HS := hide (fun W (ho : Only [] w W) => h.put hp { x with at_ := a } ho)
  have HCW := hide (fun W (ho : Only [] w W) => (h.quiet ho).c0)
  have ha' : ¬ a < 0 := by omega
  clear h hp
  obtain ⟨x1, x2, x3, x4, x5⟩ := x
  dsimp only [fV, fC] at HC HS ⊢
  go_enter Try.func16, Try.ntmps16
  go_wp2_with (go_at_call 19; refine HC.out.mono ?_; rintro e w2 ⟨rfl, ho⟩; have ho1 : Only [] w (w2.alloc (.cells #[.int .i64 x1, .int .i64 x2, .int .i64 a, .int .i64 x4, .int .i64 x5] 42)) := ho.alloc _; have c1 := HCW.out _ ho1; obtain ⟨w4, hrun, h5, ho4⟩ := HS.out _ ho1.drew; have H5 := hide h5; have HO4 := hide ((ho1.drew.mono (S' := [m]) (by simp)).trans ho4); clear ho ho1 h5 ho4 HS HCW)
  go_region
  all_goals go_wp2
  go_ret
  exact ⟨rfl, H5.out, HO4.out⟩
theorem move_is (h : IsFi w f m O) (hk : iW k) (a : Int) : Calls Try.prog 16 #[.pointer (some ⟨f, 0, none⟩), .int .i64 k, .int .i64 a] w fun e w' => e = .returned (.int .i64 (moveS O k a).1) ∧ IsFi w' f m (moveS O k a).2 ∧ Only [m] w w' := by
  unfold moveS
  cases hl : lookO O k with
  | none => exact (move_none h hk (lookO_none hl) a).mono fun e w' ⟨q1, q2⟩ => ⟨q1, h.quiet q2, q2.mono (by simp)⟩
  | some x =>
    have hm := lookO_some hl
    dsimp only
    by_cases e : a < 0
    · rw [if_pos e]
      exact (move_bad h hm e).mono fun e w' ⟨q1, q2⟩ => ⟨q1, h.quiet q2, q2.mono (by simp)⟩
    · rw [if_neg e]
      exact move_ok h hm (by omega)
end
end Go.Proofs.Ytfplfpfnlffnjaa
