/-
  Sleepers (parapet/waitq): queues that New did not give: nil, or a struct without maps.
-/
import Derived.Test.YtokclkiidhcffaaWqMap
import Derived.LoopN
namespace Go.Proofs.Ytokclkiidhcffaa
open Go.ChangeShapes Go.WideShapes Go.ChangeAt Go.RowKit Go.Maps
set_option linter.unusedVariables false

def NoWq (w : World) (p : Option Addr) : Prop := p = none ∨ ∃ t, p = some ⟨t, 0, none⟩ ∧ t < w.heap.size ∧ w.cell? ⟨t, 0, none⟩ = some (.map none)
theorem NoWq.only {w w' : World} {p : Option Addr} (h : NoWq w p) (ho : Only [] w w') : NoWq w' p := by
  rcases h with rfl | ⟨t, rfl, hl, hc⟩
  · exact .inl rfl
  · exact .inr ⟨t, rfl, Nat.lt_of_lt_of_le hl ho.size, (ho.cell hl (by simp)).trans hc⟩
theorem NoWq.below {w w' : World} {p : Option Addr} (h : NoWq w p) (ho : Below w.heap.size w w') : NoWq w' p := h.only (Only.of_below ho)

section
variable {w : World} {p : Option Addr} (h : NoWq w p)
include h
theorem wclosed_no : Calls Try.prog 20 #[.pointer p] w fun e w' => e = .returned (.bool true) ∧ w = w' := by
  have qM : ∀ (w : World) (r : Option Nat), (binOp .eql 51 (.map r) (.map none)).run Try.prog w = .ok (.bool r.isNone) w := fun w r => run_eql_map_nil w _ _ _ r Try.underlying51
  rcases h with rfl | ⟨t, rfl, _, hc⟩
  · go_enter Try.func20, Try.ntmps20
    go_wp2
    go_ret
    exact ⟨rfl, rfl⟩
  · go_enter Try.func20, Try.ntmps20
    go_wp2
    go_ret
    exact ⟨rfl, rfl⟩
theorem wOn_no (x : Int) : Calls Try.prog 19 #[.pointer p, .int .i64 x] w fun e w' => e = .returned (.slice none 0 0) ∧ w = w' := by
  have HC := hide (wclosed_no h)
  go_enter Try.func19, Try.ntmps19
  go_wp2_with (go_at_call 20; refine HC.out.mono ?_; rintro e w' ⟨rfl, rfl⟩)
  go_ret
  exact ⟨rfl, rfl⟩
theorem wLen_no : Calls Try.prog 16 #[.pointer p] w fun e w' => e = .returned (.int .i64 0) ∧ w = w' := by
  have HC := hide (wclosed_no h)
  go_enter Try.func16, Try.ntmps16
  go_wp2_with (go_at_call 20; refine HC.out.mono ?_; rintro e w' ⟨rfl, rfl⟩)
  go_ret
  exact ⟨rfl, rfl⟩
theorem wAll_no : Calls Try.prog 17 #[.pointer p] w fun e w' => e = .returned (.slice none 0 0) ∧ w = w' := by
  have HC := hide (wclosed_no h)
  go_enter Try.func17, Try.ntmps17
  go_wp2_with (go_at_call 20; refine HC.out.mono ?_; rintro e w' ⟨rfl, rfl⟩)
  go_ret
  exact ⟨rfl, rfl⟩
theorem wFork_no : Calls Try.prog 9 #[.pointer p] w fun e w' => e = .returned (.pointer none) ∧ w = w' := by
  have HC := hide (wclosed_no h)
  go_enter Try.func9, Try.ntmps9
  go_wp2_with (go_at_call 20; refine HC.out.mono ?_; rintro e w' ⟨rfl, rfl⟩)
  go_ret
  exact ⟨rfl, rfl⟩
theorem wSleep_no (x : Int) (v : Value) : Calls Try.prog 13 #[.pointer p, .int .i64 x, v] w fun e w' => e = .returned (.int .i64 6) ∧ Only [] w w' := by
  have HC := hide (wclosed_no h)
  go_enter Try.func13, Try.ntmps13
  clear h
  go_wp2_with (go_at_call 20; refine HC.out.mono ?_; rintro e w' ⟨rfl, rfl⟩)
  go_ret
  exact ⟨rfl, Only.refl _ _⟩
theorem wSleepers_no (k : CH) : Calls Try.prog 14 #[.pointer p, kV k] w fun e w' => e = .returned (.slice none 0 0) ∧ Only [] w w' := by
  have HC := hide (fun o => wclosed_no (h.only ((Only.refl [] w).alloc o)))
  have HO := hide (fun o => (Only.refl [] w).alloc o)
  clear h
  go_enter Try.func14, Try.ntmps14
  go_wp2_with (go_at_call 20; refine (HC.out _).mono ?_; rintro e w' ⟨rfl, rfl⟩)
  go_ret
  exact ⟨rfl, HO.out _⟩
theorem wCancel_no (x : Int) : Calls Try.prog 11 #[.pointer p, .int .i64 x] w fun e w' => e = .returned (.bool false) ∧ Only [] w w' := by
  have HC := hide (wOn_no h x)
  clear h
  go_enter Try.func11, Try.ntmps11
  go_wp2_with (go_at_call 19; refine HC.out.mono ?_; rintro e w' ⟨rfl, rfl⟩)
  refine wp_loop_rounds 1 ?_
  rw [rounds_succ]
  go_wp2
  go_ret
  exact ⟨rfl, Only.refl _ _⟩
theorem wWake_no (k : CH) (n : Int) : Calls Try.prog 10 #[.pointer p, kV k, .int .i64 n] w fun e w' => ∃ c, e = .returned (.slice none 0 c) ∧ Only [] w w' := by
  have HC := hide (fun o => wSleepers_no (h.only ((Only.refl [] w).alloc o)) k)
  have HO := hide (fun o => (Only.refl [] w).alloc o)
  clear h
  go_enter Try.func10, Try.ntmps10
  go_wp2_with (go_at_call 14; refine (HC.out _).mono ?_; rintro e w' ⟨rfl, ho⟩; have HK := hide ho; clear ho)
  all_goals (refine wp_loop_rounds 1 ?_; rw [rounds_succ]; go_wp2)
  all_goals go_ret
  all_goals exact ⟨_, rfl, (HO.out _).trans HK.out⟩
theorem wMove_no (k l : CH) (n : Int) : Calls Try.prog 15 #[.pointer p, kV k, kV l, .int .i64 n] w fun e w' => e = .returned (.int .i64 0) ∧ Only [] w w' := by
  have HC := hide (fun o o' => wSleepers_no (h.only (((Only.refl [] w).alloc o).alloc o')) k)
  have HO := hide (fun o o' => ((Only.refl [] w).alloc o).alloc o')
  clear h
  go_enter Try.func15, Try.ntmps15
  go_wp2_with (go_at_call 14; refine (HC.out _ _).mono ?_; rintro e w' ⟨rfl, ho⟩; have HK := hide ho; clear ho)
  all_goals (refine wp_loop_rounds 1 ?_; rw [rounds_succ]; go_wp2)
  all_goals go_ret
  all_goals exact ⟨rfl, (HO.out _ _).trans HK.out⟩
end
end Go.Proofs.Ytokclkiidhcffaa
