/-
  Sleepers (parapet/waitq): Cancel of a thread that does not sleep.
-/
import Derived.Test.YtokclkiidhcffaaWqCancel
import Derived.LoopN
namespace Go.Proofs.Ytokclkiidhcffaa
open Go.ChangeShapes Go.WideShapes Go.ChangeAt Go.RowKit Go.Maps
set_option linter.unusedVariables false
section
variable {w w' w1 : World} {g : Nat} {L1 : List (Int × List CH)} {L2 : List (CH × List Int)} {F : List Nat} {S : List Nat}
theorem wq_cancel_no (h : Wq w g L1 L2 F) (hs1 : ∀ p ∈ L1, p.2.length ≤ 64) (t : Int) (ht : iW t) (hne : atL L1 t = []) :
    Calls Try.prog 11 #[.pointer (some ⟨g, 0, none⟩), .int .i64 t] w fun e w' => e = .returned (.bool false) ∧ DidW w w' g F L1 L2 := by
  have HO := hide (wq_on h hs1 t ht)
  rw [hne] at HO
  have H := hide h
  clear h hs1 hne
  go_enter Try.func11, Try.ntmps11
  go_wp2_with (go_at_call 19; refine HO.out.mono ?_; rintro e w1 ⟨v, rfl, hr, hb, ho⟩; obtain ⟨A, cap, rfl, hA⟩ := hr.form; have HO1 := hide ho; clear hA hr hb ho)
  refine wp_loop_rounds 1 ?_
  rw [rounds_succ]
  go_wp2
  go_ret
  exact ⟨rfl, F, H.out.quiet HO1.out, TurnW.same F HO1.out⟩
end
end Go.Proofs.Ytokclkiidhcffaa
