/-
  The document's own run queues (parapetref11): Put where it refuses.
-/
import Derived.Test.YtdinndpeoankdaaRq11Rem
import Derived.Test.YtdinndpeoankdaaRqOps
namespace Go.Proofs.Ytdinndpeoankdaa
open Go.ChangeShapes Go.WideShapes Go.ChangeAt Go.RowKit Go.Maps
set_option linter.unusedVariables false
section
variable {w w' w1 w5 : World} {gx hx : Nat} {s s' : RQ} {xs : Nat → Value} {S : List Nat}
theorem xPut_no (X : IsX w gx hx s xs) (o : OkQ s) (h t : Int) (hne : (putF s h t).2 ≠ 0) :
    Calls Try.prog 13 #[.pointer (some ⟨gx, 0, none⟩), .int .i64 h, .int .i64 t] w fun e w' => e = .returned (.int .i64 (putF s h t).2) ∧ DidX w w' gx hx s.H xs (putF s h t).1 := by
  have HH := hide (xhart_is X h)
  have HW := hide (xWhere_is X o t)
  have HAL := hide (xall_is X o)
  have HX := hide (X.sameX (Only.refl [] w))
  by_cases hb : hasQ s h = false
  · have hE : putF s h t = (s, 1) := by unfold putF; rw [if_pos (.inl hb)]
    rw [hE]
    rw [hb] at HH
    clear X o hne hE hb HW HAL
    go_enter Try.func13, Try.ntmps13
    go_wp2_with (go_at_call 35; refine HH.out.mono ?_; rintro e w' ⟨rfl, rfl⟩)
    go_ret
    exact ⟨rfl, HX.out⟩
  have hb' : hasQ s h = true := by simpa using hb
  rw [hb'] at HH
  by_cases ht : t < 1
  · have hE : putF s h t = (s, 1) := by unfold putF; rw [if_pos (.inr ht)]
    rw [hE]
    have htd : decide (t < 1) = true := by simpa using ht
    clear X o hne hE hb hb' ht HW HAL
    go_enter Try.func13, Try.ntmps13
    go_wp2_with (go_at_call 35; refine HH.out.mono ?_; rintro e w' ⟨rfl, rfl⟩)
    go_ret
    exact ⟨rfl, HX.out⟩
  have htd : decide (t < 1) = false := by simpa using ht
  have e0 : ∀ a : RQ × Int, (if hasQ s h = false ∨ t < 1 then (s, (1 : Int)) else a) = a := fun a => by rw [if_neg]; simp [hb', ht]
  by_cases hk : t ∈ keysQ s
  · have hE : putF s h t = (s, 5) := by unfold putF; rw [e0, if_pos hk]
    rw [hE]
    rw [show whereF s t = ((whereQ s t : Int), true) by unfold whereF; rw [if_pos hk]] at HW
    clear X o hne hE hb hb' ht HAL e0 hk
    go_enter Try.func13, Try.ntmps13
    go_wp2_with (first | (go_at_call 35; refine HH.out.mono ?_; rintro e w' ⟨rfl, rfl⟩) | (go_at_call 23; refine HW.out.mono ?_; rintro e w' ⟨rfl, rfl⟩))
    go_ret
    exact ⟨rfl, HX.out⟩
  rw [show whereF s t = (0, false) by unfold whereF; rw [if_neg hk]] at HW
  by_cases h64 : s.O.length = 64
  · have hE : putF s h t = (s, 2) := by unfold putF; rw [e0, if_neg hk, if_pos h64]
    rw [hE]
    rw [h64] at HAL
    clear X o hne hE hb hb' ht e0 hk h64
    go_enter Try.func13, Try.ntmps13
    go_wp2_with (first | (go_at_call 35; refine HH.out.mono ?_; rintro e w' ⟨rfl, rfl⟩) | (go_at_call 23; refine HW.out.mono ?_; rintro e w' ⟨rfl, rfl⟩) | (go_at_call 36; refine HAL.out.mono ?_; rintro e w' ⟨rfl, rfl⟩))
    go_ret
    exact ⟨rfl, HX.out⟩
  · exact absurd (by unfold putF; rw [e0, if_neg hk, if_neg h64]) hne
end
end Go.Proofs.Ytdinndpeoankdaa
