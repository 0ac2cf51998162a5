/-
  The document's own run queues (parapetref11): Put, Wake, Next whole.
-/
import Derived.Test.YtdinndpeoankdaaRq11Next2
import Derived.Test.YtdinndpeoankdaaRq11Put
namespace Go.Proofs.Ytdinndpeoankdaa
open Go.ChangeShapes Go.WideShapes Go.ChangeAt Go.RowKit Go.Maps
set_option linter.unusedVariables false
section
variable {w w' w1 w5 : World} {gx hx : Nat} {s s' s2 : RQ} {xs : Nat → Value} {S : List Nat} {v5 : Value} {zs : List Int}
theorem xPut_is (X : IsX w gx hx s xs) (o : OkQ s) (h t : Int) :
    Calls Try.prog 13 #[.pointer (some ⟨gx, 0, none⟩), .int .i64 h, .int .i64 t] w fun e w' => e = .returned (.int .i64 (putF s h t).2) ∧ DidX w w' gx hx s.H xs (putF s h t).1 := by
  by_cases hne : (putF s h t).2 = 0
  · unfold putF at hne ⊢
    split at hne
    · cases hne
    · rename_i h1
      rw [if_neg h1]
      split at hne
      · cases hne
      · rename_i h2
        rw [if_neg h2]
        split at hne
        · cases hne
        · rename_i h3
          rw [if_neg h3]
          have hb : hasQ s h = true := by
            cases e : hasQ s h with
            | true => rfl
            | false => exact absurd (.inl e) h1
          have ht : ¬ t < 1 := fun e => h1 (.inr e)
          obtain ⟨k, rfl, hk⟩ := hasQ_nat hb
          have := xPut_ok X o k hk t (by omega) h2 (by have := o.few; omega)
          rw [show ((k : Int)).toNat = k from rfl]
          exact this
  · exact xPut_no X o h t hne
theorem xWake_is (X : IsX w gx hx s xs) (o : OkQ s) (t : Int) :
    Calls Try.prog 15 #[.pointer (some ⟨gx, 0, none⟩), .int .i64 t] w fun e w' => e = .returned (.tuple #[.int .i64 (wakeF s t).2.1, .int .i64 (wakeF s t).2.2]) ∧ DidX w w' gx hx s.H xs (wakeF s t).1 :=
  xWake_of X o t (fun h => xPut_is X o h t)
theorem xNext_is (X : IsX w gx hx s xs) (o : OkQ s) (h : Int) :
    Calls Try.prog 16 #[.pointer (some ⟨gx, 0, none⟩), .int .i64 h] w fun e w' => e = .returned (.tuple #[.int .i64 (nextF s h).2.1, .bool (nextF s h).2.2]) ∧ DidX w w' gx hx s.H xs (nextF s h).1 := by
  by_cases h1 : hasQ s h = false ∨ s.r h.toNat ≠ 0
  · have := xNext_no X o h h1
    unfold nextF
    rw [if_pos h1]
    exact this
  · have hb : hasQ s h = true := by
      cases e : hasQ s h with
      | true => rfl
      | false => exact absurd (.inl e) h1
    obtain ⟨k, rfl, hk⟩ := hasQ_nat hb
    have hr : s.r k = 0 := Classical.byContradiction fun e => h1 (.inr e)
    by_cases h2 : s.n k = []
    · exact xNext_far X o k hk hr h2
    · have := xNext_own X o k hk hr h2
      unfold nextF
      rw [if_neg h1, show ((k : Int)).toNat = k from rfl, if_pos h2]
      exact this
end
end Go.Proofs.Ytdinndpeoankdaa
