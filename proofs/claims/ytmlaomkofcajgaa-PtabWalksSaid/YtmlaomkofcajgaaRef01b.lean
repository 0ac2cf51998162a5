/-
  What the calls of the document's own memory (parapetref01) come to: ranges of bytes, frames, New.
-/
import Derived.Test.YtmlaomkofcajgaaRef01
import Derived.BigRegion
import Derived.ChangeAlike
namespace Go.Proofs.Ytmlaomkofcajgaa
open Go.ChangeShapes Go.WideShapes Go.ChangeAt Go.RowKit
set_option linter.unusedVariables false

theorem splice_set (xs ys : List Int) (a k : Nat) (hk : k < ys.length) (ha : a + ys.length ≤ xs.length) :
    (Go.splice xs a (ys.take k)).set (a + k) (gb ys k) = Go.splice xs a (ys.take (k + 1)) := by
  unfold Go.splice
  have h1 : (xs.take a).length = a := by simp; omega
  have h2 : (ys.take k).length = k := by simp; omega
  have h3 : (ys.take (k + 1)).length = k + 1 := by simp; omega
  have e1 : xs.drop (a + k) = gb xs (a + k) :: xs.drop (a + (k + 1)) := by
    rw [List.drop_eq_getElem_cons (show a + k < xs.length by omega)]
    simp [gb, List.getD, List.getElem?_eq_getElem (show a + k < xs.length by omega), Nat.add_assoc]
  have e2 : ys.take (k + 1) = ys.take k ++ [gb ys k] := by
    rw [List.take_succ_eq_append_getElem hk]
    simp [gb, List.getD, List.getElem?_eq_getElem hk]
  rw [h2, h3, e1, e2]
  rw [List.set_append_right _ _ (by omega), List.set_append_right _ _ (by omega), h1, h2]
  have e4 : a + k - a - k = 0 := by omega
  rw [e4]
  simp

section
variable {w : World} {g d cap : Nat} {xs : List Int} {r : List Value} (hm : IsRef w g d cap xs r)
include hm





end
end Go.Proofs.Ytmlaomkofcajgaa