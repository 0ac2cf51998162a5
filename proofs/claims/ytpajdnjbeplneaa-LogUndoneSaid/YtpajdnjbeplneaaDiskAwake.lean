/-
  The law's own 'awake': the chapter's example holds.
-/
import Derived.Test.YtpajdnjbeplneaaDiskNil
import Derived.Test.YtpajdnjbeplneaaDiskHelp
import Derived.Test.YtpajdnjbeplneaaDiskFork
namespace Go.Proofs.Ytpajdnjbeplneaa
open Go.ChangeShapes Go.WideShapes Go.ChangeAt Go.RowKit
set_option linter.unusedVariables false

def Fill5 (w w' : World) (e : Ending) (xs : List Int) : Prop :=
  ∃ d, e = .returned (.slice (some ⟨d, 0, none⟩) 512 512) ∧ w.heap.size ≤ d ∧ Blk w' d 5 (u8l xs).toArray ∧ Only [] w w'



theorem blk_gb {w : World} {d : Nat} {xs : List Int} (h : Blk w d 5 (u8l xs).toArray) (i : Nat) (hi : i < xs.length) : w.cell? ⟨d, 0 + i, none⟩ = some (.int .u8 (gb xs i)) := by
  rw [Nat.zero_add, h.cell]
  simp [u8l, gb, List.getD, List.getElem?_eq_getElem hi]

theorem gb_splice_ (L cs : List Int) (o j : Nat) (h : o + cs.length ≤ L.length) : gb (Go.splice L o cs) j = if o ≤ j ∧ j < o + cs.length then gb cs (j - o) else gb L j := by
  unfold gb List.getD Go.splice
  congr 1
  have ht : (L.take o).length = o := by simp; omega
  by_cases h1 : j < o
  · rw [if_neg (by omega), List.getElem?_append_left (by omega), List.getElem?_take, if_pos h1]
  · rw [List.getElem?_append_right (by omega), ht]
    by_cases h2 : j < o + cs.length
    · rw [if_pos ⟨by omega, h2⟩, List.getElem?_append_left (by omega)]
    · rw [if_neg (by omega), List.getElem?_append_right (by omega), List.getElem?_drop]
      exact congrArg (fun k => L[k]?.getD 0) (show o + cs.length + (j - o - cs.length) = j by omega)

end Go.Proofs.Ytpajdnjbeplneaa