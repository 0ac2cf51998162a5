/-
  The walk of 'RunqAll'.
-/
import Derived.Test.YtdinndpeoankdaaRqAll
import Derived.Laws.MakeOwn
namespace Go.Proofs.Ytdinndpeoankdaa
open Go.ChangeShapes Go.WideShapes Go.ChangeAt Go.RowKit Go.Deep
set_option linter.unusedVariables false

/-- A row of cells. -/
def rowG (f : Nat → Value) (N : Nat) : Array Value := ((List.range N).map f).toArray
theorem rowG_get (f : Nat → Value) {N i : Nat} (h : i < N) : (rowG f N)[i]? = some (f i) := by
  simp [rowG, List.getElem?_map, List.getElem?_range h]
theorem rowG_set (f : Nat → Value) (N i : Nat) (x : Value) : (rowG f N).setIfInBounds i x = rowG (upd f i x) N := by
  unfold rowG
  rw [List.setIfInBounds_toArray]
  congr 1
  apply List.ext_getElem
  · simp
  · intro j h1 h2
    rw [List.getElem_set]
    by_cases h : i = j
    · subst h; simp [upd]
    · rw [if_neg h]; simp [upd, Ne.symm h]
theorem made_row (v : Value) (N : Nat) : madeCells #[v] N = rowG (fun _ => v) N := by
  unfold rowG
  apply Array.ext'
  rw [toList_madeCells_one]
  apply List.ext_getElem
  · simp
  · intro i h1 h2
    simp
def boolG (f : Nat → Bool) : Nat → Value := fun i => .bool (f i)
theorem boolG_upd (f : Nat → Bool) (i : Nat) (b : Bool) : upd (boolG f) i (.bool b) = boolG (upd f i b) := by
  funext k
  unfold boolG
  by_cases h : k = i
  · subst h; rw [upd_same, upd_same]
  · rw [upd_far _ _ h, upd_far _ _ h]
theorem info_bool : (Try.prog.info? 4).map (fun i => (i.zero, i.size, i.bytes)) = some (some (.bool false), 1, 1) := by kernel_rfl
theorem wrap64_in (n : Int) (h : -9223372036854775808 ≤ n ∧ n ≤ 9223372036854775807) : wrap64 n = n := by unfold wrap64; omega

section
variable {w wr : World} {g H k n b ρ h : Nat}
end
end Go.Proofs.Ytdinndpeoankdaa