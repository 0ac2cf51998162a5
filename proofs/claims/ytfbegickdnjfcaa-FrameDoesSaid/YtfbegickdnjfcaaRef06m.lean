/-
  'FrameDoes': what looks meets among the frames in use, as plain facts.
-/
import Derived.Test.YtfbegickdnjfcaaRef06h
namespace Go.Proofs.Ytfbegickdnjfcaa
open Go.ChangeShapes Go.WideShapes Go.ChangeAt Go.RowKit
set_option linter.unusedVariables false

/-- The last of those that came. -/
def lastOf (first : Nat) {ns : Nat → List Int} (pre : List (UseI ns)) : Int :=
  match pre.getLast? with
  | none => -1
  | some x => (first : Int) + x.1
theorem lastOf_snoc (first : Nat) {ns : Nat → List Int} (pre : List (UseI ns)) (x : UseI ns) : lastOf first (pre ++ [x]) = (first : Int) + x.1 := by simp [lastOf]
theorem lastOf_small {first : Nat} {ns : Nat → List Int} (h : first + (ns 2).length ≤ 4096) (pre : List (UseI ns)) : -1 ≤ lastOf first pre ∧ lastOf first pre ≤ 4096 := by
  unfold lastOf
  split
  · omega
  · rename_i x hx
    have := x.2.1
    omega
theorem usedTo_lt {ns : Nat → List Int} : ∀ (k : Nat) (y : UseI ns), y ∈ usedTo ns k → y.1 < k
  | 0, y, h => by simp [usedTo] at h
  | k + 1, y, h => by
    unfold usedTo at h
    split at h
    · rcases List.mem_append.1 h with h | h
      · have := usedTo_lt k y h; omega
      · rw [List.mem_singleton.1 h]; exact Nat.lt_succ_self k
    · have := usedTo_lt k y h; omega
theorem lastOf_lt (first : Nat) {ns : Nat → List Int} : ∀ (k : Nat) (pre : List (UseI ns)) (x : UseI ns), pre ++ [x] = usedTo ns k → lastOf first pre < (first : Int) + x.1
  | 0, pre, x, h => by simp [usedTo] at h
  | k + 1, pre, x, h => by
    unfold usedTo at h
    split at h
    · rename_i hk
      obtain ⟨h1, h2⟩ := List.append_inj' h rfl
      injection h2 with h2 _
      rw [h1, h2]
      unfold lastOf
      split
      · show (-1 : Int) < (first : Int) + (k : Nat); omega
      · rename_i y hy
        have := usedTo_lt k y (List.mem_of_getLast? hy)
        show (first : Int) + (y.1 : Nat) < (first : Int) + (k : Nat)
        omega
    · exact lastOf_lt first k pre x h
theorem usedTo_usedL (ns : Nat → List Int) : ∀ k, k ≤ (ns 2).length → (usedTo ns k).length = usedL ((ns 2).take k)
  | 0, _ => by simp [usedTo, usedL]
  | k + 1, h => by
    have ih := usedTo_usedL ns k (by omega)
    rw [usedL_succ (by omega)]
    by_cases hv : 0 < gb (ns 2) k
    · rw [usedTo_yes ⟨by omega, hv⟩, List.length_append, ih, if_pos hv]; rfl
    · rw [usedTo_no hv, ih, if_neg hv]; rfl
theorem usedTo_all (ns : Nat → List Int) : (usedTo ns (ns 2).length).length = usedL (ns 2) := by rw [usedTo_usedL _ _ (Nat.le_refl _), List.take_length]
theorem sumL_cat (ns : Nat → List Int) : ∀ k, sumL ns k = (ns 12).length + (catL ns k).length
  | 0 => by simp [sumL, catL]
  | k + 1 => by rw [sumL, catL, List.length_append, sumL_cat ns k]; omega
theorem sumL_all (ns : Nat → List Int) : sumL ns 8 = (freeL ns).length := by
  rw [sumL_cat, freeL, List.length_append]; omega
end Go.Proofs.Ytfbegickdnjfcaa
