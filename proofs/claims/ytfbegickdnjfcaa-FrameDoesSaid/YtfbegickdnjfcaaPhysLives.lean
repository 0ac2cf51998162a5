/-
  The first look of layer 1's statements ('lives') comes out true; and the plain arithmetic of words in a list of bytes.
-/
import Derived.Test.YtfbegickdnjfcaaPhysMade
namespace Go.Proofs.Ytfbegickdnjfcaa
open Go.ChangeShapes Go.WideShapes Go.ChangeAt Go.RowKit
set_option linter.unusedVariables false

theorem gb_set (xs : List Int) (i j : Nat) (x : Int) (hi : i < xs.length) : gb (xs.set i x) j = if i = j then x else gb xs j := by
  unfold gb
  simp only [List.getD, List.getElem?_set]
  by_cases h : i = j
  · subst h; simp [hi]
  · simp [h]
theorem gb_putw (xs : List Int) (i j : Nat) (x : Int) (hi : i + 4 ≤ xs.length) :
    gb (putw xs i x) j = if j = i then x % 256 else if j = i + 1 then x / 256 % 256 else if j = i + 2 then x / 65536 % 256 else if j = i + 3 then x / 16777216 else gb xs j := by
  unfold putw
  rw [gb_set _ _ _ _ (by simp; omega), gb_set _ _ _ _ (by simp; omega), gb_set _ _ _ _ (by simp; omega), gb_set _ _ _ _ (by omega)]
  by_cases h0 : j = i
  · rw [if_neg (by omega), if_neg (by omega), if_neg (by omega), if_pos (by omega), if_pos h0]
  · by_cases h1 : j = i + 1
    · rw [if_neg (by omega), if_neg (by omega), if_pos (by omega), if_neg h0, if_pos h1]
    · by_cases h2 : j = i + 2
      · rw [if_neg (by omega), if_pos (by omega), if_neg h0, if_neg h1, if_pos h2]
      · by_cases h3 : j = i + 3
        · rw [if_pos (by omega), if_neg h0, if_neg h1, if_neg h2, if_pos h3]
        · rw [if_neg (by omega), if_neg (by omega), if_neg (by omega), if_neg (by omega), if_neg h0, if_neg h1, if_neg h2, if_neg h3]
theorem word_putw (xs : List Int) (i : Nat) (x : Int) (hi : i + 4 ≤ xs.length) (h0 : 0 ≤ x) (h1 : x ≤ 4294967295) : word (putw xs i x) i = x := by
  unfold word
  rw [gb_putw _ _ _ _ hi, gb_putw _ _ _ _ hi, gb_putw _ _ _ _ hi, gb_putw _ _ _ _ hi]
  rw [if_pos rfl, if_neg (by omega), if_pos rfl, if_neg (by omega), if_neg (by omega), if_pos rfl, if_neg (by omega), if_neg (by omega), if_neg (by omega), if_pos rfl]
  omega

theorem new_two (w : World) : Calls Try.prog 5 #[.int .i64 2] w fun e w' => ∃ g d xs, e = .returned (.tuple #[.pointer (some ⟨g, 0, none⟩), .int .i64 0]) ∧ w.heap.size ≤ g ∧ w.heap.size ≤ d ∧ IsMem w' g d 512 xs [] ∧ Only [] w w' ∧ xs.length = 512 ∧ U8 xs :=
  (new_ok 2 w (by decide) (by decide)).mono fun e w' ⟨g, d, he, hg, hd, hm, ho⟩ => ⟨g, d, _, he, hg, hd, hm, ho, by rw [List.length_replicate]; rfl, U8.replicate _⟩

end Go.Proofs.Ytfbegickdnjfcaa