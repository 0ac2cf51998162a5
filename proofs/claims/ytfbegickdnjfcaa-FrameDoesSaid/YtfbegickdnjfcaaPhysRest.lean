/-
  What the exported calls of a memory (parapet/phys) come to, the rest: words stored, compare-and-set, ranges of bytes, frames, Fork, New.
-/
import Derived.Test.YtfbegickdnjfcaaPhysOps
import Derived.Test.YtfbegickdnjfcaaClone
import Derived.Laws.MakeOwn
namespace Go.Proofs.Ytfbegickdnjfcaa
open Go.ChangeShapes Go.WideShapes Go.ChangeAt Go.RowKit
set_option linter.unusedVariables false
section
variable {w : World} {g d cap : Nat} {xs : List Int} {r : List Value} (hm : IsMem w g d cap xs r)
include hm

theorem store32_ok (a x : Int) (ha : 0 ≤ a) (han : a + 4 ≤ xs.length) (h4 : a % 4 = 0) (h0 : 0 ≤ x) (h1 : x ≤ 4294967295) :
    Calls Try.prog 7 #[.pointer (some ⟨g, 0, none⟩), .int .i64 a, .int .u32 x] w fun e w' => e = .returned (.int .i64 0) ∧ Only [d] w w' ∧ IsMem w' g d cap (putw xs a.toNat x) r := by
  have HW := hide (word_ok hm a ha han h4)
  have HS := hide (split_ok hm a.toNat (by omega) x h0 h1)
  clear hm ha han h4
  go_enter Try.func7, Try.ntmps7
  go_wp2_with (first | (go_at_call 19; refine HW.out.mono ?_; rintro e w' ⟨rfl, rfl⟩) | (go_at_call 20; refine HS.out.mono ?_; rintro e w1 ⟨rfl, ho, hm1⟩))
  go_ret
  exact ⟨rfl, ho, hm1⟩

theorem store32_bad (a x : Int) (hb : a < 0 ∨ xs.length < a + 4 ∨ a % 4 ≠ 0) :
    Calls Try.prog 7 #[.pointer (some ⟨g, 0, none⟩), .int .i64 a, .int .u32 x] w fun e w' => e = .returned (.int .i64 10) ∧ w = w' := by
  have HW := hide (word_bad hm a hb)
  clear hm hb
  go_enter Try.func7, Try.ntmps7
  go_wp2_with (go_at_call 19; refine HW.out.mono ?_; rintro e w' ⟨rfl, rfl⟩)
  go_ret
  exact ⟨rfl, rfl⟩









end
end Go.Proofs.Ytfbegickdnjfcaa