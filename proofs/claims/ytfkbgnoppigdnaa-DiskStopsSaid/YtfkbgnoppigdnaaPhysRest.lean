/-
  What the exported calls of a memory (parapet/phys) come to, the rest: words stored, compare-and-set, ranges of bytes, frames, Fork, New.
-/
import Derived.Test.YtfkbgnoppigdnaaPhysOps
import Derived.Test.YtfkbgnoppigdnaaClone
import Derived.Laws.MakeOwn
namespace Go.Proofs.Ytfkbgnoppigdnaa
open Go.ChangeShapes Go.WideShapes Go.ChangeAt Go.RowKit
set_option linter.unusedVariables false
section
variable {w : World} {g d cap : Nat} {xs : List Int} {r : List Value} (hm : IsMem w g d cap xs r)
include hm

theorem store32_ok (a x : Int) (ha : 0 ≤ a) (han : a + 4 ≤ xs.length) (h4 : a % 4 = 0) (h0 : 0 ≤ x) (h1 : x ≤ 4294967295) :
    Calls Try.prog 17 #[.pointer (some ⟨g, 0, none⟩), .int .i64 a, .int .u32 x] w fun e w' => e = .returned (.int .i64 0) ∧ Only [d] w w' ∧ IsMem w' g d cap (putw xs a.toNat x) r := by
  have HW := hide (word_ok hm a ha han h4)
  have HS := hide (split_ok hm a.toNat (by omega) x h0 h1)
  clear hm ha han h4
  go_enter Try.func17, Try.ntmps17
  go_wp2_with (first | (go_at_call 53; refine HW.out.mono ?_; rintro e w' ⟨rfl, rfl⟩) | (go_at_call 54; refine HS.out.mono ?_; rintro e w1 ⟨rfl, ho, hm1⟩))
  go_ret
  exact ⟨rfl, ho, hm1⟩

theorem store32_bad (a x : Int) (hb : a < 0 ∨ xs.length < a + 4 ∨ a % 4 ≠ 0) :
    Calls Try.prog 17 #[.pointer (some ⟨g, 0, none⟩), .int .i64 a, .int .u32 x] w fun e w' => e = .returned (.int .i64 10) ∧ w = w' := by
  have HW := hide (word_bad hm a hb)
  clear hm hb
  go_enter Try.func17, Try.ntmps17
  go_wp2_with (go_at_call 53; refine HW.out.mono ?_; rintro e w' ⟨rfl, rfl⟩)
  go_ret
  exact ⟨rfl, rfl⟩

theorem cas_yes (hu : U8 xs) (a old to : Int) (ha : 0 ≤ a) (han : a + 4 ≤ xs.length) (h4 : a % 4 = 0) (h0 : 0 ≤ to) (h1 : to ≤ 4294967295) (hw : word xs a.toNat = old) :
    Calls Try.prog 25 #[.pointer (some ⟨g, 0, none⟩), .int .i64 a, .int .u32 old, .int .u32 to] w fun e w' => e = .returned (.tuple #[.int .u32 old, .int .i64 0]) ∧ Only [d] w w' ∧ IsMem w' g d cap (putw xs a.toNat to) r := by
  subst hw
  have HW := hide (word_ok hm a ha han h4)
  have HJ := hide (join_mem hm hu a.toNat (by omega))
  have HS := hide fun n => split_ok (hm.drewN n) a.toNat (by omega) to h0 h1
  clear hm ha han h4 hu
  go_enter Try.func25, Try.ntmps25
  go_wp2_with (first | (go_at_call 53; refine HW.out.mono ?_; rintro e w' ⟨rfl, rfl⟩) | (go_at_call 63; refine HJ.out.mono ?_; rintro e w' ⟨rfl, n, rfl⟩) | (go_at_call 54; refine (HS.out _).mono ?_; rintro e w1 ⟨rfl, ho, hm1⟩))
  go_ret2
  exact ⟨rfl, ((Only.refl _ _).drewN _).trans ho, hm1⟩

theorem cas_no (hu : U8 xs) (a old to : Int) (ha : 0 ≤ a) (han : a + 4 ≤ xs.length) (h4 : a % 4 = 0) (hw : word xs a.toNat ≠ old) :
    Calls Try.prog 25 #[.pointer (some ⟨g, 0, none⟩), .int .i64 a, .int .u32 old, .int .u32 to] w fun e w' => e = .returned (.tuple #[.int .u32 (word xs a.toNat), .int .i64 0]) ∧ Only [] w w' := by
  have HW := hide (word_ok hm a ha han h4)
  have HJ := hide (join_mem hm hu a.toNat (by omega))
  have hne : (word xs a.toNat == old) = false := beq_eq_false_iff_ne.2 hw
  clear hm ha han h4 hu hw
  go_enter Try.func25, Try.ntmps25
  go_wp2_with (first | (go_at_call 53; refine HW.out.mono ?_; rintro e w' ⟨rfl, rfl⟩) | (go_at_call 63; refine HJ.out.mono ?_; rintro e w' ⟨rfl, n, rfl⟩))
  go_ret2
  exact ⟨rfl, (Only.refl _ _).drewN _⟩

theorem cas_bad (a old to : Int) (hb : a < 0 ∨ xs.length < a + 4 ∨ a % 4 ≠ 0) :
    Calls Try.prog 25 #[.pointer (some ⟨g, 0, none⟩), .int .i64 a, .int .u32 old, .int .u32 to] w fun e w' => e = .returned (.tuple #[.int .u32 0, .int .i64 10]) ∧ w = w' := by
  have HW := hide (word_bad hm a hb)
  clear hm hb
  go_enter Try.func25, Try.ntmps25
  go_wp2_with (go_at_call 53; refine HW.out.mono ?_; rintro e w' ⟨rfl, rfl⟩)
  go_ret2
  exact ⟨rfl, rfl⟩

theorem read_ok (a n : Int) (ha : 0 ≤ a) (hn : 0 ≤ n) (han : a + n ≤ xs.length) :
    Calls Try.prog 20 #[.pointer (some ⟨g, 0, none⟩), .int .i64 a, .int .i64 n] w fun e w' => ∃ v, e = .returned (.tuple #[v, .int .i64 0]) ∧ Fresh w' w.heap.size v ((xs.drop a.toNat).take n.toNat) ∧ Only [] w w' := by
  have hb := hm.big
  by_cases h0 : n = 0
  · subst h0
    have HS := hide (span_nought hm a ha (by omega))
    have HC := hide (clone_ok ⟨d, 0, none⟩ 0 0 [] w rfl (by omega) (by intro i hi; omega))
    clear hm
    go_enter Try.func20, Try.ntmps20
    go_wp2_with (first | (go_at_call 62; refine HS.out.mono ?_; rintro e w' ⟨rfl, rfl⟩) | (go_at_call 52; refine HC.out.mono ?_; rintro e w' ⟨v, rfl, hf, ho⟩))
    go_ret2
    exact ⟨v, rfl, by simpa using hf, ho⟩
  · have HS := hide (span_ok hm a n ha (by omega) han)
    have HC := hide (clone_ok ⟨d, a.toNat, none⟩ n.toNat n.toNat ((xs.drop a.toNat).take n.toNat) w (by simp; omega) (by omega) (by
      intro i hi
      rw [add_at, gb_cut _ _ _ _ hi]
      exact hm.byte (by omega)))
    clear hm
    go_enter Try.func20, Try.ntmps20
    go_wp2_with (first | (go_at_call 62; refine HS.out.mono ?_; rintro e w' ⟨rfl, rfl⟩) | (go_at_call 52; refine HC.out.mono ?_; rintro e w' ⟨v, rfl, hf, ho⟩))
    go_ret2
    exact ⟨v, rfl, hf, ho⟩

theorem read_bad (a n : Int) (hb : a < 0 ∨ n < 0 ∨ (0 ≤ a ∧ xs.length < a + n)) :
    Calls Try.prog 20 #[.pointer (some ⟨g, 0, none⟩), .int .i64 a, .int .i64 n] w fun e w' => e = .returned (.tuple #[.slice none 0 0, .int .i64 10]) ∧ w = w' := by
  have HS := hide (span_bad hm a n hb)
  clear hm hb
  go_enter Try.func20, Try.ntmps20
  go_wp2_with (go_at_call 62; refine HS.out.mono ?_; rintro e w' ⟨rfl, rfl⟩)
  go_ret2
  exact ⟨rfl, rfl⟩
end
end Go.Proofs.Ytfkbgnoppigdnaa
