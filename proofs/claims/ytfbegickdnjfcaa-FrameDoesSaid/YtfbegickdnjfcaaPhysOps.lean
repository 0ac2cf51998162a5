/-
  What the exported calls of a memory (parapet/phys) come to: bytes, words, compare-and-set.
-/
import Derived.Test.YtfbegickdnjfcaaPhysMem
namespace Go.Proofs.Ytfbegickdnjfcaa
open Go.ChangeShapes Go.WideShapes Go.ChangeAt Go.RowKit
set_option linter.unusedVariables false
section
variable {w : World} {g d cap : Nat} {xs : List Int} {r : List Value} (hm : IsMem w g d cap xs r)
include hm

theorem closed_is : Calls Try.prog 42 #[.pointer (some ⟨g, 0, none⟩)] w fun e w' => e = .returned (.bool false) ∧ w = w' :=
  closed_mem _ _ _ _ _ hm.cell0 hm.pos hm.big

theorem frames_is : Calls Try.prog 17 #[.pointer (some ⟨g, 0, none⟩)] w fun e w' => e = .returned (.int .i64 ((xs.length : Int) / 256)) ∧ w = w' := by
  have hc := hm.cell0
  have h2 := hm.big
  have HC := hide (closed_is hm)
  go_enter Try.func17, Try.ntmps17
  go_wp2_with (go_at_call 42; refine HC.out.mono ?_; rintro e w' ⟨rfl, rfl⟩)
  go_ret
  exact ⟨rfl, rfl⟩

theorem word_ok (a : Int) (ha : 0 ≤ a) (han : a + 4 ≤ xs.length) (h4 : a % 4 = 0) :
    Calls Try.prog 19 #[.pointer (some ⟨g, 0, none⟩), .int .i64 a] w fun e w' => e = .returned (.tuple #[.slice (some ⟨d, a.toNat, none⟩) 4 4, .int .i64 0]) ∧ w = w' := by
  have HS := hide (span_ok hm a 4 ha (by decide) han)
  have h2 := hm.big
  have H4 : (a % 4 != 0) = false := by simp [h4]
  clear h4
  go_enter Try.func19, Try.ntmps19
  go_wp2_with (go_at_call 44; refine HS.out.mono ?_; rintro e w' ⟨rfl, rfl⟩)
  go_ret2
  exact ⟨rfl, rfl⟩

theorem word_bad (a : Int) (hb : a < 0 ∨ xs.length < a + 4 ∨ a % 4 ≠ 0) :
    Calls Try.prog 19 #[.pointer (some ⟨g, 0, none⟩), .int .i64 a] w fun e w' => e = .returned (.tuple #[.slice none 0 0, .int .i64 10]) ∧ w = w' := by
  by_cases hs : a < 0 ∨ xs.length < a + 4
  · have HS := hide (span_bad hm a 4 (by omega))
    clear hb hs hm
    go_enter Try.func19, Try.ntmps19
    go_wp2_with (go_at_call 44; refine HS.out.mono ?_; rintro e w' ⟨rfl, rfl⟩)
    go_ret2
    exact ⟨rfl, rfl⟩
  · have HS := hide (span_ok hm a 4 (by omega) (by decide) (by omega))
    have h2 := hm.big
    have h0 : 0 ≤ a := by omega
    have hle : a + 4 ≤ xs.length := by omega
    have H4 : (a % 4 != 0) = true := by simp only [bne_iff_ne]; omega
    clear hb hs hm
    go_enter Try.func19, Try.ntmps19
    go_wp2_with (go_at_call 44; refine HS.out.mono ?_; rintro e w' ⟨rfl, rfl⟩)
    go_ret2
    exact ⟨rfl, rfl⟩















theorem split_ok (i : Nat) (hi : i + 4 ≤ xs.length) (x : Int) (h0 : 0 ≤ x) (h1 : x ≤ 4294967295) :
    Calls Try.prog 20 #[.slice (some ⟨d, i, none⟩) 4 4, .int .u32 x] w fun e w' => e = .returned (.tuple #[]) ∧ Only [d] w w' ∧ IsMem w' g d cap (putw xs i x) r := by
  have hb0 := hm.byte (i := i) (by omega)
  have hb1 := hm.byte (i := i + 1) (by omega)
  have hb2 := hm.byte (i := i + 2) (by omega)
  have hb3 := hm.byte (i := i + 3) (by omega)
  have hf0 := hm.free i
  have hf1 := hm.free (i + 1)
  have hf2 := hm.free (i + 2)
  have hf3 := hm.free (i + 3)
  have HM := hide ((((hm.set (i := i) (by omega) (x % 256)).set (i := i + 1) (by simp; omega) (x / 256 % 256)).set (i := i + 2) (by simp; omega) (x / 65536 % 256)).set (i := i + 3) (by simp; omega) (x / 16777216))
  clear hm
  go_enter Try.func20, Try.ntmps20
  go_wp2
  go_end0
  exact ⟨rfl, ((((Only.refl _ _).setCell _ (by simp)).setCell _ (by simp)).setCell _ (by simp)).setCell _ (by simp), HM.out⟩
end
end Go.Proofs.Ytfbegickdnjfcaa
