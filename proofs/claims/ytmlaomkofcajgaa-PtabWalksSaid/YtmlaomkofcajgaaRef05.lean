/-
  The document's own Walk (parapetref05).
-/
import Derived.Test.YtmlaomkofcajgaaPtabEntries
import Derived.Test.YtmlaomkofcajgaaPhysBoth
import Derived.Test.YtmlaomkofcajgaaRead
namespace Go.Proofs.Ytmlaomkofcajgaa
open Go.ChangeShapes Go.WideShapes Go.ChangeAt Go.RowKit Go.Deep
set_option linter.unusedVariables false

theorem rpage_is (w : World) (p : Int) : Calls Try.prog 56 #[.int .i64 p] w fun e w' => e = .returned (.bool (decide (0 ≤ p ∧ p < 256))) ∧ w = w' := by
  by_cases h : 0 ≤ p
  · go_enter Try.func56, Try.ntmps56
    go_wp2
    go_ret
    exact ⟨by simp [h], rfl⟩
  · have HE := hide (show false = decide (0 ≤ p ∧ p < 256) by symm; simp; omega)
    rw [← HE.out]
    go_enter Try.func56, Try.ntmps56
    go_wp2
    go_ret
    exact ⟨rfl, rfl⟩

section
variable {w : World} {g d cap : Nat} {xs : List Int} {r : List Value} (hm : IsRef w g d cap xs r)
include hm

set_option maxHeartbeats 1000000 in
theorem rwalk_is (hu : U8 xs) (root p : Int) :
    Calls Try.prog 28 #[.pointer (some ⟨g, 0, none⟩), .int .i64 root, .int .i64 p] w fun e w' => e = .returned (.int .u32 (walkB xs root p)) ∧ Only [] w w' := by
  have hc := hm.cell0
  have hbig := hm.big
  have hmul := hm.mul
  have HI := hide (fun w1 => rpage_is w1 p)
  by_cases hr : hasB xs root = true
  · have hr2 := hr
    simp only [hasB, decide_eq_true_eq] at hr2
    obtain ⟨r0, r1⟩ := hr2
    have hrb : root ≤ 4096 := by omega
    have hd1 : decide (root < 0) = false := by simp; omega
    have hd2 : decide ((xs.length : Int) / 256 ≤ root) = false := by simp; omega
    by_cases hp : 0 ≤ p ∧ p < 256
    · have HPd := hide (show decide (0 ≤ p ∧ p < 256) = true by simpa using hp)
      rw [HPd.out] at HI
      obtain ⟨p0, p1⟩ := hp
      have ea : (256 * root + 4 * (p / 64)).toNat = (root * 256 + p / 64 * 4).toNat := by omega
      have HL := hide (show Calls Try.prog 57 #[.pointer (some ⟨g, 0, none⟩), .int .i64 (256 * root + 4 * (p / 64))] w fun e w' => e = .returned (.tuple #[.int .u32 (wordB xs root (p / 64)), .int .i64 0]) ∧ Only [] w w' by
        have h := rload32_ok hm hu (256 * root + 4 * (p / 64)) (by omega) (by omega) (by omega)
        rw [ea] at h; exact h)
      have hw : 0 ≤ wordB xs root (p / 64) ∧ wordB xs root (p / 64) ≤ 4294967295 := word_range hu _
      obtain ⟨w0, w1⟩ := hw
      clear ea
      by_cases h1 : wordB xs root (p / 64) % 256 = 1
      · have h1' : (wordB xs root (p / 64) % 256 != 1) = false := by simp [h1]
        by_cases hl : hasB xs (wordB xs root (p / 64) / 256) = true
        · have HE := hide (show walkB xs root p = wordB xs (wordB xs root (p / 64) / 256) (p % 64) by
            unfold walkB leafB; rw [hr, HPd.out, hl, decide_eq_true h1]; rfl)
          simp only [hasB, decide_eq_true_eq] at hl
          have hd3 : decide ((xs.length : Int) / 256 ≤ wordB xs root (p / 64) / 256) = false := by simp; omega
          have HL2 := hide fun w1 (ho : Only [] w w1) => (show Calls Try.prog 57 #[.pointer (some ⟨g, 0, none⟩), .int .i64 (256 * (wordB xs root (p / 64) / 256) + 4 * (p % 64))] w1 fun e w' => e = .returned (.tuple #[.int .u32 (wordB xs (wordB xs root (p / 64) / 256) (p % 64)), .int .i64 0]) ∧ Only [] w1 w' by
            have h := rload32_ok (hm.only ho (by simp) (by simp)) hu (256 * (wordB xs root (p / 64) / 256) + 4 * (p % 64)) (by omega) (by omega) (by omega)
            rw [show (256 * (wordB xs root (p / 64) / 256) + 4 * (p % 64)).toNat = (wordB xs root (p / 64) / 256 * 256 + p % 64 * 4).toNat by omega] at h; exact h)
          have HCC := hide fun w1 (ho : Only [] w w1) => (hm.only ho (by simp) (by simp)).cell0
          have hl2 := hl.2
          clear hm hu hr r1 hmul h1 hl
          generalize wordB xs root (p / 64) = q at *
          go_enter Try.func28, Try.ntmps28
          go_wp2_with (first | (go_at_call 56; refine (HI.out _).mono ?_; rintro e w' ⟨rfl, rfl⟩) | (go_at_call 57; have hg := ho; refine (HL2.out _ hg).mono ?_; rintro e w2 ⟨rfl, ho2⟩) | (go_at_call 57; (refine HL.out.mono ?_); rintro e w1 ⟨rfl, ho⟩; have hc1 := HCC.out _ ho))
          go_ret
          exact ⟨by rw [HE.out]; rfl, ho.trans ho2⟩
        · have HE := hide (show walkB xs root p = 0 by
            unfold walkB leafB; rw [hr, HPd.out, (by simpa using hl : hasB xs (wordB xs root (p / 64) / 256) = false)]; simp)
          simp only [hasB, decide_eq_true_eq] at hl
          have hd3 : decide ((xs.length : Int) / 256 ≤ wordB xs root (p / 64) / 256) = true := by simp; omega
          have HCC := hide fun w1 (ho : Only [] w w1) => (hm.only ho (by simp) (by simp)).cell0
          clear hm hu hr r1 hmul h1 hl
          generalize wordB xs root (p / 64) = q at *
          go_enter Try.func28, Try.ntmps28
          go_wp2_with (first | (go_at_call 56; refine (HI.out _).mono ?_; rintro e w' ⟨rfl, rfl⟩) | (go_at_call 57; (refine HL.out.mono ?_); rintro e w1 ⟨rfl, ho⟩; have hc1 := HCC.out _ ho))
          go_ret
          exact ⟨by rw [HE.out]; rfl, ho⟩
      · have h1' : (wordB xs root (p / 64) % 256 != 1) = true := by simp only [bne_iff_ne]; omega
        have HE := hide (show walkB xs root p = 0 by
          unfold walkB leafB; rw [hr, HPd.out, decide_eq_false h1]; simp)
        have HCC := hide fun w1 (ho : Only [] w w1) => (hm.only ho (by simp) (by simp)).cell0
        clear hm hu hr r1 hmul h1
        generalize wordB xs root (p / 64) = q at *
        go_enter Try.func28, Try.ntmps28
        go_wp2_with (first | (go_at_call 56; refine (HI.out _).mono ?_; rintro e w' ⟨rfl, rfl⟩) | (go_at_call 57; (refine HL.out.mono ?_); rintro e w1 ⟨rfl, ho⟩; have hc1 := HCC.out _ ho))
        go_ret
        exact ⟨by rw [HE.out]; rfl, ho⟩
    · have HPd := hide (show decide (0 ≤ p ∧ p < 256) = false by simpa using hp)
      rw [HPd.out] at HI
      have HE := hide (show walkB xs root p = 0 by unfold walkB; rw [hr, HPd.out]; rfl)
      clear hm hu hr r1 hmul hp
      go_enter Try.func28, Try.ntmps28
      go_wp2_with (first | (go_at_call 56; refine (HI.out _).mono ?_; rintro e w' ⟨rfl, rfl⟩))
      go_ret
      exact ⟨by rw [HE.out]; rfl, Only.refl _ _⟩
  · have hr' : hasB xs root = false := by simpa using hr
    have HE := hide (show walkB xs root p = 0 by unfold walkB; rw [hr']; rfl)
    simp only [hasB, decide_eq_true_eq] at hr
    by_cases hn : root < 0
    · clear hm hu hr hmul hr'
      go_enter Try.func28, Try.ntmps28
      go_wp2
      go_ret
      exact ⟨by rw [HE.out]; rfl, Only.refl _ _⟩
    · have hd1 : decide (root < 0) = false := by simp; omega
      have hd2 : decide ((xs.length : Int) / 256 ≤ root) = true := by simp; omega
      clear hm hu hr hmul hr' hn
      go_enter Try.func28, Try.ntmps28
      go_wp2
      go_ret
      exact ⟨by rw [HE.out]; rfl, Only.refl _ _⟩
end
end Go.Proofs.Ytmlaomkofcajgaa
