/-
  The first look of layer 1's statements ('lives') comes out true; and the plain arithmetic of words in a list of bytes.
-/
import Derived.Test.YtfkbgnoppigdnaaPhysMade
namespace Go.Proofs.Ytfkbgnoppigdnaa
open Go.ChangeShapes Go.WideShapes Go.ChangeAt Go.RowKit
set_option linter.unusedVariables false

theorem gb_set (xs : List Int) (i j : Nat) (x : Int) (hi : i < xs.length) : gb (xs.set i x) j = if i = j then x else gb xs j := by
  unfold gb
  simp only [List.getD, List.getElem?_set]
  by_cases h : i = j
  · subst h; simp [hi]
  · simp [h]
theorem gb_putw (xs : List Int) (i j : Nat) (x : Int) (hi : i + 4 ≤ xs.length) :
    gb (putw xs i x) j = if j = i then x % 256 else if j = i + 1 then x / 256 % 256 else if j = i + 2 then x / 65536 % 256 else if j = i + 3 then x / 16777216 else gb xs j := by
  unfold putw
  rw [gb_set _ _ _ _ (by simp; omega), gb_set _ _ _ _ (by simp; omega), gb_set _ _ _ _ (by simp; omega), gb_set _ _ _ _ (by omega)]
  by_cases h0 : j = i
  · rw [if_neg (by omega), if_neg (by omega), if_neg (by omega), if_pos (by omega), if_pos h0]
  · by_cases h1 : j = i + 1
    · rw [if_neg (by omega), if_neg (by omega), if_pos (by omega), if_neg h0, if_pos h1]
    · by_cases h2 : j = i + 2
      · rw [if_neg (by omega), if_pos (by omega), if_neg h0, if_neg h1, if_pos h2]
      · by_cases h3 : j = i + 3
        · rw [if_pos (by omega), if_neg h0, if_neg h1, if_neg h2, if_pos h3]
        · rw [if_neg (by omega), if_neg (by omega), if_neg (by omega), if_neg (by omega), if_neg h0, if_neg h1, if_neg h2, if_neg h3]
theorem word_putw (xs : List Int) (i : Nat) (x : Int) (hi : i + 4 ≤ xs.length) (h0 : 0 ≤ x) (h1 : x ≤ 4294967295) : word (putw xs i x) i = x := by
  unfold word
  rw [gb_putw _ _ _ _ hi, gb_putw _ _ _ _ hi, gb_putw _ _ _ _ hi, gb_putw _ _ _ _ hi]
  rw [if_pos rfl, if_neg (by omega), if_pos rfl, if_neg (by omega), if_neg (by omega), if_pos rfl, if_neg (by omega), if_neg (by omega), if_neg (by omega), if_pos rfl]
  omega

theorem new_two (w : World) : Calls Try.prog 14 #[.int .i64 2] w fun e w' => ∃ g d xs, e = .returned (.tuple #[.pointer (some ⟨g, 0, none⟩), .int .i64 0]) ∧ w.heap.size ≤ g ∧ w.heap.size ≤ d ∧ IsMem w' g d 512 xs [] ∧ Only [] w w' ∧ xs.length = 512 ∧ U8 xs :=
  (new_ok 2 w (by decide) (by decide)).mono fun e w' ⟨g, d, he, hg, hd, hm, ho⟩ => ⟨g, d, _, he, hg, hd, hm, ho, by rw [List.length_replicate]; rfl, U8.replicate _⟩

set_option maxHeartbeats 1000000 in
theorem lives_ok (w : World) : Calls Try.prog 13 #[] w fun e w' => e = .returned (.bool true) ∧ Only [] w w' := by
  go_enter Try.func13, Try.ntmps13
  go_wp2_with fail
  refine (new_two _).mono ?_
  rintro e w1 ⟨g, d, xs, rfl, hg, hd, hm, ho, hl, hu⟩
  have HL := hide hl
  have HF := hide (frames_is hm)
  clear hl
  go_wp2_with fail
  refine (store32_ok hm 4 258 (by decide) (by rw [HL.out]; decide) (by decide) (by decide) (by decide)).mono ?_
  rintro e w2 ⟨rfl, ho2, hm2⟩
  have hl2 := hide ((length_putw xs (Int.toNat 4) 258).trans HL.out)
  have hu2 := hide (hu.putw (Int.toNat 4) (x := 258) (by decide) (by decide))
  have g4 : gb (putw xs (Int.toNat 4) 258) 4 = 2 := by rw [gb_putw _ _ _ _ (by rw [HL.out]; decide)]; rfl
  have g5 : gb (putw xs (Int.toNat 4) 258) 5 = 1 := by rw [gb_putw _ _ _ _ (by rw [HL.out]; decide)]; rfl
  have k1 := hide (word_putw xs (Int.toNat 4) 258 (by rw [HL.out]; decide) (by decide) (by decide))
  have hO := ho.trans' ho2 (by intro k hk hk'; simp at hk'; omega)
  have HO := hide hO
  clear hm hu ho ho2 HF hO
  revert hm2 hl2 hu2 g4 g5 k1
  generalize putw xs (Int.toNat 4) 258 = ys
  intro hm2 hl2 hu2 g4 g5 k1
  have G4 := hide g4
  have G5 := hide g5
  clear g4 g5
  go_wp2_with fail
  refine (load8_ok hm2 4 (by decide) (by rw [hl2.out]; decide)).mono ?_
  rintro e w3 ⟨rfl, ho3⟩
  have hm3 := hm2.only ho3 (by simp) (by simp)
  rw [show gb ys (Int.toNat 4) = 2 from G4.out]
  have HO3 := hide (HO.out.trans ho3)
  clear hm2 ho3 HO
  go_wp2_with fail
  refine (load8_ok hm3 5 (by decide) (by rw [hl2.out]; decide)).mono ?_
  rintro e w4 ⟨rfl, ho4⟩
  have hm4 := hm3.only ho4 (by simp) (by simp)
  rw [show gb ys (Int.toNat 5) = 1 from G5.out]
  have HO4 := hide (HO3.out.trans ho4)
  clear hm3 ho4 HO3
  go_wp2_with fail
  refine (cas_yes hm4 hu2.out 4 258 7 (by decide) (by rw [hl2.out]; decide) (by decide) (by decide) (by decide) k1.out).mono ?_
  rintro e w5 ⟨rfl, ho5, hm5⟩
  have HO5 := hide (HO4.out.trans' ho5 (by intro k hk hk'; simp at hk'; omega))
  have hl5 := hide ((length_putw ys (Int.toNat 4) 7).trans hl2.out)
  have hu5 := hide (hu2.out.putw (Int.toNat 4) (x := 7) (by decide) (by decide))
  have k5 := hide (word_putw ys (Int.toNat 4) 7 (by rw [hl2.out]; decide) (by decide) (by decide))
  clear hm4 ho5 HO4
  go_wp2_with fail
  refine (cas_no hm5 hu5.out 4 258 8 (by decide) (by rw [hl5.out]; decide) (by decide) (by rw [k5.out]; decide)).mono ?_
  rintro e w6 ⟨rfl, ho6⟩
  rw [k5.out]
  have hm6 := hm5.only ho6 (by simp) (by simp)
  have HF := hide (frames_is hm6)
  rw [hl5.out] at HF
  have HO6 := hide (HO5.out.trans ho6)
  clear hm5 hm6 ho6 HO5
  go_wp2_with fail
  refine HF.out.mono ?_
  rintro e w' ⟨rfl, rfl⟩
  go_wp2
  go_ret
  exact ⟨rfl, HO6.out⟩
end Go.Proofs.Ytfkbgnoppigdnaa
