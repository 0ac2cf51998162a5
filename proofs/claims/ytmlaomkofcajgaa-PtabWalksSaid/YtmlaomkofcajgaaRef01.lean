/-
  What the calls of the document's own memory (parapetref01) come to, in terms of the bytes that it holds: bytes, words.
-/
import Derived.Test.YtmlaomkofcajgaaPhysLives
import Derived.RegionTactic
namespace Go.Proofs.Ytmlaomkofcajgaa
open Go.ChangeShapes Go.WideShapes Go.ChangeAt Go.RowKit
set_option linter.unusedVariables false

abbrev IsRef := IsBuf 97

section
variable {w : World} {g d cap : Nat} {xs : List Int} {r : List Value} (hm : IsRef w g d cap xs r)
include hm

theorem there_yes (a n : Int) (ha : 0 ≤ a) (hn : 0 ≤ n) (han : a + n ≤ xs.length) :
    Calls Try.prog 53 #[.pointer (some ⟨g, 0, none⟩), .int .i64 a, .int .i64 n] w fun e w' => e = .returned (.bool true) ∧ w = w' := by
  have hc := hm.cell0
  have h2 := hm.big
  clear hm
  go_enter Try.func53, Try.ntmps53
  go_wp2
  go_ret
  exact ⟨by simp; omega, rfl⟩

theorem there_no (a n : Int) (hb : a < 0 ∨ n < 0 ∨ (0 ≤ a ∧ xs.length < a + n)) :
    Calls Try.prog 53 #[.pointer (some ⟨g, 0, none⟩), .int .i64 a, .int .i64 n] w fun e w' => e = .returned (.bool false) ∧ w = w' := by
  have hc := hm.cell0
  have h2 := hm.big
  clear hm
  by_cases h3 : n < 0
  · clear hb
    go_enter Try.func53, Try.ntmps53
    go_wp2
    go_ret
    exact ⟨by simp, rfl⟩
  · by_cases h4 : a < 0
    · clear hb
      go_enter Try.func53, Try.ntmps53
      go_wp2
      go_ret
      exact ⟨by simp, rfl⟩
    · by_cases h5 : (xs.length : Int) < a
      · clear hb
        go_enter Try.func53, Try.ntmps53
        go_wp2
        go_ret
        exact ⟨by simp, rfl⟩
      · have h6 : (xs.length : Int) < a + n := by omega
        clear hb
        go_enter Try.func53, Try.ntmps53
        go_wp2
        go_ret
        exact ⟨by simp; omega, rfl⟩









/-- The number of the highest k bytes of the word at i. -/
def part (xs : List Int) (i : Nat) : Nat → Int
  | 0 => 0
  | k + 1 => part xs i k * 256 + gb xs (i + (3 - k))
omit hm in
theorem part_four (xs : List Int) (i : Nat) : part xs i 4 = word xs i := by
  show (((0 * 256 + gb xs (i + 3)) * 256 + gb xs (i + 2)) * 256 + gb xs (i + 1)) * 256 + gb xs (i + 0) = _
  unfold word
  simp only [Nat.add_zero]
  omega
omit hm in
theorem part_bd {xs : List Int} (hu : U8 xs) (i k : Nat) (hk : k < 4) : 0 ≤ part xs i k ∧ part xs i k ≤ 16777215 := by
  have g1 := hu.get (i + 3)
  have g2 := hu.get (i + 2)
  have g3 := hu.get (i + 1)
  have hk5 : k = 0 ∨ k = 1 ∨ k = 2 ∨ k = 3 := by omega
  rcases hk5 with rfl | rfl | rfl | rfl
  · show 0 ≤ (0 : Int) ∧ (0 : Int) ≤ _; omega
  · show 0 ≤ 0 * 256 + gb xs (i + 3) ∧ 0 * 256 + gb xs (i + 3) ≤ _; omega
  · show 0 ≤ (0 * 256 + gb xs (i + 3)) * 256 + gb xs (i + 2) ∧ (0 * 256 + gb xs (i + 3)) * 256 + gb xs (i + 2) ≤ _; omega
  · show 0 ≤ ((0 * 256 + gb xs (i + 3)) * 256 + gb xs (i + 2)) * 256 + gb xs (i + 1) ∧ ((0 * 256 + gb xs (i + 3)) * 256 + gb xs (i + 2)) * 256 + gb xs (i + 1) ≤ _; omega

theorem rload32_ok (hu : U8 xs) (a : Int) (ha : 0 ≤ a) (han : a + 4 ≤ xs.length) (h4 : a % 4 = 0) :
    Calls Try.prog 57 #[.pointer (some ⟨g, 0, none⟩), .int .i64 a] w fun e w' => e = .returned (.tuple #[.int .u32 (word xs a.toNat), .int .i64 0]) ∧ Only [] w w' := by
  have HT := hide (there_yes hm a 4 ha (by decide) (by omega))
  have hc := hm.cell0
  have h2 := hm.big
  have HB := hide fun (k : Nat) (hk : k < 4) => (show w.cell? ⟨d, (a + (3 - (k : Int))).toNat, none⟩ = some (.int .u8 (gb xs (a.toNat + (3 - k)))) by
    rw [show (a + (3 - (k : Int))).toNat = a.toNat + (3 - k) by omega]; exact hm.byte (by omega))
  have HU := hide fun (k : Nat) => hu.get (a.toNat + (3 - k))
  have HP := hide fun (k : Nat) (hk : k < 4) => part_bd hu a.toNat k hk
  have H4 : (a % 4 != 0) = false := by simp [h4]
  have HF := hide (part_four xs a.toNat)
  clear hm hu h4
  go_enter Try.func57, Try.ntmps57
  go_wp2_with (go_at_call 53; refine HT.out.mono ?_; rintro e w' ⟨rfl, rfl⟩)
  go_loop [6, 7] (fun x i => ∃ k : Nat, k ≤ 4 ∧ i = .int .i64 (3 - k) ∧ x = .int .u32 (part xs a.toNat k)) (fun _ i => (1 + intOf i).toNat)
  case atStart => exact ⟨0, by decide, rfl, rfl⟩
  case round =>
    obtain ⟨k, hk, rfl, rfl⟩ := hrel
    by_cases hlt : k < 4
    · have hb := HB.out k hlt
      obtain ⟨b1, b2⟩ := HU.out k
      obtain ⟨b3, b4⟩ := HP.out k hlt
      have HE := hide (show part xs a.toNat (k + 1) = part xs a.toNat k * 256 + gb xs (a.toNat + (3 - k)) from rfl)
      generalize gb xs (a.toNat + (3 - k)) = v at hb b1 b2 HE
      revert HE b3 b4
      generalize part xs a.toNat k = q
      intro b3 b4 HE
      go_wp2
      go_round
      case rel => exact ⟨k + 1, by omega, by go_num, by rw [HE.out]⟩
      case measure => simp [intOf]; omega
    · obtain rfl : k = 4 := by omega
      rw [HF.out]
      go_wp2
      go_ret2
      exact ⟨rfl, Only.refl _ _⟩

theorem rload32_bad (a : Int) (hb : a < 0 ∨ xs.length < a + 4 ∨ a % 4 ≠ 0) :
    Calls Try.prog 57 #[.pointer (some ⟨g, 0, none⟩), .int .i64 a] w fun e w' => e = .returned (.tuple #[.int .u32 0, .int .i64 10]) ∧ w = w' := by
  by_cases hs : a < 0 ∨ xs.length < a + 4
  · have HT := hide (there_no hm a 4 (by omega))
    clear hb hs hm
    go_enter Try.func57, Try.ntmps57
    go_wp2_with (go_at_call 53; refine HT.out.mono ?_; rintro e w' ⟨rfl, rfl⟩)
    go_ret2
    exact ⟨rfl, rfl⟩
  · have HT := hide (there_yes hm a 4 (by omega) (by decide) (by omega))
    have h0 : 0 ≤ a := by omega
    have h2 := hm.big
    have hle : a + 4 ≤ xs.length := by omega
    have H4 : (a % 4 != 0) = true := by simp only [bne_iff_ne]; omega
    clear hb hs hm
    go_enter Try.func57, Try.ntmps57
    go_wp2_with (go_at_call 53; refine HT.out.mono ?_; rintro e w' ⟨rfl, rfl⟩)
    go_ret2
    exact ⟨rfl, rfl⟩

/-- The lowest k bytes of a number are set. -/
def putk (xs : List Int) (i : Nat) (x : Int) : Nat → List Int
  | 0 => xs
  | k + 1 => (putk xs i x k).set (i + k) (x / 256 ^ k % 256)
omit hm in
theorem length_putk (xs : List Int) (i : Nat) (x : Int) : ∀ k, (putk xs i x k).length = xs.length
  | 0 => rfl
  | k + 1 => by rw [putk, List.length_set, length_putk xs i x k]
omit hm in
theorem putk_four (xs : List Int) (i : Nat) (x : Int) (h0 : 0 ≤ x) (h1 : x ≤ 4294967295) : putk xs i x 4 = putw xs i x := by
  show (((xs.set (i + 0) (x / 256 ^ 0 % 256)).set (i + 1) (x / 256 ^ 1 % 256)).set (i + 2) (x / 256 ^ 2 % 256)).set (i + 3) (x / 256 ^ 3 % 256) = _
  unfold putw
  have e0 : x / 256 ^ 0 % 256 = x % 256 := by rw [Int.pow_zero, Int.ediv_one]
  have e1 : x / 256 ^ 1 % 256 = x / 256 % 256 := rfl
  have e2 : x / 256 ^ 2 % 256 = x / 65536 % 256 := rfl
  have e3 : x / 256 ^ 3 % 256 = x / 16777216 := by
    show x / 16777216 % 256 = _
    omega
  rw [e0, e1, e2, e3, Nat.add_zero]

theorem rstore32_ok (a x : Int) (ha : 0 ≤ a) (han : a + 4 ≤ xs.length) (h4 : a % 4 = 0) (h0 : 0 ≤ x) (h1 : x ≤ 4294967295) :
    Calls Try.prog 26 #[.pointer (some ⟨g, 0, none⟩), .int .i64 a, .int .u32 x] w fun e w' => e = .returned (.int .i64 0) ∧ Only [d] w w' ∧ IsRef w' g d cap (putw xs a.toNat x) r := by
  have HT := hide (there_yes hm a 4 ha (by decide) (by omega))
  have h2 := hm.big
  have hle := hm.le
  have HL := hide (show a.toNat + 4 ≤ xs.length by omega)
  have H4 : (a % 4 != 0) = false := by simp [h4]
  have HF := hide (putk_four xs a.toNat x h0 h1)
  have HM := hide hm
  have HB := hide hm.pos
  clear hm h4
  go_enter Try.func26, Try.ntmps26
  go_wp2_with (go_at_call 53; refine HT.out.mono ?_; rintro e w' ⟨rfl, rfl⟩)
  go_loopw [2, 7] (fun v i wr => ∃ k : Nat, k ≤ 4 ∧ i = .int .i64 k ∧ v = .int .u32 (x / 256 ^ k) ∧ IsRef wr g d cap (putk xs a.toNat x k) r ∧ Only [d] w wr) (fun _ i _ => 4 - (intOf i).toNat)
  case atStart => exact ⟨0, by decide, rfl, by rw [Int.pow_zero, Int.ediv_one], HM.out, Only.refl _ _⟩
  case round =>
    clear HM
    obtain ⟨k, hk, rfl, rfl, hm, ho⟩ := hrel
    have HO := hide ho
    have hlk := length_putk xs a.toNat x k
    by_cases hlt : k < 4
    · have hc := hm.cell0
      rw [hlk] at hc
      have hb := hm.byte (i := a.toNat + k) (by rw [hlk]; have := HL.out; omega)
      have hf := hm.free (a.toNat + k)
      have HM := hide (show IsRef (wr.setCell ⟨d, a.toNat + k, none⟩ (.int .u8 (x / 256 ^ k % 256))) g d cap (putk xs a.toNat x (k + 1)) r from hm.set (i := a.toNat + k) (by rw [hlk]; have := HL.out; omega) (x / 256 ^ k % 256))
      have q0 : 0 ≤ x / 256 ^ k := Int.ediv_nonneg h0 (Int.pow_nonneg (by decide))
      have q1 : x / 256 ^ k ≤ 4294967295 := Int.le_trans (Int.ediv_le_self _ h0) h1
      have HD := hide (show x / 256 ^ (k + 1) = x / 256 ^ k / 256 by rw [Int.pow_succ, Int.ediv_ediv_of_nonneg (Int.pow_nonneg (by decide))])
      have HT2 := hide (show (a + (k : Int)).toNat = a.toNat + k by omega)
      rw [← HT2.out] at hb hf
      clear hm hlk ho
      revert HM q0 q1 HD
      generalize x / 256 ^ k = q
      intro HM q0 q1 HD
      go_wp2
      go_roundw
      case rel => exact ⟨k + 1, by omega, by go_num, by rw [HD.out], HT2.out ▸ HM.out, HO.out.setCell _ (by simp)⟩
      case measure => simp [intOf]; omega
    · obtain rfl : k = 4 := by omega
      rw [HF.out] at hm
      clear hlk ho
      go_wp2
      go_ret
      exact ⟨rfl, HO.out, hm⟩

theorem rstore32_bad (a x : Int) (hb : a < 0 ∨ xs.length < a + 4 ∨ a % 4 ≠ 0) :
    Calls Try.prog 26 #[.pointer (some ⟨g, 0, none⟩), .int .i64 a, .int .u32 x] w fun e w' => e = .returned (.int .i64 10) ∧ w = w' := by
  by_cases hs : a < 0 ∨ xs.length < a + 4
  · have HT := hide (there_no hm a 4 (by omega))
    clear hb hs hm
    go_enter Try.func26, Try.ntmps26
    go_wp2_with (go_at_call 53; refine HT.out.mono ?_; rintro e w' ⟨rfl, rfl⟩)
    go_ret
    exact ⟨rfl, rfl⟩
  · have HT := hide (there_yes hm a 4 (by omega) (by decide) (by omega))
    have h0 : 0 ≤ a := by omega
    have h2 := hm.big
    have hle : a + 4 ≤ xs.length := by omega
    have H4 : (a % 4 != 0) = true := by simp only [bne_iff_ne]; omega
    clear hb hs hm
    go_enter Try.func26, Try.ntmps26
    go_wp2_with (go_at_call 53; refine HT.out.mono ?_; rintro e w' ⟨rfl, rfl⟩)
    go_ret
    exact ⟨rfl, rfl⟩





end
end Go.Proofs.Ytmlaomkofcajgaa