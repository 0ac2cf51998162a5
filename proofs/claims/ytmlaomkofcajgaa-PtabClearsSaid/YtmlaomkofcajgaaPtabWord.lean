/-
  Small functions of page tables (parapet/ptab): packing, places, words, which word of the root names a leaf; what the memory's bytes say ('walkB').
-/
import Derived.Test.YtmlaomkofcajgaaPhysLives
namespace Go.Proofs.Ytmlaomkofcajgaa
open Go.ChangeShapes Go.WideShapes Go.ChangeAt Go.RowKit
set_option linter.unusedVariables false

theorem w64_in (n : Int) (h : -9223372036854775808 ≤ n ∧ n ≤ 9223372036854775807) : wrap64 n = n := by unfold wrap64; omega
theorem wrapi64_in (n : Int) (h0 : 0 ≤ n) (h1 : n < 4611686018427387904) : IntKind.i64.wrap n = n := by
  unfold IntKind.wrap
  simp only [IntKind.bits, IntKind.signed]
  simp
  omega
theorem ofInt_i64 (a : Nat) (ha : a < 9223372036854775808) : (BitVec.ofInt 64 (a : Int)).toNat = a := by
  rw [BitVec.ofInt_natCast, BitVec.toNat_ofNat]; exact Nat.mod_eq_of_lt (by omega)
theorem i64_or_nat (a b : Nat) (ha : a < 4611686018427387904) (hb : b < 4611686018427387904) : bits .or .i64 (a : Int) (b : Int) = ((a ||| b : Nat) : Int) := by
  have hx : a ||| b < 2 ^ 62 := Nat.or_lt_two_pow (by omega) (by omega)
  show IntKind.i64.wrap ((BitVec.ofInt 64 (a : Int) ||| BitVec.ofInt 64 (b : Int)).toNat : Int) = _
  rw [BitVec.toNat_or, ofInt_i64 a (by omega), ofInt_i64 b (by omega)]
  exact wrapi64_in _ (by omega) (by omega)
theorem i64_and_nat (a b : Nat) (ha : a < 4611686018427387904) (hb : b < 4611686018427387904) : bits .and .i64 (a : Int) (b : Int) = ((a &&& b : Nat) : Int) := by
  have hx : a &&& b < 2 ^ 62 := Nat.and_lt_two_pow _ (by omega)
  show IntKind.i64.wrap ((BitVec.ofInt 64 (a : Int) &&& BitVec.ofInt 64 (b : Int)).toNat : Int) = _
  rw [BitVec.toNat_and, ofInt_i64 a (by omega), ofInt_i64 b (by omega)]
  exact wrapi64_in _ (by omega) (by omega)
theorem shl8_or (f g : Int) (h0 : 0 ≤ f) (h1 : f ≤ 16777215) (g0 : 0 ≤ g) (g1 : g ≤ 255) : bits .or .i64 (f * 256) g = f * 256 + g := by
  obtain ⟨a, rfl⟩ := Int.eq_ofNat_of_zero_le h0
  obtain ⟨b, rfl⟩ := Int.eq_ofNat_of_zero_le g0
  have := i64_or_nat (a * 256) b (by omega) (by omega)
  have e : (a * 256 ||| b) = a * 256 + b := by
    rw [Nat.mul_comm]
    exact (Nat.two_pow_add_eq_or_of_lt (i := 8) (by omega) a).symm
  rw [e] at this
  rw [show ((a : Int) * 256) = ((a * 256 : Nat) : Int) by omega, this]
  omega
theorem and255 (x : Int) (h0 : 0 ≤ x) (h1 : x ≤ 4294967295) : bits .and .u32 x 255 = x % 256 := by
  obtain ⟨a, rfl⟩ := Int.eq_ofNat_of_zero_le h0
  have := u32_and_nat a 255 (by omega) (by omega)
  rw [show (255 : Int) = ((255 : Nat) : Int) from rfl, this, show (255 : Nat) = 2 ^ 8 - 1 from rfl, Nat.and_two_pow_sub_one_eq_mod]
  omega

theorem pack_is (w : World) (f g : Int) (h0 : 0 ≤ f) (h1 : f ≤ 16777215) (g0 : 0 ≤ g) (g1 : g ≤ 255) :
    Calls Try.prog 12 #[.int .i64 f, .int .i64 g] w fun e w' => e = .returned (.int .u32 (f * 256 + g)) ∧ w = w' := by
  have HE := hide (shl8_or f g h0 h1 g0 g1)
  have HM := hide (show (f * 256 + g) % 4294967296 = f * 256 + g by omega)
  go_enter Try.func12, Try.ntmps12
  go_wp2
  go_ret
  refine ⟨?_, rfl⟩
  rw [HE.out, HM.out]
  rfl

theorem tframe_is (w : World) (x : Int) (h0 : 0 ≤ x) (h1 : x ≤ 4294967295) :
    Calls Try.prog 15 #[.int .u32 x] w fun e w' => e = .returned (.int .i64 (x / 256)) ∧ w = w' := by
  go_enter Try.func15, Try.ntmps15
  go_wp2
  go_ret
  exact ⟨rfl, rfl⟩

theorem tflags_is (w : World) (x : Int) (h0 : 0 ≤ x) (h1 : x ≤ 4294967295) :
    Calls Try.prog 16 #[.int .u32 x] w fun e w' => e = .returned (.int .i64 (x % 256)) ∧ w = w' := by
  have HE := hide (and255 x h0 h1)
  have HM := hide (w64_in (x % 256) (by omega))
  go_enter Try.func16, Try.ntmps16
  go_wp2
  go_ret
  refine ⟨?_, rfl⟩
  rw [HE.out, HM.out]
  rfl

theorem tpage_is (w : World) (p : Int) : Calls Try.prog 44 #[.int .i64 p] w fun e w' => e = .returned (.bool (decide (0 ≤ p ∧ p < 256))) ∧ w = w' := by
  by_cases h : 0 ≤ p
  · go_enter Try.func44, Try.ntmps44
    go_wp2
    go_ret
    exact ⟨by simp [h], rfl⟩
  · have HE := hide (show false = decide (0 ≤ p ∧ p < 256) by symm; simp; omega)
    rw [← HE.out]
    go_enter Try.func44, Try.ntmps44
    go_wp2
    go_ret
    exact ⟨rfl, rfl⟩

theorem tplace_is (w : World) (f i : Int) (h0 : 0 ≤ f) (h1 : f ≤ 16777215) (i0 : 0 ≤ i) (i1 : i ≤ 63) :
    Calls Try.prog 48 #[.int .i64 f, .int .i64 i] w fun e w' => e = .returned (.int .i64 (f * 256 + i * 4)) ∧ w = w' := by
  go_enter Try.func48, Try.ntmps48
  go_wp2
  go_ret
  exact ⟨rfl, rfl⟩

/-- Is there a frame n of these bytes? -/
def hasB (xs : List Int) (n : Int) : Bool := decide (0 ≤ n ∧ 256 * n + 256 ≤ xs.length)
/-- The word at place i of a frame. -/
def wordB (xs : List Int) (f i : Int) : Int := word xs (f * 256 + i * 4).toNat
/-- Does a root's word name a leaf? -/
def leafB (xs : List Int) (root i : Int) : Bool := decide (wordB xs root i % 256 = 1) && hasB xs (wordB xs root i / 256)
/-- The entry that the bytes say. -/
def walkB (xs : List Int) (root p : Int) : Int :=
  if hasB xs root && decide (0 ≤ p ∧ p < 256) then (if leafB xs root (p / 64) then wordB xs (wordB xs root (p / 64) / 256) (p % 64) else 0) else 0

theorem word_range {xs : List Int} (hu : U8 xs) (i : Nat) : 0 ≤ word xs i ∧ word xs i ≤ 4294967295 := by
  unfold word
  have := hu.get i; have := hu.get (i + 1); have := hu.get (i + 2); have := hu.get (i + 3)
  omega

section
variable {w : World} {g d cap : Nat} {xs : List Int} {r : List Value} (hm : IsMem w g d cap xs r)
include hm

theorem hasFrame_is (n : Int) : Calls Try.prog 54 #[.pointer (some ⟨g, 0, none⟩), .int .i64 n] w fun e w' => e = .returned (.bool (hasB xs n)) ∧ w = w' := by
  have HF := hide (frames_is hm)
  have h2 := hm.big
  have h3 := hm.mul
  clear hm
  by_cases h : 0 ≤ n
  · have HE := hide (show decide (n < (xs.length : Int) / 256) = hasB xs n by
      unfold hasB; rw [decide_eq_decide]; omega)
    clear h3
    go_enter Try.func54, Try.ntmps54
    go_wp2_with (go_at_call 64; refine HF.out.mono ?_; rintro e w' ⟨rfl, rfl⟩)
    go_ret
    exact ⟨by rw [← HE.out]; rfl, rfl⟩
  · have HE := hide (show false = hasB xs n by unfold hasB; symm; simp; omega)
    clear h3
    go_enter Try.func54, Try.ntmps54
    go_wp2_with (go_at_call 64; refine HF.out.mono ?_; rintro e w' ⟨rfl, rfl⟩)
    go_ret
    exact ⟨by rw [← HE.out]; rfl, rfl⟩

theorem tword_is (hu : U8 xs) (f i : Int) (hf : hasB xs f = true) (i0 : 0 ≤ i) (i1 : i ≤ 63) :
    Calls Try.prog 55 #[.pointer (some ⟨g, 0, none⟩), .int .i64 f, .int .i64 i] w fun e w' => e = .returned (.int .u32 (wordB xs f i)) ∧ ∃ n, w' = w.drewN n := by
  simp only [hasB, decide_eq_true_eq] at hf
  have h2 := hm.big
  have HP := hide (tplace_is w f i (by omega) (by omega) i0 i1)
  have HL := hide (load32_q hm hu (f * 256 + i * 4) (by omega) (by omega) (by omega))
  clear hm hu
  go_enter Try.func55, Try.ntmps55
  go_wp2_with (first | (go_at_call 48; refine HP.out.mono ?_; rintro e w' ⟨rfl, rfl⟩) | (go_at_call 65; refine HL.out.mono ?_; rintro e w1 ⟨rfl, n, rfl⟩))
  go_ret
  exact ⟨rfl, n, rfl⟩

theorem leafAt_is (hu : U8 xs) (root i : Int) (hf : hasB xs root = true) (i0 : 0 ≤ i) (i1 : i ≤ 63) :
    Calls Try.prog 46 #[.pointer (some ⟨g, 0, none⟩), .int .i64 root, .int .i64 i] w fun e w' => e = .returned (.tuple #[.int .i64 (wordB xs root i / 256), .bool (leafB xs root i)]) ∧ ∃ n, w' = w.drewN n := by
  have hr : 0 ≤ wordB xs root i ∧ wordB xs root i ≤ 4294967295 := word_range hu _
  have HW := hide (tword_is hm hu root i hf i0 i1)
  have HH := hide fun (n : Nat) => hasFrame_is (hm.drewN n) (wordB xs root i / 256)
  have HF := hide fun (w1 : World) => tframe_is w1 _ hr.1 hr.2
  have HG := hide fun (w1 : World) => tflags_is w1 _ hr.1 hr.2
  by_cases h1 : wordB xs root i % 256 = 1
  · have HE := hide (show leafB xs root i = hasB xs (wordB xs root i / 256) by simp [leafB, h1])
    have h1' : (wordB xs root i % 256 == 1) = true := beq_iff_eq.2 h1
    clear hm hu hr hf i0 i1 h1
    go_enter Try.func46, Try.ntmps46
    go_wp2_with (first | (go_at_call 55; refine HW.out.mono ?_; rintro e w1 ⟨rfl, n, rfl⟩) | (go_at_call 15; refine (HF.out _).mono ?_; rintro e w' ⟨rfl, rfl⟩) | (go_at_call 16; refine (HG.out _).mono ?_; rintro e w' ⟨rfl, rfl⟩) | (go_at_call 54; refine (HH.out _).mono ?_; rintro e w' ⟨rfl, rfl⟩))
    go_ret2
    exact ⟨by rw [HE.out]; rfl, n, rfl⟩
  · have HE := hide (show leafB xs root i = false by simp [leafB, h1])
    have h1' : (wordB xs root i % 256 == 1) = false := beq_eq_false_iff_ne.2 h1
    clear hm hu hr hf i0 i1 h1
    go_enter Try.func46, Try.ntmps46
    go_wp2_with (first | (go_at_call 55; refine HW.out.mono ?_; rintro e w1 ⟨rfl, n, rfl⟩) | (go_at_call 15; refine (HF.out _).mono ?_; rintro e w' ⟨rfl, rfl⟩) | (go_at_call 16; refine (HG.out _).mono ?_; rintro e w' ⟨rfl, rfl⟩) | (go_at_call 54; refine (HH.out _).mono ?_; rintro e w' ⟨rfl, rfl⟩))
    go_ret2
    exact ⟨by rw [HE.out]; rfl, n, rfl⟩

/-- Walk: what the bytes say. -/
theorem walk_is (hu : U8 xs) (root p : Int) :
    Calls Try.prog 27 #[.pointer (some ⟨g, 0, none⟩), .int .i64 root, .int .i64 p] w fun e w' => e = .returned (.int .u32 (walkB xs root p)) ∧ ∃ n, w' = w.drewN n := by
  have HH := hide (hasFrame_is hm root)
  have HI := hide (fun w1 => tpage_is w1 p)
  by_cases hr : hasB xs root = true
  · by_cases hp : 0 ≤ p ∧ p < 256
    · have HPd := hide (show decide (0 ≤ p ∧ p < 256) = true by simpa using hp)
      have HL := hide (leafAt_is hm hu root (p / 64) hr (by omega) (by omega))
      rw [hr] at HH
      rw [HPd.out] at HI
      by_cases hl : leafB xs root (p / 64) = true
      · have hlf : hasB xs (wordB xs root (p / 64) / 256) = true := by
          simp only [leafB, Bool.and_eq_true] at hl; exact hl.2
        have HW := hide fun n => tword_is (hm.drewN n) hu (wordB xs root (p / 64) / 256) (p % 64) hlf (by omega) (by omega)
        have HE := hide (show walkB xs root p = wordB xs (wordB xs root (p / 64) / 256) (p % 64) by
          unfold walkB; rw [hr, HPd.out, hl]; rfl)
        rw [hl] at HL
        obtain ⟨p0, p1⟩ := hp
        clear hm hu hr hl hlf
        go_enter Try.func27, Try.ntmps27
        go_wp2_with (first | (go_at_call 54; refine HH.out.mono ?_; rintro e w' ⟨rfl, rfl⟩) | (go_at_call 44; refine (HI.out _).mono ?_; rintro e w' ⟨rfl, rfl⟩) | (go_at_call 46; refine HL.out.mono ?_; rintro e w1 ⟨rfl, n, rfl⟩) | (go_at_call 55; refine (HW.out _).mono ?_; rintro e w2 ⟨rfl, m, rfl⟩))
        go_ret
        exact ⟨by rw [HE.out]; rfl, n + m, rfl⟩
      · have hl' : leafB xs root (p / 64) = false := by simpa using hl
        have HE := hide (show walkB xs root p = 0 by
          unfold walkB; rw [hr, HPd.out, hl']; rfl)
        rw [hl'] at HL
        obtain ⟨p0, p1⟩ := hp
        clear hm hu hr hl hl'
        go_enter Try.func27, Try.ntmps27
        go_wp2_with (first | (go_at_call 54; refine HH.out.mono ?_; rintro e w' ⟨rfl, rfl⟩) | (go_at_call 44; refine (HI.out _).mono ?_; rintro e w' ⟨rfl, rfl⟩) | (go_at_call 46; refine HL.out.mono ?_; rintro e w1 ⟨rfl, n, rfl⟩))
        go_ret
        exact ⟨by rw [HE.out]; rfl, n, rfl⟩
    · have HPd := hide (show decide (0 ≤ p ∧ p < 256) = false by simpa using hp)
      have HE := hide (show walkB xs root p = 0 by
        unfold walkB; rw [hr, HPd.out]; rfl)
      rw [hr] at HH
      rw [HPd.out] at HI
      clear hm hu hr hp
      go_enter Try.func27, Try.ntmps27
      go_wp2_with (first | (go_at_call 54; refine HH.out.mono ?_; rintro e w' ⟨rfl, rfl⟩) | (go_at_call 44; refine (HI.out _).mono ?_; rintro e w' ⟨rfl, rfl⟩))
      go_ret
      exact ⟨by rw [HE.out]; rfl, 0, rfl⟩
  · have hr' : hasB xs root = false := by simpa using hr
    have HE := hide (show walkB xs root p = 0 by
      unfold walkB; rw [hr']; rfl)
    rw [hr'] at HH
    clear hm hu hr hr'
    go_enter Try.func27, Try.ntmps27
    go_wp2_with (first | (go_at_call 54; refine HH.out.mono ?_; rintro e w' ⟨rfl, rfl⟩))
    go_ret
    exact ⟨by rw [HE.out]; rfl, 0, rfl⟩
end

theorem hasFrame_nil (w : World) (n : Int) : Calls Try.prog 54 #[.pointer none, .int .i64 n] w fun e w' => e = .returned (.bool false) ∧ w = w' := by
  by_cases h : 0 ≤ n
  · go_enter Try.func54, Try.ntmps54
    go_wp2_with (go_at_call 64; refine (frames_nil _).mono ?_; rintro e w' ⟨rfl, rfl⟩)
    go_ret
    exact ⟨by rw [show (decide (n < 0)) = false by simp; omega]; rfl, rfl⟩
  · go_enter Try.func54, Try.ntmps54
    go_wp2
    go_ret
    exact ⟨rfl, rfl⟩

theorem walk_nil (w : World) (root p : Int) :
    Calls Try.prog 27 #[.pointer none, .int .i64 root, .int .i64 p] w fun e w' => e = .returned (.int .u32 0) ∧ w = w' := by
  go_enter Try.func27, Try.ntmps27
  go_wp2_with (first | (go_at_call 54; refine (hasFrame_nil _ _).mono ?_; rintro e w' ⟨rfl, rfl⟩))
  go_ret
  exact ⟨rfl, rfl⟩
end Go.Proofs.Ytmlaomkofcajgaa
