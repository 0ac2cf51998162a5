/-
  The reference's shift, a bit at a time, comes to 'val'; and the reference's value.
-/
import Derived.Test.YtkoibmpncfbnpaaInsnVal
namespace Go.Proofs.Ytkoibmpncfbnpaa
open Go.ChangeShapes Go.WideShapes Go.ChangeAt Go.RowKit
set_option linter.unusedVariables false

/-- A word behind k steps of a shift. -/
def shv (o a : Int) (k : Nat) : Int := if o = 8 then a * 2 ^ k % 4294967296 else if o = 9 then a / 2 ^ k else (sg a / 2 ^ k) % 4294967296
theorem sg_bd (a : Int) (a0 : 0 ≤ a) (a1 : a < 4294967296) : -2147483648 ≤ sg a ∧ sg a < 2147483648 ∧ sg a % 4294967296 = a := by
  unfold sg; split <;> omega
theorem pow_pos' (k : Nat) : (1 : Int) ≤ 2 ^ k := by
  have : 0 < (2 : Int) ^ k := Int.pow_pos (by decide)
  omega
theorem div_pow_bd (s : Int) (k : Nat) (h0 : -2147483648 ≤ s) (h1 : s < 2147483648) : -2147483648 ≤ s / 2 ^ k ∧ s / 2 ^ k < 2147483648 := by
  have hp := pow_pos' k
  constructor
  · apply (Int.le_ediv_iff_mul_le (by omega)).2
    generalize (2 : Int) ^ k = p at *
    omega
  · apply (Int.ediv_lt_iff_lt_mul (by omega)).2
    generalize (2 : Int) ^ k = p at *
    omega
theorem shv_bd (o a : Int) (k : Nat) (a0 : 0 ≤ a) (a1 : a < 4294967296) : 0 ≤ shv o a k ∧ shv o a k < 4294967296 := by
  unfold shv
  split
  · omega
  · split
    · have hp := pow_pos' k
      constructor
      · exact Int.ediv_nonneg a0 (by omega)
      · exact Int.lt_of_le_of_lt (Int.ediv_le_self _ a0) a1
    · omega
theorem shv_zero (o a : Int) (a0 : 0 ≤ a) (a1 : a < 4294967296) : shv o a 0 = a := by
  have := sg_bd a a0 a1
  unfold shv
  split
  · simp; omega
  · split
    · simp
    · simp; omega
theorem shv_8 (a : Int) (k : Nat) : shv 8 a (k + 1) = shv 8 a k * 2 % 4294967296 := by
  simp only [shv, if_true]
  rw [Int.pow_succ, ← Int.mul_assoc]
  omega
theorem shv_9 (a : Int) (k : Nat) : shv 9 a (k + 1) = shv 9 a k / 2 := by
  simp only [shv, if_true, show ¬ (9 : Int) = 8 by decide, if_false]
  rw [Int.pow_succ, Int.ediv_ediv_of_nonneg (by have := pow_pos' k; omega)]
theorem shv_10 (a : Int) (k : Nat) (a0 : 0 ≤ a) (a1 : a < 4294967296) : shv 10 a (k + 1) = shv 10 a k / 2 + shv 10 a k / 2147483648 * 2147483648 := by
  simp only [shv, show ¬ (10 : Int) = 8 by decide, show ¬ (10 : Int) = 9 by decide, if_false]
  rw [Int.pow_succ, ← Int.ediv_ediv_of_nonneg (by have := pow_pos' k; omega)]
  have h := sg_bd a a0 a1
  have := div_pow_bd (sg a) k h.1 h.2.1
  generalize sg a / 2 ^ k = s at *
  omega

def ShiftRel (o a n : Int) (x i : Value) : Prop := ∃ k : Nat, (k : Int) ≤ n ∧ i = .int .u32 k ∧ x = .int .u32 (shv o a k)

theorem shift_8 (a n : Int) (w : World) (a0 : 0 ≤ a) (a1 : a < 4294967296) (n0 : 0 ≤ n) (n1 : n < 32) :
    Calls Try.prog 28 #[.int .i64 8, .int .u32 a, .int .u32 n] w fun e w' => e = .returned (.int .u32 (shv 8 a n.toNat)) ∧ w = w' := by
  go_enter Try.func28, Try.ntmps28
  go_wp2
  go_loop [1, 7] (fun x i => ShiftRel 8 a n x i) (fun _ i => n.toNat - (intOf i).toNat)
  case atStart => exact ⟨0, by omega, rfl, by rw [shv_zero _ a a0 a1]⟩
  case round =>
    obtain ⟨k, hk, rfl, rfl⟩ := hrel
    have hb := shv_bd 8 a k a0 a1
    have HS := hide (shv_8 a k)
    generalize hy : shv 8 a k = y at hb HS ⊢
    have HY := hide hy
    clear hy
    by_cases hlt : (k : Int) < n
    · go_wp2
      go_round
      case rel => exact ⟨k + 1, by omega, by go_num, by rw [HS.out]⟩
      case measure => simp [intOf]; omega
    · have HE := hide (show y = shv 8 a n.toNat by rw [show n.toNat = k by omega]; exact HY.out.symm)
      go_wp2
      go_ret
      exact ⟨by rw [← HE.out]; rfl, rfl⟩
theorem shift_9 (a n : Int) (w : World) (a0 : 0 ≤ a) (a1 : a < 4294967296) (n0 : 0 ≤ n) (n1 : n < 32) :
    Calls Try.prog 28 #[.int .i64 9, .int .u32 a, .int .u32 n] w fun e w' => e = .returned (.int .u32 (shv 9 a n.toNat)) ∧ w = w' := by
  go_enter Try.func28, Try.ntmps28
  go_wp2
  go_loop [1, 7] (fun x i => ShiftRel 9 a n x i) (fun _ i => n.toNat - (intOf i).toNat)
  case atStart => exact ⟨0, by omega, rfl, by rw [shv_zero _ a a0 a1]⟩
  case round =>
    obtain ⟨k, hk, rfl, rfl⟩ := hrel
    have hb := shv_bd 9 a k a0 a1
    have HS := hide (shv_9 a k)
    generalize hy : shv 9 a k = y at hb HS ⊢
    have HY := hide hy
    clear hy
    by_cases hlt : (k : Int) < n
    · go_wp2
      go_round
      case rel => exact ⟨k + 1, by omega, by go_num, by rw [HS.out]⟩
      case measure => simp [intOf]; omega
    · have HE := hide (show y = shv 9 a n.toNat by rw [show n.toNat = k by omega]; exact HY.out.symm)
      go_wp2
      go_ret
      exact ⟨by rw [← HE.out]; rfl, rfl⟩
theorem shift_10 (a n : Int) (w : World) (a0 : 0 ≤ a) (a1 : a < 4294967296) (n0 : 0 ≤ n) (n1 : n < 32) :
    Calls Try.prog 28 #[.int .i64 10, .int .u32 a, .int .u32 n] w fun e w' => e = .returned (.int .u32 (shv 10 a n.toNat)) ∧ w = w' := by
  go_enter Try.func28, Try.ntmps28
  go_wp2
  go_loop [1, 7] (fun x i => ShiftRel 10 a n x i) (fun _ i => n.toNat - (intOf i).toNat)
  case atStart => exact ⟨0, by omega, rfl, by rw [shv_zero _ a a0 a1]⟩
  case round =>
    obtain ⟨k, hk, rfl, rfl⟩ := hrel
    have hb := shv_bd 10 a k a0 a1
    have HS := hide (shv_10 a k a0 a1)
    generalize hy : shv 10 a k = y at hb HS ⊢
    have HY := hide hy
    clear hy
    by_cases hlt : (k : Int) < n
    · go_wp2
      go_round
      case rel => exact ⟨k + 1, by omega, by go_num, by rw [HS.out]⟩
      case measure => simp [intOf]; omega
    · have HE := hide (show y = shv 10 a n.toNat by rw [show n.toNat = k by omega]; exact HY.out.symm)
      go_wp2
      go_ret
      exact ⟨by rw [← HE.out]; rfl, rfl⟩

theorem val_8 (a b i : Int) : val 8 a b i = shv 8 a (b % 32).toNat := by simp [val, shv]
theorem val_9 (a b i : Int) : val 9 a b i = shv 9 a (b % 32).toNat := by simp [val, shv]
theorem val_10 (a b i : Int) : val 10 a b i = shv 10 a (b % 32).toNat := by simp [val, shv]

set_option maxRecDepth 100000 in
set_option maxHeartbeats 1000000 in
theorem value_div (o A B a b i : Int) (w : World) (ho : o = 12 ∨ o = 13) (a0 : 0 ≤ a) (a1 : a < 4294967296) (b0 : 0 ≤ b) (b1 : b < 4294967296) (i0 : -32768 ≤ i) (i1 : i ≤ 32767) :
    Calls Try.prog 24 #[insnV o A B i, .int .u32 a, .int .u32 b] w fun e w' => e = .returned (.int .u32 (val o a b (i % 4294967296))) ∧ Below w.heap.size w w' := by
  unfold insnV
  rcases ho with rfl | rfl
  all_goals
    by_cases hb : b = 0
    · subst hb
      go_enter Try.func24, Try.ntmps24
      go_wp2
      go_ret
      exact ⟨by simp [val], (Below.refl _ _).alloc (Nat.le_refl _) _⟩
    · have c1 : (b == 0) = false := beq_eq_false_iff_ne.2 hb
      have hp : 0 < b := by omega
      go_enter Try.func24, Try.ntmps24
      go_wp2
      go_ret
      exact ⟨by simp [val, hb], (Below.refl _ _).alloc (Nat.le_refl _) _⟩

set_option maxRecDepth 100000 in
set_option maxHeartbeats 4000000 in
/-- The reference's value; the number in the instruction is i. -/
theorem value_is (o A B a b i : Int) (w : World) (o1 : 1 ≤ o) (o2 : o ≤ 16) (a0 : 0 ≤ a) (a1 : a < 4294967296) (b0 : 0 ≤ b) (b1 : b < 4294967296) (i0 : -32768 ≤ i) (i1 : i ≤ 32767) :
    Calls Try.prog 24 #[insnV o A B i, .int .u32 a, .int .u32 b] w fun e w' => e = .returned (.int .u32 (val o a b (i % 4294967296))) ∧ Below w.heap.size w w' := by
  have A8 := hide (fun w => shift_8 a (b % 32) w a0 a1 (by omega) (by omega))
  have A9 := hide (fun w => shift_9 a (b % 32) w a0 a1 (by omega) (by omega))
  have A10 := hide (fun w => shift_10 a (b % 32) w a0 a1 (by omega) (by omega))
  have SA := hide (fun w => signed_is a w a0 a1)
  have SB := hide (fun w => signed_is b w b0 b1)
  by_cases hd : o = 12 ∨ o = 13
  · exact value_div o A B a b i w hd a0 a1 b0 b1 i0 i1
  have ho : o = 1 ∨ o = 2 ∨ o = 3 ∨ o = 4 ∨ o = 5 ∨ o = 6 ∨ o = 7 ∨ o = 8 ∨ o = 9 ∨ o = 10 ∨ o = 11 ∨ o = 14 ∨ o = 15 ∨ o = 16 := by omega
  clear o1 o2 hd
  unfold insnV
  rcases ho with rfl | rfl | rfl | rfl | rfl | rfl | rfl | rfl | rfl | rfl | rfl | rfl | rfl | rfl
  all_goals
    go_enter Try.func24, Try.ntmps24
    go_wp2_with (first
      | (go_at_call 28; with_reducible refine (A8.out _).mono ?_; rintro e w' ⟨rfl, rfl⟩)
      | (go_at_call 28; with_reducible refine (A9.out _).mono ?_; rintro e w' ⟨rfl, rfl⟩)
      | (go_at_call 28; with_reducible refine (A10.out _).mono ?_; rintro e w' ⟨rfl, rfl⟩)
      | (go_at_call 27; with_reducible refine (SA.out _).mono ?_; rintro e w' ⟨rfl, rfl⟩)
      | (go_at_call 27; with_reducible refine (SB.out _).mono ?_; rintro e w' ⟨rfl, rfl⟩))
    all_goals
      go_ret
      refine ⟨?_, (Below.refl _ _).alloc (Nat.le_refl _) _⟩
      first | (simp [val]; done) | (simp [val] <;> omega) | (simp [val_8, val_9, val_10]; done)
end Go.Proofs.Ytkoibmpncfbnpaa
