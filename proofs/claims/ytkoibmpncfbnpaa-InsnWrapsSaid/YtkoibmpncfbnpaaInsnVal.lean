/-
  What an instruction of numbers makes of two words: 'val'; when a branch turns: 'turnsB'. The functions of parapet/insn and of the reference come to these.
-/
import Derived.Test.YtkoibmpncfbnpaaInsnDecode
import Derived.Laws.ShiftsVarLaws
namespace Go.Proofs.Ytkoibmpncfbnpaa
open Go.ChangeShapes Go.WideShapes Go.ChangeAt Go.RowKit
set_option linter.unusedVariables false

/-- A word as a number with a sign. -/
def sg (x : Int) : Int := if 2147483648 ≤ x then x - 4294967296 else x
def turnsB (o a b : Int) : Bool := if o = 21 then a == b else if o = 22 then a != b else if o = 23 then decide (sg a < sg b) else decide (a < b)
/-- What a register is behind an instruction of numbers; i: the 32 bits of the number in it. -/
def val (o a b i : Int) : Int :=
  if o = 1 then i
  else if o = 2 then a % 65536 + i * 65536 % 4294967296
  else if o = 3 then (a + b) % 4294967296
  else if o = 4 then (a - b) % 4294967296
  else if o = 5 then bits .and .u32 a b
  else if o = 6 then bits .or .u32 a b
  else if o = 7 then bits .xor .u32 a b
  else if o = 8 then a * 2 ^ (b % 32).toNat % 4294967296
  else if o = 9 then a / 2 ^ (b % 32).toNat
  else if o = 10 then (sg a / 2 ^ (b % 32).toNat) % 4294967296
  else if o = 11 then a * b % 4294967296
  else if o = 12 then (if b = 0 then 4294967295 else a / b)
  else if o = 13 then (if b = 0 then a else a % b)
  else if o = 14 then (if sg a < sg b then 1 else 0)
  else if o = 15 then (if a < b then 1 else 0)
  else (b + i) % 4294967296

theorem i32_of (x : Int) (h0 : 0 ≤ x) (h1 : x < 4294967296) : IntKind.i32.wrap x = sg x := by
  unfold IntKind.wrap sg
  simp only [IntKind.bits, IntKind.signed]
  by_cases h : 2147483648 ≤ x
  · rw [if_pos h]; simp; omega
  · rw [if_neg h]; simp; omega
theorem and31 (x : Int) (h0 : 0 ≤ x) (h1 : x < 4294967296) : bits .and .u32 x 31 = x % 32 := by
  rw [u32_and x 31 h0 h1 (by decide) (by decide)]
  show ((x.toNat &&& 31 : Nat) : Int) = _
  rw [nat_mask5]; omega
theorem and65535 (x : Int) (h0 : 0 ≤ x) (h1 : x < 4294967296) : bits .and .u32 x 65535 = x % 65536 := by
  rw [u32_and x 65535 h0 h1 (by decide) (by decide)]
  show ((x.toNat &&& 65535 : Nat) : Int) = _
  rw [nat_mask16]; omega

theorem turns_is (o a b : Int) (w : World) (ho : o = 21 ∨ o = 22 ∨ o = 23 ∨ o = 24) (a0 : 0 ≤ a) (a1 : a < 4294967296) (b0 : 0 ≤ b) (b1 : b < 4294967296) :
    Calls Try.prog 21 #[.int .i64 o, .int .u32 a, .int .u32 b] w fun e w' => e = .returned (.bool (turnsB o a b)) ∧ w = w' := by
  have e1 := i32_of a a0 a1
  have e2 := i32_of b b0 b1
  rcases ho with rfl | rfl | rfl | rfl
  all_goals
    go_enter Try.func21, Try.ntmps21
    go_wp2
    go_ret
    refine ⟨?_, rfl⟩
    simp [turnsB]
theorem bit_is (c : Bool) (w : World) :
    Calls Try.prog 26 #[.bool c] w fun e w' => e = .returned (.int .u32 (if c then 1 else 0)) ∧ w = w' := by
  cases c
  all_goals
    go_enter Try.func26, Try.ntmps26
    go_wp2
    go_ret
    exact ⟨rfl, rfl⟩
theorem divide_is (o a b : Int) (w : World) (ho : o = 12 ∨ o = 13) (a0 : 0 ≤ a) (a1 : a < 4294967296) (b0 : 0 ≤ b) (b1 : b < 4294967296) :
    Calls Try.prog 25 #[.int .i64 o, .int .u32 a, .int .u32 b] w fun e w' => e = .returned (.int .u32 (val o a b 0)) ∧ w = w' := by
  rcases ho with rfl | rfl
  all_goals
    by_cases hb : b = 0
    · subst hb
      go_enter Try.func25, Try.ntmps25
      go_wp2
      go_ret
      exact ⟨by simp [val], rfl⟩
    · have c1 : (b == 0) = false := beq_eq_false_iff_ne.2 hb
      have hp : 0 < b := by omega
      go_enter Try.func25, Try.ntmps25
      go_wp2
      go_ret
      exact ⟨by simp [val, hb], rfl⟩
set_option maxRecDepth 100000 in
set_option maxHeartbeats 4000000 in
theorem reckon_is (o a b i : Int) (w : World) (o1 : 1 ≤ o) (o2 : o ≤ 16) (a0 : 0 ≤ a) (a1 : a < 4294967296) (b0 : 0 ≤ b) (b1 : b < 4294967296) (i0 : 0 ≤ i) (i1 : i < 4294967296) :
    Calls Try.prog 22 #[.int .i64 o, .int .u32 a, .int .u32 b, .int .u32 i] w fun e w' => e = .returned (.int .u32 (val o a b i)) ∧ w = w' := by
  have e1 := i32_of a a0 a1
  have e2 := i32_of b b0 b1
  have e3 := and31 b b0 b1
  have e4 := and65535 a a0 a1
  have ho : o = 1 ∨ o = 2 ∨ o = 3 ∨ o = 4 ∨ o = 5 ∨ o = 6 ∨ o = 7 ∨ o = 8 ∨ o = 9 ∨ o = 10 ∨ o = 11 ∨ o = 12 ∨ o = 13 ∨ o = 14 ∨ o = 15 ∨ o = 16 := by omega
  have e5 : bits .or .u32 (a % 65536) (i * 65536 % 4294967296) = a % 65536 + i * 65536 % 4294967296 := by
    rw [u32_or _ _ (by omega) (by omega) (by omega) (by omega), Nat.or_comm, nat_join 16 _ _ (by omega) (by omega)]
    omega
  clear o1 o2
  rcases ho with rfl | rfl | rfl | rfl | rfl | rfl | rfl | rfl | rfl | rfl | rfl | rfl | rfl | rfl | rfl | rfl
  all_goals
    go_enter Try.func22, Try.ntmps22
    go_wp2_with (first | (go_at_call 26; refine (bit_is _ _).mono ?_; rintro e w' ⟨rfl, rfl⟩) | (go_at_call 25; refine (divide_is _ _ _ _ (by decide) a0 a1 b0 b1).mono ?_; rintro e w' ⟨rfl, rfl⟩))
    all_goals
      go_ret
      refine ⟨?_, rfl⟩
      simp [val] <;> omega

theorem sg_eq (x : Int) : sg x = if 2147483648 ≤ x then x - 4294967296 else x := rfl
theorem signed_is (x : Int) (w : World) (h0 : 0 ≤ x) (h1 : x < 4294967296) :
    Calls Try.prog 27 #[.int .u32 x] w fun e w' => e = .returned (.int .i64 (sg x)) ∧ w = w' := by
  by_cases h : 2147483648 ≤ x
  · rw [sg_eq, if_pos h]
    go_enter Try.func27, Try.ntmps27
    go_wp2
    go_ret
    exact ⟨rfl, rfl⟩
  · rw [sg_eq, if_neg h]
    go_enter Try.func27, Try.ntmps27
    go_wp2
    go_ret
    exact ⟨rfl, rfl⟩
theorem branches_is (o a b : Int) (w : World) (ho : o = 21 ∨ o = 22 ∨ o = 23 ∨ o = 24) (a0 : 0 ≤ a) (a1 : a < 4294967296) (b0 : 0 ≤ b) (b1 : b < 4294967296) :
    Calls Try.prog 23 #[.int .i64 o, .int .u32 a, .int .u32 b] w fun e w' => e = .returned (.bool (turnsB o a b)) ∧ w = w' := by
  have A := hide (fun w => signed_is a w a0 a1)
  have B := hide (fun w => signed_is b w b0 b1)
  rcases ho with rfl | rfl | rfl | rfl
  all_goals
    go_enter Try.func23, Try.ntmps23
    go_wp2_with (first | (go_at_call 27; with_reducible refine (A.out _).mono ?_; rintro e w' ⟨rfl, rfl⟩) | (go_at_call 27; with_reducible refine (B.out _).mono ?_; rintro e w' ⟨rfl, rfl⟩))
    go_ret
    refine ⟨?_, rfl⟩
    simp [turnsB]
end Go.Proofs.Ytkoibmpncfbnpaa
