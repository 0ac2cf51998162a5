/-
  Encode of parapet/insn and of the reference: the word of an instruction's parts, or none.
-/
import Derived.Test.YtkoibmpncfbnpaaInsnDecode
namespace Go.Proofs.Ytkoibmpncfbnpaa
open Go.ChangeShapes Go.WideShapes Go.ChangeAt Go.RowKit
set_option linter.unusedVariables false

theorem register_yes (n : Int) (w : World) (h0 : 0 ≤ n) (h1 : n ≤ 15) :
    Calls Try.prog 19 #[.int .i64 n] w fun e w' => e = .returned (.bool true) ∧ w = w' := by
  go_enter Try.func19, Try.ntmps19
  go_wp2
  go_ret
  exact ⟨by simp <;> omega, rfl⟩
theorem register_no (n : Int) (w : World) (h : n < 0 ∨ 15 < n) :
    Calls Try.prog 19 #[.int .i64 n] w fun e w' => e = .returned (.bool false) ∧ w = w' := by
  rcases h with h | h
  all_goals
    go_enter Try.func19, Try.ntmps19
    go_wp2
    go_ret
    exact ⟨by simp <;> omega, rfl⟩

theorem or_add (i : Nat) (x y : Int) (x0 : 0 ≤ x) (x1 : x < 4294967296) (y0 : 0 ≤ y) (y1 : y < 4294967296) (hx : x.toNat < 2 ^ i) (hy : y.toNat % 2 ^ i = 0) : bits .or .u32 x y = x + y := by
  rw [u32_or x y x0 x1 y0 y1, Nat.or_comm, nat_join i _ _ hy hx]
  omega

theorem orWord {o a b i : Int} (h : Fits o a b i) :
    bits .or .u32 (bits .or .u32 (bits .or .u32 o (a * 256)) (b * 4096)) (i % 4294967296 * 65536 % 4294967296) = wordOf o a b i := by
  obtain ⟨o1, o2, a1, a2, b1, b2, i1, i2⟩ := h
  rw [or_add 8 o (a * 256) (by omega) (by omega) (by omega) (by omega) (by omega) (by omega)]
  rw [or_add 12 (o + a * 256) (b * 4096) (by omega) (by omega) (by omega) (by omega) (by omega) (by omega)]
  rw [or_add 16 (o + a * 256 + b * 4096) _ (by omega) (by omega) (by omega) (by omega) (by omega) (by omega)]
  unfold wordOf
  split <;> omega

theorem encode_ok (o a b i : Int) (w : World) (h : Fits o a b i) :
    Calls Try.prog 13 #[insnV o a b i] w fun e w' => e = .returned (.tuple #[.int .u32 (wordOf o a b i), .int .i64 0]) ∧ Below w.heap.size w w' := by
  have E := hide (orWord h)
  obtain ⟨o1, o2, a1, a2, b1, b2, i1, i2⟩ := h
  have c1 : decide (o < 1) = false := by simpa using o1
  have c2 : decide (28 < o) = false := by simpa using o2
  unfold insnV
  go_enter Try.func13, Try.ntmps13
  go_wp2_with (first | (go_at_call 19; refine (register_yes _ _ (by omega) (by omega)).mono ?_; rintro e w' ⟨rfl, rfl⟩))
  exact bodyPost_ret (v := .tuple #[.int .u32 (wordOf o a b i), .int .i64 0]) (by simp [results, Try.results13, go_sem, E.out]) rfl ⟨rfl, (Below.refl _ _).alloc (Nat.le_refl _) _⟩

/-- A field of kind int is in its bounds. -/
def I64 (x : Int) : Prop := -9223372036854775808 ≤ x ∧ x ≤ 9223372036854775807

set_option maxHeartbeats 2000000 in
theorem encode_bad (o a b i : Int) (w : World) (h : ¬ Fits o a b i) (ho : I64 o) (ha : I64 a) (hb : I64 b) (hi : I64 i) :
    Calls Try.prog 13 #[insnV o a b i] w fun e w' => e = .returned (.tuple #[.int .u32 0, .int .i64 30]) ∧ Below w.heap.size w w' := by
  obtain ⟨ho1, ho2⟩ := ho; obtain ⟨ha1, ha2⟩ := ha; obtain ⟨hb1, hb2⟩ := hb; obtain ⟨hi1, hi2⟩ := hi
  unfold insnV
  by_cases o1 : o < 1
  · have c1 : decide (o < 1) = true := by simpa using o1
    clear h
    go_enter Try.func13, Try.ntmps13
    go_wp2
    exact bodyPost_ret (v := .tuple #[.int .u32 0, .int .i64 30]) (by simp [results, Try.results13, go_sem]) rfl ⟨rfl, (Below.refl _ _).alloc (Nat.le_refl _) _⟩
  have c1 : decide (o < 1) = false := by simpa using o1
  by_cases o2 : 28 < o
  · have c2 : decide (28 < o) = true := by simpa using o2
    clear h
    go_enter Try.func13, Try.ntmps13
    go_wp2
    exact bodyPost_ret (v := .tuple #[.int .u32 0, .int .i64 30]) (by simp [results, Try.results13, go_sem]) rfl ⟨rfl, (Below.refl _ _).alloc (Nat.le_refl _) _⟩
  have c2 : decide (28 < o) = false := by simpa using o2
  by_cases a1 : a < 0 ∨ 15 < a
  · have A := hide a1
    clear h a1
    go_enter Try.func13, Try.ntmps13
    go_wp2_with (first | (go_at_call 19; refine (register_no _ _ A.out).mono ?_; rintro e w' ⟨rfl, rfl⟩))
    exact bodyPost_ret (v := .tuple #[.int .u32 0, .int .i64 30]) (by simp [results, Try.results13, go_sem]) rfl ⟨rfl, (Below.refl _ _).alloc (Nat.le_refl _) _⟩
  by_cases b1 : b < 0 ∨ 15 < b
  · have A := hide a1
    have B := hide b1
    clear h a1 b1
    go_enter Try.func13, Try.ntmps13
    go_wp2_with (first | (go_at_call 19; refine (register_no _ _ B.out).mono ?_; rintro e w' ⟨rfl, rfl⟩) | (go_at_call 19; refine (register_yes _ _ (by have := A.out; omega) (by have := A.out; omega)).mono ?_; rintro e w' ⟨rfl, rfl⟩))
    exact bodyPost_ret (v := .tuple #[.int .u32 0, .int .i64 30]) (by simp [results, Try.results13, go_sem]) rfl ⟨rfl, (Below.refl _ _).alloc (Nat.le_refl _) _⟩
  have hi : i < -32768 ∨ 32767 < i := by unfold Fits at h; omega
  have A := hide (show 0 ≤ a ∧ a ≤ 15 by omega)
  have B := hide (show 0 ≤ b ∧ b ≤ 15 by omega)
  have c3 : (i != wrap64 (IntKind.i16.wrap i)) = true := by
    have e : IntKind.i16.wrap i = i % 65536 ∨ IntKind.i16.wrap i = i % 65536 - 65536 := by
      unfold IntKind.wrap; simp only [IntKind.bits, IntKind.signed]; simp; omega
    have e2 : IntKind.i16.wrap i ≤ 32767 ∧ -32768 ≤ IntKind.i16.wrap i := by
      unfold IntKind.wrap; simp only [IntKind.bits, IntKind.signed]; simp; omega
    have e3 : wrap64 (IntKind.i16.wrap i) = IntKind.i16.wrap i := by unfold wrap64; omega
    simp only [bne_iff_ne, e3]; omega
  clear h a1 b1 hi
  go_enter Try.func13, Try.ntmps13
  go_wp2_with (first | (go_at_call 19; refine (register_yes _ _ (by first | exact A.out.1 | exact B.out.1) (by first | exact A.out.2 | exact B.out.2)).mono ?_; rintro e w' ⟨rfl, rfl⟩))
  exact bodyPost_ret (v := .tuple #[.int .u32 0, .int .i64 30]) (by simp [results, Try.results13, go_sem]) rfl ⟨rfl, (Below.refl _ _).alloc (Nat.le_refl _) _⟩

theorem rencode_ok (o a b i : Int) (w : World) (h : Fits o a b i) :
    Calls Try.prog 14 #[insnV o a b i] w fun e w' => e = .returned (.tuple #[.int .u32 (wordOf o a b i), .int .i64 0]) ∧ Below w.heap.size w w' := by
  obtain ⟨o1, o2, a1, a2, b1, b2, i1, i2⟩ := h
  have c1 : decide (o < 1) = false := by simpa using o1
  have c2 : decide (28 < o) = false := by simpa using o2
  have c3 : decide (a < 0) = false := by simpa using a1
  have c4 : decide (15 < a) = false := by simpa using a2
  have c5 : decide (b < 0) = false := by simpa using b1
  have c6 : decide (15 < b) = false := by simpa using b2
  have c7 : decide (i < -32768) = false := by simpa using i1
  have c8 : decide (32767 < i) = false := by simpa using i2
  unfold insnV
  unfold wordOf
  by_cases hs : i < 0
  · rw [if_pos hs]
    go_enter Try.func14, Try.ntmps14
    go_wp2
    refine bodyPost_ret (v := .tuple #[.int .u32 (o + 256 * a + 4096 * b + 65536 * (i + 65536)), .int .i64 0]) ?_ rfl ⟨rfl, (Below.refl _ _).alloc (Nat.le_refl _) _⟩
    simp [results, Try.results14, go_sem]
  · rw [if_neg hs]
    go_enter Try.func14, Try.ntmps14
    go_wp2
    refine bodyPost_ret (v := .tuple #[.int .u32 (o + 256 * a + 4096 * b + 65536 * i), .int .i64 0]) ?_ rfl ⟨rfl, (Below.refl _ _).alloc (Nat.le_refl _) _⟩
    simp [results, Try.results14, go_sem]

set_option maxHeartbeats 2000000 in
theorem rencode_bad (o a b i : Int) (w : World) (h : ¬ Fits o a b i) (ho : I64 o) (ha : I64 a) (hb : I64 b) (hi : I64 i) :
    Calls Try.prog 14 #[insnV o a b i] w fun e w' => e = .returned (.tuple #[.int .u32 0, .int .i64 30]) ∧ Below w.heap.size w w' := by
  obtain ⟨ho1, ho2⟩ := ho; obtain ⟨ha1, ha2⟩ := ha; obtain ⟨hb1, hb2⟩ := hb; obtain ⟨hi1, hi2⟩ := hi
  unfold insnV
  have key : (decide (o < 1) || decide (28 < o) || decide (a < 0) || decide (15 < a) || decide (b < 0) || decide (15 < b) || decide (i < -32768) || decide (32767 < i)) = true := by
    simp only [Bool.or_eq_true, decide_eq_true_eq]
    unfold Fits at h
    omega
  clear h
  go_enter Try.func14, Try.ntmps14
  go_wp2
  all_goals exact bodyPost_ret (v := .tuple #[.int .u32 0, .int .i64 30]) (by simp [results, Try.results14, go_sem]) rfl ⟨rfl, (Below.refl _ _).alloc (Nat.le_refl _) _⟩
end Go.Proofs.Ytkoibmpncfbnpaa
