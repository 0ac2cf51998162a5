/-
  What a word's instruction is: Decode and Encode of parapet/insn and of the reference, both by the same plain functions of the word.
-/
import Derived.Test.YtkoibmpncfbnpaaRows
import Derived.Test.YtkoibmpncfbnpaaLib
namespace Go.Proofs.Ytkoibmpncfbnpaa
open Go.ChangeShapes Go.WideShapes Go.ChangeAt Go.RowKit
set_option linter.unusedVariables false

/-- A word's upper half, as a number with a sign. -/
def immOf (w : Int) : Int := if 32768 ≤ w / 65536 then w / 65536 - 65536 else w / 65536
def insnV (o a b i : Int) : Value := .agg #[.int .i64 o, .int .i64 a, .int .i64 b, .int .i64 i]

theorem and15 (x : Int) (h0 : 0 ≤ x) (h1 : x < 4294967296) : bits .and .u32 x 15 = x % 16 := by
  rw [u32_and x 15 h0 h1 (by decide) (by decide)]
  show ((x.toNat &&& 15 : Nat) : Int) = _
  rw [nat_mask4]; omega

theorem decode_bad (v : Int) (w : World) (h0 : 0 ≤ v) (h1 : v < 4294967296) (hop : v % 256 < 1 ∨ 28 < v % 256) :
    Calls Try.prog 10 #[.int .u32 v] w fun e w' => e = .returned (.tuple #[insnV 0 0 0 0, .int .i64 30]) ∧ Below w.heap.size w w' := by
  rcases hop with hop | hop
  all_goals
    go_enter Try.func10, Try.ntmps10
    go_wp2
    exact bodyPost_ret (v := .tuple #[insnV 0 0 0 0, .int .i64 30]) (by simp [results, Try.results10, insnV, go_sem]) rfl ⟨rfl, (Below.refl _ _).alloc (Nat.le_refl _) _⟩

theorem i16_of (x : Int) (h0 : 0 ≤ x) (h1 : x < 65536) : IntKind.i16.wrap x = if 32768 ≤ x then x - 65536 else x := by
  unfold IntKind.wrap
  simp only [IntKind.bits, IntKind.signed]
  by_cases h : 32768 ≤ x
  · rw [if_pos h]; simp; omega
  · rw [if_neg h]; simp; omega

theorem immOf_wf (v : Int) (h0 : 0 ≤ v) (h1 : v < 4294967296) : -32768 ≤ immOf v ∧ immOf v ≤ 32767 := by
  unfold immOf; split <;> omega

theorem decode_ok (v : Int) (w : World) (h0 : 0 ≤ v) (h1 : v < 4294967296) (ho1 : 1 ≤ v % 256) (ho2 : v % 256 ≤ 28) :
    Calls Try.prog 10 #[.int .u32 v] w fun e w' => e = .returned (.tuple #[insnV (v % 256) (v / 256 % 16) (v / 4096 % 16) (immOf v), .int .i64 0]) ∧ Below w.heap.size w w' := by
  have e1 := and15 (v / 256) (by omega) (by omega)
  have e2 := and15 (v / 4096) (by omega) (by omega)
  have e3 : IntKind.i16.wrap (v / 65536) = immOf v := i16_of (v / 65536) (by omega) (by omega)
  obtain ⟨i0, i1⟩ := immOf_wf v h0 h1
  have c1 : decide (v % 256 < 1) = false := by simpa using ho1
  have c2 : decide (28 < v % 256) = false := by simpa using ho2
  go_enter Try.func10, Try.ntmps10
  go_wp2
  exact bodyPost_ret (v := .tuple #[insnV (v % 256) (v / 256 % 16) (v / 4096 % 16) (immOf v), .int .i64 0]) (by simp [results, Try.results10, insnV, go_sem]) rfl ⟨rfl, (Below.refl _ _).alloc (Nat.le_refl _) _⟩

theorem rdecode_bad (v : Int) (w : World) (h0 : 0 ≤ v) (h1 : v < 4294967296) (hop : v % 256 < 1 ∨ 28 < v % 256) :
    Calls Try.prog 11 #[.int .u32 v] w fun e w' => e = .returned (.tuple #[insnV 0 0 0 0, .int .i64 30]) ∧ Below w.heap.size w w' := by
  by_cases hs : 32768 ≤ v / 65536
  all_goals
    rcases hop with hop | hop
    all_goals
      go_enter Try.func11, Try.ntmps11
      go_wp2
      exact bodyPost_ret (v := .tuple #[insnV 0 0 0 0, .int .i64 30]) (by simp [results, Try.results11, insnV, go_sem]) rfl ⟨rfl, ((Below.refl _ _).alloc (Nat.le_refl _) _).alloc (by simp) _⟩

theorem rdecode_ok (v : Int) (w : World) (h0 : 0 ≤ v) (h1 : v < 4294967296) (ho1 : 1 ≤ v % 256) (ho2 : v % 256 ≤ 28) :
    Calls Try.prog 11 #[.int .u32 v] w fun e w' => e = .returned (.tuple #[insnV (v % 256) (v / 256 % 16) (v / 4096 % 16) (immOf v), .int .i64 0]) ∧ Below w.heap.size w w' := by
  have c1 : decide (v % 256 < 1) = false := by simpa using ho1
  have c2 : decide (28 < v % 256) = false := by simpa using ho2
  unfold immOf
  by_cases hs : 32768 ≤ v / 65536
  · rw [if_pos hs]
    go_enter Try.func11, Try.ntmps11
    go_wp2
    exact bodyPost_ret (v := .tuple #[insnV (v % 256) (v / 256 % 16) (v / 4096 % 16) (v / 65536 - 65536), .int .i64 0]) (by simp [results, Try.results11, insnV, go_sem]) rfl ⟨rfl, ((Below.refl _ _).alloc (Nat.le_refl _) _).alloc (by simp) _⟩
  · rw [if_neg hs]
    go_enter Try.func11, Try.ntmps11
    go_wp2
    exact bodyPost_ret (v := .tuple #[insnV (v % 256) (v / 256 % 16) (v / 4096 % 16) (v / 65536), .int .i64 0]) (by simp [results, Try.results11, insnV, go_sem]) rfl ⟨rfl, ((Below.refl _ _).alloc (Nat.le_refl _) _).alloc (by simp) _⟩

/-- The word of an instruction's parts. -/
def wordOf (o a b i : Int) : Int := o + 256 * a + 4096 * b + 65536 * (if i < 0 then i + 65536 else i)
/-- The parts that an instruction may have. -/
def Fits (o a b i : Int) : Prop := 1 ≤ o ∧ o ≤ 28 ∧ 0 ≤ a ∧ a ≤ 15 ∧ 0 ≤ b ∧ b ≤ 15 ∧ -32768 ≤ i ∧ i ≤ 32767
theorem wordOf_in {o a b i : Int} (h : Fits o a b i) : 0 ≤ wordOf o a b i ∧ wordOf o a b i < 4294967296 := by
  unfold Fits at h; unfold wordOf; split <;> omega
theorem wordOf_parts {o a b i : Int} (h : Fits o a b i) : wordOf o a b i % 256 = o ∧ wordOf o a b i / 256 % 16 = a ∧ wordOf o a b i / 4096 % 16 = b ∧ immOf (wordOf o a b i) = i := by
  unfold Fits at h; unfold immOf wordOf; split <;> split <;> omega
theorem wordOf_of (v : Int) (h0 : 0 ≤ v) (h1 : v < 4294967296) : wordOf (v % 256) (v / 256 % 16) (v / 4096 % 16) (immOf v) = v := by
  unfold wordOf immOf; split <;> split <;> omega
theorem fits_of (v : Int) (h0 : 0 ≤ v) (h1 : v < 4294967296) (ho1 : 1 ≤ v % 256) (ho2 : v % 256 ≤ 28) : Fits (v % 256) (v / 256 % 16) (v / 4096 % 16) (immOf v) := by
  unfold Fits; have := immOf_wf v h0 h1; omega
end Go.Proofs.Ytkoibmpncfbnpaa
