/-
  What the exported calls of a memory (parapet/phys) come to: Write, frames, Fork, New.
-/
import Derived.Test.YtfbegickdnjfcaaPhysRest
namespace Go.Proofs.Ytfbegickdnjfcaa
open Go.ChangeShapes Go.WideShapes Go.ChangeAt Go.RowKit
set_option linter.unusedVariables false

theorem zero_u8 (w : World) : (zeroValue 5).run Try.prog w = .ok (.int .u8 0) w := by kernel_rfl
theorem size_u8 : (Try.prog.info? 5).map (·.size) = some 1 := by kernel_rfl

section
variable {w : World} {g d cap : Nat} {xs : List Int} {r : List Value} (hm : IsMem w g d cap xs r)
include hm

/-- clear of a row of bytes inside the memory. -/
theorem run_clear_mem (i n c : Nat) (hn : 0 < n) (hi : i + n ≤ xs.length) :
    ∃ w1, (∀ ty, (Builtin.clear_ #[51] ty #[.slice (some ⟨d, i, none⟩) n c]).run Try.prog w = .ok (.tuple #[]) w1) ∧ Only [d] w w1 ∧ IsMem w1 g d cap (Go.splice xs i (List.replicate n 0)) r := by
  have hz : (Builtin.zeroCells (Value.int .u8 0).cells n).toList = u8l (List.replicate n 0) := by
    have hzz : (Value.int .u8 0).cells = #[Value.int .u8 0] := rfl
    rw [hzz]
    simp [Builtin.zeroCells, u8l]
    apply List.ext_getElem
    · simp
    · intro i h1 h2
      simp [Nat.mod_one]
  have hl := hm.lay (i := i) (List.replicate n 0) (by simpa using hi)
  have hst := run_storeCells_at Try.prog d i 5 (u8l (List.replicate n 0)) 0 _ w hm.row (by have := hm.cap; simp [u8l]; omega) (u8l_one _)
  refine ⟨_, fun ty => ?_, ?_, hl⟩
  · obtain ⟨m, rfl⟩ : ∃ m, n = m + 1 := ⟨n - 1, by omega⟩
    simp only [Nat.add_zero] at hst
    simp [Builtin.clear_, hz, hst, run_underlying Try.underlying51]
  · exact (Only.refl _ _).setRow _ (by simp)

/-- copy of n bytes, from wherever they lie, into the memory. -/
theorem run_copy_mem (i n c sLen sCap : Nat) (ad : Addr) (ys : List Int) (hy : ys.length = Nat.min sLen n) (hi : i + ys.length ≤ xs.length) (hc : ∀ j, j < ys.length → w.cell? (ad.add j) = some (.int .u8 (gb ys j))) :
    ∃ w1, (∀ ty, (Builtin.copy_ #[51, 51] ty #[.slice (some ⟨d, i, none⟩) n c, .slice (some ad) sLen sCap]).run Try.prog w = .ok (goInt ys.length) w1) ∧ Only [d] w w1 ∧ IsMem w1 g d cap (Go.splice xs i ys) r := by
  have hl := hm.lay (i := i) ys hi
  refine ⟨_, fun ty => ?_, ?_, hl⟩
  · have h := run_copy_row (P := Try.prog) w 51 51 ty 5 d i n c ad sLen sCap _ 5 (u8l ys) Try.underlying51 size_u8 hm.row (by rw [u8l_length]; exact hy) (by
      intro j v hj
      have hjn : j < ys.length := by
        have := (List.getElem?_eq_some_iff.1 hj).1
        rw [u8l_length] at this
        exact this
      rw [hc j hjn]
      have e : (u8l ys)[j]? = some (Value.int .u8 (gb ys j)) := by simp [u8l, gb, List.getD, List.getElem?_eq_getElem hjn]
      rw [e] at hj
      exact hj) (by have := hm.cap; simp [u8l]; omega) (u8l_one _)
    rw [List.append_assoc, u8l_length] at h
    rw [u8l_length]
    exact h
  · exact (Only.refl _ _).setRow _ (by simp)







theorem frame_ok (n : Int) (h0 : 0 ≤ n) (hn : 256 * n + 256 ≤ xs.length) :
    Calls Try.prog 43 #[.pointer (some ⟨g, 0, none⟩), .int .i64 n] w fun e w' => e = .returned (.tuple #[.slice (some ⟨d, 256 * n.toNat, none⟩) 256 256, .int .i64 0]) ∧ w = w' := by
  have h2 := hm.big
  have h3 := hm.mul
  have e1 : (n * 256).toNat = 256 * n.toNat := by omega
  have HS := hide (span_ok hm (n * 256) 256 (by omega) (by decide) (by omega))
  rw [e1] at HS
  clear e1
  have HC := hide (closed_is hm)
  have HF := hide (frames_is hm)
  have hge : decide ((xs.length : Int) / 256 ≤ n) = false := by simp; omega
  clear hm
  go_enter Try.func43, Try.ntmps43
  go_wp2_with (first | (go_at_call 42; refine HC.out.mono ?_; rintro e w' ⟨rfl, rfl⟩) | (go_at_call 17; refine HF.out.mono ?_; rintro e w' ⟨rfl, rfl⟩) | (go_at_call 44; refine HS.out.mono ?_; rintro e w' ⟨rfl, rfl⟩))
  go_ret2
  exact ⟨rfl, rfl⟩

theorem frame_bad (n : Int) (hn : n < 0 ∨ xs.length < 256 * n + 256) :
    Calls Try.prog 43 #[.pointer (some ⟨g, 0, none⟩), .int .i64 n] w fun e w' => e = .returned (.tuple #[.slice none 0 0, .int .i64 10]) ∧ w = w' := by
  have h2 := hm.big
  have h3 := hm.mul
  have HC := hide (closed_is hm)
  have HF := hide (frames_is hm)
  clear hm
  by_cases h0 : n < 0
  · clear hn
    go_enter Try.func43, Try.ntmps43
    go_wp2_with (first | (go_at_call 42; refine HC.out.mono ?_; rintro e w' ⟨rfl, rfl⟩) | (go_at_call 17; refine HF.out.mono ?_; rintro e w' ⟨rfl, rfl⟩))
    go_ret2
    exact ⟨rfl, rfl⟩
  · have hge : decide ((xs.length : Int) / 256 ≤ n) = true := by simp; omega
    clear hn
    go_enter Try.func43, Try.ntmps43
    go_wp2_with (first | (go_at_call 42; refine HC.out.mono ?_; rintro e w' ⟨rfl, rfl⟩) | (go_at_call 17; refine HF.out.mono ?_; rintro e w' ⟨rfl, rfl⟩))
    go_ret2
    exact ⟨rfl, rfl⟩
end
end Go.Proofs.Ytfbegickdnjfcaa
