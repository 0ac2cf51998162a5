/-
  Calls: Word of the program and of the document.
-/
import Derived.Test.YtccobbfinmlgdaaDoorCaXDecode
import Derived.Deep.CondSized
namespace Go.Proofs.YtccobbfinmlgdaaDoor
open Go.ChangeShapes Go.WideShapes Go.ChangeAt Go.RowKit
set_option linter.unusedVariables false

def wordL : List (Int × ByteArray) := [(2, ⟨#[69, 78, 79, 69, 78, 84]⟩), (3, ⟨#[69, 83, 82, 67, 72]⟩), (8, ⟨#[69, 78, 79, 69, 88, 69, 67]⟩), (9, ⟨#[69, 66, 65, 68, 70]⟩), (10, ⟨#[69, 67, 72, 73, 76, 68]⟩), (11, ⟨#[69, 65, 71, 65, 73, 78]⟩), (12, ⟨#[69, 78, 79, 77, 69, 77]⟩), (14, ⟨#[69, 70, 65, 85, 76, 84]⟩), (16, ⟨#[69, 66, 85, 83, 89]⟩), (17, ⟨#[69, 69, 88, 73, 83, 84]⟩), (20, ⟨#[69, 78, 79, 84, 68, 73, 82]⟩), (21, ⟨#[69, 73, 83, 68, 73, 82]⟩), (22, ⟨#[69, 73, 78, 86, 65, 76]⟩), (23, ⟨#[69, 78, 70, 73, 76, 69]⟩), (24, ⟨#[69, 77, 70, 73, 76, 69]⟩), (27, ⟨#[69, 70, 66, 73, 71]⟩), (28, ⟨#[69, 78, 79, 83, 80, 67]⟩), (31, ⟨#[69, 77, 76, 73, 78, 75]⟩), (32, ⟨#[69, 80, 73, 80, 69]⟩), (36, ⟨#[69, 78, 65, 77, 69, 84, 79, 79, 76, 79, 78, 71]⟩), (38, ⟨#[69, 78, 79, 83, 89, 83]⟩), (39, ⟨#[69, 78, 79, 84, 69, 77, 80, 84, 89]⟩)]
def flatW : List (Int × ByteArray) → List Value
  | [] => []
  | (n, s) :: l => .int .i64 n :: .string s :: flatW l
def partsW : Nat → List (Int × ByteArray) → List (Nat × Value)
  | _, [] => []
  | i, (n, s) :: l => (i, .agg #[.int .i64 n, .string s]) :: partsW (i + 1) l
theorem fillW : ∀ (l : List (Int × ByteArray)) (i : Nat) (pre suf : List Value), pre.length = 2 * i → suf.length = 2 * l.length →
    Instr.fill (fun i => some (i * 2, 2)) (pre ++ suf).toArray (partsW i l) = some (pre ++ flatW l).toArray
  | [], i, pre, suf, h2, h3 => by
    have : suf = [] := List.eq_nil_of_length_eq_zero (by simpa using h3)
    subst this
    simp [partsW, Instr.fill, flatW]
  | (n, s) :: l, i, pre, suf, h2, h3 => by
    match suf, h3 with
    | a :: b :: suf, h3 =>
      have ih := fillW l (i + 1) (pre ++ [Value.int .i64 n, Value.string s]) suf (by simp; omega) (by simp at h3; omega)
      have e1 : ¬ (pre.length + (suf.length + 1 + 1) < i * 2 + 2) := by omega
      simp only [partsW, Instr.fill, Value.cells]
      have e2 : ((pre ++ a :: b :: suf).toArray.setIfInBounds (i * 2 + 0) (Value.int .i64 n)).setIfInBounds (i * 2 + 1) (Value.string s) = (pre ++ [Value.int .i64 n, Value.string s] ++ suf).toArray := by
        have hp : i * 2 = pre.length := by omega
        rw [hp]
        simp [List.setIfInBounds_toArray]
      simp [e1]
      simp at e2
      rw [e2]
      simpa [flatW] using ih
    | [], h3 => simp at h3
    | [a], h3 => simp at h3; omega
theorem info_word : (Tryd.prog.info? 66).map (fun i => (i.zero, i.size, i.bytes)) = some (some (.agg #[.int .i64 0, .string .empty]), 2, 24) := by kernel_rfl
theorem run_buildW (l : List (Int × ByteArray)) (n : Nat) (hn : l.length = n) (h0 : 0 < n) (h1 : n ≤ 1000) (u : World) :
    (Instr.buildSlice 64 n (partsW 0 l).toArray).run Tryd.prog u = .ok (.slice (some ⟨u.heap.size, 0, none⟩) n n) (u.alloc (.cells (flatW l).toArray 66)) := by
  obtain ⟨i0, hi, hz, hs, -⟩ := info_parts info_word
  have hf : ∀ cells : Array Value, cells.size = 2 * n → Instr.fill (fun i => some (i * 2, 2)) cells (partsW 0 l) = some (flatW l).toArray := by
    intro cells hc
    have := fillW l 0 [] cells.toList rfl (by simp; omega)
    simpa using this
  have n1 : ¬ (16777216 < n * 2) := by omega
  have n2 : ¬ n * 2 = 0 := by omega
  simp only [Instr.buildSlice]
  simp [run_underlying Tryd.underlying64, sizeOf, typeInfo, hi, hs, n1]
  rw [if_neg n2]
  try simp [zeroValue, typeInfo, hi, hz]
  rw [hf _ (by simp; omega)]
  simp [newRow]
set_option maxRecDepth 100000 in
theorem cwords_is (w : World) : Calls Tryd.prog 38 #[] w fun e w' => ∃ b, e = .returned (.slice (some ⟨b, 0, none⟩) 22 22) ∧ w.heap.size ≤ b ∧ Blk w' b 66 (flatW wordL).toArray ∧ Only [] w w' := by
  go_enter Tryd.func38, Tryd.ntmps38
  go_wp2_with (refine wpList_buildSlice rfl 64 22 _ rfl _ (by simp [partsW, wordL, Act.eval]) _ _ (run_buildW wordL 22 rfl (by decide) (by decide) _) ?_)
  go_ret
  exact ⟨_, rfl, Nat.le_refl _, Blk.new _ _ _, (Only.refl _ _).alloc _⟩
theorem flatW_get : ∀ (l : List (Int × ByteArray)) (i : Nat) (n : Int) (s : ByteArray), l[i]? = some (n, s) → (flatW l)[2 * i]? = some (.int .i64 n) ∧ (flatW l)[2 * i + 1]? = some (.string s)
  | [], i, n, s, h => by simp at h
  | a :: l, 0, n, s, h => by simp at h; subst h; simp [flatW]
  | (m, t) :: l, i + 1, n, s, h => by
    have := flatW_get l i n s (by simpa using h)
    simpa [flatW, Nat.mul_add, Nat.add_assoc] using this
end Go.Proofs.YtccobbfinmlgdaaDoor
