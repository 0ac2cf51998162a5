/-
  A literal slice of records of three cells, as one law (general).
-/
import Derived.Test.YtccobbfinmlgdaaDoorCaEnt
namespace Go.Proofs.YtccobbfinmlgdaaDoor
open Go.ChangeShapes Go.WideShapes Go.ChangeAt Go.RowKit
set_option linter.unusedVariables false
def partsE : Nat → List EN → List Value → List (Nat × Value)
  | i, e :: l, v :: vs => (i, .agg #[.string e.nm, .int .i64 e.cnt, v]) :: partsE (i + 1) l vs
  | _, _, _ => []
theorem fill3 : ∀ (l : List EN) (vs : List Value) (i : Nat) (pre suf : List Value), vs.length = l.length → pre.length = 3 * i → suf.length = 3 * l.length →
    Instr.fill (fun i => some (i * 3, 3)) (pre ++ suf).toArray (partsE i l vs) = some (pre ++ flatE l vs).toArray
  | [], vs, i, pre, suf, h1, h2, h3 => by
    have : suf = [] := List.eq_nil_of_length_eq_zero (by simpa using h3)
    subst this
    cases vs <;> simp [partsE, Instr.fill, flatE]
  | e :: l, [], i, pre, suf, h1, h2, h3 => by simp at h1
  | e :: l, v :: vs, i, pre, suf, h1, h2, h3 => by
    match suf, h3 with
    | a :: b :: c :: suf, h3 =>
      have ih := fill3 l vs (i + 1) (pre ++ [.string e.nm, .int .i64 e.cnt, v]) suf (by simpa using h1) (by simp; omega) (by simp at h3; omega)
      have e1 : ¬ (pre.length + (suf.length + 1 + 1 + 1) < i * 3 + 3) := by omega
      simp only [partsE, Instr.fill, Value.cells]
      have e2 : (((pre ++ a :: b :: c :: suf).toArray.setIfInBounds (i * 3 + 0) (.string e.nm)).setIfInBounds (i * 3 + 1) (.int .i64 e.cnt)).setIfInBounds (i * 3 + 2) v = (pre ++ [.string e.nm, .int .i64 e.cnt, v] ++ suf).toArray := by
        have hp : i * 3 = pre.length := by omega
        rw [hp]
        simp [List.setIfInBounds_toArray]
      simp [e1]
      simp at e2
      rw [e2]
      simpa [flatE] using ih
    | [], h3 => simp at h3
    | [a], h3 => simp at h3; omega
    | [a, b], h3 => simp at h3; omega
theorem run_buildTab (st T : TypeId) (hst : Tryd.prog.underlying st = some (.slice T)) {i : TypeInfo} (hi : Tryd.prog.info? T = some i) {z : Value} (hz : i.zero = some z) (hs : i.size = 3) (l : List EN) (vs : List Value) (n : Nat) (hn : l.length = n) (hv : vs.length = n) (h0 : 0 < n) (h1 : n ≤ 1000) (u : World) :
    (Instr.buildSlice st n (partsE 0 l vs).toArray).run Tryd.prog u = .ok (.slice (some ⟨u.heap.size, 0, none⟩) n n) (u.alloc (.cells (flatE l vs).toArray T)) := by
  have hf : ∀ cells : Array Value, cells.size = 3 * n → Instr.fill (fun i => some (i * 3, 3)) cells (partsE 0 l vs) = some (flatE l vs).toArray := by
    intro cells hc
    have := fill3 l vs 0 [] cells.toList (by omega) rfl (by simp; omega)
    simpa using this
  have n1 : ¬ (16777216 < n * 3) := by omega
  have n2 : ¬ n * 3 = 0 := by omega
  simp only [Instr.buildSlice]
  simp [run_underlying hst, sizeOf, typeInfo, hi, hs, n1]
  rw [if_neg n2]
  simp [zeroValue, typeInfo, hi, hz]
  rw [hf _ (by simp; omega)]
  simp [newRow]
end Go.Proofs.YtccobbfinmlgdaaDoor
