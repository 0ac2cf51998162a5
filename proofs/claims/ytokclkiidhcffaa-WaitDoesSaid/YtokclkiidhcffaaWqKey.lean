/-
  Sleepers (parapet/waitq): channels as keys of maps.
-/
import Derived.Test.YtokclkiidhcffaaWqApp
import Derived.Test.YtokclkiidhcffaaRows
import Derived.Maps.Own
import Derived.Maps.OwnSet
import Derived.Maps.OwnOps
import Derived.Maps.RangeWalk
import Derived.Maps.Ext
import Derived.DeepKeys4
namespace Go.Proofs.Ytokclkiidhcffaa
open Go.ChangeShapes Go.WideShapes Go.ChangeAt Go.RowKit Go.Maps
set_option linter.unusedVariables false

theorem laidOut : laidOutB Try.prog = true := by kernel_rfl
theorem rowKey : (32 : TypeId) < Try.prog.types.size := of_decide_eq_true (by kernel_rfl)
set_option maxRecDepth 100000 in
theorem deepKey : Try.prog.keyTypeAt 2 32 = true := by kernel_rfl
theorem lawKey : Keyed Try.prog 32 := Keyed.of_law (deep_law_laid laidOut (m := 2) (by omega) rowKey deepKey (by rw [Try.underlying32]))
theorem cellsKey : Try.prog.cellsOf 32 = 3 := by kernel_rfl
theorem cellsInt : Try.prog.cellsOf 3 = 1 := by kernel_rfl

/-- All three are ints. -/
def CH.wf (k : CH) : Prop := (Lit.int .i64 k.kind).wf = true ∧ (Lit.int .i64 k.a).wf = true ∧ (Lit.int .i64 k.b).wf = true
abbrev kV (k : CH) : Value := .agg #[.int .i64 k.kind, .int .i64 k.a, .int .i64 k.b]
def kL (k : CH) : Lit := .string (keyBytes [.int .i64 k.kind, .int .i64 k.a, .int .i64 k.b])
theorem keyLits_int (m : Nat) {x : Int} (hx : (Lit.int .i64 x).wf = true) : Try.prog.keyLits (m + 1) 3 [.int .i64 x] = some [.int .i64 x] := by
  unfold Program.keyLits
  rw [Try.underlying3]
  simp [hx]
theorem keyLits_key (m : Nat) {k : CH} (h : k.wf) : Try.prog.keyLits (m + 2) 32 [.int .i64 k.kind, .int .i64 k.a, .int .i64 k.b] = some [.int .i64 k.kind, .int .i64 k.a, .int .i64 k.b] := by
  unfold Program.keyLits
  rw [Try.underlying32]
  simp [cellsKey, cellsInt, keyLits_int m h.1, keyLits_int m h.2.1, keyLits_int m h.2.2]
theorem keyOf_kV {k : CH} (h : k.wf) : keyOf Try.prog 32 (kV k) = some (kL k) := by
  have h1 : Try.prog.keyType 32 = true := by kernel_rfl
  have hf : (kV k).formed Try.prog 32 = true := by simp [Value.formed, Try.underlying32, cellsKey]
  have hsz : Try.prog.types.size + 1 = (Try.prog.types.size - 1) + 2 := by
    have : 1 ≤ Try.prog.types.size := Nat.le_trans (by decide) rowKey
    omega
  unfold keyOf
  rw [Try.underlying32]
  simp only [h1, hf, Bool.and_self, if_true, hsz]
  rw [show (kV k).cells.toList = [.int .i64 k.kind, .int .i64 k.a, .int .i64 k.b] from rfl, keyLits_key _ h]
  rfl
theorem kL_inj {k k' : CH} (h : k.wf) (h' : k'.wf) (e : kL k = kL k') : k = k' := by
  have := lawKey.inj (keyOf_kV h) (e ▸ keyOf_kV h')
  simp [kV] at this
  cases k; cases k'
  simp_all
theorem kL_key (k : CH) : WideAt.IsKeyLit (kL k) := trivial
end Go.Proofs.Ytokclkiidhcffaa
