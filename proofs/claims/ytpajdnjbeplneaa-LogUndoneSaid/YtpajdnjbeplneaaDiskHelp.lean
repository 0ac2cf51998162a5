/-
  The law's own helpers: filled and sameInts.
-/
import Derived.Test.YtpajdnjbeplneaaDiskMake
namespace Go.Proofs.Ytpajdnjbeplneaa
open Go.ChangeShapes Go.WideShapes Go.ChangeAt Go.RowKit
set_option linter.unusedVariables false

def fillL (n : Nat) (c : Int) : List Int := (List.range n).map fun (i : Nat) => (c + (i : Int) * 7) % 256
theorem fillL_length (n : Nat) (c : Int) : (fillL n c).length = n := by simp [fillL]
theorem gb_fillL (n i : Nat) (c : Int) (h : i < n) : gb (fillL n c) i = (c + (i : Int) * 7) % 256 := by
  simp [gb, fillL, List.getD, h]
theorem u8_fillL (n : Nat) (c : Int) : U8 (fillL n c) := by
  intro x hx
  obtain ⟨i, _, rfl⟩ := List.mem_map.1 hx
  omega

def FillRel (n : Nat) (c : Int) (w : World) (i : Value) (wr : World) : Prop :=
  ∃ k : Nat, k ≤ n ∧ i = .int .i64 k ∧ Only [] w wr ∧ ∃ ns : List Int, ns.length = n ∧ Blk wr w.heap.size 5 (u8l ns).toArray ∧ ∀ j, j < k → gb ns j = gb (fillL n c) j

def Filled (w w' : World) (e : Ending) (xs : List Int) : Prop :=
  ∃ d, e = .returned (.slice (some ⟨d, 0, none⟩) xs.length xs.length) ∧ w.heap.size ≤ d ∧ Blk w' d 5 (u8l xs).toArray ∧ Only [] w w'



end Go.Proofs.Ytpajdnjbeplneaa