/-
  What every call of a nil disk (parapet/disk) comes to; no block turns.
-/
import Derived.Test.YtokdpldmoflnkaaMg06
namespace Go.Proofs.Ytokdpldmoflnkaa
open Go.ChangeShapes Go.WideShapes Go.ChangeAt Go.RowKit
set_option linter.unusedVariables false

theorem dread_nil (w : World) (n : Int) : Calls Try.prog 41 #[.pointer none, .int .i64 n] w fun e w' => e = .returned (.tuple #[.slice none 0 0, .int .i64 6]) ∧ w = w' := by
  go_enter Try.func41, Try.ntmps41
  go_wp2_with (go_at_call 62; refine (dclosed_nil _).mono ?_; rintro e w' ⟨rfl, rfl⟩)
  go_ret2
  exact ⟨rfl, rfl⟩

theorem dwrite_nil (w : World) (n : Int) (A : Option Addr) (m c : Nat) : Calls Try.prog 88 #[.pointer none, .int .i64 n, .slice A m c] w fun e w' => e = .returned (.int .i64 6) ∧ w = w' := by
  go_enter Try.func88, Try.ntmps88
  go_wp2_with (go_at_call 62; refine (dclosed_nil _).mono ?_; rintro e w' ⟨rfl, rfl⟩)
  go_ret
  exact ⟨rfl, rfl⟩

theorem dflush_nil (w : World) : Calls Try.prog 82 #[.pointer none] w fun e w' => e = .returned (.int .i64 0) ∧ w = w' := by
  go_enter Try.func82, Try.ntmps82
  go_wp2_with (go_at_call 62; refine (dclosed_nil _).mono ?_; rintro e w' ⟨rfl, rfl⟩)
  go_ret
  exact ⟨rfl, rfl⟩

theorem dpending_nil (w : World) : Calls Try.prog 37 #[.pointer none] w fun e w' => e = .returned (.slice none 0 0) ∧ w = w' := by
  go_enter Try.func37, Try.ntmps37
  go_wp2_with (go_at_call 62; refine (dclosed_nil _).mono ?_; rintro e w' ⟨rfl, rfl⟩)
  go_ret
  exact ⟨rfl, rfl⟩

theorem dimage_nil (w : World) : Calls Try.prog 39 #[.pointer none] w fun e w' => e = .returned (.slice none 0 0) ∧ w = w' := by
  go_enter Try.func39, Try.ntmps39
  go_wp2_with (go_at_call 62; refine (dclosed_nil _).mono ?_; rintro e w' ⟨rfl, rfl⟩)
  go_ret
  exact ⟨rfl, rfl⟩

theorem dcount_nil (w : World) : Calls Try.prog 65 #[.pointer none] w fun e w' => e = .returned (.int .i64 0) ∧ w = w' := by
  go_enter Try.func65, Try.ntmps65
  go_wp2_with (go_at_call 62; refine (dclosed_nil _).mono ?_; rintro e w' ⟨rfl, rfl⟩)
  go_ret
  exact ⟨rfl, rfl⟩









end Go.Proofs.Ytokdpldmoflnkaa
/-
  The law's own helpers: filled and sameInts.
-/
namespace Go.Proofs.Ytokdpldmoflnkaa
open Go.ChangeShapes Go.WideShapes Go.ChangeAt Go.RowKit
set_option linter.unusedVariables false

def fillL (n : Nat) (c : Int) : List Int := (List.range n).map fun (i : Nat) => (c + (i : Int) * 7) % 256
theorem fillL_length (n : Nat) (c : Int) : (fillL n c).length = n := by simp [fillL]
theorem gb_fillL (n i : Nat) (c : Int) (h : i < n) : gb (fillL n c) i = (c + (i : Int) * 7) % 256 := by
  simp [gb, fillL, List.getD, h]
theorem u8_fillL (n : Nat) (c : Int) : U8 (fillL n c) := by
  intro x hx
  obtain ⟨i, _, rfl⟩ := List.mem_map.1 hx
  omega

def FillRel (n : Nat) (c : Int) (w : World) (i : Value) (wr : World) : Prop :=
  ∃ k : Nat, k ≤ n ∧ i = .int .i64 k ∧ Only [] w wr ∧ ∃ ns : List Int, ns.length = n ∧ Blk wr w.heap.size 5 (u8l ns).toArray ∧ ∀ j, j < k → gb ns j = gb (fillL n c) j

def Filled (w w' : World) (e : Ending) (xs : List Int) : Prop :=
  ∃ d, e = .returned (.slice (some ⟨d, 0, none⟩) xs.length xs.length) ∧ w.heap.size ≤ d ∧ Blk w' d 5 (u8l xs).toArray ∧ Only [] w w'



end Go.Proofs.Ytokdpldmoflnkaa
/-
  The law's own 'awake': the chapter's example holds.
-/
namespace Go.Proofs.Ytokdpldmoflnkaa
open Go.ChangeShapes Go.WideShapes Go.ChangeAt Go.RowKit
set_option linter.unusedVariables false

def Fill5 (w w' : World) (e : Ending) (xs : List Int) : Prop :=
  ∃ d, e = .returned (.slice (some ⟨d, 0, none⟩) 512 512) ∧ w.heap.size ≤ d ∧ Blk w' d 5 (u8l xs).toArray ∧ Only [] w w'



theorem blk_gb {w : World} {d : Nat} {xs : List Int} (h : Blk w d 5 (u8l xs).toArray) (i : Nat) (hi : i < xs.length) : w.cell? ⟨d, 0 + i, none⟩ = some (.int .u8 (gb xs i)) := by
  rw [Nat.zero_add, h.cell]
  simp [u8l, gb, List.getD, List.getElem?_eq_getElem hi]

theorem gb_splice_ (L cs : List Int) (o j : Nat) (h : o + cs.length ≤ L.length) : gb (Go.splice L o cs) j = if o ≤ j ∧ j < o + cs.length then gb cs (j - o) else gb L j := by
  unfold gb List.getD Go.splice
  congr 1
  have ht : (L.take o).length = o := by simp; omega
  by_cases h1 : j < o
  · rw [if_neg (by omega), List.getElem?_append_left (by omega), List.getElem?_take, if_pos h1]
  · rw [List.getElem?_append_right (by omega), ht]
    by_cases h2 : j < o + cs.length
    · rw [if_pos ⟨by omega, h2⟩, List.getElem?_append_left (by omega)]
    · rw [if_neg (by omega), List.getElem?_append_right (by omega), List.getElem?_drop]
      exact congrArg (fun k => L[k]?.getD 0) (show o + cs.length + (j - o - cs.length) = j by omega)

end Go.Proofs.Ytokdpldmoflnkaa
