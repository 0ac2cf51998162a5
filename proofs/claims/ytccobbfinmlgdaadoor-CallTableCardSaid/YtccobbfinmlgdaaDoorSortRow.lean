/-
  slices.Sort over a row of ints of one's own.
-/
import Derived.Test.YtccobbfinmlgdaaDoorKRow
import Derived.Test.YtccobbfinmlgdaaDoorShelf
import Derived.Sort.OwnSortedInts
namespace Go.Proofs.YtccobbfinmlgdaaDoor
open Go.ChangeShapes Go.WideShapes Go.ChangeAt Go.RowKit Go.Sort
set_option linter.unusedVariables false

def sortK (ns : List Int) : List Int := ns.mergeSort fun x y => decide (x ≤ y)
theorem sortK_length (ns : List Int) : (sortK ns).length = ns.length := List.length_mergeSort _
theorem sortK_perm (ns : List Int) : (sortK ns).Perm ns := List.mergeSort_perm _ _
theorem sortK_rises (ns : List Int) : (sortK ns).Pairwise (· ≤ ·) := by
  have := List.pairwise_mergeSort (le := fun x y : Int => decide (x ≤ y)) (by intro a b c h1 h2; simp at *; omega) (by intro a b; simp; omega) ns
  exact this.imp (by intro a b h; simpa using h)
/-- What is sorted is one. -/
theorem sortK_congr {a b : List Int} (h : a.Perm b) : sortK a = sortK b :=
  List.Perm.eq_of_pairwise (le := (· ≤ ·)) (by intro x y _ _ h1 h2; omega) (sortK_rises a) (sortK_rises b) (((sortK_perm a).trans h).trans (sortK_perm b).symm)

theorem KRow.blk {w : World} {B : Nat} {v : Value} {ns : List Int} (h : KRow .i64 3 w B v ns) (hn : 0 < ns.length) :
    ∃ b cap cur, v = .slice (some ⟨b, 0, none⟩) ns.length cap ∧ B ≤ b ∧ Blk w b 3 (ns.map (Value.int .i64) ++ cur).toArray ∧ ns.length + cur.length = cap ∧ cap ≤ maxLen := by
  rcases h.2 with ⟨_, h0⟩ | ⟨b, cap, cur, e, hB, hg, hnc, hm, hs, ht⟩
  · simp at h0; rw [h0] at hn; simp at hn
  · rw [Nat.mul_one] at ht hs
    refine ⟨b, cap, cur.toList.drop ns.length, e, hB, ?_, ?_, hm⟩
    · have : ns.map (Value.int .i64) ++ cur.toList.drop ns.length = cur.toList := by
        rw [show ns.map (Value.int .i64) = cur.toList.take ns.length from ht.symm, List.take_append_drop]
      rw [this]
      exact hg
    · simp [hs]; omega
theorem sort_k {w : World} {B : Nat} {v : Value} {ns : List Int} (h : KRow .i64 3 w B v ns) (hl : ns.length ≤ 4000000000000) : Calls Tryd.prog 43 #[v] w fun e w' => e = .returned (.tuple #[]) ∧ KRow .i64 3 w' B v (sortK ns) ∧ Only v.ownBlock.toList w w' := by
  by_cases hp : 0 < ns.length
  · obtain ⟨b, cap, cur, rfl, hB, hb, hcl, hm⟩ := h.blk hp
    refine (Tryd.slices_Sort_int b 0 cap ns w (holds_of_blockI (e := 3) hb (by simp)) hb.lt (by omega)).mono ?_
    rintro e w' ⟨rfl, n, os, rfl⟩
    refine ⟨rfl, ?_, only_grown' (grownBy_sortedI _)⟩
    have := ownsRow_sortedI (base := B) (n := n) (os := os) (ss := ns) (ts := sortK ns) (cap := cap) (sortK_length ns) hB hb (by omega) hm (by simp; omega)
    unfold KRow
    rw [sortK_length]
    exact this
  · obtain rfl : ns = [] := List.eq_nil_of_length_eq_zero (by omega)
    obtain ⟨A, c, rfl, -⟩ := h.form
    refine (Tryd.slices_Sort_int_none A c w).mono ?_
    rintro e w' ⟨rfl, rfl⟩
    refine ⟨rfl, ?_, Only.refl _ _⟩
    have : sortK [] = [] := List.eq_nil_of_length_eq_zero (by rw [sortK_length]; rfl)
    rw [this]
    exact h
end Go.Proofs.YtccobbfinmlgdaaDoor
