/-
  bytes.Clone, and what a new slice of bytes is: 'Fresh w B v xs': v is a slice of the bytes xs at the head of a block from B on.
-/
import Derived.Test.YtccobbfinmlgdaaDoorRows
import Derived.Test.YtccobbfinmlgdaaDoorLib
import Derived.OwnWalk
namespace Go.Proofs.YtccobbfinmlgdaaDoor
open Go.ChangeShapes Go.WideShapes Go.ChangeAt Go.RowKit
set_option linter.unusedVariables false

theorem info_u8 : (Tryd.prog.info? 5).map (fun i => (i.zero, i.size, i.bytes)) = some (some (.int .u8 0), 1, 1) := by kernel_rfl

def Fresh (w : World) (B : Nat) (v : Value) (xs : List Int) : Prop :=
  ∃ (d c : Nat) (r : List Value), v = .slice (some ⟨d, 0, none⟩) xs.length c ∧ B ≤ d ∧ Blk w d 5 (u8l xs ++ r).toArray ∧ xs.length + r.length = c

theorem add_at (d o j : Nat) : (⟨d, o, none⟩ : Addr).add j = ⟨d, o + j, none⟩ := by
  unfold Addr.add
  by_cases h : j = 0 <;> simp [h]

theorem Fresh.of_own {w : World} {B : Nat} {v : Value} {xs : List Int} {n : Nat} (h : w.ownsRow B 5 1 v n (u8l xs)) (hv : v ≠ .slice none 0 0) : Fresh w B v xs := by
  obtain ⟨hl, h⟩ := h
  rcases h with ⟨rfl, _⟩ | ⟨g, cap, cur, rfl, hB, hg, hn, hm, hs, ht⟩
  · exact absurd rfl hv
  · have hx : xs.length = n := by simpa [u8l] using hl
    refine ⟨g, cap, cur.toList.drop n, by rw [hx], hB, ?_, ?_⟩
    · show w.heap[g]? = _
      rw [hg]
      have : u8l xs ++ cur.toList.drop n = cur.toList := by
        rw [← ht, Nat.mul_one]; exact List.take_append_drop n cur.toList
      rw [this]
    · simp [hs]; omega



end Go.Proofs.YtccobbfinmlgdaaDoor