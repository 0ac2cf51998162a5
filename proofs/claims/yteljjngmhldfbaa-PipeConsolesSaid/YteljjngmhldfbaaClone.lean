/-
  bytes.Clone, and what a new slice of bytes is: 'Fresh w B v xs': v is a slice of the bytes xs at the head of a block from B on.
-/
import Derived.Test.YteljjngmhldfbaaRows
import Derived.Test.YteljjngmhldfbaaLib
import Derived.OwnWalk
namespace Go.Proofs.Yteljjngmhldfbaa
open Go.ChangeShapes Go.WideShapes Go.ChangeAt Go.RowKit
set_option linter.unusedVariables false

theorem info_u8 : (Try.prog.info? 5).map (fun i => (i.zero, i.size, i.bytes)) = some (some (.int .u8 0), 1, 1) := by kernel_rfl

def Fresh (w : World) (B : Nat) (v : Value) (xs : List Int) : Prop :=
  ∃ (d c : Nat) (r : List Value), v = .slice (some ⟨d, 0, none⟩) xs.length c ∧ B ≤ d ∧ Blk w d 5 (u8l xs ++ r).toArray ∧ xs.length + r.length = c

theorem add_at (d o j : Nat) : (⟨d, o, none⟩ : Addr).add j = ⟨d, o + j, none⟩ := by
  unfold Addr.add
  by_cases h : j = 0 <;> simp [h]

theorem Fresh.of_own {w : World} {B : Nat} {v : Value} {xs : List Int} {n : Nat} (h : w.ownsRow B 5 1 v n (u8l xs)) (hv : v ≠ .slice none 0 0) : Fresh w B v xs := by
  obtain ⟨hl, h⟩ := h
  rcases h with ⟨rfl, _⟩ | ⟨g, cap, cur, rfl, hB, hg, hn, hm, hs, ht⟩
  · exact absurd rfl hv
  · have hx : xs.length = n := by simpa [u8l] using hl
    refine ⟨g, cap, cur.toList.drop n, by rw [hx], hB, ?_, ?_⟩
    · show w.heap[g]? = _
      rw [hg]
      have : u8l xs ++ cur.toList.drop n = cur.toList := by
        rw [← ht, Nat.mul_one]; exact List.take_append_drop n cur.toList
      rw [this]
    · simp [hs]; omega

theorem clone_ok (ad : Addr) (n c : Nat) (xs : List Int) (w : World) (hx : xs.length = n) (hbig : n ≤ 140737488355328) (hc : ∀ i, i < n → w.cell? (ad.add i) = some (.int .u8 (gb xs i))) :
    Calls Try.prog 46 #[.slice (some ad) n c] w fun e w' => ∃ v', e = .returned v' ∧ Fresh w' w.heap.size v' xs ∧ Only [] w w' := by
  obtain ⟨i0, hi, hz0, hz1, hz2⟩ := info_parts info_u8
  have q22 : ∀ (w : World) (a : Option Addr) (n c n' c' : Nat), (binOp .eql 29 (.slice a n c) (.slice none n' c')).run Try.prog w = .ok (.bool a.isNone) w := fun w a n c n' c' => Lib.run_eql_slice_nil w _ _ a n c n' c' Try.underlying29
  have A := hide hc
  clear hc
  go_enter Try.func46, Try.ntmps46
  go_wp2_with (at_builtin; refine wpList_append_own _ rfl _ _ 29 rfl w.heap.size 5 i0 (.int .u8 0) 1 1 Try.underlying29 hi hz0 hz1 hz2 rfl (by decide) _ _ _ rfl (World.ownsRow_made w #[] 0 (Nat.le_refl _) (Nat.zero_le _) rfl) ad n c (u8l xs) rfl ?qc1 ?qc2 ?qc3 ?qc4 ?qc5 ?qc6 ?_)
  case qc1 => rw [u8l_length]; omega
  case qc2 =>
    intro j u hj
    have hjn : j < n := by
      have := (List.getElem?_eq_some_iff.1 hj).1
      rw [u8l_length] at this
      omega
    refine Lib.cell?_alloc_some _ ?_
    rw [A.out j hjn]
    have e : (u8l xs)[j]? = some (Value.int .u8 (gb xs j)) := by simp [u8l, gb, List.getD, List.getElem?_eq_getElem (show j < xs.length by omega)]
    rw [e] at hj
    exact hj
  case qc3 => exact u8l_one xs
  case qc4 => unfold maxLen; omega
  case qc5 => omega
  case qc6 => simp
  intro v' w1 hown hgrow hnil
  have hf : Fresh w1 w.heap.size v' xs := Fresh.of_own (n := n) (by simpa using hown) hnil
  have ho : Only [] w w1 := Only.of_below (((Below.refl _ w).alloc (Nat.le_refl _) _).grown hgrow (by simp) (by intro k hk; simp [Value.ownBlock] at hk; omega))
  clear hown hgrow hnil A q22
  go_wp2
  go_ret
  exact ⟨v', rfl, hf, ho⟩

theorem clone_nil (n c : Nat) (w : World) : Calls Try.prog 46 #[.slice none n c] w fun e w' => e = .returned (.slice none 0 0) ∧ w = w' := by
  have q22 : ∀ (w : World) (a : Option Addr) (n c n' c' : Nat), (binOp .eql 29 (.slice a n c) (.slice none n' c')).run Try.prog w = .ok (.bool a.isNone) w := fun w a n c n' c' => Lib.run_eql_slice_nil w _ _ a n c n' c' Try.underlying29
  go_enter Try.func46, Try.ntmps46
  go_wp2
  go_ret
  exact ⟨rfl, rfl⟩
end Go.Proofs.Yteljjngmhldfbaa
