/-
  What the calls of the document's own memory (parapetref01) come to: ranges of bytes, frames, New.
-/
import Derived.Test.YtfkbgnoppigdnaaRef01
import Derived.BigRegion
import Derived.ChangeAlike
namespace Go.Proofs.Ytfkbgnoppigdnaa
open Go.ChangeShapes Go.WideShapes Go.ChangeAt Go.RowKit
set_option linter.unusedVariables false

theorem splice_set (xs ys : List Int) (a k : Nat) (hk : k < ys.length) (ha : a + ys.length ≤ xs.length) :
    (Go.splice xs a (ys.take k)).set (a + k) (gb ys k) = Go.splice xs a (ys.take (k + 1)) := by
  unfold Go.splice
  have h1 : (xs.take a).length = a := by simp; omega
  have h2 : (ys.take k).length = k := by simp; omega
  have h3 : (ys.take (k + 1)).length = k + 1 := by simp; omega
  have e1 : xs.drop (a + k) = gb xs (a + k) :: xs.drop (a + (k + 1)) := by
    rw [List.drop_eq_getElem_cons (show a + k < xs.length by omega)]
    simp [gb, List.getD, List.getElem?_eq_getElem (show a + k < xs.length by omega), Nat.add_assoc]
  have e2 : ys.take (k + 1) = ys.take k ++ [gb ys k] := by
    rw [List.take_succ_eq_append_getElem hk]
    simp [gb, List.getD, List.getElem?_eq_getElem hk]
  rw [h2, h3, e1, e2]
  rw [List.set_append_right _ _ (by omega), List.set_append_right _ _ (by omega), h1, h2]
  have e4 : a + k - a - k = 0 := by omega
  rw [e4]
  simp

section
variable {w : World} {g d cap : Nat} {xs : List Int} {r : List Value} (hm : IsRef w g d cap xs r)
include hm

theorem rread_pos (a n : Int) (ha : 0 ≤ a) (hn : 0 < n) (han : a + n ≤ xs.length) :
    Calls Try.prog 57 #[.pointer (some ⟨g, 0, none⟩), .int .i64 a, .int .i64 n] w fun e w' => ∃ v, e = .returned (.tuple #[v, .int .i64 0]) ∧ Fresh w' w.heap.size v ((xs.drop a.toNat).take n.toNat) ∧ Only [] w w' := by
  obtain ⟨i0, hi, hz0, hz1, hz2⟩ := info_parts info_u8
  have HT := hide (there_yes hm a n ha (by omega) han)
  have hc := hm.cell0
  have hca := fun o => (hm.alloc o).cell0
  have h2 := hm.big
  have hle := hm.le
  have hne : ¬ cap = a.toNat := by omega
  have HL := hide (show ((xs.drop a.toNat).take n.toNat).length = (a + n).toNat - a.toNat by simp; omega)
  have HB := hide fun (j : Nat) (hj : j < n.toNat) => (show w.cell? ⟨d, a.toNat + j, none⟩ = some (.int .u8 (gb ((xs.drop a.toNat).take n.toNat) j)) by rw [gb_cut _ _ _ _ hj]; exact hm.byte (by omega))
  have HS := hide (show d < w.heap.size from hm.lt.2)
  have HN2 := hide (show (a + n).toNat - a.toNat ≤ 1048576 by omega)
  have HN := hide (show (a + n).toNat - a.toNat = n.toNat by omega)
  clear hm
  revert HL HB
  generalize (xs.drop a.toNat).take n.toNat = ys
  intro HL HB
  go_enter Try.func57, Try.ntmps57
  go_wp2_with (first | (go_at_call 85; refine HT.out.mono ?_; rintro e w' ⟨rfl, rfl⟩) | (at_builtin; refine wpList_append_own _ rfl _ _ 32 rfl w.heap.size 5 i0 (.int .u8 0) 1 1 Try.underlying32 hi hz0 hz1 hz2 rfl (by decide) _ _ _ rfl (World.ownsRow_made w #[] 0 (Nat.le_refl _) (Nat.zero_le _) rfl) ⟨d, a.toNat, none⟩ _ _ (u8l ys) rfl ?qc1 ?qc2 ?qc3 ?qc4 ?qc5 ?qc6 ?_))
  case qc1 => rw [u8l_length, HL.out]; omega
  case qc2 =>
    intro j u hj
    have hjn : j < ys.length := by
      have := (List.getElem?_eq_some_iff.1 hj).1
      rw [u8l_length] at this
      exact this
    rw [add_at]
    refine Lib.cell?_alloc_some _ ?_
    rw [HB.out j (by have := HL.out; have := HN.out; omega)]
    have e : (u8l ys)[j]? = some (Value.int .u8 (gb ys j)) := by simp [u8l, gb, List.getD, List.getElem?_eq_getElem hjn]
    rw [e] at hj
    exact hj
  case qc3 => exact u8l_one ys
  case qc4 => have := HN2.out; unfold maxLen; omega
  case qc5 => have := HN2.out; omega
  case qc6 => simp
  intro v' w1 hown hgrow hnil
  have hf : Fresh w1 w.heap.size v' ys := Fresh.of_own (by simpa using hown) hnil
  have ho : Only [] w w1 := Only.of_below (((Below.refl _ w).alloc (Nat.le_refl _) _).grown hgrow (by simp) (by intro k hk; simp [Value.ownBlock] at hk; omega))
  clear hown hgrow hnil
  go_wp2
  go_ret2
  exact ⟨v', rfl, hf, ho⟩

theorem rread_nought (a : Int) (ha : 0 ≤ a) (han : a ≤ xs.length) :
    Calls Try.prog 57 #[.pointer (some ⟨g, 0, none⟩), .int .i64 a, .int .i64 0] w fun e w' => ∃ v, e = .returned (.tuple #[v, .int .i64 0]) ∧ Fresh w' w.heap.size v [] ∧ Only [] w w' := by
  obtain ⟨i0, hi, hz0, hz1, hz2⟩ := info_parts info_u8
  have HT := hide (there_yes hm a 0 ha (by decide) (by omega))
  have hc := hm.cell0
  have hca := fun o => (hm.alloc o).cell0
  have h2 := hm.big
  have hle := hm.le
  clear hm
  by_cases hne : cap = a.toNat
  · have hnb : (cap = a.toNat) = True := by simp [hne]
    clear hne
    go_enter Try.func57, Try.ntmps57
    go_wp2_with (first | (go_at_call 85; refine HT.out.mono ?_; rintro e w' ⟨rfl, rfl⟩) | (at_builtin; refine wpList_append_own _ rfl _ _ 32 rfl w.heap.size 5 i0 (.int .u8 0) 1 1 Try.underlying32 hi hz0 hz1 hz2 rfl (by decide) _ _ _ rfl (World.ownsRow_made w #[] 0 (Nat.le_refl _) (Nat.zero_le _) rfl) ⟨d, 0, none⟩ _ _ [] rfl ?qc1 ?qc2 ?qc3 ?qc4 ?qc5 ?qc6 ?_))
    case qc1 => simp
    case qc2 => intro j u hj; simp at hj
    case qc3 => intro u hu; simp at hu
    case qc4 => simp
    case qc5 => simp
    case qc6 => simp
    intro v' w1 hown hgrow hnil
    have hf : Fresh w1 w.heap.size v' [] := Fresh.of_own (n := 0) (by simpa [u8l] using hown) hnil
    have ho : Only [] w w1 := Only.of_below (((Below.refl _ w).alloc (Nat.le_refl _) _).grown hgrow (by simp) (by intro k hk; simp [Value.ownBlock] at hk; omega))
    clear hown hgrow hnil
    go_wp2
    go_ret2
    exact ⟨v', rfl, hf, ho⟩
  · have hnb : (cap = a.toNat) = False := by simp [hne]
    clear hne
    go_enter Try.func57, Try.ntmps57
    go_wp2_with (first | (go_at_call 85; refine HT.out.mono ?_; rintro e w' ⟨rfl, rfl⟩) | (at_builtin; refine wpList_append_own _ rfl _ _ 32 rfl w.heap.size 5 i0 (.int .u8 0) 1 1 Try.underlying32 hi hz0 hz1 hz2 rfl (by decide) _ _ _ rfl (World.ownsRow_made w #[] 0 (Nat.le_refl _) (Nat.zero_le _) rfl) ⟨d, a.toNat, none⟩ _ _ [] rfl ?qc1 ?qc2 ?qc3 ?qc4 ?qc5 ?qc6 ?_))
    case qc1 => simp
    case qc2 => intro j u hj; simp at hj
    case qc3 => intro u hu; simp at hu
    case qc4 => simp
    case qc5 => simp
    case qc6 => simp
    intro v' w1 hown hgrow hnil
    have hf : Fresh w1 w.heap.size v' [] := Fresh.of_own (n := 0) (by simpa [u8l] using hown) hnil
    have ho : Only [] w w1 := Only.of_below (((Below.refl _ w).alloc (Nat.le_refl _) _).grown hgrow (by simp) (by intro k hk; simp [Value.ownBlock] at hk; omega))
    clear hown hgrow hnil
    go_wp2
    go_ret2
    exact ⟨v', rfl, hf, ho⟩

theorem rread_bad (a n : Int) (hb : a < 0 ∨ n < 0 ∨ (0 ≤ a ∧ xs.length < a + n)) :
    Calls Try.prog 57 #[.pointer (some ⟨g, 0, none⟩), .int .i64 a, .int .i64 n] w fun e w' => e = .returned (.tuple #[.slice none 0 0, .int .i64 10]) ∧ w = w' := by
  have HT := hide (there_no hm a n hb)
  clear hm hb
  go_enter Try.func57, Try.ntmps57
  go_wp2_with (go_at_call 85; refine HT.out.mono ?_; rintro e w' ⟨rfl, rfl⟩)
  go_ret2
  exact ⟨rfl, rfl⟩
end
end Go.Proofs.Ytfkbgnoppigdnaa
