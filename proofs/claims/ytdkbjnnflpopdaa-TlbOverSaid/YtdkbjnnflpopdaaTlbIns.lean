/-
  Translations (parapet/tlb): insertion sort of a hart's keys.
-/
import Derived.Test.YtdkbjnnflpopdaaTlbSort
namespace Go.Proofs.Ytdkbjnnflpopdaa
open Go.ChangeShapes Go.WideShapes Go.ChangeAt Go.RowKit Go.Maps Go.Shelf
set_option linter.unusedVariables false

def gk (L : List K2) (p : Nat) : K2 := L.getD p (0, 0)
theorem gk_get {L : List K2} {p : Nat} (h : p < L.length) : L[p]? = some (gk L p) := by
  unfold gk
  rw [List.getD_eq_getElem?_getD, List.getElem?_eq_getElem h, Option.getD_some]
theorem gk_mem {L : List K2} {p : Nat} (h : p < L.length) : gk L p ∈ L := List.mem_of_getElem? (gk_get h)
/-- When a key was filled. -/
def tau (l : List (K2 × K2)) (k : K2) : Int := ((l.find? fun p => decide (p.1 = k)).getD ((0, 0), (0, 0))).2.2
theorem tau_is {D : DataW Unit} {l : List (K2 × K2)} (H : Holds D l) {k f : K2} (h : (k, f) ∈ l) : tau l k = f.2 := by
  unfold tau
  cases e : l.find? fun p => decide (p.1 = k) with
  | none => 
    have := List.find?_eq_none.1 e _ h
    simp at this
  | some p =>
    have h1 := List.find?_some e
    have h2 := List.mem_of_find?_eq_some e
    have h3 : p = (k, f) := H.uniq h2 h (by simpa using h1)
    rw [h3]
    rfl
/-- Two neighbours change places. -/
def swap (L : List K2) (j : Nat) : List K2 := (L.set (j + 1) (gk L j)).set j (gk L (j + 1))
theorem swap_len (L : List K2) (j : Nat) : (swap L j).length = L.length := by simp [swap]
theorem swap_perm {L : List K2} {j : Nat} (h : j + 1 < L.length) : (swap L j).Perm L := by
  have h1 : gk L j = L[j] := by unfold gk; rw [List.getD_eq_getElem?_getD, List.getElem?_eq_getElem (by omega), Option.getD_some]
  have h2 : gk L (j + 1) = L[j + 1] := by unfold gk; rw [List.getD_eq_getElem?_getD, List.getElem?_eq_getElem h, Option.getD_some]
  unfold swap
  rw [h1, h2]
  exact List.set_set_perm h (by omega)
theorem gk_swap {L : List K2} {j : Nat} (h : j + 1 < L.length) (p : Nat) : gk (swap L j) p = if p = j then gk L (j + 1) else if p = j + 1 then gk L j else gk L p := by
  unfold swap
  by_cases e1 : p = j
  · subst e1
    rw [if_pos rfl]
    show ((L.set (p + 1) (gk L p)).set p (gk L (p + 1))).getD p (0, 0) = _
    rw [List.getD_eq_getElem?_getD, List.getElem?_set_self (by rw [List.length_set]; omega), Option.getD_some]
  · rw [if_neg e1]
    show ((L.set (j + 1) (gk L j)).set j (gk L (j + 1))).getD p (0, 0) = _
    rw [List.getD_eq_getElem?_getD, List.getElem?_set_ne (by omega)]
    by_cases e2 : p = j + 1
    · subst e2
      rw [if_pos rfl, List.getElem?_set_self h, Option.getD_some]
    · rw [if_neg e2, List.getElem?_set_ne (by omega)]
      unfold gk
      rw [List.getD_eq_getElem?_getD]
theorem flat_set : ∀ (L : List K2) (i : Nat) (k : K2), (L.set i k).flatMap kC = ((L.flatMap kC).set (i * 2) (.int .i64 k.1)).set (i * 2 + 1) (.int .i64 k.2)
  | [], i, k => by simp
  | x :: L, 0, k => by simp [kC]
  | x :: L, i + 1, k => by
    have ih := flat_set L i k
    rw [List.set_cons_succ, List.flatMap_cons, List.flatMap_cons, ih]
    simp only [kC]
    rw [show (i + 1) * 2 = i * 2 + 1 + 1 by omega]
    rfl

section
variable (t : K2 → Int)
def InOut (ks L : List K2) (i : Nat) : Prop := L.Perm ks ∧ ∀ p q, p < q → q < i → t (gk L p) ≤ t (gk L q)
def InIn (ks L : List K2) (i j : Nat) : Prop := L.Perm ks ∧ (∀ p q, p < q → q ≤ i → p ≠ j → q ≠ j → t (gk L p) ≤ t (gk L q)) ∧ ∀ q, j < q → q ≤ i → t (gk L j) ≤ t (gk L q)
variable {t} {ks L : List K2} {i j : Nat}
theorem InOut.begin (h : InOut t ks L i) : InIn t ks L i i := ⟨h.1, fun p q h1 h2 h3 h4 => h.2 p q h1 (by omega), fun q h1 h2 => by omega⟩
theorem InIn.done (h : InIn t ks L i j) (hj : j ≤ i) (hc : j = 0 ∨ t (gk L (j - 1)) ≤ t (gk L j)) : InOut t ks L (i + 1) := by
  refine ⟨h.1, fun p q h1 h2 => ?_⟩
  by_cases e1 : p = j
  · subst e1; exact h.2.2 q h1 (by omega)
  · by_cases e2 : q = j
    · subst e2
      rcases hc with hc | hc
      · omega
      · by_cases e3 : p = q - 1
        · rw [e3]; exact hc
        · exact Int.le_trans (h.2.1 p (q - 1) (by omega) (by omega) (by omega) (by omega)) hc
    · exact h.2.1 p q h1 (by omega) e1 e2
theorem InIn.step (h : InIn t ks L i (j + 1)) (hj : j + 1 ≤ i) (hi : i < L.length) (hc : t (gk L (j + 1)) < t (gk L j)) : InIn t ks (swap L j) i j := by
  have hl : j + 1 < L.length := by omega
  refine ⟨(swap_perm hl).trans h.1, fun p q h1 h2 h3 h4 => ?_, fun q h1 h2 => ?_⟩
  · rw [gk_swap hl, gk_swap hl, if_neg h3, if_neg h4]
    by_cases e1 : p = j + 1
    · rw [if_pos e1, if_neg (by omega)]
      exact h.2.1 j q (by omega) h2 (by omega) (by omega)
    · rw [if_neg e1]
      by_cases e2 : q = j + 1
      · rw [if_pos e2]
        exact h.2.1 p j (by omega) (by omega) e1 (by omega)
      · rw [if_neg e2]
        exact h.2.1 p q h1 h2 e1 e2
  · rw [gk_swap hl, gk_swap hl, if_pos rfl, if_neg (by omega)]
    by_cases e2 : q = j + 1
    · rw [if_pos e2]; omega
    · rw [if_neg e2]
      exact h.2.2 q (by omega) h2
end

/-- A block that begins with these keys. -/
abbrev KBlk (w : World) (g : Nat) (L : List K2) (rest : List Value) : Prop := Blk w g 33 (L.flatMap kC ++ rest).toArray
theorem flat_len (L : List K2) : (L.flatMap kC).length = L.length * 2 := by
  induction L with
  | nil => rfl
  | cons x L ih => rw [List.flatMap_cons, List.length_append, ih, List.length_cons]; simp [kC]; omega
theorem KBlk.cells {w : World} {g : Nat} {L : List K2} {rest : List Value} (h : KBlk w g L rest) {i : Nat} (hi : i < L.length) : w.cell? ⟨g, i * 2, none⟩ = some (.int .i64 (gk L i).1) ∧ w.cell? ⟨g, i * 2 + 1, none⟩ = some (.int .i64 (gk L i).2) := by
  obtain ⟨h1, h2⟩ := flat_cell (gk_get hi)
  have hf := flat_len L
  rw [h.cell, h.cell]
  simp only [List.getElem?_toArray]
  rw [List.getElem?_append_left (by omega), List.getElem?_append_left (by omega)]
  exact ⟨h1, h2⟩
theorem KBlk.set {w : World} {g : Nat} {L : List K2} {rest : List Value} (h : KBlk w g L rest) {i : Nat} (hi : i < L.length) (k : K2) : KBlk ((w.setCell ⟨g, i * 2, none⟩ (.int .i64 k.1)).setCell ⟨g, i * 2 + 1, none⟩ (.int .i64 k.2)) g (L.set i k) rest := by
  have h1 := (h.set_ (i * 2) (.int .i64 k.1)).set_ (i * 2 + 1) (.int .i64 k.2)
  have hf := flat_len L
  unfold KBlk
  rw [flat_set]
  rw [List.setIfInBounds_toArray, List.setIfInBounds_toArray, List.set_append_left _ _ (by omega), List.set_append_left _ _ (by rw [List.length_set]; omega)] at h1
  exact h1
end Go.Proofs.Ytdkbjnnflpopdaa
