/-
  What the calls of frames do to their rows, as plain facts about lists: no frame is lost, none is met twice.
-/
import Derived.Test.YtfbegickdnjfcaaFrRight
namespace Go.Proofs.Ytfbegickdnjfcaa
open Go.ChangeShapes Go.WideShapes Go.ChangeAt Go.RowKit
set_option linter.unusedVariables false

/-- The rows of free frames. -/
def FSlot (o : Nat) : Prop := 4 ≤ o ∧ o ≤ 12
theorem FSlot.slot {o : Nat} (h : FSlot o) : Slot o := .inr h

theorem freeL_nine (ns : Nat → List Int) : freeL ns = ns 4 ++ ns 5 ++ ns 6 ++ ns 7 ++ ns 8 ++ ns 9 ++ ns 10 ++ ns 11 ++ ns 12 := by
  simp [freeL, catL]
theorem freeL_count (ns : Nat → List Int) {i : Nat} (hi : FSlot i) (l : List Int) (x : Int) : (freeL (upd ns i l)).count x + (ns i).count x = (freeL ns).count x + l.count x := by
  obtain ⟨h1, h2⟩ := hi
  have hc : i = 4 ∨ i = 5 ∨ i = 6 ∨ i = 7 ∨ i = 8 ∨ i = 9 ∨ i = 10 ∨ i = 11 ∨ i = 12 := by omega
  rw [freeL_nine, freeL_nine]
  rcases hc with rfl | rfl | rfl | rfl | rfl | rfl | rfl | rfl | rfl <;> simp [upd, List.count_append] <;> omega
theorem freeL_length (ns : Nat → List Int) {i : Nat} (hi : FSlot i) (l : List Int) : (freeL (upd ns i l)).length + (ns i).length = (freeL ns).length + l.length := by
  obtain ⟨h1, h2⟩ := hi
  have hc : i = 4 ∨ i = 5 ∨ i = 6 ∨ i = 7 ∨ i = 8 ∨ i = 9 ∨ i = 10 ∨ i = 11 ∨ i = 12 := by omega
  rw [freeL_nine, freeL_nine]
  rcases hc with rfl | rfl | rfl | rfl | rfl | rfl | rfl | rfl | rfl <;> simp [upd] <;> omega
theorem freeL_two (ns : Nat → List Int) (l : List Int) : freeL (upd ns 2 l) = freeL ns := by
  rw [freeL_nine, freeL_nine]
  simp [upd]
theorem freeL_has (ns : Nat → List Int) {i : Nat} (hi : FSlot i) : (ns i).length ≤ (freeL ns).length := by
  have h := freeL_length ns hi []
  simp at h
  omega
theorem freeL_mem (ns : Nat → List Int) {i : Nat} (hi : FSlot i) {x : Int} (h : x ∈ ns i) : x ∈ freeL ns := by
  have h1 := freeL_count ns hi [] x
  simp at h1
  have h2 := List.count_pos_iff.2 h
  exact List.count_pos_iff.1 (by omega)

theorem moveN_count (ns : Nat → List Int) {i j : Nat} (hi : FSlot i) (hj : FSlot j) (hij : i ≠ j) (n : Nat) (x : Int) : (freeL (moveN ns i j n)).count x = (freeL ns).count x := by
  have h1 := freeL_count (upd ns i (ns i ++ (ns j).take n)) hj ((ns j).drop n) x
  have h2 := freeL_count ns hi (ns i ++ (ns j).take n) x
  rw [upd_far _ _ (Ne.symm hij)] at h1
  rw [List.count_append] at h2
  have h3 : (ns j).count x = ((ns j).take n).count x + ((ns j).drop n).count x := by rw [← List.count_append, List.take_append_drop]
  unfold moveN
  omega
theorem moveN_length (ns : Nat → List Int) {i j : Nat} (hi : FSlot i) (hj : FSlot j) (hij : i ≠ j) (n : Nat) : (freeL (moveN ns i j n)).length = (freeL ns).length := by
  have h1 := freeL_length (upd ns i (ns i ++ (ns j).take n)) hj ((ns j).drop n)
  have h2 := freeL_length ns hi (ns i ++ (ns j).take n)
  rw [upd_far _ _ (Ne.symm hij)] at h1
  rw [List.length_append] at h2
  have h3 : (ns j).length = ((ns j).take n).length + ((ns j).drop n).length := by rw [← List.length_append, List.take_append_drop]
  unfold moveN
  omega
theorem fslot4 {h : Nat} (hh : h < 8) : FSlot (4 + h) := ⟨by omega, by omega⟩
theorem fslot12 : FSlot 12 := ⟨by omega, by omega⟩

theorem fillN_same (ns : Nat → List Int) {h : Nat} (hh : h < 8) : (∀ x, (freeL (fillN ns h)).count x = (freeL ns).count x) ∧ (freeL (fillN ns h)).length = (freeL ns).length := by
  unfold fillN refillN
  split
  · rename_i h0
    split
    · exact ⟨moveN_count ns (fslot4 hh) fslot12 (by omega) _, moveN_length ns (fslot4 hh) fslot12 (by omega) _⟩
    · split
      · exact ⟨fun _ => rfl, rfl⟩
      · rename_i h1
        have hne : 4 + h ≠ 4 + richN ns 8 := fun e => h1 (by rw [← e]; exact h0)
        exact ⟨moveN_count ns (fslot4 hh) (fslot4 (richN_lt ns 8 (Nat.le_refl _))) hne _, moveN_length ns (fslot4 hh) (fslot4 (richN_lt ns 8 (Nat.le_refl _))) hne _⟩
  · exact ⟨fun _ => rfl, rfl⟩

/-- The longest list is not shorter than any. -/
theorem richN_max (ns : Nat → List Int) : ∀ k, ∀ j, j < k → (ns (4 + j)).length ≤ (ns (4 + richN ns k)).length
  | 0, j, h => by omega
  | k + 1, j, h => by
    unfold richN
    split
    · by_cases e : j = k
      · subst e; exact Nat.le_refl _
      · have := richN_max ns k j (by omega); omega
    · by_cases e : j = k
      · subst e; omega
      · exact richN_max ns k j (by omega)
/-- A hart whose list is empty behind its filling: nothing is free. -/
theorem fillN_empty (ns : Nat → List Int) {h : Nat} (hh : h < 8) (he : (fillN ns h (4 + h)).length = 0) : (freeL ns).length = 0 := by
  unfold fillN at he
  split at he
  · rename_i h0
    unfold refillN at he
    split at he
    · rename_i h1
      unfold moveN at he
      rw [upd_far _ _ (by omega), upd_same, List.length_append, List.length_take] at he
      omega
    · rename_i h1
      split at he
      · rename_i h2
        rw [freeL_nine]
        have hm := richN_max ns 8
        have m0 := hm 0 (by omega)
        have m1 := hm 1 (by omega)
        have m2 := hm 2 (by omega)
        have m3 := hm 3 (by omega)
        have m4 := hm 4 (by omega)
        have m5 := hm 5 (by omega)
        have m6 := hm 6 (by omega)
        have m7 := hm 7 (by omega)
        simp only [List.length_append]
        simp only [Nat.add_zero, Nat.reduceAdd] at m0 m1 m2 m3 m4 m5 m6 m7
        omega
      · rename_i h2
        have hne : 4 + h ≠ 4 + richN ns 8 := fun e => h2 (by rw [← e]; exact h0)
        unfold moveN at he
        rw [upd_far _ _ hne, upd_same, List.length_append, List.length_take] at he
        omega
  · rename_i h0
    omega

section
variable {xs : List Int} {first : Nat} {ns : Nat → List Int}

theorem Good.few' (h : (freeL ns).length ≤ 4096) (h2 : (ns 2).length ≤ 4096) : ∀ o, Slot o → (ns o).length ≤ 4096 := fun o ho => by
  rcases ho with rfl | ho
  · exact h2
  · exact Nat.le_trans (freeL_has ns ho) h

/-- A frame is given out. -/
theorem Good.alloc (G : Good xs first ns) (hfr : (freeL ns).length ≤ 4096) {h : Nat} (hh : h < 8) (hp : 0 < (fillN ns h (4 + h)).length) :
    ∃ k : Nat, k < (ns 2).length ∧ gb (fillN ns h (4 + h)) ((fillN ns h (4 + h)).length - 1) = (first : Int) + k ∧ gb (ns 2) k = 0 ∧
      (∀ ys, (∀ q, q < (ns 2).length → q ≠ k → ZeroAt xs (first + q) → ZeroAt ys (first + q)) → Good ys first (allocN ns h k)) ∧ (freeL (allocN ns h k)).length + 1 = (freeL ns).length ∧ allocN ns h k 2 = (ns 2).set k 1 := by
  obtain ⟨hfc, hfl⟩ := fillN_same ns hh
  generalize hl : fillN ns h (4 + h) = l at *
  have hlast : gb l (l.length - 1) = l[l.length - 1] := by simp [gb, List.getD, List.getElem?_eq_getElem (show l.length - 1 < l.length by omega)]
  have hsplit : l = l.take (l.length - 1) ++ [l[l.length - 1]] := by
    conv => lhs; rw [← List.take_append_drop (l.length - 1) l]
    congr 1
    rw [List.drop_eq_getElem_cons (by omega)]
    congr 1
    rw [List.drop_eq_nil_iff]
    omega
  have hmem : l[l.length - 1] ∈ freeL (fillN ns h) := freeL_mem _ (fslot4 hh) (by rw [hl]; exact List.getElem_mem _)
  have hmem2 : l[l.length - 1] ∈ freeL ns := by
    have := List.count_pos_iff.2 hmem
    rw [hfc] at this
    exact List.count_pos_iff.1 this
  obtain ⟨k, hk, hxk, h0⟩ := G.rng _ hmem2
  have h1 := G.one k hk h0
  have hcount : ∀ y, (freeL (allocN ns h k)).count y + (if y = (first : Int) + k then 1 else 0) = (freeL ns).count y := fun y => by
    unfold allocN
    rw [freeL_two, hl]
    have h2 := freeL_count (fillN ns h) (fslot4 hh) (l.take (l.length - 1)) y
    rw [hl, hfc] at h2
    have h3 : l.count y = (l.take (l.length - 1)).count y + (if y = (first : Int) + k then 1 else 0) := by
      conv => lhs; rw [hsplit]
      rw [List.count_append, hxk, List.count_singleton]
      congr 1
      by_cases e : y = (first : Int) + k
      · subst e; simp
      · simp [e, Ne.symm e]
    omega
  have hlen : (freeL (allocN ns h k)).length + 1 = (freeL ns).length := by
    unfold allocN
    rw [freeL_two, hl]
    have h2 := freeL_length (fillN ns h) (fslot4 hh) (l.take (l.length - 1))
    rw [hl, List.length_take] at h2
    omega
  have h2e : allocN ns h k 2 = (ns 2).set k 1 := by unfold allocN; rw [upd_same]
  have hgb : ∀ q, q < (ns 2).length → gb (allocN ns h k 2) q = if q = k then 1 else gb (ns 2) q := fun q hq => by
    rw [h2e]
    by_cases e : q = k
    · subst e; simp [gb, List.getD, hq]
    · simp [gb, List.getD, e, Ne.symm e]
  refine ⟨k, hk, by rw [hlast, hxk], h0, fun ys hys => ⟨fun q hq => ?_, fun y hy => ?_, fun q hq hq0 => ?_, fun q hq hq0 => ?_, ?_⟩, hlen, h2e⟩
  · rw [h2e, List.length_set] at hq
    rw [hgb q hq]
    split
    · omega
    · exact G.cnt q hq
  · have hp := List.count_pos_iff.2 hy
    have hc := hcount y
    have hy2 : y ∈ freeL ns := List.count_pos_iff.1 (by omega)
    obtain ⟨q, hq, hyq, hq0⟩ := G.rng y hy2
    have hne : q ≠ k := by
      rintro rfl
      rw [if_pos hyq, hyq] at hc
      rw [hyq] at hp
      omega
    exact ⟨q, by rw [h2e, List.length_set]; exact hq, hyq, by rw [hgb q hq, if_neg hne]; exact hq0⟩
  · rw [h2e, List.length_set] at hq
    rw [hgb q hq] at hq0
    have hne : q ≠ k := by
      rintro rfl
      rw [if_pos rfl] at hq0
      omega
    rw [if_neg hne] at hq0
    have hc := hcount ((first : Int) + q)
    rw [if_neg (by omega), G.one q hq hq0] at hc
    omega
  · rw [h2e, List.length_set] at hq
    rw [hgb q hq] at hq0
    have hne : q ≠ k := by
      rintro rfl
      rw [if_pos rfl] at hq0
      omega
    rw [if_neg hne] at hq0
    exact hys q hq hne (G.zero q hq hq0)
  · exact Good.few' (by omega) (by rw [h2e, List.length_set]; exact G.few 2 (.inl rfl))

/-- A frame that nobody uses any more comes back: into some row of free ones. -/
theorem Good.back (G : Good xs first ns) (hfr : (freeL ns).length < 4096) {k : Nat} (hk : k < (ns 2).length) (h1 : gb (ns 2) k = 1) {n2 : Nat → List Int} (h2 : n2 2 = (ns 2).set k 0)
    (hc : ∀ y, (freeL n2).count y = (freeL ns).count y + if y = (first : Int) + k then 1 else 0) (hl : (freeL n2).length = (freeL ns).length + 1) {ys : List Int} (hys : ∀ q, q < (ns 2).length → ZeroAt xs (first + q) ∨ q = k → ZeroAt ys (first + q)) : Good ys first n2 := by
  have hgb : ∀ q, q < (ns 2).length → gb (n2 2) q = if q = k then 0 else gb (ns 2) q := fun q hq => by
    rw [h2]
    by_cases e : q = k
    · subst e; simp [gb, List.getD, hq]
    · simp [gb, List.getD, e, Ne.symm e]
  have hnot : (freeL ns).count ((first : Int) + k) = 0 := List.count_eq_zero.2 fun hm => by
    obtain ⟨q, hq, e, h0⟩ := G.rng _ hm
    have : q = k := by omega
    subst this
    omega
  have hlen : (n2 2).length = (ns 2).length := by rw [h2, List.length_set]
  refine ⟨fun q hq => ?_, fun y hy => ?_, fun q hq hq0 => ?_, fun q hq hq0 => ?_, Good.few' (by omega) (by rw [hlen]; exact G.few 2 (.inl rfl))⟩
  · rw [hlen] at hq
    rw [hgb q hq]
    split
    · omega
    · exact G.cnt q hq
  · have hp := List.count_pos_iff.2 hy
    rw [hc] at hp
    by_cases e : y = (first : Int) + k
    · exact ⟨k, by rw [hlen]; exact hk, e, by rw [hgb k hk, if_pos rfl]⟩
    · rw [if_neg e] at hp
      obtain ⟨q, hq, hyq, hq0⟩ := G.rng y (List.count_pos_iff.1 (by omega))
      exact ⟨q, by rw [hlen]; exact hq, hyq, by
        rw [hgb q hq]
        split
        · rfl
        · exact hq0⟩
  · rw [hlen] at hq
    rw [hc]
    by_cases e : q = k
    · subst e
      rw [hnot, if_pos rfl]
    · rw [hgb q hq, if_neg e] at hq0
      rw [if_neg (by omega), G.one q hq hq0]
  · rw [hlen] at hq
    by_cases e : q = k
    · exact hys q hq (.inr e)
    · rw [hgb q hq, if_neg e] at hq0
      exact hys q hq (.inl (G.zero q hq hq0))
end
end Go.Proofs.Ytfbegickdnjfcaa
