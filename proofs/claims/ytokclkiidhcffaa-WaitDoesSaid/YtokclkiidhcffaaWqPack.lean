/-
  Sleepers (parapet/waitq): New, On, Sleepers, Len on the two plain lists; what is at a key behind a call.
-/
import Derived.Test.YtokclkiidhcffaaWqDo
namespace Go.Proofs.Ytokclkiidhcffaa
open Go.ChangeShapes Go.WideShapes Go.ChangeAt Go.RowKit Go.Maps
set_option linter.unusedVariables false

section
variable {κ α : Type} [DecidableEq κ]
theorem atL_set_far {L : List (κ × List α)} {k k' : κ} (f : List α → List α) (h : k' ≠ k) : atL (setL L k f) k' = atL L k' := by
  unfold atL setL
  rw [List.find?_map]
  have e1 : ((fun p : κ × List α => decide (p.1 = k')) ∘ fun p => if p.1 = k then (k, f p.2) else p) = fun p => decide (p.1 = k') := by
    funext p
    show decide ((if p.1 = k then (k, f p.2) else p).1 = k') = _
    split
    · rename_i hp
      rw [hp]
    · rfl
  rw [e1]
  cases hf : L.find? fun p => decide (p.1 = k') with
  | none => rfl
  | some x =>
    have h2 := List.find?_some hf
    simp only [decide_eq_true_eq] at h2
    have h3 : ¬ x.1 = k := fun e => h (h2.symm.trans e)
    simp [h3]
theorem atL_set_same {L : List (κ × List α)} {k : κ} (f : List α → List α) (h : k ∈ L.map (·.1)) : atL (setL L k f) k = f (atL L k) := by
  unfold atL setL
  rw [List.find?_map]
  have e1 : ((fun p : κ × List α => decide (p.1 = k)) ∘ fun p => if p.1 = k then (k, f p.2) else p) = fun p => decide (p.1 = k) := by
    funext p
    show decide ((if p.1 = k then (k, f p.2) else p).1 = k) = _
    split
    · rename_i hp
      rw [hp]
    · rfl
  rw [e1]
  cases hf : L.find? fun p => decide (p.1 = k) with
  | none =>
    obtain ⟨x, hx, he⟩ := List.mem_map.1 h
    have := List.find?_eq_none.1 hf x hx
    simp [he] at this
  | some x =>
    have h2 := List.find?_some hf
    simp only [decide_eq_true_eq] at h2
    simp [h2]
theorem atL_out_far {L : List (κ × List α)} {k k' : κ} (h : k' ≠ k) : atL (outL L k) k' = atL L k' := by
  unfold atL outL
  rw [List.find?_filter]
  congr 2
  congr 1
  funext p
  by_cases e : p.1 = k'
  · simp [e, h]
  · simp [e]
theorem atL_out_same {L : List (κ × List α)} {k : κ} : atL (outL L k) k = [] := by
  unfold atL outL
  rw [List.find?_eq_none.2 (fun x hx => by simpa using (List.mem_filter.1 hx).2)]
  rfl
end
theorem atL_leave_far {L : List (CH × List Int)} {c c' : CH} {t : Int} (h : c' ≠ c) : atL (leaveL L c t) c' = atL L c' := by
  unfold leaveL
  split
  · exact atL_out_far h
  · exact atL_set_far _ h

section
variable {w w' w1 : World} {g : Nat} {L1 : List (Int × List CH)} {L2 : List (CH × List Int)} {F : List Nat} {S : List Nat}
theorem wq_new (w : World) : Calls Try.prog 7 #[] w fun e w' => ∃ g F, e = .returned (.pointer (some ⟨g, 0, none⟩)) ∧ Wq w' g [] [] F ∧ (∀ k, k ∈ F → w.heap.size ≤ k) ∧ Only [] w w' := by
  refine (wNew_is w).mono ?_
  rintro e w' ⟨g, m1, m2, rfl, h, hf, ho⟩
  exact ⟨g, _, rfl, ⟨m1, m2, [], [], h, rfl, rfl, rfl⟩, hf, ho⟩
theorem wq_len (h : Wq w g L1 L2 F) : Calls Try.prog 16 #[.pointer (some ⟨g, 0, none⟩)] w fun e w' => e = .returned (.int .i64 L1.length) ∧ w = w' := by
  obtain ⟨m1, m2, R1, R2, h, rfl, rfl, rfl⟩ := h
  rw [show (viewE R1).length = R1.length by simp [viewE]]
  exact wLen_is h
theorem wq_on (h : Wq w g L1 L2 F) (hs : ∀ p ∈ L1, p.2.length ≤ 64) (t : Int) (ht : iW t) : Calls Try.prog 19 #[.pointer (some ⟨g, 0, none⟩), .int .i64 t] w fun e w' => ∃ v', e = .returned v' ∧ CRw w' v' (atL L1 t) ∧ (∀ q, v'.ownBlock = some q → w.heap.size ≤ q) ∧ Only [] w w' := by
  obtain ⟨m1, m2, R1, R2, h, rfl, rfl, rfl⟩ := h
  rw [atL_view]
  exact wOn_is h (fun e he => hs _ (List.mem_map.2 ⟨e, he, rfl⟩)) t ht
theorem wq_sleepers (h : Wq w g L1 L2 F) (hs : ∀ p ∈ L2, p.2.length ≤ 64) (c : CH) (hc : c.wf) : Calls Try.prog 14 #[.pointer (some ⟨g, 0, none⟩), kV c] w fun e w' => ∃ v', e = .returned v' ∧ IRow w' v' (atL L2 c) ∧ (∀ q, v'.ownBlock = some q → w.heap.size ≤ q) ∧ Only [] w w' := by
  obtain ⟨m1, m2, R1, R2, h, rfl, rfl, rfl⟩ := h
  rw [atL_view]
  exact wSleepers_is h (fun e he => hs _ (List.mem_map.2 ⟨e, he, rfl⟩)) c hc
end
end Go.Proofs.Ytokclkiidhcffaa
