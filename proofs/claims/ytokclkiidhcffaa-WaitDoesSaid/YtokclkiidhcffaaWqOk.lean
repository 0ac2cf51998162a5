/-
  Sleepers (parapet/waitq): what is always so of the two plain lists; that Sleep and Cancel keep it.
-/
import Derived.Test.YtokclkiidhcffaaWqSleepNo
import Derived.Test.YtokclkiidhcffaaWqCancelNo
namespace Go.Proofs.Ytokclkiidhcffaa
set_option linter.unusedVariables false

section
variable {κ α : Type} [DecidableEq κ]
theorem atL_none {L : List (κ × List α)} {k : κ} (h : k ∉ L.map (·.1)) : atL L k = [] := by
  unfold atL
  rw [List.find?_eq_none.2 (fun x hx e => h (List.mem_map.2 ⟨x, hx, by simpa using e⟩))]
  rfl
theorem atL_new_same {L : List (κ × List α)} {k : κ} (l : List α) (h : k ∉ L.map (·.1)) : atL (L ++ [(k, l)]) k = l := by
  unfold atL
  rw [List.find?_append, List.find?_eq_none.2 (fun x hx e => h (List.mem_map.2 ⟨x, hx, by simpa using e⟩))]
  simp
theorem atL_new_far {L : List (κ × List α)} {k k' : κ} (l : List α) (h : k' ≠ k) : atL (L ++ [(k, l)]) k' = atL L k' := by
  unfold atL
  rw [List.find?_append]
  cases L.find? fun p => decide (p.1 = k') with
  | none => simp [Ne.symm h]
  | some x => simp
theorem atL_of_mem {L : List (κ × List α)} (hn : (L.map (·.1)).Nodup) {p : κ × List α} (hp : p ∈ L) : atL L p.1 = p.2 := by
  induction L with
  | nil => cases hp
  | cons x r ih =>
    rw [List.map_cons, List.nodup_cons] at hn
    unfold atL
    rcases List.mem_cons.1 hp with e | hp
    · subst e; simp
    · have hne : ¬ x.1 = p.1 := fun e => hn.1 (List.mem_map.2 ⟨p, hp, e.symm⟩)
      rw [List.find?_cons_of_neg (by simpa using hne)]
      exact ih hn.2 hp
omit [DecidableEq κ] in
theorem setL_keys [DecidableEq κ] (L : List (κ × List α)) (k : κ) (f : List α → List α) : (setL L k f).map (·.1) = L.map (·.1) := by
  unfold setL
  rw [List.map_map]
  refine List.map_congr_left fun p _ => ?_
  show (if p.1 = k then (k, f p.2) else p).1 = p.1
  split <;> simp_all
end
theorem atL_come_same (L : List (CH × List Int)) (c : CH) (t : Int) : atL (comeL L c t) c = atL L c ++ [t] := by
  unfold comeL
  split
  · rename_i h; exact atL_set_same _ h
  · rename_i h; rw [atL_new_same _ h, atL_none h]; rfl
theorem atL_come_far {L : List (CH × List Int)} {c c' : CH} {t : Int} (h : c' ≠ c) : atL (comeL L c t) c' = atL L c' := by
  unfold comeL
  split
  · exact atL_set_far _ h
  · exact atL_new_far _ h
theorem atL_leave_same (L : List (CH × List Int)) (c : CH) (t : Int) : atL (leaveL L c t) c = (atL L c).erase t := by
  unfold leaveL
  split
  · rename_i h; rw [h]; exact atL_out_same
  · rename_i h
    refine atL_set_same _ (mem_atL (fun e => h ?_))
    rw [e]; rfl
theorem come_keys {L : List (CH × List Int)} (h : (L.map (·.1)).Nodup) (c : CH) (t : Int) : ((comeL L c t).map (·.1)).Nodup := by
  unfold comeL
  split
  · rw [setL_keys]; exact h
  · rename_i hn
    rw [List.map_append]
    refine List.nodup_append.2 ⟨h, by simp, fun a ha b hb e => ?_⟩
    simp at hb
    subst hb; subst e
    exact hn ha
theorem leave_keys {L : List (CH × List Int)} (h : (L.map (·.1)).Nodup) (c : CH) (t : Int) : ((leaveL L c t).map (·.1)).Nodup := by
  unfold leaveL
  split
  · exact List.Nodup.sublist (List.Sublist.map _ List.filter_sublist) h
  · rw [setL_keys]; exact h
theorem atL_comeAll {t : Int} (c : CH) : ∀ (on : List CH), on.Nodup → ∀ (L : List (CH × List Int)), atL (comeAll L on t) c = if c ∈ on then atL L c ++ [t] else atL L c
  | [], _, L => by simp [comeAll]
  | x :: r, hn, L => by
    rw [List.nodup_cons] at hn
    show atL (comeAll (comeL L x t) r t) c = _
    rw [atL_comeAll c r hn.2]
    by_cases e : c = x
    · subst e
      rw [if_neg hn.1, if_pos (by simp), atL_come_same]
    · rw [atL_come_far e]
      simp [e]
theorem atL_leaveAll {t : Int} (c : CH) : ∀ (on : List CH), on.Nodup → ∀ (L : List (CH × List Int)), atL (leaveAll L on t) c = if c ∈ on then (atL L c).erase t else atL L c
  | [], _, L => by simp [leaveAll]
  | x :: r, hn, L => by
    rw [List.nodup_cons] at hn
    show atL (leaveAll (leaveL L x t) r t) c = _
    rw [atL_leaveAll c r hn.2]
    by_cases e : c = x
    · subst e
      rw [if_neg hn.1, if_pos (by simp), atL_leave_same]
    · rw [atL_leave_far e]
      simp [e]
theorem comeAll_keys {t : Int} : ∀ (on : List CH) (L : List (CH × List Int)), (L.map (·.1)).Nodup → ((comeAll L on t).map (·.1)).Nodup
  | [], L, h => h
  | x :: r, L, h => comeAll_keys r _ (come_keys h x t)
theorem leaveAll_keys {t : Int} : ∀ (on : List CH) (L : List (CH × List Int)), (L.map (·.1)).Nodup → ((leaveAll L on t).map (·.1)).Nodup
  | [], L, h => h
  | x :: r, L, h => leaveAll_keys r _ (leave_keys h x t)

/-- What is always so. -/
structure OkW (L1 : List (Int × List CH)) (L2 : List (CH × List Int)) : Prop where
  k1 : (L1.map (·.1)).Nodup
  k2 : (L2.map (·.1)).Nodup
  both : ∀ t c, c ∈ atL L1 t ↔ t ∈ atL L2 c
  ne1 : ∀ p ∈ L1, p.2 ≠ []
  on16 : ∀ p ∈ L1, p.2.length ≤ 16
  nd1 : ∀ t, (atL L1 t).Nodup
  nd2 : ∀ c, (atL L2 c).Nodup
  few : L1.length ≤ 64
theorem OkW.empty : OkW [] [] := ⟨by simp, by simp, by simp [atL], by simp, by simp, by simp [atL], by simp [atL], by simp⟩
theorem OkW.sleep {L1 : List (Int × List CH)} {L2 : List (CH × List Int)} (o : OkW L1 L2) {t : Int} (hn : t ∉ L1.map (·.1)) {l : List CH} (hne : l ≠ []) (h16 : l.length ≤ 16) (hnd : l.Nodup) (hf : L1.length < 64) : OkW (L1 ++ [(t, l)]) (comeAll L2 l t) := by
  have h0 : ∀ c, t ∉ atL L2 c := fun c hm => by
    have := (o.both t c).2 hm
    rw [atL_none hn] at this
    cases this
  have mem : ∀ {p : Int × List CH}, p ∈ L1 ++ [(t, l)] → p ∈ L1 ∨ p = (t, l) := fun h => by simpa using h
  refine ⟨?_, comeAll_keys _ _ o.k2, fun t' c => ?_, fun p hp => ?_, fun p hp => ?_, fun t' => ?_, fun c => ?_, by simp; omega⟩
  · rw [List.map_append]
    refine List.nodup_append.2 ⟨o.k1, by simp, fun a ha b hb e => ?_⟩
    simp at hb
    subst hb; subst e
    exact hn ha
  · rw [atL_comeAll c l hnd]
    by_cases e : t' = t
    · subst e
      rw [atL_new_same _ hn]
      by_cases hc : c ∈ l
      · simp [hc]
      · simp [hc, h0 c]
    · rw [atL_new_far _ e, o.both]
      by_cases hc : c ∈ l
      · simp [hc, e]
      · simp [hc]
  · rcases mem hp with hp | rfl
    · exact o.ne1 p hp
    · exact hne
  · rcases mem hp with hp | rfl
    · exact o.on16 p hp
    · exact h16
  · by_cases e : t' = t
    · subst e; rw [atL_new_same _ hn]; exact hnd
    · rw [atL_new_far _ e]; exact o.nd1 t'
  · rw [atL_comeAll c l hnd]
    split
    · refine List.nodup_append.2 ⟨o.nd2 c, by simp, fun a ha b hb e => ?_⟩
      simp at hb
      subst hb; subst e
      exact h0 c ha
    · exact o.nd2 c
theorem OkW.cancel {L1 : List (Int × List CH)} {L2 : List (CH × List Int)} (o : OkW L1 L2) (t : Int) : OkW (outL L1 t) (leaveAll L2 (atL L1 t) t) := by
  have sub : ∀ {p}, p ∈ outL L1 t → p ∈ L1 := fun h => (List.mem_filter.1 h).1
  refine ⟨List.Nodup.sublist (List.Sublist.map _ List.filter_sublist) o.k1, leaveAll_keys _ _ o.k2, fun t' c => ?_, fun p hp => o.ne1 p (sub hp), fun p hp => o.on16 p (sub hp), fun t' => ?_, fun c => ?_, Nat.le_trans (List.length_filter_le _ _) o.few⟩
  · rw [atL_leaveAll c _ (o.nd1 t)]
    by_cases e : t' = t
    · subst e
      rw [atL_out_same]
      by_cases hc : c ∈ atL L1 t'
      · rw [if_pos hc, (o.nd2 c).mem_erase_iff]; simp
      · rw [if_neg hc, ← o.both]; simp [hc]
    · rw [atL_out_far e, o.both]
      by_cases hc : c ∈ atL L1 t
      · rw [if_pos hc, (o.nd2 c).mem_erase_iff]; simp [e]
      · rw [if_neg hc]
  · by_cases e : t' = t
    · subst e; rw [atL_out_same]; simp
    · rw [atL_out_far e]; exact o.nd1 t'
  · rw [atL_leaveAll c _ (o.nd1 t)]
    split
    · exact (o.nd2 c).erase t
    · exact o.nd2 c
end Go.Proofs.Ytokclkiidhcffaa
