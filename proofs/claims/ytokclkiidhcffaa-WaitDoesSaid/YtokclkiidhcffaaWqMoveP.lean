/-
  Sleepers (parapet/waitq): Move on the two plain lists; that it keeps what is always so.
-/
import Derived.Test.YtokclkiidhcffaaWqFew
namespace Go.Proofs.Ytokclkiidhcffaa
open Go.ChangeShapes Go.WideShapes Go.ChangeAt Go.RowKit Go.Maps
set_option linter.unusedVariables false

/-- A channel in another one's place. -/
def inPlace (c d : CH) (l : List CH) : List CH := l.map fun x => if x = c then d else x
theorem inPlace_far {c d : CH} : ∀ {l : List CH}, c ∉ l → inPlace c d l = l
  | [], _ => rfl
  | x :: r, h => by
    simp at h
    show (if x = c then d else x) :: inPlace c d r = _
    rw [if_neg (fun e => h.1 e.symm), inPlace_far h.2]
theorem inPlace_set {c d : CH} : ∀ {l : List CH}, l.Nodup → c ∈ l → l.set (l.idxOf c) d = inPlace c d l
  | [], _, h => by cases h
  | x :: r, hn, h => by
    rw [List.nodup_cons] at hn
    by_cases e : x = c
    · subst e
      rw [List.idxOf_cons_self, List.set_cons_zero]
      show _ = (if x = x then d else x) :: inPlace x d r
      rw [if_pos rfl, inPlace_far hn.1]
    · have hr : c ∈ r := by
        rcases List.mem_cons.1 h with h | h
        · exact absurd h.symm e
        · exact h
      have hx : List.idxOf c (x :: r) = List.idxOf c r + 1 := by rw [List.idxOf_cons, show (x == c) = false by simpa using e]; rfl
      rw [hx, List.set_cons_succ, inPlace_set hn.2 hr]
      show _ = (if x = c then d else x) :: inPlace c d r
      rw [if_neg e]
theorem inPlace_length (c d : CH) (l : List CH) : (inPlace c d l).length = l.length := by simp [inPlace]
theorem mem_inPlace {c d x : CH} {l : List CH} (hc : c ∈ l) (hcd : c ≠ d) : x ∈ inPlace c d l ↔ x = d ∨ (x ∈ l ∧ x ≠ c) := by
  unfold inPlace
  rw [List.mem_map]
  constructor
  · rintro ⟨y, hy, rfl⟩
    by_cases e : y = c
    · rw [if_pos e]; exact .inl rfl
    · rw [if_neg e]; exact .inr ⟨hy, e⟩
  · rintro (rfl | ⟨h, e⟩)
    · exact ⟨c, hc, by rw [if_pos rfl]⟩
    · exact ⟨x, h, by rw [if_neg e]⟩
theorem inPlace_nodup {c d : CH} : ∀ {l : List CH}, l.Nodup → d ∉ l → (inPlace c d l).Nodup
  | [], _, _ => by simp [inPlace]
  | x :: r, hn, h => by
    rw [List.nodup_cons] at hn
    simp at h
    show ((if x = c then d else x) :: inPlace c d r).Nodup
    rw [List.nodup_cons]
    refine ⟨fun hm => ?_, inPlace_nodup hn.2 h.2⟩
    unfold inPlace at hm
    obtain ⟨y, hy, e⟩ := List.mem_map.1 hm
    by_cases e1 : x = c
    · rw [if_pos e1] at e
      by_cases e2 : y = c
      · exact hn.1 (by rw [e1, ← e2]; exact hy)
      · rw [if_neg e2] at e
        exact h.2 (by rw [← e]; exact hy)
    · rw [if_neg e1] at e
      by_cases e2 : y = c
      · rw [if_pos e2] at e
        exact h.1 e
      · rw [if_neg e2] at e
        exact hn.1 (by rw [← e]; exact hy)
/-- A thread sleeps on another channel in the place of one. -/
def moveS (c d : CH) (s : LW) (t : Int) : LW := (setL s.1 t (inPlace c d), comeL (leaveL s.2 c t) d t)
/-- The first ones, at most n of them; and how many. -/
def stepMv (c d : CH) (n : Int) (p : LW × Nat) (t : Int) : LW × Nat := if n ≤ p.2 then p else if d ∈ atL p.1.1 t then p else (moveS c d p.1 t, p.2 + 1)
def moveF (c d : CH) (n : Int) (s : LW) (l : List Int) : LW × Nat := l.foldl (stepMv c d n) (s, 0)
theorem moveF_snoc (c d : CH) (n : Int) (s : LW) (l : List Int) (t : Int) : moveF c d n s (l ++ [t]) = stepMv c d n (moveF c d n s l) t := by simp [moveF]
theorem stepMv_stop {c d : CH} {n : Int} : ∀ (l : List Int) (p : LW × Nat), n ≤ p.2 → l.foldl (stepMv c d n) p = p
  | [], p, _ => rfl
  | t :: r, p, h => by
    rw [List.foldl_cons, show stepMv c d n p t = p by unfold stepMv; rw [if_pos h]]
    exact stepMv_stop r p h
theorem moveF_stop {c d : CH} {n : Int} {s : LW} {l : List Int} {i : Nat} (h : n ≤ (moveF c d n s (l.take i)).2) : moveF c d n s l = moveF c d n s (l.take i) := by
  conv => lhs; rw [← List.take_append_drop i l]
  unfold moveF at h ⊢
  rw [List.foldl_append]
  exact stepMv_stop _ _ h
theorem moveF_le (c d : CH) (n : Int) (s : LW) : ∀ (i : Nat) (l : List Int), (moveF c d n s (l.take i)).2 ≤ i
  | 0, l => by simp [moveF]
  | i + 1, l => by
    rcases Nat.lt_or_ge i l.length with h | h
    · rw [List.take_add_one, show l[i]?.toList = [l[i]] by simp [h], moveF_snoc]
      have := moveF_le c d n s i l
      unfold stepMv
      split
      · omega
      · split
        · omega
        · show _ + 1 ≤ _
          omega
    · have := moveF_le c d n s i l
      rw [List.take_of_length_le (by omega)]
      rw [List.take_of_length_le h] at this
      omega
theorem OkW.move {s : LW} (o : OkW s.1 s.2) {c d : CH} {t : Int} (hcd : c ≠ d) (hc : c ∈ atL s.1 t) (hd : d ∉ atL s.1 t) : OkW (moveS c d s t).1 (moveS c d s t).2 := by
  have ht : t ∈ s.1.map (·.1) := mem_atL (fun e => by rw [e] at hc; cases hc)
  have hdt : t ∉ atL s.2 d := fun h => hd ((o.both t d).2 h)
  have e2 : ∀ x, atL (moveS c d s t).2 x = if x = d then atL s.2 d ++ [t] else if x = c then (atL s.2 c).erase t else atL s.2 x := fun x => by
    show atL (comeL (leaveL s.2 c t) d t) x = _
    by_cases h1 : x = d
    · subst h1
      rw [if_pos rfl, atL_come_same, atL_leave_far (Ne.symm hcd)]
    · rw [if_neg h1, atL_come_far h1]
      by_cases h2 : x = c
      · subst h2
        rw [if_pos rfl, atL_leave_same]
      · rw [if_neg h2, atL_leave_far h2]
  have e1 : ∀ x, atL (moveS c d s t).1 x = if x = t then inPlace c d (atL s.1 t) else atL s.1 x := fun x => by
    show atL (setL s.1 t (inPlace c d)) x = _
    by_cases h1 : x = t
    · subst h1
      rw [if_pos rfl, atL_set_same _ ht]
    · rw [if_neg h1, atL_set_far _ h1]
  have hmem : ∀ p ∈ (moveS c d s t).1, ∃ q ∈ s.1, p.2.length = q.2.length := fun p hp => by
    obtain ⟨x, hx, rfl⟩ := List.mem_map.1 (show p ∈ s.1.map (fun p => if p.1 = t then (t, inPlace c d p.2) else p) from hp)
    refine ⟨x, hx, ?_⟩
    by_cases e : x.1 = t
    · rw [if_pos e]; exact inPlace_length _ _ _
    · rw [if_neg e]
  refine ⟨by show ((setL s.1 t (inPlace c d)).map (·.1)).Nodup; rw [setL_keys]; exact o.k1, come_keys (leave_keys o.k2 _ _) _ _, fun t' x => ?_, fun p hp e => ?_, fun p hp => ?_, fun t' => ?_, fun x => ?_, by show (setL s.1 t (inPlace c d)).length ≤ 64; simp only [setL, List.length_map]; exact o.few⟩
  · rw [e1, e2]
    by_cases h1 : t' = t
    · subst h1
      rw [if_pos rfl, mem_inPlace hc hcd]
      by_cases h2 : x = d
      · subst h2; simp
      · rw [if_neg h2]
        by_cases h3 : x = c
        · subst h3
          rw [if_pos rfl, (o.nd2 x).mem_erase_iff]
          simp [h2]
        · rw [if_neg h3, ← o.both]
          simp [h2, h3]
    · rw [if_neg h1, o.both]
      by_cases h2 : x = d
      · subst h2; simp [h1]
      · rw [if_neg h2]
        by_cases h3 : x = c
        · subst h3
          rw [if_pos rfl, (o.nd2 x).mem_erase_iff]
          simp [h1]
        · rw [if_neg h3]
  · obtain ⟨q, hq, hl⟩ := hmem p hp
    have := o.ne1 q hq
    rw [e] at hl
    exact this (List.eq_nil_of_length_eq_zero hl.symm)
  · obtain ⟨q, hq, hl⟩ := hmem p hp
    rw [hl]; exact o.on16 q hq
  · rw [e1]
    split
    · exact inPlace_nodup (o.nd1 t) hd
    · exact o.nd1 t'
  · rw [e2]
    split
    · refine List.nodup_append.2 ⟨o.nd2 d, by simp, fun a ha b hb e => ?_⟩
      simp at hb
      subst hb; subst e
      exact hdt ha
    · split
      · exact (o.nd2 c).erase t
      · exact o.nd2 x
theorem moveS_at1 {c d : CH} {s : LW} {t t' : Int} (h : t' ≠ t) : atL (moveS c d s t).1 t' = atL s.1 t' := atL_set_far _ h
/-- What holds while the first i of a channel's sleepers have been looked at. -/
theorem moveF_inv {c d : CH} {n : Int} {s : LW} (o : OkW s.1 s.2) (hcd : c ≠ d) {l : List Int} (hl : atL s.2 c = l) (i : Nat) (hi : i ≤ l.length) : OkW (moveF c d n s (l.take i)).1.1 (moveF c d n s (l.take i)).1.2 ∧ (∀ j (h : j < l.length), i ≤ j → atL (moveF c d n s (l.take i)).1.1 l[j] = atL s.1 l[j]) ∧ (moveF c d n s (l.take i)).1.2.length ≤ s.2.length + i := by
  induction i with
  | zero => exact ⟨by simpa [moveF] using o, fun j h _ => by simp [moveF], by simp [moveF]⟩
  | succ i ih =>
    obtain ⟨h1, h2, h3⟩ := ih (by omega)
    have hnd : l.Nodup := hl ▸ o.nd2 c
    have hil : i < l.length := by omega
    rw [List.take_add_one, show l[i]?.toList = [l[i]] by simp [hil], moveF_snoc]
    have hc : c ∈ atL s.1 l[i] := (o.both _ c).2 (by rw [hl]; exact List.getElem_mem hil)
    rw [← h2 i hil (Nat.le_refl _)] at hc
    have hs : ∀ j (h : j < l.length), i + 1 ≤ j → l[j] ≠ l[i] := fun j h hj e => (List.pairwise_iff_getElem.1 hnd) i j (by omega) h (by omega) e.symm
    generalize hp : moveF c d n s (l.take i) = p at *
    unfold stepMv
    split
    · exact ⟨h1, fun j h hj => h2 j h (by omega), by omega⟩
    · split
      · exact ⟨h1, fun j h hj => h2 j h (by omega), by omega⟩
      · rename_i hd
        refine ⟨h1.move hcd hc hd, fun j h hj => ?_, ?_⟩
        · show atL (moveS c d p.1 l[i]).1 l[j] = _
          rw [moveS_at1 (hs j h hj)]
          exact h2 j h (by omega)
        · show (comeL (leaveL p.1.2 c l[i]) d l[i]).length ≤ _
          have e1 := comeL_length (leaveL p.1.2 c l[i]) d l[i]
          have e2 : (leaveL p.1.2 c l[i]).length ≤ p.1.2.length := by
            unfold leaveL
            split
            · exact List.length_filter_le _ _
            · simp [setL]
          omega
theorem moveF_same {c : CH} {n : Int} {s : LW} : ∀ (l : List Int), (∀ t ∈ l, c ∈ atL s.1 t) → moveF c c n s l = (s, 0) := by
  intro l
  unfold moveF
  induction l with
  | nil => intro _; rfl
  | cons t r ih =>
    intro h
    rw [List.foldl_cons]
    have : stepMv c c n (s, 0) t = (s, 0) := by
      unfold stepMv
      split
      · rfl
      · rw [if_pos (h t (by simp))]
    rw [this]
    exact ih fun t ht => h t (by simp [ht])
theorem moveF_invs {c d : CH} {n : Int} {s : LW} (o : OkW s.1 s.2) {l : List Int} (hl : atL s.2 c = l) (i : Nat) (hi : i ≤ l.length) : OkW (moveF c d n s (l.take i)).1.1 (moveF c d n s (l.take i)).1.2 ∧ (∀ j (h : j < l.length), i ≤ j → atL (moveF c d n s (l.take i)).1.1 l[j] = atL s.1 l[j]) ∧ (moveF c d n s (l.take i)).1.2.length ≤ s.2.length + i := by
  by_cases e : c = d
  · subst e
    rw [moveF_same _ (fun t ht => (o.both t c).2 (by rw [hl]; exact List.mem_of_mem_take ht))]
    exact ⟨o, fun _ _ _ => rfl, Nat.le_add_right _ _⟩
  · exact moveF_inv o e hl i hi
end Go.Proofs.Ytokclkiidhcffaa
