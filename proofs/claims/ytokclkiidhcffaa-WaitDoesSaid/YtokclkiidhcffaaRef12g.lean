/-
  The document's sleepers (parapetref12): both tell the same behind Move.
-/
import Derived.Test.YtokclkiidhcffaaRef12f
namespace Go.Proofs.Ytokclkiidhcffaa
open Go.ChangeShapes Go.WideShapes Go.ChangeAt Go.RowKit Go.Maps
set_option linter.unusedVariables false
theorem nodup_get {α : Type} {l : List α} (hn : l.Nodup) {a : α} {i j : Nat} (hi : l[i]? = some a) (hj : l[j]? = some a) : i = j := by
  obtain ⟨h1, e1⟩ := List.getElem?_eq_some_iff.1 hi
  obtain ⟨h2, e2⟩ := List.getElem?_eq_some_iff.1 hj
  rcases Nat.lt_trichotomy i j with h | h | h
  · exact absurd (e1.trans e2.symm) ((List.pairwise_iff_getElem.1 hn) i j h1 h2 h)
  · exact h
  · exact absurd (e2.trans e1.symm) ((List.pairwise_iff_getElem.1 hn) j i h2 h1 h)
theorem inPlace_get (c d : CH) (l : List CH) (n : Nat) : (inPlace c d l)[n]? = (l[n]?).map fun z => if z = c then d else z := by
  unfold inPlace
  rw [List.getElem?_map]
theorem slpR_one (x : SE) (c : CH) : slpR [x] c = if x.on = c then [x.tid] else [] := by
  by_cases h : x.on = c
  · simp [slpR, h]
  · simp [slpR, h]
theorem RelW.step {s : LW} {P Q : List SE} {x : SE} {d : CH} (h : RelW s (P ++ x :: Q)) (hcd : x.on ≠ d) (hd : d ∉ atL s.1 x.tid) : RelW (moveS x.on d s x.tid) (P ++ Q ++ [⟨x.tid, d, x.nth⟩]) := by
  obtain ⟨k, hk, hkc⟩ := (h.at_ x).1 (by simp)
  have hc : x.on ∈ atL s.1 x.tid := List.mem_of_getElem? hkc
  have hn := h.ok.nd1 x.tid
  have hnd := h.nd
  have hmem : ∀ y : SE, y ∈ P ++ Q ↔ y ∈ P ++ x :: Q ∧ y ≠ x := fun y => by
    have hx : x ∉ P ++ Q := by
      rw [List.nodup_append, List.nodup_cons] at hnd
      intro hm
      rcases List.mem_append.1 hm with hm | hm
      · exact hnd.2.2 x hm x (by simp) rfl
      · exact hnd.2.1.1 hm
    simp only [List.mem_append, List.mem_cons]
    constructor
    · intro hy
      refine ⟨?_, fun e => hx (by rw [← e]; simpa using hy)⟩
      rcases hy with hy | hy
      · exact .inl hy
      · exact .inr (.inr hy)
    · rintro ⟨hy | hy | hy, hne⟩
      · exact .inl hy
      · exact absurd hy hne
      · exact .inr hy
  have hset : ∀ t', atL (moveS x.on d s x.tid).1 t' = if t' = x.tid then inPlace x.on d (atL s.1 x.tid) else atL s.1 t' := fun t' => by
    show atL (setL s.1 x.tid (inPlace x.on d)) t' = _
    by_cases e : t' = x.tid
    · rw [if_pos e, e, atL_set_same _ (mem_atL (fun e => by rw [e] at hc; cases hc))]
    · rw [if_neg e, atL_set_far _ e]
  refine ⟨h.ok.move hcd hc hd, fun y => ?_, ?_, fun e => ?_⟩
  · rw [List.mem_append, hmem, h.at_, hset, List.mem_singleton]
    by_cases hy : y.tid = x.tid
    · rw [if_pos hy, hy]
      constructor
      · rintro (⟨⟨n, h1, h2⟩, hne⟩ | rfl)
        · refine ⟨n, h1, ?_⟩
          rw [inPlace_get, h2]
          have : y.on ≠ x.on := fun e => hne (by
            rw [e] at h2
            have := nodup_get hn h2 hkc
            subst this
            obtain ⟨a, b, f⟩ := y
            obtain ⟨a', b', f'⟩ := x
            simp only at hy e h1 hk ⊢
            rw [hy, e, h1, hk])
          simp [this]
        · exact ⟨k, hk, by rw [inPlace_get, hkc]; simp⟩
      · rintro ⟨n, h1, h2⟩
        rw [inPlace_get] at h2
        cases hz : (atL s.1 x.tid)[n]? with
        | none => rw [hz] at h2; simp at h2
        | some z =>
          rw [hz] at h2
          simp only [Option.map_some, Option.some.injEq] at h2
          by_cases hzc : z = x.on
          · right
            rw [if_pos hzc] at h2
            rw [hzc] at hz
            have := nodup_get hn hz hkc
            subst this
            obtain ⟨a, b, f⟩ := y
            simp only at hy h1 h2 ⊢
            rw [hy, ← h2, h1, hk]
          · left
            rw [if_neg hzc] at h2
            exact ⟨⟨n, h1, by rw [← h2]; exact hz⟩, fun e => hzc (by rw [h2, e])⟩
    · rw [if_neg hy]
      constructor
      · rintro (⟨h1, _⟩ | rfl)
        · exact h1
        · exact absurd rfl hy
      · exact fun h1 => .inl ⟨h1, fun e => hy (by rw [e])⟩
  · refine List.nodup_append.2 ⟨List.Nodup.sublist (by simp) hnd, by simp, fun a ha b hb e => ?_⟩
    simp at hb
    subst hb; subst e
    obtain ⟨n, h1, h2⟩ := (h.at_ _).1 ((hmem _).1 ha).1
    have h1 : x.nth = (n : Int) := h1
    have h2 : (atL s.1 x.tid)[n]? = some d := h2
    exact hd (List.mem_of_getElem? h2)
  · have ho := h.ord
    have hR : ∀ f, slpR P f ++ ((if x.on = f then [x.tid] else []) ++ slpR Q f) = atL s.2 f := fun f => by
      rw [← ho f, show P ++ x :: Q = P ++ ([x] ++ Q) by simp, slpR_app, slpR_app, slpR_one]
    show slpR (P ++ Q ++ [⟨x.tid, d, x.nth⟩]) e = atL (comeL (leaveL s.2 x.on x.tid) d x.tid) e
    rw [slpR_app, slpR_app, slpR_one]
    by_cases h1 : e = d
    · subst h1
      rw [if_pos rfl, atL_come_same, atL_leave_far (Ne.symm hcd), ← hR e, if_neg hcd]
      simp
    · rw [if_neg (fun e' => h1 e'.symm), atL_come_far h1]
      by_cases h2 : e = x.on
      · subst h2
        rw [atL_leave_same, ← hR x.on, if_pos rfl]
        have hnn := h.ok.nd2 x.on
        rw [← hR x.on, if_pos rfl] at hnn
        have hnp : x.tid ∉ slpR P x.on := fun hm => (List.nodup_append.1 hnn).2.2 x.tid hm x.tid (by simp) rfl
        rw [List.erase_append_right _ hnp, List.singleton_append, List.erase_cons_head]
        simp
      · rw [atL_leave_far h2, ← hR e, if_neg (fun e' => h2 e'.symm)]
        simp
theorem moveF_far {c d : CH} {n : Int} {t : Int} : ∀ (l : List Int) (p : LW × Nat), t ∉ l → atL (l.foldl (stepMv c d n) p).1.1 t = atL p.1.1 t
  | [], p, _ => rfl
  | x :: r, p, h => by
    simp at h
    rw [List.foldl_cons, moveF_far r _ h.2]
    unfold stepMv
    split
    · rfl
    · split
      · rfl
      · exact moveS_at1 h.1
theorem move_inv {s : LW} {R : List SE} (h : RelW s R) {c d : CH} (hcd : c ≠ d) (n : Int) : ∀ i, i ≤ R.length →
    (foldR c d n R (R.take i)).moved = (moveF c d n s (slpR (R.take i) c)).2 ∧ RelW (moveF c d n s (slpR (R.take i) c)).1 ((foldR c d n R (R.take i)).left ++ (R.drop i ++ (foldR c d n R (R.take i)).behind)) := by
  intro i
  induction i with
  | zero => intro _; exact ⟨by simp [foldR, slpR, moveF], by simpa [foldR, slpR, moveF] using h⟩
  | succ i ih =>
    intro hi
    obtain ⟨h1, h2⟩ := ih (by omega)
    have hil : i < R.length := by omega
    have hsp : R = R.take i ++ R[i] :: R.drop (i + 1) := by rw [List.getElem_cons_drop, List.take_append_drop]
    have hdr : R.drop i = R[i] :: R.drop (i + 1) := (List.getElem_cons_drop ..).symm
    rw [List.take_add_one, show R[i]?.toList = [R[i]] by simp [hil], foldR_snoc, slpR_app, slpR_one]
    have hfar : R[i].on = c → R[i].tid ∉ slpR (R.take i) c := fun e hm => by
      have hn := h.ok.nd2 c
      rw [← h.ord c, hsp, show R.take i ++ R[i] :: R.drop (i + 1) = R.take i ++ ([R[i]] ++ R.drop (i + 1)) by simp, slpR_app, slpR_app, slpR_one, if_pos e] at hn
      exact (List.nodup_append.1 hn).2.2 _ hm _ (by simp) rfl
    have hon := onR_is h R[i].tid
    rw [hdr] at h2
    generalize R[i] = x at *
    generalize foldR c d n R (R.take i) = a at *
    by_cases hc : x.on = c
    · rw [if_pos hc, moveF_snoc]
      have hat : atL (moveF c d n s (slpR (R.take i) c)).1.1 x.tid = atL s.1 x.tid := moveF_far _ _ (hfar hc)
      generalize moveF c d n s (slpR (R.take i) c) = p at *
      unfold stepR movesR
      rw [hon]
      by_cases hm : ((a.moved : Nat) : Int) < n
      · by_cases hd : d ∈ atL s.1 x.tid
        · rw [if_neg (by simp [hd])]
          have e1 : stepMv c d n p x.tid = p := by
            unfold stepMv
            split
            · rfl
            · rw [if_pos (by rw [hat]; exact hd)]
          rw [e1]
          exact ⟨h1, by simpa using h2⟩
        · rw [if_pos (by simp [hc, hd, hm])]
          have e1 : stepMv c d n p x.tid = (moveS c d p.1 x.tid, p.2 + 1) := by
            unfold stepMv
            rw [if_neg (by omega), if_neg (by rw [hat]; exact hd)]
          rw [e1]
          refine ⟨by show a.moved + 1 = p.2 + 1; omega, ?_⟩
          have h3 := RelW.step (P := a.left) (Q := R.drop (i + 1) ++ a.behind) (x := x) (d := d) (by simpa using h2) (by rw [hc]; exact hcd) (by rw [hat]; exact hd)
          rw [hc] at h3
          simpa using h3
      · rw [if_neg (by simp [hm])]
        have e1 : stepMv c d n p x.tid = p := by
          unfold stepMv
          rw [if_pos (by omega)]
        rw [e1]
        exact ⟨h1, by simpa using h2⟩
    · rw [if_neg hc, List.append_nil]
      unfold stepR movesR
      rw [if_neg (by simp [hc])]
      exact ⟨h1, by simpa using h2⟩
theorem RelW.move {s : LW} {R : List SE} (h : RelW s R) (c d : CH) (n : Int) : RelW (moveQ s c d n).1 (moveR c d n R).1 ∧ (moveR c d n R).2 = (moveQ s c d n).2 := by
  unfold moveQ moveR
  by_cases hcd : c = d
  · subst hcd
    rw [if_pos rfl, moveF_same _ (fun t ht => (h.ok.both t c).2 ht)]
    exact ⟨h, rfl⟩
  · rw [if_neg hcd]
    obtain ⟨h1, h2⟩ := move_inv h hcd n R.length (Nat.le_refl _)
    rw [List.take_length, h.ord] at h1 h2
    exact ⟨by simpa using h2, h1⟩
end Go.Proofs.Ytokclkiidhcffaa
