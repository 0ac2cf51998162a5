/-
  Slabs: plain facts: what is made on top of a heap and freed again leaves what it tells as it was. No program is named beyond the tables.
-/
import Derived.Test.YtgoaebikgdecoaaDoorSlabBack2
namespace Go.Proofs.YtgoaebikgdecoaaDoor
open Go.ChangeShapes Go.WideShapes Go.ChangeAt Go.RowKit Go.Maps
set_option linter.unusedVariables false

/-- A heap with the objects of another one, and those of M besides. -/
structure BackS (ss0 : List SL) (O0 : List (Int × Int)) (ss : List SL) (O : List (Int × Int)) (M : Int → Prop) : Prop where
  keys : ∀ id, id ∈ O.map (·.1) ↔ id ∈ O0.map (·.1) ∨ M id
  disj : ∀ id, M id → id ∉ O0.map (·.1)
  kind : ∀ n, (ss0.getD n nS).kind ≠ 0 → (ss.getD n nS).kind = (ss0.getD n nS).kind
theorem BackS.refl (ss0 : List SL) (O0 : List (Int × Int)) : BackS ss0 O0 ss0 O0 (fun _ => False) := ⟨fun id => by simp, fun id h => h.elim, fun n _ => rfl⟩
theorem getD_set {ss : List SL} {n : Nat} (hn : n < ss.length) (s' : SL) (j : Nat) : (ss.set n s').getD j nS = if j = n then s' else ss.getD j nS := by
  by_cases e : j = n
  · subst e; simp [List.getD, hn]
  · rw [if_neg e]
    simp [List.getD, List.getElem?_set_ne (show n ≠ j by omega)]
section
variable {L : Int} {ss0 ss : List SL} {O0 O : List (Int × Int)} {M : Int → Prop}
theorem BackS.told (h0 : OkH L ss0 O0) (h : OkH L ss O) (hF0 : FullL ss0) (hF : FullL ss) (hB : BackS ss0 O0 ss O M) (hM : ∀ id, ¬ M id) : ToldS ss0 ss :=
  told_same h0 h hF0 hF (fun id => by rw [hB.keys]; simp [hM]) hB.kind
theorem getD_build (h : OkH L ss O) (k : Int) (j : Nat) (hj : (ss.getD j nS).kind ≠ 0) : (buildL ss k).getD j nS = ss.getD j nS ∧ j ≠ buildN ss := by
  have hl : j < ss.length := by
    apply Decidable.byContradiction
    intro hn
    exact hj (by simp [List.getD, show ss.length ≤ j by omega, nS])
  rcases firstI_cases noK ss with ⟨e, hno⟩ | ⟨i, s, hs, hp, e, _⟩
  · have eB : buildL ss k = ss ++ [newS k] := by unfold buildL; rw [e, if_pos (by decide)]
    have eN : buildN ss = ss.length := by unfold buildN; rw [e, if_pos (by decide)]
    rw [eB, eN]
    refine ⟨by simp [List.getD, List.getElem?_append_left hl], by omega⟩
  · have eB : buildL ss k = ss.set i (newS k) := by unfold buildL; rw [e, if_neg (by omega)]; simp
    have eN : buildN ss = i := by unfold buildN; rw [e, if_neg (by omega)]; simp
    have hi := (List.getElem?_eq_some_iff.1 hs).1
    have hs0 : s.kind = 0 := by simpa [noK] using hp
    have hne : j ≠ i := fun x => by
      subst x
      have : ss.getD j nS = s := by simp [List.getD, hs]
      rw [this] at hj
      exact hj hs0
    rw [eB, eN, getD_set hi, if_neg hne]
    exact ⟨rfl, hne⟩
/-- What is made comes besides. -/
theorem BackS.alloc (h : OkH L ss O) (hB : BackS ss0 O0 ss O M) (k owner : Int) (he : (allocF L ss O k owner).2.2 = 0) :
    BackS ss0 O0 (allocF L ss O k owner).1.1 (allocF L ss O k owner).1.2 (fun x => M x ∨ x = (allocF L ss O k owner).2.1) ∧ ¬ M (allocF L ss O k owner).2.1 := by
  have hT : ∀ (ss1 : List SL) (n : Nat) (s1 : SL), OkH L ss1 O → ss1[n]? = some s1 → s1.free ≠ 0 → (∀ j, (ss0.getD j nS).kind ≠ 0 → (ss1.getD j nS).kind = (ss0.getD j nS).kind) →
      BackS ss0 O0 (takeAt ss1 O n owner).1.1 (takeAt ss1 O n owner).1.2 (fun x => M x ∨ x = (takeAt ss1 O n owner).2.1) ∧ ¬ M (takeAt ss1 O n owner).2.1 := by
    intro ss1 n s1 k1 k2 k3 k4
    have hfr := k1.fresh k2 k3
    have hn := (List.getElem?_eq_some_iff.1 k2).1
    unfold takeAt
    rw [getD_of k2]
    rw [hB.keys] at hfr
    refine ⟨⟨fun id => ?_, fun id hid => ?_, fun j hj => ?_⟩, fun hm => hfr (.inr hm)⟩
    · rw [List.map_append, List.mem_append, hB.keys]
      simp [or_assoc]
    · rcases hid with hid | rfl
      · exact hB.disj id hid
      · exact fun hm => hfr (.inl hm)
    · rw [getD_set hn]
      split
      · rename_i e
        subst e
        have := k4 j hj
        rw [show ss1.getD j nS = s1 by simp [List.getD, k2]] at this
        exact this
      · exact k4 j hj
  unfold allocF at he ⊢
  by_cases hk : szF k = 0
  · rw [if_pos hk] at he; simp at he
  · rw [if_neg hk] at he ⊢
    rcases firstI_cases (hasK k) ss with ⟨e, _⟩ | ⟨i, s, hs, hp, e, _⟩
    · rw [e, if_neg (by decide)] at he ⊢
      by_cases hm : moreF L ss = 0
      · rw [if_pos hm] at he; simp at he
      · rw [if_neg hm]
        obtain ⟨k1, k2⟩ := h.build hk hm
        refine hT _ _ _ k1 k2 (newS_pos hk) fun j hj => ?_
        have := hB.kind j hj
        rw [(getD_build h k j (by rw [this]; exact hj)).1]
        exact this
    · rw [e, if_pos (by omega)]
      simp only [hasK, Bool.and_eq_true, decide_eq_true_eq] at hp
      rw [show ((i : Int)).toNat = i by simp]
      exact hT _ _ _ h hs hp.2 hB.kind
/-- .. and goes again. -/
theorem BackS.free (h0 : OkH L ss0 O0) (hF0 : FullL ss0) (h : OkH L ss O) (hB : BackS ss0 O0 ss O M) (id : Int) (hm : M id) :
    (freeF ss O id).2 = 0 ∧ BackS ss0 O0 (freeF ss O id).1.1 (freeF ss O id).1.2 (fun x => M x ∧ x ≠ id) := by
  have hmem : id ∈ O.map (·.1) := (hB.keys id).2 (.inr hm)
  unfold freeF
  rw [if_pos hmem]
  obtain ⟨n, s, p, k1, k2, k3, k4, k5⟩ := liveAt_low ((h.keys id).1 hmem)
  have e1 : (id / 64).toNat = n := by omega
  have e2 : (id % 64).toNat = p := by omega
  have hn := (List.getElem?_eq_some_iff.1 k1).1
  rw [e1, e2, getD_of k1]
  have hOg := h.give k1 k2 k3
  rw [← k5] at hOg
  have hno := hB.disj id hm
  refine ⟨rfl, fun x => ?_, fun x hx => hB.disj x hx.1, fun j hj => ?_⟩
  · rw [mem_outV, hB.keys]
    constructor
    · rintro ⟨h1 | h1, h2⟩
      · exact .inl h1
      · exact .inr ⟨h1, h2⟩
    · rintro (h1 | ⟨h1, h2⟩)
      · exact ⟨.inl h1, fun e => hno (e ▸ h1)⟩
      · exact ⟨.inr h1, h2⟩
  · have hk := hB.kind j hj
    rw [getD_set hn]
    split
    · rename_i e
      subst e
      rw [show ss.getD j nS = s by simp [List.getD, k1]] at hk
      unfold giveS
      split
      · rename_i he
        obtain ⟨p', hp', hlv⟩ := hF0.getD j hj
        have h1 : ((j : Int) * 64 + p') ∈ O0.map (·.1) := (h0.keys _).2 hlv
        have h2 : ((j : Int) * 64 + p') ∈ (outV O id).map (·.1) := mem_outV.2 ⟨(hB.keys _).2 (.inl h1), fun e => hno (e ▸ h1)⟩
        have h3 := (liveAt_iff (s := giveS s p) (by simp [hn]) hp').1 ((hOg.keys _).1 h2)
        unfold giveS at h3
        rw [if_pos he, plF_zero] at h3
        simp at h3
      · exact hk
    · exact hk
end
end Go.Proofs.YtgoaebikgdecoaaDoor
