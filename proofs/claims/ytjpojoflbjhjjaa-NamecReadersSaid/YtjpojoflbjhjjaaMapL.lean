/-
  Maps as lists of what they hold: keys of any kind, elements of any shape. Plain facts; no program is named.
-/
import Derived.Maps.Own
import Derived.Maps.OwnSet
import Derived.Maps.OwnOps
import Derived.Maps.RangeWalk
import Derived.Maps.Ext
import Derived.Test.YtjpojoflbjhjjaaLib
namespace Go.Proofs.Ytjpojoflbjhjjaa
open Go.ChangeShapes Go.WideShapes Go.ChangeAt Go.RowKit Go.Maps
set_option linter.unusedVariables false

/-- What keys and elements read as. -/
structure Enc (κ β : Type) where
  wf : κ → Prop
  kl : κ → Lit
  fd : β → DataW Unit
  inj : ∀ {k k'}, wf k → wf k' → kl k = kl k' → k = k'
  key : ∀ k, WideAt.IsKeyLit (kl k)
  dinj : ∀ {f f'}, fd f = fd f' → f = f'
variable {κ β : Type} [DecidableEq κ] (E : Enc κ β)

/-- A map holds just these. -/
structure MHolds (D : DataW Unit) (l : List (κ × β)) : Prop where
  wf : ∀ p ∈ l, E.wf p.1
  has : ∀ k : Lit, Maps.has D k = true ↔ ∃ p ∈ l, E.kl p.1 = k
  at_ : ∀ p ∈ l, ∀ z, D.atKey (E.kl p.1) z = E.fd p.2
  nd : (l.map (·.1)).Nodup
  size : Maps.size D = l.length
  tidy : Maps.Tidy D
section
variable {E} {D : DataW Unit} {l : List (κ × β)} {k : κ} {f : β}
omit [DecidableEq κ] in
theorem MHolds.empty : MHolds E (.map []) [] := ⟨by simp, fun k => by simp [Maps.has], by simp, by simp, rfl, Maps.tidy_empty⟩
omit [DecidableEq κ] in
theorem MHolds.none (h : MHolds E D l) (hk : E.wf k) (hn : k ∉ l.map (·.1)) : Maps.has D (E.kl k) = false := by
  cases e : Maps.has D (E.kl k)
  · rfl
  · obtain ⟨p, hp, ep⟩ := (h.has _).1 e
    exact absurd (List.mem_map.2 ⟨p, hp, E.inj (h.wf p hp) hk ep⟩) hn
omit [DecidableEq κ] in
theorem MHolds.some_ (h : MHolds E D l) (hp : (k, f) ∈ l) : Maps.has D (E.kl k) = true := (h.has _).2 ⟨_, hp, rfl⟩
omit [DecidableEq κ] in
theorem MHolds.new (h : MHolds E D l) (hk : E.wf k) (hn : k ∉ l.map (·.1)) : MHolds E (D.put (E.kl k) (E.fd f)) (l ++ [(k, f)]) := by
  have hno := h.none hk hn
  have hm := h.tidy.isMap
  refine ⟨fun p hp => ?_, fun q => ?_, fun p hp z => ?_, ?_, ?_, h.tidy.put (E.key k) _⟩
  · rcases List.mem_append.1 hp with hp | hp
    · exact h.wf p hp
    · rw [List.mem_singleton.1 hp]; exact hk
  · by_cases e : q = E.kl k
    · subst e
      rw [Maps.has_put_same hm (E.key k)]
      exact ⟨fun _ => ⟨(k, f), by simp, rfl⟩, fun _ => rfl⟩
    · rw [Maps.has_put_other e, h.has]
      constructor
      · rintro ⟨p, hp, ep⟩; exact ⟨p, by simp [hp], ep⟩
      · rintro ⟨p, hp, ep⟩
        rcases List.mem_append.1 hp with hp | hp
        · exact ⟨p, hp, ep⟩
        · rw [List.mem_singleton.1 hp] at ep; exact absurd ep.symm e
  · rcases List.mem_append.1 hp with hp | hp
    · rw [Maps.atKey_put_other (fun e => hn (List.mem_map.2 ⟨p, hp, E.inj (h.wf p hp) hk e⟩)), h.at_ p hp]
    · rw [List.mem_singleton.1 hp, Maps.atKey_put_same hm (E.key k)]
  · rw [List.map_append]
    refine List.nodup_append.2 ⟨h.nd, by simp, ?_⟩
    intro a ha b hb e
    simp at hb
    subst hb; subst e
    exact hn ha
  · rw [Maps.size_put h.tidy, hno, h.size]; simp
/-- What is kept under a key that is there is turned. -/
def setV (l : List (κ × β)) (k : κ) (e : β) : List (κ × β) := l.map fun p => if p.1 = k then (k, e) else p
theorem setV_keys (l : List (κ × β)) (k : κ) (e : β) : (setV l k e).map (·.1) = l.map (·.1) := by
  unfold setV
  rw [List.map_map]
  refine List.map_congr_left fun p _ => ?_
  show (if p.1 = k then (k, e) else p).1 = p.1
  split <;> simp_all
omit [DecidableEq κ] in
theorem MHolds.uniq (h : MHolds E D l) {p q : κ × β} (hp : p ∈ l) (hq : q ∈ l) (e : p.1 = q.1) : p = q := by
  have h1 := h.at_ p hp .nil
  have h2 := h.at_ q hq .nil
  rw [e, h2] at h1
  exact Prod.ext e (E.dinj h1).symm
theorem MHolds.old (h : MHolds E D l) (hp : (k, f) ∈ l) (e : β) : MHolds E (D.put (E.kl k) (E.fd e)) (setV l k e) := by
  have hm := h.tidy.isMap
  have hk := h.wf _ hp
  refine ⟨fun p hp => ?_, fun q => ?_, fun p hp' z => ?_, by rw [setV_keys]; exact h.nd, ?_, h.tidy.put (E.key k) _⟩
  · obtain ⟨q, hq, rfl⟩ := List.mem_map.1 hp
    split
    · exact hk
    · exact h.wf q hq
  · by_cases eq : q = E.kl k
    · subst eq
      rw [Maps.has_put_same hm (E.key k)]
      exact ⟨fun _ => ⟨(k, e), List.mem_map.2 ⟨(k, f), hp, by simp⟩, rfl⟩, fun _ => rfl⟩
    · rw [Maps.has_put_other eq, h.has]
      constructor
      · rintro ⟨p, hp', ep⟩
        refine ⟨p, List.mem_map.2 ⟨p, hp', if_neg (fun e1 => eq ?_)⟩, ep⟩
        rw [← ep, e1]
      · rintro ⟨p, hp', ep⟩
        obtain ⟨r, hr, er⟩ := List.mem_map.1 hp'
        split at er
        · rw [← er] at ep; exact absurd ep.symm eq
        · rw [← er] at ep; exact ⟨r, hr, ep⟩
  · obtain ⟨r, hr, er⟩ := List.mem_map.1 hp'
    split at er
    · rename_i e1
      have : r = (k, f) := h.uniq hr hp e1
      subst this
      rw [← er, Maps.atKey_put_same hm (E.key k)]
    · rename_i e1
      rw [← er, Maps.atKey_put_other (fun e2 => e1 (E.inj (h.wf r hr) hk e2)), h.at_ r hr]
  · rw [Maps.size_put h.tidy, h.some_ hp, if_pos rfl, h.size, setV, List.length_map]
/-- What was let go is not there. -/
def outV (l : List (κ × β)) (k : κ) : List (κ × β) := l.filter fun p => decide (p.1 ≠ k)
theorem MHolds.del (h : MHolds E D l) (hp : (k, f) ∈ l) : MHolds E (D.del (E.kl k)) (outV l k) := by
  have hk := h.wf _ hp
  have hmem : ∀ p, p ∈ outV l k ↔ p ∈ l ∧ p.1 ≠ k := fun p => by simp [outV]
  have hnd : ((outV l k).map (·.1)).Nodup := List.Sublist.nodup (List.Sublist.map _ List.filter_sublist) h.nd
  have hlen : (outV l k).length + 1 = l.length := by
    have h1 := (l.length_eq_countP_add_countP (fun p => decide (p.1 ≠ k))).trans (by rw [List.countP_eq_length_filter, List.countP_eq_length_filter])
    have h2 : l.filter (fun a => decide ¬decide (a.1 ≠ k) = true) = [(k, f)] := by
      have hcount : ∀ (m : List (κ × β)), (m.map (·.1)).Nodup → (k, f) ∈ m → (∀ q ∈ m, q.1 = k → q = (k, f)) → m.filter (fun a => decide ¬decide (a.1 ≠ k) = true) = [(k, f)] := by
        intro m
        induction m with
        | nil => intro _ hm; simp at hm
        | cons x m ih =>
          intro hnd hm hu
          rw [List.map_cons, List.nodup_cons] at hnd
          by_cases e : x.1 = k
          · have hx := hu x (by simp) e
            subst hx
            rw [List.filter_cons, if_pos (by simp), List.filter_eq_nil_iff.2]
            intro q hq hqq
            simp at hqq
            exact hnd.1 (List.mem_map.2 ⟨q, hq, hqq⟩)
          · rw [List.filter_cons, if_neg (by simp [e])]
            refine ih hnd.2 ?_ (fun q hq => hu q (by simp [hq]))
            rcases List.mem_cons.1 hm with e1 | e1
            · rw [← e1] at e; exact absurd rfl e
            · exact e1
      exact hcount l h.nd hp (fun q hq e => h.uniq hq hp e)
    rw [h2] at h1
    unfold outV
    simp at h1 ⊢
    omega
  refine ⟨fun p hp => h.wf p ((hmem p).1 hp).1, fun q => ?_, fun p hp z => ?_, hnd, ?_, h.tidy.del _⟩
  · by_cases e : q = E.kl k
    · subst e
      rw [Maps.has_del_same]
      refine ⟨fun h => (by cases h), fun h3 => ?_⟩
      obtain ⟨p, hp, ep⟩ := h3
      obtain ⟨h1, h2⟩ := (hmem p).1 hp
      exact absurd (E.inj (h.wf p h1) hk ep) h2
    · rw [Maps.has_del_other e, h.has]
      constructor
      · rintro ⟨p, hp, ep⟩
        refine ⟨p, (hmem p).2 ⟨hp, fun e1 => e ?_⟩, ep⟩
        rw [← ep, e1]
      · rintro ⟨p, hp, ep⟩
        exact ⟨p, ((hmem p).1 hp).1, ep⟩
  · obtain ⟨h1, h2⟩ := (hmem p).1 hp
    rw [Maps.atKey_del_other (fun e => h2 (E.inj (h.wf p h1) hk e)), h.at_ p h1]
  · have := Maps.size_del (k := E.kl k) h.tidy
    rw [h.some_ hp, if_pos rfl, h.size] at this
    omega
end
end Go.Proofs.Ytjpojoflbjhjjaa
