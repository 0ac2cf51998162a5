/-
  The law's maps of strings by numbers: 'Mp N D Q': each key is a sector's number, each element keeps Q.
-/
import Derived.Test.YtpkoihbebhmicaaMapL
import Derived.Test.YtpkoihbebhmicaaFlPure
import Derived.Maps.StringElems
namespace Go.Proofs.Ytpkoihbebhmicaa
open Go.ChangeShapes Go.WideShapes Go.ChangeAt Go.RowKit Go.Maps
set_option linter.unusedVariables false

theorem below_len : ∀ (n : Nat) (l : List Int), l.Nodup → (∀ x ∈ l, 0 ≤ x ∧ x < n) → l.length ≤ n
  | 0, l, _, h => by
    cases l with
    | nil => simp
    | cons a r => have := h a (by simp); omega
  | n + 1, l, hn, h => by
    have h1 : (l.erase (n : Int)).length ≤ n := below_len n _ (hn.erase _) (fun x hx => by
      have h2 := h x (List.mem_of_mem_erase hx)
      have h3 : x ≠ n := fun e => by
        subst e
        exact (List.Nodup.not_mem_erase hn) hx
      omega)
    have h2 := List.length_erase (a := (n : Int)) (l := l)
    split at h2 <;> omega

def encS : Enc Int ByteArray where
  wf k := (Lit.int .i64 k).wf = true
  kl k := .int .i64 k
  fd s := .lit (.string s.data.toList)
  inj := fun _ _ e => by injection e
  key _ := trivial
  dinj e := by
    injection e with e
    injection e with e
    exact ByteArray.ext (Array.ext' e)

def Mp (N : Nat) (D : DataW Unit) (Q : Nat → ByteArray → Prop) : Prop :=
  ∃ O : List (Int × ByteArray), MHolds encS D O ∧ ∀ p ∈ O, ∃ i : Nat, p.1 = i ∧ i < N ∧ Q i p.2

section
variable {N : Nat} {D : DataW Unit} {Q Q' : Nat → ByteArray → Prop}
theorem Mp.empty : Mp N (.map []) Q := ⟨[], MHolds.empty, by simp⟩
theorem Mp.imp (h : Mp N D Q) (hq : ∀ i s, i < N → Q i s → Q' i s) : Mp N D Q' := by
  obtain ⟨O, hO, h1⟩ := h
  refine ⟨O, hO, fun p hp => ?_⟩
  obtain ⟨i, e, hi, hQ⟩ := h1 p hp
  exact ⟨i, e, hi, hq i _ hi hQ⟩
theorem Mp.size (h : Mp N D Q) : Maps.size D ≤ N := by
  obtain ⟨O, hO, h1⟩ := h
  rw [hO.size, ← List.length_map (f := (·.1))]
  refine below_len N _ hO.nd fun x hx => ?_
  obtain ⟨p, hp, rfl⟩ := List.mem_map.1 hx
  obtain ⟨i, e, hi, _⟩ := h1 p hp
  omega
theorem Mp.put (h : Mp N D Q) (hN : N ≤ 4096) {i : Nat} (hi : i < N) {s : ByteArray} (hq : Q' i s) (hQ : ∀ j s, j ≠ i → Q j s → Q' j s) : Mp N (D.put (.int .i64 i) (.lit (.string s.data.toList))) Q' := by
  obtain ⟨O, hO, h1⟩ := h
  by_cases hk : (i : Int) ∈ O.map (·.1)
  · obtain ⟨p, hp, e⟩ := List.mem_map.1 hk
    have hp' : ((i : Int), p.2) ∈ O := by rw [← e]; exact hp
    refine ⟨setV O i s, hO.old (E := encS) hp' s, fun q hq' => ?_⟩
    unfold setV at hq'
    obtain ⟨r, hr, rfl⟩ := List.mem_map.1 hq'
    split
    · exact ⟨i, rfl, hi, hq⟩
    · rename_i hne
      obtain ⟨j, e2, hj, h2⟩ := h1 r hr
      exact ⟨j, e2, hj, hQ j _ (fun e3 => hne (by rw [e2, e3])) h2⟩
  · refine ⟨O ++ [((i : Int), s)], hO.new (E := encS) (WalkArith.wf_i64 (by omega)) hk, fun q hq' => ?_⟩
    rcases List.mem_append.1 hq' with hq' | hq'
    · obtain ⟨j, e2, hj, h2⟩ := h1 q hq'
      exact ⟨j, e2, hj, hQ j _ (fun e3 => hk (List.mem_map.2 ⟨q, hq', by rw [e2, e3]⟩)) h2⟩
    · rw [List.mem_singleton.1 hq']
      exact ⟨i, rfl, hi, hq⟩
theorem Mp.del (h : Mp N D Q) (i : Nat) : Mp N (D.del (.int .i64 i)) (fun j s => j ≠ i ∧ Q j s) := by
  obtain ⟨O, hO, h1⟩ := h
  by_cases hk : (i : Int) ∈ O.map (·.1)
  · obtain ⟨p, hp, e⟩ := List.mem_map.1 hk
    have hp' : ((i : Int), p.2) ∈ O := by rw [← e]; exact hp
    refine ⟨outV O i, hO.del (E := encS) hp', fun q hq' => ?_⟩
    unfold outV at hq'
    obtain ⟨hr, hne⟩ := List.mem_filter.1 hq'
    obtain ⟨j, e2, hj, hQ⟩ := h1 q hr
    refine ⟨j, e2, hj, fun e3 => ?_, hQ⟩
    simp at hne
    exact hne (by rw [e2, e3])
  · have hno : Maps.has D (.int .i64 i) = false := by
      cases e : Maps.has D (.int .i64 i)
      · rfl
      · obtain ⟨p, hp, ep⟩ := (hO.has _).1 e
        have : p.1 = i := by injection ep
        exact absurd (List.mem_map.2 ⟨p, hp, this⟩) hk
    rw [Maps.del_of_not_has hno]
    refine ⟨O, hO, fun q hq => ?_⟩
    obtain ⟨j, e2, hj, hQ⟩ := h1 q hq
    exact ⟨j, e2, hj, fun e3 => hk (List.mem_map.2 ⟨q, hq, by rw [e2, e3]⟩), hQ⟩
/-- What a range comes to. -/
theorem Mp.come (h : Mp N D Q) {x : Int} {c : ByteArray} (hat : ∀ zd, D.atKey (.int .i64 x) zd = .lit (.string c.data.toList)) : ∃ i : Nat, x = i ∧ i < N ∧ Q i c := by
  obtain ⟨O, hO, h1⟩ := h
  obtain ⟨p, hp, hpk⟩ := (hO.has _).1 (has_true_of_atKey hat)
  obtain ⟨i, e, hi, hQ⟩ := h1 p hp
  have e1 : p.1 = x := by injection hpk
  have hf := hO.at_ p hp .nil
  rw [hpk, hat] at hf
  have e2 : c = p.2 := encS.dinj hf
  exact ⟨i, by rw [← e1]; exact e, hi, e2 ▸ hQ⟩
end
theorem own_tight {P : Program} {kt : TypeId} {R : Value → Option (DataW Unit × List MemPlace)} {W : World} {b n : Nat} {D : DataW Unit} (hown : W.ownsMap P kt R b n D) : W.ownsMap P kt R b (Maps.size D) D := by
  obtain ⟨es, clock, hb, F, hs, rfl⟩ := hown
  refine ⟨es, clock, hb, F, ?_, rfl⟩
  rw [Maps.size_eq, length_read]
  exact Nat.le_refl _
theorem own_to {P : Program} {kt : TypeId} {R : Value → Option (DataW Unit × List MemPlace)} {W : World} {b n n' : Nat} {D : DataW Unit} (hown : W.ownsMap P kt R b n D) (hn : Maps.size D ≤ n') : W.ownsMap P kt R b n' D := by
  obtain ⟨es, clock, hb, F, hs, e⟩ := own_tight hown
  exact ⟨es, clock, hb, F, Nat.le_trans hs hn, e⟩
end Go.Proofs.Ytpkoihbebhmicaa
