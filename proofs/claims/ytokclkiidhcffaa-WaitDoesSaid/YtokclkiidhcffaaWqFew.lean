/-
  Sleepers (parapet/waitq): no channel's list is longer than there are threads that sleep.
-/
import Derived.Test.YtokclkiidhcffaaWqWake
namespace Go.Proofs.Ytokclkiidhcffaa
set_option linter.unusedVariables false
theorem nodup_in_length : ∀ (a b : List Int), a.Nodup → (∀ x ∈ a, x ∈ b) → a.length ≤ b.length
  | [], b, _, _ => Nat.zero_le _
  | x :: r, b, hn, h => by
    rw [List.nodup_cons] at hn
    have hx : x ∈ b := h x (by simp)
    have h1 := nodup_in_length r (b.erase x) hn.2 (fun y hy => by
      have hne : y ≠ x := fun e => hn.1 (by rw [← e]; exact hy)
      exact (List.mem_erase_of_ne hne).2 (h y (by simp [hy])))
    rw [List.length_erase_of_mem hx] at h1
    have := List.length_pos_of_mem hx
    simp only [List.length_cons]
    omega
theorem OkW.few2 {L1 : List (Int × List CH)} {L2 : List (CH × List Int)} (o : OkW L1 L2) (c : CH) : (atL L2 c).length ≤ L1.length := by
  have h := nodup_in_length (atL L2 c) (L1.map (·.1)) (o.nd2 c) (fun t ht => mem_atL (fun e => by
    have := (o.both t c).2 ht
    rw [e] at this
    cases this))
  simpa using h
theorem OkW.each {L1 : List (Int × List CH)} {L2 : List (CH × List Int)} (o : OkW L1 L2) : ∀ p ∈ L2, p.2.length ≤ L1.length := fun p hp => by
  rw [← atL_of_mem o.k2 hp]
  exact o.few2 p.1
theorem OkW.smallL {L1 : List (Int × List CH)} {L2 : List (CH × List Int)} (o : OkW L1 L2) (h : L2.length < Go.maxLen) : SmallL L2 := ⟨h, fun p hp => Nat.le_trans (o.each p hp) o.few⟩
end Go.Proofs.Ytokclkiidhcffaa
