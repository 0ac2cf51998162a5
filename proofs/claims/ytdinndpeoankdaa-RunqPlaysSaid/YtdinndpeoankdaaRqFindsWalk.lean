/-
  The walk of 'RunqFinds'.
-/
import Derived.Test.YtdinndpeoankdaaRqLaw
namespace Go.Proofs.Ytdinndpeoankdaa
open Go.ChangeShapes Go.WideShapes Go.ChangeAt Go.RowKit Go.Deep
set_option linter.unusedVariables false

theorem putF_H (s : RQ) (h t : Int) : (putF s h t).1.H = s.H := by
  unfold putF
  split
  · rfl
  · split
    · rfl
    · split <;> rfl
theorem wakeF_H (s : RQ) (t : Int) : (wakeF s t).1.H = s.H := by
  unfold wakeF
  split
  · exact putF_H _ _ _
  · rfl
theorem nextF_H (s : RQ) (h : Int) : (nextF s h).1.H = s.H := by
  unfold nextF
  split
  · rfl
  · split
    · rfl
    · split <;> rfl
theorem tickF_H (s : RQ) (h : Int) : (tickF s h).1.H = s.H := by
  unfold tickF
  split <;> rfl
theorem removeF_H (s : RQ) (t : Int) : (removeF s t).1.H = s.H := by
  unfold removeF
  split
  · exact (drop_parts _ _ _).1
  · rfl
theorem sleepF_H (s : RQ) (h : Int) : (sleepF s h).1.H = s.H := by
  unfold sleepF
  split
  · rfl
  · exact (drop_parts _ _ _).1
theorem busyQ_max (s : RQ) : ∀ k j, j < k → (s.n j).length ≤ (s.n (busyQ s k)).length
  | 0, j, h => by omega
  | k + 1, j, h => by
    have ih := busyQ_max s k
    unfold busyQ
    by_cases e : j = k
    · subst e
      split <;> omega
    · have := ih j (by omega)
      split <;> omega
/-- How many wait in the first k queues. -/
def waitsQ (s : RQ) : Nat → Nat
  | 0 => 0
  | k + 1 => waitsQ s k + (s.n k).length
theorem waitsQ_le {s : RQ} (o : OkQ s) : ∀ k, k ≤ 8 → waitsQ s k ≤ 64 * k
  | 0, _ => by simp [waitsQ]
  | k + 1, h => by
    have := waitsQ_le o k (by omega)
    have := o.small.few k (by omega)
    unfold waitsQ
    omega
theorem waitsQ_zero {s : RQ} : ∀ k, waitsQ s k = 0 ↔ ∀ j, j < k → s.n j = []
  | 0 => by simp [waitsQ]
  | k + 1 => by
    have ih := waitsQ_zero (s := s) k
    unfold waitsQ
    constructor
    · intro h j hj
      by_cases e : j = k
      · subst e; exact List.eq_nil_of_length_eq_zero (by omega)
      · exact ih.1 (by omega) j (by omega)
    · intro h
      rw [ih.2 fun j hj => h j (by omega), h k (by omega)]
      rfl
theorem busy_none {s : RQ} (o : OkQ s) : s.n (busyQ s s.H) = [] ↔ waitsQ s s.H = 0 := by
  rw [waitsQ_zero]
  constructor
  · intro e j hj
    have := busyQ_max s s.H j hj
    rw [e] at this
    exact List.eq_nil_of_length_eq_zero (by simpa using this)
  · intro h
    have := busyQ_lt s s.H
    have := o.h1
    exact h _ (by omega)
/-- A hart that runs nothing finds a thread, if one waits. -/
theorem next_finds {s : RQ} (o : OkQ s) {h : Nat} (hh : h < s.H) (hr : s.r h = 0) (hw : waitsQ s s.H ≠ 0) :
    ∃ f i, i < (s.n f).length ∧ nextF s h = (runS s h f i, gb (s.n f) i, true) := by
  have hb : hasQ s h = true := by simp [hasQ, hh]
  unfold nextF
  rw [hb, Int.toNat_natCast, if_neg (by simp [hr])]
  by_cases e : s.n h = []
  · rw [if_neg (by simp [e])]
    have e2 : s.n (busyQ s s.H) ≠ [] := fun e => hw ((busy_none o).1 e)
    rw [if_neg e2]
    have := List.length_pos_iff.2 e2
    exact ⟨_, _, by omega, rfl⟩
  · rw [if_pos e]
    exact ⟨_, _, List.length_pos_iff.2 e, rfl⟩
theorem next_no {s : RQ} (o : OkQ s) {h : Int} (hn : hasQ s h = false ∨ s.r h.toNat ≠ 0 ∨ waitsQ s s.H = 0) : nextF s h = (s, 0, false) := by
  unfold nextF
  by_cases h1 : hasQ s h = false ∨ s.r h.toNat ≠ 0
  · rw [if_pos h1]
  · rw [if_neg h1]
    have h2 : waitsQ s s.H = 0 := by
      rcases hn with hn | hn | hn
      · exact absurd (.inl hn) h1
      · exact absurd (.inr hn) h1
      · exact hn
    have hb : hasQ s h = true := by simpa using fun e => h1 (.inl e)
    obtain ⟨k, rfl, hk⟩ := hasQ_nat hb
    rw [Int.toNat_natCast, if_neg (by simp [(waitsQ_zero _).1 h2 k hk]), if_pos ((busy_none o).2 h2)]
theorem run_where {s : RQ} (o : OkQ s) {h f i : Nat} (hh : h < s.H) (hr : s.r h = 0) (hi : i < (s.n f).length) :
    runningF (runS s h f i) h = gb (s.n f) i ∧ whereF (runS s h f i) (gb (s.n f) i) = ((h : Int), true) := by
  have o' := o.run hh hi hr
  have ha : atQ (runS s h f i) (gb (s.n f) i) h := (at_run o hi hr).2 (.inr ⟨rfl, rfl⟩)
  constructor
  · unfold runningF
    have hb : hasQ (runS s h f i) h = true := by
      unfold hasQ
      rw [decide_eq_true_eq]
      have hh' : h < (runS s h f i).H := hh
      omega
    rw [if_pos hb, Int.toNat_natCast]
    exact upd_same _ _ _
  · unfold whereF
    rw [if_pos (o'.key.2 ⟨h, ha⟩), whereQ_is o' ha]

section
variable {w wr : World} {g H : Nat}
end
end Go.Proofs.Ytdinndpeoankdaa