/-
  A region that draws, whose last operation waits for all the others: the others in any order, then the last.
-/
import Derived.OrdersHeld
import Derived.Tactics
namespace Go.Proofs.Ytdinndpeoankdaa
open Go
set_option linter.unusedVariables false
/-- The post of all but the last: then the last. -/
def ThenLast (P : Program) (ops : Array Oper) (n : Nat) (Q : Exit → Act → World → Prop) : Exit → Act → World → Prop
  | .normal, a, w => wpOp P ops Q n (fun a w => Q .normal a w) a w
  | e, a, w => Q e a w
/-- Each operation waits for earlier ones alone; the last for all. -/
def lastOK (md : Region.Mode) (ops : Array Oper) (n : Nat) : Bool :=
  (ops.size == n + 1) &&
  ((List.range (n + 1)).all fun i => match ops[i]? with
    | none => false
    | some o => (o.after.toList.all fun e => !Region.binds md e || decide (e.on < i)) && (match o.guard with | none => true | some (j, _) => decide (j < n))) &&
  ((List.range n).all fun j => (List.range (n + 1)).any fun i => match ops[i]? with | none => false | some o => o.after.toList.any fun e => Region.binds md e && decide (e.on = j))
section
variable {P : Program} {ops : Array Oper} {Q : Exit → Act → World → Prop} {md : Region.Mode} {n : Nat}
theorem ThenLast.out (h : LetsOut (ThenLast P ops n Q)) : LetsOut Q := by
  obtain ⟨a, w, h⟩ := h
  exact ⟨a, w, h⟩
theorem oper_last {o : Oper} {a : Act} {w : World} {K K' : Act → World → Prop} (hK : ∀ a w, K a w → K' a w) (h : o.wp P a w K (ThenLast P ops n Q)) : o.wp P a w K' Q := by
  unfold Oper.wp at *
  generalize (execOp a.eval o).run P w = r at *
  cases r with
  | ok x w' =>
    cases x <;> simp only [Oper.upon] at h ⊢
    case value u => exact hK _ _ h
    case skip => exact hK _ _ h
    case defer d => exact hK _ _ h
    case enter f args =>
      refine Calls.mono h fun e w'' he => ?_
      cases e with
      | returned u => exact hK _ _ he
      | panicked c => exact he
      | outgrown => exact ThenLast.out he
    case row row args => exact Rows.mono h fun u w'' he => hK _ _ he
  | halt x w' =>
    cases x <;> simp only [Oper.upon] at h ⊢
    case panic u => exact h
structure LastOp (md : Region.Mode) (ops : Array Oper) (n : Nat) : Prop where
  size : ops.size = n + 1
  at_ : ∀ (i : Nat) (o : Oper), ops[i]? = some o → (∀ e ∈ o.after, Region.binds md e = true → e.on < i) ∧ ∀ j b, o.guard = some (j, b) → j < n
  waits : ∀ j, j < n → ∃ (i : Nat) (o : Oper), ops[i]? = some o ∧ ∃ e ∈ o.after, Region.binds md e = true ∧ e.on = j
theorem LastOp.of (h : lastOK md ops n = true) : LastOp md ops n := by
  unfold lastOK at h
  simp only [Bool.and_eq_true, beq_iff_eq] at h
  obtain ⟨⟨hs, ha⟩, hw⟩ := h
  refine ⟨hs, fun i o ho => ?_, ?_⟩
  · have hi := (Array.getElem?_eq_some_iff.1 ho).1
    have h2 := List.all_eq_true.1 ha i (List.mem_range.2 (by omega))
    rw [ho] at h2
    simp only [Bool.and_eq_true] at h2
    refine ⟨fun e he hb => ?_, fun j b hg => ?_⟩
    · have := List.all_eq_true.1 h2.1 e (by simpa using he)
      rw [hb] at this
      simpa using this
    · have h3 := h2.2
      rw [hg] at h3
      simpa using h3
  · intro j hj
    have h3 := List.all_eq_true.1 hw j (List.mem_range.2 hj)
    obtain ⟨i, hi, h4⟩ := List.any_eq_true.1 h3
    cases ho : ops[i]? with
    | none => rw [ho] at h4; simp at h4
    | some o =>
      rw [ho] at h4
      obtain ⟨e, he, h5⟩ := List.any_eq_true.1 h4
      simp only [Bool.and_eq_true, decide_eq_true_eq] at h5
      exact ⟨i, o, ho, e, by simpa using he, h5⟩
theorem pop_get (hs : ops.size = n + 1) {i : Nat} (hi : i < n) : ops.pop[i]? = ops[i]? := by
  rw [Array.getElem?_pop, if_pos (by omega)]
theorem yielded_pop (hs : ops.size = n + 1) (tmps : Array Value) {j : Nat} (hj : j < n) : yielded ops.pop tmps j = yielded ops tmps j := by
  unfold yielded
  rw [pop_get hs hj]
theorem wanted_pop (h : LastOp md ops n) {i : Nat} {o : Oper} (ho : ops[i]? = some o) (tmps : Array Value) : Region.wanted o (yielded ops.pop tmps) = Region.wanted o (yielded ops tmps) := by
  unfold Region.wanted
  cases hg : o.guard with
  | none => rfl
  | some p =>
    obtain ⟨j, b⟩ := p
    simp only
    rw [yielded_pop h.size tmps ((h.at_ _ _ ho).2 j b hg)]
theorem wpOp_pop (h : LastOp md ops n) {i : Nat} (hi : i < n) {K K' : Act → World → Prop} {a : Act} {w : World} (hK : ∀ a w, K a w → K' a w) (hw : wpOp P ops.pop (ThenLast P ops n Q) i K a w) : wpOp P ops Q i K' a w := by
  have hs := h.size
  unfold wpOp at *
  rw [pop_get hs hi] at hw
  have hlt : i < ops.size := by omega
  rw [Array.getElem?_eq_getElem hlt] at hw ⊢
  simp only at hw ⊢
  rw [wanted_pop h (Array.getElem?_eq_getElem hlt)] at hw
  split at hw
  · rename_i hb
    rw [if_pos hb]
    rcases hw with hw | ⟨h1, h2⟩
    · exact .inl (oper_last hK hw)
    · exact .inr ⟨h1, ThenLast.out h2⟩
  · rename_i hb
    rw [if_neg hb]
    exact hK _ _ hw
theorem push_getD {l : Array Bool} (hl : l.size = n) {j : Nat} (hj : j < n) (d : Bool) : (l.push false).getD j d = l.getD j d := by
  simp [Array.getD, Array.getElem_push, hl, hj, Nat.lt_succ_of_lt hj]
theorem push_getD_n {l : Array Bool} (hl : l.size = n) (d : Bool) : (l.push false).getD n d = false := by
  subst hl
  simp [Array.getD]
theorem ready_pop (h : LastOp md ops n) {l : Array Bool} (hl : l.size = n) {i : Nat} (hi : i < n) : i ∈ Region.ready md ops (l.push false) ↔ i ∈ Region.ready md ops.pop l := by
  rw [mem_ready, mem_ready, push_getD hl hi, pop_get h.size hi]
  constructor
  · rintro ⟨h1, o, ho, h2⟩
    refine ⟨h1, o, ho, fun e he hb => ?_⟩
    have := (h.at_ _ _ ho).1 e he hb
    rw [← push_getD hl (by omega) false]
    exact h2 e he hb
  · rintro ⟨h1, o, ho, h2⟩
    refine ⟨h1, o, ho, fun e he hb => ?_⟩
    have := (h.at_ _ _ ho).1 e he hb
    rw [push_getD hl (by omega) false]
    exact h2 e he hb
theorem ready_lt (h : LastOp md ops n) {l : Array Bool} (hl : l.size = n) {i : Nat} (hi : i ∈ Region.ready md ops (l.push false)) : i = n ∨ i < n := by
  obtain ⟨_, o, ho, _⟩ := mem_ready.1 hi
  have := (Array.getElem?_eq_some_iff.1 ho).1
  have := h.size
  omega
/-- What has come up has waited for what it had to. -/
def Closed (md : Region.Mode) (ops : Array Oper) (n : Nat) (l : Array Bool) : Prop := ∀ (i : Nat) (o : Oper), i < n → ops[i]? = some o → l.getD i true = true → ∀ e ∈ o.after, Region.binds md e = true → l.getD e.on true = true
theorem getD_tf {l : Array Bool} {j : Nat} (hj : j < l.size) : l.getD j false = l.getD j true := by
  simp [Array.getD, hj]
theorem ready_n (h : LastOp md ops n) {l : Array Bool} (hl : l.size = n) (hc : Closed md ops n l) : n ∈ Region.ready md ops (l.push false) ↔ ∀ j, j < n → l.getD j true = true := by
  rw [mem_ready]
  constructor
  · rintro ⟨_, o', ho', h2⟩
    have key : ∀ d j, j < n → n - j = d → l.getD j true = true := fun d => by
      induction d using Nat.strongRecOn with
      | _ d ih =>
        intro j hj hd
        obtain ⟨i, o, ho, e, he, hb, hej⟩ := h.waits j hj
        have hji := (h.at_ _ _ ho).1 e he hb
        have hi := (Array.getElem?_eq_some_iff.1 ho).1
        have hs := h.size
        rw [hej] at hji
        by_cases hin : i = n
        · subst hin
          rw [ho] at ho'
          injection ho' with ho'
          subst ho'
          have h3 := h2 e he hb
          rw [hej, push_getD hl hj] at h3
          rw [← getD_tf (by omega)]
          exact h3
        · have h3 := hc i o (by omega) ho (ih (n - i) (by omega) i (by omega) rfl) e he hb
          rwa [hej] at h3
    exact fun j hj => key _ j hj rfl
  · intro hall
    have hlt : n < ops.size := by have := h.size; omega
    refine ⟨push_getD_n hl true, ops[n], Array.getElem?_eq_getElem hlt, fun e he hb => ?_⟩
    have hlt2 := (h.at_ _ _ (Array.getElem?_eq_getElem hlt)).1 e he hb
    rw [push_getD hl hlt2, getD_tf (by omega)]
    exact hall e.on hlt2
theorem Closed.step {l : Array Bool} (hc : Closed md ops n l) (h : LastOp md ops n) (hl : l.size = n) {i : Nat} (hi : i ∈ Region.ready md ops.pop l) (hin : i < n) : Closed md ops n (l.setIfInBounds i true) := by
  have up : ∀ j, l.getD j true = true → (l.setIfInBounds i true).getD j true = true := fun j hj => by
    by_cases e : i = j
    · subst e
      simp [Array.getD, hl, hin]
    · rw [getD_set_ne true e]; exact hj
  intro k o hk ho hlk e he hb
  by_cases e1 : i = k
  · subst e1
    obtain ⟨_, o2, ho2, h2⟩ := mem_ready.1 hi
    rw [pop_get h.size hin, ho] at ho2
    injection ho2 with ho2
    subst ho2
    have hlt := (h.at_ _ _ ho).1 e he hb
    refine up _ ?_
    rw [← getD_tf (by omega)]
    exact h2 e he hb
  · rw [getD_set_ne true e1] at hlk
    exact up _ (hc k o hk ho hlk e he hb)
/-- Some operation is still to come: one may come up. -/
theorem ready_some (h : LastOp md ops n) {l : Array Bool} (hl : l.size = n) : ∀ j, j < n → l.getD j true = false → ∃ i, i < n ∧ i ∈ Region.ready md ops.pop l := by
  intro j
  induction j using Nat.strongRecOn with
  | _ j ih =>
    intro hj hf
    have hlt : j < ops.size := by have := h.size; omega
    have ho := Array.getElem?_eq_getElem hlt
    by_cases hall : ∀ e ∈ (ops[j]).after, Region.binds md e = true → l.getD e.on false = true
    · exact ⟨j, hj, mem_ready.2 ⟨hf, ops[j], by rw [pop_get h.size hj]; exact ho, hall⟩⟩
    · obtain ⟨e, he⟩ := Classical.not_forall.1 hall
      obtain ⟨he, h1⟩ := Classical.not_imp.1 he
      obtain ⟨hb, h2⟩ := Classical.not_imp.1 h1
      have hlt2 := (h.at_ _ _ ho).1 e he hb
      refine ih e.on hlt2 (by omega) ?_
      have hls : e.on < l.size := by omega
      simp [Array.getD, hls] at h2 ⊢
      exact h2
theorem wpAny_last (h : LastOp md ops n) : ∀ (fuel : Nat) (l : Array Bool) (a : Act) (w : World), l.size = n → Closed md ops n l → wpAny P md ops.pop (ThenLast P ops n Q) fuel l a w → wpAny P md ops Q (fuel + 1) (l.push false) a w := by
  -- all but the last have come up
  have fin : ∀ (fuel : Nat) (l : Array Bool) (a : Act) (w : World), l.size = n → Closed md ops n l → (∀ j, j < n → l.getD j true = true) → ThenLast P ops n Q .normal a w → wpAny P md ops Q (fuel + 1) (l.push false) a w := fun fuel l a w hl hc hall H => by
    have hn := (ready_n h hl hc).2 hall
    have hempty : Region.ready md ops ((l.push false).setIfInBounds n true) = [] := by
      refine List.eq_nil_iff_forall_not_mem.2 fun i hi => ?_
      obtain ⟨h1, o, ho, _⟩ := mem_ready.1 hi
      have hlt := (Array.getElem?_eq_some_iff.1 ho).1
      have hs := h.size
      rcases Nat.lt_or_ge i n with hin | hin
      · have h2 := hall i hin
        rw [getD_set_ne true (by omega), push_getD hl hin, h2] at h1
        cases h1
      · obtain rfl : i = n := by omega
        simp [Array.getD, hl] at h1
    refine ⟨fun h0 => (by rw [h0] at hn; cases hn), fun i hi => ?_⟩
    have hi2 : i = n := by
      rcases ready_lt h hl hi with e | hin
      · exact e
      · have h1 := (mem_ready.1 hi).1
        rw [push_getD hl hin, hall i hin] at h1
        cases h1
    subst hi2
    have H' : wpOp P ops Q i (fun a w => Q .normal a w) a w := H
    refine wpOp_mono (fun a' w' hq => ?_) H'
    cases fuel with
    | zero => exact ⟨hempty, hq⟩
    | succ k => exact ⟨fun _ => hq, by rw [hempty]; simp⟩
  have none_ : ∀ (l : Array Bool), (∀ j, j < n → l.getD j true = true) → Region.ready md ops.pop l = [] := fun l hall => by
    refine List.eq_nil_iff_forall_not_mem.2 fun i hi => ?_
    obtain ⟨h1, o, ho, _⟩ := mem_ready.1 hi
    have hlt := (Array.getElem?_eq_some_iff.1 ho).1
    have hs := h.size
    simp at hlt
    rw [hall i (by omega)] at h1
    cases h1
  intro fuel
  induction fuel with
  | zero =>
    intro l a w hl hc H
    by_cases hall : ∀ j, j < n → l.getD j true = true
    · exact fin 0 l a w hl hc hall H.2
    · obtain ⟨j, hj⟩ := Classical.not_forall.1 hall
      obtain ⟨hj, hf⟩ := Classical.not_imp.1 hj
      obtain ⟨i, _, hi⟩ := ready_some h hl j hj (by simpa using hf)
      rw [H.1] at hi
      cases hi
  | succ fuel ih =>
    intro l a w hl hc H
    by_cases hall : ∀ j, j < n → l.getD j true = true
    · exact fin _ l a w hl hc hall (H.1 (none_ l hall))
    · obtain ⟨j, hj⟩ := Classical.not_forall.1 hall
      obtain ⟨hj, hf⟩ := Classical.not_imp.1 hj
      obtain ⟨i0, hi0, hr0⟩ := ready_some h hl j hj (by simpa using hf)
      have hr1 := (ready_pop h hl hi0).2 hr0
      refine ⟨fun h0 => (by rw [h0] at hr1; cases hr1), fun i hi => ?_⟩
      have hin : i < n := by
        rcases ready_lt h hl hi with e | hin
        · subst e
          exact absurd ((ready_n h hl hc).1 hi) hall
        · exact hin
      refine wpOp_pop h hin (fun a' w' hq => ?_) (H.2 i ((ready_pop h hl hin).1 hi))
      have h3 := ih (l.setIfInBounds i true) a' w' (by simpa using hl) (hc.step h hl ((ready_pop h hl hin).1 hi) hin) hq
      have e : (l.push false).setIfInBounds i true = (l.setIfInBounds i true).push false := by
        apply Array.ext_getElem?
        intro k
        simp only [Array.getElem?_setIfInBounds, Array.getElem?_push, Array.size_push, Array.size_setIfInBounds, hl]
        by_cases e1 : i = k
        · subst e1
          simp [hin, Nat.lt_succ_of_lt hin, Nat.ne_of_lt hin]
        · simp [e1]
      rw [e]
      exact h3
/-- **The region's others in whatever order, then its last operation.** -/
theorem wp_region_last {id : Nat} {a : Act} {w : World} (hm : P.follows .mixedOrders = true) (n : Nat) (h : lastOK .any ops n = true)
    (H : wpAny P .any ops.pop (ThenLast P ops n Q) n (Array.replicate n false) a { w with drawn := w.drawn + 1 }) : (Code.region id ops true).wp P Q a w := by
  have hl := LastOp.of h
  refine wp_region_any hm ?_
  have h2 := wpAny_last (Q := Q) hl n (Array.replicate n false) a { w with drawn := w.drawn + 1 } (by simp) (fun i o hi _ h0 => by simp [Array.getD, hi] at h0) H
  rw [hl.size]
  have e : (Array.replicate n false).push false = Array.replicate (n + 1) false := by
    apply Array.ext_getElem?
    intro k
    simp only [Array.getElem?_push, Array.size_replicate, Array.getElem?_replicate]
    split <;> split <;> simp_all <;> omega
  rw [← e]
  exact h2
theorem wp_region_last2 {id : Nat} {a : Act} {w : World} {ops' : Array Oper} (hm : P.follows .mixedOrders = true) (n : Nat) (h : lastOK .any ops n = true) (hp : ops.pop = ops')
    (H : wpAny P .any ops' (ThenLast P ops n Q) n (Array.replicate n false) a w.drew) : (Code.region id ops true).wp P Q a w := by
  subst hp
  exact wp_region_last hm n h H
theorem ThenLast.run {o : Oper} {a : Act} {w : World} (ho : ops[n]? = some o) (h : if Region.wanted o (yielded ops a.tmps) = true then o.wp P a w (fun a w => Q .normal a w) Q else Q .normal (a.put o.dst undef) w) : ThenLast P ops n Q .normal a w := by
  show wpOp P ops Q n _ a w
  unfold wpOp
  rw [ho]
  simp only
  split
  · rename_i hw
    rw [if_pos hw] at h
    exact .inl h
  · rename_i hw
    rw [if_neg hw] at h
    exact h
end
end Go.Proofs.Ytdinndpeoankdaa
