/-
  'FrameDoes' as plain facts: the rows of both, and how each call turns them.
-/
import Derived.Test.YtfbegickdnjfcaaRef06g
import Derived.Test.YtfbegickdnjfcaaFrPure
namespace Go.Proofs.Ytfbegickdnjfcaa
open Go.ChangeShapes Go.WideShapes Go.ChangeAt Go.RowKit
set_option linter.unusedVariables false
section
variable {xs ys : List Int} {first : Nat} {ns : Nat → List Int}
theorem gb_setL (l : List Int) {k : Nat} (hk : k < l.length) (c : Int) (q : Nat) : gb (l.set k c) q = if q = k then c else gb l q := by
  by_cases e : q = k
  · subst e; simp [gb, List.getD, hk]
  · simp [gb, List.getD, e, Ne.symm e]
theorem usedL_set : ∀ (l : List Int) (k : Nat) (hk : k < l.length) (c : Int), usedL (l.set k c) + (if 0 < gb l k then 1 else 0) = usedL l + (if 0 < c then 1 else 0)
  | [], k, hk, c => by simp at hk
  | x :: l, 0, hk, c => by
    have e : gb (x :: l) 0 = x := rfl
    rw [e]
    unfold usedL
    rw [List.set_cons_zero, List.filter_cons, List.filter_cons]
    by_cases h1 : 0 < c <;> by_cases h2 : 0 < x <;> simp [h1, h2] <;> omega
  | x :: l, k + 1, hk, c => by
    have e : gb (x :: l) (k + 1) = gb l k := rfl
    have ih := usedL_set l k (by simpa using hk) c
    rw [e]
    unfold usedL at ih ⊢
    rw [List.set_cons_succ, List.filter_cons, List.filter_cons]
    by_cases h2 : 0 < x
    · simp only [h2, decide_true, if_true, List.length_cons]; omega
    · simp only [h2, decide_false, Bool.false_eq_true, if_false]; omega
theorem usedL_zero {l : List Int} (h : ∀ k, k < l.length → gb l k = 0) : usedL l = 0 := by
  unfold usedL
  rw [List.length_eq_zero_iff, List.filter_eq_nil_iff]
  intro a ha
  obtain ⟨i, hi, e⟩ := List.getElem_of_mem ha
  have := h i hi
  unfold gb at this
  rw [List.getD_eq_getElem?_getD, List.getElem?_eq_getElem hi, Option.getD_some, e] at this
  simp; omega

/-- What holds of the rows of both between two calls. -/
structure P6 (xs : List Int) (first : Nat) (ns : Nat → List Int) : Prop where
  good : Good xs first ns
  tot : (freeL ns).length + usedL (ns 2) = (ns 2).length
  up : Rises (ns 12)
  small : (ns 2).length ≤ 4096

theorem P6.free (P : P6 xs first ns) : (freeL ns).length ≤ 4096 := by have := P.tot; have := P.small; omega
theorem Rises.take {l : List Int} (h : Rises l) (n : Nat) : Rises (l.take n) := List.Pairwise.sublist (List.take_sublist _ _) h
theorem Rises.drop {l : List Int} (h : Rises l) (n : Nat) : Rises (l.drop n) := List.Pairwise.sublist (List.drop_sublist _ _) h
theorem fillN_up (h : Rises (ns 12)) {j : Nat} (hj : j < 8) : Rises (fillN ns j 12) := by
  unfold fillN refillN moveN
  have hne : (12 : Nat) ≠ 4 + j := by omega
  have hr : richN ns 8 < 8 := richN_lt ns 8 (by decide)
  have hne2 : (12 : Nat) ≠ 4 + richN ns 8 := by omega
  split
  · split
    · rw [upd_same]; exact h.drop _
    · split
      · exact h
      · rw [upd_far _ _ hne2, upd_far _ _ hne]; exact h
  · exact h

theorem P6.alloc (P : P6 xs first ns) {h : Nat} (hh : h < 8) (hp : 0 < (fillN ns h (4 + h)).length) (hfit : 256 * (first + (ns 2).length) ≤ xs.length) :
    ∃ k : Nat, k < (ns 2).length ∧ gb (fillN ns h (4 + h)) ((fillN ns h (4 + h)).length - 1) = (first : Int) + k ∧ P6 (zeroF xs (first + k)) first (allocN ns h k) ∧ ZeroAt (zeroF xs (first + k)) (first + k) := by
  obtain ⟨k, hk, hx, h0, hG, hfl, h2⟩ := P.good.alloc P.free hh hp
  have hu := usedL_set (ns 2) k hk 1
  rw [h0] at hu
  simp only [Int.lt_irrefl, if_false, show (0 : Int) < 1 from by decide, if_true] at hu
  have ht := P.tot
  refine ⟨k, hk, hx, ⟨hG _ (fun q hq hne hz j hj => ?_), ?_, ?_, ?_⟩, fun j hj => ?_⟩
  · rw [gb_splice_zero _ _ _ (by omega)]
    split
    · rfl
    · exact hz j hj
  · rw [h2, List.length_set]; omega
  · unfold allocN
    rw [upd_far _ _ (show (12 : Nat) ≠ 2 by decide), upd_far _ _ (show (12 : Nat) ≠ 4 + h by omega)]
    exact fillN_up P.up hh
  · rw [h2, List.length_set]; exact P.small
  · rw [gb_splice_zero _ _ _ (by omega), if_pos (by omega)]

theorem P6.full (P : P6 xs first ns) {h : Nat} (hh : h < 8) (he : (fillN ns h (4 + h)).length = 0) : fillN ns h = ns := by
  have h0 := fillN_empty ns hh he
  have hz : ∀ i, FSlot i → (ns i).length = 0 := fun i hi => by have := freeL_has ns hi; omega
  unfold fillN refillN
  rw [if_pos (hz _ (fslot4 hh)), if_neg (by have := hz 12 fslot12; omega), if_pos (hz _ (fslot4 (richN_lt ns 8 (by decide))))]

theorem P6.turn (P : P6 xs first ns) {k : Nat} (hk : k < (ns 2).length) (h0 : 0 < gb (ns 2) k) {c : Int} (c0 : 0 < c) (c1 : c ≤ 1048576) : P6 xs first (upd ns 2 ((ns 2).set k c)) := by
  have hu := usedL_set (ns 2) k hk c
  rw [if_pos h0, if_pos c0] at hu
  have ht := P.tot
  have hs := P.small
  have hl : (upd ns 2 ((ns 2).set k c) 2).length = (ns 2).length := by rw [upd_same, List.length_set]
  have hg : ∀ q, gb (upd ns 2 ((ns 2).set k c) 2) q = if q = k then c else gb (ns 2) q := fun q => by rw [upd_same, gb_setL _ hk]
  refine ⟨⟨fun q hq => ?_, fun x hx => ?_, fun q hq hz => ?_, fun q hq hz => ?_, fun o ho => ?_⟩, ?_, ?_, ?_⟩
  · rw [hl] at hq
    rw [hg]
    split
    · omega
    · exact P.good.cnt q hq
  · rw [freeL_two] at hx
    obtain ⟨q, hq, e, hz⟩ := P.good.rng x hx
    refine ⟨q, by rw [hl]; exact hq, e, ?_⟩
    rw [hg, if_neg (fun e => by subst e; omega)]
    exact hz
  · rw [hl] at hq
    rw [hg] at hz
    rw [freeL_two]
    by_cases e : q = k
    · rw [if_pos e] at hz; omega
    · rw [if_neg e] at hz; exact P.good.one q hq hz
  · rw [hl] at hq
    rw [hg] at hz
    by_cases e : q = k
    · rw [if_pos e] at hz; omega
    · rw [if_neg e] at hz; exact P.good.zero q hq hz
  · by_cases e : o = 2
    · subst e; rw [hl]; exact hs
    · rw [upd_far _ _ e]; exact P.good.few o ho
  · rw [freeL_two, upd_same, List.length_set]; omega
  · rw [upd_far _ _ (by decide)]; exact P.up
  · rw [hl]; exact hs

theorem giveN_up {ms : Nat → List Int} (h : Rises (ms 12)) {j : Nat} (hj : j < 8) (x : Int) : Rises (giveN ms j x 12) := by
  unfold giveN
  split
  · rw [upd_far _ _ (by omega)]; exact h
  · rw [upd_same]; exact sortI_rises _

theorem P6.back (P : P6 xs first ns) {k : Nat} (hk : k < (ns 2).length) (h1 : gb (ns 2) k = 1) {h : Nat} (hh : h < 8) (hfit : 256 * (first + (ns 2).length) ≤ xs.length) : P6 (zeroF xs (first + k)) first (giveN (upd ns 2 ((ns 2).set k 0)) h ((first : Int) + k)) := by
  have hu := usedL_set (ns 2) k hk 0
  rw [h1] at hu
  simp only [Int.lt_irrefl, if_false, show (0 : Int) < 1 from by decide, if_true] at hu
  have ht := P.tot
  have hs := P.small
  have h2 : giveN (upd ns 2 ((ns 2).set k 0)) h ((first : Int) + k) 2 = (ns 2).set k 0 := by rw [giveN_2 _ hh, upd_same]
  have hfl := giveN_length (upd ns 2 ((ns 2).set k 0)) hh ((first : Int) + k)
  rw [freeL_two] at hfl
  refine ⟨P.good.back (by omega) hk h1 h2 (fun y => by rw [giveN_count _ hh, freeL_two]) hfl (fun q hq hz j hj => ?_), ?_, giveN_up (by rw [upd_far _ _ (by decide)]; exact P.up) hh _, by rw [h2, List.length_set]; exact hs⟩
  · rw [gb_splice_zero _ _ _ (by omega)]
    split
    · rfl
    · rename_i hne
      rcases hz with hz | rfl
      · exact hz j hj
      · omega
  · rw [h2, List.length_set]; omega

/-- A frame that somebody has may hold what it likes. -/
theorem P6.write (P : P6 xs first ns) (h : ∀ q, q < (ns 2).length → gb (ns 2) q = 0 → ZeroAt xs (first + q) → ZeroAt ys (first + q)) : P6 ys first ns :=
  ⟨⟨P.good.cnt, P.good.rng, P.good.one, fun q hq hz => h q hq hz (P.good.zero q hq hz), P.good.few⟩, P.tot, P.up, P.small⟩
end

section
variable {w w' w1 w2 : World} {t g d cap : Nat} {xs xs' : List Int} {r : List Value} {first harts : Nat} {v : Nat → Value} {ns ns' : Nat → List Int} {a cC bL : Nat} {vs : Nat → Value} {Z : List Nat}
/-- Both, apart: the pool's rows ns, the document's own ms; all that they own is younger than n0. -/
structure B6 (w : World) (n0 t g d cap : Nat) (xs : List Int) (r : List Value) (first harts : Nat) (v : Nat → Value) (ns : Nat → List Int) (a cC bL : Nat) (vs : Nat → Value) (Z : List Nat) (ms : Nat → List Int) : Prop where
  fr : IsFr w t g d cap xs r first harts v ns
  rf : R6 w a cC bL vs Z first harts ms
  ap : ∀ k, k ∈ a :: cC :: bL :: Z → k ≠ g ∧ k ≠ d ∧ k ∉ footL t v
  old : n0 ≤ g ∧ n0 ≤ d ∧ (∀ k, k ∈ footL t v → n0 ≤ k) ∧ ∀ k, k ∈ a :: cC :: bL :: Z → n0 ≤ k
section
variable {n0 : Nat} {ms ms' : Nat → List Int}
theorem B6.le (B : B6 w n0 t g d cap xs r first harts v ns a cC bL vs Z ms) : n0 ≤ w.heap.size := Nat.le_trans B.old.1 (Nat.le_of_lt B.fr.lts.1)
theorem B6.only (B : B6 w n0 t g d cap xs r first harts v ns a cC bL vs Z ms) (ho : Only [] w w') : B6 w' n0 t g d cap xs r first harts v ns a cC bL vs Z ms ∧ Below n0 w w' :=
  ⟨⟨B.fr.only ho (by simp) (by simp) (by simp), B.rf.only ho (by simp), B.ap, B.old⟩, ho.below B.le (by simp)⟩
/-- Behind a call of the pool: the document's own stand as they stood. -/
theorem B6.pool (B : B6 w n0 t g d cap xs r first harts v ns a cC bL vs Z ms) (D : FrDid w w1 t g d cap xs' r first harts v ns') :
    ∃ v', B6 w1 n0 t g d cap xs' r first harts v' ns' a cC bL vs Z ms ∧ Below n0 w w1 ∧ Only (d :: footL t v) w w1 := by
  obtain ⟨v', F', T⟩ := D
  have hle := B.le
  refine ⟨v', ⟨F', B.rf.only T.only (fun k hk hm => ?_), fun k hk => ⟨(B.ap k hk).1, (B.ap k hk).2.1, fun hm => ?_⟩, B.old.1, B.old.2.1, fun k hk => ?_, B.old.2.2.2⟩, T.only.below hle (fun k hk => ?_), T.only⟩
  · rcases List.mem_cons.1 hm with rfl | hm
    · exact (B.ap _ hk).2.1 rfl
    · exact (B.ap k hk).2.2 hm
  · rcases T.foot k (List.mem_cons_of_mem _ hm) with h | h
    · rcases List.mem_cons.1 h with rfl | h
      · exact (B.ap _ hk).2.1 rfl
      · exact (B.ap k hk).2.2 h
    · have := B.rf.alt k hk; omega
  · rcases T.foot k (List.mem_cons_of_mem _ hk) with h | h
    · rcases List.mem_cons.1 h with rfl | h
      · exact B.old.2.1
      · exact B.old.2.2.1 k h
    · omega
  · rcases List.mem_cons.1 hk with rfl | hk
    · exact B.old.2.1
    · exact B.old.2.2.1 k hk
/-- Behind a call of the document's own: the pool stands as it stood. -/
theorem B6.refs (B : B6 w n0 t g d cap xs r first harts v ns a cC bL vs Z ms) (D : DidR w w2 a cC bL Z first harts ms') : ∃ vs' Z', B6 w2 n0 t g d cap xs r first harts v ns a cC bL vs' Z' ms' ∧ Below n0 w w2 ∧ Only [a, cC, bL] w w2 := by
  obtain ⟨vs', Z', R, T, O⟩ := D
  have hin : ∀ k, k ∈ [a, cC, bL] → k ∈ a :: cC :: bL :: Z := fun k hk => by simp at hk ⊢; omega
  have hlt := B.fr.lts
  have hle := B.le
  refine ⟨vs', Z', ⟨B.fr.only O (fun k hk hm => (B.ap k (hin k hm)).2.2 hk) (fun hm => (B.ap g (hin g hm)).1 rfl) (fun hm => (B.ap d (hin d hm)).2.1 rfl), R, fun k hk => ?_, B.old.1, B.old.2.1, B.old.2.2.1, fun k hk => ?_⟩, O.below hle (fun k hk => B.old.2.2.2 k (hin k hk)), O⟩
  · rcases T.foot k hk with h | h
    · exact B.ap k h
    · exact ⟨by omega, by omega, fun hm => by have := hlt.2.2 k hm; omega⟩
  · rcases T.foot k hk with h | h
    · exact B.old.2.2.2 k h
    · omega
end
theorem B6.boxed {n0 : Nat} {ms : Nat → List Int} (B : B6 w n0 t g d cap xs r first harts v ns a cC bL vs Z ms) : w.heap.size ∉ d :: footL t v ∧ w.heap.size ∉ [a, cC, bL] := by
  refine ⟨fun hm => ?_, fun hm => ?_⟩
  · rcases List.mem_cons.1 hm with h | h
    · have := B.fr.lts.2.1; omega
    · have := B.fr.lts.2.2 _ h; omega
  · have := B.rf.alt w.heap.size (by simp at hm ⊢; omega)
    omega
/-- What a step of both leaves. -/
def Did6 (w w' : World) (n0 t g d cap len : Nat) (r : List Value) (first harts n a cC bL : Nat) : Prop :=
  (∃ xs v ns vs Z, B6 w' n0 t g d cap xs r first harts v ns a cC bL vs Z ns ∧ P6 xs first ns ∧ (ns 2).length = n ∧ xs.length = len) ∧ Below n0 w w'
end
end Go.Proofs.Ytfbegickdnjfcaa
