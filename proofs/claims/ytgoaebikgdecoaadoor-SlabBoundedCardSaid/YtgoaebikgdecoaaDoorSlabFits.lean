/-
  Slabs: plain facts: what fits can be made, one behind the other. No program is named beyond the tables.
-/
import Derived.Test.YtgoaebikgdecoaaDoorSlabOps
namespace Go.Proofs.YtgoaebikgdecoaaDoor
open Go.ChangeShapes Go.WideShapes Go.ChangeAt Go.RowKit Go.Maps
set_option linter.unusedVariables false

theorem popN_ext : ∀ (f x y : Nat), (∀ j, j < f → y.testBit j = x.testBit j) → popN f y = popN f x
  | 0, _, _, _ => rfl
  | f + 1, x, y, h => by
    have h0 := h 0 (by omega)
    have h1 := popN_ext f (x / 2) (y / 2) fun j hj => by
      have := h (j + 1) (by omega)
      rwa [Nat.testBit_succ, Nat.testBit_succ] at this
    simp only [popN, h1]
    rw [Nat.testBit_zero, Nat.testBit_zero] at h0
    have h2 : (y % 2 = 1) ↔ (x % 2 = 1) := by simpa using h0
    omega
theorem popN_bit : ∀ (f x y c : Nat), c < f → x.testBit c = true → (∀ j, j < f → y.testBit j = (x.testBit j && !decide (c = j))) → popN f x = popN f y + 1
  | 0, _, _, _, h, _, _ => by omega
  | f + 1, x, y, 0, _, hx, h => by
    have h1 := popN_ext f (x / 2) (y / 2) fun j hj => by
      have := h (j + 1) (by omega)
      rw [Nat.testBit_succ, Nat.testBit_succ] at this
      rw [this]; simp
    have h0 := h 0 (by omega)
    rw [Nat.testBit_zero] at hx h0
    simp only [popN, h1]
    simp at hx h0
    omega
  | f + 1, x, y, c + 1, hc, hx, h => by
    rw [Nat.testBit_succ] at hx
    have h1 := popN_bit f (x / 2) (y / 2) c (by omega) hx fun j hj => by
      have := h (j + 1) (by omega)
      rw [Nat.testBit_succ, Nat.testBit_succ] at this
      rw [this]; simp
    have h0 := h 0 (by omega)
    rw [Nat.testBit_zero, Nat.testBit_zero] at h0
    have h2 : (y % 2 = 1) ↔ (x % 2 = 1) := by simpa using h0
    simp only [popN, h1]
    omega
theorem popN_zero : ∀ (f x : Nat), x < 2 ^ f → popN f x = 0 → x = 0
  | 0, x, h, _ => by simpa using h
  | f + 1, x, h, h0 => by
    simp only [popN] at h0
    have := popN_zero f (x / 2) (by rw [Nat.pow_succ] at h; omega) (by omega)
    omega
theorem pop_clr {x : Nat} (h0 : x ≠ 0) (h : x < 18446744073709551616) : pop x = pop (clrB x (Lib.ctz 64 x)) + 1 := by
  obtain ⟨h1, h2, _⟩ := ctz_spec h0 h
  refine popN_bit 64 x _ (Lib.ctz 64 x) h1 h2 fun j hj => ?_
  rw [clrB_bit _ _ _ h1]
  simp [hj]
theorem pop_zero : pop 0 = 0 := by rfl
theorem pop_newS {k : Int} (hk : szF k ≠ 0) : (pop (newS k).free : Int) = plF k ∧ plF k ≠ 0 := by
  have hp : plF k ≠ 0 := by
    have := szF_vals k hk
    unfold plF
    rw [if_neg hk]
    rcases this with e | e | e | e | e <;> rw [e] <;> decide
  refine ⟨?_, hp⟩
  rcases plF_vals k hp with e | e | e | e | e <;> (unfold newS; simp only [e]; rfl)

/-- The places without an object that the slabs of a kind have. -/
def spC (k : Int) (s : SL) : Int := if s.kind = k then (pop s.free : Nat) else 0
def spareF (ss : List SL) (k : Int) : Int := (ss.map (spC k)).sum
theorem spareF_append (a b : List SL) (k : Int) : spareF (a ++ b) k = spareF a k + spareF b k := by simp [spareF]
theorem spareF_set {ss : List SL} {n : Nat} {s s' : SL} (hs : ss[n]? = some s) (k : Int) : spareF (ss.set n s') k = spareF ss k - spC k s + spC k s' := by
  induction ss generalizing n with
  | nil => simp at hs
  | cons x r ih =>
    cases n with
    | zero =>
      simp only [List.getElem?_cons_zero, Option.some.injEq] at hs
      subst hs
      simp [spareF]; omega
    | succ n =>
      have := ih (n := n) (by simpa using hs)
      simp only [spareF, List.set_cons_succ, List.map_cons, List.sum_cons] at this ⊢
      omega
theorem spC_pos (k : Int) (s : SL) : 0 ≤ spC k s := by unfold spC; split <;> omega
theorem spareF_pos (ss : List SL) (k : Int) : 0 ≤ spareF ss k := by
  induction ss with
  | nil => simp [spareF]
  | cons x r ih =>
    have := spC_pos k x
    simp only [spareF, List.map_cons, List.sum_cons] at ih ⊢
    omega
theorem spareF_zero {ss : List SL} {k : Int} (h : spareF ss k = 0) : ∀ s ∈ ss, spC k s = 0 := by
  induction ss with
  | nil => simp
  | cons x r ih =>
    have h1 := spC_pos k x
    have h2 := spareF_pos r k
    simp only [spareF, List.map_cons, List.sum_cons] at h h2
    intro s hs
    rcases List.mem_cons.1 hs with rfl | hs
    · omega
    · exact ih (by unfold spareF; omega) s hs
theorem spareF_of_zero {ss : List SL} {k : Int} (h : ∀ s ∈ ss, spC k s = 0) : spareF ss k = 0 := by
  induction ss with
  | nil => simp [spareF]
  | cons x r ih =>
    have := ih fun s hs => h s (by simp [hs])
    have h1 := h x (by simp)
    simp only [spareF, List.map_cons, List.sum_cons] at this ⊢
    omega
def updF (sp : Int → Int) (k x : Int) : Int → Int := fun j => if j = k then x else sp j
def fitsF : (Int → Int) → Int → List Int → Bool
  | _, _, [] => true
  | sp, m, k :: r => if szF k = 0 then false else if sp k = 0 then (if m = 0 then false else fitsF (updF sp k (plF k - 1)) (m - 1) r) else fitsF (updF sp k (sp k - 1)) m r
section
variable {L : Int} {ss : List SL} {O : List (Int × Int)}
theorem spareF_first (h : OkH L ss O) (k : Int) : spareF ss k = 0 ↔ firstI (hasK k) ss < 0 := by
  rcases firstI_cases (hasK k) ss with ⟨e, hno⟩ | ⟨i, s, hs, hp, e, _⟩
  · rw [e]
    refine ⟨fun _ => by decide, fun _ => spareF_of_zero fun s hs => ?_⟩
    have h1 := hno s hs
    unfold spC
    split
    · rename_i hk
      have : s.free = 0 := by simpa [hasK, hk] using h1
      rw [this, pop_zero]; rfl
    · rfl
  · rw [e]
    refine ⟨fun h0 => ?_, fun h0 => by omega⟩
    have hm := List.mem_of_getElem? hs
    have h1 := spareF_zero h0 s hm
    simp only [hasK, Bool.and_eq_true, decide_eq_true_eq] at hp
    unfold spC at h1
    rw [if_pos hp.1] at h1
    exact absurd (popN_zero 64 s.free (h.good s hm).lt (by unfold pop at h1; omega)) hp.2
theorem spareF_take (h : OkH L ss O) {n : Nat} {s : SL} (hs : ss[n]? = some s) (h0 : s.free ≠ 0) : spareF (ss.set n (takeS s)) = updF (spareF ss) s.kind (spareF ss s.kind - 1) := by
  funext j
  have hp := pop_clr h0 (h.good s (List.mem_of_getElem? hs)).lt
  rw [spareF_set hs]
  unfold updF spC takeS
  by_cases e : j = s.kind
  · subst e
    simp only [if_true]
    omega
  · have e' : ¬ s.kind = j := fun x => e x.symm
    simp [e, e']
theorem cntK_build (h : OkH L ss O) {k : Int} (hk : szF k ≠ 0) : cntK (buildL ss k) = cntK ss + 1 ∧ ∀ j, spareF (buildL ss k) j = spareF ss j + (if j = k then plF k else 0) := by
  have hk0 : k ≠ 0 := fun e => hk (by rw [e]; exact szF_zero)
  have hn : ∀ j, spC j (newS k) = if j = k then plF k else 0 := fun j => by
    unfold spC
    by_cases e : j = k
    · subst e; rw [if_pos (show (newS j).kind = j from rfl), (pop_newS hk).1]; simp
    · rw [if_neg e, if_neg (show ¬ (newS k).kind = j from fun x => e x.symm)]
  rcases firstI_cases noK ss with ⟨e, hno⟩ | ⟨i, s, hs, hp, e, _⟩
  · have eB : buildL ss k = ss ++ [newS k] := by unfold buildL; rw [e, if_pos (by decide)]
    rw [eB]
    refine ⟨by rw [cntK_append]; simp [cntK, newS, hk0], fun j => ?_⟩
    rw [spareF_append]
    simp only [spareF, List.map_cons, List.map_nil, List.sum_cons, List.sum_nil]
    rw [hn j]
    omega
  · have eB : buildL ss k = ss.set i (newS k) := by unfold buildL; rw [e, if_neg (by omega)]; simp
    have hs0 : s.kind = 0 := by simpa [noK] using hp
    rw [eB]
    refine ⟨cntK_new hs hs0 hk0, fun j => ?_⟩
    have hf0 : s.free = 0 := by
      have := (h.good s (List.mem_of_getElem? hs)).2
      rw [hs0, plF_zero] at this
      simpa using this
    rw [spareF_set hs, hn j]
    have : spC j s = 0 := by unfold spC; rw [hf0, pop_zero]; split <;> rfl
    omega
theorem moreF_one (hc : ∀ c : Nat, True) {ss' : List SL} (h : cntK ss' = cntK ss + 1) : moreF L ss' = moreF L ss - 1 := by
  unfold moreF
  rw [h]
  omega
/-- One more of them: it can be made, or it does not fit. -/
theorem fits_step (h : OkH L ss O) (k owner : Int) (r : List Int) :
    ((allocF L ss O k owner).2.2 = 0 → fitsF (spareF ss) (moreF L ss) (k :: r) = fitsF (spareF (allocF L ss O k owner).1.1) (moreF L (allocF L ss O k owner).1.1) r ∧ (allocF L ss O k owner).1.2 ≠ []) ∧
    ((allocF L ss O k owner).2.2 ≠ 0 → fitsF (spareF ss) (moreF L ss) (k :: r) = false ∧ ((allocF L ss O k owner).2.2 = 2 ∨ szF k = 0)) := by
  unfold allocF
  by_cases hk : szF k = 0
  · rw [if_pos hk]
    exact ⟨fun e => by simp at e, fun _ => ⟨by unfold fitsF; rw [if_pos hk], .inr hk⟩⟩
  · rw [if_neg hk]
    have hF : fitsF (spareF ss) (moreF L ss) (k :: r) = if spareF ss k = 0 then (if moreF L ss = 0 then false else fitsF (updF (spareF ss) k (plF k - 1)) (moreF L ss - 1) r) else fitsF (updF (spareF ss) k (spareF ss k - 1)) (moreF L ss) r := by
      rw [fitsF, if_neg hk]
    rw [hF]
    rcases firstI_cases (hasK k) ss with ⟨e, _⟩ | ⟨i, s, hs, hp, e, _⟩
    · have h0 : spareF ss k = 0 := (spareF_first h k).2 (by rw [e]; decide)
      rw [if_pos h0, e, if_neg (by decide)]
      by_cases hm : moreF L ss = 0
      · rw [if_pos hm, if_pos hm]
        exact ⟨fun e => by simp at e, fun _ => ⟨rfl, .inl rfl⟩⟩
      · rw [if_neg hm, if_neg hm]
        obtain ⟨k1, k2⟩ := h.build hk hm
        obtain ⟨c1, c2⟩ := cntK_build h hk
        have e1 := spareF_take k1 k2 (newS_pos hk)
        have e2 : moreF L ((buildL ss k).set (buildN ss) (takeS (newS k))) = moreF L ss - 1 := moreF_one (fun _ => trivial) (by rw [cntK_set k2 (by simp [takeS])]; exact c1)
        unfold takeAt
        rw [getD_of k2]
        refine ⟨fun _ => ⟨?_, by simp⟩, fun e => absurd rfl e⟩
        rw [e2, e1]
        congr 1
        funext j
        unfold updF
        by_cases ej : j = k
        · rw [if_pos ej, if_pos (show j = (newS k).kind from ej)]
          rw [show (newS k).kind = k from rfl, c2 k, if_pos rfl, h0]
          omega
        · rw [if_neg ej, if_neg (show ¬ j = (newS k).kind from ej), c2 j, if_neg ej]
          omega
    · have h0 : ¬ spareF ss k = 0 := fun x => by have := (spareF_first h k).1 x; rw [e] at this; omega
      rw [if_neg h0, e, if_pos (by omega)]
      simp only [hasK, Bool.and_eq_true, decide_eq_true_eq] at hp
      have e1 := spareF_take h hs hp.2
      rw [hp.1] at e1
      have e2 : moreF L (ss.set i (takeS s)) = moreF L ss := by unfold moreF; rw [cntK_set hs (by simp [takeS])]
      unfold takeAt
      rw [show ((i : Int)).toNat = i by simp, getD_of hs]
      refine ⟨fun _ => ⟨?_, by simp⟩, fun e => absurd rfl e⟩
      rw [e1, e2]
end
end Go.Proofs.YtgoaebikgdecoaaDoor
