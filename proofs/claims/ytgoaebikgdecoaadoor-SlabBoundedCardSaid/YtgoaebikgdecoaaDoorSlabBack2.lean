/-
  Slabs: plain facts: each slab has an object, whatever is made and freed; the objects' bytes are never above the slabs'. No program is named beyond the tables.
-/
import Derived.Test.YtgoaebikgdecoaaDoorSlabBack
namespace Go.Proofs.YtgoaebikgdecoaaDoor
open Go.ChangeShapes Go.WideShapes Go.ChangeAt Go.RowKit Go.Maps
set_option linter.unusedVariables false

theorem popN_all : ∀ (f k x : Nat), k ≤ f → x < 2 ^ k → (∀ p, p < k → x.testBit p = true) → popN f x = k
  | f, 0, x, _, hx, _ => by
    obtain rfl : x = 0 := by simpa using hx
    have := popN_lt f 0 0 (by simp)
    omega
  | 0, k + 1, x, hk, _, _ => by omega
  | f + 1, k + 1, x, hk, hx, h => by
    have h1 := popN_all f k (x / 2) (by omega) (by rw [Nat.pow_succ] at hx; omega) fun p hp => by
      have := h (p + 1) (by omega)
      rwa [Nat.testBit_succ] at this
    have h0 := h 0 (by omega)
    rw [Nat.testBit_zero] at h0
    simp at h0
    simp only [popN, h1]
    omega
def FullAt (ss : List SL) (n : Nat) : Prop := ∀ j s, j ≠ n → ss[j]? = some s → s.kind ≠ 0 → ∃ p, p < (plF s.kind).toNat ∧ s.free.testBit p = false
theorem FullL.at_ {ss : List SL} (h : FullL ss) (n : Nat) : FullAt ss n := fun j s _ hs hk => h s (List.mem_of_getElem? hs) hk
theorem FullAt.set {ss : List SL} {n : Nat} (h : FullAt ss n) (s' : SL) (hs : s'.kind ≠ 0 → ∃ p, p < (plF s'.kind).toNat ∧ s'.free.testBit p = false) : FullL (ss.set n s') := by
  intro s hm hk
  obtain ⟨j, hj⟩ := List.getElem?_of_mem hm
  by_cases e : j = n
  · subst e
    have hi : j < ss.length := by have := (List.getElem?_eq_some_iff.1 hj).1; simpa using this
    rw [List.getElem?_set_self hi] at hj
    injection hj with hj
    subst hj
    exact hs hk
  · rw [List.getElem?_set_ne (by omega)] at hj
    exact h j s e hj hk
section
variable {L : Int} {ss : List SL} {O : List (Int × Int)}
theorem take_full (h : OkH L ss O) {n : Nat} {s : SL} (hs : ss[n]? = some s) (h0 : s.free ≠ 0) (hF : FullAt ss n) : FullL (ss.set n (takeS s)) := by
  have hok := h.good s (List.mem_of_getElem? hs)
  obtain ⟨h1, _, _⟩ := ctz_spec h0 hok.lt
  refine hF.set _ fun _ => ⟨Lib.ctz 64 s.free, hok.place h0, ?_⟩
  show (clrB _ _).testBit _ = false
  rw [clrB_bit _ _ _ h1]
  simp
theorem build_full (hF : FullL ss) (k : Int) : FullAt (buildL ss k) (buildN ss) := by
  rcases firstI_cases noK ss with ⟨e, hno⟩ | ⟨i, s, hs, hp, e, _⟩
  · have eB : buildL ss k = ss ++ [newS k] := by unfold buildL; rw [e, if_pos (by decide)]
    have eN : buildN ss = ss.length := by unfold buildN; rw [e, if_pos (by decide)]
    rw [eB, eN]
    intro j s hj hs hk
    have hl := (List.getElem?_eq_some_iff.1 hs).1
    simp at hl
    rw [List.getElem?_append_left (by omega)] at hs
    exact hF s (List.mem_of_getElem? hs) hk
  · have eB : buildL ss k = ss.set i (newS k) := by unfold buildL; rw [e, if_neg (by omega)]; simp
    have eN : buildN ss = i := by unfold buildN; rw [e, if_neg (by omega)]; simp
    rw [eB, eN]
    intro j s hj hs hk
    rw [List.getElem?_set_ne (by omega)] at hs
    exact hF s (List.mem_of_getElem? hs) hk
theorem alloc_full (h : OkH L ss O) (hF : FullL ss) (k owner : Int) : FullL (allocF L ss O k owner).1.1 := by
  unfold allocF
  by_cases hk : szF k = 0
  · rw [if_pos hk]; exact hF
  · rw [if_neg hk]
    rcases firstI_cases (hasK k) ss with ⟨e, _⟩ | ⟨i, s, hs, hp, e, _⟩
    · rw [e, if_neg (by decide)]
      by_cases hm : moreF L ss = 0
      · rw [if_pos hm]; exact hF
      · rw [if_neg hm]
        obtain ⟨k1, k2⟩ := h.build hk hm
        unfold takeAt
        rw [getD_of k2]
        exact take_full k1 k2 (newS_pos hk) (build_full hF k)
    · rw [e, if_pos (by omega)]
      simp only [hasK, Bool.and_eq_true, decide_eq_true_eq] at hp
      unfold takeAt
      rw [show ((i : Int)).toNat = i by simp, getD_of hs]
      exact take_full h hs hp.2 (hF.at_ i)
theorem give_full {s : SL} (hok : okL s) {p : Nat} (hp : p < (plF s.kind).toNat) (hk : (giveS s p).kind ≠ 0) : ∃ p', p' < (plF (giveS s p).kind).toNat ∧ (giveS s p).free.testBit p' = false := by
  unfold giveS at hk ⊢
  split
  · rename_i he; rw [if_pos he] at hk; exact absurd rfl hk
  · rename_i he
    have hpl := plF_le s.kind
    have hlt := setB_lt hok.2 hp
    apply Decidable.byContradiction
    intro hn
    apply he
    have := popN_all 64 (plF s.kind).toNat (setB s.free p) (by omega) hlt fun j hj => by
      cases hb : (setB s.free p).testBit j
      · exact absurd ⟨j, hj, hb⟩ hn
      · rfl
    unfold pop
    omega
theorem free_full (h : OkH L ss O) (hF : FullL ss) (id : Int) : FullL (freeF ss O id).1.1 := by
  unfold freeF
  by_cases hm : id ∈ O.map (·.1)
  · rw [if_pos hm]
    obtain ⟨n, s, p, k1, k2, k3, k4, k5⟩ := liveAt_low ((h.keys id).1 hm)
    have e1 : (id / 64).toNat = n := by omega
    have e2 : (id % 64).toNat = p := by omega
    rw [e1, e2, getD_of k1]
    exact (hF.at_ n).set _ (give_full (h.good s (List.mem_of_getElem? k1)) k3)
  · rw [if_neg hm]; exact hF
/-- The objects' bytes are never above the slabs'. -/
theorem used_bytes (hg : ∀ s ∈ ss, okL s) : usedL ss ≤ 2048 * (cntK ss : Int) := by
  induction ss with
  | nil => simp [usedL, cntK]
  | cons s r ih =>
    have h1 := ih fun x hx => hg x (by simp [hx])
    have h2 : useL s ≤ if s.kind ≠ 0 then 2048 else 0 := by
      unfold useL
      by_cases hk : s.kind = 0
      · rw [hk, szF_zero]; simp
      · rw [if_pos hk]
        have hsz := szF_le s.kind
        have hpl := plF_le s.kind
        have hle : (plF s.kind - (pop s.free : Nat)) * szF s.kind ≤ plF s.kind * szF s.kind := Int.mul_le_mul_of_nonneg_right (by omega) hsz.1
        refine Int.le_trans hle ?_
        unfold plF
        split
        · simp
        · rename_i h0
          rcases szF_vals s.kind h0 with e | e | e | e | e <;> rw [e] <;> decide
    have h3 : (cntK (s :: r) : Int) = (if s.kind ≠ 0 then 1 else 0) + cntK r := by rw [cntK_sum, cntK_sum, List.map_cons, List.sum_cons]
    rw [h3]
    simp only [usedL, List.map_cons, List.sum_cons] at h1 ⊢
    split at h2 <;> rename_i hk <;> simp [hk] <;> omega
end
end Go.Proofs.YtgoaebikgdecoaaDoor
