/-
  Slabs: plain facts: what a heap tells depends on its objects alone. No program is named beyond the tables.
-/
import Derived.Test.YtgoaebikgdecoaaDoorSlabRoom
namespace Go.Proofs.YtgoaebikgdecoaaDoor
open Go.ChangeShapes Go.WideShapes Go.ChangeAt Go.RowKit Go.Maps
set_option linter.unusedVariables false

/-- Each slab has an object. -/
def FullL (ss : List SL) : Prop := ∀ s ∈ ss, s.kind ≠ 0 → ∃ p, p < (plF s.kind).toNat ∧ s.free.testBit p = false
def nS : SL := ⟨0, 0⟩
def padL (ss : List SL) : List SL := ss ++ List.replicate (512 - ss.length) nS
theorem sum_rep (g : SL → Int) (h : g nS = 0) : ∀ n, ((List.replicate n nS).map g).sum = 0
  | 0 => rfl
  | n + 1 => by rw [List.replicate_succ, List.map_cons, List.sum_cons, h, sum_rep g h n]; rfl
theorem sum_pad (g : SL → Int) (h : g nS = 0) (ss : List SL) : ((padL ss).map g).sum = (ss.map g).sum := by
  unfold padL
  rw [List.map_append, List.sum_append, sum_rep g h]
  omega
theorem usedL_pad (ss : List SL) : usedL (padL ss) = usedL ss := sum_pad useL (by rfl) ss
theorem spareF_pad (ss : List SL) (k : Int) : spareF (padL ss) k = spareF ss k := sum_pad (spC k) (by unfold spC nS; simp only [pop_zero]; split <;> rfl) ss
theorem cntK_sum (ss : List SL) : (cntK ss : Int) = (ss.map fun s => if s.kind ≠ 0 then (1 : Int) else 0).sum := by
  induction ss with
  | nil => rfl
  | cons s r ih =>
    rw [List.map_cons, List.sum_cons, ← ih]
    by_cases h : s.kind = 0 <;> simp [cntK, h]; omega
theorem cntK_pad (ss : List SL) : (cntK (padL ss) : Int) = cntK ss := by
  rw [cntK_sum, cntK_sum]
  exact sum_pad _ (by rfl) ss
theorem padL_get (ss : List SL) (h : ss.length ≤ 512) {n : Nat} (hn : n < 512) : (padL ss)[n]? = some (ss.getD n nS) := by
  unfold padL
  by_cases hl : n < ss.length
  · rw [List.getElem?_append_left hl, List.getElem?_eq_getElem hl]
    simp [List.getD, hl]
  · rw [List.getElem?_append_right (by omega), List.getElem?_replicate, if_pos (by omega)]
    simp [List.getD, show ss.length ≤ n by omega]
theorem padL_ext {ss ss' : List SL} (h : ss.length ≤ 512) (h' : ss'.length ≤ 512) (he : ∀ n, n < 512 → ss.getD n nS = ss'.getD n nS) : padL ss = padL ss' := by
  refine List.ext_getElem? fun n => ?_
  by_cases hn : n < 512
  · rw [padL_get ss h hn, padL_get ss' h' hn, he n hn]
  · rw [List.getElem?_eq_none (by simp [padL]; omega), List.getElem?_eq_none (by simp [padL]; omega)]
/-- The same is told of both. -/
structure ToldS (ss ss' : List SL) : Prop where
  used : usedL ss = usedL ss'
  cnt : cntK ss = cntK ss'
  spare : ∀ k, spareF ss k = spareF ss' k
theorem ToldS.of_pad {ss ss' : List SL} (h : padL ss = padL ss') : ToldS ss ss' :=
  ⟨by rw [← usedL_pad, h, usedL_pad], by have h1 := cntK_pad ss; rw [h, cntK_pad] at h1; omega, fun k => by rw [← spareF_pad, h, spareF_pad]⟩
theorem ToldS.room {ss ss' : List SL} (h : ToldS ss ss') (L k : Int) : roomF L ss k = roomF L ss' k := by
  unfold roomF moreF
  rw [h.cnt, h.spare]
section
variable {L : Int} {ss ss' : List SL} {O O' : List (Int × Int)}
/-- Slabs of one kind with the same objects are the same. -/
theorem free_ext {s s' : SL} (h : okL s) (h' : okL s') (hk : s.kind = s'.kind) (hp : ∀ p, p < (plF s.kind).toNat → s.free.testBit p = s'.free.testBit p) : s = s' := by
  have hf : s.free = s'.free := by
    refine Nat.eq_of_testBit_eq fun p => ?_
    by_cases hlt : p < (plF s.kind).toNat
    · exact hp p hlt
    · have h2 := h'.2
      rw [← hk] at h2
      rw [Nat.testBit_lt_two_pow (Nat.lt_of_lt_of_le h.2 (Nat.pow_le_pow_right (by decide) (by omega))), Nat.testBit_lt_two_pow (Nat.lt_of_lt_of_le h2 (Nat.pow_le_pow_right (by decide) (by omega)))]
  cases s; cases s'
  simp_all
theorem empty_nS {s : SL} (h : okL s) (hk : s.kind = 0) : s = nS := by
  have h2 := h.2
  rw [hk, plF_zero] at h2
  cases s
  simp_all [nS]
theorem getD_ok (h : OkH L ss O) (n : Nat) : okL (ss.getD n nS) := by
  by_cases hl : n < ss.length
  · have : ss.getD n nS ∈ ss := by simp [List.getD, hl]
    exact h.good _ this
  · have : ss.getD n nS = nS := by simp [List.getD, show ss.length ≤ n by omega]
    rw [this]
    exact ⟨.inl rfl, by decide⟩
theorem liveAt_getD (n : Nat) {p : Nat} (hp : p < 64) : liveAt ss (n * 64 + p) ↔ p < (plF (ss.getD n nS).kind).toNat ∧ (ss.getD n nS).free.testBit p = false := by
  by_cases hl : n < ss.length
  · have hs : ss[n]? = some (ss.getD n nS) := by simp [List.getD, hl]
    exact liveAt_iff hs hp
  · have hd : ss.getD n nS = nS := by simp [List.getD, show ss.length ≤ n by omega]
    rw [hd]
    constructor
    · rintro ⟨n', s', p', h1, h2, h3, h4⟩
      have := plF_le s'.kind
      have e : n = n' := by omega
      have := (List.getElem?_eq_some_iff.1 h1).1
      omega
    · rintro ⟨h1, _⟩
      simp [nS, plF_zero] at h1
theorem FullL.getD (h : FullL ss) (n : Nat) (hk : (ss.getD n nS).kind ≠ 0) : ∃ p : Nat, p < 64 ∧ liveAt ss (n * 64 + p) := by
  by_cases hl : n < ss.length
  · have hm : ss.getD n nS ∈ ss := by simp [List.getD, hl]
    obtain ⟨p, h1, h2⟩ := h _ hm hk
    have := plF_le (ss.getD n nS).kind
    exact ⟨p, by omega, (liveAt_getD n (by omega)).2 ⟨h1, h2⟩⟩
  · exact absurd (by simp [List.getD, show ss.length ≤ n by omega, nS]) hk
/-- Heaps with the same objects, of the same kinds, tell the same. -/
theorem told_same (h : OkH L ss O) (h' : OkH L ss' O') (hF : FullL ss) (hF' : FullL ss') (hk : ∀ id, id ∈ O.map (·.1) ↔ id ∈ O'.map (·.1))
    (hkind : ∀ n, (ss.getD n nS).kind ≠ 0 → (ss'.getD n nS).kind = (ss.getD n nS).kind) : ToldS ss ss' := by
  refine ToldS.of_pad (padL_ext h.few h'.few fun n hn => ?_)
  have hl : ∀ p : Nat, p < 64 → (liveAt ss (n * 64 + p) ↔ liveAt ss' (n * 64 + p)) := fun p _ => by rw [← h.keys, ← h'.keys, hk]
  by_cases h0 : (ss.getD n nS).kind = 0
  · have h1 : (ss'.getD n nS).kind = 0 := by
      apply Decidable.byContradiction
      intro hne
      obtain ⟨p, hp, hlv⟩ := hF'.getD n hne
      have := (liveAt_getD n hp).1 ((hl p hp).2 hlv)
      rw [h0, plF_zero] at this
      simp at this
    rw [empty_nS (getD_ok h n) h0, empty_nS (getD_ok h' n) h1]
  · have h1 := hkind n h0
    refine free_ext (getD_ok h n) (getD_ok h' n) h1.symm fun p hp => ?_
    have hpl := plF_le (ss.getD n nS).kind
    have h3 := hl p (by omega)
    rw [liveAt_getD n (by omega), liveAt_getD n (by omega), h1] at h3
    cases ha : (ss.getD n nS).free.testBit p <;> cases hb : (ss'.getD n nS).free.testBit p <;> simp_all
end
end Go.Proofs.YtgoaebikgdecoaaDoor
