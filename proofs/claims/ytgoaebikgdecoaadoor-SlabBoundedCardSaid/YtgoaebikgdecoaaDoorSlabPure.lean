/-
  Slabs (parapet/slab): plain facts: the lowest place without an object; what Alloc does to slabs and owners. No program is named beyond the tables.
-/
import Derived.Test.YtgoaebikgdecoaaDoorSlabBuild
namespace Go.Proofs.YtgoaebikgdecoaaDoor
open Go.ChangeShapes Go.WideShapes Go.ChangeAt Go.RowKit Go.Maps
set_option linter.unusedVariables false

theorem ctz_spec {x : Nat} (h0 : x ≠ 0) (h : x < 18446744073709551616) : Lib.ctz 64 x < 64 ∧ x.testBit (Lib.ctz 64 x) = true ∧ ∀ j, j < Lib.ctz 64 x → x.testBit j = false := by
  obtain ⟨m, e, hl⟩ := Lib.ctzFrom_spec 64 x (by omega) (by simpa using h)
  have e1 : Lib.ctz 64 x = Lib.ctzFrom 64 x := by unfold Lib.ctz; rw [if_neg h0]
  rw [e1]
  generalize Lib.ctzFrom 64 x = c at *
  refine ⟨hl, ?_, fun j hj => ?_⟩
  · rw [e, Nat.testBit_two_pow_mul]
    simp [Nat.testBit_zero]
  · rw [e, Nat.testBit_two_pow_mul]
    simp; omega
/-- A place is taken. -/
def clrB (x c : Nat) : Nat := x &&& (18446744073709551615 - 2 ^ c)
theorem clrB_bit (x c j : Nat) (hc : c < 64) : (clrB x c).testBit j = (x.testBit j && (decide (j < 64) && !decide (c = j))) := by
  unfold clrB
  have hp : 2 ^ c < 2 ^ 64 := Nat.pow_lt_pow_right (by decide) hc
  rw [Nat.testBit_and, show (18446744073709551615 - 2 ^ c : Nat) = 2 ^ 64 - (2 ^ c + 1) by omega, Nat.testBit_two_pow_sub_succ hp, Nat.testBit_two_pow]
theorem clrB_le (x c : Nat) : clrB x c ≤ x := Nat.and_le_left
theorem andNot_clr (x c : Nat) (hx : x < 18446744073709551616) (hc : c < 64) : bits .andNot .u64 (x : Int) (IntKind.u64.wrap (2 ^ c)) = ((clrB x c : Nat) : Int) := by
  have hp : 2 ^ c < 2 ^ 64 := Nat.pow_lt_pow_right (by decide) hc
  have e : IntKind.u64.wrap (2 ^ c) = ((2 ^ c : Nat) : Int) := by
    obtain ⟨z, hz⟩ : ∃ z : Nat, z = 2 ^ c := ⟨_, rfl⟩
    have h1 : ((2 : Int) ^ c) = (z : Int) := by rw [hz]; simp
    have h2 : z < 18446744073709551616 := by rw [hz]; exact hp
    rw [h1, ← hz, IntKind.wrap_u64]
    omega
  rw [e, u64_andNot_nat x (2 ^ c) hx (by omega)]
  rfl

/-- Where an object of that kind comes to be. -/
def takeS (s : SL) : SL := { s with free := clrB s.free (Lib.ctz 64 s.free) }
theorem okL.lt {s : SL} (h : okL s) : s.free < 18446744073709551616 := by
  have hp := plF_le s.kind
  exact Nat.lt_of_lt_of_le h.2 (show 2 ^ (plF s.kind).toNat ≤ 2 ^ 64 from Nat.pow_le_pow_right (by decide) (by omega))
theorem okL.place {s : SL} (h : okL s) (h0 : s.free ≠ 0) : Lib.ctz 64 s.free < (plF s.kind).toNat := by
  obtain ⟨h1, h2, h3⟩ := ctz_spec h0 h.lt
  apply Decidable.byContradiction
  intro hn
  have hlt : s.free < 2 ^ Lib.ctz 64 s.free := Nat.lt_of_lt_of_le h.2 (Nat.pow_le_pow_right (by decide) (by omega))
  rw [Nat.testBit_lt_two_pow hlt] at h2
  cases h2
theorem liveAt_iff {ss : List SL} {n : Nat} {s : SL} (hs : ss[n]? = some s) {p : Nat} (hp : p < 64) : liveAt ss (n * 64 + p) ↔ p < (plF s.kind).toNat ∧ s.free.testBit p = false := by
  constructor
  · rintro ⟨n', s', p', h1, h2, h3, h4⟩
    have hp' := plF_le s'.kind
    have e1 : n = n' := by omega
    have e2 : p = p' := by omega
    subst e1 e2
    rw [hs] at h1
    injection h1 with h1
    subst h1
    exact ⟨h2, h3⟩
  · rintro ⟨h1, h2⟩
    exact ⟨n, s, p, hs, h1, h2, rfl⟩
theorem liveAt_low {ss : List SL} {id : Int} (h : liveAt ss id) : ∃ (n : Nat) (s : SL) (p : Nat), ss[n]? = some s ∧ p < 64 ∧ p < (plF s.kind).toNat ∧ s.free.testBit p = false ∧ id = n * 64 + p := by
  obtain ⟨n, s, p, h1, h2, h3, h4⟩ := h
  have := plF_le s.kind
  exact ⟨n, s, p, h1, by omega, h2, h3, h4⟩
theorem cntK_set {ss : List SL} {n : Nat} {s s' : SL} (hs : ss[n]? = some s) (h : (s.kind = 0) ↔ (s'.kind = 0)) : cntK (ss.set n s') = cntK ss := by
  induction ss generalizing n with
  | nil => simp at hs
  | cons x r ih =>
    cases n with
    | zero =>
      simp only [List.getElem?_cons_zero, Option.some.injEq] at hs
      subst hs
      by_cases hx : x.kind = 0
      · have := h.1 hx; simp [cntK, hx, this]
      · have : ¬ s'.kind = 0 := fun e => hx (h.2 e)
        simp [cntK, hx, this]
    | succ n =>
      have := ih (n := n) (by simpa using hs)
      by_cases hx : x.kind = 0 <;> simpa [cntK, hx] using this
theorem cntK_new {ss : List SL} {n : Nat} {s s' : SL} (hs : ss[n]? = some s) (h : s.kind = 0) (h' : s'.kind ≠ 0) : cntK (ss.set n s') = cntK ss + 1 := by
  induction ss generalizing n with
  | nil => simp at hs
  | cons x r ih =>
    cases n with
    | zero =>
      simp only [List.getElem?_cons_zero, Option.some.injEq] at hs
      subst hs
      simp [cntK, h, h']
    | succ n =>
      have := ih (n := n) (by simpa using hs)
      by_cases hx : x.kind = 0 <;> simp [cntK, hx] at this ⊢ <;> omega
section
variable {L : Int} {ss : List SL} {O : List (Int × Int)}
theorem OkH.fresh (h : OkH L ss O) {n : Nat} {s : SL} (hs : ss[n]? = some s) (h0 : s.free ≠ 0) : ((n : Int) * 64 + (Lib.ctz 64 s.free : Nat)) ∉ O.map (·.1) := by
  have hok := h.good s (List.mem_of_getElem? hs)
  obtain ⟨h1, h2, h3⟩ := ctz_spec h0 hok.lt
  rw [h.keys, liveAt_iff hs h1, h2]
  simp
theorem OkH.take (h : OkH L ss O) {n : Nat} {s : SL} (hs : ss[n]? = some s) (h0 : s.free ≠ 0) (owner : Int) : OkH L (ss.set n (takeS s)) (O ++ [((n : Int) * 64 + (Lib.ctz 64 s.free : Nat), owner)]) := by
  have hok := h.good s (List.mem_of_getElem? hs)
  have hpl := hok.place h0
  have hi := (List.getElem?_eq_some_iff.1 hs).1
  obtain ⟨h1, h2, h3⟩ := ctz_spec h0 hok.lt
  refine ⟨h.lim, by simpa using h.few, fun x hx => ?_, by rw [cntK_set hs (by simp [takeS])]; exact h.fit, fun id => ?_⟩
  · rcases List.mem_or_eq_of_mem_set hx with hx | rfl
    · exact h.good x hx
    · exact ⟨hok.1, Nat.lt_of_le_of_lt (clrB_le _ _) hok.2⟩
  · rw [List.map_append, List.mem_append, h.keys]
    simp only [List.map_cons, List.map_nil, List.mem_singleton]
    constructor
    · rintro (hl | rfl)
      · obtain ⟨n', s', p', g1, g2, g3, g4, g5⟩ := liveAt_low hl
        by_cases e : n' = n
        · subst e
          rw [hs] at g1
          injection g1 with g1
          subst g1
          refine ⟨n', takeS s, p', by simp [hi], g3, ?_, g5⟩
          show (clrB _ _).testBit p' = false
          rw [clrB_bit _ _ _ h1, g4]
          rfl
        · exact ⟨n', s', p', by rw [List.getElem?_set_ne (by omega)]; exact g1, g3, g4, g5⟩
      · refine ⟨n, takeS s, Lib.ctz 64 s.free, by simp [hi], hpl, ?_, rfl⟩
        show (clrB _ _).testBit _ = false
        rw [clrB_bit _ _ _ h1]
        simp
    · intro hl
      obtain ⟨n', s', p', g1, g2, g3, g4, g5⟩ := liveAt_low hl
      by_cases e : n' = n
      · subst e
        rw [List.getElem?_set_self hi] at g1
        injection g1 with g1
        subst g1
        have g4' : (clrB s.free (Lib.ctz 64 s.free)).testBit p' = false := g4
        rw [clrB_bit _ _ _ h1] at g4'
        by_cases ep : Lib.ctz 64 s.free = p'
        · right; rw [g5, ep]
        · left
          refine ⟨n', s, p', hs, g3, ?_, g5⟩
          simpa [g2, ep] using g4'
      · left
        rw [List.getElem?_set_ne (by omega)] at g1
        exact ⟨n', s', p', g1, g3, g4, g5⟩
theorem newS_ok {kind : Int} (hk : szF kind ≠ 0) : okL (newS kind) := ⟨.inr hk, by unfold newS; have : 1 ≤ 2 ^ (plF kind).toNat := Nat.one_le_two_pow; simp only; omega⟩
theorem newS_dead (kind : Int) {p : Nat} (hp : p < (plF kind).toNat) : (newS kind).free.testBit p = true := by
  show (2 ^ (plF kind).toNat - 1).testBit p = true
  rw [Nat.testBit_two_pow_sub_one]
  simpa using hp
theorem szF_zero : szF 0 = 0 := by decide
theorem plF_zero : plF 0 = 0 := by decide
theorem OkH.build (h : OkH L ss O) {kind : Int} (hk : szF kind ≠ 0) (hm : moreF L ss ≠ 0) : OkH L (buildL ss kind) O ∧ (buildL ss kind)[buildN ss]? = some (newS kind) := by
  have hk0 : kind ≠ 0 := fun e => hk (by rw [e]; exact szF_zero)
  have hfit := h.fit
  have hlim := h.lim
  have hm2 : 2048 * ((cntK ss : Nat) : Int) + 2048 ≤ L := by
    unfold moreF at hm
    omega
  rcases firstI_cases noK ss with ⟨e, hno⟩ | ⟨i, s, hs, hp, e, _⟩
  · have eB : buildL ss kind = ss ++ [newS kind] := by unfold buildL; rw [e, if_pos (by decide)]
    have eN : buildN ss = ss.length := by unfold buildN; rw [e, if_pos (by decide)]
    have hall : cntK ss = ss.length := by
      unfold cntK
      rw [List.countP_eq_length]
      intro s hs
      have := hno s hs
      simpa [noK] using this
    have hc : cntK (ss ++ [newS kind]) = cntK ss + 1 := by rw [cntK_append]; simp [cntK, newS, hk0]
    rw [eB, eN]
    refine ⟨⟨hlim, by simp; omega, fun x hx => ?_, by rw [hc]; omega, fun id => ?_⟩, by simp⟩
    · rcases List.mem_append.1 hx with hx | hx
      · exact h.good x hx
      · rw [List.mem_singleton.1 hx]; exact newS_ok hk
    · rw [h.keys]
      constructor
      · rintro ⟨n, s, p, g1, g2⟩
        have := (List.getElem?_eq_some_iff.1 g1).1
        exact ⟨n, s, p, by rw [List.getElem?_append_left this]; exact g1, g2⟩
      · rintro ⟨n, s, p, g1, g2, g3, g4⟩
        by_cases hn : n < ss.length
        · rw [List.getElem?_append_left hn] at g1
          exact ⟨n, s, p, g1, g2, g3, g4⟩
        · have hn2 := (List.getElem?_eq_some_iff.1 g1).1
          have : n = ss.length := by simp at hn2; omega
          subst this
          simp at g1
          subst g1
          rw [newS_dead kind g2] at g3
          cases g3
  · have eB : buildL ss kind = ss.set i (newS kind) := by unfold buildL; rw [e, if_neg (by omega)]; simp
    have eN : buildN ss = i := by unfold buildN; rw [e, if_neg (by omega)]; simp
    have hi := (List.getElem?_eq_some_iff.1 hs).1
    have hs0 : s.kind = 0 := by simpa [noK] using hp
    have hc := cntK_new (s' := newS kind) hs hs0 hk0
    rw [eB, eN]
    refine ⟨⟨hlim, by simpa using h.few, fun x hx => ?_, by rw [hc]; omega, fun id => ?_⟩, by simp [hi]⟩
    · rcases List.mem_or_eq_of_mem_set hx with hx | rfl
      · exact h.good x hx
      · exact newS_ok hk
    · rw [h.keys]
      constructor
      · rintro ⟨n, s', p, g1, g2, g3, g4⟩
        by_cases en : n = i
        · subst en
          rw [hs] at g1
          injection g1 with g1
          subst g1
          rw [hs0, plF_zero] at g2
          simp at g2
        · exact ⟨n, s', p, by rw [List.getElem?_set_ne (by omega)]; exact g1, g2, g3, g4⟩
      · rintro ⟨n, s', p, g1, g2, g3, g4⟩
        by_cases en : n = i
        · subst en
          rw [List.getElem?_set_self hi] at g1
          injection g1 with g1
          subst g1
          rw [newS_dead kind g2] at g3
          cases g3
        · rw [List.getElem?_set_ne (by omega)] at g1
          exact ⟨n, s', p, g1, g2, g3, g4⟩
end
end Go.Proofs.YtgoaebikgdecoaaDoor
