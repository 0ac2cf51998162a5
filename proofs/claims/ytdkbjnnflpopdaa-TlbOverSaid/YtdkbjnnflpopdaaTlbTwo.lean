/-
  Translations (parapet/tlb): any Fill and Flush; two of them side by side.
-/
import Derived.Test.YtdkbjnnflpopdaaTlbLook
import Derived.Test.YtdkbjnnflpopdaaTlbOps
namespace Go.Proofs.Ytdkbjnnflpopdaa
open Go.ChangeShapes Go.WideShapes Go.ChangeAt Go.RowKit Go.Maps Go.Shelf
set_option linter.unusedVariables false

def fillLs (n size : Nat) (ls : Nat → List (K2 × K2)) (nx : Nat → Int) (h : Int) (k : K2) (e : Int) : Nat → List (K2 × K2) :=
  if 0 ≤ h ∧ h < n then updF ls h.toNat (fillL size (ls h.toNat) k e (nx h.toNat)) else ls
def fillNx (n : Nat) (ls : Nat → List (K2 × K2)) (nx : Nat → Int) (h : Int) (k : K2) : Nat → Int :=
  if 0 ≤ h ∧ h < n then updF nx h.toNat (nxL (ls h.toNat) k (nx h.toNat)) else nx
def flushLs (n : Nat) (ls : Nat → List (K2 × K2)) (h : Int) (sp : Int) : Nat → List (K2 × K2) :=
  if 0 ≤ h ∧ h < n then updF ls h.toNat (notSp sp (ls h.toNat)) else ls
theorem fillNx_le (n : Nat) (ls : Nat → List (K2 × K2)) (nx : Nat → Int) (h : Int) (k : K2) (j : Nat) : fillNx n ls nx h k j ≤ nx j + 1 := by
  unfold fillNx
  split
  · unfold updF
    split
    · rename_i e
      rw [e]
      unfold nxL
      split <;> omega
    · omega
  · omega
section
variable {w w' : World} {t hb ob n size : Nat} {begun : Int} {bs : Nat → Nat} {ls : Nat → List (K2 × K2)} {nx : Nat → Int} {O : List (Int × Sh)} {S F : List Nat}
theorem bFill_any (T : IsTlb w t hb ob n size begun bs ls nx O) (hF : hb ∈ F ∧ ∀ j, j < n → bs j ∈ F) (h : Int) {k : K2} (hk : k.wf) (e : Int) (hx : ∀ j, j < n → nx j < 4611686018427387904) :
    Calls Try.prog 13 #[.pointer (some ⟨t, 0, none⟩), .int .i64 h, .agg #[.int .i64 k.1, .int .i64 k.2], .int .u32 e] w fun r w' => (∃ x, r = .returned (.int .i64 x)) ∧ IsTlb w' t hb ob n size begun bs (fillLs n size ls nx h k e) (fillNx n ls nx h k) O ∧ Only F w w' := by
  by_cases hh : 0 ≤ h ∧ h < n
  · obtain ⟨j, rfl⟩ := Int.eq_ofNat_of_zero_le hh.1
    have hj : j < n := by omega
    refine (bFill_is T j hj hk e (hx j hj)).mono ?_
    rintro r w' ⟨rfl, T', ho⟩
    refine ⟨⟨_, rfl⟩, ?_, ho.mono (by intro q _ hq; simp at hq; rcases hq with rfl | rfl <;> first | exact hF.1 | exact hF.2 j hj)⟩
    unfold fillLs fillNx
    rw [if_pos hh, if_pos hh]
    exact T'
  · refine (bFill_bad T h hh k e).mono ?_
    rintro r w' ⟨rfl, ho⟩
    refine ⟨⟨_, rfl⟩, ?_, ho.mono (by simp)⟩
    unfold fillLs fillNx
    rw [if_neg hh, if_neg hh]
    exact T.new ho

theorem bFlush_any (T : IsTlb w t hb ob n size begun bs ls nx O) (hF : hb ∈ F ∧ ∀ j, j < n → bs j ∈ F) (h sp : Int) :
    Calls Try.prog 19 #[.pointer (some ⟨t, 0, none⟩), .int .i64 h, .int .i64 sp] w fun r w' => (∃ x, r = .returned (.int .i64 x)) ∧ IsTlb w' t hb ob n size begun bs (flushLs n ls h sp) nx O ∧ Only F w w' := by
  by_cases hh : 0 ≤ h ∧ h < n
  · obtain ⟨j, rfl⟩ := Int.eq_ofNat_of_zero_le hh.1
    have hj : j < n := by omega
    refine (bFlush_is T j hj sp).mono ?_
    rintro r w' ⟨rfl, T', ho⟩
    refine ⟨⟨_, rfl⟩, ?_, ho.mono (by intro q _ hq; simp at hq; subst hq; exact hF.2 j hj)⟩
    unfold flushLs
    rw [if_pos hh]
    exact T'
  · refine (bFlush_no T h sp hh).mono ?_
    rintro r w' ⟨rfl, rfl⟩
    refine ⟨⟨_, rfl⟩, ?_, Only.refl _ _⟩
    unfold flushLs
    rw [if_neg hh]
    exact T
end

/-- Two, of three harts with four entries each. -/
structure Two (w : World) (t hb ob u hb' ob' M : Nat) (bs bs' : Nat → Nat) (ls ls' : Nat → List (K2 × K2)) (nx nx' : Nat → Int) : Prop where
  T : IsTlb w t hb ob 3 4 0 bs ls nx []
  U : IsTlb w u hb' ob' 3 4 0 bs' ls' nx' []
  lo : t < M ∧ hb < M ∧ ob < M ∧ ∀ j, j < 3 → bs j < M
  hi : M ≤ u ∧ M ≤ hb' ∧ M ≤ ob' ∧ ∀ j, j < 3 → M ≤ bs' j
def footF (hb : Nat) (bs : Nat → Nat) : List Nat := [hb, bs 0, bs 1, bs 2]
theorem footF_ok (hb : Nat) (bs : Nat → Nat) : hb ∈ footF hb bs ∧ ∀ j, j < 3 → bs j ∈ footF hb bs := by
  refine ⟨by simp [footF], fun j hj => ?_⟩
  obtain rfl | rfl | rfl : j = 0 ∨ j = 1 ∨ j = 2 := by omega
  all_goals simp [footF]
section
variable {w w' : World} {t hb ob u hb' ob' M : Nat} {bs bs' : Nat → Nat} {ls ls' l2 : Nat → List (K2 × K2)} {nx nx' n2 : Nat → Int}
theorem Two.new (h : Two w t hb ob u hb' ob' M bs bs' ls ls' nx nx') (ho : Only [] w w') : Two w' t hb ob u hb' ob' M bs bs' ls ls' nx nx' := ⟨h.T.new ho, h.U.new ho, h.lo, h.hi⟩
theorem Two.one (h : Two w t hb ob u hb' ob' M bs bs' ls ls' nx nx') (hT : IsTlb w' t hb ob 3 4 0 bs l2 n2 []) (ho : Only (footF hb bs) w w') : Two w' t hb ob u hb' ob' M bs bs' l2 ls' n2 nx' := by
  obtain ⟨a1, a2, a3, a4⟩ := h.lo
  obtain ⟨b1, b2, b3, b4⟩ := h.hi
  have h0 := a4 0 (by decide)
  have h1 := a4 1 (by decide)
  have h2 := a4 2 (by decide)
  have hf : ∀ q, M ≤ q → q ∉ footF hb bs := fun q hq => by unfold footF; simp; omega
  exact ⟨hT, h.U.only ho (hf _ b1) (hf _ b2) (hf _ b3) (fun j hj => hf _ (b4 j hj)), h.lo, h.hi⟩
theorem Two.two (h : Two w t hb ob u hb' ob' M bs bs' ls ls' nx nx') (hU : IsTlb w' u hb' ob' 3 4 0 bs' l2 n2 []) (ho : Only (footF hb' bs') w w') : Two w' t hb ob u hb' ob' M bs bs' ls l2 nx n2 := by
  obtain ⟨a1, a2, a3, a4⟩ := h.lo
  obtain ⟨b1, b2, b3, b4⟩ := h.hi
  have h0 := b4 0 (by decide)
  have h1 := b4 1 (by decide)
  have h2 := b4 2 (by decide)
  have hf : ∀ q, q < M → q ∉ footF hb' bs' := fun q hq => by unfold footF; simp; omega
  exact ⟨h.T.only ho (hf _ a1) (hf _ a2) (hf _ a3) (fun j hj => hf _ (a4 j hj)), hU, h.lo, h.hi⟩
end
/-- The hart in question keeps the same in both. -/
def Same (hart : Int) (ls ls' : Nat → List (K2 × K2)) (nx nx' : Nat → Int) : Prop := ∀ j : Nat, j < 3 → (j : Int) = hart → ls j = ls' j ∧ nx j = nx' j
section
variable {hart : Int} {ls ls' : Nat → List (K2 × K2)} {nx nx' : Nat → Int}
theorem Same.fill_ne (s : Same hart ls ls' nx nx') {h : Int} (hne : h ≠ hart) (k : K2) (e : Int) : Same hart (fillLs 3 4 ls nx h k e) ls' (fillNx 3 ls nx h k) nx' := fun j hj he => by
  obtain ⟨s1, s2⟩ := s j hj he
  unfold fillLs fillNx
  by_cases hh : 0 ≤ h ∧ h < (3 : Nat)
  · rw [if_pos hh, if_pos hh, updF_far _ _ (by omega), updF_far _ _ (by omega)]
    exact ⟨s1, s2⟩
  · rw [if_neg hh, if_neg hh]
    exact ⟨s1, s2⟩
theorem Same.fill_eq (s : Same hart ls ls' nx nx') (k : K2) (e : Int) : Same hart (fillLs 3 4 ls nx hart k e) (fillLs 3 4 ls' nx' hart k e) (fillNx 3 ls nx hart k) (fillNx 3 ls' nx' hart k) := fun j hj he => by
  obtain ⟨s1, s2⟩ := s j hj he
  subst he
  unfold fillLs fillNx
  have hh : 0 ≤ (j : Int) ∧ (j : Int) < (3 : Nat) := by omega
  rw [if_pos hh, if_pos hh, if_pos hh, if_pos hh, Int.toNat_natCast, updF_same, updF_same, updF_same, updF_same, s1, s2]
  exact ⟨rfl, rfl⟩
theorem Same.flush_ne (s : Same hart ls ls' nx nx') {h : Int} (hne : h ≠ hart) (sp : Int) : Same hart (flushLs 3 ls h sp) ls' nx nx' := fun j hj he => by
  obtain ⟨s1, s2⟩ := s j hj he
  unfold flushLs
  by_cases hh : 0 ≤ h ∧ h < (3 : Nat)
  · rw [if_pos hh, updF_far _ _ (by omega)]
    exact ⟨s1, s2⟩
  · rw [if_neg hh]
    exact ⟨s1, s2⟩
theorem Same.flush_eq (s : Same hart ls ls' nx nx') (sp : Int) : Same hart (flushLs 3 ls hart sp) (flushLs 3 ls' hart sp) nx nx' := fun j hj he => by
  obtain ⟨s1, s2⟩ := s j hj he
  subst he
  unfold flushLs
  have hh : 0 ≤ (j : Int) ∧ (j : Int) < (3 : Nat) := by omega
  rw [if_pos hh, if_pos hh, Int.toNat_natCast, updF_same, updF_same, s1]
  exact ⟨rfl, s2⟩
end
end Go.Proofs.Ytdkbjnnflpopdaa
