/-
  What every table keeps: its leaves are frames that were handed in, none of them the root, and no other frame's bytes turn ('Inv'); Set in one contract ('set_any').
-/
import Derived.Test.YtmlaomkofcajgaaPtabEntries
namespace Go.Proofs.Ytmlaomkofcajgaa
open Go.ChangeShapes Go.WideShapes Go.ChangeAt Go.RowKit
set_option linter.unusedVariables false

/-- Byte i of a frame. -/
def frB (xs : List Int) (k : Int) (i : Nat) : Int := gb xs (256 * k.toNat + i)

theorem frB_setW {xs : List Int} {f j x k : Int} {i : Nat} (hf : hasB xs f = true) (hk : 0 ≤ k) (hne : k ≠ f) (j0 : 0 ≤ j) (j1 : j ≤ 63) (hi : i < 256) : frB (setW xs f j x) k i = frB xs k i := by
  simp only [hasB, decide_eq_true_eq] at hf
  unfold frB setW
  rw [gb_putw _ _ _ _ (by omega), if_neg (by omega), if_neg (by omega), if_neg (by omega), if_neg (by omega)]
theorem frB_clr {xs : List Int} {f k : Int} {i : Nat} (hf : hasB xs f = true) (hk : 0 ≤ k) (hne : k ≠ f) (hi : i < 256) : frB (clr xs f) k i = frB xs k i := by
  simp only [hasB, decide_eq_true_eq] at hf
  unfold frB clr
  rw [gb_splice _ _ _ _ (by rw [List.length_replicate]; omega), List.length_replicate, if_neg (by omega)]

structure Inv (xs : List Int) (root : Int) (own : List Int) (c : Int) : Prop where
  leaf : ∀ i, 0 ≤ i → i ≤ 3 → leafB xs root i = true → wordB xs root i / 256 ∈ own ∧ wordB xs root i / 256 ≠ root
  fr : ∀ k, hasB xs k = true → k ∉ own → ∀ i, i < 256 → frB xs k i = c
  root : root ∈ own

theorem leafB_len {xs ys : List Int} (hl : ys.length = xs.length) {root i : Int} (hw : wordB ys root i = wordB xs root i) : leafB ys root i = leafB xs root i := by
  unfold leafB; rw [hw, hasB_len hl]

theorem inv_start {xs : List Int} {root c : Int} (hr : hasB xs root = true) (hc : ∀ k, hasB xs k = true → ∀ i, i < 256 → frB xs k i = c) : Inv (clr xs root) root [root] c := by
  refine ⟨fun i i0 i1 h => ?_, fun k hk hn i hi => ?_, by simp⟩
  · unfold leafB at h
    rw [wordB_clr hr hr i0 (by omega), if_pos rfl] at h
    exact absurd h (by simp)
  · rw [hasB_len (length_clr hr)] at hk
    have k0 : 0 ≤ k := by simp only [hasB, decide_eq_true_eq] at hk; exact hk.1
    rw [frB_clr hr k0 (by simpa using hn) hi]
    exact hc k hk i hi

theorem inv_new {xs : List Int} {root sp p x c : Int} {own : List Int} (h : Inv xs root own c) (hr : hasB xs root = true) (hs : hasB xs sp = true) (hn : sp ∉ own) (hb : xs.length ≤ 1048576) (hp : 0 ≤ p ∧ p < 256) (h0 : 0 ≤ x) (h1 : x ≤ 4294967295) :
    Inv (setW (setW (clr xs sp) root (p / 64) (sp * 256 + 1)) sp (p % 64) x) root (own ++ [sp]) c := by
  have hne : sp ≠ root := fun e => hn (e ▸ h.root)
  have l1 := length_clr hs
  have l2 := (length_setW (clr xs sp) root (p / 64) (sp * 256 + 1)).trans l1
  have l3 := (length_setW (setW (clr xs sp) root (p / 64) (sp * 256 + 1)) sp (p % 64) x).trans l2
  have hs' := hs
  simp only [hasB, decide_eq_true_eq] at hs'
  have hw : ∀ i, 0 ≤ i → i ≤ 3 → wordB (setW (setW (clr xs sp) root (p / 64) (sp * 256 + 1)) sp (p % 64) x) root i = if i = p / 64 then sp * 256 + 1 else wordB xs root i := fun i i0 i1 => by
    rw [wordB_setW ((hasB_len l2 _).trans hs) ((hasB_len l2 _).trans hr) (by omega) (by omega) (by omega) (by omega) h0 h1, if_neg (by omega),
      wordB_setW ((hasB_len l1 _).trans hr) ((hasB_len l1 _).trans hr) (by omega) (by omega) (by omega) (by omega) (by omega) (by omega)]
    by_cases hi : i = p / 64
    · rw [if_pos ⟨rfl, hi⟩, if_pos hi]
    · rw [if_neg (fun q => hi q.2), if_neg hi, wordB_clr hs hr i0 (by omega), if_neg (Ne.symm hne)]
  refine ⟨fun i i0 i1 hl => ?_, fun k hk hkn i hi => ?_, by simp [h.root]⟩
  · rw [hw i i0 i1]
    by_cases hi : i = p / 64
    · rw [if_pos hi, show (sp * 256 + 1) / 256 = sp by omega]
      exact ⟨by simp, hne⟩
    · have hw' := hw i i0 i1
      rw [if_neg hi] at hw'
      rw [if_neg hi]
      rw [leafB_len l3 hw'] at hl
      have := h.leaf i i0 i1 hl
      exact ⟨by simp [this.1], this.2⟩
  · rw [hasB_len l3] at hk
    have k0 : 0 ≤ k := by simp only [hasB, decide_eq_true_eq] at hk; exact hk.1
    simp only [List.mem_append, List.mem_singleton, not_or] at hkn
    have hkr : k ≠ root := fun e => hkn.1 (e ▸ h.root)
    rw [frB_setW ((hasB_len l2 _).trans hs) k0 hkn.2 (by omega) (by omega) hi, frB_setW ((hasB_len l1 _).trans hr) k0 hkr (by omega) (by omega) hi, frB_clr hs k0 hkn.2 hi]
    exact h.fr k hk hkn.1 i hi

theorem inv_old {xs : List Int} {root p x c : Int} {own : List Int} (h : Inv xs root own c) (hr : hasB xs root = true) (hl : leafB xs root (p / 64) = true) (hp : 0 ≤ p ∧ p < 256) (h0 : 0 ≤ x) (h1 : x ≤ 4294967295) :
    Inv (setW xs (wordB xs root (p / 64) / 256) (p % 64) x) root own c := by
  have hlf : hasB xs (wordB xs root (p / 64) / 256) = true := by simp only [leafB, Bool.and_eq_true] at hl; exact hl.2
  obtain ⟨hm, hne⟩ := h.leaf (p / 64) (by omega) (by omega) hl
  have l := length_setW xs (wordB xs root (p / 64) / 256) (p % 64) x
  have hw : ∀ i, 0 ≤ i → i ≤ 3 → wordB (setW xs (wordB xs root (p / 64) / 256) (p % 64) x) root i = wordB xs root i := fun i i0 i1 => by
    rw [wordB_setW hlf hr (by omega) (by omega) (by omega) (by omega) h0 h1, if_neg (fun q => hne q.1.symm)]
  refine ⟨fun i i0 i1 hl => ?_, fun k hk hkn i hi => ?_, h.root⟩
  · rw [leafB_len l (hw i i0 i1)] at hl
    rw [hw i i0 i1]
    exact h.leaf i i0 i1 hl
  · rw [hasB_len l] at hk
    have k0 : 0 ≤ k := by simp only [hasB, decide_eq_true_eq] at hk; exact hk.1
    rw [frB_setW hlf k0 (fun e => hkn (e ▸ hm)) (by omega) (by omega) hi]
    exact h.fr k hk hkn i hi

/-- What a Set came to: the spare frame was taken, or not. -/
def SetDid (w w' : World) (e : Ending) (t g d cap : Nat) (r : List Value) (n : Nat) (root sp c : Int) (own : List Int) : Prop :=
  ∃ (ys : List Int) (er : Int) (u : Bool), e = .returned (.tuple #[.bool u, .int .i64 er]) ∧ IsTab w' t g d cap ys r root ∧ ys.length = n ∧ Only [d] w w' ∧ (u = true → er = 0) ∧ Inv ys root (if u then own ++ [sp] else own) c

theorem set_any {w : World} {t g d cap : Nat} {xs : List Int} {r : List Value} {root c : Int} {own : List Int} (hT : IsTab w t g d cap xs r root) (hI : Inv xs root own c) (p x sp : Int) (h0 : 0 ≤ x) (h1 : x ≤ 4294967295) (hn : sp ∉ own) :
    Calls Try.prog 22 #[.pointer (some ⟨t, 0, none⟩), .int .i64 p, .int .u32 x, .int .i64 sp] w fun e w' => SetDid w w' e t g d cap r xs.length root sp c own := by
  have hquiet : ∀ {e : Ending} {w' : World} {er : Int}, e = .returned (.tuple #[.bool false, .int .i64 er]) → (∃ n, w' = w.drewN n) → SetDid w w' e t g d cap r xs.length root sp c own := fun he hq =>
    ⟨xs, _, false, he, hT.dr hq, rfl, dr_only hq _, (fun h => by cases h), hI⟩
  by_cases hp : 0 ≤ p ∧ p < 256
  · by_cases hb : mayB xs x = true
    · by_cases hl : leafB xs root (p / 64) = true
      · exact (set_old hT p x sp hp h0 h1 hb hl).mono fun e w' ⟨he, ho, hT'⟩ => ⟨_, 0, false, he, hT', length_setW _ _ _ _, ho, (fun h => by cases h), inv_old hI hT.root hl hp h0 h1⟩
      · have hl' : leafB xs root (p / 64) = false := by simpa using hl
        by_cases hx : x = 0
        · subst hx
          exact (set_none hT p 0 sp hp h0 h1 hb hl' rfl).mono fun e w' ⟨he, hq⟩ => hquiet he hq
        · by_cases hs : sp < 0
          · exact (set_full hT p x sp hp h0 h1 hb hl' hx hs).mono fun e w' ⟨he, hq⟩ => hquiet he hq
          · by_cases hs1 : hasB xs sp = true
            · exact (set_new hT p x sp hp h0 h1 hb hl' hx hs1).mono fun e w' ⟨he, ho, hT'⟩ =>
                ⟨_, 0, true, he, hT', (length_setW _ _ _ _).trans ((length_setW _ _ _ _).trans (length_clr hs1)), ho, fun _ => rfl, inv_new hI hT.root hs1 hn hT.mem.big hp h0 h1⟩
            · exact (set_addr hT p x sp hp h0 h1 hb hl' hx (by omega) (by simpa using hs1)).mono fun e w' ⟨he, hq⟩ => hquiet he hq
    · exact (set_entry hT p x sp hp h0 h1 (by simpa using hb)).mono fun e w' ⟨he, hq⟩ => hquiet he hq
  · exact (set_page hT p x sp hp).mono fun e w' ⟨he, hw⟩ => hquiet he ⟨0, hw.symm⟩
end Go.Proofs.Ytmlaomkofcajgaa
