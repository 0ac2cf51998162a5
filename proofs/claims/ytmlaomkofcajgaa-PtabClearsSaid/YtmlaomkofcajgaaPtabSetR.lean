/-
  Set of a page table (parapet/ptab) as one function on the bytes ('setR'), and what it does to what Walk tells, where the leaves are apart ('TInv').
-/
import Derived.Test.YtmlaomkofcajgaaPtabAll
namespace Go.Proofs.Ytmlaomkofcajgaa
open Go.ChangeShapes Go.WideShapes Go.ChangeAt Go.RowKit
set_option linter.unusedVariables false

def isPg (p : Int) : Prop := 0 ≤ p ∧ p < 256
instance (p : Int) : Decidable (isPg p) := by unfold isPg; infer_instance
/-- The leaf that a word of the root names. -/
def lfB (xs : List Int) (root i : Int) : Int := wordB xs root i / 256
/-- The bytes behind a Set with a spare frame. -/
def newB (xs : List Int) (root p x sp : Int) : List Int := setW (setW (clr xs sp) root (p / 64) (sp * 256 + 1)) sp (p % 64) x
def oldB (xs : List Int) (root p x : Int) : List Int := setW xs (lfB xs root (p / 64)) (p % 64) x
/-- What Set tells (was the spare frame taken, the error), and the bytes behind it. -/
def setR (xs : List Int) (root p x sp : Int) : Bool × Int × List Int :=
  if ¬ isPg p then (false, 1, xs) else if mayB xs x = false then (false, 50, xs) else if leafB xs root (p / 64) = true then (false, 0, oldB xs root p x)
  else if x = 0 then (false, 0, xs) else if sp < 0 then (false, 2, xs) else if hasB xs sp = false then (false, 10, xs) else (true, 0, newB xs root p x sp)

theorem set_R {w : World} {t g d cap : Nat} {xs : List Int} {r : List Value} {root : Int} (hT : IsTab w t g d cap xs r root) (p x sp : Int) (h0 : 0 ≤ x) (h1 : x ≤ 4294967295) :
    Calls Try.prog 22 #[.pointer (some ⟨t, 0, none⟩), .int .i64 p, .int .u32 x, .int .i64 sp] w fun e w' => e = .returned (.tuple #[.bool (setR xs root p x sp).1, .int .i64 (setR xs root p x sp).2.1]) ∧ Only [d] w w' ∧ IsTab w' t g d cap (setR xs root p x sp).2.2 r root := by
  unfold setR
  by_cases hp : isPg p
  · rw [if_neg (not_not_intro hp)]
    by_cases hb : mayB xs x = true
    · rw [if_neg (by rw [hb]; simp)]
      by_cases hl : leafB xs root (p / 64) = true
      · rw [if_pos hl]; exact set_old hT p x sp hp h0 h1 hb hl
      · rw [if_neg hl]
        have hl' : leafB xs root (p / 64) = false := by simpa using hl
        by_cases hx : x = 0
        · rw [if_pos hx]; subst hx
          exact (set_none hT p 0 sp hp h0 h1 hb hl' rfl).mono fun e w' ⟨he, hq⟩ => ⟨he, dr_only hq _, hT.dr hq⟩
        · rw [if_neg hx]
          by_cases hs : sp < 0
          · rw [if_pos hs]; exact (set_full hT p x sp hp h0 h1 hb hl' hx hs).mono fun e w' ⟨he, hq⟩ => ⟨he, dr_only hq _, hT.dr hq⟩
          · rw [if_neg hs]
            by_cases hs1 : hasB xs sp = true
            · rw [if_neg (by rw [hs1]; simp)]; exact set_new hT p x sp hp h0 h1 hb hl' hx hs1
            · rw [if_pos (by simpa using hs1)]; exact (set_addr hT p x sp hp h0 h1 hb hl' hx (by omega) (by simpa using hs1)).mono fun e w' ⟨he, hq⟩ => ⟨he, dr_only hq _, hT.dr hq⟩
    · rw [if_pos (by simpa using hb)]; exact (set_entry hT p x sp hp h0 h1 (by simpa using hb)).mono fun e w' ⟨he, hq⟩ => ⟨he, dr_only hq _, hT.dr hq⟩
  · rw [if_pos hp]; exact (set_page hT p x sp hp).mono fun e w' ⟨he, hw⟩ => ⟨he, hw ▸ Only.refl _ _, hw ▸ hT⟩

/-- The leaves are apart from the root and from one another. -/
structure TInv (xs : List Int) (root : Int) : Prop where
  ne : ∀ i, 0 ≤ i → i ≤ 3 → leafB xs root i = true → lfB xs root i ≠ root
  inj : ∀ i j, 0 ≤ i → i ≤ 3 → 0 ≤ j → j ≤ 3 → leafB xs root i = true → leafB xs root j = true → lfB xs root i = lfB xs root j → i = j
/-- A frame that is neither the root nor a leaf. -/
def Apart (xs : List Int) (root sp : Int) : Prop := sp ≠ root ∧ ∀ i, 0 ≤ i → i ≤ 3 → leafB xs root i = true → lfB xs root i ≠ sp

theorem leaf_start {xs : List Int} {root i : Int} (hr : hasB xs root = true) (i0 : 0 ≤ i) (i1 : i ≤ 3) : leafB (clr xs root) root i = false := by
  unfold leafB
  rw [wordB_clr hr hr i0 (by omega), if_pos rfl]
  rfl
theorem tinv_start {xs : List Int} {root : Int} (hr : hasB xs root = true) : TInv (clr xs root) root :=
  ⟨fun i i0 i1 h => absurd h (by rw [leaf_start hr i0 i1]; simp), fun i j i0 i1 _ _ h => absurd h (by rw [leaf_start hr i0 i1]; simp)⟩
theorem walk_none {xs : List Int} {root q : Int} (h : isPg q → leafB xs root (q / 64) = false) : walkB xs root q = 0 := by
  unfold walkB
  by_cases hq : 0 ≤ q ∧ q < 256
  · rw [h hq]; simp
  · rw [decide_eq_false hq]; simp
theorem walk_start {xs : List Int} {root q : Int} (hr : hasB xs root = true) : walkB (clr xs root) root q = 0 :=
  walk_none fun hq => leaf_start hr (by unfold isPg at hq; omega) (by unfold isPg at hq; omega)

section
variable {xs : List Int} {root p x sp : Int} (hr : hasB xs root = true) (hp : isPg p) (h0 : 0 ≤ x) (h1 : x ≤ 4294967295)
include hr hp h0 h1

section
variable (hs : hasB xs sp = true) (ha : Apart xs root sp) (hb : xs.length ≤ 1048576) (hl : leafB xs root (p / 64) = false)
include hs ha hb hl
omit hr hp h0 h1 ha hb hl in
theorem newB_len : (newB xs root p x sp).length = xs.length := (length_setW _ _ _ _).trans ((length_setW _ _ _ _).trans (length_clr hs))
omit hl in
theorem newB_root {i : Int} (i0 : 0 ≤ i) (i1 : i ≤ 3) : wordB (newB xs root p x sp) root i = if i = p / 64 then sp * 256 + 1 else wordB xs root i := by
  obtain ⟨p0, p1⟩ := hp
  have l1 := length_clr hs
  have l2 := (length_setW (clr xs sp) root (p / 64) (sp * 256 + 1)).trans l1
  have hs' := hs
  simp only [hasB, decide_eq_true_eq] at hs'
  unfold newB
  rw [wordB_setW ((hasB_len l2 _).trans hs) ((hasB_len l2 _).trans hr) (by omega) (by omega) (by omega) (by omega) h0 h1, if_neg (fun q => ha.1 q.1.symm),
    wordB_setW ((hasB_len l1 _).trans hr) ((hasB_len l1 _).trans hr) (by omega) (by omega) (by omega) (by omega) (by omega) (by omega)]
  by_cases hi : i = p / 64
  · rw [if_pos ⟨rfl, hi⟩, if_pos hi]
  · rw [if_neg (fun q => hi q.2), if_neg hi, wordB_clr hs hr i0 (by omega), if_neg (Ne.symm ha.1)]
omit hl in
theorem newB_lf {i : Int} (i0 : 0 ≤ i) (i1 : i ≤ 3) : lfB (newB xs root p x sp) root i = if i = p / 64 then sp else lfB xs root i := by
  have hs' := hs
  simp only [hasB, decide_eq_true_eq] at hs'
  unfold lfB
  rw [newB_root hr hp h0 h1 hs ha hb i0 i1]
  by_cases hi : i = p / 64
  · rw [if_pos hi, if_pos hi]; omega
  · rw [if_neg hi, if_neg hi]
omit hl in
theorem newB_leaf {i : Int} (i0 : 0 ≤ i) (i1 : i ≤ 3) : leafB (newB xs root p x sp) root i = (decide (i = p / 64) || leafB xs root i) := by
  have hs' := hs
  simp only [hasB, decide_eq_true_eq] at hs'
  have hw := newB_root hr hp h0 h1 hs ha hb i0 i1
  have hlen := newB_len (root := root) (p := p) (x := x) hs
  by_cases hi : i = p / 64
  · rw [if_pos hi] at hw
    unfold leafB
    rw [hw, hasB_len hlen, show (sp * 256 + 1) / 256 = sp by omega, hs, decide_eq_true hi, decide_eq_true (p := (sp * 256 + 1) % 256 = 1) (by omega)]
    rfl
  · rw [if_neg hi] at hw
    rw [decide_eq_false hi, Bool.false_or]
    exact leafB_len hlen hw
theorem newB_walk (hT : TInv xs root) (q : Int) : walkB (newB xs root p x sp) root q = if q = p then x else walkB xs root q := by
  have hlen := newB_len (root := root) (p := p) (x := x) hs
  by_cases hq : 0 ≤ q ∧ q < 256
  · have hlq := newB_leaf hr hp h0 h1 hs ha hb (i := q / 64) (by omega) (by omega)
    have hfq := newB_lf hr hp h0 h1 hs ha hb (i := q / 64) (by omega) (by omega)
    have l1 := length_clr hs
    have l2 := (length_setW (clr xs sp) root (p / 64) (sp * 256 + 1)).trans l1
    obtain ⟨p0, p1⟩ := hp
    have hs' := hs
    simp only [hasB, decide_eq_true_eq] at hs'
    by_cases hi : q / 64 = p / 64
    · rw [decide_eq_true hi, Bool.true_or] at hlq
      rw [if_pos hi] at hfq
      unfold walkB
      rw [hasB_len hlen, hr, decide_eq_true hq, hlq, show wordB (newB xs root p x sp) root (q / 64) / 256 = sp from hfq]
      simp only [Bool.and_self, eq_self, if_true]
      unfold newB
      rw [wordB_setW ((hasB_len l2 _).trans hs) ((hasB_len l2 _).trans hs) (by omega) (by omega) (by omega) (by omega) h0 h1]
      by_cases hqp : q = p
      · subst hqp; simp
      · rw [if_neg (by omega : ¬ (sp = sp ∧ q % 64 = p % 64)), wordB_setW ((hasB_len l1 _).trans hr) ((hasB_len l1 _).trans hs) (by omega) (by omega) (by omega) (by omega) (by omega) (by omega), if_neg (fun z => ha.1 z.1),
          wordB_clr hs hs (by omega) (by omega), if_pos rfl, if_neg hqp, hi, hl]
        simp
    · rw [decide_eq_false hi, Bool.false_or] at hlq
      rw [if_neg hi] at hfq
      have hqp : q ≠ p := fun e => hi (by rw [e])
      rw [if_neg hqp]
      unfold walkB
      rw [hasB_len hlen, hr, decide_eq_true hq, hlq, show wordB (newB xs root p x sp) root (q / 64) / 256 = lfB xs root (q / 64) from hfq]
      by_cases hlf : leafB xs root (q / 64) = true
      · have hne := hT.ne _ (by omega) (by omega) hlf
        have hns := ha.2 _ (by omega) (by omega) hlf
        have hh : hasB xs (lfB xs root (q / 64)) = true := by simp only [leafB, Bool.and_eq_true] at hlf; exact hlf.2
        rw [hlf]
        have e : wordB (newB xs root p x sp) (lfB xs root (q / 64)) (q % 64) = wordB xs (lfB xs root (q / 64)) (q % 64) := by
          unfold newB
          rw [wordB_setW ((hasB_len l2 _).trans hs) ((hasB_len l2 _).trans hh) (by omega) (by omega) (by omega) (by omega) h0 h1, if_neg (fun z => hns z.1),
            wordB_setW ((hasB_len l1 _).trans hr) ((hasB_len l1 _).trans hh) (by omega) (by omega) (by omega) (by omega) (by omega) (by omega), if_neg (fun z => hne z.1),
            wordB_clr hs hh (by omega) (by omega), if_neg hns]
        rw [e]; rfl
      · rw [(by simpa using hlf : leafB xs root (q / 64) = false)]; simp
  · have hqp : q ≠ p := fun e => hq (e ▸ hp)
    rw [if_neg hqp, walk_none (fun h => absurd h hq), walk_none (fun h => absurd h hq)]
omit hl in
theorem newB_inv (hT : TInv xs root) : TInv (newB xs root p x sp) root := by
  refine ⟨fun i i0 i1 h => ?_, fun i j i0 i1 j0 j1 hi hj he => ?_⟩
  · rw [newB_lf hr hp h0 h1 hs ha hb i0 i1]
    rw [newB_leaf hr hp h0 h1 hs ha hb i0 i1] at h
    by_cases hi : i = p / 64
    · rw [if_pos hi]; exact ha.1
    · rw [if_neg hi]; rw [decide_eq_false hi, Bool.false_or] at h; exact hT.ne i i0 i1 h
  · rw [newB_lf hr hp h0 h1 hs ha hb i0 i1, newB_lf hr hp h0 h1 hs ha hb j0 j1] at he
    rw [newB_leaf hr hp h0 h1 hs ha hb i0 i1] at hi
    rw [newB_leaf hr hp h0 h1 hs ha hb j0 j1] at hj
    by_cases hip : i = p / 64
    · by_cases hjp : j = p / 64
      · rw [hip, hjp]
      · rw [if_pos hip, if_neg hjp] at he
        rw [decide_eq_false hjp, Bool.false_or] at hj
        exact absurd he.symm (ha.2 j j0 j1 hj)
    · rw [decide_eq_false hip, Bool.false_or] at hi
      by_cases hjp : j = p / 64
      · rw [if_neg hip, if_pos hjp] at he
        exact absurd he (ha.2 i i0 i1 hi)
      · rw [if_neg hip, if_neg hjp] at he
        rw [decide_eq_false hjp, Bool.false_or] at hj
        exact hT.inj i j i0 i1 j0 j1 hi hj he
end

section
variable (hT : TInv xs root) (hl : leafB xs root (p / 64) = true)
include hT hl
theorem oldB_root {i : Int} (i0 : 0 ≤ i) (i1 : i ≤ 3) : wordB (oldB xs root p x) root i = wordB xs root i := by
  obtain ⟨p0, p1⟩ := hp
  have hh : hasB xs (lfB xs root (p / 64)) = true := by simp only [leafB, Bool.and_eq_true] at hl; exact hl.2
  unfold oldB
  rw [wordB_setW hh hr (by omega) (by omega) (by omega) (by omega) h0 h1, if_neg (fun z => hT.ne _ (by omega) (by omega) hl z.1.symm)]
theorem oldB_leaf {i : Int} (i0 : 0 ≤ i) (i1 : i ≤ 3) : leafB (oldB xs root p x) root i = leafB xs root i :=
  leafB_len (length_setW _ _ _ _) (oldB_root hr hp h0 h1 hT hl i0 i1)
theorem oldB_lf {i : Int} (i0 : 0 ≤ i) (i1 : i ≤ 3) : lfB (oldB xs root p x) root i = lfB xs root i := by
  unfold lfB; rw [oldB_root hr hp h0 h1 hT hl i0 i1]
theorem oldB_inv : TInv (oldB xs root p x) root :=
  ⟨fun i i0 i1 h => by rw [oldB_lf hr hp h0 h1 hT hl i0 i1]; rw [oldB_leaf hr hp h0 h1 hT hl i0 i1] at h; exact hT.ne i i0 i1 h,
   fun i j i0 i1 j0 j1 hi hj he => by
    rw [oldB_lf hr hp h0 h1 hT hl i0 i1, oldB_lf hr hp h0 h1 hT hl j0 j1] at he
    rw [oldB_leaf hr hp h0 h1 hT hl i0 i1] at hi
    rw [oldB_leaf hr hp h0 h1 hT hl j0 j1] at hj
    exact hT.inj i j i0 i1 j0 j1 hi hj he⟩
theorem oldB_walk (q : Int) : walkB (oldB xs root p x) root q = if q = p then x else walkB xs root q := by
  have hlen : (oldB xs root p x).length = xs.length := length_setW _ _ _ _
  by_cases hq : 0 ≤ q ∧ q < 256
  · have hlq := oldB_leaf hr hp h0 h1 hT hl (i := q / 64) (by omega) (by omega)
    have hfq := oldB_lf hr hp h0 h1 hT hl (i := q / 64) (by omega) (by omega)
    have hh : hasB xs (lfB xs root (p / 64)) = true := by simp only [leafB, Bool.and_eq_true] at hl; exact hl.2
    obtain ⟨p0, p1⟩ := hp
    unfold walkB
    rw [hasB_len hlen, hr, decide_eq_true hq, hlq, show wordB (oldB xs root p x) root (q / 64) / 256 = lfB xs root (q / 64) from hfq]
    by_cases hlf : leafB xs root (q / 64) = true
    · have hhq : hasB xs (lfB xs root (q / 64)) = true := by simp only [leafB, Bool.and_eq_true] at hlf; exact hlf.2
      rw [hlf]
      unfold oldB
      rw [wordB_setW hh hhq (by omega) (by omega) (by omega) (by omega) h0 h1]
      by_cases hqp : q = p
      · subst hqp; simp
      · simp only [Bool.and_self, eq_self, if_true]
        rw [if_neg hqp, if_neg (fun z => hqp (by have := hT.inj (q / 64) (p / 64) (by omega) (by omega) (by omega) (by omega) hlf hl z.1; omega))]; rfl
    · have hqp : q ≠ p := fun e => hlf (e ▸ hl)
      rw [if_neg hqp, (by simpa using hlf : leafB xs root (q / 64) = false)]; simp
  · have hqp : q ≠ p := fun e => hq (e ▸ hp)
    rw [if_neg hqp, walk_none (fun h => absurd h hq), walk_none (fun h => absurd h hq)]
end
end

/-- How many leaves there are. -/
def nleaf (xs : List Int) (root : Int) : Nat := (leavesTo xs root 4).length
theorem leavesTo_succ (xs : List Int) (root : Int) (k : Nat) (hk : k ≤ 3) : (leavesTo xs root (k + 1)).length = (leavesTo xs root k).length + (leafB xs root k).toNat := by
  by_cases h : leafB xs root (k : Int) = true
  · have e : (leafB xs root (k : Int)).toNat = 1 := by rw [h]; rfl
    rw [leavesTo_yes ⟨by omega, h⟩, e]; simp
  · have h' : leafB xs root (k : Int) = false := by simpa using h
    rw [leavesTo_no h', h']; simp
theorem nleaf_is (xs : List Int) (root : Int) : nleaf xs root = (leafB xs root 0).toNat + (leafB xs root 1).toNat + (leafB xs root 2).toNat + (leafB xs root 3).toNat := by
  unfold nleaf
  rw [leavesTo_succ _ _ 3 (by omega), leavesTo_succ _ _ 2 (by omega), leavesTo_succ _ _ 1 (by omega), leavesTo_succ _ _ 0 (by omega)]
  simp [leavesTo]
end Go.Proofs.Ytmlaomkofcajgaa
