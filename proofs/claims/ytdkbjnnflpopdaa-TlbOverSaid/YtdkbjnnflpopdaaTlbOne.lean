/-
  Translations (parapet/tlb): one shootdown, from its begin to its end.
-/
import Derived.Test.YtdkbjnnflpopdaaTlbHandAny
namespace Go.Proofs.Ytdkbjnnflpopdaa
open Go.ChangeShapes Go.WideShapes Go.ChangeAt Go.RowKit Go.Maps
set_option linter.unusedVariables false

/-- The open ones, when only number 1 may be, and these have not acknowledged. -/
def openO (sp : Int) (L : List Int) : List (Int × Sh) := if L = [] then [] else [(1, (sp, marks L))]
theorem beginO_one (sp : Int) (L : List Int) : beginO [] 1 sp L = openO sp L := by unfold beginO openO; simp
theorem marks_at (L : List Int) {h : Nat} (hh : h < 8) : (marks L).getD h false = decide ((h : Int) ∈ L) := by
  unfold marks
  rw [List.getD_eq_getElem?_getD]
  simp [List.getElem?_range hh]
theorem marks_drop (L : List Int) (h : Nat) : (marks L).set h false = marks (L.filter fun x => decide (x ≠ (h : Int))) := by
  refine List.ext_getElem (by simp [marks]) fun i h1 h2 => ?_
  by_cases e : h = i
  · subst e
    simp [marks]
  · rw [List.getElem_set_ne e]
    simp only [marks, List.getElem_map, List.getElem_range]
    rw [decide_eq_decide]
    simp only [List.mem_filter, decide_eq_true_eq]
    constructor
    · exact fun hm => ⟨hm, by omega⟩
    · exact fun hm => hm.1
theorem marks_any {L : List Int} (hb : ∀ x ∈ L, 0 ≤ x ∧ x < 8) : (marks L).any (fun b => b) = true ↔ L ≠ [] := by
  constructor
  · intro h e
    subst e
    rw [marks_nil] at h
    simp at h
  · intro h
    obtain ⟨x, hx⟩ := List.exists_mem_of_ne_nil L h
    have := hb x hx
    obtain ⟨j, rfl⟩ := Int.eq_ofNat_of_zero_le this.1
    rw [List.any_eq_true]
    refine ⟨true, ?_, rfl⟩
    unfold marks
    exact List.mem_map.2 ⟨j, List.mem_range.2 (by omega), decide_eq_true hx⟩
theorem pend_open (sp : Int) (L : List Int) {h : Nat} (hh : h < 8) : pend (openO sp L) h = if (h : Int) ∈ L then [1] else [] := by
  unfold openO pend
  by_cases e : L = []
  · subst e; simp
  · rw [if_neg e]
    by_cases hm : (h : Int) ∈ L
    · rw [if_pos hm, List.filter_cons]
      simp only [marks_at L hh, decide_eq_true hm]
      rfl
    · rw [if_neg hm, List.filter_cons]
      simp only [marks_at L hh, decide_eq_false hm]
      rfl
theorem handL_open (sp : Int) {L : List Int} (hb : ∀ x ∈ L, 0 ≤ x ∧ x < 8) {h : Nat} (hm : (h : Int) ∈ L) (l : List (K2 × K2)) :
    handL h [1] l (openO sp L) = (notSp sp l, openO sp (L.filter fun x => decide (x ≠ (h : Int)))) := by
  have hne : L ≠ [] := fun e => by subst e; simp at hm
  have e1 : openO sp L = [(1, (sp, marks L))] := if_neg hne
  rw [e1]
  simp only [handL, List.find?_cons, decide_true]
  rw [marks_drop]
  have hb2 : ∀ x ∈ (L.filter fun x => decide (x ≠ (h : Int))), 0 ≤ x ∧ x < 8 := fun x hx => hb x (List.mem_filter.1 hx).1
  refine Prod.ext rfl ?_
  show clr _ _ _ = openO sp _
  unfold clr openO
  by_cases e : (L.filter fun x => decide (x ≠ (h : Int))) = []
  · rw [if_pos e, if_neg (fun hh => (marks_any hb2).1 hh e)]
    simp [outV]
  · rw [if_neg e, if_pos ((marks_any hb2).2 e)]
    simp [setV]
theorem sortK_one' (x : Int) : sortK [x] = [x] := List.perm_singleton.1 (sortK_perm [x])
theorem sortK_nil' : sortK [] = [] := List.perm_nil.1 (sortK_perm [])
/-- What harts keep, when one has handled. -/
def lsH (ls : Nat → List (K2 × K2)) (sp : Int) (L : List Int) (h : Int) : Nat → List (K2 × K2) := if h ∈ L then updF ls h.toNat (notSp sp (ls h.toNat)) else ls
section
variable {w w' : World} {t hb ob n size : Nat} {begun : Int} {bs : Nat → Nat} {ls : Nat → List (K2 × K2)} {nx : Nat → Int} {O : List (Int × Sh)} {S F : List Nat}
theorem bPending_bad (T : IsTlb w t hb ob n size begun bs ls nx O) (h : Int) (hh : ¬ (0 ≤ h ∧ h < n)) :
    Calls Try.prog 15 #[.pointer (some ⟨t, 0, none⟩), .int .i64 h] w fun e w' => e = .returned (.slice none 0 0) ∧ Only [] w w' := by
  have HH := hide (show Calls Try.prog 32 #[.pointer (some ⟨t, 0, none⟩), .int .i64 h] w fun e w' => e = .returned (.bool false) ∧ w = w' from by
    have := bhas_is T h
    rwa [decide_eq_false hh] at this)
  clear T hh
  go_enter Try.func15, Try.ntmps15
  go_wp2_with (go_at_call 32; refine HH.out.mono ?_; rintro e w' ⟨rfl, rfl⟩)
  go_ret
  exact ⟨rfl, Only.refl _ _⟩

theorem bHandle_bad (T : IsTlb w t hb ob n size begun bs ls nx O) (h : Int) (hh : ¬ (0 ≤ h ∧ h < n)) :
    Calls Try.prog 17 #[.pointer (some ⟨t, 0, none⟩), .int .i64 h] w fun e w' => e = .returned (.int .i64 0) ∧ Only [] w w' := by
  have HP := hide (bPending_bad T h hh)
  clear T hh
  go_enter Try.func17, Try.ntmps17
  go_wp2_with (go_at_call 15; refine HP.out.mono ?_; rintro e w' ⟨rfl, ho⟩; have HO := hide ho; clear ho)
  refine wp_loop_rounds 1 ?_
  rw [rounds_succ]
  go_wp2
  go_ret
  exact ⟨rfl, HO.out⟩

theorem bHandle_any {sp : Int} {L : List Int} (T : IsTlb w t hb ob n size begun bs ls nx (openO sp L)) (hL : okT n L) (hF : ob ∈ F ∧ ∀ j, j < n → bs j ∈ F) (h : Int) :
    Calls Try.prog 17 #[.pointer (some ⟨t, 0, none⟩), .int .i64 h] w fun e w' => (∃ x, e = .returned (.int .i64 x)) ∧ IsTlb w' t hb ob n size begun bs (lsH ls sp L h) nx (openO sp (L.filter fun x => decide (x ≠ h))) ∧ Only F w w' := by
  have hn1 := T.n1
  have hb8 : ∀ x ∈ L, 0 ≤ x ∧ x < 8 := fun x hx => by have := hL.2 x hx; omega
  have hfar : h ∉ L → L.filter (fun x => decide (x ≠ h)) = L := fun hm => by
    rw [List.filter_eq_self]
    intro x hx
    simp only [decide_eq_true_eq]
    exact fun e => hm (e ▸ hx)
  by_cases hh : 0 ≤ h ∧ h < n
  · obtain ⟨j, rfl⟩ := Int.eq_ofNat_of_zero_le hh.1
    have hj : j < n := by omega
    refine (bHandle_is T j hj (by unfold openO; split <;> simp)).mono ?_
    rintro e w' ⟨rfl, T', ho⟩
    refine ⟨⟨_, rfl⟩, ?_, ho.mono (by intro q _ hq; simp at hq; rcases hq with rfl | rfl <;> first | exact hF.2 j hj | exact hF.1)⟩
    rw [pend_open sp L (by omega)] at T'
    unfold lsH
    by_cases hm : (j : Int) ∈ L
    · rw [if_pos hm] at T' ⊢
      rw [sortK_one', handL_open sp hb8 hm] at T'
      exact T'
    · rw [if_neg hm] at T' ⊢
      rw [sortK_nil', handL, updF_self] at T'
      rw [hfar hm]
      exact T'
  · have hm : h ∉ L := fun hx => hh (hL.2 h hx)
    refine (bHandle_bad T h hh).mono ?_
    rintro e w' ⟨rfl, ho⟩
    unfold lsH
    rw [if_neg hm, hfar hm]
    exact ⟨⟨_, rfl⟩, T.new ho, ho.mono (by simp)⟩
end
end Go.Proofs.Ytdkbjnnflpopdaa
