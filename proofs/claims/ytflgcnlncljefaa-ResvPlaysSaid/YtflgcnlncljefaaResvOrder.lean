/-
  The gate's law 'ResvOrder': those inside stand ahead of those that wait, and the first that waits does not fit.
-/
import Derived.Test.YtflgcnlncljefaaResvNever
namespace Go.Proofs.Ytflgcnlncljefaa
open Go.ChangeShapes Go.WideShapes Go.ChangeAt Go.RowKit Go.Deep
set_option linter.unusedVariables false

def Flags (ins wts : List ST) : Prop := (∀ s ∈ ins, s.waits = false) ∧ ∀ s ∈ wts, s.waits = true
def Shape (H L : Int) (ss : List ST) : Prop := ∃ ins wts, ss = ins ++ wts ∧ Flags ins wts ∧ ∀ t r, wts = t :: r → H - L - resvL ins < t.bound
def anyW (ss : List ST) : Bool := ss.any fun s => s.waits

theorem admitGo_in (H L : Int) : ∀ (ins wts : List ST) (R : Int), (∀ s ∈ ins, s.waits = false) → (admitGo H L R (ins ++ wts)).2 = (ins ++ (admitGo H L R wts).2.1, (admitGo H L R wts).2.2)
  | [], wts, R, _ => rfl
  | s :: r, wts, R, h => by
    have hs := h s (by simp)
    have ih := admitGo_in H L r wts R (fun x hx => h x (by simp [hx]))
    rw [List.cons_append, admitGo, if_neg (by rw [hs]; simp)]
    simp only []
    rw [ih]
    rfl
theorem resvL_wait : ∀ {wts : List ST}, (∀ s ∈ wts, s.waits = true) → resvL wts = 0
  | [], _ => rfl
  | s :: r, h => by
    have hs := h s (by simp)
    have ih : resvL r = 0 := resvL_wait fun x hx => h x (List.mem_cons_of_mem _ hx)
    simp [resvL, hs, ih]
theorem adm_wait (H L : Int) : ∀ (wts ins : List ST) (R : Int), R = resvL ins → Flags ins wts → Shape H L (ins ++ (admitGo H L R wts).2.1)
  | [], ins, R, hR, hf => ⟨ins, [], rfl, hf, fun t r h => by cases h⟩
  | t :: r, ins, R, hR, hf => by
    have ht := hf.2 t (by simp)
    rw [admitGo, if_pos ht]
    split
    · rename_i hn
      exact ⟨ins, t :: r, rfl, hf, fun t' r' h => by injection h with h1 h2; subst h1; rw [← hR]; exact hn⟩
    · have := adm_wait H L r (ins ++ [{ t with waits := false }]) (R + t.bound) (by rw [resvL_append, hR]; simp [resvL]) ⟨fun x hx => by
        rcases List.mem_append.1 hx with hx | hx
        · exact hf.1 x hx
        · simp at hx; rw [hx], fun x hx => hf.2 x (by simp [hx])⟩
      simp only [List.append_assoc, List.singleton_append] at this
      exact this
theorem adm_shape (H L : Int) {ins wts : List ST} (hf : Flags ins wts) : Shape H L (admS H L (ins ++ wts)).1 := by
  unfold admS
  rw [resvL_append, resvL_wait hf.2, Int.add_zero, admitGo_in H L ins wts _ hf.1]
  exact adm_wait H L wts ins _ rfl hf
theorem anyW_append (a b : List ST) : anyW (a ++ b) = (anyW a || anyW b) := by simp [anyW]
theorem anyW_ins {ins : List ST} (h : ∀ s ∈ ins, s.waits = false) : anyW ins = false := by
  simp only [anyW, List.any_eq_false]
  intro x hx
  rw [h x hx]; simp

/-- One comes: it is let in only if nobody waits; then somebody waits if it is not. -/
theorem enter_order {H : Int} {s : GS} {id b : Int} (hs : Shape H s.L s.ss) (he : (enterF H s id b).2.1 = 0) :
    ((enterF H s id b).1 = true → anyW s.ss = false) ∧ anyW (enterF H s id b).2.2.ss = (anyW s.ss || !(enterF H s id b).1) ∧ Shape H s.L (enterF H s id b).2.2.ss ∧ (enterF H s id b).2.2.L = s.L ∧ (enterF H s id b).2.2.ss.map ST.id = s.ss.map ST.id ++ [id] := by
  have key : (enterF H s id b) = (decide (0 < (admS H s.L (s.ss ++ [⟨id, b, 0, true⟩])).2.length), 0, ⟨s.L, (admS H s.L (s.ss ++ [⟨id, b, 0, true⟩])).1⟩) := by
    unfold enterF at he ⊢
    by_cases h1 : b < 0
    · rw [if_pos h1] at he; simp at he
    · by_cases h2 : 0 ≤ atI s.ss id
      · rw [if_neg h1, if_pos h2] at he; simp at he
      · by_cases h3 : H < b
        · rw [if_neg h1, if_neg h2, if_pos h3] at he; simp at he
        · by_cases h4 : s.ss.length = 64
          · rw [if_neg h1, if_neg h2, if_neg h3, if_pos h4] at he; simp at he
          · rw [if_neg h1, if_neg h2, if_neg h3, if_neg h4]
  rw [key]
  simp only []
  obtain ⟨ins, wts, e, hf, hfit⟩ := hs
  have hf2 : Flags ins (wts ++ [⟨id, b, 0, true⟩]) := ⟨hf.1, fun x hx => by
    rcases List.mem_append.1 hx with hx | hx
    · exact hf.2 x hx
    · simp at hx; rw [hx]⟩
  have hids : (admS H s.L (s.ss ++ [⟨id, b, 0, true⟩])).1.map ST.id = s.ss.map ST.id ++ [id] := by rw [admS_ids]; simp
  have hsh : Shape H s.L (admS H s.L (s.ss ++ [⟨id, b, 0, true⟩])).1 := by
    rw [e, List.append_assoc]
    exact adm_shape H s.L hf2
  cases wts with
  | cons t r =>
    have ht := hf.2 t (by simp)
    have hn := hfit t r rfl
    have hadm : admS H s.L (s.ss ++ [⟨id, b, 0, true⟩]) = (s.ss ++ [⟨id, b, 0, true⟩], []) := by
      unfold admS
      rw [e, List.append_assoc, resvL_append, resvL_wait hf2.2, Int.add_zero, admitGo_in H s.L ins _ _ hf.1, List.cons_append, admitGo, if_pos ht, if_pos hn]
    have hw : anyW s.ss = true := by rw [e, anyW_append]; simp [anyW, ht]
    rw [hadm] at hids hsh ⊢
    refine ⟨by simp, ?_, hsh, trivial, hids⟩
    rw [anyW_append, hw]
    simp
  | nil =>
    have e2 : s.ss = ins := by rw [e, List.append_nil]
    have hw : anyW s.ss = false := by rw [e2]; exact anyW_ins hf.1
    have hadm : admS H s.L (s.ss ++ [⟨id, b, 0, true⟩]) = if H - s.L - resvL ins < b then (ins ++ [⟨id, b, 0, true⟩], []) else (ins ++ [⟨id, b, 0, false⟩], [id]) := by
      unfold admS
      rw [e2, resvL_append, resvL_wait (wts := [⟨id, b, 0, true⟩]) (by simp), Int.add_zero, admitGo_in H s.L ins _ _ hf.1, admitGo]
      simp only [if_true]
      split
      · rfl
      · rfl
    refine ⟨fun _ => hw, ?_, hsh, trivial, hids⟩
    rw [hadm, hw]
    split
    · simp [anyW]
    · rw [anyW_append, anyW_ins hf.1]; simp [anyW]

/-- The ids rise, behind a number. -/
def Rises (last : Int) (ids : List Int) : Prop := (last :: ids).Pairwise (· < ·)
theorem rises_snoc {a : Int} {ids : List Int} {x : Int} (h : Rises a ids) (hx : ∀ y ∈ a :: ids, y < x) : Rises a (ids ++ [x]) := by
  unfold Rises at *
  rw [← List.cons_append]
  exact List.pairwise_append.2 ⟨h, by simp, fun y hy z hz => by simp at hz; rw [hz]; exact hx y hy⟩

theorem enter_err {H : Int} {s : GS} {id b : Int} (he : (enterF H s id b).2.1 ≠ 0) (hat : atI s.ss id < 0) (hl : s.ss.length ≠ 64) : (enterF H s id b).2.2 = s ∧ (b < 0 ∨ H < b) := by
  unfold enterF at he ⊢
  by_cases h1 : b < 0
  · rw [if_pos h1]; exact ⟨rfl, .inl h1⟩
  · by_cases h3 : H < b
    · rw [if_neg h1, if_neg (by omega), if_pos h3]; exact ⟨rfl, .inr h3⟩
    · rw [if_neg h1, if_neg (by omega), if_neg h3, if_neg hl] at he
      simp at he
/-- The first one's turn to leave. -/
theorem order_head {H : Int} {t : ST} {r : List ST} (hok : GS.ok H ⟨0, t :: r⟩) (hs : Shape H 0 (t :: r)) : t.waits = false ∧ Shape H 0 (admS H 0 r).1 := by
  obtain ⟨ins, wts, e, hf, hfit⟩ := hs
  cases ins with
  | nil =>
    have e2 : wts = t :: r := by simpa using e.symm
    have h1 := hfit t r e2
    have h2 := hok.seat t (by simp)
    simp [resvL] at h1
    omega
  | cons t' ins' =>
    injection e with e1 e2
    subst e1
    refine ⟨hf.1 t (by simp), ?_⟩
    rw [e2]
    exact adm_shape H 0 ⟨fun x hx => hf.1 x (by simp [hx]), hf.2⟩
end Go.Proofs.Ytflgcnlncljefaa
