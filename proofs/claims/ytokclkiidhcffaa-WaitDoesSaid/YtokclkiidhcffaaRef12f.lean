/-
  The document's sleepers (parapetref12): both tell the same behind each call.
-/
import Derived.Test.YtokclkiidhcffaaRef12e
namespace Go.Proofs.Ytokclkiidhcffaa
open Go.ChangeShapes Go.WideShapes Go.ChangeAt Go.RowKit Go.Maps
set_option linter.unusedVariables false
theorem RelW.empty : RelW ([], []) [] := ⟨OkW.empty, fun x => by simp [atL], by simp, fun c => by simp [slpR, atL]⟩
theorem slpR_app (R R' : List SE) (c : CH) : slpR (R ++ R') c = slpR R c ++ slpR R' c := by simp [slpR]
theorem slp_seatsFrom (t : Int) (c : CH) : ∀ (l : List CH) (k : Nat), l.Nodup → slpR (seatsFrom t l k) c = if c ∈ l then [t] else []
  | [], k, _ => by simp [seatsFrom, slpR]
  | x :: r, k, hn => by
    rw [List.nodup_cons] at hn
    have ih := slp_seatsFrom t c r (k + 1) hn.2
    show slpR ([⟨t, x, (k : Int)⟩] ++ seatsFrom t r (k + 1)) c = _
    rw [slpR_app, ih]
    by_cases h : x = c
    · subst h
      rw [if_neg hn.1, if_pos (by simp)]
      simp [slpR]
    · rw [show slpR [⟨t, x, (k : Int)⟩] c = [] by simp [slpR, h]]
      have : c ∈ x :: r ↔ c ∈ r := by simp [Ne.symm h]
      simp [this]
theorem seatsFrom_nodup (t : Int) : ∀ (l : List CH) (k : Nat), (seatsFrom t l k).Nodup
  | [], k => by simp [seatsFrom]
  | x :: r, k => by
    show ((⟨t, x, (k : Int)⟩ : SE) :: seatsFrom t r (k + 1)).Nodup
    rw [List.nodup_cons]
    refine ⟨fun hm => ?_, seatsFrom_nodup t r (k + 1)⟩
    obtain ⟨_, n, hn, _⟩ := (mem_seatsFrom t r (k + 1)).1 hm
    have hn : (k : Int) = ((k + 1 + n : Nat) : Int) := hn
    omega
theorem sleepE_zero {s : LW} {t : Int} {l : List CH} (h : sleepE s t l = 0) : ¬ t < 1 ∧ l ≠ [] ∧ l.length ≤ 16 ∧ l.Nodup ∧ t ∉ s.1.map (·.1) ∧ s.1.length ≠ 64 := by
  unfold sleepE at h
  split at h
  · cases h
  · rename_i h1
    split at h
    · cases h
    · rename_i h2
      split at h
      · cases h
      · rename_i h3
        refine ⟨fun e => h1 (.inl e), fun e => h1 (.inr (.inl e)), ?_, ?_, h2, h3⟩
        · rcases Nat.lt_or_ge 16 l.length with e | e
          · exact absurd (.inr (.inr (.inl e))) h1
          · exact e
        · exact Decidable.byContradiction fun e => h1 (.inr (.inr (.inr e)))
theorem RelW.sleep {s : LW} {R : List SE} (h : RelW s R) (t : Int) (l : List CH) : RelW (sleepS s t l) (sleepRf s R t l) := by
  unfold sleepS sleepRf
  by_cases hE : sleepE s t l = 0
  · rw [if_pos hE, if_pos hE]
    obtain ⟨h1, h2, h3, h4, h5, h6⟩ := sleepE_zero hE
    have ho := h.ok.sleep h5 h2 h3 h4 (by have := h.ok.few; omega)
    refine ⟨ho, fun x => ?_, ?_, fun c => ?_⟩
    · show x ∈ R ++ seatsOf t l ↔ ∃ n : Nat, x.nth = n ∧ (atL (s.1 ++ [(t, l)]) x.tid)[n]? = some x.on
      rw [List.mem_append, h.at_, show x ∈ seatsOf t l ↔ _ from mem_seatsFrom t l 0]
      by_cases e : x.tid = t
      · rw [e, atL_new_same l h5]
        constructor
        · rintro (⟨n, _, hn⟩ | ⟨_, n, hn, hc⟩)
          · rw [atL_none h5] at hn; simp at hn
          · exact ⟨n, by rw [hn]; congr 1; omega, hc⟩
        · rintro ⟨n, hn, hc⟩
          exact .inr ⟨rfl, n, by rw [hn]; congr 1; omega, hc⟩
      · rw [atL_new_far l e]
        constructor
        · rintro (h | ⟨h, _⟩)
          · exact h
          · exact absurd h e
        · exact fun h => .inl h
    · refine List.nodup_append.2 ⟨h.nd, seatsFrom_nodup t l 0, fun a ha b hb e => ?_⟩
      subst e
      obtain ⟨ht, _⟩ := (mem_seatsFrom t l 0).1 hb
      exact h5 ((tid_mem h t).1 ⟨a, ha, ht⟩)
    · show slpR (R ++ seatsOf t l) c = atL (comeAll s.2 l t) c
      rw [slpR_app, h.ord, atL_comeAll c l h4, show slpR (seatsOf t l) c = _ from slp_seatsFrom t c l 0 h4]
      split <;> simp
  · rw [if_neg hE, if_neg hE]
    exact h
theorem filter_map_erase {t : Int} {c : CH} : ∀ {R : List SE}, (slpR R c).Nodup → slpR (canR R t) c = (slpR R c).erase t
  | [], _ => by simp [slpR, canR]
  | x :: r, hn => by
    have e1 : slpR (x :: r) c = slpR [x] c ++ slpR r c := slpR_app [x] r c
    have e2 : slpR (canR (x :: r) t) c = slpR (canR [x] t) c ++ slpR (canR r t) c := by
      rw [← slpR_app]
      congr 1
      simp [canR, List.filter_cons]
      split <;> simp
    rw [e1] at hn
    have hn2 := (List.nodup_append.1 hn).2.1
    have ih := filter_map_erase (t := t) hn2
    rw [e1, e2, ih]
    by_cases hc : x.on = c
    · have e3 : slpR [x] c = [x.tid] := by simp [slpR, hc]
      rw [e3] at hn ⊢
      by_cases ht : x.tid = t
      · rw [show slpR (canR [x] t) c = [] by simp [canR, ht, slpR]]
        subst ht
        rw [List.nil_append, List.singleton_append, List.erase_cons_head]
        refine List.erase_of_not_mem fun hm => ?_
        have := (List.nodup_append.1 hn).2.2 x.tid (by simp) x.tid hm
        exact this rfl
      · rw [show slpR (canR [x] t) c = [x.tid] by simp [canR, ht, slpR, hc], List.singleton_append, List.singleton_append, List.erase_cons_tail (by simpa using ht)]
    · rw [show slpR [x] c = [] by simp [slpR, hc], show slpR (canR [x] t) c = [] by simp [canR, List.filter_cons]; split <;> simp [slpR, hc]]
      simp
theorem RelW.cancel {s : LW} {R : List SE} (h : RelW s R) (t : Int) : RelW (offS s t) (canR R t) := by
  refine ⟨h.ok.cancel t, fun x => ?_, ?_, fun c => ?_⟩
  · show x ∈ canR R t ↔ ∃ n : Nat, x.nth = n ∧ (atL (outL s.1 t) x.tid)[n]? = some x.on
    unfold canR
    rw [List.mem_filter, h.at_]
    simp only [decide_eq_true_eq]
    by_cases e : x.tid = t
    · rw [e, atL_out_same]
      simp
    · rw [atL_out_far e]
      simp [e]
  · exact List.Nodup.sublist List.filter_sublist h.nd
  · show slpR (canR R t) c = atL (leaveAll s.2 (atL s.1 t) t) c
    rw [filter_map_erase (by rw [h.ord]; exact h.ok.nd2 c), h.ord, atL_leaveAll c _ (h.ok.nd1 t)]
    by_cases hc : c ∈ atL s.1 t
    · rw [if_pos hc]
    · rw [if_neg hc]
      exact List.erase_of_not_mem fun hm => hc ((h.ok.both t c).2 hm)
theorem RelW.cancelAll : ∀ (ts : List Int) {s : LW} {R : List SE}, RelW s R → RelW (offAll s ts) (canAll R ts)
  | [], s, R, h => h
  | t :: r, s, R, h => RelW.cancelAll r (h.cancel t)
theorem can_less {s : LW} {R : List SE} (h : RelW s R) (t : Int) : decide ((canR R t).length < R.length) = decide (t ∈ s.1.map (·.1)) := by
  congr 1
  rw [← tid_mem h t, eq_iff_iff]
  constructor
  · intro hl
    refine Classical.byContradiction fun hn => ?_
    have : canR R t = R := by
      unfold canR
      rw [List.filter_eq_self]
      intro x hx
      simp only [decide_eq_true_eq]
      exact fun e => hn ⟨x, hx, e⟩
    rw [this] at hl
    omega
  · rintro ⟨x, hx, e⟩
    unfold canR
    exact List.length_filter_lt_length_iff_exists.2 ⟨x, hx, by simpa using e⟩
end Go.Proofs.Ytokclkiidhcffaa
