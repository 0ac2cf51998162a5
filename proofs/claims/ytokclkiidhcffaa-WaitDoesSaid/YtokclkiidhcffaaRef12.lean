/-
  The document's sleepers (parapetref12): seats as a plain list; how they tell what the two lists tell.
-/
import Derived.Test.YtokclkiidhcffaaSeApp
import Derived.Test.YtokclkiidhcffaaWqAll
namespace Go.Proofs.Ytokclkiidhcffaa
open Go.ChangeShapes Go.WideShapes Go.ChangeAt Go.RowKit Go.Maps
set_option linter.unusedVariables false

def slpR (R : List SE) (c : CH) : List Int := (R.filter fun x => decide (x.on = c)).map (·.tid)
def onN (R : List SE) (t : Int) (n : Nat) : List CH := (R.filter fun x => decide (x.tid = t ∧ x.nth = (n : Int))).map (·.on)
def onR (R : List SE) (t : Int) : List CH := (List.range 16).flatMap fun n => onN R t n
def insR (out : List Int) (t : Int) : List Int :=
  if out[(out.takeWhile fun x => decide (x < t)).length]? = some t then out else out.take (out.takeWhile fun x => decide (x < t)).length ++ t :: out.drop (out.takeWhile fun x => decide (x < t)).length
def allR (R : List SE) : List Int := R.foldl (fun out x => insR out x.tid) []
/-- Both tell the same. -/
structure RelW (s : LW) (R : List SE) : Prop where
  ok : OkW s.1 s.2
  at_ : ∀ x : SE, x ∈ R ↔ ∃ n : Nat, x.nth = n ∧ (atL s.1 x.tid)[n]? = some x.on
  nd : R.Nodup
  ord : ∀ c, slpR R c = atL s.2 c
theorem filter_one {α : Type} [DecidableEq α] {p : α → Bool} {x : α} : ∀ {l : List α}, l.Nodup → x ∈ l → (∀ y ∈ l, p y = true ↔ y = x) → l.filter p = [x]
  | [], _, h, _ => by cases h
  | a :: r, hn, hx, hp => by
    rw [List.nodup_cons] at hn
    by_cases e : a = x
    · subst e
      have h1 : p a = true := (hp a (by simp)).2 rfl
      rw [List.filter_cons_of_pos h1]
      congr 1
      rw [List.filter_eq_nil_iff]
      intro y hy h2
      have := (hp y (by simp [hy])).1 h2
      subst this
      exact hn.1 hy
    · have h1 : ¬ p a = true := fun h => e ((hp a (by simp)).1 h)
      rw [List.filter_cons_of_neg h1]
      rcases List.mem_cons.1 hx with h | h
      · exact absurd h.symm e
      · exact filter_one hn.2 h (fun y hy => hp y (by simp [hy]))
theorem onN_is {s : LW} {R : List SE} (h : RelW s R) (t : Int) (n : Nat) : onN R t n = ((atL s.1 t)[n]?).toList := by
  unfold onN
  cases hc : (atL s.1 t)[n]? with
  | none =>
    rw [List.filter_eq_nil_iff.2]
    · rfl
    · intro x hx hp
      simp only [decide_eq_true_eq] at hp
      obtain ⟨k, hk, hk2⟩ := (h.at_ x).1 hx
      rw [hp.1] at hk2
      have : k = n := by have := hp.2; omega
      rw [this, hc] at hk2
      cases hk2
  | some c =>
    rw [filter_one (x := ⟨t, c, n⟩) h.nd ((h.at_ _).2 ⟨n, rfl, hc⟩)]
    · rfl
    · intro y hy
      simp only [decide_eq_true_eq]
      constructor
      · intro hp
        obtain ⟨k, hk, hk2⟩ := (h.at_ y).1 hy
        rw [hp.1] at hk2
        have : k = n := by have := hp.2; omega
        rw [this, hc] at hk2
        injection hk2 with hk2
        obtain ⟨a, b, d⟩ := y
        simp only at hp hk2
        rw [hp.1, hp.2, hk2]
      · rintro rfl
        exact ⟨rfl, rfl⟩
theorem range_get {α : Type} (l : List α) : ∀ N : Nat, ((List.range N).flatMap fun n => (l[n]?).toList) = l.take N
  | 0 => by simp
  | N + 1 => by rw [List.range_succ, List.flatMap_append, range_get l N, List.take_add_one]; simp
theorem onR_is {s : LW} {R : List SE} (h : RelW s R) (t : Int) : onR R t = atL s.1 t := by
  unfold onR
  rw [show (fun n => onN R t n) = fun n => ((atL s.1 t)[n]?).toList from funext fun n => onN_is h t n, range_get, List.take_of_length_le]
  by_cases he : atL s.1 t = []
  · rw [he]; simp
  · obtain ⟨p, hp, rfl⟩ := List.mem_map.1 (mem_atL he)
    rw [atL_of_mem h.ok.k1 hp]
    exact h.ok.on16 p hp
theorem tid_mem {s : LW} {R : List SE} (h : RelW s R) (t : Int) : (∃ x ∈ R, x.tid = t) ↔ t ∈ s.1.map (·.1) := by
  constructor
  · rintro ⟨x, hx, rfl⟩
    obtain ⟨n, _, hn⟩ := (h.at_ x).1 hx
    exact mem_atL (fun e => by rw [e] at hn; simp at hn)
  · intro ht
    have hne := at1_ne h.ok ht
    obtain ⟨c, r, hc⟩ := List.exists_cons_of_ne_nil hne
    exact ⟨⟨t, c, 0⟩, (h.at_ _).2 ⟨0, rfl, by rw [hc]; rfl⟩, rfl⟩
theorem takeWhile_lt {out : List Int} (hs : out.Pairwise (· < ·)) (t : Int) : (∀ x ∈ out.take (out.takeWhile fun x => decide (x < t)).length, x < t) ∧ ∀ x ∈ out.drop (out.takeWhile fun x => decide (x < t)).length, t ≤ x := by
  induction out with
  | nil => simp
  | cons a r ih =>
    rw [List.pairwise_cons] at hs
    by_cases h : a < t
    · rw [List.takeWhile_cons_of_pos (by simpa using h)]
      simp only [List.length_cons, List.take_succ_cons, List.drop_succ_cons]
      refine ⟨fun x hx => ?_, (ih hs.2).2⟩
      rcases List.mem_cons.1 hx with rfl | hx
      · exact h
      · exact (ih hs.2).1 x hx
    · rw [List.takeWhile_cons_of_neg (by simpa using h)]
      simp only [List.length_nil, List.take_zero, List.drop_zero]
      refine ⟨by simp, fun x hx => ?_⟩
      rcases List.mem_cons.1 hx with rfl | hx
      · omega
      · have := hs.1 x hx; omega
theorem insR_sorted {out : List Int} (hs : out.Pairwise (· < ·)) (t : Int) : (insR out t).Pairwise (· < ·) ∧ ∀ x, x ∈ insR out t ↔ x ∈ out ∨ x = t := by
  obtain ⟨h1, h2⟩ := takeWhile_lt hs t
  have hsp : out = out.take (out.takeWhile fun x => decide (x < t)).length ++ out.drop (out.takeWhile fun x => decide (x < t)).length := (List.take_append_drop _ _).symm
  unfold insR
  generalize hk : (out.takeWhile fun x => decide (x < t)).length = k at *
  split
  · rename_i he
    refine ⟨hs, fun x => ⟨fun h => .inl h, fun h => ?_⟩⟩
    rcases h with h | rfl
    · exact h
    · exact List.mem_of_getElem? he
  · rename_i he
    have h3 : ∀ x ∈ out.drop k, t < x := fun x hx => by
      have := h2 x hx
      rcases Int.lt_or_eq_of_le this with h | h
      · exact h
      · exfalso
        subst h
        rw [hsp] at hs
        rw [List.pairwise_append] at hs
        cases hd : out.drop k with
        | nil => rw [hd] at hx; cases hx
        | cons y r =>
          have hy : out[k]? = some y := by
            have := congrArg (·[0]?) hd
            simpa using this
          have hyt : t ≤ y := h2 y (by rw [hd]; simp)
          rw [hd] at hx hs
          rcases List.mem_cons.1 hx with e | hx
          · subst e; exact he hy
          · have := (List.pairwise_cons.1 hs.2.1).1 t hx
            omega
    refine ⟨?_, fun x => ?_⟩
    · rw [List.pairwise_append, List.pairwise_cons]
      rw [hsp, List.pairwise_append] at hs
      exact ⟨hs.1, ⟨h3, hs.2.1⟩, fun a ha b hb => by
        rcases List.mem_cons.1 hb with rfl | hb
        · exact h1 a ha
        · exact hs.2.2 a ha b hb⟩
    · rw [List.mem_append, List.mem_cons]
      have : x ∈ out ↔ x ∈ out.take k ∨ x ∈ out.drop k := by
        conv => lhs; rw [hsp]
        exact List.mem_append
      rw [this]
      constructor
      · rintro (h | h | h)
        · exact .inl (.inl h)
        · exact .inr h
        · exact .inl (.inr h)
      · rintro ((h | h) | h)
        · exact .inl h
        · exact .inr (.inr h)
        · exact .inr (.inl h)
theorem allR_sorted (R : List SE) : (allR R).Pairwise (· < ·) ∧ ∀ t, t ∈ allR R ↔ ∃ x ∈ R, x.tid = t := by
  unfold allR
  suffices H : ∀ (R : List SE) (out : List Int), out.Pairwise (· < ·) → (R.foldl (fun out x => insR out x.tid) out).Pairwise (· < ·) ∧ ∀ t, t ∈ R.foldl (fun out x => insR out x.tid) out ↔ t ∈ out ∨ ∃ x ∈ R, x.tid = t by
    have := H R [] List.Pairwise.nil
    exact ⟨this.1, fun t => by rw [this.2]; simp⟩
  intro R
  induction R with
  | nil => intro out h; exact ⟨h, fun t => by simp⟩
  | cons x r ih =>
    intro out h
    obtain ⟨h1, h2⟩ := insR_sorted h x.tid
    obtain ⟨h3, h4⟩ := ih _ h1
    refine ⟨h3, fun t => ?_⟩
    rw [List.foldl_cons, h4, h2]
    simp only [List.mem_cons, exists_eq_or_imp]
    constructor
    · rintro ((h | h) | h)
      · exact .inl h
      · exact .inr (.inl h.symm)
      · exact .inr (.inr h)
    · rintro (h | h | h)
      · exact .inl (.inl h)
      · exact .inl (.inr h.symm)
      · exact .inr h
theorem allR_is {s : LW} {R : List SE} (h : RelW s R) : sort12 (s.1.map (·.1)) = allR R := by
  obtain ⟨h1, h2⟩ := allR_sorted R
  have hp : (sort12 (s.1.map (·.1))).Perm (allR R) := by
    refine (List.perm_ext_iff_of_nodup ?_ ?_).2 fun t => ?_
    · exact (List.mergeSort_perm _ _).nodup_iff.2 h.ok.k1
    · exact h1.imp fun h => by omega
    · rw [mem_sort12, h2, tid_mem h]
  refine List.Perm.eq_of_pairwise (le := fun a b => decide (a ≤ b) = true) (fun a b _ _ h1 h2 => ?_) ?_ ?_ hp
  · simp only [decide_eq_true_eq] at h1 h2
    omega
  · exact List.pairwise_mergeSort (fun a b c h1 h2 => by simp only [decide_eq_true_eq] at *; omega) (fun a b => by simp only [Bool.or_eq_true, decide_eq_true_eq]; omega) _
  · exact h1.imp fun h => by simp only [decide_eq_true_eq]; omega
theorem nodup_sub_length {α : Type} [DecidableEq α] : ∀ (a b : List α), a.Nodup → (∀ x ∈ a, x ∈ b) → a.length ≤ b.length
  | [], b, _, _ => Nat.zero_le _
  | x :: r, b, hn, h => by
    rw [List.nodup_cons] at hn
    have hx : x ∈ b := h x (by simp)
    have h1 := nodup_sub_length r (b.erase x) hn.2 (fun y hy => by
      have hne : y ≠ x := fun e => hn.1 (by rw [← e]; exact hy)
      exact (List.mem_erase_of_ne hne).2 (h y (by simp [hy])))
    rw [List.length_erase_of_mem hx] at h1
    have := List.length_pos_of_mem hx
    simp only [List.length_cons]
    omega
theorem seats_few {s : LW} {R : List SE} (h : RelW s R) : R.length ≤ 1024 := by
  have h1 : R.length ≤ (s.1.flatMap fun p => (List.range 16).filterMap fun (n : Nat) => (p.2[n]?).map fun c => (⟨p.1, c, (n : Int)⟩ : SE)).length := by
    refine nodup_sub_length _ _ h.nd fun x hx => ?_
    obtain ⟨n, hn, hc⟩ := (h.at_ x).1 hx
    obtain ⟨p, hp, he⟩ := List.mem_map.1 (mem_atL (L := s.1) (k := x.tid) (fun e => by rw [e] at hc; simp at hc))
    rw [List.mem_flatMap]
    refine ⟨p, hp, List.mem_filterMap.2 ⟨n, ?_, ?_⟩⟩
    · have h16 := h.ok.on16 p hp
      rw [← he, atL_of_mem h.ok.k1 hp] at hc
      have := (List.getElem?_eq_some_iff.1 hc).1
      exact List.mem_range.2 (by omega)
    · rw [← he, atL_of_mem h.ok.k1 hp] at hc
      rw [hc]
      obtain ⟨a, b, d⟩ := x
      simp only at he hn
      simp [he, hn]
  have h2 : ∀ l : List (Int × List CH), (l.flatMap fun p => (List.range 16).filterMap fun (n : Nat) => (p.2[n]?).map fun c => (⟨p.1, c, (n : Int)⟩ : SE)).length ≤ l.length * 16 := by
    intro l
    induction l with
    | nil => simp
    | cons p r ih =>
      rw [List.flatMap_cons, List.length_append, List.length_cons]
      have := List.length_filterMap_le (fun (n : Nat) => (p.2[n]?).map fun c => (⟨p.1, c, (n : Int)⟩ : SE)) (List.range 16)
      rw [List.length_range] at this
      omega
  have := h2 s.1
  have := h.ok.few
  omega
end Go.Proofs.Ytokclkiidhcffaa
