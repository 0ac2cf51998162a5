/-
  Buffers (parapet/buf): what a cache holds, as a list in order: plain facts, and how they meet the map and the order.
-/
import Derived.Test.YtenpifamklnkmaaBuRef
namespace Go.Proofs.Ytenpifamklnkmaa
open Go.ChangeShapes Go.WideShapes Go.ChangeAt Go.RowKit Go.Maps
set_option linter.unusedVariables false

/-- A block that is kept: its number, its bytes, is it dirty? -/
structure VB where
  n : Int
  d : List Int
  y : Bool
/-- The same, and where its bytes lie. -/
structure BK where
  n : Int
  b : Nat
  r : List Value
  d : List Int
  y : Bool
def BK.v (x : BK) : VB := ⟨x.n, x.d, x.y⟩
def BK.bv (x : BK) : BV := (some ⟨x.b, 512, 512 + x.r.length⟩, x.y)
def BK.pr (x : BK) : Int × BV := (x.n, x.bv)
def nsK (L : List BK) : List Int := L.map (·.n)
def prK (L : List BK) : List (Int × BV) := L.map BK.pr

def keysV (L : List VB) : List Int := L.map (·.n)
def dropV (L : List VB) (n : Int) : List VB := L.filter fun x => decide (x.n ≠ n)
/-- The first clean one is given up where there is no room. -/
def evV (room : Nat) (L : List VB) : List VB := if L.length = room then (match L.find? (fun x => !x.y) with | some x => dropV L x.n | none => L) else L
def putV (room : Nat) (L : List VB) (x : VB) : List VB := if x.n ∈ keysV L then dropV L x.n ++ [x] else evV room L ++ [x]
def refV (N room : Nat) (L : List VB) (n : Int) : Int := if n < 0 ∨ (N : Int) ≤ n then 20 else if n ∈ keysV L ∨ L.length < room ∨ L.any (fun x => !x.y) = true then 0 else 150

theorem keys_v (L : List BK) : keysV (L.map BK.v) = nsK L := by simp [keysV, nsK, BK.v]
theorem keys_pr (L : List BK) : (prK L).map (·.1) = nsK L := by simp [prK, nsK, BK.pr]

section
variable {L : List BK} {x : BK} {i : Nat}
theorem nsK_get (h : L[i]? = some x) : (nsK L)[i]? = some x.n := by simp [nsK, h]
theorem nsK_erase : nsK (L.eraseIdx i) = (nsK L).eraseIdx i := by
  unfold nsK
  rw [List.eraseIdx_eq_take_drop_succ, List.eraseIdx_eq_take_drop_succ, List.map_append, List.map_take, List.map_drop]
theorem nd_uniq (hn : (nsK L).Nodup) {x y : BK} (hx : x ∈ L) (hy : y ∈ L) (e : x.n = y.n) : x = y := by
  obtain ⟨i, hi, rfl⟩ := List.getElem_of_mem hx
  obtain ⟨j, hj, rfl⟩ := List.getElem_of_mem hy
  have : i = j := (List.getElem_inj (xs := nsK L) (h₀ := by simpa [nsK] using hi) (h₁ := by simpa [nsK] using hj) hn).1 (by simpa [nsK] using e)
  subst this
  rfl
theorem erase_filter (hn : (nsK L).Nodup) (h : L[i]? = some x) : L.eraseIdx i = L.filter fun y => decide (y.n ≠ x.n) := by
  obtain ⟨hi, hx⟩ := List.getElem?_eq_some_iff.1 h
  have hs : L = L.take i ++ x :: L.drop (i + 1) := by rw [← hx, List.getElem_cons_drop, List.take_append_drop]
  rw [List.eraseIdx_eq_take_drop_succ]
  have hn2 := hn
  rw [hs] at hn2
  simp only [nsK, List.map_append, List.map_cons] at hn2
  obtain ⟨h1, h2, h3⟩ := List.nodup_append.1 hn2
  obtain ⟨h4, h5⟩ := List.nodup_cons.1 h2
  conv => rhs; rw [hs]
  rw [List.filter_append, List.filter_cons, if_neg (by simp)]
  congr 1
  · rw [List.filter_eq_self.2]
    intro y hy
    simp only [ne_eq, decide_eq_true_eq]
    exact fun e => h3 _ (List.mem_map.2 ⟨y, hy, rfl⟩) _ (by simp) e
  · rw [List.filter_eq_self.2]
    intro y hy
    simp only [ne_eq, decide_eq_true_eq]
    exact fun e => h4 (List.mem_map.2 ⟨y, hy, e⟩)
theorem drop_v (hn : (nsK L).Nodup) (h : L[i]? = some x) : (L.eraseIdx i).map BK.v = dropV (L.map BK.v) x.n := by
  rw [erase_filter hn h]
  unfold dropV
  rw [List.filter_map]
  rfl
theorem out_pr (hn : (nsK L).Nodup) (h : L[i]? = some x) : outV (prK L) x.n = prK (L.eraseIdx i) := by
  rw [erase_filter hn h]
  unfold outV prK
  rw [List.filter_map]
  rfl
theorem put_old (hn : (nsK L).Nodup) (h : L[i]? = some x) (y : BK) (hy : y.n = x.n) : (prK (L.eraseIdx i ++ [y])).Perm (putO (prK L) y.n y.bv) := by
  obtain ⟨hi, hx⟩ := List.getElem?_eq_some_iff.1 h
  have hs : L = L.take i ++ x :: L.drop (i + 1) := by rw [← hx, List.getElem_cons_drop, List.take_append_drop]
  have hn2 := hn
  rw [hs] at hn2
  simp only [nsK, List.map_append, List.map_cons] at hn2
  obtain ⟨h1, h2, h3⟩ := List.nodup_append.1 hn2
  obtain ⟨h4, h5⟩ := List.nodup_cons.1 h2
  have hm : y.n ∈ (prK L).map (·.1) := by
    rw [keys_pr, hy]
    exact List.mem_map.2 ⟨x, List.mem_of_getElem? h, rfl⟩
  unfold putO
  rw [if_pos hm]
  have e : setV (prK L) y.n y.bv = prK (L.take i) ++ y.pr :: prK (L.drop (i + 1)) := by
    conv => lhs; rw [hs]
    unfold setV prK
    rw [List.map_map, List.map_append, List.map_cons]
    congr 1
    · refine List.map_congr_left fun z hz => ?_
      show (if z.n = y.n then _ else _) = _
      rw [if_neg (fun e => h3 _ (List.mem_map.2 ⟨z, hz, rfl⟩) _ (by simp) (e.trans hy))]
    · congr 1
      · show (if x.n = y.n then _ else _) = _
        rw [if_pos hy.symm]
        rfl
      · refine List.map_congr_left fun z hz => ?_
        show (if z.n = y.n then _ else _) = _
        rw [if_neg (fun e => h4 (List.mem_map.2 ⟨z, hz, e.trans hy⟩))]
  rw [e, List.eraseIdx_eq_take_drop_succ]
  unfold prK
  rw [List.map_append, List.map_append]
  exact (List.perm_append_singleton _ _).trans List.perm_middle.symm
theorem put_new (y : BK) (hy : y.n ∉ nsK L) : putO (prK L) y.n y.bv = prK (L ++ [y]) := by
  unfold putO
  rw [if_neg (by rw [keys_pr]; exact hy)]
  simp [prK, BK.pr]
/-- What 'clean' says, by the numbers. -/
def clK (L : List BK) (t : Int) : Bool := match L.find? (fun x => decide (x.n = t)) with | some x => !x.y | none => false
theorem clK_at (hn : (nsK L).Nodup) (hx : x ∈ L) : clK L x.n = !x.y := by
  unfold clK
  cases hf : L.find? (fun z => decide (z.n = x.n)) with
  | none =>
    have := List.find?_eq_none.1 hf x hx
    simp at this
  | some z =>
    have h1 := List.mem_of_find?_eq_some hf
    have h2 := List.find?_some hf
    rw [nd_uniq hn h1 hx (by simpa using h2)]
theorem clOn (hn : (nsK L).Nodup) : ClOn (clK L) (prK L) (nsK L) := by
  intro t ht
  obtain ⟨x, hx, rfl⟩ := List.mem_map.1 ht
  exact ⟨x.bv, List.mem_map.2 ⟨x, hx, rfl⟩, clK_at hn hx⟩
theorem any_cl (hn : (nsK L).Nodup) : (nsK L).any (clK L) = (L.map BK.v).any (fun x => !x.y) := by
  unfold nsK
  rw [List.any_map, List.any_map]
  have : ∀ M : List BK, (∀ x ∈ M, x ∈ L) → M.any (clK L ∘ fun x => x.n) = M.any ((fun x => !x.y) ∘ BK.v) := by
    intro M
    induction M with
    | nil => intro _; rfl
    | cons z M ih =>
      intro h
      rw [List.any_cons, List.any_cons, ih (fun x hx => h x (by simp [hx]))]
      congr 1
      exact clK_at hn (h z (by simp))
  exact this L (fun x h => h)
theorem ref_v {N room : Nat} (hn : (nsK L).Nodup) (n : Int) : refE N room (nsK L) (clK L) n = refV N room (L.map BK.v) n := by
  unfold refE refV
  rw [any_cl hn, keys_v]
  have : (nsK L).length = (L.map BK.v).length := by simp [nsK]
  rw [this]
  by_cases h : n < 0 ∨ (N : Int) ≤ n
  · rw [if_pos h, if_pos h]
  · rw [if_neg h, if_neg h]
    have e : (((L.map BK.v).length : Int) < room) ↔ (L.map BK.v).length < room := by omega
    simp only [e]
/-- The first clean one. -/
theorem first_clean (hn : (nsK L).Nodup) (ha : (L.map BK.v).any (fun x => !x.y) = true) : ∃ (i : Nat) (x : BK), L[i]? = some x ∧ x.y = false ∧ (∀ (j : Nat) (s : Int), j < i → (nsK L)[j]? = some s → clK L s = false) ∧ (L.map BK.v).find? (fun x => !x.y) = some x.v := by
  have h1 : ∃ x ∈ L, (!x.y) = true := by
    obtain ⟨z, hz, e⟩ := List.any_eq_true.1 ha
    obtain ⟨x, hx, rfl⟩ := List.mem_map.1 hz
    exact ⟨x, hx, e⟩
  cases hF : L.findIdx? (fun x => !x.y) with
  | none =>
    rw [List.findIdx?_eq_none_iff] at hF
    obtain ⟨x, hx, e⟩ := h1
    have := hF x hx
    simp [e] at this
  | some i =>
    have hF' := hF
    rw [List.findIdx?_eq_some_iff_getElem] at hF
    obtain ⟨hi, h1, h2⟩ := hF
    refine ⟨i, L[i], List.getElem?_eq_getElem hi, by simpa using h1, fun j s hj hs => ?_, ?_⟩
    · have hjl : j < L.length := by omega
      have e : (nsK L)[j]? = some L[j].n := nsK_get (List.getElem?_eq_getElem hjl)
      rw [e] at hs
      injection hs with hs
      rw [← hs, clK_at hn (List.getElem_mem hjl)]
      have := h2 j hj
      simpa using this
    · rw [List.find?_map]
      have : L.find? ((fun x => !x.y) ∘ BK.v) = some L[i] := by
        rw [List.find?_eq_some_iff_getElem]
        refine ⟨h1, i, hi, rfl, fun j hj => ?_⟩
        have := h2 j hj
        simpa [BK.v] using this
      rw [this]
      rfl
end
theorem keys_put {room : Nat} {L : List VB} {x : VB} (hn : (keysV L).Nodup) : (keysV (putV room L x)).Nodup := by
  have hd : ∀ (M : List VB) n, (keysV M).Nodup → (keysV (dropV M n)).Nodup := fun M n h => List.Sublist.nodup (List.Sublist.map _ List.filter_sublist) h
  have hdn : ∀ (M : List VB) n, n ∉ keysV (dropV M n) := fun M n h => by
    obtain ⟨y, hy, e⟩ := List.mem_map.1 h
    simp [dropV] at hy
    exact hy.2 e
  have hsub : ∀ (M : List VB) n t, t ∈ keysV (dropV M n) → t ∈ keysV M := fun M n t h => by
    obtain ⟨y, hy, e⟩ := List.mem_map.1 h
    simp [dropV] at hy
    exact List.mem_map.2 ⟨y, hy.1, e⟩
  have happ : ∀ (M : List VB), (keysV M).Nodup → x.n ∉ keysV M → (keysV (M ++ [x])).Nodup := fun M h1 h2 => by
    unfold keysV
    rw [List.map_append]
    refine List.nodup_append.2 ⟨h1, by simp, fun a ha b hb e => ?_⟩
    simp at hb
    subst hb; subst e
    exact h2 ha
  unfold putV
  by_cases hm : x.n ∈ keysV L
  · rw [if_pos hm]
    exact happ _ (hd _ _ hn) (hdn _ _)
  · rw [if_neg hm]
    unfold evV
    by_cases hl : L.length = room
    · rw [if_pos hl]
      cases L.find? (fun x => !x.y) with
      | none => exact happ _ hn hm
      | some z => exact happ _ (hd _ _ hn) (fun h => hm (hsub _ _ _ h))
    · rw [if_neg hl]
      exact happ _ hn hm
end Go.Proofs.Ytenpifamklnkmaa
