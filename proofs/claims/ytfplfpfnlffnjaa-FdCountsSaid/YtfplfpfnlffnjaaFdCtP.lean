/-
  Open files (parapet/fdtab): the law FdCounts: Refs are the descriptors, plainly.
-/
import Derived.Test.YtfplfpfnlffnjaaFdCnt
namespace Go.Proofs.Ytfplfpfnlffnjaa
open Go.ChangeShapes Go.WideShapes Go.ChangeAt Go.RowKit Go.Maps
set_option linter.unusedVariables false
set_option linter.unusedSimpArgs false
theorem sum_set {β : Type} (g : β → Nat) {L : List β} {n : Nat} {p : β} (q : β) (h : L[n]? = some p) : ((L.set n q).map g).sum + g p = (L.map g).sum + g q := by
  induction L generalizing n with
  | nil => simp at h
  | cons a r ih =>
    cases n with
    | zero =>
      simp at h
      subst h
      simp only [List.set_cons_zero, List.map_cons, List.sum_cons]
      omega
    | succ n =>
      have := ih (n := n) (by simpa using h)
      simp only [List.set_cons_succ, List.map_cons, List.sum_cons]
      omega
theorem cnt_set {T : List Int} {j : Nat} {y0 : Int} (y k : Int) (h : T[j]? = some y0) : (T.set j y).count k + (if y0 = k then 1 else 0) = T.count k + if y = k then 1 else 0 := by
  induction T generalizing j with
  | nil => simp at h
  | cons a r ih =>
    cases j with
    | zero =>
      simp at h
      subst h
      simp only [List.set_cons_zero, List.count_cons, beq_iff_eq]
      omega
    | succ j =>
      have := ih (j := j) (by simpa using h)
      simp only [List.set_cons_succ, List.count_cons]
      omega
theorem nd_count {l : List Int} {k : Int} (h : l.Nodup) (hm : k ∈ l) : l.count k = 1 := by
  induction l with
  | nil => cases hm
  | cons a r ih =>
    rw [List.nodup_cons] at h
    rcases List.mem_cons.1 hm with e | e
    · subst e
      rw [List.count_cons_self, List.count_eq_zero_of_not_mem h.1]
    · have : a ≠ k := fun e2 => h.1 (e2 ▸ e)
      rw [List.count_cons_of_ne this, ih h.2 e]
theorem gb_get {T : List Int} {j : Nat} (h : j < T.length) : T[j]? = some (gb T j) := by
  simp [gb, List.getD, List.getElem?_eq_getElem h]
theorem fdsN_map {T : List Int} (n : Nat) (h : n ≤ T.length) : (fdsN T n).map (fun fd => gb T fd.toNat) = (T.take n).filter fun x => x != -1 := by
  induction n with
  | zero => simp [fdsN]
  | succ n ih =>
    rw [List.take_add_one, gb_get (by omega), Option.toList_some, List.filter_append, ← ih (by omega)]
    cases hg : (gb T n != -1)
    · rw [fdsN_no hg]
      simp [hg]
    · rw [fdsN_yes hg]
      simp [hg]
theorem namesT_count {T : List Int} (h : T.length = 16) {k : Int} (hk : k ≠ -1) : (namesT T).count k = T.count k := by
  unfold namesT
  rw [fdsN_map 16 (by omega), List.take_of_length_le (by omega)]
  exact List.count_filter (by simpa using hk)
/-- How often it is named in all tables. -/
def nmL (L : List (Nat × List Int)) (k : Int) : Nat := (L.map fun p => p.2.count k).sum
theorem namesL_count {L : List (Nat × List Int)} (h : ∀ p ∈ L, p.2.length = 16) {k : Int} (hk : k ≠ -1) : (namesL L).count k = nmL L k := by
  induction L with
  | nil => rfl
  | cons p r ih =>
    have h1 := ih (fun q hq => h q (by simp [hq]))
    have h2 := namesT_count (h p (by simp)) hk
    simp only [namesL, nmL, List.flatMap_cons, List.count_append, List.map_cons, List.sum_cons] at h1 ⊢
    omega
theorem nmL_set {L : List (Nat × List Int)} {n j : Nat} {t : Nat} {T : List Int} {y0 : Int} (y k : Int) (hn : L[n]? = some (t, T)) (hj : T[j]? = some y0) :
    nmL (L.set n (t, T.set j y)) k + (if y0 = k then 1 else 0) = nmL L k + if y = k then 1 else 0 := by
  have h1 := sum_set (fun p : Nat × List Int => p.2.count k) (t, T.set j y) hn
  have h2 := cnt_set y k hj
  unfold nmL
  dsimp only at h1
  omega
structure OkC (L : List (Nat × List Int)) (O : List (Int × F5)) : Prop where
  few : L.length ≤ 12
  named : ∀ k, k ≠ -1 → 0 < nmL L k → k ∈ O.map (·.1)
  refs : ∀ p ∈ O, p.2.refs = (nmL L p.1 : Nat) ∧ 1 ≤ p.2.refs
  ids : ∀ p ∈ O, p.1 ≠ -1
theorem OkC.okL {L : List (Nat × List Int)} {O : List (Int × F5)} (h : OkC L O) (hl : ∀ p ∈ L, p.2.length = 16) : OkL L O := by
  refine ⟨h.few, fun k hk => ?_, fun p hp => ?_⟩
  · have hk1 : k ≠ -1 := by
      unfold namesL at hk
      obtain ⟨p, hp, hk⟩ := List.mem_flatMap.1 hk
      unfold namesT at hk
      obtain ⟨fd, hfd, rfl⟩ := List.mem_map.1 hk
      obtain ⟨i, hi, rfl, hg⟩ := mem_fdsN hfd
      simpa using hg
    exact h.named k hk1 (by rw [← namesL_count hl hk1]; exact List.count_pos_iff.2 hk)
  · rw [namesL_count hl (h.ids p hp)]
    exact h.refs p hp
theorem mem_setV {O : List (Int × F5)} {k : Int} {y : F5} {p : Int × F5} (h : p ∈ setV O k y) : (p = (k, y) ∧ k ∈ O.map (·.1)) ∨ (p ∈ O ∧ p.1 ≠ k) := by
  obtain ⟨q, hq, rfl⟩ := List.mem_map.1 h
  split
  · rename_i e
    exact .inl ⟨rfl, List.mem_map.2 ⟨q, hq, e⟩⟩
  · rename_i e
    exact .inr ⟨hq, e⟩
section
variable {L : List (Nat × List Int)} {O : List (Int × F5)} {n j t : Nat} {T : List Int} {k : Int} {x : F5}
theorem OkC.open_ (h : OkC L O) (hk : k ≠ -1) (hn : k ∉ O.map (·.1)) (hx : x.refs = 1) (hL : L[n]? = some (t, T)) (hj : T[j]? = some (-1)) : OkC (L.set n (t, T.set j k)) (O ++ [(k, x)]) := by
  have h0 : nmL L k = 0 := by
    rcases Nat.eq_zero_or_pos (nmL L k) with e | e
    · exact e
    · exact absurd (h.named k hk e) hn
  refine ⟨by rw [List.length_set]; exact h.few, fun k' hk' hp => ?_, fun p hp => ?_, fun p hp => ?_⟩
  · have := nmL_set k k' hL hj
    rw [if_neg (fun e => hk' e.symm)] at this
    by_cases e : k = k'
    · subst e; simp
    · rw [if_neg e] at this
      rw [List.map_append, List.mem_append]
      exact .inl (h.named k' hk' (by omega))
  · rcases List.mem_append.1 hp with hp | hp
    · have hne : p.1 ≠ k := fun e => hn (List.mem_map.2 ⟨p, hp, e⟩)
      have := nmL_set k p.1 hL hj
      rw [if_neg (fun e => h.ids p hp e.symm), if_neg (fun e => hne e.symm)] at this
      have h2 := h.refs p hp
      rw [show nmL (L.set n (t, T.set j k)) p.1 = nmL L p.1 by omega]
      exact h2
    · rw [List.mem_singleton.1 hp]
      have := nmL_set k k hL hj
      rw [if_neg (fun e => hk e.symm), if_pos rfl, h0] at this
      dsimp only
      rw [hx]
      constructor
      · omega
      · omega
  · rcases List.mem_append.1 hp with hp | hp
    · exact h.ids p hp
    · rw [List.mem_singleton.1 hp]; exact hk
theorem OkC.dup (h : OkC L O) (hk : k ≠ -1) (hm : (k, x) ∈ O) (hL : L[n]? = some (t, T)) (hj : T[j]? = some (-1)) : OkC (L.set n (t, T.set j k)) (setV O k (incR x)) := by
  refine ⟨by rw [List.length_set]; exact h.few, fun k' hk' hp => ?_, fun p hp => ?_, fun p hp => ?_⟩
  · rw [setV_keys]
    by_cases e : k = k'
    · subst e; exact List.mem_map.2 ⟨_, hm, rfl⟩
    · have := nmL_set k k' hL hj
      rw [if_neg (fun e => hk' e.symm), if_neg e] at this
      exact h.named k' hk' (by omega)
  · rcases mem_setV hp with ⟨rfl, _⟩ | ⟨hp, hne⟩
    · have := nmL_set k k hL hj
      rw [if_neg (fun e => hk e.symm), if_pos rfl] at this
      have h2 := h.refs _ hm
      dsimp only [incR] at h2 ⊢
      omega
    · have := nmL_set k p.1 hL hj
      rw [if_neg (fun e => h.ids p hp e.symm), if_neg (fun e => hne e.symm)] at this
      rw [show nmL (L.set n (t, T.set j k)) p.1 = nmL L p.1 by omega]
      exact h.refs p hp
  · rcases mem_setV hp with ⟨rfl, _⟩ | ⟨hp, hne⟩
    · exact hk
    · exact h.ids p hp
theorem OkC.close (h : OkC L O) (hk : k ≠ -1) (hl : lookO O k = some x) (hnd : (O.map (·.1)).Nodup) (hL : L[n]? = some (t, T)) (hj : T[j]? = some k) : OkC (L.set n (t, T.set j (-1))) (dropS O k).2 ∧ (dropS O k).1.2.2 = 0 ∧ (dropS O k).2.length + (if (dropS O k).1.2.1 then 1 else 0) = O.length := by
  have hm := lookO_some hl
  have hs := fun k' => nmL_set (-1) k' hL hj
  have hrx := h.refs _ hm
  dsimp only at hrx
  by_cases e1 : x.refs = 1
  · have hd : dropS O k = ((decR x, true, 0), outV O k) := by simp [dropS, hl, e1]
    simp only [hd]
    have hlen : (outV O k).length + 1 = O.length := by
      have h1 := (O.length_eq_countP_add_countP (fun p => decide (p.1 ≠ k)))
      have h2 : O.countP (fun p => decide ¬ decide (p.1 ≠ k) = true) = 1 := by
        have : O.countP (fun p => decide ¬ decide (p.1 ≠ k) = true) = (O.map (·.1)).count k := by
          rw [List.count_eq_countP, List.countP_map]
          refine List.countP_congr fun p _ => ?_
          simp
        rw [this]
        exact nd_count hnd (List.mem_map.2 ⟨_, hm, rfl⟩)
      unfold outV
      rw [← List.countP_eq_length_filter]
      omega
    refine ⟨⟨by rw [List.length_set]; exact h.few, fun k' hk' hp => ?_, fun p hp => ?_, fun p hp => h.ids p (List.mem_filter.1 hp).1⟩, trivial, by simpa using hlen⟩
    · have := hs k'
      rw [if_neg (show ¬ (-1 : Int) = k' from fun e => hk' e.symm)] at this
      by_cases e : k = k'
      · subst e
        rw [if_pos rfl] at this
        omega
      · rw [if_neg e] at this
        obtain ⟨q, hq, e2⟩ := List.mem_map.1 (h.named k' hk' (by omega))
        exact List.mem_map.2 ⟨q, List.mem_filter.2 ⟨hq, by simpa using (fun e3 => e (by rw [← e3, e2]))⟩, e2⟩
    · obtain ⟨hp1, hp2⟩ := List.mem_filter.1 hp
      have hne : p.1 ≠ k := by simpa using hp2
      have := hs p.1
      rw [if_neg (fun e => hne e.symm), if_neg (fun e => h.ids p hp1 e.symm)] at this
      rw [show nmL (L.set n (t, T.set j (-1))) p.1 = nmL L p.1 by omega]
      exact h.refs p hp1
  · have hd : dropS O k = ((decR x, false, 0), setV O k (decR x)) := by simp [dropS, hl, e1]
    simp only [hd]
    refine ⟨⟨by rw [List.length_set]; exact h.few, fun k' hk' hp => ?_, fun p hp => ?_, fun p hp => ?_⟩, trivial, by simp [setV]⟩
    · rw [setV_keys]
      by_cases e : k = k'
      · subst e; exact List.mem_map.2 ⟨_, hm, rfl⟩
      · have := hs k'
        rw [if_neg e, if_neg (show ¬ (-1 : Int) = k' from fun e => hk' e.symm)] at this
        exact h.named k' hk' (by omega)
    · rcases mem_setV hp with ⟨rfl, _⟩ | ⟨hp, hne⟩
      · have := hs k
        rw [if_pos rfl, if_neg (fun e => hk e.symm)] at this
        dsimp only [decR]
        omega
      · have := hs p.1
        rw [if_neg (fun e => hne e.symm), if_neg (fun e => h.ids p hp e.symm)] at this
        rw [show nmL (L.set n (t, T.set j (-1))) p.1 = nmL L p.1 by omega]
        exact h.refs p hp
    · rcases mem_setV hp with ⟨rfl, _⟩ | ⟨hp, hne⟩
      · exact hk
      · exact h.ids p hp
theorem mem_shares {ns : List Int} {O : List (Int × F5)} {p : Int × F5} (h : p ∈ ns.foldl shareO O) : ∃ x, (p.1, x) ∈ O ∧ p.2.refs = x.refs + (ns.count p.1 : Nat) := by
  induction ns generalizing O with
  | nil => exact ⟨p.2, h, by simp⟩
  | cons a r ih =>
    obtain ⟨x, hx, e⟩ := ih (O := shareO O a) h
    obtain ⟨q, hq, e2⟩ := List.mem_map.1 hx
    split at e2
    · rename_i e3
      injection e2 with e4 e5
      refine ⟨q.2, by rw [← e4, ← e3]; exact hq, ?_⟩
      rw [e, ← e5, e4.symm, List.count_cons_self]
      dsimp only
      omega
    · rename_i e3
      subst e2
      refine ⟨x, hq, ?_⟩
      rw [e, List.count_cons_of_ne (fun e4 => e3 e4.symm)]
theorem shares_keys (ns : List Int) (O : List (Int × F5)) : (ns.foldl shareO O).map (·.1) = O.map (·.1) := by
  induction ns generalizing O with
  | nil => rfl
  | cons a r ih => rw [List.foldl_cons, ih, shareO_keys]
theorem OkC.fork (h : OkC L O) (hl : L.length < 12) (hL : L[n]? = some (t, T)) (hT : T.length = 16) (t' : Nat) : OkC (L ++ [(t', T)]) (forkN O T 16) := by
  have hnm : ∀ k, nmL (L ++ [(t', T)]) k = nmL L k + T.count k := fun k => by simp [nmL]
  have hle : ∀ k, T.count k ≤ nmL L k := fun k => by
    have := sum_set (fun p : Nat × List Int => p.2.count k) (t, []) hL
    dsimp only at this
    unfold nmL
    simp only [List.count_nil] at this
    omega
  unfold forkN
  rw [List.take_of_length_le (by omega)]
  refine ⟨by simp; omega, fun k hk hp => ?_, fun p hp => ?_, fun p hp => ?_⟩
  · rw [shares_keys]
    have := hle k
    rw [hnm] at hp
    exact h.named k hk (by omega)
  · obtain ⟨x, hx, e⟩ := mem_shares hp
    have := h.refs _ hx
    dsimp only at this
    rw [hnm]
    omega
  · obtain ⟨x, hx, e⟩ := mem_shares hp
    exact h.ids (p.1, x) hx
theorem OkC.move (h : OkC L O) (k a : Int) : OkC L (moveS O k a).2 := by
  unfold moveS
  cases hl : lookO O k with
  | none => exact h
  | some x =>
    dsimp only
    split
    · exact h
    · refine ⟨h.few, fun k' hk' hp => by rw [setV_keys]; exact h.named k' hk' hp, fun p hp => ?_, fun p hp => ?_⟩
      · rcases mem_setV hp with ⟨rfl, _⟩ | ⟨hp, _⟩
        · exact h.refs (k, x) (lookO_some hl)
        · exact h.refs p hp
      · rcases mem_setV hp with ⟨rfl, _⟩ | ⟨hp, _⟩
        · exact h.ids (k, x) (lookO_some hl)
        · exact h.ids p hp
theorem moveS_len (O : List (Int × F5)) (k a : Int) : (moveS O k a).2.length = O.length := by
  unfold moveS
  split
  · rfl
  · split <;> simp [setV]
end
end Go.Proofs.Ytfplfpfnlffnjaa
