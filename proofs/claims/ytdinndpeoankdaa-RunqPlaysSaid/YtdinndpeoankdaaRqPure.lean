/-
  The run queues (parapet/runq), plainly: what each call tells and leaves (putF, wakeF, nextF, tickF, sleepF, removeF), and what is always so (OkQ: a thread is in one place, and the map says where).
-/
import Derived.Test.YtdinndpeoankdaaRqDo
namespace Go.Proofs.Ytdinndpeoankdaa
open Go.ChangeShapes Go.WideShapes Go.ChangeAt Go.RowKit Go.Maps
set_option linter.unusedVariables false

theorem nodup_sub : ∀ (l m : List Int), l.Nodup → (∀ x ∈ l, x ∈ m) → l.length ≤ m.length
  | [], m, _, _ => by simp
  | x :: l, m, hd, hs => by
    rw [List.nodup_cons] at hd
    have h1 := nodup_sub l (m.erase x) hd.2 fun y hy => by
      refine (List.mem_erase_of_ne ?_).2 (hs y (by simp [hy]))
      rintro rfl
      exact hd.1 hy
    have hm := hs x (by simp)
    have h2 := List.length_erase_of_mem hm
    have h3 := List.length_pos_of_mem hm
    simp only [List.length_cons]
    omega
/-- A thread is at a hart. -/
def atQ (s : RQ) (t : Int) (h : Nat) : Prop := 1 ≤ t ∧ (s.r h = t ∨ t ∈ s.n h)
abbrev keysQ (s : RQ) : List Int := s.O.map (·.1)
structure OkQ (s : RQ) : Prop where
  h1 : 1 ≤ s.H
  h8 : s.H ≤ 8
  out : ∀ h, s.H ≤ h → s.r h = 0 ∧ s.n h = []
  wr : ∀ h, 0 ≤ s.r h ∧ iW (s.r h)
  wn : ∀ h t, t ∈ s.n h → 1 ≤ t ∧ iW t
  keys : ∀ t k, (t, k) ∈ s.O ↔ ∃ h : Nat, k = h ∧ atQ s t h
  nd : ∀ h, (s.n h).Nodup
  dis : ∀ h, s.r h ∉ s.n h
  uniq : ∀ t h h', atQ s t h → atQ s t h' → h = h'
  ond : (keysQ s).Nodup
  few : s.O.length ≤ 64
theorem iW_le {x : Int} (h0 : -9223372036854775808 ≤ x) (h1 : x ≤ 9223372036854775807) : iW x := by
  have e1 : IntKind.i64.min = -9223372036854775808 := by decide
  have e2 : IntKind.i64.max = 9223372036854775807 := by decide
  simp only [iW, Lit.wf, e1, e2, Bool.and_eq_true, decide_eq_true_eq]
  omega
theorem mem_setV {O : List (Int × Int)} {x v : Int} {p : Int × Int} : p ∈ setV O x v ↔ (p ∈ O ∧ p.1 ≠ x) ∨ (p = (x, v) ∧ x ∈ O.map (·.1)) := by
  unfold setV
  rw [List.mem_map]
  constructor
  · rintro ⟨q, hq, e⟩
    split at e
    · rename_i h
      exact .inr ⟨e.symm, List.mem_map.2 ⟨q, hq, h⟩⟩
    · rename_i h
      exact .inl ⟨e ▸ hq, e ▸ h⟩
  · rintro (⟨hp, hne⟩ | ⟨rfl, hk⟩)
    · exact ⟨p, hp, if_neg hne⟩
    · obtain ⟨q, hq, e⟩ := List.mem_map.1 hk
      exact ⟨q, hq, if_pos e⟩
theorem mem_outV {O : List (Int × Int)} {x : Int} {p : Int × Int} : p ∈ outV O x ↔ p ∈ O ∧ p.1 ≠ x := by simp [outV]
theorem outV_keys {O : List (Int × Int)} {x : Int} : (outV O x).map (·.1) = (O.map (·.1)).filter (fun y => decide (y ≠ x)) := by
  unfold outV
  rw [List.filter_map]
  rfl

section
variable {s : RQ}
theorem OkQ.key (h : OkQ s) {t : Int} : t ∈ keysQ s ↔ ∃ k, atQ s t k := by
  constructor
  · intro hm
    obtain ⟨p, hp, e⟩ := List.mem_map.1 hm
    obtain ⟨k, _, ha⟩ := (h.keys p.1 p.2).1 hp
    exact ⟨k, e ▸ ha⟩
  · rintro ⟨k, ha⟩
    exact List.mem_map.2 ⟨_, (h.keys t k).2 ⟨k, rfl, ha⟩, rfl⟩
theorem OkQ.lt (h : OkQ s) {t : Int} {k : Nat} (ha : atQ s t k) : k < s.H := by
  rcases Nat.lt_or_ge k s.H with hl | hg
  · exact hl
  · obtain ⟨e1, e2⟩ := h.out k hg
    obtain ⟨h1, h2⟩ := ha
    rw [e1, e2] at h2
    rcases h2 with h2 | h2
    · omega
    · cases h2
theorem OkQ.small (h : OkQ s) : SmallQ s := ⟨h.h1, h.h8, fun k _ => Nat.le_trans (by
  have := nodup_sub (s.n k) (keysQ s) (h.nd k) fun x hx => h.key.2 ⟨k, (h.wn k x hx).1, .inr hx⟩
  simpa using this) h.few⟩
theorem at_empty {n : Nat} {t : Int} {k : Nat} : ¬ atQ (emptyQ n) t k := by
  rintro ⟨h1, h2⟩
  rcases h2 with h2 | h2
  · have h3 : (0 : Int) = t := h2
    omega
  · cases h2
theorem OkQ.empty {n : Nat} (h : 1 ≤ n ∧ n ≤ 8) : OkQ (emptyQ n) where
  h1 := h.1
  h8 := h.2
  out _ _ := ⟨rfl, rfl⟩
  wr _ := ⟨Int.le_refl _, (by decide : iW 0)⟩
  wn _ t ht := by cases ht
  keys t k := ⟨fun h => (by cases h), fun h => by obtain ⟨q, _, ha⟩ := h; exact absurd ha at_empty⟩
  nd _ := List.nodup_nil
  dis _ := fun h => by cases h
  uniq t a b ha _ := absurd ha at_empty
  ond := List.nodup_nil
  few := Nat.zero_le _

/-- Put. -/
def putS (s : RQ) (h : Nat) (t : Int) : RQ := { s with n := upd s.n h (s.n h ++ [t]), O := s.O ++ [(t, (h : Int))] }
theorem at_put {h : Nat} {t : Int} (ht : 1 ≤ t) {x : Int} {k : Nat} : atQ (putS s h t) x k ↔ atQ s x k ∨ (x = t ∧ k = h) := by
  unfold atQ putS
  by_cases e : k = h
  · subst e
    simp only [upd_same, List.mem_append, List.mem_singleton]
    constructor
    · rintro ⟨h1, h2 | h2 | h2⟩
      · exact .inl ⟨h1, .inl h2⟩
      · exact .inl ⟨h1, .inr h2⟩
      · exact .inr ⟨h2, trivial⟩
    · rintro (⟨h1, h2 | h2⟩ | ⟨rfl, _⟩)
      · exact ⟨h1, .inl h2⟩
      · exact ⟨h1, .inr (.inl h2)⟩
      · exact ⟨ht, .inr (.inr rfl)⟩
  · simp only [upd_far _ _ e, e, and_false, or_false]
theorem OkQ.put (o : OkQ s) {h : Nat} (hh : h < s.H) {t : Int} (ht : 1 ≤ t) (hw : iW t) (hn : t ∉ keysQ s) (hl : s.O.length < 64) : OkQ (putS s h t) := by
  have hno : ∀ k, ¬ atQ s t k := fun k ha => hn (o.key.2 ⟨k, ha⟩)
  refine ⟨o.h1, o.h8, fun k hk => ?_, o.wr, fun k x hx => ?_, fun x k => ?_, fun k => ?_, fun k => ?_, fun x a b ha hb => ?_, ?_, ?_⟩
  · have hk' : s.H ≤ k := hk
    obtain ⟨e1, e2⟩ := o.out k hk'
    refine ⟨e1, ?_⟩
    show upd s.n h _ k = []
    rw [upd_far _ _ (by omega)]
    exact e2
  · have hx' : x ∈ upd s.n h (s.n h ++ [t]) k := hx
    by_cases e : k = h
    · subst e
      rw [upd_same] at hx'
      rcases List.mem_append.1 hx' with hx' | hx'
      · exact o.wn k x hx'
      · rw [List.mem_singleton.1 hx']; exact ⟨ht, hw⟩
    · rw [upd_far _ _ e] at hx'
      exact o.wn k x hx'
  · show (x, k) ∈ s.O ++ [(t, (h : Int))] ↔ _
    rw [List.mem_append, List.mem_singleton, o.keys]
    constructor
    · rintro (⟨q, e, ha⟩ | e)
      · exact ⟨q, e, (at_put ht).2 (.inl ha)⟩
      · injection e with e1 e2
        exact ⟨h, e2, (at_put ht).2 (.inr ⟨e1, rfl⟩)⟩
    · rintro ⟨q, e, ha⟩
      rcases (at_put ht).1 ha with ha | ⟨e1, e2⟩
      · exact .inl ⟨q, e, ha⟩
      · subst e1; subst e2; exact .inr (by rw [e])
  · show (upd s.n h (s.n h ++ [t]) k).Nodup
    by_cases e : k = h
    · subst e
      rw [upd_same, List.nodup_append]
      refine ⟨o.nd k, by simp, fun a ha b hb e => ?_⟩
      rw [List.mem_singleton.1 hb] at e
      exact hno k ⟨ht, .inr (e ▸ ha)⟩
    · rw [upd_far _ _ e]; exact o.nd k
  · show s.r k ∉ upd s.n h (s.n h ++ [t]) k
    by_cases e : k = h
    · subst e
      rw [upd_same]
      intro hm
      rcases List.mem_append.1 hm with hm | hm
      · exact o.dis k hm
      · exact hno k ⟨ht, .inl (List.mem_singleton.1 hm)⟩
    · rw [upd_far _ _ e]; exact o.dis k
  · rcases (at_put ht).1 ha with ha | ⟨e1, e2⟩
    · rcases (at_put ht).1 hb with hb | ⟨e3, e4⟩
      · exact o.uniq x a b ha hb
      · rw [e3] at ha; exact absurd ha (hno a)
    · rcases (at_put ht).1 hb with hb | ⟨e3, e4⟩
      · rw [e1] at hb; exact absurd hb (hno b)
      · rw [e2, e4]
  · show ((s.O ++ [(t, (h : Int))]).map (·.1)).Nodup
    rw [List.map_append, List.nodup_append]
    refine ⟨o.ond, by simp, fun a ha b hb e => ?_⟩
    simp at hb
    rw [hb] at e
    exact hn (e ▸ ha)
  · show (s.O ++ [(t, (h : Int))]).length ≤ 64
    simp; omega

/-- Tick, when there is something to be done. -/
def tickS (s : RQ) (h : Nat) : RQ := { s with r := upd s.r h 0, n := upd s.n h (s.n h ++ [s.r h]) }
theorem at_tick {h : Nat} (hr : s.r h ≠ 0) {x : Int} {k : Nat} : atQ (tickS s h) x k ↔ atQ s x k := by
  unfold atQ tickS
  by_cases e : k = h
  · subst e
    simp only [upd_same, List.mem_append, List.mem_singleton]
    constructor
    · rintro ⟨h1, h2 | h2 | h2⟩
      · omega
      · exact ⟨h1, .inr h2⟩
      · exact ⟨h1, .inl h2.symm⟩
    · rintro ⟨h1, h2 | h2⟩
      · exact ⟨h1, .inr (.inr h2.symm)⟩
      · exact ⟨h1, .inr (.inl h2)⟩
  · simp only [upd_far _ _ e]
theorem OkQ.tick (o : OkQ s) {h : Nat} (hh : h < s.H) (hr : s.r h ≠ 0) : OkQ (tickS s h) := by
  refine ⟨o.h1, o.h8, fun k hk => ?_, fun k => ?_, fun k x hx => ?_, fun x k => ?_, fun k => ?_, fun k => ?_, fun x a b ha hb => o.uniq x a b ((at_tick hr).1 ha) ((at_tick hr).1 hb), o.ond, o.few⟩
  · have hk' : s.H ≤ k := hk
    obtain ⟨e1, e2⟩ := o.out k hk'
    refine ⟨?_, ?_⟩
    · show upd s.r h 0 k = 0
      rw [upd_far _ _ (by omega)]; exact e1
    · show upd s.n h _ k = []
      rw [upd_far _ _ (by omega)]; exact e2
  · show 0 ≤ upd s.r h 0 k ∧ iW (upd s.r h 0 k)
    by_cases e : k = h
    · subst e; rw [upd_same]; exact ⟨Int.le_refl _, iW_le (by decide) (by decide)⟩
    · rw [upd_far _ _ e]; exact o.wr k
  · have hx' : x ∈ upd s.n h (s.n h ++ [s.r h]) k := hx
    by_cases e : k = h
    · subst e
      rw [upd_same] at hx'
      rcases List.mem_append.1 hx' with hx' | hx'
      · exact o.wn k x hx'
      · rw [List.mem_singleton.1 hx']
        have := o.wr k
        exact ⟨by omega, this.2⟩
    · rw [upd_far _ _ e] at hx'
      exact o.wn k x hx'
  · show (x, k) ∈ s.O ↔ _
    rw [o.keys]
    simp only [at_tick hr]
  · show (upd s.n h (s.n h ++ [s.r h]) k).Nodup
    by_cases e : k = h
    · subst e
      rw [upd_same, List.nodup_append]
      refine ⟨o.nd k, by simp, fun a ha b hb e => ?_⟩
      rw [List.mem_singleton.1 hb] at e
      exact o.dis k (e ▸ ha)
    · rw [upd_far _ _ e]; exact o.nd k
  · show upd s.r h 0 k ∉ upd s.n h (s.n h ++ [s.r h]) k
    by_cases e : k = h
    · subst e
      rw [upd_same, upd_same]
      intro hm
      rcases List.mem_append.1 hm with hm | hm
      · have := (o.wn k _ hm).1; omega
      · exact hr (List.mem_singleton.1 hm).symm
    · rw [upd_far _ _ e, upd_far _ _ e]; exact o.dis k

/-- A hart runs what stands at a place of a queue. -/
def runS (s : RQ) (h f i : Nat) : RQ := { s with r := upd s.r h (gb (s.n f) i), n := upd s.n f ((s.n f).eraseIdx i), O := setV s.O (gb (s.n f) i) h }
theorem gb_mem {l : List Int} {i : Nat} (hi : i < l.length) : gb l i ∈ l := by
  have : gb l i = l[i] := by simp [gb, List.getD, List.getElem?_eq_getElem hi]
  rw [this]; exact List.getElem_mem hi
theorem erase_idx {l : List Int} {i : Nat} (hi : i < l.length) (hd : l.Nodup) {x : Int} : x ∈ l.eraseIdx i ↔ x ∈ l ∧ x ≠ gb l i := by
  have e : gb l i = l[i] := by simp [gb, List.getD, List.getElem?_eq_getElem hi]
  have hs : l = l.take i ++ l[i] :: l.drop (i + 1) := by rw [List.getElem_cons_drop, List.take_append_drop]
  rw [List.eraseIdx_eq_take_drop_succ, e]
  generalize l[i] = y at *
  have hd' := hd
  rw [hs, List.nodup_append, List.nodup_cons] at hd'
  obtain ⟨d1, ⟨d2, d3⟩, d4⟩ := hd'
  rw [List.mem_append]
  constructor
  · rintro (h | h)
    · refine ⟨by rw [hs]; simp [h], fun e => ?_⟩
      exact d4 x h y (by simp) e
    · refine ⟨by rw [hs]; simp [h], fun e => ?_⟩
      exact d2 (e ▸ h)
  · rintro ⟨h, hne⟩
    rw [hs] at h
    rcases List.mem_append.1 h with h | h
    · exact .inl h
    · rcases List.mem_cons.1 h with h | h
      · exact absurd h hne
      · exact .inr h
theorem nodup_erase {l : List Int} (i : Nat) (hd : l.Nodup) : (l.eraseIdx i).Nodup := List.Sublist.nodup (List.eraseIdx_sublist l i) hd
theorem at_run (o : OkQ s) {h f i : Nat} (hi : i < (s.n f).length) (hr : s.r h = 0) {x : Int} {k : Nat} : atQ (runS s h f i) x k ↔ (x ≠ gb (s.n f) i ∧ atQ s x k) ∨ (x = gb (s.n f) i ∧ k = h) := by
  have hy := o.wn f _ (gb_mem hi)
  have haf : atQ s (gb (s.n f) i) f := ⟨hy.1, .inr (gb_mem hi)⟩
  have hmn : ∀ k, x ∈ upd s.n f ((s.n f).eraseIdx i) k ↔ x ∈ s.n k ∧ (x ≠ gb (s.n f) i) := by
    intro k
    by_cases e : k = f
    · subst e
      rw [upd_same, erase_idx hi (o.nd k)]
    · rw [upd_far _ _ e]
      refine ⟨fun hm => ⟨hm, fun ex => ?_⟩, fun hm => hm.1⟩
      have hp := (o.wn k x hm).1
      exact e (o.uniq _ _ _ (⟨hp, .inr hm⟩ : atQ s x k) (ex ▸ haf))
  show 1 ≤ x ∧ (upd s.r h (gb (s.n f) i) k = x ∨ x ∈ upd s.n f ((s.n f).eraseIdx i) k) ↔ _
  rw [hmn]
  by_cases e : k = h
  · subst e
    rw [upd_same]
    constructor
    · rintro ⟨h1, h2 | h2⟩
      · exact .inr ⟨h2.symm, rfl⟩
      · exact .inl ⟨h2.2, h1, .inr h2.1⟩
    · rintro (⟨h1, h2, h3 | h3⟩ | ⟨h1, _⟩)
      · omega
      · exact ⟨h2, .inr ⟨h3, h1⟩⟩
      · rw [h1]; exact ⟨hy.1, .inl rfl⟩
  · rw [upd_far _ _ e]
    constructor
    · rintro ⟨h1, h2 | h2⟩
      · refine .inl ⟨fun ex => ?_, h1, .inl h2⟩
        have ha : atQ s x k := ⟨h1, .inl h2⟩
        have hkf := o.uniq _ _ _ ha (ex ▸ haf)
        subst hkf
        exact o.dis k (by rw [h2, ex]; exact gb_mem hi)
      · exact .inl ⟨h2.2, h1, .inr h2.1⟩
    · rintro (⟨h1, h2, h3 | h3⟩ | ⟨_, h1⟩)
      · exact ⟨h2, .inl h3⟩
      · exact ⟨h2, .inr ⟨h3, h1⟩⟩
      · exact absurd h1 e
theorem OkQ.run (o : OkQ s) {h f i : Nat} (hh : h < s.H) (hi : i < (s.n f).length) (hr : s.r h = 0) : OkQ (runS s h f i) := by
  have hy := o.wn f _ (gb_mem hi)
  have haf : atQ s (gb (s.n f) i) f := ⟨hy.1, .inr (gb_mem hi)⟩
  have hsub : ∀ k, ∀ x ∈ upd s.n f ((s.n f).eraseIdx i) k, x ∈ s.n k := by
    intro k x hx
    by_cases e : k = f
    · subst e; rw [upd_same] at hx; exact List.mem_of_mem_eraseIdx hx
    · rw [upd_far _ _ e] at hx; exact hx
  refine ⟨o.h1, o.h8, fun k hk => ?_, fun k => ?_, fun k x hx => o.wn k x (hsub k x hx), fun x k => ?_, fun k => ?_, fun k => ?_, fun x a b ha hb => ?_, ?_, ?_⟩
  · have hk' : s.H ≤ k := hk
    obtain ⟨e1, e2⟩ := o.out k hk'
    refine ⟨?_, ?_⟩
    · show upd s.r h _ k = 0
      rw [upd_far _ _ (by omega)]; exact e1
    · show upd s.n f _ k = []
      rw [upd_far _ _ (by have := o.lt haf; omega)]; exact e2
  · show 0 ≤ upd s.r h _ k ∧ iW (upd s.r h _ k)
    by_cases e : k = h
    · subst e; rw [upd_same]; exact ⟨by omega, hy.2⟩
    · rw [upd_far _ _ e]; exact o.wr k
  · show (x, k) ∈ setV s.O _ _ ↔ _
    rw [mem_setV]
    constructor
    · rintro (⟨hm, hne⟩ | ⟨e, hm⟩)
      · obtain ⟨q, e, ha⟩ := (o.keys x k).1 hm
        exact ⟨q, e, (at_run o hi hr).2 (.inl ⟨hne, ha⟩)⟩
      · injection e with e1 e2
        exact ⟨h, e2, (at_run o hi hr).2 (.inr ⟨e1, rfl⟩)⟩
    · rintro ⟨q, e, ha⟩
      rcases (at_run o hi hr).1 ha with ⟨h1, h2⟩ | ⟨h1, h2⟩
      · exact .inl ⟨(o.keys x k).2 ⟨q, e, h2⟩, h1⟩
      · refine .inr ⟨by rw [e, h1, h2], ?_⟩
        exact o.key.2 ⟨f, haf⟩
  · show (upd s.n f ((s.n f).eraseIdx i) k).Nodup
    by_cases e : k = f
    · subst e; rw [upd_same]; exact nodup_erase i (o.nd k)
    · rw [upd_far _ _ e]; exact o.nd k
  · show upd s.r h (gb (s.n f) i) k ∉ upd s.n f ((s.n f).eraseIdx i) k
    by_cases e : k = h
    · subst e
      rw [upd_same]
      intro hm
      by_cases ef : k = f
      · subst ef
        rw [upd_same] at hm
        exact ((erase_idx hi (o.nd k)).1 hm).2 rfl
      · rw [upd_far _ _ ef] at hm
        exact ef (o.uniq _ _ _ (⟨hy.1, .inr hm⟩ : atQ s _ k) haf)
    · rw [upd_far _ _ e]
      exact fun hm => o.dis k (hsub k _ hm)
  · rcases (at_run o hi hr).1 ha with ⟨h1, h2⟩ | ⟨h1, h2⟩
    · rcases (at_run o hi hr).1 hb with ⟨h3, h4⟩ | ⟨h3, h4⟩
      · exact o.uniq x a b h2 h4
      · exact absurd h3 h1
    · rcases (at_run o hi hr).1 hb with ⟨h3, h4⟩ | ⟨h3, h4⟩
      · exact absurd h1 h3
      · rw [h2, h4]
  · show ((setV s.O _ _).map (·.1)).Nodup
    rw [setV_keys]; exact o.ond
  · show (setV s.O _ _).length ≤ 64
    rw [setV, List.length_map]; exact o.few

/-- A thread is taken away from a hart. -/
def dropS (s : RQ) (h : Nat) (t : Int) : RQ := if s.r h = t then { s with r := upd s.r h 0, O := outV s.O t } else { s with n := upd s.n h ((s.n h).erase t), O := outV s.O t }
theorem at_drop (o : OkQ s) {h : Nat} {t : Int} (ha : atQ s t h) {x : Int} {k : Nat} : atQ (dropS s h t) x k ↔ x ≠ t ∧ atQ s x k := by
  have hone : ∀ k, atQ s t k → k = h := fun k hk => o.uniq _ _ _ hk ha
  unfold dropS
  by_cases hr : s.r h = t
  · rw [if_pos hr]
    show 1 ≤ x ∧ (upd s.r h 0 k = x ∨ x ∈ s.n k) ↔ _
    by_cases e : k = h
    · subst e
      rw [upd_same]
      constructor
      · rintro ⟨h1, h2 | h2⟩
        · omega
        · refine ⟨fun ex => ?_, h1, .inr h2⟩
          exact o.dis k (by rw [hr, ← ex]; exact h2)
      · rintro ⟨h1, h2, h3 | h3⟩
        · exact absurd (h3.symm.trans hr) h1
        · exact ⟨h2, .inr h3⟩
    · rw [upd_far _ _ e]
      exact ⟨fun hx => ⟨fun ex => e (hone k (ex ▸ hx)), hx⟩, fun hx => hx.2⟩
  · rw [if_neg hr]
    show 1 ≤ x ∧ (s.r k = x ∨ x ∈ upd s.n h ((s.n h).erase t) k) ↔ _
    by_cases e : k = h
    · subst e
      rw [upd_same, (o.nd k).mem_erase_iff]
      constructor
      · rintro ⟨h1, h2 | h2⟩
        · exact ⟨fun ex => hr (h2.trans ex), h1, .inl h2⟩
        · exact ⟨h2.1, h1, .inr h2.2⟩
      · rintro ⟨h1, h2, h3 | h3⟩
        · exact ⟨h2, .inl h3⟩
        · exact ⟨h2, .inr ⟨h1, h3⟩⟩
    · rw [upd_far _ _ e]
      exact ⟨fun hx => ⟨fun ex => e (hone k (ex ▸ hx)), hx⟩, fun hx => hx.2⟩
theorem drop_parts (s : RQ) (h : Nat) (t : Int) : (dropS s h t).H = s.H ∧ (dropS s h t).O = outV s.O t ∧ (∀ k, (dropS s h t).r k = s.r k ∨ (dropS s h t).r k = 0) ∧ ∀ k, ((dropS s h t).n k).Sublist (s.n k) := by
  unfold dropS
  split
  · refine ⟨rfl, rfl, fun k => ?_, fun k => List.Sublist.refl _⟩
    show upd s.r h 0 k = _ ∨ upd s.r h 0 k = 0
    by_cases e : k = h
    · subst e; rw [upd_same]; exact .inr rfl
    · rw [upd_far _ _ e]; exact .inl rfl
  · refine ⟨rfl, rfl, fun k => .inl rfl, fun k => ?_⟩
    show (upd s.n h ((s.n h).erase t) k).Sublist _
    by_cases e : k = h
    · subst e; rw [upd_same]; exact List.erase_sublist
    · rw [upd_far _ _ e]; exact List.Sublist.refl _
theorem OkQ.drop (o : OkQ s) {h : Nat} {t : Int} (ha : atQ s t h) : OkQ (dropS s h t) := by
  obtain ⟨e1, e2, e3, e4⟩ := drop_parts s h t
  refine ⟨e1 ▸ o.h1, e1 ▸ o.h8, fun k hk => ?_, fun k => ?_, fun k x hx => o.wn k x ((e4 k).subset hx), fun x k => ?_, fun k => List.Sublist.nodup (e4 k) (o.nd k), fun k => ?_, fun x a b hx hb => o.uniq x a b ((at_drop o ha).1 hx).2 ((at_drop o ha).1 hb).2, ?_, ?_⟩
  · rw [e1] at hk
    obtain ⟨k1, k2⟩ := o.out k hk
    refine ⟨?_, ?_⟩
    · rcases e3 k with e | e
      · rw [e]; exact k1
      · exact e
    · have := e4 k
      rw [k2] at this
      exact List.sublist_nil.1 this
  · rcases e3 k with e | e
    · rw [e]; exact o.wr k
    · rw [e]; exact ⟨Int.le_refl _, iW_le (by decide) (by decide)⟩
  · rw [e2, mem_outV, o.keys]
    constructor
    · rintro ⟨⟨q, e, hx⟩, hne⟩
      exact ⟨q, e, (at_drop o ha).2 ⟨hne, hx⟩⟩
    · rintro ⟨q, e, hx⟩
      obtain ⟨h1, h2⟩ := (at_drop o ha).1 hx
      exact ⟨⟨q, e, h2⟩, h1⟩
  · intro hm
    have hm' := (e4 k).subset hm
    rcases e3 k with e | e
    · rw [e] at hm'; exact o.dis k hm'
    · rw [e] at hm'; have := (o.wn k _ hm').1; omega
  · unfold keysQ
    rw [e2, outV_keys]
    exact List.Sublist.nodup List.filter_sublist o.ond
  · rw [e2]
    exact Nat.le_trans (List.length_filter_le _ _) o.few
end
end Go.Proofs.Ytdinndpeoankdaa
