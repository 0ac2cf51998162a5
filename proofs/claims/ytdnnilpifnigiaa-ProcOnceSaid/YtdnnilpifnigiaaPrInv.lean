/-
  Processes and threads (parapet/proc): the calls as functions of a plain state; what is always so. No program is named.
-/
import Derived.Test.YtdnnilpifnigiaaPrOf
namespace Go.Proofs.Ytdnnilpifnigiaa
open Go.ChangeShapes Go.WideShapes Go.ChangeAt Go.RowKit Go.Maps
set_option linter.unusedVariables false
set_option linter.unusedSimpArgs false
def getK (P : List K5) (c : Int) : K5 := (P.find? fun k => k.pid == c).getD k0
def getT (T : List S4) (c : Int) : S4 := (T.find? fun k => k.tid == c).getD s0
theorem getK_at {P : List K5} (nd : (P.map (·.pid)).Nodup) {k : K5} (hk : k ∈ P) : getK P k.pid = k := by
  unfold getK
  cases e : P.find? fun x => x.pid == k.pid with
  | none =>
    rw [List.find?_eq_none] at e
    exact absurd (by simp) (e k hk)
  | some x =>
    have h1 := List.find?_some e
    have h2 := List.mem_of_find?_eq_some e
    exact uniqK nd h2 hk (by simpa using h1)
theorem getT_at {T : List S4} (nd : (T.map (·.tid)).Nodup) {k : S4} (hk : k ∈ T) : getT T k.tid = k := by
  unfold getT
  cases e : T.find? fun x => x.tid == k.tid with
  | none =>
    rw [List.find?_eq_none] at e
    exact absurd (by simp) (e k hk)
  | some x =>
    have h1 := List.find?_some e
    have h2 := List.mem_of_find?_eq_some e
    exact uniqT nd h2 hk (by simpa using h1)
theorem pw_nodup {l : List Int} (h : l.Pairwise (· < ·)) : l.Nodup := h.imp fun h => Int.ne_of_lt h
/-- A child is given to another parent. -/
abbrev parK (k : K5) (hr : Int) : K5 := ⟨k.pid, hr, k.zom, k.code⟩
abbrev zomK (k : K5) (c : Int) : K5 := ⟨k.pid, k.par, true, c⟩
theorem fm_congr {α β : Type} {f g : α → Option β} {l : List α} (h : ∀ x ∈ l, f x = g x) : l.filterMap f = l.filterMap g := by
  induction l with
  | nil => rfl
  | cons x r ih =>
    rw [List.filterMap_cons, List.filterMap_cons, h x (by simp), ih (fun y hy => h y (by simp [hy]))]
def movK (hr : Int) (k : K5) : Option K5 := if k.zom = true ∧ hr = 0 then none else some (parK k hr)
def one (hr : Int) (P : List K5) (c : Int) : List K5 := keepP P (parK (getK P c) hr)
/-- The processes behind an end: that one first, then its children. -/
def endP1 (P : List K5) (pid code : Int) : List K5 := keepP P (zomK (getK P pid) code)
def endP (P : List K5) (pid code : Int) : List K5 := (chP (endP1 P pid code) pid).foldl (one (heirP (endP1 P pid code))) (endP1 P pid code)
def endT (T : List S4) (pid : Int) : List S4 := T.filter fun y => decide (y.pid ≠ pid)
def endS (s : PS) (pid code : Int) : PS := { s with P := endP s.P pid code, T := endT s.T pid }
theorem keepP_eq {P : List K5} (nd : (P.map (·.pid)).Nodup) {k : K5} (hk : k ∈ P) (e : K5) (he : e.pid = k.pid) : keepP P e = P.filterMap fun x => if x.pid = k.pid then (if e.zom = true ∧ e.par = 0 then none else some e) else some x := by
  unfold keepP
  split
  · unfold delK
    rw [← List.filterMap_eq_filter]
    refine fm_congr fun x hx => ?_
    rw [he]
    by_cases h : x.pid = k.pid
    · simp [h, Option.guard]
    · simp [h, Option.guard]
  · unfold setK
    rw [← List.filterMap_eq_map]
    refine fm_congr fun x hx => ?_
    rw [he]
    by_cases h : x.pid = k.pid
    · simp [h]
    · simp [h]
theorem one_eq {P : List K5} (nd : (P.map (·.pid)).Nodup) {hr c : Int} (hc : c ∈ P.map (·.pid)) : one hr P c = P.filterMap fun x => if x.pid = c then movK hr x else some x := by
  obtain ⟨k, hk, rfl⟩ := List.mem_map.1 hc
  unfold one
  rw [getK_at nd hk, keepP_eq nd hk (parK k hr) rfl]
  refine fm_congr fun x hx => ?_
  by_cases h : x.pid = k.pid
  · rw [if_pos h, if_pos h, uniqK nd hx hk h]
    rfl
  · rw [if_neg h, if_neg h]
theorem movK_pid {hr : Int} {k e : K5} (h : movK hr k = some e) : e.pid = k.pid := by
  unfold movK at h
  split at h
  · cases h
  · injection h with h; rw [← h]
theorem fm_sub {P : List K5} {f : K5 → Option K5} (hf : ∀ k e, f k = some e → e.pid = k.pid) : ((P.filterMap f).map (·.pid)).Sublist (P.map (·.pid)) := by
  induction P with
  | nil => simp
  | cons x r ih =>
    rw [List.filterMap_cons]
    cases e : f x with
    | none => exact List.Sublist.cons _ ih
    | some y =>
      simp only [List.map_cons]
      rw [hf x y e]
      exact List.Sublist.cons_cons _ ih
theorem fold_eq {hr : Int} : ∀ (l : List Int) (P : List K5), (P.map (·.pid)).Nodup → l.Nodup → (∀ c ∈ l, c ∈ P.map (·.pid)) → l.foldl (one hr) P = P.filterMap fun x => if x.pid ∈ l then movK hr x else some x := by
  intro l
  induction l with
  | nil => intro P _ _ _; simp
  | cons c r ih =>
    intro P nd hn hm
    rw [List.nodup_cons] at hn
    have h1 := one_eq nd (hr := hr) (hm c (by simp))
    have hpid : ∀ k e : K5, (if k.pid = c then movK hr k else some k) = some e → e.pid = k.pid := by
      intro k e h
      split at h
      · exact movK_pid h
      · injection h with h; rw [h]
    have nd2 : ((one hr P c).map (·.pid)).Nodup := by rw [h1]; exact (fm_sub hpid).nodup nd
    rw [List.foldl_cons, ih _ nd2 hn.2, h1, List.filterMap_filterMap]
    · refine fm_congr fun x hx => ?_
      by_cases e : x.pid = c
      · rw [if_pos e]
        have hx2 : x.pid ∈ c :: r := by simp [e]
        rw [if_pos hx2]
        cases h : movK hr x with
        | none => rfl
        | some y =>
          have := movK_pid h
          have hy : ¬ y.pid ∈ r := by rw [this, e]; exact hn.1
          simp only [Option.bind_some]
          rw [if_neg hy]
      · rw [if_neg e]
        simp only [Option.bind_some]
        by_cases e2 : x.pid ∈ r
        · rw [if_pos e2, if_pos (by simp [e2])]
        · rw [if_neg e2, if_neg (by simp [e, e2])]
    · intro d hd
      have hd2 := hm d (by simp [hd])
      obtain ⟨k, hk, rfl⟩ := List.mem_map.1 hd2
      have : k.pid ≠ c := fun e => hn.1 (e ▸ hd)
      rw [h1]
      exact List.mem_map.2 ⟨k, List.mem_filterMap.2 ⟨k, hk, by rw [if_neg this]⟩, rfl⟩
theorem keepP_pw {P : List K5} (h : (P.map (·.pid)).Pairwise (· < ·)) (e : K5) : ((keepP P e).map (·.pid)).Pairwise (· < ·) := by
  unfold keepP
  split
  · exact h.sublist (List.Sublist.map _ List.filter_sublist)
  · unfold setK
    rw [List.map_map]
    have : (P.map ((·.pid) ∘ fun x => if x.pid = e.pid then e else x)) = P.map (·.pid) := List.map_congr_left fun x _ => by
      simp only [Function.comp]
      split
      · rename_i h; exact h.symm
      · rfl
    rw [this]
    exact h
theorem chP_sub (P : List K5) (pid : Int) : (chP P pid).Sublist (P.map (·.pid)) := List.Sublist.map _ List.filter_sublist
theorem thP_sub (T : List S4) (pid : Int) : (thP T pid).Sublist (T.map (·.tid)) := List.Sublist.map _ List.filter_sublist
theorem mem_chP {P : List K5} (nd : (P.map (·.pid)).Nodup) {x : K5} (hx : x ∈ P) (pid : Int) : x.pid ∈ chP P pid ↔ x.par = pid := by
  unfold chP
  rw [List.mem_map]
  constructor
  · rintro ⟨y, hy, e⟩
    rw [List.mem_filter] at hy
    rw [← uniqK nd hy.1 hx e]
    simpa using hy.2
  · intro e
    exact ⟨x, List.mem_filter.2 ⟨hx, by simp [e]⟩, rfl⟩
theorem endP_eq {P : List K5} (h : (P.map (·.pid)).Pairwise (· < ·)) (pid code : Int) : endP P pid code = (endP1 P pid code).filterMap fun x => if x.par = pid then movK (heirP (endP1 P pid code)) x else some x := by
  have h1 : ((endP1 P pid code).map (·.pid)).Nodup := pw_nodup (keepP_pw h _)
  unfold endP
  rw [fold_eq _ _ h1 ((chP_sub _ _).nodup h1) (fun c hc => (chP_sub _ _).subset hc)]
  refine fm_congr fun x hx => ?_
  by_cases e : x.par = pid
  · rw [if_pos e, if_pos ((mem_chP h1 hx pid).2 e)]
  · rw [if_neg e, if_neg (fun h2 => e ((mem_chP h1 hx pid).1 h2))]
/-- What is always so. -/
structure OkS (s : PS) : Prop where
  sp : (s.P.map (·.pid)).Pairwise (· < ·)
  st : (s.T.map (·.tid)).Pairwise (· < ·)
  hp : ∀ k ∈ s.P, 1 ≤ k.pid ∧ k.pid ≤ s.lp
  ht : ∀ y ∈ s.T, 1 ≤ y.tid ∧ y.tid ≤ s.lt
  par : ∀ k ∈ s.P, 0 ≤ k.par ∧ k.par < k.pid
  live : ∀ k ∈ s.P, k.par ≠ 0 → ∃ q ∈ s.P, q.pid = k.par ∧ q.zom = false
  zom : ∀ k ∈ s.P, k.zom = true → k.par ≠ 0
  thr : ∀ y ∈ s.T, ∃ q ∈ s.P, q.pid = y.pid ∧ q.zom = false
  run : ∀ q ∈ s.P, q.zom = false → ∃ y ∈ s.T, y.pid = q.pid ∧ y.ended = false
  fp : s.P.length ≤ 32
  ft : s.T.length ≤ 64
  l0 : 1 ≤ s.lp ∧ 1 ≤ s.lt
def ps1 : PS := ⟨[⟨1, 0, false, 0⟩], [⟨1, 1, false, 0⟩], 1, 1⟩
theorem OkS.first : OkS ps1 := by
  refine ⟨by simp [ps1], by simp [ps1], by simp [ps1], by simp [ps1], by simp [ps1], by simp [ps1], by simp [ps1], by simp [ps1], by simp [ps1], by simp [ps1], by simp [ps1], by simp [ps1]⟩
section
variable {s : PS}
theorem OkS.add (h : OkS s) {pid : Int} (hl : livesP s.P pid = true) (hf : s.T.length < 64) : OkS (addS s pid) := by
  obtain ⟨q, hq, rfl, hz⟩ := livesP_yes hl
  have hst := h.st
  refine ⟨h.sp, ?_, h.hp, fun y hy => ?_, h.par, h.live, h.zom, fun y hy => ?_, fun k hk hz => ?_, h.fp, by simp [addS]; omega, by have := h.l0; simp [addS]; omega⟩
  · simp only [addS, List.map_append, List.map_cons, List.map_nil, List.pairwise_append]
    refine ⟨hst, by simp, fun x hx y hy => ?_⟩
    obtain ⟨z, hz, rfl⟩ := List.mem_map.1 hx
    have := (h.ht z hz).2
    simp at hy
    omega
  · rcases List.mem_append.1 hy with hy | hy
    · have := h.ht y hy
      exact ⟨this.1, by simp only [addS]; omega⟩
    · rw [List.mem_singleton.1 hy]
      have := h.l0
      exact ⟨by show 1 ≤ s.lt + 1; omega, Int.le_refl _⟩
  · rcases List.mem_append.1 hy with hy | hy
    · exact h.thr y hy
    · rw [List.mem_singleton.1 hy]
      exact ⟨q, hq, rfl, hz⟩
  · obtain ⟨y, hy, e⟩ := h.run k hk hz
    exact ⟨y, List.mem_append_left _ hy, e⟩
theorem OkS.begin_ (h : OkS s) {pid : Int} (hl : livesP s.P pid = true) (hf : s.T.length < 64) (hf2 : s.P.length < 32) : OkS (beginS s pid) := by
  obtain ⟨q, hq, rfl, hz⟩ := livesP_yes hl
  have hst := h.st
  have hsp := h.sp
  refine ⟨?_, ?_, fun y hy => ?_, fun y hy => ?_, fun k hk => ?_, fun k hk hne => ?_, fun k hk hz => ?_, fun y hy => ?_, fun k hk hz => ?_, by simp [beginS, addS]; omega, by simp [beginS, addS]; omega, by have := h.l0; simp [beginS, addS]; omega⟩
  · simp only [beginS, addS, List.map_append, List.map_cons, List.map_nil, List.pairwise_append]
    refine ⟨hsp, by simp, fun x hx y hy => ?_⟩
    obtain ⟨z, hz, rfl⟩ := List.mem_map.1 hx
    have := (h.hp z hz).2
    simp at hy
    omega
  · simp only [beginS, addS, List.map_append, List.map_cons, List.map_nil, List.pairwise_append]
    refine ⟨hst, by simp, fun x hx y hy => ?_⟩
    obtain ⟨z, hz, rfl⟩ := List.mem_map.1 hx
    have := (h.ht z hz).2
    simp at hy
    omega
  · rcases List.mem_append.1 hy with hy | hy
    · have := h.hp y hy
      exact ⟨this.1, by simp only [beginS, addS]; omega⟩
    · rw [List.mem_singleton.1 hy]
      have := h.l0
      exact ⟨by show 1 ≤ s.lp + 1; omega, Int.le_refl _⟩
  · rcases List.mem_append.1 hy with hy | hy
    · have := h.ht y hy
      exact ⟨this.1, by simp only [beginS, addS]; omega⟩
    · rw [List.mem_singleton.1 hy]
      have := h.l0
      exact ⟨by show 1 ≤ s.lt + 1; omega, Int.le_refl _⟩
  · rcases List.mem_append.1 hk with hk | hk
    · exact h.par k hk
    · rw [List.mem_singleton.1 hk]
      have := h.hp q hq
      exact ⟨by show 0 ≤ q.pid; omega, by show q.pid < s.lp + 1; omega⟩
  · rcases List.mem_append.1 hk with hk | hk
    · obtain ⟨z, hz, e⟩ := h.live k hk hne
      exact ⟨z, List.mem_append_left _ hz, e⟩
    · rw [List.mem_singleton.1 hk]
      exact ⟨q, List.mem_append_left _ hq, rfl, hz⟩
  · rcases List.mem_append.1 hk with hk | hk
    · exact h.zom k hk hz
    · rw [List.mem_singleton.1 hk] at hz
      cases hz
  · rcases List.mem_append.1 hy with hy | hy
    · obtain ⟨z, hz, e⟩ := h.thr y hy
      exact ⟨z, List.mem_append_left _ hz, e⟩
    · rw [List.mem_singleton.1 hy]
      exact ⟨⟨s.lp + 1, q.pid, false, 0⟩, List.mem_append_right _ (by simp), rfl, rfl⟩
  · rcases List.mem_append.1 hk with hk | hk
    · obtain ⟨y, hy, e⟩ := h.run k hk hz
      exact ⟨y, List.mem_append_left _ hy, e⟩
    · rw [List.mem_singleton.1 hk]
      exact ⟨⟨s.lt + 1, s.lp + 1, false, 0⟩, List.mem_append_right _ (by simp), rfl, rfl⟩
/-- The processes behind an end, each of one that was there. -/
theorem mem_endP1 (h : OkS s) {k0 : K5} (hk : k0 ∈ s.P) (code : Int) (x : K5) : x ∈ endP1 s.P k0.pid code ↔ (x ∈ s.P ∧ x.pid ≠ k0.pid) ∨ (k0.par ≠ 0 ∧ x = zomK k0 code) := by
  have nd := pw_nodup h.sp
  unfold endP1
  rw [getK_at nd hk, keepP_eq nd hk (zomK k0 code) rfl, List.mem_filterMap]
  constructor
  · rintro ⟨y, hy, e⟩
    by_cases e1 : y.pid = k0.pid
    · rw [if_pos e1] at e
      split at e
      · cases e
      · rename_i hn
        injection e with e
        exact .inr ⟨fun h0 => hn ⟨rfl, h0⟩, e.symm⟩
    · rw [if_neg e1] at e
      injection e with e
      subst e
      exact .inl ⟨hy, e1⟩
  · rintro (⟨hx, hn⟩ | ⟨hn, rfl⟩)
    · exact ⟨x, hx, by rw [if_neg hn]⟩
    · refine ⟨k0, hk, ?_⟩
      rw [if_pos rfl, if_neg (fun h0 => hn h0.2)]
theorem heir_endP1 (h : OkS s) {k0 : K5} (hk : k0 ∈ s.P) (code : Int) : (heirP (endP1 s.P k0.pid code) = 0 ∧ ∀ q ∈ endP1 s.P k0.pid code, q.pid ≠ 1) ∨ (heirP (endP1 s.P k0.pid code) = 1 ∧ k0.pid ≠ 1 ∧ ∃ q ∈ s.P, q.pid = 1 ∧ q.zom = false) := by
  have h1 : ∀ q ∈ s.P, q.pid = 1 → q.par = 0 ∧ q.zom = false := fun q hq e => by
    have := h.par q hq
    have h0 : q.par = 0 := by omega
    refine ⟨h0, ?_⟩
    cases hz : q.zom
    · rfl
    · exact absurd h0 (h.zom q hq hz)
  unfold heirP
  cases hb : livesP (endP1 s.P k0.pid code) 1
  · refine .inl ⟨rfl, fun q hq e => ?_⟩
    unfold livesP at hb
    rw [List.any_eq_false] at hb
    have hb2 := hb q hq
    rcases (mem_endP1 h hk code q).1 hq with ⟨hq1, hq2⟩ | ⟨hq1, rfl⟩
    · simp [e, (h1 q hq1 e).2] at hb2
    · exact hq1 (h1 k0 hk e).1
  · obtain ⟨q, hq, e1, e2⟩ := livesP_yes hb
    rcases (mem_endP1 h hk code q).1 hq with ⟨hq1, hq2⟩ | ⟨hq1, rfl⟩
    · exact .inr ⟨rfl, by rw [← e1]; exact hq2.symm, q, hq1, e1, e2⟩
    · cases e2
theorem mem_endP (h : OkS s) {k0 : K5} (hk : k0 ∈ s.P) (code : Int) (x : K5) : x ∈ endP s.P k0.pid code ↔ ∃ y ∈ endP1 s.P k0.pid code, (y.par ≠ k0.pid ∧ x = y) ∨ (y.par = k0.pid ∧ (y.zom = true → heirP (endP1 s.P k0.pid code) ≠ 0) ∧ x = parK y (heirP (endP1 s.P k0.pid code))) := by
  rw [endP_eq h.sp, List.mem_filterMap]
  constructor
  · rintro ⟨y, hy, e⟩
    by_cases e1 : y.par = k0.pid
    · rw [if_pos e1] at e
      unfold movK at e
      split at e
      · cases e
      · rename_i hn
        injection e with e
        exact ⟨y, hy, .inr ⟨e1, fun hz h0 => hn ⟨hz, h0⟩, e.symm⟩⟩
    · rw [if_neg e1] at e
      injection e with e
      subst e
      exact ⟨y, hy, .inl ⟨e1, rfl⟩⟩
  · rintro ⟨y, hy, ⟨e1, rfl⟩ | ⟨e1, e2, rfl⟩⟩
    · exact ⟨x, hy, by rw [if_neg e1]⟩
    · refine ⟨y, hy, ?_⟩
      rw [if_pos e1]
      unfold movK
      rw [if_neg (fun h0 => e2 h0.1 h0.2)]
theorem endP_sub (h : OkS s) {k0 : K5} (hk : k0 ∈ s.P) (code : Int) : ((endP s.P k0.pid code).map (·.pid)).Sublist (s.P.map (·.pid)) := by
  have nd := pw_nodup h.sp
  rw [endP_eq h.sp]
  refine (fm_sub ?_).trans ?_
  · intro k e h
    split at h
    · exact movK_pid h
    · injection h with h; rw [h]
  · unfold endP1
    rw [getK_at nd hk, keepP_eq nd hk (zomK k0 code) rfl]
    refine fm_sub ?_
    intro k e h
    split at h
    · split at h
      · cases h
      · rename_i e1 _
        injection h with h
        rw [← h, e1]
    · injection h with h; rw [h]
theorem OkS.end_ (h : OkS s) {k0 : K5} (hk : k0 ∈ s.P) (hz0 : k0.zom = false) (code : Int) : OkS (endS s k0.pid code) := by
  have nd := pw_nodup h.sp
  have hsub := endP_sub h hk code
  have hh := heir_endP1 h hk code
  have key : ∀ x ∈ endP s.P k0.pid code, ∃ y ∈ s.P, x.pid = y.pid ∧ (y.pid = k0.pid → x.zom = true ∧ k0.par ≠ 0) ∧ (y.pid ≠ k0.pid → x.zom = y.zom) ∧ ((y.par ≠ k0.pid ∧ x.par = y.par) ∨ (y.par = k0.pid ∧ y.pid ≠ k0.pid ∧ (y.zom = true → heirP (endP1 s.P k0.pid code) ≠ 0) ∧ x.par = heirP (endP1 s.P k0.pid code))) := by
    intro x hx
    obtain ⟨y, hy, e⟩ := (mem_endP h hk code x).1 hx
    rcases (mem_endP1 h hk code y).1 hy with ⟨hy1, hy2⟩ | ⟨hy1, rfl⟩
    · rcases e with ⟨e1, rfl⟩ | ⟨e1, e2, rfl⟩
      · exact ⟨x, hy1, rfl, fun h => absurd h hy2, fun _ => rfl, .inl ⟨e1, rfl⟩⟩
      · exact ⟨y, hy1, rfl, fun h => absurd h hy2, fun _ => rfl, .inr ⟨e1, hy2, e2, rfl⟩⟩
    · have hne : k0.par ≠ k0.pid := by have := h.par k0 hk; omega
      rcases e with ⟨e1, rfl⟩ | ⟨e1, e2, rfl⟩
      · exact ⟨k0, hk, rfl, fun _ => ⟨rfl, hy1⟩, fun h => absurd rfl h, .inl ⟨hne, rfl⟩⟩
      · exact absurd e1 hne
  have stay : ∀ q ∈ s.P, q.zom = false → q.pid ≠ k0.pid → ∃ x ∈ endP s.P k0.pid code, x.pid = q.pid ∧ x.zom = false := by
    intro q hq hz hne
    by_cases e : q.par = k0.pid
    · exact ⟨parK q (heirP (endP1 s.P k0.pid code)), (mem_endP h hk code _).2 ⟨q, (mem_endP1 h hk code q).2 (.inl ⟨hq, hne⟩), .inr ⟨e, fun h => (by rw [hz] at h; cases h), rfl⟩⟩, rfl, hz⟩
    · exact ⟨q, (mem_endP h hk code _).2 ⟨q, (mem_endP1 h hk code q).2 (.inl ⟨hq, hne⟩), .inl ⟨e, rfl⟩⟩, rfl, hz⟩
  refine ⟨h.sp.sublist hsub, h.st.sublist (List.Sublist.map _ List.filter_sublist), fun x hx => ?_, fun y hy => h.ht y (List.mem_filter.1 hy).1, fun x hx => ?_, fun x hx hne => ?_, fun x hx hz => ?_, fun y hy => ?_, fun x hx hz => ?_, ?_, Nat.le_trans (List.length_filter_le _ _) h.ft, h.l0⟩
  · obtain ⟨y, hy, e, _⟩ := key x hx
    rw [e]; exact h.hp y hy
  · obtain ⟨y, hy, e, _, _, ⟨_, e2⟩ | ⟨e1, _, _, e2⟩⟩ := key x hx
    · rw [e, e2]; exact h.par y hy
    · rw [e, e2]
      have h1 := h.hp k0 hk
      have h2 := h.par y hy
      rcases hh with ⟨h3, _⟩ | ⟨h3, _⟩
      · rw [h3]; omega
      · rw [h3]; omega
  · obtain ⟨y, hy, e, _, _, ⟨e1, e2⟩ | ⟨e1, _, _, e2⟩⟩ := key x hx
    · rw [e2] at hne ⊢
      obtain ⟨q, hq, hq1, hq2⟩ := h.live y hy hne
      rw [← hq1]
      exact stay q hq hq2 (by rw [hq1]; exact e1)
    · rw [e2] at hne ⊢
      rcases hh with ⟨h3, _⟩ | ⟨h3, h4, q, hq, hq1, hq2⟩
      · exact absurd h3 hne
      · rw [h3, ← hq1]
        exact stay q hq hq2 (by rw [hq1]; exact h4.symm)
  · obtain ⟨y, hy, e, e3, e4, ⟨e1, e2⟩ | ⟨e1, e5, e6, e2⟩⟩ := key x hx
    · rw [e2]
      by_cases hyk : y.pid = k0.pid
      · rw [uniqK nd hy hk hyk]; exact (e3 hyk).2
      · rw [e4 hyk] at hz
        exact h.zom y hy hz
    · rw [e2]
      rw [e4 e5] at hz
      exact e6 hz
  · obtain ⟨hy1, hy2⟩ := List.mem_filter.1 hy
    obtain ⟨q, hq, hq1, hq2⟩ := h.thr y hy1
    rw [← hq1]
    exact stay q hq hq2 (by rw [hq1]; simpa using hy2)
  · obtain ⟨y, hy, e, e3, e4, _⟩ := key x hx
    have hyk : y.pid ≠ k0.pid := fun hyk => by rw [(e3 hyk).1] at hz; cases hz
    rw [e4 hyk] at hz
    obtain ⟨z, hz1, hz2, hz3⟩ := h.run y hy hz
    exact ⟨z, List.mem_filter.2 ⟨hz1, by simp [hz2, hyk]⟩, by rw [hz2, e], hz3⟩
  · have := hsub.length_le
    rw [List.length_map, List.length_map] at this
    exact Nat.le_trans this h.fp
end
end Go.Proofs.Ytdnnilpifnigiaa
