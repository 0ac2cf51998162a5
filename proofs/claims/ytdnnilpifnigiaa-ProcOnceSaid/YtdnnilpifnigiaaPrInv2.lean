/-
  Processes and threads (parapet/proc): Fork, Spawn, End, Exit, Wait, Join as functions; they keep what is always so. No program is named.
-/
import Derived.Test.YtdnnilpifnigiaaPrInv
namespace Go.Proofs.Ytdnnilpifnigiaa
open Go.ChangeShapes Go.WideShapes Go.ChangeAt Go.RowKit Go.Maps
set_option linter.unusedVariables false
set_option linter.unusedSimpArgs false
theorem setT_pw {T : List S4} (h : (T.map (·.tid)).Pairwise (· < ·)) (e : S4) : ((setT T e).map (·.tid)).Pairwise (· < ·) := by
  unfold setT
  rw [List.map_map]
  have : (T.map ((·.tid) ∘ fun x => if x.tid = e.tid then e else x)) = T.map (·.tid) := List.map_congr_left fun x _ => by
    simp only [Function.comp]
    split
    · rename_i h; exact h.symm
    · rfl
  rw [this]
  exact h
theorem mem_setT {T : List S4} {e x : S4} (hx : x ∈ setT T e) : x = e ∨ (x ∈ T ∧ x.tid ≠ e.tid) := by
  obtain ⟨y, hy, rfl⟩ := List.mem_map.1 hx
  by_cases h : y.tid = e.tid
  · rw [if_pos h]; exact .inl rfl
  · rw [if_neg h]; exact .inr ⟨hy, h⟩
theorem mem_setT_e {T : List S4} {e y : S4} (hy : y ∈ T) (h : y.tid = e.tid) : e ∈ setT T e := List.mem_map.2 ⟨y, hy, by rw [if_pos h]⟩
theorem mem_setT_o {T : List S4} {e y : S4} (hy : y ∈ T) (h : y.tid ≠ e.tid) : y ∈ setT T e := List.mem_map.2 ⟨y, hy, by rw [if_neg h]⟩
abbrev endY (y : S4) (c : Int) : S4 := ⟨y.tid, y.pid, true, c⟩
/-- Does a thread of that process run? -/
def anyRun (T : List S4) (pid : Int) : Bool := (thP T pid).any fun x => runsT T x
theorem anyRun_iff {T : List S4} (nd : (T.map (·.tid)).Nodup) (pid : Int) : anyRun T pid = true ↔ ∃ y ∈ T, y.pid = pid ∧ y.ended = false := by
  unfold anyRun
  rw [List.any_eq_true]
  constructor
  · rintro ⟨x, hx, e⟩
    obtain ⟨y, hy, rfl⟩ := List.mem_map.1 hx
    obtain ⟨hy1, hy2⟩ := List.mem_filter.1 hy
    rw [runsT_at nd hy1] at e
    exact ⟨y, hy1, by simpa using hy2, by simpa using e⟩
  · rintro ⟨y, hy, e1, e2⟩
    exact ⟨y.tid, List.mem_map.2 ⟨y, List.mem_filter.2 ⟨hy, by simp [e1]⟩, rfl⟩, by rw [runsT_at nd hy, e2]; rfl⟩
theorem endS_setT (s : PS) {y : S4} (nd : (s.T.map (·.tid)).Nodup) (hy : y ∈ s.T) (c c2 : Int) : endS { s with T := setT s.T (endY y c) } y.pid c2 = endS s y.pid c2 := by
  unfold endS
  simp only [PS.mk.injEq, true_and, and_true]
  unfold endT setT
  rw [List.filter_map]
  have h1 : (s.T.filter ((fun z => decide (z.pid ≠ y.pid)) ∘ fun x => if x.tid = (endY y c).tid then endY y c else x)) = s.T.filter (fun z => decide (z.pid ≠ y.pid)) := by
    refine List.filter_congr fun x hx => ?_
    have e3 : (if x.tid = (endY y c).tid then endY y c else x).pid = x.pid := by
      split
      · rename_i e; rw [uniqT nd hx hy e]
      · rfl
    simp only [Function.comp, e3]
  rw [h1]
  refine (List.map_congr_left fun x hx => ?_).trans (List.map_id _)
  obtain ⟨hx1, hx2⟩ := List.mem_filter.1 hx
  have : x.tid ≠ y.tid := fun e => by rw [uniqT nd hx1 hy e] at hx2; simp at hx2
  rw [if_neg this]
  rfl
def forkS (s : PS) (pid : Int) : (Int × Int × Int) × PS :=
  if livesP s.P pid then (if s.P.length = 32 ∨ s.T.length = 64 then ((0, 0, 2), s) else ((s.lp + 1, s.lt + 1, 0), beginS s pid)) else ((0, 0, 240), s)
def spawnS (s : PS) (pid : Int) : (Int × Int) × PS :=
  if livesP s.P pid then (if s.T.length = 64 then ((0, 2), s) else ((s.lt + 1, 0), addS s pid)) else ((0, 240), s)
def tendS (s : PS) (tid code : Int) : (Bool × Int) × PS :=
  if runsT s.T tid then (if anyRun (setT s.T (endY (getT s.T tid) code)) (getT s.T tid).pid then ((false, 0), { s with T := setT s.T (endY (getT s.T tid) code) }) else ((true, 0), endS s (getT s.T tid).pid code)) else ((false, 241), s)
def exitS (s : PS) (pid code : Int) : (List Int × Int) × PS :=
  if livesP s.P pid then ((thP s.T pid, 0), endS s pid code) else (([], 240), s)
def zomsP (P : List K5) (pid : Int) : List K5 := P.filter fun k => k.par == pid && k.zom
def waitM (s : PS) (o : Option K5) : (Int × Int × Int) × PS :=
  match o with
  | none => ((0, 0, 211), s)
  | some k => ((k.pid, k.code, 0), { s with P := delK s.P k.pid })
def waitS (s : PS) (pid : Int) : (Int × Int × Int) × PS :=
  if livesP s.P pid then (if chP s.P pid = [] then ((0, 0, 4), s) else waitM s (zomsP s.P pid).head?) else ((0, 0, 240), s)
def joinS (s : PS) (tid tg : Int) : (Int × Int) × PS :=
  if runsT s.T tid = true ∧ tg ∈ s.T.map (·.tid) ∧ (getT s.T tg).pid = (getT s.T tid).pid ∧ tg ≠ tid then (if (getT s.T tg).ended then (((getT s.T tg).code, 0), { s with T := delT s.T tg }) else ((0, 211), s)) else ((0, 241), s)
section
variable {s : PS}
theorem OkS.fork (h : OkS s) (pid : Int) : OkS (forkS s pid).2 := by
  unfold forkS
  split
  · split
    · exact h
    · rename_i hl hn
      have := h.fp
      have := h.ft
      exact h.begin_ hl (by omega) (by omega)
  · exact h
theorem OkS.spawn (h : OkS s) (pid : Int) : OkS (spawnS s pid).2 := by
  unfold spawnS
  split
  · split
    · exact h
    · rename_i hl hn
      have := h.ft
      exact h.add hl (by omega)
  · exact h
theorem OkS.live_at (h : OkS s) {y : S4} (hy : y ∈ s.T) : livesP s.P y.pid = true := by
  obtain ⟨q, hq, e1, e2⟩ := h.thr y hy
  rw [← e1, livesP_at (pw_nodup h.sp) hq, e2]
  rfl
theorem OkS.tend (h : OkS s) (tid code : Int) : OkS (tendS s tid code).2 := by
  have nd := pw_nodup h.st
  unfold tendS
  split
  · rename_i hr
    obtain ⟨y, hy, rfl, he⟩ := runsT_yes hr
    rw [getT_at nd hy]
    have nd2 := pw_nodup (setT_pw h.st (endY y code))
    split
    · rename_i ha
      rw [anyRun_iff nd2] at ha
      refine ⟨h.sp, setT_pw h.st _, h.hp, fun z hz => ?_, h.par, h.live, h.zom, fun z hz => ?_, fun q hq hz => ?_, h.fp, by simp only [setT, List.length_map]; exact h.ft, h.l0⟩
      · rcases mem_setT hz with rfl | ⟨hz, _⟩
        · exact h.ht y hy
        · exact h.ht z hz
      · rcases mem_setT hz with rfl | ⟨hz, _⟩
        · exact h.thr y hy
        · exact h.thr z hz
      · by_cases e : q.pid = y.pid
        · obtain ⟨z, hz1, hz2, hz3⟩ := ha
          exact ⟨z, hz1, by rw [hz2, e], hz3⟩
        · obtain ⟨z, hz1, hz2, hz3⟩ := h.run q hq hz
          refine ⟨z, mem_setT_o hz1 (fun e2 => e ?_), hz2, hz3⟩
          rw [← hz2, uniqT nd hz1 hy e2]
    · obtain ⟨q, hq, e1, e2⟩ := h.thr y hy
      rw [← e1]
      exact h.end_ hq e2 code
  · exact h
theorem OkS.exit (h : OkS s) (pid code : Int) : OkS (exitS s pid code).2 := by
  unfold exitS
  split
  · rename_i hl
    obtain ⟨q, hq, rfl, e⟩ := livesP_yes hl
    exact h.end_ hq e code
  · exact h
theorem OkS.wait (h : OkS s) (pid : Int) : OkS (waitS s pid).2 := by
  unfold waitS waitM
  split
  · split
    · exact h
    · split
      · exact h
      · rename_i k hk
        have hk2 := List.mem_of_head? hk
        obtain ⟨hk1, hk3⟩ := List.mem_filter.1 hk2
        simp at hk3
        have hne : ∀ q ∈ s.P, q.zom = false → q ∈ delK s.P k.pid := fun q hq hz => List.mem_filter.2 ⟨hq, by
          have : q.pid ≠ k.pid := fun e => by rw [uniqK (pw_nodup h.sp) hq hk1 e, hk3.2] at hz; cases hz
          simpa using this⟩
        have hin : ∀ q, q ∈ delK s.P k.pid → q ∈ s.P := fun q hq => (List.mem_filter.1 hq).1
        refine ⟨h.sp.sublist (List.Sublist.map _ List.filter_sublist), h.st, fun q hq => h.hp q (hin q hq), h.ht, fun q hq => h.par q (hin q hq), fun q hq hn => ?_, fun q hq hz => h.zom q (hin q hq) hz, fun y hy => ?_, fun q hq hz => h.run q (hin q hq) hz, Nat.le_trans (List.length_filter_le _ _) h.fp, h.ft, h.l0⟩
        · obtain ⟨z, hz, e1, e2⟩ := h.live q (hin q hq) hn
          exact ⟨z, hne z hz e2, e1, e2⟩
        · obtain ⟨z, hz, e1, e2⟩ := h.thr y hy
          exact ⟨z, hne z hz e2, e1, e2⟩
  · exact h
theorem OkS.join (h : OkS s) (tid tg : Int) : OkS (joinS s tid tg).2 := by
  have nd := pw_nodup h.st
  unfold joinS
  split
  · rename_i hc
    obtain ⟨h1, h2, h3, h4⟩ := hc
    obtain ⟨y, hy, rfl⟩ := List.mem_map.1 h2
    rw [getT_at nd hy]
    split
    · rename_i he
      have hin : ∀ q, q ∈ delT s.T y.tid → q ∈ s.T := fun q hq => (List.mem_filter.1 hq).1
      refine ⟨h.sp, h.st.sublist (List.Sublist.map _ List.filter_sublist), h.hp, fun q hq => h.ht q (hin q hq), h.par, h.live, h.zom, fun q hq => h.thr q (hin q hq), fun q hq hz => ?_, h.fp, Nat.le_trans (List.length_filter_le _ _) h.ft, h.l0⟩
      obtain ⟨z, hz1, hz2, hz3⟩ := h.run q hq hz
      refine ⟨z, List.mem_filter.2 ⟨hz1, ?_⟩, hz2, hz3⟩
      have : z.tid ≠ y.tid := fun e => by rw [uniqT nd hz1 hy e, he] at hz3; cases hz3
      simpa using this
    · exact h
  · exact h
/-- The last numbers grow by one at most. -/
theorem grow_fork (s : PS) (pid : Int) : (forkS s pid).2.lp ≤ s.lp + 1 ∧ (forkS s pid).2.lt ≤ s.lt + 1 := by
  unfold forkS beginS addS
  split
  · split <;> simp <;> omega
  · simp; omega
theorem grow_spawn (s : PS) (pid : Int) : (spawnS s pid).2.lp ≤ s.lp + 1 ∧ (spawnS s pid).2.lt ≤ s.lt + 1 := by
  unfold spawnS addS
  split
  · split <;> simp <;> omega
  · simp; omega
theorem grow_tend (s : PS) (tid code : Int) : (tendS s tid code).2.lp = s.lp ∧ (tendS s tid code).2.lt = s.lt := by
  unfold tendS endS
  split
  · split <;> simp
  · simp
theorem grow_exit (s : PS) (pid code : Int) : (exitS s pid code).2.lp = s.lp ∧ (exitS s pid code).2.lt = s.lt := by
  unfold exitS endS
  split <;> simp
theorem grow_wait (s : PS) (pid : Int) : (waitS s pid).2.lp = s.lp ∧ (waitS s pid).2.lt = s.lt := by
  unfold waitS waitM
  split
  · split
    · simp
    · split <;> simp
  · simp
theorem grow_join (s : PS) (tid tg : Int) : (joinS s tid tg).2.lp = s.lp ∧ (joinS s tid tg).2.lt = s.lt := by
  unfold joinS
  split
  · split <;> simp
  · simp
end
end Go.Proofs.Ytdnnilpifnigiaa
