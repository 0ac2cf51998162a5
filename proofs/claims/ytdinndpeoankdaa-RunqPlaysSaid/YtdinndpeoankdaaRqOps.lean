/-
  The run queues (parapet/runq): 'Rq w g s F': queues in the state s, which is as it should be, their blocks F; each call as a function of the state.
-/
import Derived.Test.YtdinndpeoankdaaRqMore
namespace Go.Proofs.Ytdinndpeoankdaa
open Go.ChangeShapes Go.WideShapes Go.ChangeAt Go.RowKit Go.Maps
set_option linter.unusedVariables false

def putF (s : RQ) (h t : Int) : RQ × Int :=
  if hasQ s h = false ∨ t < 1 then (s, 1) else if t ∈ keysQ s then (s, 5) else if s.O.length = 64 then (s, 2) else (putS s h.toNat t, 0)
def wakeF (s : RQ) (t : Int) : RQ × Int × Int :=
  if (putF s (idleQ s s.H) t).2 = 0 then ((putF s (idleQ s s.H) t).1, idleQ s s.H, 0) else (s, 0, (putF s (idleQ s s.H) t).2)
def nextF (s : RQ) (h : Int) : RQ × Int × Bool :=
  if hasQ s h = false ∨ s.r h.toNat ≠ 0 then (s, 0, false)
  else if s.n h.toNat ≠ [] then (runS s h.toNat h.toNat 0, gb (s.n h.toNat) 0, true)
  else if s.n (busyQ s s.H) = [] then (s, 0, false)
  else (runS s h.toNat (busyQ s s.H) ((s.n (busyQ s s.H)).length - 1), gb (s.n (busyQ s s.H)) ((s.n (busyQ s s.H)).length - 1), true)
def tickF (s : RQ) (h : Int) : RQ × Bool :=
  if hasQ s h = false ∨ s.r h.toNat = 0 ∨ s.n h.toNat = [] then (s, false) else (tickS s h.toNat, true)
/-- Where a thread is. -/
def whereQ (s : RQ) (t : Int) : Nat := ((s.O.find? fun p => decide (p.1 = t)).map fun p => p.2.toNat).getD 0
def removeF (s : RQ) (t : Int) : RQ × Bool := if t ∈ keysQ s then (dropS s (whereQ s t) t, true) else (s, false)
def runningF (s : RQ) (h : Int) : Int := if hasQ s h then s.r h.toNat else 0
def sleepF (s : RQ) (h : Int) : RQ × Int × Int := if runningF s h = 0 then (s, 0, 4) else (dropS s h.toNat (s.r h.toNat), s.r h.toNat, 0)
def whereF (s : RQ) (t : Int) : Int × Bool := if t ∈ keysQ s then (whereQ s t, true) else (0, false)

theorem hasQ_nat {s : RQ} {h : Int} (hb : hasQ s h = true) : ∃ k : Nat, h = k ∧ k < s.H := by
  unfold hasQ at hb
  rw [decide_eq_true_eq] at hb
  exact ⟨h.toNat, by omega, by omega⟩
theorem whereQ_is {s : RQ} (o : OkQ s) {t : Int} {h : Nat} (ha : atQ s t h) : whereQ s t = h := by
  unfold whereQ
  have hm : (t, (h : Int)) ∈ s.O := (o.keys _ _).2 ⟨h, rfl, ha⟩
  cases e : s.O.find? (fun p => decide (p.1 = t)) with
  | none =>
    have := List.find?_eq_none.1 e _ hm
    simp at this
  | some p =>
    have h1 := List.mem_of_find?_eq_some e
    have h2 := List.find?_some e
    simp at h2
    obtain ⟨q, e1, ha2⟩ := (o.keys p.1 p.2).1 h1
    rw [h2] at ha2
    have := o.uniq _ _ _ ha2 ha
    simp [e1, this]
theorem putF_ok {s : RQ} (o : OkQ s) {h t : Int} (hw : iW t) : OkQ (putF s h t).1 := by
  unfold putF
  split
  · exact o
  · rename_i h1
    split
    · exact o
    · rename_i h2
      split
      · exact o
      · rename_i h3
        have hb : hasQ s h = true := by simpa using fun e => h1 (.inl e)
        obtain ⟨k, rfl, hk⟩ := hasQ_nat hb
        rw [Int.toNat_natCast]
        exact o.put hk (by have := fun e => h1 (.inr e); omega) hw h2 (by have := o.few; omega)
theorem wakeF_ok {s : RQ} (o : OkQ s) {t : Int} (hw : iW t) : OkQ (wakeF s t).1 := by
  unfold wakeF
  split
  · exact putF_ok o hw
  · exact o
theorem nextF_ok {s : RQ} (o : OkQ s) {h : Int} : OkQ (nextF s h).1 := by
  unfold nextF
  split
  · exact o
  · rename_i h1
    have hb : hasQ s h = true := by simpa using fun e => h1 (.inl e)
    have hr : s.r h.toNat = 0 := Decidable.byContradiction fun e => h1 (.inr e)
    obtain ⟨k, rfl, hk⟩ := hasQ_nat hb
    rw [Int.toNat_natCast] at hr
    rw [Int.toNat_natCast]
    split
    · rename_i h2
      exact o.run hk (List.length_pos_iff.2 h2) hr
    · split
      · exact o
      · rename_i h3
        exact o.run hk (by have := List.length_pos_iff.2 h3; omega) hr
theorem tickF_ok {s : RQ} (o : OkQ s) {h : Int} : OkQ (tickF s h).1 := by
  unfold tickF
  split
  · exact o
  · rename_i h1
    have hb : hasQ s h = true := by simpa using fun e => h1 (.inl e)
    obtain ⟨k, rfl, hk⟩ := hasQ_nat hb
    rw [Int.toNat_natCast]
    exact o.tick hk (fun e => h1 (.inr (.inl (by rw [Int.toNat_natCast]; exact e))))
theorem removeF_ok {s : RQ} (o : OkQ s) {t : Int} : OkQ (removeF s t).1 := by
  unfold removeF
  split
  · rename_i h1
    obtain ⟨k, ha⟩ := o.key.1 h1
    rw [whereQ_is o ha]
    exact o.drop ha
  · exact o
theorem running_at {s : RQ} (o : OkQ s) {h : Int} (hr : runningF s h ≠ 0) : ∃ k : Nat, h = k ∧ k < s.H ∧ runningF s h = s.r k ∧ atQ s (s.r k) k := by
  unfold runningF at hr ⊢
  split at hr
  · rename_i hb
    obtain ⟨k, rfl, hk⟩ := hasQ_nat hb
    rw [Int.toNat_natCast] at hr
    refine ⟨k, rfl, hk, by rw [if_pos hb, Int.toNat_natCast], ?_, .inl rfl⟩
    have := (o.wr k).1
    omega
  · exact absurd rfl hr
theorem sleepF_ok {s : RQ} (o : OkQ s) {h : Int} : OkQ (sleepF s h).1 := by
  unfold sleepF
  split
  · exact o
  · rename_i h1
    obtain ⟨k, rfl, _, _, ha⟩ := running_at o h1
    rw [Int.toNat_natCast]
    exact o.drop ha

def Rq (w : World) (g : Nat) (s : RQ) (F : List Nat) : Prop := OkQ s ∧ ∃ m vs, IsRq w g m s vs ∧ F = footQ g m vs
/-- A call has come to the state s'. -/
def DidR (w w' : World) (g : Nat) (F : List Nat) (s' : RQ) : Prop := ∃ F', Rq w' g s' F' ∧ Turn w w' F F'
section
variable {w w' : World} {g : Nat} {s : RQ} {F S : List Nat}
theorem Rq.same (R : Rq w g s F) (ho : Only [] w w') : DidR w w' g F s := by
  obtain ⟨o, m, vs, h, rfl⟩ := R
  exact ⟨_, ⟨o, m, vs, h.quiet ho, rfl⟩, Turn.same _ ho⟩
theorem Rq.only (R : Rq w g s F) (ho : Only S w w') (hs : ∀ k, k ∈ F → k ∉ S) : Rq w' g s F := by
  obtain ⟨o, m, vs, h, rfl⟩ := R
  exact ⟨o, m, vs, h.only ho hs, rfl⟩
theorem Rq.ltF (R : Rq w g s F) {k : Nat} (hk : k ∈ F) : k < w.heap.size := by
  obtain ⟨o, m, vs, h, rfl⟩ := R
  exact h.foot_lt hk
theorem did_of {m : Nat} {vs : Nat → Value} {s' : RQ} (o : OkQ s') (h : DidQ w w' g m vs s') : DidR w w' g (footQ g m vs) s' := by
  obtain ⟨vs', h1, h2⟩ := h
  exact ⟨_, ⟨o, m, vs', h1, rfl⟩, h2⟩
theorem rq_new (n : Nat) (h : 1 ≤ n ∧ n ≤ 8) : Calls Try.prog 4 #[.int .i64 n] w fun e w' => ∃ g F, e = .returned (.tuple #[.pointer (some ⟨g, 0, none⟩), .int .i64 0]) ∧ Rq w' g (emptyQ n) F ∧ (∀ q, q ∈ F → w.heap.size ≤ q) ∧ Only [] w w' := by
  refine (qNew_ok n h).mono ?_
  rintro e w' ⟨g, m, vs, rfl, h1, h2, h3⟩
  exact ⟨g, _, rfl, ⟨OkQ.empty h, m, vs, h1, rfl⟩, h2, h3⟩
theorem rq_put (R : Rq w g s F) (h t : Int) (hw : iW t) : Calls Try.prog 9 #[.pointer (some ⟨g, 0, none⟩), .int .i64 h, .int .i64 t] w fun e w' => e = .returned (.int .i64 (putF s h t).2) ∧ DidR w w' g F (putF s h t).1 := by
  have R0 := R
  obtain ⟨o, m, vs, hi, rfl⟩ := R
  have hok := putF_ok (h := h) o hw
  unfold putF at hok ⊢
  by_cases h1 : hasQ s h = false ∨ t < 1
  · rw [if_pos h1]
    refine (qPut_arg hi o.small h t h1).mono ?_
    rintro e w' ⟨rfl, rfl⟩
    exact ⟨rfl, R0.same (Only.refl _ _)⟩
  · rw [if_neg h1] at hok ⊢
    have hb : hasQ s h = true := by simpa using fun e => h1 (.inl e)
    have ht : 1 ≤ t := by have := fun e => h1 (.inr e); omega
    by_cases h2 : t ∈ keysQ s
    · rw [if_pos h2]
      obtain ⟨p, hp, e⟩ := List.mem_map.1 h2
      have hp' : (t, p.2) ∈ s.O := by rw [← e]; exact hp
      refine (qPut_busy hi o.small h t hb ht hp').mono ?_
      rintro e w' ⟨rfl, rfl⟩
      exact ⟨rfl, R0.same (Only.refl _ _)⟩
    · rw [if_neg h2] at hok ⊢
      by_cases h3 : s.O.length = 64
      · rw [if_pos h3]
        refine (qPut_full hi o.small h t hb ht hw h2 h3).mono ?_
        rintro e w' ⟨rfl, rfl⟩
        exact ⟨rfl, R0.same (Only.refl _ _)⟩
      · rw [if_neg h3] at hok ⊢
        obtain ⟨k, rfl, hk⟩ := hasQ_nat hb
        rw [Int.toNat_natCast] at hok ⊢
        refine (qPut_ok hi o.small k hk t ht hw h2 (by have := o.few; omega)).mono ?_
        rintro e w' ⟨rfl, hd⟩
        exact ⟨rfl, did_of hok hd⟩
theorem rq_next (R : Rq w g s F) (h : Int) : Calls Try.prog 10 #[.pointer (some ⟨g, 0, none⟩), .int .i64 h] w fun e w' => e = .returned (.tuple #[.int .i64 (nextF s h).2.1, .bool (nextF s h).2.2]) ∧ DidR w w' g F (nextF s h).1 := by
  have R0 := R
  obtain ⟨o, m, vs, hi, rfl⟩ := R
  have hok := nextF_ok (h := h) o
  unfold nextF at hok ⊢
  by_cases h1 : hasQ s h = false ∨ s.r h.toNat ≠ 0
  · rw [if_pos h1]
    refine (qNext_no hi o.small h h1).mono ?_
    rintro e w' ⟨rfl, rfl⟩
    exact ⟨rfl, R0.same (Only.refl _ _)⟩
  · rw [if_neg h1] at hok ⊢
    have hb : hasQ s h = true := by simpa using fun e => h1 (.inl e)
    have hr : s.r h.toNat = 0 := Decidable.byContradiction fun e => h1 (.inr e)
    obtain ⟨k, rfl, hk⟩ := hasQ_nat hb
    rw [Int.toNat_natCast] at hok hr ⊢
    by_cases h2 : s.n k = []
    · rw [if_neg (by simp [h2])] at hok ⊢
      by_cases h3 : s.n (busyQ s s.H) = []
      · rw [if_pos h3]
        refine (qNext_none hi o k hk hr h2 h3).mono ?_
        rintro e w' ⟨rfl, ho⟩
        exact ⟨rfl, R0.same ho⟩
      · rw [if_neg h3] at hok ⊢
        refine (qNext_steal hi o k hk hr h2 h3).mono ?_
        rintro e w' ⟨rfl, hd⟩
        exact ⟨rfl, did_of hok hd⟩
    · rw [if_pos h2] at hok ⊢
      refine (qNext_own hi o k hk hr h2).mono ?_
      rintro e w' ⟨rfl, hd⟩
      exact ⟨rfl, did_of hok hd⟩
theorem rq_tick (R : Rq w g s F) (h : Int) : Calls Try.prog 11 #[.pointer (some ⟨g, 0, none⟩), .int .i64 h] w fun e w' => e = .returned (.bool (tickF s h).2) ∧ DidR w w' g F (tickF s h).1 := by
  have R0 := R
  obtain ⟨o, m, vs, hi, rfl⟩ := R
  have hok := tickF_ok (h := h) o
  unfold tickF at hok ⊢
  by_cases h1 : hasQ s h = false ∨ s.r h.toNat = 0 ∨ s.n h.toNat = []
  · rw [if_pos h1]
    refine (qTick_no hi o.small h h1).mono ?_
    rintro e w' ⟨rfl, rfl⟩
    exact ⟨rfl, R0.same (Only.refl _ _)⟩
  · rw [if_neg h1] at hok ⊢
    have hb : hasQ s h = true := by simpa using fun e => h1 (.inl e)
    obtain ⟨k, rfl, hk⟩ := hasQ_nat hb
    rw [Int.toNat_natCast] at hok ⊢ h1
    refine (qTick_ok hi o.small k hk (fun e => h1 (.inr (.inl e))) (fun e => h1 (.inr (.inr e)))).mono ?_
    rintro e w' ⟨rfl, hd⟩
    exact ⟨rfl, did_of hok hd⟩
theorem rq_remove (R : Rq w g s F) (t : Int) (hw : iW t) : Calls Try.prog 20 #[.pointer (some ⟨g, 0, none⟩), .int .i64 t] w fun e w' => e = .returned (.bool (removeF s t).2) ∧ DidR w w' g F (removeF s t).1 := by
  have R0 := R
  obtain ⟨o, m, vs, hi, rfl⟩ := R
  have hok := removeF_ok (t := t) o
  unfold removeF at hok ⊢
  by_cases h1 : t ∈ keysQ s
  · rw [if_pos h1] at hok ⊢
    obtain ⟨k, ha⟩ := o.key.1 h1
    rw [whereQ_is o ha] at hok ⊢
    by_cases hr : s.r k = t
    · refine (qRemove_run hi o k t ha hr).mono ?_
      rintro e w' ⟨rfl, hd⟩
      exact ⟨rfl, did_of hok hd⟩
    · refine (qRemove_queue hi o k t ha hr).mono ?_
      rintro e w' ⟨rfl, hd⟩
      exact ⟨rfl, did_of hok hd⟩
  · rw [if_neg h1]
    refine (qRemove_no hi o.small t hw h1).mono ?_
    rintro e w' ⟨rfl, rfl⟩
    exact ⟨rfl, R0.same (Only.refl _ _)⟩
theorem rq_running (R : Rq w g s F) (h : Int) : Calls Try.prog 27 #[.pointer (some ⟨g, 0, none⟩), .int .i64 h] w fun e w' => e = .returned (.int .i64 (runningF s h)) ∧ w = w' := by
  obtain ⟨o, m, vs, hi, rfl⟩ := R
  exact qRunning_is hi o.small h
theorem rq_queue (R : Rq w g s F) (h : Int) : Calls Try.prog 12 #[.pointer (some ⟨g, 0, none⟩), .int .i64 h] w fun e w' => ∃ v', e = .returned v' ∧ IRow w' v' (queueQ s h) ∧ (∀ q, v'.ownBlock = some q → w.heap.size ≤ q) ∧ Only [] w w' := by
  obtain ⟨o, m, vs, hi, rfl⟩ := R
  exact qQueue_is hi o.small h
theorem rq_idle (R : Rq w g s F) : Calls Try.prog 24 #[.pointer (some ⟨g, 0, none⟩)] w fun e w' => e = .returned (.bool ((s.O.length : Int) == 0)) ∧ w = w' := by
  obtain ⟨o, m, vs, hi, rfl⟩ := R
  exact qIdle_is hi o.small
theorem rq_where (R : Rq w g s F) (t : Int) (hw : iW t) : Calls Try.prog 22 #[.pointer (some ⟨g, 0, none⟩), .int .i64 t] w fun e w' => e = .returned (.tuple #[.int .i64 (whereF s t).1, .bool (whereF s t).2]) ∧ w = w' := by
  obtain ⟨o, m, vs, hi, rfl⟩ := R
  unfold whereF
  by_cases h1 : t ∈ keysQ s
  · rw [if_pos h1]
    obtain ⟨k, ha⟩ := o.key.1 h1
    rw [whereQ_is o ha]
    exact qWhere_yes hi o.small ((o.keys _ _).2 ⟨k, rfl, ha⟩)
  · rw [if_neg h1]
    exact qWhere_no hi o.small hw h1
/-- Sleep. -/
theorem rq_sleep (R : Rq w g s F) (h : Int) : Calls Try.prog 18 #[.pointer (some ⟨g, 0, none⟩), .int .i64 h] w fun e w' => e = .returned (.tuple #[.int .i64 (sleepF s h).2.1, .int .i64 (sleepF s h).2.2]) ∧ DidR w w' g F (sleepF s h).1 := by
  have HC := hide (show Calls Try.prog 29 #[.pointer (some ⟨g, 0, none⟩)] w fun e w' => e = .returned (.bool false) ∧ w = w' from by
    obtain ⟨o, m, vs, hi, rfl⟩ := R
    exact qclosed_is hi o.small)
  have HR := hide (rq_running R h)
  have R0 := hide R
  unfold sleepF
  by_cases h1 : runningF s h = 0
  · rw [if_pos h1]
    rw [h1] at HR
    clear R
    go_enter Try.func18, Try.ntmps18
    go_wp2_with (first | (go_at_call 29; refine HC.out.mono ?_; rintro e w' ⟨rfl, rfl⟩) | (go_at_call 27; refine HR.out.mono ?_; rintro e w' ⟨rfl, rfl⟩))
    go_ret2
    exact ⟨rfl, R0.out.same (Only.refl _ _)⟩
  · rw [if_neg h1]
    obtain ⟨o, _⟩ := R
    obtain ⟨k, rfl, hk, e1, ha⟩ := running_at o h1
    rw [Int.toNat_natCast]
    have hb : (runningF s k == 0) = false := by simp [h1]
    have hw := (o.wr k).2
    have HM := hide (rq_remove R0.out (s.r k) hw)
    have e2 : removeF s (s.r k) = (dropS s k (s.r k), true) := by
      unfold removeF
      rw [if_pos (o.key.2 ⟨k, ha⟩), whereQ_is o ha]
    rw [e2] at HM
    rw [e1] at HR hb
    clear h1 e1 ha o hw e2
    go_enter Try.func18, Try.ntmps18
    go_wp2_with (first | (go_at_call 29; refine HC.out.mono ?_; rintro e w' ⟨rfl, rfl⟩) | (go_at_call 27; refine HR.out.mono ?_; rintro e w' ⟨rfl, rfl⟩) | (go_at_call 20; refine HM.out.mono ?_; rintro e w' ⟨rfl, hd⟩; have HD := hide hd; clear hd))
    go_ret2
    exact ⟨rfl, HD.out⟩
theorem qSleep_nil (w : World) (h : Int) : Calls Try.prog 18 #[.pointer none, .int .i64 h] w fun e w' => e = .returned (.tuple #[.int .i64 0, .int .i64 6]) ∧ w = w' := by
  have HC := hide (qclosed_nil w)
  go_enter Try.func18, Try.ntmps18
  go_wp2_with (go_at_call 29; refine HC.out.mono ?_; rintro e w' ⟨rfl, rfl⟩)
  go_ret2
  exact ⟨rfl, rfl⟩
theorem qWake_nil (w : World) (t : Int) : Calls Try.prog 14 #[.pointer none, .int .i64 t] w fun e w' => e = .returned (.tuple #[.int .i64 0, .int .i64 6]) ∧ w = w' := by
  have HC := hide (qclosed_nil w)
  go_enter Try.func14, Try.ntmps14
  go_wp2_with (go_at_call 29; refine HC.out.mono ?_; rintro e w' ⟨rfl, rfl⟩)
  go_ret2
  exact ⟨rfl, rfl⟩
theorem putF_err {s : RQ} {h t : Int} : (putF s h t).2 ≠ 0 → (putF s h t).1 = s := by
  unfold putF
  split
  · intro _; rfl
  · split
    · intro _; rfl
    · split
      · intro _; rfl
      · intro h; exact absurd rfl h
theorem rq_wake (R : Rq w g s F) (t : Int) (hw : iW t) : Calls Try.prog 14 #[.pointer (some ⟨g, 0, none⟩), .int .i64 t] w fun e w' => e = .returned (.tuple #[.int .i64 (wakeF s t).2.1, .int .i64 (wakeF s t).2.2]) ∧ DidR w w' g F (wakeF s t).1 := by
  have HC := hide (show Calls Try.prog 29 #[.pointer (some ⟨g, 0, none⟩)] w fun e w' => e = .returned (.bool false) ∧ w = w' from by
    obtain ⟨o, m, vs, hi, rfl⟩ := R
    exact qclosed_is hi o.small)
  have HI := hide (show Calls Try.prog 37 #[.pointer (some ⟨g, 0, none⟩)] w fun e w' => e = .returned (.int .i64 (idleQ s s.H)) ∧ w = w' from by
    obtain ⟨o, m, vs, hi, rfl⟩ := R
    exact qidlest_is hi o.small)
  have HP := hide (rq_put R (idleQ s s.H) t hw)
  have HE := hide (putF_err (s := s) (h := idleQ s s.H) (t := t))
  unfold wakeF
  clear R
  generalize putF s (idleQ s s.H) t = p at *
  obtain ⟨s1, e1⟩ := p
  by_cases h1 : e1 = 0
  · subst h1
    rw [if_pos rfl]
    clear HE
    go_enter Try.func14, Try.ntmps14
    go_wp2_with (first | (go_at_call 29; refine HC.out.mono ?_; rintro e w' ⟨rfl, rfl⟩) | (go_at_call 37; refine HI.out.mono ?_; rintro e w' ⟨rfl, rfl⟩) | (go_at_call 9; refine HP.out.mono ?_; rintro e w' ⟨rfl, hd⟩; have HD := hide hd; clear hd))
    go_ret2
    exact ⟨rfl, HD.out⟩
  · rw [if_neg h1]
    have hb : (e1 != 0) = true := by simp [h1]
    have e2 : s1 = s := HE.out h1
    subst e2
    clear HE h1
    go_enter Try.func14, Try.ntmps14
    go_wp2_with (first | (go_at_call 29; refine HC.out.mono ?_; rintro e w' ⟨rfl, rfl⟩) | (go_at_call 37; refine HI.out.mono ?_; rintro e w' ⟨rfl, rfl⟩) | (go_at_call 9; refine HP.out.mono ?_; rintro e w' ⟨rfl, hd⟩; have HD := hide hd; clear hd))
    go_ret2
    exact ⟨rfl, HD.out⟩
end
end Go.Proofs.Ytdinndpeoankdaa
