/-
  Processes and threads (parapet/proc): a table made behind w0, as a plain state; the chapter's example.
-/
import Derived.Test.YtdnnilpifnigiaaPrSame
import Derived.Test.YtdnnilpifnigiaaPrNil
namespace Go.Proofs.Ytdnnilpifnigiaa
open Go.ChangeShapes Go.WideShapes Go.ChangeAt Go.RowKit Go.Maps
set_option linter.unusedVariables false
set_option linter.unusedSimpArgs false
/-- A table made behind w0; n calls old. -/
structure Pt (w0 w : World) (t a b : Nat) (s : PS) (n : Int) : Prop where
  is_ : IsPt w t a b s
  ok : OkS s
  on : Only [] w0 w
  lt : w0.heap.size ≤ t
  la : w0.heap.size ≤ a
  lb : w0.heap.size ≤ b
  bp : s.lp ≤ n
  bt : s.lt ≤ n
section
variable {w0 w w' w1 : World} {t a b : Nat} {s s' : PS} {n m : Int} {pid tid code : Int}
theorem Pt.turn (h : Pt w0 w t a b s n) (hi : IsPt w' t a b s') (ok : OkS s') (ho : Only [t, a, b] w w') (h1 : s'.lp ≤ m) (h2 : s'.lt ≤ m) : Pt w0 w' t a b s' m := by
  have q1 := h.lt
  have q2 := h.la
  have q3 := h.lb
  refine ⟨hi, ok, h.on.trans' ho (fun q hq hm => ?_), q1, q2, q3, h1, h2⟩
  simp at hm
  omega
theorem Pt.quiet (h : Pt w0 w t a b s n) (ho : Only [] w w') : Pt w0 w' t a b s n := ⟨h.is_.quiet ho, h.ok, h.on.trans ho, h.lt, h.la, h.lb, h.bp, h.bt⟩
theorem Pt.later (h : Pt w0 w t a b s n) (hm : n ≤ m) : Pt w0 w t a b s m := ⟨h.is_, h.ok, h.on, h.lt, h.la, h.lb, Int.le_trans h.bp hm, Int.le_trans h.bt hm⟩
theorem pt_new (w : World) : Calls Try.prog 7 #[] w fun e w' => ∃ t a b, e = .returned (.pointer (some ⟨t, 0, none⟩)) ∧ Pt w w' t a b ps1 1 :=
  (new_is w).mono fun e w' ⟨t, a, b, q1, q2, q3, q4, q5, q6⟩ => ⟨t, a, b, q1, q2, OkS.first, q6, q3, q4, q5, Int.le_refl _, Int.le_refl _⟩
theorem pt_fork (h : Pt w0 w t a b s n) (hn : n < 4611686018427387000) (hk : iW pid) : Calls Try.prog 11 #[.pointer (some ⟨t, 0, none⟩), .int .i64 pid] w fun e w' => e = .returned (.tuple #[.int .i64 (forkS s pid).1.1, .int .i64 (forkS s pid).1.2.1, .int .i64 (forkS s pid).1.2.2]) ∧ Pt w0 w' t a b (forkS s pid).2 (n + 1) ∧ Only [t, a, b] w w' :=
  (fork_is h.is_ h.ok (by have := h.bp; omega) (by have := h.bt; omega) hk).mono fun e w' ⟨q1, q2, q3⟩ => ⟨q1, h.turn q2 (h.ok.fork pid) q3 (by have := (grow_fork s pid).1; have := h.bp; omega) (by have := (grow_fork s pid).2; have := h.bt; omega), q3⟩
theorem pt_spawn (h : Pt w0 w t a b s n) (hn : n < 4611686018427387000) (hk : iW pid) : Calls Try.prog 15 #[.pointer (some ⟨t, 0, none⟩), .int .i64 pid] w fun e w' => e = .returned (.tuple #[.int .i64 (spawnS s pid).1.1, .int .i64 (spawnS s pid).1.2]) ∧ Pt w0 w' t a b (spawnS s pid).2 (n + 1) ∧ Only [t, a, b] w w' :=
  (spawn_is h.is_ h.ok (by have := h.bt; omega) hk).mono fun e w' ⟨q1, q2, q3⟩ => ⟨q1, h.turn q2 (h.ok.spawn pid) q3 (by have := (grow_spawn s pid).1; have := h.bp; omega) (by have := (grow_spawn s pid).2; have := h.bt; omega), q3⟩
theorem pt_tend (h : Pt w0 w t a b s n) (hn : n < 4611686018427387000) (hk : iW tid) (code : Int) : Calls Try.prog 17 #[.pointer (some ⟨t, 0, none⟩), .int .i64 tid, .int .i64 code] w fun e w' => e = .returned (.tuple #[.bool (tendS s tid code).1.1, .int .i64 (tendS s tid code).1.2]) ∧ Pt w0 w' t a b (tendS s tid code).2 n ∧ Only [t, a, b] w w' :=
  (tend_is h.is_ h.ok (by have := h.bt; omega) hk code).mono fun e w' ⟨q1, q2, q3⟩ => ⟨q1, h.turn q2 (h.ok.tend tid code) q3 (by rw [(grow_tend s tid code).1]; exact h.bp) (by rw [(grow_tend s tid code).2]; exact h.bt), q3⟩
theorem pt_exit (h : Pt w0 w t a b s n) (hk : iW pid) (code : Int) : Calls Try.prog 12 #[.pointer (some ⟨t, 0, none⟩), .int .i64 pid, .int .i64 code] w fun e w' => ∃ v, e = .returned (.tuple #[v, .int .i64 (exitS s pid code).1.2]) ∧ KRow .i64 3 w' w.heap.size v (exitS s pid code).1.1 ∧ Pt w0 w' t a b (exitS s pid code).2 n ∧ Only [t, a, b] w w' :=
  (exit_is h.is_ h.ok hk code).mono fun e w' ⟨v, q1, q4, q2, q3⟩ => ⟨v, q1, q4, h.turn q2 (h.ok.exit pid code) q3 (by rw [(grow_exit s pid code).1]; exact h.bp) (by rw [(grow_exit s pid code).2]; exact h.bt), q3⟩
theorem pt_wait (h : Pt w0 w t a b s n) (hk : iW pid) : Calls Try.prog 19 #[.pointer (some ⟨t, 0, none⟩), .int .i64 pid] w fun e w' => e = .returned (.tuple #[.int .i64 (waitS s pid).1.1, .int .i64 (waitS s pid).1.2.1, .int .i64 (waitS s pid).1.2.2]) ∧ Pt w0 w' t a b (waitS s pid).2 n ∧ Only [t, a, b] w w' :=
  (wait_is h.is_ h.ok hk).mono fun e w' ⟨q1, q2, q3⟩ => ⟨q1, h.turn q2 (h.ok.wait pid) q3 (by rw [(grow_wait s pid).1]; exact h.bp) (by rw [(grow_wait s pid).2]; exact h.bt), q3⟩
theorem pt_procs (h : Pt w0 w t a b s n) : Calls Try.prog 23 #[.pointer (some ⟨t, 0, none⟩)] w fun e w' => ∃ v, e = .returned v ∧ KRow .i64 3 w' w.heap.size v (s.P.map (·.pid)) ∧ Only [] w w' :=
  procs_is h.is_ h.ok.sp (by have := h.ok.fp; omega)
theorem pt_threads (h : Pt w0 w t a b s n) : Calls Try.prog 24 #[.pointer (some ⟨t, 0, none⟩)] w fun e w' => ∃ v, e = .returned v ∧ KRow .i64 3 w' w.heap.size v (s.T.map (·.tid)) ∧ Only [] w w' :=
  threads_is h.is_ h.ok.st (by have := h.ok.ft; omega)
theorem pt_children (h : Pt w0 w t a b s n) (pid : Int) : Calls Try.prog 18 #[.pointer (some ⟨t, 0, none⟩), .int .i64 pid] w fun e w' => ∃ v, e = .returned v ∧ KRow .i64 3 w' w.heap.size v (chP s.P pid) ∧ Only [] w w' :=
  children_is h.is_ h.ok.sp (by have := h.ok.fp; omega) pid
theorem pt_proc (h : Pt w0 w t a b s n) (hk : iW pid) : Calls Try.prog 22 #[.pointer (some ⟨t, 0, none⟩), .int .i64 pid] w fun e w' => ∃ v, e = .returned (.tuple #[.agg (kTC (procS s pid).1 v), .int .i64 (procS s pid).2.2]) ∧ KRow .i64 3 w' w.heap.size v (procS s pid).2.1 ∧ Only [] w w' :=
  proc_is h.is_ h.ok hk
theorem pt_thread (h : Pt w0 w t a b s n) (hk : iW tid) : Calls Try.prog 16 #[.pointer (some ⟨t, 0, none⟩), .int .i64 tid] w fun e w' => e = .returned (.tuple #[sV (threadS s tid).1, .int .i64 (threadS s tid).2]) ∧ Only [] w w' := thread_is h.is_ hk
theorem KRow.sees {w : World} {B : Nat} {v : Value} {ns : List Int} (h : KRow .i64 3 w B v ns) : ZsAt w v ns := IRow.sees (h.base (Nat.zero_le _))
/-- A row of one number. -/
theorem zs_one {w : World} {q : Nat} {x : Int} (h : Blk w q 3 #[.int .i64 x]) : ZsAt w (.slice (some ⟨q, 0, none⟩) 1 1) [x] := IRow.sees (KRow.one (B := 0) h (Nat.zero_le _))
def as1 : PS := (forkS ps1 1).2
def as2 : PS := (forkS as1 2).2
def as3 : PS := (exitS as2 2 7).2
def as4 : PS := (waitS as3 1).2
set_option maxRecDepth 100000 in
set_option maxHeartbeats 1000000 in
theorem awake24 (w : World) : Calls Try.prog 8 #[] w fun e w' => e = .returned (.bool true) ∧ Only [] w w' := by
  have E1 := hide (show forkS ps1 1 = ((2, 2, 0), as1) from rfl)
  have E2 := hide (show forkS as1 2 = ((3, 3, 0), as2) from rfl)
  have E3 := hide (show exitS as2 2 7 = (([2], 0), as3) from rfl)
  have E4 := hide (show waitS as3 1 = ((2, 7, 0), as4) from rfl)
  have E5 := hide (show waitS as4 1 = ((0, 0, 211), as4) from rfl)
  have E6 := hide (show chP as4.P 1 = [3] from rfl)
  have S2 := hide (fun (W : World) (x : Int) A c B d (h1 : ZsAt W (.slice A 1 c) [x]) (h2 : ZsAt W (.slice B 1 d) [x]) => (same24_is h1 h2 (by simp) (by simp)).mono (R' := fun e w' => e = .returned (.bool true) ∧ Only [] W w') (fun e w' ⟨q1, q2⟩ => ⟨by rw [q1]; simp, q2⟩))
  go_enter Try.func8, Try.ntmps8
  go_wp2_with (first | (go_at_call 7; refine (pt_new _).mono ?_; rintro e w1 ⟨t, a, b, rfl, h1⟩; have H1 := hide h1; clear h1; have hx1 : True := trivial) | (go_at_call 11; clear hx1; refine (pt_fork H1.out (by decide) (by decide)).mono ?_; rw [E1.out]; rintro e w2 ⟨rfl, h2, -⟩; have H2 := hide h2; clear h2) | (go_at_call 11; refine (pt_fork H2.out (by decide) (by decide)).mono ?_; rw [E2.out]; rintro e w3 ⟨rfl, h3, -⟩; have H3 := hide h3; clear h3) | (go_at_call 12; refine (pt_exit H3.out (by decide) 7).mono ?_; rw [E3.out]; rintro e w4 ⟨v, rfl, hr, h4, -⟩; have H4 := hide h4; have HR := hide hr; have hv := HR.out.form; clear h4 hr; obtain ⟨A, cp, rfl, -⟩ := hv; have hy1 : True := trivial) | (go_at_call 19; clear hy1; refine (pt_wait H4.out (by decide)).mono ?_; rw [E4.out]; rintro e w5 ⟨rfl, h5, ho⟩; have H5 := hide h5; have HR5 := hide (HR.out.only ho (fun q hq hm => by have := (HR.out.at_ hq).1; have := H4.out.is_.lt_; have := H3.out.is_.lt_; simp at hm; omega)); clear h5 ho) | (go_at_call 19; refine (pt_wait H5.out (by decide)).mono ?_; rw [E5.out]; rintro e w6 ⟨rfl, h6, ho⟩; have H6 := hide h6; have HR6 := hide (HR5.out.only ho (fun q hq hm => by have := (HR5.out.at_ hq).1; have := H3.out.is_.lt_; simp at hm; omega)); clear h6 ho) | (go_at_call 26; refine (S2.out _ 2 _ _ _ _ (HR6.out.sees.quiet ((Only.refl _ _).alloc _)) (zs_one (Blk.new _ _ _))).mono ?_; rintro e w7 ⟨rfl, ho⟩; have H7 := hide (H6.out.quiet (((Only.refl _ _).alloc _).trans ho)); clear ho HR6) | (go_at_call 18; refine (pt_children H7.out 1).mono ?_; rw [E6.out]; rintro e w8 ⟨v8, rfl, hr8, ho⟩; obtain ⟨A8, cp8, rfl, -⟩ := hr8.form; have HR8 := hide hr8; have H8 := hide (H7.out.quiet ho); clear ho hr8) | (go_at_call 26; refine (S2.out _ 3 _ _ _ _ (HR8.out.sees.quiet ((Only.refl _ _).alloc _)) (zs_one (Blk.new _ _ _))).mono ?_; rintro e w9 ⟨rfl, ho⟩; have HO9 := hide (H8.out.on.trans (((Only.refl _ _).alloc _).trans ho)); clear ho))
  go_ret
  exact ⟨rfl, HO9.out⟩
end
end Go.Proofs.Ytdnnilpifnigiaa
