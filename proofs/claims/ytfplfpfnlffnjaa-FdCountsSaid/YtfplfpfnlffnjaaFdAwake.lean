/-
  Open files (parapet/fdtab): the example of the chapter.
-/
import Derived.Test.YtfplfpfnlffnjaaFdFork
namespace Go.Proofs.Ytfplfpfnlffnjaa
open Go.ChangeShapes Go.WideShapes Go.ChangeAt Go.RowKit Go.Maps
set_option linter.unusedVariables false
set_option linter.unusedSimpArgs false
def aO (r : Int) : List (Int × F5) := [((0 : Int), ⟨1, 5, 0, 0, r⟩)]
def aT0 : List Int := List.replicate 16 (-1)
def aT1 : List Int := 0 :: List.replicate 15 (-1)
def aT2 : List Int := 0 :: 0 :: List.replicate 14 (-1)
def aT3 : List Int := -1 :: 0 :: List.replicate 14 (-1)
/-- Files and a table made behind world w0. -/
structure Aw (w0 w : World) (f m t : Nat) (O : List (Int × F5)) (T : List Int) : Prop where
  fi : IsFi w f m O
  ta : IsTa w t f T
  on : Only [] w0 w
  lf : w0.heap.size ≤ f
  lm : w0.heap.size ≤ m
  lt : w0.heap.size ≤ t
section
variable {w0 w w' w1 : World} {t c f m : Nat} {O O' : List (Int × F5)} {T T' : List Int} {S : List Nat} {k : Int} {x : F5}
theorem Aw.turn (h : Aw w0 w f m t O T) (ho : Only [t, m] w w') (hf : IsFi w' f m O') (ht : IsTa w' t f T') : Aw w0 w' f m t O' T' := by
  have h1 := h.lf
  have h2 := h.lm
  have h3 := h.lt
  refine ⟨hf, ht, h.on.trans' ho (fun q hq hm => ?_), h1, h2, h3⟩
  simp at hm
  omega
theorem Aw.quiet (h : Aw w0 w f m t O T) (ho : Only [] w w') : Aw w0 w' f m t O T := ⟨h.fi.quiet ho, h.ta.quiet ho, h.on.trans ho, h.lf, h.lm, h.lt⟩
theorem aw_new (w : World) : Calls Try.prog 25 #[] w fun e w' => ∃ f m, e = .returned (.pointer (some ⟨f, 0, none⟩)) ∧ IsFi w' f m [] ∧ Only [] w w' ∧ w.heap.size ≤ f ∧ w.heap.size ≤ m :=
  (fdNew_is w).mono fun e w' ⟨h1, h2, h3⟩ => ⟨_, _, h1, h3, h2, Nat.le_succ _, Nat.le_refl _⟩
theorem aw_table (h : IsFi w f m []) (ho : Only [] w0 w) (h1 : w0.heap.size ≤ f) (h2 : w0.heap.size ≤ m) : Calls Try.prog 23 #[.pointer (some ⟨f, 0, none⟩)] w fun e w' => ∃ t, e = .returned (.pointer (some ⟨t, 0, none⟩)) ∧ Aw w0 w' f m t [] aT0 :=
  (table_is h).mono fun e w' ⟨q1, q2, q3⟩ => ⟨_, q1, h.quiet q3, q2, ho.trans q3, h1, h2, ho.size⟩
theorem aw_open (h : Aw w0 w f m t [] T) : Calls Try.prog 10 #[.pointer (some ⟨f, 0, none⟩), .int .i64 1, .int .i64 5, .int .i64 0] w fun e w' => e = .returned (.tuple #[.int .i64 0, .int .i64 0]) ∧ Aw w0 w' f m t (aO 1) T := by
  refine (open_ok h.fi 5 0 (by omega) (by omega) (by simp)).mono ?_
  rintro e w' ⟨i, hi, rfl, hn, hj, hf, ho⟩
  obtain rfl : i = 0 := by
    rcases Nat.eq_zero_or_pos i with e | e
    · exact e
    · have := hj 0 e
      simp at this
  exact ⟨rfl, h.turn (ho.mono (fun q _ hq => by simp at hq; simp [hq])) hf (h.ta.only ho (by simpa using (h.ta.tf h.fi).2))⟩
theorem aw_install (h : Aw w0 w f m t (aO 1) aT0) : Calls Try.prog 11 #[.pointer (some ⟨t, 0, none⟩), .int .i64 0] w fun e w' => e = .returned (.tuple #[.int .i64 0, .int .i64 0]) ∧ Aw w0 w' f m t (aO 1) aT1 := by
  refine (install_ok (i := 0) h.ta h.fi (by decide) (by decide) (by decide) (by decide)).mono ?_
  rintro e w' ⟨rfl, ht, ho⟩
  obtain ⟨n1, n2⟩ := h.ta.tf h.fi
  exact ⟨rfl, h.turn (ho.mono (fun q _ hq => by simp at hq; simp [hq])) (h.fi.only ho (by simpa using n1.symm) (by simpa using n2.symm)) ht⟩
theorem aw_dup (h : Aw w0 w f m t (aO 1) aT1) : Calls Try.prog 12 #[.pointer (some ⟨t, 0, none⟩), .int .i64 0] w fun e w' => e = .returned (.tuple #[.int .i64 1, .int .i64 0]) ∧ Aw w0 w' f m t (aO 2) aT2 := by
  refine (dup_ok (i := 0) (j := 1) (k := 0) (x := ⟨1, 5, 0, 0, 1⟩) h.ta h.fi (by decide) (by decide) (by simp [aO]) (by decide) (by decide) (by decide) (by decide)).mono ?_
  rintro e w' ⟨rfl, ht, hf, ho⟩
  exact ⟨rfl, h.turn ho hf ht⟩
theorem aw_fork (h : Aw w0 w f m t (aO 2) aT2) : Calls Try.prog 14 #[.pointer (some ⟨t, 0, none⟩)] w fun e w' => ∃ c, e = .returned (.tuple #[.pointer (some ⟨c, 0, none⟩), .int .i64 0]) ∧ Aw w0 w' f m t (aO 4) aT2 ∧ IsTa w' c f aT2 ∧ c ≠ t ∧ c ≠ m := by
  refine (fork_is (B := 2) h.ta h.fi (fun p hp => by simp [aO] at hp; subst hp; decide) (by decide)).mono ?_
  rintro e w' ⟨c, hc, rfl, h1, h2, h3, h4, ho⟩
  have l1 := h.ta.blk.lt
  have l2 := h.fi.lt
  exact ⟨c, rfl, h.turn (ho.mono (fun q _ hq => by simp at hq; simp [hq])) h3 h2, h1, by omega, by omega⟩
theorem aw_close (h : Aw w0 w f m t (aO 4) aT2) (hc : IsTa w c f aT2) (n1 : c ≠ t) (n2 : c ≠ m) : Calls Try.prog 13 #[.pointer (some ⟨t, 0, none⟩), .int .i64 0] w fun e w' => e = .returned (.tuple #[.agg #[.int .i64 1, .int .i64 5, .int .i64 0, .int .i64 0, .int .i64 3], .bool false, .int .i64 0]) ∧ Aw w0 w' f m t (aO 3) aT3 ∧ IsTa w' c f aT2 := by
  refine (close_any (i := 0) (k := 0) h.ta h.fi (by decide) (by decide) (by decide) (fun W hW => drop_more (x := ⟨1, 5, 0, 0, 4⟩) hW (by simp [aO]) (by decide) (by decide))).mono ?_
  rintro e w' ⟨rfl, h1, h2, ho⟩
  exact ⟨rfl, h.turn ho h2 h1, hc.only ho (by simp [n1, n2])⟩
theorem aw_free (h : Aw w0 w f m t O aT3) : Calls Try.prog 9 #[.pointer (some ⟨t, 0, none⟩)] w fun e w' => e = .returned (.int .i64 15) ∧ Aw w0 w' f m t O aT3 :=
  (free_is h.ta).mono fun e w' ⟨q1, q2⟩ => ⟨q1.trans (by rw [show (16 : Int) - ((fdsN aT3 16).length : Nat) = 15 by decide]), h.quiet q2⟩
theorem KRow.zero {B : Nat} {v : Value} {ns : List Int} (h : KRow .i64 3 w B v ns) : IRow w v ns := by
  obtain ⟨h1, e | ⟨g, cap, cur, e, hB, rest⟩⟩ := h
  · exact ⟨h1, .inl e⟩
  · exact ⟨h1, .inr ⟨g, cap, cur, e, Nat.zero_le _, rest⟩⟩
theorem zs_two {q : Nat} {a b : Int} (h : Blk w q 3 #[.int .i64 a, .int .i64 b]) : ZsAt w (.slice (some ⟨q, 0, none⟩) 2 2) [a, b] := by
  refine ⟨some ⟨q, 0, none⟩, 2, rfl, by simp, by simp, fun ad e => ?_⟩
  injection e with e
  subst e
  refine ⟨q, 0, rfl, h.lt, fun j u hu => ?_⟩
  rw [h.cell, ← hu, Nat.zero_add]
  simp [i64l]
theorem aw_same {v : Value} (h : IRow w v (fdsN aT2 16)) : Calls Try.prog 32 #[v, .slice (some ⟨w.heap.size, 0, none⟩) 2 2] (w.alloc (.cells #[.int .i64 0, .int .i64 1] 3)) fun e w' => e = .returned (.bool true) ∧ Only [] w w' := by
  refine (same22_is ((IRow.sees h).quiet ((Only.refl _ _).alloc _)) (zs_two (Blk.new w 3 #[.int .i64 0, .int .i64 1])) (by decide) (by decide)).mono ?_
  rintro e w' ⟨rfl, ho⟩
  exact ⟨by rw [show decide (fdsN aT2 16 = [0, 1]) = true by decide], ((Only.refl _ _).alloc _).trans ho⟩
theorem awake_is (w : World) : Calls Try.prog 18 #[] w fun e w' => e = .returned (.bool true) ∧ Only [] w w' := by
  go_enter Try.func18, Try.ntmps18
  go_wp2_with (first | (go_at_call 25; refine (aw_new _).mono ?_; rintro e w1 ⟨f, m, rfl, h1, h2, h3, h4⟩; have H1 := hide (And.intro h1 (And.intro h2 (And.intro h3 h4))); clear h1 h2 h3 h4) | (go_at_call 23; refine (aw_table H1.out.1 H1.out.2.1 H1.out.2.2.1 H1.out.2.2.2).mono ?_; rintro e w2 ⟨t, rfl, h⟩; have H2 := hide h; clear h) | (go_at_call 10; refine (aw_open H2.out).mono ?_; rintro e w3 ⟨rfl, h⟩; have H3 := hide h; clear h) | (go_at_call 11; refine (aw_install H3.out).mono ?_; rintro e w4 ⟨rfl, h⟩; have H4 := hide h; clear h) | (go_at_call 12; refine (aw_dup H4.out).mono ?_; rintro e w5 ⟨rfl, h⟩; have H5 := hide h; clear h) | (go_at_call 14; refine (aw_fork H5.out).mono ?_; rintro e w6 ⟨c, rfl, h, h1, h2, h3⟩; have H6 := hide (And.intro h (And.intro h1 (And.intro h2 h3))); clear h h1 h2 h3) | (go_at_call 13; refine (aw_close H6.out.1 H6.out.2.1 H6.out.2.2.1 H6.out.2.2.2).mono ?_; rintro e w7 ⟨rfl, h, h1⟩; have H7 := hide (And.intro h h1); clear h h1) | (go_at_call 24; refine (fds_is (H7.out.2.quiet ((Only.refl _ _).alloc _))).mono ?_; rintro e w8 ⟨v, rfl, hr, ho⟩; have H8 := hide (And.intro (H7.out.1.quiet (((Only.refl _ _).alloc _).trans ho)) hr.zero); clear hr ho) | (go_at_call 32; refine (aw_same H8.out.2).mono ?_; rintro e w9 ⟨rfl, ho⟩; have H9 := hide (H8.out.1.quiet ho); clear ho) | (go_at_call 9; refine (aw_free H9.out).mono ?_; rintro e w10 ⟨rfl, ho⟩; have H10 := hide ho; clear ho))
  go_ret
  exact ⟨rfl, H10.out.on⟩
end
end Go.Proofs.Ytfplfpfnlffnjaa
