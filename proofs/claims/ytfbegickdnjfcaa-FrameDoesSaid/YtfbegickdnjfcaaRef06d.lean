/-
  The document's own frames (parapetref06): Alloc, Incr.
-/
import Derived.Test.YtfbegickdnjfcaaRef06c
namespace Go.Proofs.Ytfbegickdnjfcaa
open Go.ChangeShapes Go.WideShapes Go.ChangeAt Go.RowKit
set_option linter.unusedVariables false
set_option linter.unusedSimpArgs false
section
variable {w w' w1 w5 : World} {a cC bL : Nat} {vs : Nat → Value} {Z Z1 : List Nat} {first harts : Nat} {ns ns1 ns2 : Nat → List Int} {S : List Nat} {v5 : Value} {zs : List Int}
theorem rfill_is (R : R6 w a cC bL vs Z first harts ns) (h : Nat) (hh : h < harts) (he : (ns (4 + h)).length = 0) :
    Calls Try.prog 45 #[.pointer (some ⟨a, 0, none⟩), .int .i64 h] w fun e w' => e = .returned (.tuple #[]) ∧ DidR w w' a cC bL Z first harts (fillN ns h) := by
  rw [show fillN ns h = refillN ns h by unfold fillN; rw [if_pos he]]
  by_cases h0 : (ns 12).length = 0
  · exact rfill_other R h hh he h0
  · exact rfill_common R h hh he (by omega)
theorem DidR.refl (R : R6 w a cC bL vs Z first harts ns) : DidR w w a cC bL Z first harts ns := ⟨vs, Z, R, ⟨Only.refl _ _, fun _ => .inl⟩, Only.refl _ _⟩

theorem ralloc_arg (R : R6 w a cC bL vs Z first harts ns) (h : Int) (hh : ¬ (0 ≤ h ∧ h < harts)) :
    Calls Try.prog 21 #[.pointer (some ⟨a, 0, none⟩), .int .i64 h] w fun e w' => e = .returned (.tuple #[.int .i64 0, .int .i64 1]) ∧ w = w' := by
  have c2 := R.c2
  by_cases h0 : h < 0
  · clear R
    go_enter Try.func21, Try.ntmps21
    go_wp2_with fail
    go_ret2
    exact ⟨rfl, rfl⟩
  · have h1 : (harts : Int) ≤ h := by omega
    have h2 : ¬ h < 0 := h0
    clear R
    go_enter Try.func21, Try.ntmps21
    go_wp2_with fail
    go_ret2
    exact ⟨rfl, rfl⟩

set_option maxHeartbeats 1000000 in
theorem ralloc_full (R : R6 w a cC bL vs Z first harts ns) (h : Nat) (hh : h < harts) (hz : (fillN ns h (4 + h)).length = 0) :
    Calls Try.prog 21 #[.pointer (some ⟨a, 0, none⟩), .int .i64 h] w fun e w' => e = .returned (.tuple #[.int .i64 0, .int .i64 2]) ∧ DidR w w' a cC bL Z first harts (fillN ns h) := by
  have h8 := R.hh
  have c2 := R.c2
  have hl := R.cl h hh
  obtain ⟨A, c, hv, -⟩ := R.form (o := 4 + h) (.inr ⟨by omega, by omega⟩)
  rw [hv] at hl
  have hhi : (h : Int) < harts := by omega
  have h00 : ¬ ((h : Int) < 0) := by omega
  have he : (ns (4 + h)).length = 0 := by
    refine Classical.byContradiction fun he => ?_
    unfold fillN at hz
    rw [if_neg he] at hz
    exact he hz
  rw [he] at hl
  have HFL := hide (rfill_is R h hh he)
  clear R hv
  go_enter Try.func21, Try.ntmps21
  go_wp2_with fail
  refine HFL.out.mono ?_
  rintro e w1 ⟨rfl, vs1, Z1, R1, T1, O1⟩
  obtain ⟨A1, e1, hv1, hA1, p1, p2, hsee1⟩ := R1.form (o := 4 + h) (.inr ⟨by omega, by omega⟩)
  have d2 := R1.c2
  have dl := R1.cl h hh
  rw [hv1, hz] at dl
  have HD := hide (show DidR w w1 a cC bL Z first harts (fillN ns h) from ⟨vs1, Z1, R1, T1, O1⟩)
  clear hsee1 R1 T1 O1 hA1 p1 p2
  go_wp2
  go_ret2
  exact ⟨rfl, HD.out⟩

theorem rincr_no (R : R6 w a cC bL vs Z first harts ns) (x : Int) (hx : x ≤ 9223372036854775807) (h0 : cntF first ns x = 0) : Calls Try.prog 25 #[.pointer (some ⟨a, 0, none⟩), .int .i64 x] w fun e w' => e = .returned (.int .i64 60) ∧ ∃ n, w' = w.drewN n := by
  have HN := hide (rcount_is R x hx)
  rw [h0] at HN
  clear R h0
  go_enter Try.func25, Try.ntmps25
  go_wp2_with (go_at_call 27; refine HN.out.mono ?_; rintro e w' ⟨rfl, n, rfl⟩)
  go_ret
  exact ⟨rfl, _, rfl⟩

theorem rincr_full (R : R6 w a cC bL vs Z first harts ns) (x : Int) (hx : x ≤ 9223372036854775807) (h0 : cntF first ns x = 1048576) : Calls Try.prog 25 #[.pointer (some ⟨a, 0, none⟩), .int .i64 x] w fun e w' => e = .returned (.int .i64 2) ∧ ∃ n, w' = w.drewN n := by
  have HN := hide (fun n => rcount_is (R.drewN n) x hx)
  rw [h0] at HN
  clear R h0
  go_enter Try.func25, Try.ntmps25
  go_wp2_with (go_at_call 27; refine ((HN.out 0).mono ?_); rintro e w' ⟨rfl, n, rfl⟩)
  go_wp2_with (go_at_call 27; refine ((HN.out _).mono ?_); rintro e w' ⟨rfl, n2, rfl⟩)
  go_ret
  exact ⟨rfl, _, rfl⟩

set_option maxHeartbeats 1000000 in
theorem rincr_ok (R : R6 w a cC bL vs Z first harts ns) (x : Int) (k : Nat) (hxk : x = first + k) (hk : k < (ns 2).length) (c : Int) (hcv : gb (ns 2) k = c) (c0 : 0 < c) (c1 : c < 1048576) :
    Calls Try.prog 25 #[.pointer (some ⟨a, 0, none⟩), .int .i64 x] w fun e w' => e = .returned (.int .i64 0) ∧ DidR w w' a cC bL Z first harts (upd ns 2 ((ns 2).set k (c + 1))) := by
  have hsm := R.small
  have HN := hide (fun n => rcount_is (R.drewN n) x (by omega))
  rw [cntF_at hxk hk, hcv] at HN
  have hd0 := R.c0
  have hd1 := R.c1
  have hd3 : w.cell? ⟨cC, k, none⟩ = some (.int .i64 c) := by rw [R.cc k hk, hcv]
  have hd4 := R.cnt.frozen k
  have HD := hide (fun n => (show DidR w ((w.drewN n).setCell ⟨cC, k, none⟩ (.int .i64 (c + 1))) a cC bL Z first harts (upd ns 2 ((ns 2).set k (c + 1))) from by
    have ho : Only [] w (w.drewN n) := (Only.refl [] w).drewN n
    obtain ⟨R3, T3⟩ := R.setCount hk (c + 1) ho
    exact ⟨_, _, R3, T3, (ho.mono (by simp)).trans ((Only.refl _ _).setCell _ (by simp))⟩))
  have hw1 : IntKind.i64.wrap (x - (first : Int)) = k := by rw [IntKind.wrap_i64]; omega
  have hw2 : x - (first : Int) = k := by omega
  have hw3 : (k : Int) < (ns 2).length := by omega
  have e0 : (c == 0) = false := beq_eq_false_iff_ne.2 (by omega)
  have e1 : (c == 1048576) = false := beq_eq_false_iff_ne.2 (by omega)
  clear R hxk hcv hk
  go_enter Try.func25, Try.ntmps25
  go_wp2_with (go_at_call 27; refine ((HN.out 0).mono ?_); rintro e w' ⟨rfl, n, rfl⟩)
  go_wp2_with (go_at_call 27; refine ((HN.out _).mono ?_); rintro e w' ⟨rfl, n2, rfl⟩)
  go_region
  go_wp2
  go_ret
  exact ⟨rfl, HD.out _⟩

/-- The counts' cell, told behind Alloc's copy. -/
theorem DidR.count (h : DidR w w1 a cC bL Z first harts ns1) {k : Nat} (hk : k < (ns1 2).length) (x : Int) :
    (w1.cell? ⟨a, 0, none⟩ = some (.int .i64 first) ∧ w1.cell? ⟨a, 1, none⟩ = some (.slice (some ⟨cC, 0, none⟩) (ns1 2).length (ns1 2).length) ∧ w1.cell? ⟨cC, k, none⟩ = some (.int .i64 (gb (ns1 2) k)) ∧ w1.frozen? ⟨cC, k, none⟩ = false) ∧
    ∀ n, DidR w ((w1.setCell ⟨cC, k, none⟩ (.int .i64 x)).drewN n) a cC bL Z first harts (upd ns1 2 ((ns1 2).set k x)) := by
  obtain ⟨vs1, Z1, R1, T1, O1⟩ := h
  refine ⟨⟨R1.c0, R1.c1, R1.cc k hk, R1.cnt.frozen k⟩, fun n => ?_⟩
  obtain ⟨R3, T3⟩ := R1.setCount hk x (Only.refl [] w1)
  exact DidR.drewN ⟨_, _, R3, T1.trans T3, O1.trans ((Only.refl _ _).setCell _ (by simp))⟩ n
theorem SeesZ.blk {A : Option Addr} {n c : Nat} (h : SeesZ w (.slice A n c) zs Z) (hp : 0 < zs.length) : ∃ b o, A = some ⟨b, o, none⟩ ∧ b ∈ Z ∧ b < w.heap.size ∧ ∀ i, i < zs.length → w.cell? ⟨b, o + i, none⟩ = some (.int .i64 (gb zs i)) := by
  obtain ⟨A', c', e, _, _, _, hA⟩ := h
  injection e with e1 e2 e3
  subst e1
  exact hA hp

set_option maxRecDepth 100000 in
set_option maxHeartbeats 1000000 in
theorem ralloc_ok (R : R6 w a cC bL vs Z first harts ns) (h k : Nat) (hh : h < harts) (hp : 0 < (fillN ns h (4 + h)).length) (hk : k < (ns 2).length) (x : Int) (hx : gb (fillN ns h (4 + h)) ((fillN ns h (4 + h)).length - 1) = x) (hxk : x = first + k) :
    Calls Try.prog 21 #[.pointer (some ⟨a, 0, none⟩), .int .i64 h] w fun e w' => e = .returned (.tuple #[.int .i64 x, .int .i64 0]) ∧ DidR w w' a cC bL Z first harts (allocN ns h k) := by
  have h8 := R.hh
  have hsm := R.small
  have c2 := R.c2
  have hl := R.cl h hh
  obtain ⟨A, c, hv, -⟩ := R.form (o := 4 + h) (.inr ⟨by omega, by omega⟩)
  rw [hv] at hl
  have hhi : (h : Int) < harts := by omega
  have h00 : ¬ ((h : Int) < 0) := by omega
  have hw1 : IntKind.i64.wrap (x - (first : Int)) = k := by rw [IntKind.wrap_i64]; omega
  have hw2 : x - (first : Int) = k := by omega
  have hw3 : (k : Int) < (ns 2).length := by omega
  by_cases he : (ns (4 + h)).length = 0
  · have HFL := hide (rfill_is R h hh he)
    rw [he] at hl
    clear R hv
    go_enter Try.func21, Try.ntmps21
    go_wp2_with fail
    refine HFL.out.mono ?_
    rintro e w1 ⟨rfl, vs1, Z1, R1, T1, O1⟩
    obtain ⟨A1, e1, hv1, hA1, p1, p2, hsee1⟩ := R1.form (o := 4 + h) (.inr ⟨by omega, by omega⟩)
    obtain ⟨b1, o1, eA, hb1z, hb1, hcs⟩ := (hsee1 w1 (Only.refl _ _)).blk hp
    subst eA
    have d2 := R1.c2
    have d2a : ∀ o, (w1.alloc o).cell? ⟨a, 2, none⟩ = some (.slice (some ⟨bL, 0, none⟩) harts harts) := fun o => Lib.cell?_alloc_some _ d2
    have dl := R1.cl h hh
    rw [hv1] at dl
    have hlen := R1.few (4 + h)
    have hcell := hcs ((fillN ns h (4 + h)).length - 1) (by omega)
    rw [hx] at hcell
    have hn2 := fillN_2 ns h
    obtain ⟨m, hm⟩ : ∃ m, (fillN ns h (4 + h)).length - 1 = m := ⟨_, rfl⟩
    have hlm : (fillN ns h (4 + h)).length = m + 1 := by omega
    have HTK := hide (show ((fillN ns h (4 + h)).take m).length = m by rw [List.length_take]; omega)
    have HMB := hide (show m ≤ 100000 by omega)
    have HNW := hide (SeesZ.head (m := m) hsee1)
    have HP := hide (fun A5 c5 w5 (hcp : Copied w1 w5 (.slice A5 m c5) ((fillN ns h (4 + h)).take m)) => (show (w5.cell? ⟨a, 2, none⟩ = some (.slice (some ⟨bL, 0, none⟩) harts harts) ∧ w5.cell? ⟨bL, h, none⟩ = some (vs1 (4 + h)) ∧ w5.frozen? ⟨bL, h, none⟩ = false) ∧
        DidR w (w5.setCell ⟨bL, h, none⟩ (.slice A5 m c5)) a cC bL Z first harts (upd (fillN ns h) (4 + h) ((fillN ns h (4 + h)).take m)) from by
      have R5 := R1.only hcp.only (by simp)
      refine ⟨⟨R5.c2, R5.cl h hh, R5.lst.frozen _⟩, ?_⟩
      obtain ⟨vs2, Z2, R2, T2, O2⟩ := R1.copyList hh hcp (by rw [List.length_take]; omega)
      exact ⟨vs2, Z2, R2, T1.trans T2, O1.trans O2⟩))
    clear hsee1 R1 T1 O1 hA1 hcs hb1z hx hp hl c2 HFL
    rw [hlm] at dl
    rw [hm] at hcell
    have hci : (m : Int) + 1 ≤ e1 := by omega
    have hcm : (e1 : Int) ≤ 9223372036854775807 := by unfold maxLen at p2; omega
    have hme : m ≤ e1 := by omega
    have hme9 : (m : Int) ≤ e1 := by omega
    have hwm : IntKind.i64.wrap (m : Int) = m := by rw [IntKind.wrap_i64]; omega
    have HKL := hide (show k < (upd (fillN ns h) (4 + h) ((fillN ns h (4 + h)).take m) 2).length by rw [upd_far _ _ (show (2 : Nat) ≠ 4 + h by omega), hn2]; exact hk)
    have HAL := hide (show upd (upd (fillN ns h) (4 + h) ((fillN ns h (4 + h)).take m)) 2 ((upd (fillN ns h) (4 + h) ((fillN ns h (4 + h)).take m) 2).set k 1) = allocN ns h k by
      unfold allocN
      rw [upd_far _ _ (show (2 : Nat) ≠ 4 + h by omega), hn2, hm])
    have HN2 := hide (show upd (fillN ns h) (4 + h) ((fillN ns h (4 + h)).take m) 2 = ns 2 by rw [upd_far _ _ (show (2 : Nat) ≠ 4 + h by omega), hn2])
    clear hn2 hk
    go_wp2
    go_region_law (refine step_copy rfl _ _ rfl w1.heap.size (by simp [Act.eval]) (Blk.new w1 3 #[]) (some ⟨b1, o1, none⟩) m e1 (by simp [Act.eval]) (fun e => by cases e) ((fillN ns h (4 + h)).take m) HTK.out (HNW.out _ (by repeat (first | exact Only.refl _ _ | apply Only.drew | apply Only.alloc))) HMB.out w1 (by repeat (first | exact Only.refl _ _ | apply Only.drew | apply Only.alloc)) (Nat.le_refl _) ?_; intro A5 c5 w5 hcp; obtain ⟨⟨k1, k2, k3⟩, k4⟩ := HP.out A5 c5 w5 hcp; have HD5 := hide k4; clear hcp k4)
    all_goals
      clear k1 k2 k3 d2 d2a dl hcell HP HNW HTK HMB hci hcm hme hme9 hwm
      have HD5' := HD5
      clear HD5
      generalize w5.setCell ⟨bL, h, none⟩ (.slice A5 m c5) = w6 at HD5' ⊢
      obtain ⟨⟨g0, g1, g2, g3⟩, g4⟩ := HD5'.out.count HKL.out 1
      rw [HAL.out] at g4
      rw [HN2.out] at g1 g2
      have HD6 := hide g4
      clear g4 HD5' HKL HAL HN2
      go_wp2
      go_region
      go_wp2
      go_ret2
      exact ⟨by rw [hxk]; rfl, HD6.out _⟩
  · obtain ⟨vs1, Z1, R1, T1, O1⟩ := DidR.refl (show R6 w a cC bL vs Z first harts (fillN ns h) by unfold fillN; rw [if_neg he]; exact R)
    clear R hv
    obtain ⟨A1, e1, hv1, hA1, p1, p2, hsee1⟩ := R1.form (o := 4 + h) (.inr ⟨by omega, by omega⟩)
    obtain ⟨b1, o1, eA, hb1z, hb1, hcs⟩ := (hsee1 w (Only.refl _ _)).blk hp
    subst eA
    have d2 := R1.c2
    have d2a : ∀ o, (w.alloc o).cell? ⟨a, 2, none⟩ = some (.slice (some ⟨bL, 0, none⟩) harts harts) := fun o => Lib.cell?_alloc_some _ d2
    have dl := R1.cl h hh
    rw [hv1] at dl
    have hlen := R1.few (4 + h)
    have hcell := hcs ((fillN ns h (4 + h)).length - 1) (by omega)
    rw [hx] at hcell
    have hn2 := fillN_2 ns h
    obtain ⟨m, hm⟩ : ∃ m, (fillN ns h (4 + h)).length - 1 = m := ⟨_, rfl⟩
    have hlm : (fillN ns h (4 + h)).length = m + 1 := by omega
    have HTK := hide (show ((fillN ns h (4 + h)).take m).length = m by rw [List.length_take]; omega)
    have HMB := hide (show m ≤ 100000 by omega)
    have HNW := hide (SeesZ.head (m := m) hsee1)
    have HP := hide (fun A5 c5 w5 (hcp : Copied w w5 (.slice A5 m c5) ((fillN ns h (4 + h)).take m)) => (show (w5.cell? ⟨a, 2, none⟩ = some (.slice (some ⟨bL, 0, none⟩) harts harts) ∧ w5.cell? ⟨bL, h, none⟩ = some (vs1 (4 + h)) ∧ w5.frozen? ⟨bL, h, none⟩ = false) ∧
        DidR w (w5.setCell ⟨bL, h, none⟩ (.slice A5 m c5)) a cC bL Z first harts (upd (fillN ns h) (4 + h) ((fillN ns h (4 + h)).take m)) from by
      have R5 := R1.only hcp.only (by simp)
      refine ⟨⟨R5.c2, R5.cl h hh, R5.lst.frozen _⟩, ?_⟩
      obtain ⟨vs2, Z2, R2, T2, O2⟩ := R1.copyList hh hcp (by rw [List.length_take]; omega)
      exact ⟨vs2, Z2, R2, T1.trans T2, O1.trans O2⟩))
    clear hsee1 R1 T1 O1 hA1 hcs hb1z hx hp hl c2 he
    rw [hlm] at dl
    rw [hm] at hcell
    have hci : (m : Int) + 1 ≤ e1 := by omega
    have hcm : (e1 : Int) ≤ 9223372036854775807 := by unfold maxLen at p2; omega
    have hme : m ≤ e1 := by omega
    have hme9 : (m : Int) ≤ e1 := by omega
    have hwm : IntKind.i64.wrap (m : Int) = m := by rw [IntKind.wrap_i64]; omega
    have HKL := hide (show k < (upd (fillN ns h) (4 + h) ((fillN ns h (4 + h)).take m) 2).length by rw [upd_far _ _ (show (2 : Nat) ≠ 4 + h by omega), hn2]; exact hk)
    have HAL := hide (show upd (upd (fillN ns h) (4 + h) ((fillN ns h (4 + h)).take m)) 2 ((upd (fillN ns h) (4 + h) ((fillN ns h (4 + h)).take m) 2).set k 1) = allocN ns h k by
      unfold allocN
      rw [upd_far _ _ (show (2 : Nat) ≠ 4 + h by omega), hn2, hm])
    have HN2 := hide (show upd (fillN ns h) (4 + h) ((fillN ns h (4 + h)).take m) 2 = ns 2 by rw [upd_far _ _ (show (2 : Nat) ≠ 4 + h by omega), hn2])
    clear hn2 hk
    go_enter Try.func21, Try.ntmps21
    go_wp2
    go_region_law (refine step_copy rfl _ _ rfl w.heap.size (by simp [Act.eval]) (Blk.new w 3 #[]) (some ⟨b1, o1, none⟩) m e1 (by simp [Act.eval]) (fun e => by cases e) ((fillN ns h (4 + h)).take m) HTK.out (HNW.out _ (by repeat (first | exact Only.refl _ _ | apply Only.drew | apply Only.alloc))) HMB.out w (by repeat (first | exact Only.refl _ _ | apply Only.drew | apply Only.alloc)) (Nat.le_refl _) ?_; intro A5 c5 w5 hcp; obtain ⟨⟨k1, k2, k3⟩, k4⟩ := HP.out A5 c5 w5 hcp; have HD5 := hide k4; clear hcp k4)
    all_goals
      clear k1 k2 k3 d2 d2a dl hcell HP HNW HTK HMB hci hcm hme hme9 hwm
      have HD5' := HD5
      clear HD5
      generalize w5.setCell ⟨bL, h, none⟩ (.slice A5 m c5) = w6 at HD5' ⊢
      obtain ⟨⟨g0, g1, g2, g3⟩, g4⟩ := HD5'.out.count HKL.out 1
      rw [HAL.out] at g4
      rw [HN2.out] at g1 g2
      have HD6 := hide g4
      clear g4 HD5' HKL HAL HN2
      go_wp2
      go_region
      go_wp2
      go_ret2
      exact ⟨by rw [hxk]; rfl, HD6.out _⟩
end
end Go.Proofs.Ytfbegickdnjfcaa
