/-
  Frames (parapet/frame): List, Common, Free, Used.
-/
import Derived.Test.YtfbegickdnjfcaaFrOps
namespace Go.Proofs.Ytfbegickdnjfcaa
open Go.ChangeShapes Go.WideShapes Go.ChangeAt Go.RowKit
set_option linter.unusedVariables false

theorem cloneI_nil (n c : Nat) (w : World) : Calls Try.prog 34 #[.slice none n c] w fun e w' => e = .returned (.slice none 0 0) ∧ w = w' := by
  have q22 : ∀ (w : World) (a : Option Addr) (n c n' c' : Nat), (binOp .eql 46 (.slice a n c) (.slice none n' c')).run Try.prog w = .ok (.bool a.isNone) w := fun w a n c n' c' => Lib.run_eql_slice_nil w _ _ a n c n' c' Try.underlying46
  go_enter Try.func34, Try.ntmps34
  go_wp2
  go_ret
  exact ⟨rfl, rfl⟩

/-- A new row of ints. -/
def NewRow (w w' : World) (e : Ending) (ns : List Int) : Prop := ∃ v', e = .returned v' ∧ KRow .i64 3 w' w.heap.size v' ns ∧ Only [] w w'

theorem cloneI_ok (ad : Addr) (n c : Nat) (xs : List Int) (w : World) (hx : xs.length = n) (hbig : n < 4000000000000) (hc : ∀ i, i < n → w.cell? (ad.add i) = some (.int .i64 (gb xs i))) :
    Calls Try.prog 34 #[.slice (some ad) n c] w fun e w' => NewRow w w' e xs := by
  obtain ⟨i0, hi, hz0, hz1, hz2⟩ := info_parts info_int
  have q22 : ∀ (w : World) (a : Option Addr) (n c n' c' : Nat), (binOp .eql 46 (.slice a n c) (.slice none n' c')).run Try.prog w = .ok (.bool a.isNone) w := fun w a n c n' c' => Lib.run_eql_slice_nil w _ _ a n c n' c' Try.underlying46
  have A := hide hc
  clear hc
  go_enter Try.func34, Try.ntmps34
  go_wp2_with (at_builtin; refine wpList_append_own _ rfl _ _ 46 rfl w.heap.size 3 i0 (.int .i64 0) 1 8 Try.underlying46 hi hz0 hz1 hz2 rfl (by decide) _ _ _ rfl (World.ownsRow_made w #[] 0 (Nat.le_refl _) (Nat.zero_le _) rfl) ad n c (i64l xs) rfl ?qc1 ?qc2 ?qc3 ?qc4 ?qc5 ?qc6 ?_)
  case qc1 => rw [i64l_length]; omega
  case qc2 =>
    intro j u hj
    have hjn : j < n := by
      have := (List.getElem?_eq_some_iff.1 hj).1
      rw [i64l_length] at this
      omega
    refine Lib.cell?_alloc_some _ ?_
    rw [A.out j hjn]
    have e : (i64l xs)[j]? = some (Value.int .i64 (gb xs j)) := by simp [i64l, gb, List.getD, List.getElem?_eq_getElem (show j < xs.length by omega)]
    rw [e] at hj
    exact hj
  case qc3 => exact i64l_one xs
  case qc4 => unfold maxLen; omega
  case qc5 => omega
  case qc6 => simp
  intro v' w1 hown hgrow hnil
  have hf : KRow .i64 3 w1 w.heap.size v' xs := by
    unfold KRow
    rw [hx]
    simpa [i64l] using hown
  have ho : Only [] w w1 := Only.of_below (((Below.refl _ w).alloc (Nat.le_refl _) _).grown hgrow (by simp) (by intro k hk; simp [Value.ownBlock] at hk; omega))
  clear hown hgrow hnil A q22
  go_wp2
  go_ret
  exact ⟨v', rfl, hf, ho⟩

theorem clone_row {w : World} {v : Value} {ns : List Int} (h : IRow w v ns) (hbig : ns.length < 4000000000000) : Calls Try.prog 34 #[v] w fun e w' => NewRow w w' e ns := by
  obtain ⟨A, c, rfl, hA⟩ := h.form
  rcases A with _ | ad
  · refine (cloneI_nil _ _ _).mono ?_
    rintro e w' ⟨rfl, rfl⟩
    have h0 : ns.length = 0 := by
      rcases Nat.eq_zero_or_pos ns.length with h0 | h0
      · exact h0
      · obtain ⟨b, e, _⟩ := hA h0
        cases e
    have : ns = [] := List.eq_nil_of_length_eq_zero h0
    subst this
    exact ⟨_, rfl, KRow.nil _ _ _ _, Only.refl _ _⟩
  · refine cloneI_ok ad ns.length c ns w rfl hbig (fun i hi => ?_)
    obtain ⟨b, e, _, _, hc⟩ := hA (by omega)
    injection e with e
    subst e
    rw [add_at, Nat.zero_add]
    exact hc i hi

section
variable {w w' : World} {t g d cap : Nat} {xs : List Int} {r : List Value} {first harts : Nat} {v : Nat → Value} {ns ns' : Nat → List Int} {S : List Nat}

theorem list_no (F : IsFr w t g d cap xs r first harts v ns) (h : Int) (hh : ¬ (0 ≤ h ∧ h < harts)) : Calls Try.prog 13 #[.pointer (some ⟨t, 0, none⟩), .int .i64 h] w fun e w' => e = .returned (.slice none 0 0) ∧ w = w' := by
  have HC := hide (fclosed_is F)
  have HH := hide (fhasHart_is F h)
  rw [show (decide (0 ≤ h) && decide (h < (harts : Int))) = false by rw [← Bool.decide_and]; exact decide_eq_false hh] at HH
  clear F hh
  go_enter Try.func13, Try.ntmps13
  go_wp2_with (first | (go_at_call 33; refine HC.out.mono ?_; rintro e w' ⟨rfl, rfl⟩) | (go_at_call 35; refine HH.out.mono ?_; rintro e w' ⟨rfl, rfl⟩))
  go_ret
  exact ⟨rfl, rfl⟩

theorem list_ok (F : IsFr w t g d cap xs r first harts v ns) (h : Nat) (hh : h < harts) (hs : (ns (4 + h)).length ≤ 4096) : Calls Try.prog 13 #[.pointer (some ⟨t, 0, none⟩), .int .i64 h] w fun e w' => NewRow w w' e (ns (4 + h)) := by
  have h8 := F.hh
  have hhi : (h : Int) < 8 := by omega
  have hsl : Slot (4 + h) := by unfold Slot; omega
  have HC := hide (fclosed_is F)
  have HH := hide (fhasHart_is F h)
  rw [show (decide (0 ≤ (h : Int)) && decide ((h : Int) < (harts : Int))) = true by simp; omega] at HH
  have HCL := hide (clone_row (F.rows.row (4 + h) hsl) (by omega))
  have hc := F.cell (4 + h) (by omega)
  obtain ⟨A, c, hv, -⟩ := (F.rows.row (4 + h) hsl).form
  rw [hv] at hc HCL
  clear F hv hs hh h8
  go_enter Try.func13, Try.ntmps13
  go_wp2_with (first | (go_at_call 33; refine HC.out.mono ?_; rintro e w' ⟨rfl, rfl⟩) | (go_at_call 35; refine HH.out.mono ?_; rintro e w' ⟨rfl, rfl⟩) | (go_at_call 34; refine HCL.out.mono ?_; rintro e w' ⟨v', rfl, hr, ho⟩))
  go_ret
  exact ⟨v', rfl, hr, ho⟩

theorem common_ok (F : IsFr w t g d cap xs r first harts v ns) (hs : (ns 12).length ≤ 4096) : Calls Try.prog 31 #[.pointer (some ⟨t, 0, none⟩)] w fun e w' => NewRow w w' e (ns 12) := by
  have hsl : Slot 12 := by unfold Slot; omega
  have HC := hide (fclosed_is F)
  have HCL := hide (clone_row (F.rows.row 12 hsl) (by omega))
  have hc := F.cell 12 (by omega)
  obtain ⟨A, c, hv, -⟩ := (F.rows.row 12 hsl).form
  rw [hv] at hc HCL
  clear F hv hs
  go_enter Try.func31, Try.ntmps31
  go_wp2_with (first | (go_at_call 33; refine HC.out.mono ?_; rintro e w' ⟨rfl, rfl⟩) | (go_at_call 34; refine HCL.out.mono ?_; rintro e w' ⟨v', rfl, hr, ho⟩))
  go_ret
  exact ⟨v', rfl, hr, ho⟩

/-- How many frames are free: the common ones and the first k lists. -/
def sumL (ns : Nat → List Int) : Nat → Nat
  | 0 => (ns 12).length
  | k + 1 => sumL ns k + (ns (4 + k)).length
theorem sumL_le (ns : Nat → List Int) (hs : ∀ o, Slot o → (ns o).length ≤ 4096) : ∀ k, k ≤ 8 → sumL ns k ≤ 4096 * (k + 1)
  | 0, _ => by have := hs 12 (by unfold Slot; omega); unfold sumL; omega
  | k + 1, h => by
    have := sumL_le ns hs k (by omega)
    have := hs (4 + k) (by unfold Slot; omega)
    unfold sumL; omega

set_option maxRecDepth 100000 in
theorem free_is (F : IsFr w t g d cap xs r first harts v ns) (hs : ∀ o, Slot o → (ns o).length ≤ 4096) : Calls Try.prog 30 #[.pointer (some ⟨t, 0, none⟩)] w fun e w' => e = .returned (.int .i64 (sumL ns 8)) ∧ w = w' := by
  have q4 := F.cell 4 (by decide)
  have q5 := F.cell 5 (by decide)
  have q6 := F.cell 6 (by decide)
  have q7 := F.cell 7 (by decide)
  have q8 := F.cell 8 (by decide)
  have q9 := F.cell 9 (by decide)
  have q10 := F.cell 10 (by decide)
  have q11 := F.cell 11 (by decide)
  have q12 := F.cell 12 (by decide)
  obtain ⟨A12, c12, hv12, -⟩ := (F.rows.row 12 (by unfold Slot; omega)).form
  rw [hv12] at q12
  have HC := hide (fclosed_is F)
  have HF := hide F
  have HS := hide hs
  clear F hs hv12
  go_enter Try.func30, Try.ntmps30
  go_wp2_with (go_at_call 33; refine HC.out.mono ?_; rintro e w' ⟨rfl, rfl⟩)
  go_loopw [3, 17] (fun nv iv wr => ∃ k : Nat, k ≤ 8 ∧ iv = .int .i64 k ∧ nv = .int .i64 (sumL ns k) ∧ wr = w) (fun _ iv _ => 8 - (intOf iv).toNat)
  case atStart => exact ⟨0, by decide, rfl, rfl, rfl⟩
  case round =>
    obtain ⟨k, hk, rfl, rfl, rfl⟩ := hrel
    have hsk := sumL_le ns HS.out k hk
    by_cases hlt : k < 8
    · obtain ⟨A, c, hA, _⟩ := (HF.out.rows.row (4 + k) (by unfold Slot; omega)).form
      have hx := run_index8 v k hlt wr hA
      have hs1 := HS.out (4 + k) (by unfold Slot; omega)
      have HE := hide (show ((sumL ns (k + 1) : Nat) : Int) = (sumL ns k : Int) + (ns (4 + k)).length by rw [sumL]; omega)
      go_wp2
      go_roundw
      case rel => exact ⟨k + 1, by omega, by go_num, by rw [HE.out], trivial⟩
      case measure => simp [intOf]; omega
    · obtain rfl : k = 8 := by omega
      rw [show ((8 : Nat) : Int) = 8 from rfl]
      go_wp2
      go_ret
      exact ⟨rfl, rfl⟩

theorem used_is (F : IsFr w t g d cap xs r first harts v ns) (hs : ∀ o, Slot o → (ns o).length ≤ 4096) : Calls Try.prog 29 #[.pointer (some ⟨t, 0, none⟩)] w fun e w' => e = .returned (.int .i64 (((ns 2).length : Int) - sumL ns 8)) ∧ ∃ n, w' = w.drewN n := by
  have HC := hide (fclosed_is F)
  have HFr := hide (fun n => free_is (F.drewN n) hs)
  have h2 := F.cell 2 (by decide)
  obtain ⟨A, c, hv, -⟩ := (F.rows.row 2 (by unfold Slot; omega)).form
  rw [hv] at h2
  have b0 := sumL_le ns hs 8 (by omega)
  have b1 := hs 2 (by unfold Slot; omega)
  have hw : IntKind.i64.wrap (((ns 2).length : Int) - (sumL ns 8 : Int)) = ((ns 2).length : Int) - sumL ns 8 := by rw [IntKind.wrap_i64]; omega
  clear F hs hv
  go_enter Try.func29, Try.ntmps29
  go_wp2_with (go_at_call 33; refine HC.out.mono ?_; rintro e w' ⟨rfl, rfl⟩)
  go_quiet (first | (go_at_call 30; exact Calls.quiet_of_same ((HFr.out _).mono fun _ _ h => ⟨h.1, h.2.symm⟩)))
  go_wp2
  go_ret
  exact ⟨rfl, _, rfl⟩
end
end Go.Proofs.Ytfbegickdnjfcaa
