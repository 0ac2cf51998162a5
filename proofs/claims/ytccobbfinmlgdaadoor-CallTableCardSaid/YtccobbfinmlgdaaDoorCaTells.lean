/-
  The walk of 'CallTells'.
-/
import Derived.Test.YtccobbfinmlgdaaDoorCaWord2
namespace Go.Proofs.YtccobbfinmlgdaaDoor
open Go.ChangeShapes Go.WideShapes Go.ChangeAt Go.RowKit
set_option linter.unusedVariables false

theorem word_some {n : Int} (h : ¬ ∀ x ∈ wordL, x.1 ≠ n) : wordF n ≠ ⟨#[]⟩ ∧ 2 ≤ n ∧ n ≤ 39 := by
  rcases word_cases n with hc | ⟨hno, -⟩
  · rcases hc with rfl | rfl | rfl | rfl | rfl | rfl | rfl | rfl | rfl | rfl | rfl | rfl | rfl | rfl | rfl | rfl | rfl | rfl | rfl | rfl | rfl | rfl <;> decide +kernel
  · exact absurd hno h
theorem resF_bd (v e : Int) : 0 ≤ resF v e ∧ resF v e < 4294967296 := by
  unfold resF
  split <;> omega
theorem resF_err {v e : Int} (h0 : 2 ≤ e) (h1 : e ≤ 39) : resF v e = 4294967296 - e := by
  unfold resF
  rw [if_neg (by omega)]
  have : wrap64 (-e) = -e := by unfold wrap64; omega
  omega
theorem told_err {v e : Int} (h0 : 2 ≤ e) (h1 : e ≤ 39) : toldV (resF v e) = 0 ∧ toldE (resF v e) = e := by
  rw [resF_err h0 h1]
  constructor
  · exact if_pos (by omega)
  · unfold toldE; rw [if_pos (by omega)]; omega
theorem told_val {v : Int} (h0 : 0 ≤ v) (h1 : v ≤ 2147483647) : toldV (resF v 0) = v ∧ toldE (resF v 0) = 0 := by
  have e : resF v 0 = v := by unfold resF; rw [if_pos rfl]; omega
  rw [e]
  exact ⟨if_neg (by omega), if_neg (by omega)⟩
set_option maxRecDepth 100000 in
set_option maxHeartbeats 4000000 in
theorem callTells_walk (v e r : Int) (r0 : 0 ≤ r) (r1 : r < 4294967296) (w : World) (hT : TabS w) : Calls Tryd.prog 6 #[.int .i64 v, .int .i64 e, .int .u32 r] w fun x w' => x = .returned (.bool true) ∧ Below w.heap.size w w' := by
  have HA := hide (awake26 w hT)
  have HR := hide (fun w => cresult_is v e w)
  have HX := hide (fun w => xresult_is v e w)
  have HT := hide (fun w => ctold_is r r0 r1 w)
  have HU := hide (fun w => xtold_is r r0 r1 w)
  have HW := hide (fun w => cword_is e w)
  have HV := hide (fun w => ctold_is (resF v e) (resF_bd v e).1 (resF_bd v e).2 w)
  have HR0 := hide (fun w => cresult_is v 0 w)
  have HV0 := hide (fun w => ctold_is (resF v 0) (resF_bd v 0).1 (resF_bd v 0).2 w)
  generalize toldV r = rv at *
  generalize toldE r = re at *
  have key : ∀ (b : Bool), (b = true → toldV (resF v e) = 0 ∧ toldE (resF v e) = e) → (wordF e).toList.isEmpty = !b → ∀ (c d : Bool), decide (0 ≤ v) = c → decide (v ≤ 2147483647) = d → (c = true → d = true → toldV (resF v 0) = v ∧ toldE (resF v 0) = 0) →
      Calls Tryd.prog 6 #[.int .i64 v, .int .i64 e, .int .u32 r] w fun x w' => x = .returned (.bool true) ∧ Below w.heap.size w w' := by
    intro b hb hbe c d hc hd hcd
    have HB := hide hb
    have HCD := hide hcd
    generalize wordF e = wd at *
    generalize resF v e = q at *
    generalize resF v 0 = q0 at *
    clear hb hcd hT r0 r1
    go_enter Tryd.func6, Tryd.ntmps6
    go_wp2_with fail
    refine HA.out.mono ?_
    rintro x w1 ⟨rfl, o1⟩
    go_wp2_with fail
    refine (HR.out _).mono ?_
    rintro x w2 ⟨rfl, rfl⟩
    go_wp2_with fail
    refine (HX.out _).mono ?_
    rintro x w2 ⟨rfl, rfl⟩
    go_wp2_with fail
    refine (HT.out _).mono ?_
    rintro x w2 ⟨rfl, rfl⟩
    go_wp2_with fail
    refine (HU.out _).mono ?_
    rintro x w2 ⟨rfl, rfl⟩
    go_wp2_with fail
    refine (HW.out _).mono ?_
    rintro x w2 ⟨rfl, o2⟩
    have HO := hide (o1.trans o2)
    clear o1 o2
    cases b
    · have hb0 : wd.toList.isEmpty = true := hbe
      clear hbe
      have hcc := hc
      cases c
      · clear hcc
        go_wp2
        go_ret
        exact ⟨rfl, HO.out.below (Nat.le_refl _) (by simp)⟩
      · cases d
        · have h0 : 0 ≤ v := by simpa using hc
          clear hc hcc
          go_wp2
          go_ret
          exact ⟨rfl, HO.out.below (Nat.le_refl _) (by simp)⟩
        · have h0 : 0 ≤ v := by simpa using hc
          have h1 : v ≤ 2147483647 := by simpa using hd
          obtain ⟨e3, e4⟩ := HCD.out rfl rfl
          rw [e3, e4] at HV0
          clear hc hcc hd e3 e4
          go_wp2_with fail
          refine (HR0.out _).mono ?_
          rintro x w2 ⟨rfl, rfl⟩
          go_wp2_with fail
          refine (HV0.out _).mono ?_
          rintro x w2 ⟨rfl, rfl⟩
          go_wp2
          go_ret
          exact ⟨rfl, HO.out.below (Nat.le_refl _) (by simp)⟩
    · have hb0 : wd.toList.isEmpty = false := hbe
      obtain ⟨e1, e2⟩ := HB.out rfl
      rw [e1, e2] at HV
      clear hbe e1 e2
      go_wp2_with fail
      refine (HR.out _).mono ?_
      rintro x w2 ⟨rfl, rfl⟩
      go_wp2_with fail
      refine (HV.out _).mono ?_
      rintro x w2 ⟨rfl, rfl⟩
      have hcc := hc
      cases c
      · clear hcc
        go_wp2
        go_ret
        exact ⟨rfl, HO.out.below (Nat.le_refl _) (by simp)⟩
      · cases d
        · have h0 : 0 ≤ v := by simpa using hc
          clear hc hcc
          go_wp2
          go_ret
          exact ⟨rfl, HO.out.below (Nat.le_refl _) (by simp)⟩
        · have h0 : 0 ≤ v := by simpa using hc
          have h1 : v ≤ 2147483647 := by simpa using hd
          obtain ⟨e3, e4⟩ := HCD.out rfl rfl
          rw [e3, e4] at HV0
          clear hc hcc hd e3 e4
          go_wp2_with fail
          refine (HR0.out _).mono ?_
          rintro x w2 ⟨rfl, rfl⟩
          go_wp2_with fail
          refine (HV0.out _).mono ?_
          rintro x w2 ⟨rfl, rfl⟩
          go_wp2
          go_ret
          exact ⟨rfl, HO.out.below (Nat.le_refl _) (by simp)⟩
  by_cases hno : ∀ x ∈ wordL, x.1 ≠ e
  · refine key false (fun h => by cases h) ?_ _ _ rfl rfl (fun h0 h1 => told_val (by simpa using h0) (by simpa using h1))
    rw [wordF_no hno, Lib.toList_data]
    rfl
  · obtain ⟨h1, h2, h3⟩ := word_some hno
    exact key true (fun _ => told_err h2 h3) (str_some h1) _ _ rfl rfl (fun h0 h1 => told_val (by simpa using h0) (by simpa using h1))
end Go.Proofs.YtccobbfinmlgdaaDoor
