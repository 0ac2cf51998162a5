/-
  'FrameDoes': does, for each kind of a step.
-/
import Derived.Test.YtfbegickdnjfcaaRef06h
import Derived.Test.YtfbegickdnjfcaaFrZero
import Derived.Test.YtfbegickdnjfcaaFrGive
namespace Go.Proofs.Ytfbegickdnjfcaa
open Go.ChangeShapes Go.WideShapes Go.ChangeAt Go.RowKit
set_option linter.unusedVariables false
set_option linter.unusedSimpArgs false
section
variable {w w' w1 w2 : World} {n0 t g d cap : Nat} {xs xs' : List Int} {r : List Value} {first harts : Nat} {v : Nat → Value} {ns ns' : Nat → List Int} {a cC bL : Nat} {vs : Nat → Value} {Z : List Nat}
/-- does, kind 0: a hart that is none. -/
theorem does_alloc_arg (B : B6 w n0 t g d cap xs r first harts v ns a cC bL vs Z ns) (P : P6 xs first ns) (h x : Int) (hh : ¬ (0 ≤ h ∧ h < harts)) :
    Calls Try.prog 9 #[.pointer (some ⟨g, 0, none⟩), .pointer (some ⟨t, 0, none⟩), .pointer (some ⟨a, 0, none⟩), .agg #[.int .i64 0, .int .i64 h, .int .i64 x]] w fun e w' => e = .returned (.bool true) ∧ Did6 w w' n0 t g d cap xs.length r first harts (ns 2).length a cC bL := by
  have HB := hide (fun W (ho : Only [] w W) => B.only ho)
  have HF := hide (fun W (ho : Only [] w W) => alloc_arg (HB.out W ho).1.fr h hh)
  have HR := hide (fun W (ho : Only [] w W) => ralloc_arg (HB.out W ho).1.rf h hh)
  have HP := hide P
  clear B P hh
  go_enter Try.func9, Try.ntmps9
  go_wp2_with (first | (go_at_call 12; refine (HF.out _ (by repeat (first | exact Only.refl _ _ | apply Only.drew | apply Only.alloc))).mono ?_; rintro e w' ⟨rfl, rfl⟩) | (go_at_call 21; refine (HR.out _ (by repeat (first | exact Only.refl _ _ | apply Only.drew | apply Only.alloc))).mono ?_; rintro e w' ⟨rfl, rfl⟩))
  go_ret
  obtain ⟨B', hb⟩ := HB.out _ ((Only.refl [] w).alloc _)
  exact ⟨rfl, ⟨_, _, _, _, _, B', HP.out, rfl, rfl⟩, hb⟩

set_option maxHeartbeats 1000000 in
/-- does, kind 0: a frame is given, or none is left. -/
theorem does_alloc (B : B6 w n0 t g d cap xs r first harts v ns a cC bL vs Z ns) (P : P6 xs first ns) (h : Nat) (x : Int) (hh : h < harts) :
    Calls Try.prog 9 #[.pointer (some ⟨g, 0, none⟩), .pointer (some ⟨t, 0, none⟩), .pointer (some ⟨a, 0, none⟩), .agg #[.int .i64 0, .int .i64 h, .int .i64 x]] w fun e w' => e = .returned (.bool true) ∧ Did6 w w' n0 t g d cap xs.length r first harts (ns 2).length a cC bL := by
  have h8 := B.fr.hh
  have hfit := B.fr.fit
  have hsl : ∀ o, Slot o → (ns o).length ≤ 4096 := P.good.few
  obtain ⟨W0, hW0⟩ : ∃ W0 : World, W0 = w.alloc (.cells #[.int .i64 0, .int .i64 h, .int .i64 x] 37) := ⟨_, rfl⟩
  have ho0 : Only [] w W0 := by rw [hW0]; exact (Only.refl _ _).alloc _
  obtain ⟨B0, hb0⟩ := B.only ho0
  have hbx := B.boxed
  have hB : Blk W0 w.heap.size 37 #[.int .i64 0, .int .i64 h, .int .i64 x] := by rw [hW0]; exact Blk.new w 37 _
  by_cases hz : (fillN ns h (4 + h)).length = 0
  · have hsame := P.full (by omega) hz
    have HF := hide (alloc_full B0.fr h hh hsl hz)
    have HB0 := hide B0
    have HB := hide hB
    have HBX := hide hbx
    have HP := hide P
    have HH := hide hh
    have HHZ := hide hz
    have HSM := hide hsame
    have HB1 := hide hb0
    have HW0 := hide hW0
    clear B B0 P hsl h8 hfit hb0 hB hbx hsame hz
    go_enter Try.func9, Try.ntmps9
    go_wp2_with fail
    rw [← HW0.out]
    refine HF.out.mono ?_
    rintro e w1 ⟨rfl, v1, R1, T1, k1⟩
    rw [HSM.out] at R1
    obtain ⟨v1, B1, hb1, O1⟩ := HB0.out.pool ⟨v1, HB0.out.fr.moved R1 T1 k1 rfl, T1.more d⟩
    have b1 := HB.out.only O1 HBX.out.1
    have c0 := b1.cell 0
    have c1 := b1.cell 1
    have c2 := b1.cell 2
    have HR := hide (ralloc_full B1.rf h HH.out HHZ.out)
    have HB2 := hide B1
    have HB3 := hide hb1
    clear R1 T1 k1 B1 hb1 O1 b1 HF HB0 HB
    go_wp2_with fail
    refine HR.out.mono ?_
    rintro e w2 ⟨rfl, D2⟩
    rw [HSM.out] at D2
    obtain ⟨vs2, Z2, B2, hb2, O2⟩ := HB2.out.refs D2
    have HB4 := hide B2
    have HB5 := hide hb2
    clear D2 B2 hb2 O2 HR HB2 c0 c1 c2
    go_wp2
    go_ret
    exact ⟨rfl, ⟨_, _, _, _, _, HB4.out, HP.out, rfl, rfl⟩, HB1.out.trans (HB3.out.trans HB5.out)⟩
  · obtain ⟨k, hk, hx, P', hzr⟩ := P.alloc (by omega : h < 8) (by omega) hfit
    have hs1 : (fillN ns h (4 + h)).length ≤ 4096 := by
      have h1 := freeL_has (fillN ns h) (fslot4 (show h < 8 by omega))
      have h2 := (fillN_same ns (show h < 8 by omega)).2
      have h3 := P.free
      omega
    have HF := hide (alloc_ok B0.fr h k hh hsl (by omega) hs1 hk ((first : Int) + k) hx rfl)
    have HB0 := hide B0
    have HB := hide hB
    have HBX := hide hbx
    have HZR := hide hzr
    have HP' := hide P'
    have HH := hide hh
    have HK := hide hk
    have HX := hide hx
    have HHZ := hide (show 0 < (fillN ns h (4 + h)).length by omega)
    have hfit' : 256 * (first + k) + 256 ≤ xs.length := by omega
    have HFIT := hide hfit'
    have HL := hide (zeroF_len hfit')
    have hal : allocN ns h k 2 = (ns 2).set k 1 := by unfold allocN; rw [upd_same]
    have HAL := hide (show (allocN ns h k 2).length = (ns 2).length by rw [hal, List.length_set])
    have HB1 := hide hb0
    have HW0 := hide hW0
    have hfk : (first : Int) + k ≤ 4096 := by have := B0.fr.small; omega
    clear B B0 P P' hzr hsl hs1 h8 hfit hb0 hB hbx hk hx hz hfit' hal
    go_enter Try.func9, Try.ntmps9
    go_wp2_with fail
    rw [← HW0.out]
    refine HF.out.mono ?_
    rintro e w1 ⟨rfl, D1⟩
    obtain ⟨v1, B1, hb1, O1⟩ := HB0.out.pool D1
    have b1 := HB.out.only O1 HBX.out.1
    have c0 := b1.cell 0
    have c1 := b1.cell 1
    have c2 := b1.cell 2
    have HR := hide (ralloc_ok B1.rf h k HH.out HHZ.out HK.out ((first : Int) + k) HX.out rfl)
    have HB2 := hide B1
    have HB3 := hide hb1
    clear D1 B1 hb1 O1 b1 HF HB0 HB
    go_wp2_with fail
    refine HR.out.mono ?_
    rintro e w2 ⟨rfl, D2⟩
    obtain ⟨vs2, Z2, B2, hb2, O2⟩ := HB2.out.refs D2
    have HZ := hide (zero6_yes B2.fr.mem ((first : Int) + k) (first + k) (by omega) (by rw [HL.out]; exact HFIT.out) HZR.out)
    have HB4 := hide B2
    have HB5 := hide hb2
    clear D2 B2 hb2 O2 HR HB2 c0 c1 c2
    go_wp2_with (go_at_call 22; refine HZ.out.mono ?_; rintro e w3 ⟨rfl, o3⟩; have HO3 := hide o3; clear o3)
    go_ret
    obtain ⟨B3, hb3⟩ := HB4.out.only HO3.out
    exact ⟨rfl, ⟨_, _, _, _, _, B3, HP'.out, HAL.out, HL.out⟩, HB1.out.trans (HB3.out.trans (HB5.out.trans hb3))⟩
end
end Go.Proofs.Ytfbegickdnjfcaa
