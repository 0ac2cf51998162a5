/-
  'FrameDoes': does, for a step that counts a frame once more, and may.
-/
import Derived.Test.YtfbegickdnjfcaaRef06k
import Derived.Deep.RegionHeld3
namespace Go.Proofs.Ytfbegickdnjfcaa
open Go.ChangeShapes Go.WideShapes Go.ChangeAt Go.RowKit
set_option linter.unusedVariables false
set_option linter.unusedSimpArgs false
section
variable {w w' w1 w2 : World} {n0 t g d cap : Nat} {xs xs' : List Int} {r : List Value} {first harts : Nat} {v : Nat → Value} {ns ns' : Nat → List Int} {a cC bL : Nat} {vs : Nat → Value} {Z : List Nat}
set_option maxHeartbeats 2000000 in
/-- does, kind 2: once more. -/
theorem does_incr_ok (B : B6 w n0 t g d cap xs r first harts v ns a cC bL vs Z ns) (P : P6 xs first ns) (h : Int) (k : Nat) (hk : k < (ns 2).length) (h1 : 0 < gb (ns 2) k) (h2 : gb (ns 2) k < 1048576) :
    Calls Try.prog 9 #[.pointer (some ⟨g, 0, none⟩), .pointer (some ⟨t, 0, none⟩), .pointer (some ⟨a, 0, none⟩), .agg #[.int .i64 2, .int .i64 h, .int .i64 ((first : Int) + k)]] w fun e w' => e = .returned (.bool true) ∧ Did6 w w' n0 t g d cap xs.length r first harts (ns 2).length a cC bL := by
  have hsm := B.fr.small
  have hfk : (first : Int) + k ≤ 4096 := by omega
  have HX := hide (show (first : Int) + k ≤ 9223372036854775807 by omega)
  have HBX := hide B.boxed
  have HP := hide (P.turn hk h1 (c := gb (ns 2) k + 1) (by omega) (by omega))
  have HB := hide (fun W (ho : Only [] w W) => B.only ho)
  have H1 := hide (fun W (ho : Only [] w W) => incr_ok (HB.out W ho).1.fr ((first : Int) + k) k rfl hk (gb (ns 2) k) rfl h1 h2)
  have HI := hide (fun (W : World) (v1 : Nat → Value) (B1 : B6 W n0 t g d cap xs r first harts v1 (upd ns 2 ((ns 2).set k (gb (ns 2) k + 1))) a cC bL vs Z ns) => rincr_ok B1.rf ((first : Int) + k) k rfl hk (gb (ns 2) k) rfl h1 h2)
  have HBK := hide (Blk.new w 37 #[.int .i64 2, .int .i64 h, .int .i64 ((first : Int) + k)])
  have hc2 := (Blk.new w 37 #[.int .i64 2, .int .i64 h, .int .i64 ((first : Int) + k)]).cell 2
  clear B P hk h1 h2 hsm
  go_enter Try.func9, Try.ntmps9
  go_wp2_with fail
  go_region_held3 (fun w' => w'.cell? ⟨w.heap.size, 2, none⟩ = some (.int .i64 ((first : Int) + k))) (first | assumption | go_keep | exact HK2.out | exact HK1.out | exact HK3.out _ | (rw [← World.drewN_drewN]; exact HK3.out _) | (simp only [World.drewN_drewN]; exact HK3.out _)) (first | (go_at_call 24; refine (H1.out _ (by repeat (first | exact Only.refl _ _ | apply Only.drew | apply Only.alloc | apply Only.drewN))).mono ?_; rintro e w1 ⟨rfl, D1⟩; obtain ⟨v1, B1, hb1, O1⟩ := (HB.out _ (by repeat (first | exact Only.refl _ _ | apply Only.drew | apply Only.alloc | apply Only.drewN))).1.pool D1; have b1 := (HBK.out.only (S := []) (by repeat (first | exact Only.refl _ _ | apply Only.drew | apply Only.alloc | apply Only.drewN)) (by simp)).only O1 HBX.out.1; have HK1 := hide (b1.cell 2); have HB1 := hide B1; have HO1 := hide hb1; have HBK1 := hide b1; clear D1 B1 hb1 O1 b1) | (go_at_call 25; have hg := HB1; refine (HI.out _ _ (HB1.out.only (by repeat (first | exact Only.refl _ _ | apply Only.drew | apply Only.alloc | apply Only.drewN))).1).mono ?_; rintro e w2 ⟨rfl, D2⟩; obtain ⟨vs2, Z2, B2, hb2, O2⟩ := (HB1.out.only (by repeat (first | exact Only.refl _ _ | apply Only.drew | apply Only.alloc | apply Only.drewN))).1.refs D2; have b2 := (HBK1.out.only (S := []) (by repeat (first | exact Only.refl _ _ | apply Only.drew | apply Only.alloc | apply Only.drewN)) (by simp)).only O2 HBX.out.2; have HK2 := hide (b2.cell 2); have HK3 := hide (fun n => (show (w2.drewN n).cell? ⟨w.heap.size, 2, none⟩ = some (.int .i64 ((first : Int) + k)) from (b2.only (S := []) ((Only.refl [] w2).drewN n) (by simp)).cell 2)); have HB2 := hide B2; have HO2 := hide hb2; clear D2 B2 hb2 O2 b2) | (go_at_call 26; have hg := HB2; refine (fCount_is (HB2.out.only (by repeat (first | exact Only.refl _ _ | apply Only.drew | apply Only.alloc | apply Only.drewN))).1.fr _ HX.out).mono ?_; rintro e w3 ⟨rfl, m3, rfl⟩) | (go_at_call 27; have hg := HB2; refine (rcount_is (HB2.out.only (by repeat (first | exact Only.refl _ _ | apply Only.drew | apply Only.alloc | apply Only.drewN))).1.rf _ HX.out).mono ?_; rintro e w4 ⟨rfl, m4, rfl⟩; have kd := HK3.out (m3 + m4)))
  all_goals
    obtain ⟨B4, hb4⟩ := HB2.out.only ((Only.refl [] w2).drewN (m3 + m4))
    have hA : Below n0 w w1 := (HB.out _ (by repeat (first | exact Only.refl _ _ | apply Only.drew | apply Only.alloc | apply Only.drewN))).2.trans HO1.out
    have hC : Below n0 w w2 := hA.trans ((HB1.out.only (by repeat (first | exact Only.refl _ _ | apply Only.drew | apply Only.alloc | apply Only.drewN))).2.trans HO2.out)
    have HE := hide (show Did6 w (w2.drewN (m3 + m4)) n0 t g d cap xs.length r first harts (ns 2).length a cC bL from ⟨⟨_, _, _, _, _, B4, HP.out, by rw [upd_same, List.length_set], rfl⟩, hC.trans hb4⟩)
    clear B4 hb4 hA hC HB1 HB2 HB HP HBK HBK1 HI H1 HO1 HO2
    go_wp2
    go_ret
    exact ⟨rfl, HE.out⟩
end
end Go.Proofs.Ytfbegickdnjfcaa
