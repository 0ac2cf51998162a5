/-
  The pipe's laws (parapetlaw21): what must come of every program ('lives').
-/
import Derived.Test.YteljjngmhldfbaaPiCon
import Derived.Test.YteljjngmhldfbaaPiStr
import Derived.Lib.SlBytesConst
namespace Go.Proofs.Yteljjngmhldfbaa
open Go.ChangeShapes Go.WideShapes Go.ChangeAt Go.RowKit
set_option linter.unusedVariables false
set_option linter.unusedSimpArgs false
theorem New.form {w : World} {B : Nat} {v : Value} {xs : List Int} (h : New w B v xs) : ∃ A c, v = .slice A xs.length c ∧ Sees w A xs.length xs ∧ (A = none → xs.length = 0 ∧ c = 0) ∧ ∀ ad, A = some ad → B ≤ ad.block ∧ ad.block < w.heap.size := by
  rcases h with ⟨rfl, rfl⟩ | h
  · exact ⟨none, 0, rfl, sees_nil, fun _ => ⟨rfl, rfl⟩, fun ad e => by cases e⟩
  · obtain ⟨d, c, r, e, hB, hb, -⟩ := h
    have hs : Sees w (some ⟨d, 0, none⟩) xs.length xs := ⟨rfl, fun _ => ⟨d, 0, rfl, hb.lt, fun i hi => by rw [Nat.zero_add, hb.cell]; exact u8l_get xs r i hi⟩⟩
    exact ⟨_, c, e, hs, (fun e => by cases e), (fun ad e => by injection e with e; subst e; exact ⟨hB, hb.lt⟩)⟩
theorem readP_2 : readP [97, 98, 99] (decide ((0 : Int) < 1)) 2 = ([97, 98], 0, [99]) := by decide
theorem writeP_3 : writeP [] 1 [97, 98, 99] = (3, 0, [97, 98, 99]) := by decide
set_option maxRecDepth 100000 in
set_option maxHeartbeats 1000000 in
theorem lives_is (w : World) : Calls Try.prog 11 #[] w fun e w' => e = .returned (.bool true) ∧ Only [] w w' := by
  have kc := fun (w : World) (C : Array Value) (n c : Nat) => Lib.run_convert_bytes_const (P := Try.prog) w 29 5 C n c Try.underlying29 Try.underlying5
  go_enter Try.func11, Try.ntmps11
  go_wp2_with fail
  refine (piNew_is _).mono ?_
  rintro e w1 ⟨rfl, ho1, hp1⟩
  have HO1 := hide ho1
  have HLT := hide hp1.lt
  have HP1 := hide hp1
  clear ho1 hp1
  go_wp2_with fail
  refine (coNew_is _).mono ?_
  rintro e w2 ⟨rfl, ho2, hc2⟩
  have HO2 := hide (HO1.out.trans ho2)
  have HP2 := hide (HP1.out.only ho2 (by simp))
  have HC2 := hide hc2
  clear ho2 hc2 HO1 HP1
  go_wp2_with fail
  refine (piWrite_is (A := some ⟨w2.heap.size, 0, none⟩) (m := 3) (c := 3) (xs := [97, 98, 99]) (HP2.out.only ((Only.refl [] w2).alloc _) (by simp)) ⟨rfl, fun _ => ⟨w2.heap.size, 0, rfl, by simp, fun i hi => by
    rw [Nat.zero_add, World.cell?_alloc_mark]
    rcases i with _ | _ | _ | i
    · rfl
    · rfl
    · rfl
    · omega⟩⟩ (fun _ ad e => by injection e with e; subst e; have := HP2.out.lt; show w2.heap.size ≠ w.heap.size; omega) (by intro x hx; simp at hx; omega) (by omega) (by omega)).mono ?_
  rw [writeP_3]
  rintro e w3 ⟨rfl, ho3, hp3⟩
  have HO3 := hide (HO2.out.trans' (show Only [w.heap.size] w2 w3 from ((Only.refl [w.heap.size] w2).alloc _).trans ho3) (fun q hq hm => by simp at hm; omega))
  have HP3 := hide hp3
  have HC3 := hide (HC2.out.only (show Only [w.heap.size] w2 w3 from ((Only.refl [w.heap.size] w2).alloc _).trans ho3) (by
    intro q hq
    simp [coF, Value.ownBlock] at hq ⊢
    have := HLT.out
    omega))
  clear ho3 hp3 HP2 HC2
  go_wp2_with fail
  refine (piRead_is HP3.out 2).mono ?_
  rw [readP_2]
  rintro e w4 ⟨v, rfl, hv, ho4, hp4⟩
  have hO4 : Only [w.heap.size] w3 w4 := ho4
  obtain ⟨A, c, rfl, hs, hA, hAb⟩ := hv.form
  have hs : Sees w4 A 2 [97, 98] := hs
  have HO4 := hide (HO3.out.trans' hO4 (fun q hq hm => by simp at hm; omega))
  have HP4 := hide (show Pi w4 w.heap.size [99] 1 1 from hp4)
  have HC4 := hide (HC3.out.only hO4 (by
    intro q hq
    simp [coF, Value.ownBlock] at hq ⊢
    have := HLT.out
    omega))
  have HS4 := hide hs
  have HA := hide (show A = none → 2 = 0 from fun e => (hA e).1)
  clear ho4 hp4 HP3 HC3 hs hA hAb hv hO4 kc HO3
  go_wp2_with fail
  refine (coRead_none HC4.out (n := 1) (e1 := 211) (by decide)).mono ?_
  rintro e w5 ⟨rfl, ho5⟩
  have HO5 := hide (HO4.out.trans ho5)
  have kl := fun W (hW : Only [] w5 W) => piLen_is (HP4.out.only (ho5.trans hW) (by simp))
  have HL := hide kl
  have kc := conv_bytes w5 A 2 c [97, 98] (HS4.out.only ho5 (by simp)) HA.out (by intro x hx; simp at hx; omega)
  have hstr : strB [97, 98] = { data := #[97, 98] } := by decide
  rw [hstr] at kc
  clear ho5 kl hstr
  go_wp2_with (go_at_call 17; refine (HL.out _ (by repeat (first | exact Only.refl _ _ | apply Only.drew))).mono ?_; rintro e w6 ⟨rfl, rfl⟩)
  go_ret
  exact ⟨rfl, HO5.out⟩
end Go.Proofs.Yteljjngmhldfbaa
