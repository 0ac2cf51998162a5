/-
  The walk of 'NamecNobody': the whole.
-/
import Derived.Test.YtkjmbaoooeglkaaGreatDoorNcNobodyWalk
import Derived.Test.YtkjmbaoooeglkaaGreatDoorNcTab
namespace Go.Proofs.YtkjmbaoooeglkaaGreatDoor
open Go.ChangeShapes Go.WideShapes Go.ChangeAt Go.RowKit
set_option linter.unusedVariables false
set_option linter.unusedSimpArgs false
section
variable {H : Type} {enc : TypeId × Value → H} {w : World} {base : Nat} {d : DataW H}
set_option maxRecDepth 100000 in
set_option maxHeartbeats 2000000 in
theorem namecNobody_at (k : NM) (n : Int) (s : ByteArray) (w : World) : Calls Tryz.prog 4 #[kV k, .int .i64 n, .string s] w fun e w' => e = .returned (.bool true) ∧ Below w.heap.size w w' := by
  have HBX := hide (Blk.new w 43 #[.int .i64 k.dir, .string k.name])
  have HO := hide ((Only.refl [] w).alloc (.cells #[.int .i64 k.dir, .string k.name] 43))
  have HLK := hide (fun W => nil_look k W)
  have HPU := hide (fun W => nil_put k n W)
  have HFO := hide (fun W => nil_forget k W)
  have HLV := hide (fun W => lives_is W)
  have HBL := hide (fun W => blocks1_is W)
  unfold kV at HLK HPU HFO ⊢
  go_enter Tryz.func4, Tryz.ntmps4
  go_upto_region 3 with (go_at_call 11; refine (HBL.out _).mono ?_; rintro e w1 ⟨⟨b, rfl⟩, ho1⟩; have HO1 := hide ho1; clear ho1)
  have HB1 := hide (HBX.out.only HO1.out (by simp))
  have HS1 := hide (HO.out.trans HO1.out)
  clear HBX HO HO1 HBL
  generalize w.heap.size = q at *
  have b0 := (HB1.out.cell 0).trans (b := some (Value.int .i64 k.dir)) rfl
  have b1 := (HB1.out.cell 1).trans (b := some (Value.string k.name)) rfl
  go_upto_region 4 with (go_at_call 12; refine (new_nil n _).mono ?_; rintro e w' ⟨rfl, rfl⟩)
  go_upto_region 5 with (go_at_call 13; refine (HLK.out _).mono ?_; rintro e w2 ⟨rfl, ho2⟩; have HO2 := hide ho2; clear ho2)
  go_upto_region 6 with (first | (go_at_call 9; refine (layout_is _).mono ?_; rintro e w3 ⟨rfl, ho3⟩; have HO3 := hide ho3; clear ho3) | (go_at_call 8; refine (nil_walk _ _ _ _ _ _).mono ?_; rintro e w4 ⟨rfl, ho4⟩; have HO4 := hide ho4; clear ho4))
  go_upto_region 7 with (first | (go_at_call 9; refine (layout_is _).mono ?_; rintro e w5 ⟨rfl, ho5⟩; have HO5 := hide ho5; clear ho5) | (go_at_call 14; refine (nil_parent _ _ _ _ _ _).mono ?_; rintro e w6 ⟨rfl, ho6⟩; have HO6 := hide ho6; clear ho6))
  have HS6 := hide (HO2.out.trans (HO3.out.trans (HO4.out.trans (HO5.out.trans HO6.out))))
  have HB6 := hide (HB1.out.only HS6.out (by simp))
  clear b0 b1 HO2 HO3 HO4 HO5 HO6
  go_wp2_with (first | (go_at_call 6; refine (HLV.out _).mono ?_; rintro e w7 ⟨rfl, ho7⟩; have HO7 := hide ho7; have b0 := ((HB6.out.only ho7 (by simp)).cell 0).trans (b := some (Value.int .i64 k.dir)) rfl; have b1 := ((HB6.out.only ho7 (by simp)).cell 1).trans (b := some (Value.string k.name)) rfl; clear ho7) | (go_at_call 15; refine (HPU.out _).mono ?_; rintro e w8 ⟨rfl, ho8⟩; have HO8 := hide ho8; have b0 := ((HB6.out.only (HO7.out.trans ho8) (by simp)).cell 0).trans (b := some (Value.int .i64 k.dir)) rfl; have b1 := ((HB6.out.only (HO7.out.trans ho8) (by simp)).cell 1).trans (b := some (Value.string k.name)) rfl; clear ho8) | (go_at_call 16; refine (HFO.out _).mono ?_; rintro e w9 ⟨rfl, ho9⟩; have HO9 := hide ho9; clear ho9) | (go_at_call 17; refine (nil_forgetDir n _).mono ?_; rintro e w10 ⟨rfl, ho10⟩; have HO10 := hide ho10; clear ho10) | (go_at_call 18; refine (nil_kept _).mono ?_; rintro e w11 ⟨rfl, rfl⟩))
  go_ret
  exact ⟨rfl, (HS1.out.trans (HS6.out.trans (HO7.out.trans (HO8.out.trans (HO9.out.trans HO10.out))))).below (Nat.le_refl _) (by simp)⟩
set_option maxRecDepth 100000 in
theorem namecNobody_walk {v : Value} (o : Value.okWide Tryz.prog w .any base 43 v) (h : Rd enc Tryz.prog w 43 v.cells.toList d) (n : Int) (s : ByteArray) : Calls Tryz.prog 4 #[v, .int .i64 n, .string s] w fun e w' => e = .returned (.bool true) ∧ Below w.heap.size w w' := by
  obtain ⟨k, rfl, _⟩ := Rd.name o h
  exact namecNobody_at k n s w
end
end Go.Proofs.YtkjmbaoooeglkaaGreatDoor
