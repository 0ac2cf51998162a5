/-
  Slabs (parapet/slab): Room.
-/
import Derived.Test.YtgoaebikgdecoaaDoorSlabFitsW
namespace Go.Proofs.YtgoaebikgdecoaaDoor
open Go.ChangeShapes Go.WideShapes Go.ChangeAt Go.RowKit Go.Maps
set_option linter.unusedVariables false

theorem run_index_arr (f : Int → Int) (W : World) {kn : Nat} (h : kn < 11) : (Instr.index 72 (.agg (arrA f)) (.int .i64 kn)).run Tryd.prog W = .ok (.int .i64 (f kn)) W := by
  rcases (show kn = 0 ∨ kn = 1 ∨ kn = 2 ∨ kn = 3 ∨ kn = 4 ∨ kn = 5 ∨ kn = 6 ∨ kn = 7 ∨ kn = 8 ∨ kn = 9 ∨ kn = 10 by omega) with rfl | rfl | rfl | rfl | rfl | rfl | rfl | rfl | rfl | rfl | rfl <;> (clear h; kernel_rfl)
/-- How many more of a kind could be made. -/
def roomF (L : Int) (ss : List SL) (k : Int) : Int := if szF k = 0 then 0 else spareF ss k + moreF L ss * plF k
section
variable {w w' : World} {g m : Nat} {L : Int} {v : Value} {ss : List SL} {O : List (Int × Int)} {S : List Nat}
set_option maxRecDepth 100000 in
set_option maxHeartbeats 1500000 in
theorem hRoom_is (h : IsHp w g L v ss m O) (hO : OkH L ss O) (hT : TabS w) (k : Int) :
    Calls Tryd.prog 20 #[.pointer (some ⟨g, 0, none⟩), .int .i64 k] w fun e w' => e = .returned (.int .i64 (roomF L ss k)) ∧ Only [] w w' := by
  have HC := hide (hclosed_is h)
  have HSZ := hide (hSize_is hT k)
  by_cases hs0 : szF k = 0
  · have HE := hide (show roomF L ss k = 0 by unfold roomF; rw [if_pos hs0])
    rw [hs0] at HSZ
    clear h hO hT
    go_enter Tryd.func20, Tryd.ntmps20
    go_wp2_with (first | (go_at_call 26; refine HC.out.mono ?_; rintro e w' ⟨rfl, rfl⟩) | (go_at_call 16; refine HSZ.out.mono ?_; rintro e w' ⟨rfl, rfl⟩))
    go_ret
    exact ⟨by rw [HE.out]; rfl, Only.refl _ _⟩
  · have HE := hide (show roomF L ss k = spareF ss k + moreF L ss * plF k by unfold roomF; rw [if_neg hs0])
    have hsb : (szF k == 0) = false := beq_eq_false_iff_ne.2 hs0
    obtain ⟨kn, hkn, hke⟩ := kind_of hs0
    have hl := hO.lim
    have hft := hO.fit
    have hm0 : 0 ≤ moreF L ss ∧ moreF L ss ≤ 512 := by unfold moreF; omega
    have hpl := plF_le k
    have hsp := spareF_le ss k
    have hfew := hO.few
    have hmul : 0 ≤ moreF L ss * plF k ∧ moreF L ss * plF k ≤ 512 * 64 := ⟨Int.mul_nonneg hm0.1 hpl.1, Int.le_trans (Int.mul_le_mul_of_nonneg_right hm0.2 hpl.1) (Int.mul_le_mul_of_nonneg_left hpl.2 (by decide))⟩
    have e1 : IntKind.i64.wrap (moreF L ss * plF k) = moreF L ss * plF k := by rw [IntKind.wrap_i64]; omega
    have e2 : IntKind.i64.wrap (spareF ss k + moreF L ss * plF k) = spareF ss k + moreF L ss * plF k := by rw [IntKind.wrap_i64]; omega
    have hidx := fun W => run_index_arr (spareF ss) W hkn
    have hkI : (kn : Int) < 11 := by omega
    have HS := hide (fun (wA : World) (kA : Only [] w wA) => hspare_is (h.only kA (by simp) (by simp) (by simp)) hO)
    have HM := hide (fun (wA : World) (kA : Only [] w wA) => hmore_is (h.only kA (by simp) (by simp) (by simp)) hO)
    have HP := hide (fun (wA : World) (kA : Only [] w wA) => hplaces_is (hT.only kA (by simp)) k)
    subst hke
    clear h hO hT hl hft hm0 hpl hsp hmul hfew
    go_enter Tryd.func20, Tryd.ntmps20
    go_wp2_with (first | (go_at_call 26; refine HC.out.mono ?_; rintro e w' ⟨rfl, rfl⟩) | (go_at_call 16; refine HSZ.out.mono ?_; rintro e w' ⟨rfl, rfl⟩))
    go_region_law (first | (go_simp; have hg := K2; go_at_call 45; refine (HP.out _ (by repeat (first | exact K2.out | apply Only.drew))).mono ?_; rintro e w3 ⟨rfl, rfl⟩) | (go_simp; have hg := K1; go_at_call 31; refine (HM.out _ (by repeat (first | exact K1.out | apply Only.drew))).mono ?_; rintro e w2 ⟨rfl, ho⟩; have K2 := hide (K1.out.trans ho); clear ho) | (go_simp; go_at_call 44; refine (HS.out _ (by repeat (first | exact Only.refl _ _ | apply Only.drew))).mono ?_; rintro e w1 ⟨rfl, ho⟩; have K1 := hide ((Only.refl [] w).drew.trans ho); clear ho))
    all_goals
      have K3 := hide K2.out
      go_wp2
      go_ret
      exact ⟨by rw [HE.out]; rfl, by repeat (first | exact K3.out | apply Only.drew | apply Only.drewN)⟩
end
end Go.Proofs.YtgoaebikgdecoaaDoor
