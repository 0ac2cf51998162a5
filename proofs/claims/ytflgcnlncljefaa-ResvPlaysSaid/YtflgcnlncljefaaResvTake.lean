/-
  The gate (parapet/resv): Take.
-/
import Derived.Test.YtflgcnlncljefaaResvDoes2
import Derived.Deep.RegionHeld3
namespace Go.Proofs.Ytflgcnlncljefaa
open Go.ChangeShapes Go.WideShapes Go.ChangeAt Go.RowKit
set_option linter.unusedVariables false
section
variable {w w' : World} {g : Nat} {H L R : Int} {v : Value} {ss : List ST} {S F : List Nat} {s : GS}

set_option maxHeartbeats 1500000 in
set_option maxRecDepth 100000 in
theorem gTake_is (h : Gt w g H s F) (id n : Int) : Calls Try.prog 15 #[.pointer (some ⟨g, 0, none⟩), .int .i64 id, .int .i64 n] w fun e w' => DidT H (takeF s id n) w g F e w' := by
  have HG := hide h
  obtain ⟨v, hi, hok, rfl⟩ := h
  have HCL := hide (gclosed_is hi)
  have HIN := hide (gInside_is hi id)
  by_cases h1 : n < 0
  · have HE := hide (show takeF s id n = (1, s) by unfold takeF; rw [if_pos h1])
    clear hi hok
    go_enter Try.func15, Try.ntmps15
    go_wp2_with (go_at_call 31; refine HCL.out.mono ?_; rintro e w' ⟨rfl, rfl⟩)
    go_ret
    rw [HE.out]
    exact ⟨rfl, HG.out.did (Only.refl _ _)⟩
  · cases hin : inB s.ss id with
    | false =>
      have HE := hide (show takeF s id n = (4, s) by unfold takeF; rw [if_neg h1, if_pos hin])
      rw [hin] at HIN
      clear hi hok hin
      go_enter Try.func15, Try.ntmps15
      go_wp2_with (first | (go_at_call 31; refine HCL.out.mono ?_; rintro e w' ⟨rfl, rfl⟩) | (go_at_call 23; refine HIN.out.mono ?_; rintro e w1 ⟨rfl, ho⟩; have HO := hide ho; clear ho))
      go_ret
      rw [HE.out]
      exact ⟨rfl, HG.out.did HO.out⟩
    | true =>
      rw [hin] at HIN
      rcases atI_cases s.ss id with ⟨ha, _⟩ | ⟨i, t, ht, hid, ha, _⟩
      · rw [inB_no ha] at hin; cases hin
      have hw : t.waits = false := by
        have := inB_yes ht ha
        rw [hin] at this
        simpa using this.symm
      have hlt : i < s.ss.length := (List.getElem?_eq_some_iff.1 ht).1
      obtain ⟨A, cap, hv, hA⟩ := hi.row.form
      subst hv
      obtain ⟨b, rfl, hbl⟩ := hA (by omega)
      have HI := hide hi
      have hsb := hok.at_ ht
      have hfw := hok.few
      have HA := hide ha
      have HOK := hide hok
      have HAT := hide (fun (w1 : World) (ho : Only [] w w1) => (show Calls Try.prog 32 #[.pointer (some ⟨g, 0, none⟩), .int .i64 id] w1 fun e w' => e = .returned (.int .i64 i) ∧ Only [] w1 w' from by
        have := gat_is (hi.only ho (by simp) (by simp)) id
        rwa [ha] at this))
      have HK := hide (fun (w1 : World) (ho : Only [] w w1) => (show w1.cell? ⟨g, 3, none⟩ = some (.slice (some ⟨b, 0, none⟩) s.ss.length cap) from (hi.blk.only ho (by simp)).cell 3))
      have hil : (i : Int) < (s.ss.length : Nat) := by omega
      have hi0 : (0 : Int) ≤ i := by omega
      go_enter Try.func15, Try.ntmps15
      go_wp2_with (first | (go_at_call 31; refine HCL.out.mono ?_; rintro e w' ⟨rfl, rfl⟩) | (go_at_call 23; refine HIN.out.mono ?_; rintro e w1 ⟨rfl, ho⟩; have HO := hide ho; clear ho))
      have k3 := HK.out w1 HO.out
      have HAT1 := hide (fun (w2 : World) (ho : Only [] w1 w2) => HAT.out w2 (HO.out.trans ho))
      have HK1 := hide (fun (w2 : World) (ho : Only [] w1 w2) => HK.out w2 (HO.out.trans ho))
      clear HAT HK hi hok hid ha
      go_region_held3 (fun w' => w'.cell? ⟨g, 3, none⟩ = some (.slice (some ⟨b, 0, none⟩) s.ss.length cap)) (first | assumption | go_keep) (first | (go_at_call 32; refine (HAT1.out _ (by repeat (first | exact Only.refl _ _ | apply Only.drew))).mono ?_; rintro e w2 ⟨rfl, ho2⟩; have HO2 := hide (show Only [] w1 w2 from Only.trans (by repeat (first | exact Only.refl _ _ | apply Only.drew)) ho2); have k32 := HK1.out w2 HO2.out; clear ho2))
      all_goals
        have HI2 := hide (show IsGt w2 g H s.L (resvL s.ss) (.slice (some ⟨b, 0, none⟩) s.ss.length cap) s.ss from HI.out.only (HO.out.trans HO2.out) (by simp) (by simp))
        have HX := hide (HO.out.trans HO2.out)
        obtain ⟨q0, q1, q2, q3⟩ := HI2.out.row.cell rfl rfl ht
        clear k3 k32 HAT1 HK1 HO HO2
        by_cases hn : t.bound < n
        · have HE := hide (show takeF s id n = (90, s) by unfold takeF; rw [if_neg (by omega), if_neg (by rw [hin]; simp), HA.out, Int.toNat_natCast, ht]; simp only []; rw [if_pos hn])
          go_wp2
          go_ret
          rw [HE.out]
          exact ⟨rfl, HG.out.did HX.out⟩
        · have HE := hide (show takeF s id n = (0, ⟨s.L + n, s.ss.set i { t with bound := t.bound - n, taken := t.taken + n }⟩) by unfold takeF; rw [if_neg (by omega), if_neg (by rw [hin]; simp), HA.out, Int.toNat_natCast, ht]; simp only []; rw [if_neg hn])
          have hok := HOK.out
          have hsp := resvL_split ht
          rw [hw] at hsp
          have hpe := (hok.erase i).r0
          have hb0 : 0 ≤ resvL s.ss - n := by have : 0 ≤ resvL (s.ss.eraseIdx i) := hpe; simp at hsp; omega
          have hz := hok.size
          have hl0 := hok.l0
          have hsu := hok.sum
          have e1 : IntKind.i64.wrap (t.bound - n) = t.bound - n := by rw [IntKind.wrap_i64]; omega
          have e2 : IntKind.i64.wrap (t.taken + n) = t.taken + n := by rw [IntKind.wrap_i64]; omega
          have e3 : IntKind.i64.wrap (resvL s.ss - n) = resvL s.ss - n := by rw [IntKind.wrap_i64]; omega
          have e4 : IntKind.i64.wrap (s.L + n) = s.L + n := by rw [IntKind.wrap_i64]; omega
          have k1 := HI2.out.blk.cell 1
          have k2 := HI2.out.blk.cell 2
          have f1 := HI2.out.blk.frozen 1
          have f2 := HI2.out.blk.frozen 2
          have hgb : g ≠ b := fun e => HI2.out.far b (by
            obtain ⟨b', cap', cur, e, _⟩ := HI2.out.row.blk (by omega)
            rw [e]
            injection e with e
            injection e with e
            injection e with e
            rw [← e]; rfl) e.symm
          have hbg : b ≠ g := fun e => hgb e.symm
          obtain ⟨f3, f4⟩ : w2.frozen? ⟨b, i * 4 + 1, none⟩ = false ∧ w2.frozen? ⟨b, i * 4 + 2, none⟩ = false := by
            obtain ⟨b', cap', cur, e, hbk, _⟩ := HI2.out.row.blk (by omega)
            injection e with e
            injection e with e
            injection e with e
            subst e
            exact ⟨hbk.frozen _, hbk.frozen _⟩
          have HFI := hide (show Gt ((((w2.setCell ⟨b, i * 4 + 1, none⟩ (.int .i64 (t.bound - n))).setCell ⟨b, i * 4 + 2, none⟩ (.int .i64 (t.taken + n))).setCell ⟨g, 2, none⟩ (.int .i64 (resvL s.ss - n))).setCell ⟨g, 1, none⟩ (.int .i64 (s.L + n))) g H ⟨s.L + n, s.ss.set i { t with bound := t.bound - n, taken := t.taken + n }⟩ (footG g (.slice (some ⟨b, 0, none⟩) s.ss.length cap)) from by
            have h5 := HI2.out.put rfl rfl (k := 1) (u := .int .i64 (t.bound - n)) (by decide) ht (s' := { t with bound := t.bound - n }) rfl
            have ht5 : (s.ss.set i { t with bound := t.bound - n })[i]? = some { t with bound := t.bound - n } := by rw [List.getElem?_set_self hlt]
            have h6 := h5.put rfl rfl (k := 2) (u := .int .i64 (t.taken + n)) (by decide) ht5 (s' := { t with bound := t.bound - n, taken := t.taken + n }) rfl
            rw [List.set_set] at h6
            have hrv : resvL (s.ss.set i { t with bound := t.bound - n, taken := t.taken + n }) = resvL s.ss - n := by
              rw [resvL_set ht, hw]
              simp
              omega
            refine ⟨_, (by rw [hrv]; exact (h6.setR (resvL s.ss - n)).setL (s.L + n)), ⟨hz, by show 0 ≤ s.L + n; omega, by show 0 ≤ resvL (s.ss.set i _); omega, by show s.L + n + resvL (s.ss.set i _) ≤ H; omega, fun x hx => ?_, by simp; omega⟩, rfl⟩
            rcases List.mem_or_eq_of_mem_set hx with hx | hx
            · exact hok.seat x hx
            · subst hx
              simp only []
              omega)
          have HFO := hide (show Only (footG g (.slice (some ⟨b, 0, none⟩) s.ss.length cap)) w ((((w2.setCell ⟨b, i * 4 + 1, none⟩ (.int .i64 (t.bound - n))).setCell ⟨b, i * 4 + 2, none⟩ (.int .i64 (t.taken + n))).setCell ⟨g, 2, none⟩ (.int .i64 (resvL s.ss - n))).setCell ⟨g, 1, none⟩ (.int .i64 (s.L + n))) from by
            have hob : (Value.slice (some ⟨b, 0, none⟩) s.ss.length cap).ownBlock = some b := by
              obtain ⟨b', cap', cur, e, _⟩ := HI2.out.row.blk (by omega)
              rw [e]
              injection e with e
              injection e with e
              injection e with e
              rw [← e]; rfl
            exact ((((HX.out.mono (by simp)).setCell _ (by simp [footG, hob])).setCell _ (by simp [footG, hob])).setCell _ (by simp [footG])).setCell _ (by simp [footG]))
          clear hok hsp hpe hb0 hz hl0 hsu HI2 HX HOK HI q0 q3 HG HCL HIN HA
          go_wp2
          go_ret
          rw [HE.out]
          exact ⟨rfl, _, .same HFO.out, HFI.out⟩
end
end Go.Proofs.Ytflgcnlncljefaa
