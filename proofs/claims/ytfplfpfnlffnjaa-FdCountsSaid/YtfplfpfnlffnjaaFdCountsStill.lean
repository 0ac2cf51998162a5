/-
  The walk of 'FdCounts'.
-/
import Derived.Test.YtfplfpfnlffnjaaFdCtS
import Derived.BigQuiet
import Derived.Deep.RegionLaw
import Derived.StillTailTactics
import Derived.Deep.Cut
import Derived.Deep.CutRange
namespace Go.Proofs.Ytfplfpfnlffnjaa
open Go.ChangeShapes Go.WideShapes Go.ChangeAt Go.RowKit Go.Maps Go.Deep
set_option linter.unusedVariables false
set_option linter.unusedSimpArgs false
/-- The law's state: how many were closed, how many opened. -/
def CtL (w0 : World) (g f m r : Nat) (u : Value) (xs : List Nat) (n : Nat) (cv ov iv : Value) (wr : World) : Prop :=
  ∃ (i cl : Nat) (L : List (Nat × List Int)) (O : List (Int × F5)) (v : Value), iv = .int .i64 i ∧ cv = .int .i64 cl ∧ ov = .int .i64 (cl + O.length : Nat) ∧ i ≤ n ∧ cl ≤ i ∧ 1 ≤ L.length ∧ CW w0 wr g f m r v u xs L O ∧ OkC L O
section
set_option maxRecDepth 100000 in
set_option maxHeartbeats 4000000 in
theorem fdCounts_walk' (A : Option Addr) (n c : Nat) (w : World) (hn : n < 3900000000000) (hops : ∀ i, i < n → OpAt22 w A i) :
    Calls Try.prog 4 #[.slice A n c] w fun e w' => e = .returned (.bool true) ∧ Below w.heap.size w w' := by
  have HOP := hide hops
  clear hops
  go_enter Try.func4, Try.ntmps4
  go_wp2_with (go_at_call 6; refine (cw_start _).mono ?_; rintro e w1 ⟨g, f, m, r, t, v, u, xs, rfl, h1⟩; have H1 := hide h1; clear h1)
  go_loopw [4, 5, 26] (fun cv ov iv wr => CtL w g f m r u xs n cv ov iv wr) (fun _ _ iv _ => n - (intOf iv).toNat)
  case atStart => exact ⟨0, 0, [(t, aT0)], [], v, rfl, rfl, rfl, Nat.zero_le _, Nat.le_refl _, by simp, H1.out, okC_start t⟩
  case round =>
    obtain ⟨i, cl, L, O, v2, rfl, rfl, rfl, hi, hcl, hL1, hC, hK⟩ := hrel
    have HC := hide hC
    have HK := hide hK
    by_cases hlt : i < n
    · obtain ⟨q, o, a, b, c2, d, e, rfl, hq, hiw, x0, x1, x2, x3, x4⟩ := HOP.out i hlt
      have y0 := (hC.on.cell hq (by simp)).trans x0
      have y1 := (hC.on.cell hq (by simp)).trans x1
      have y2 := (hC.on.cell hq (by simp)).trans x2
      have y3 := (hC.on.cell hq (by simp)).trans x3
      have y4 := (hC.on.cell hq (by simp)).trans x4
      have hltI : (i : Int) < n := by omega
      have hl12 := hK.few
      obtain ⟨A2, cap2, rfl, hA2⟩ := hC.lw.row.form
      rw [List.length_map] at hA2
      obtain ⟨b2, rfl, hb2, hbc⟩ := hA2 (by omega)
      have d1 : (wr.alloc (.cells #[.int .i64 a, .int .i64 b, .int .i64 c2, .int .i64 d, .int .i64 e] 26)).cell? ⟨g, 1, none⟩ = some (.slice (some ⟨b2, 0, none⟩) (L.map (·.1)).length cap2) := (hC.lw.blk.alloc _).cell 1
      rw [List.length_map] at d1
      have hzz : -(L.length : Int) < b.tmod L.length ∧ b.tmod L.length < L.length := by
        have h := Int.natAbs_tmod b L.length
        have h2 : b.natAbs % (L.length : Int).natAbs < (L.length : Int).natAbs := Nat.mod_lt _ (by omega)
        omega
      obtain ⟨k, hk, hkk⟩ : ∃ k : Nat, k < L.length ∧ (b.tmod L.length + L.length).tmod L.length = (k : Int) := by
        rw [Int.tmod_eq_emod_of_nonneg (by omega)]
        have h3 := Int.emod_nonneg (b.tmod L.length + L.length) (show (L.length : Int) ≠ 0 by omega)
        have h4 := Int.emod_lt_of_pos (b.tmod L.length + L.length) (show (0 : Int) < L.length by omega)
        exact ⟨((b.tmod L.length + L.length) % L.length).toNat, by omega, by omega⟩
      obtain ⟨hz1, hz2⟩ := hzz
      generalize hz : b.tmod L.length = z at *
      have hne0 : ((L.length : Int) == 0) = false := by simp only [beq_eq_false_iff_ne]; omega
      have hne1 : ¬ (L.length : Int) = 0 := by omega
      have hwz : IntKind.i64.wrap (z + L.length) = z + L.length := by rw [IntKind.wrap_i64]; omega
      clear x0 x1 x2 x3 x4 hC hK hA2
      go_wp2_with fail
      go_quiet (fail)
      have hoq : Only [] wr ((wr.alloc (.cells #[.int .i64 a, .int .i64 b, .int .i64 c2, .int .i64 d, .int .i64 e] 26)).drewN nq) := (((Only.refl _ _).alloc _).drewN _)
      have HCQ := hide (HC.out.quiet hoq)
      have HBQ := hide (show Blk ((wr.alloc (.cells #[.int .i64 a, .int .i64 b, .int .i64 c2, .int .i64 d, .int .i64 e] 26)).drewN nq) wr.heap.size 26 #[.int .i64 a, .int .i64 b, .int .i64 c2, .int .i64 d, .int .i64 e] from (Blk.new wr _ _).drewN _)
      clear y0 y1 y2 y3 y4 d1 hwz hne0 hne1 hz1 hz2 hz hkk hoq HC
      generalize hgW : (wr.alloc (.cells #[.int .i64 a, .int .i64 b, .int .i64 c2, .int .i64 d, .int .i64 e] 26)).drewN nq = W2 at *
      clear hgW
      generalize wr.heap.size = p7 at *
      obtain ⟨⟨t, T⟩, hLk⟩ : ∃ p, L[k]? = some p := ⟨_, List.getElem?_eq_getElem hk⟩
      have HLK := hide hLk
      have d0 : W2.cell? ⟨g, 0, none⟩ = some (ptV f) := HCQ.out.lw.blk.cell 0
      have d1 : W2.cell? ⟨g, 1, none⟩ = some (.slice (some ⟨b2, 0, none⟩) L.length cap2) := (HCQ.out.lw.blk.cell 1).trans (by rw [List.length_map]; rfl)
      have hb3 : W2.cell? ⟨b2, k, none⟩ = some (ptV t) := by
        obtain ⟨A3, c3, e3, h3⟩ := HCQ.out.lw.row.form
        injection e3 with e4 _ _
        obtain ⟨b3, e5, _, h4⟩ := h3 (by rw [List.length_map]; omega)
        rw [← e4] at e5
        injection e5 with e5
        injection e5 with e5
        subst e5
        exact h4 k t (by rw [List.getElem?_map, hLk]; rfl)
      have y0 : W2.cell? ⟨p7, 0, none⟩ = some (.int .i64 a) := HBQ.out.cell 0
      have y2 : W2.cell? ⟨p7, 2, none⟩ = some (.int .i64 c2) := HBQ.out.cell 2
      have y3 : W2.cell? ⟨p7, 3, none⟩ = some (.int .i64 d) := HBQ.out.cell 3
      have y4 : W2.cell? ⟨p7, 4, none⟩ = some (.int .i64 e) := HBQ.out.cell 4
      have hkI : (k : Int) < L.length := by omega
      have HSUB := hide (show (cl : Int) + (O.length : Nat) - cl = (O.length : Nat) by omega)
      have hO64 := HCQ.out.fi.few
      clear hbc hb2 hLk
      by_cases a0 : a = 0
      · subst a0
        have ht0 := HCQ.out.tabs _ (List.mem_of_getElem? HLK.out)
        have HFR := hide (free_is ht0)
        have hfl := fdsN_len T 16
        dsimp only at HFR
        by_cases hfz : (fdsN T 16).length = 16
        · have HFR2 := hide (show Calls Try.prog 9 #[ptV t] W2 fun e w' => e = .returned (.int .i64 0) ∧ Only [] W2 w' from HFR.out.mono fun e w' ⟨q1, q2⟩ => ⟨q1.trans (by rw [hfz]; rfl), q2⟩)
          clear ht0
          go_wp2_with (go_at_call 9; refine HFR2.out.mono ?_; rintro e5 w5 ⟨rfl, ho⟩; have HO5 := hide ho; clear ho)
          go_roundw
          case rel => exact ⟨i + 1, cl, L, O, _, by go_num, rfl, rfl, hlt, by omega, hL1, HCQ.out.quiet HO5.out, HK.out⟩
          case measure => simp [intOf]; omega
        · obtain ⟨z9, hz9⟩ : ∃ z : Int, z = 16 - ((fdsN T 16).length : Nat) := ⟨_, rfl⟩
          have hz0 : (z9 == 0) = false := by simp only [beq_eq_false_iff_ne]; omega
          have HFR2 := hide (show Calls Try.prog 9 #[ptV t] W2 fun e w' => e = .returned (.int .i64 z9) ∧ Only [] W2 w' from HFR.out.mono fun e w' ⟨q1, q2⟩ => ⟨q1.trans (by rw [hz9]), q2⟩)
          have HFT := hide (show freeT T ≠ -1 from fun e => hfz (free_all e ht0.len))
          have HYS := hide (fun W (ho : Only [] W2 W) => (show W.cell? ⟨g, 0, none⟩ = some (ptV f) ∧ W.cell? ⟨p7, 3, none⟩ = some (.int .i64 d) ∧ W.cell? ⟨p7, 4, none⟩ = some (.int .i64 e) from ⟨(HCQ.out.quiet ho).lw.blk.cell 0, (HBQ.out.only ho (by simp)).cell 3, (HBQ.out.only ho (by simp)).cell 4⟩))
          have HOP9 := hide (fun W (ho : Only [] W2 W) => cw_open (HCQ.out.quiet ho) HK.out d e)
          clear ht0 hfz hz9
          go_upto_region 14 with (go_at_call 9; refine HFR2.out.mono ?_; rintro e5 w5 ⟨rfl, ho⟩; obtain ⟨z0, z3, z4⟩ := HYS.out _ ho; have HO5 := hide ho; clear ho)
          go_cut [10, 11] from 64 to 75 (fun nv ev wx => ∃ i9 er O2, nv = .int .i64 i9 ∧ ev = .int .i64 er ∧ CW w wx g f m r (.slice (some ⟨b2, 0, none⟩) (L.map (·.1)).length cap2) u xs L O2 ∧ (((er = 1 ∨ er = 2) ∧ O2 = O) ∨ (er = 0 ∧ 0 ≤ i9 ∧ i9 < 64 ∧ i9 ∉ O.map (·.1) ∧ ∃ x : F5, x.refs = 1 ∧ O2 = O ++ [(i9, x)])))
          case first =>
            go_region_law (go_simp; go_at_call 10; refine (HOP9.out _ (HO5.out.trans (by repeat (first | exact Only.refl _ _ | apply Only.drew | apply Only.drewN)))).mono ?_; rintro e6 w6 ⟨i9, er, O2, rfl, hc2, hcase⟩; have HC5 := hide hc2; have HCASE := hide hcase; clear hc2 hcase)
            all_goals
              go_wp2
              go_meet
              case rel => exact ⟨i9, er, O2, rfl, rfl, HC5.out, HCASE.out⟩
          case rest =>
            obtain ⟨i9, er, O2, rfl, rfl, hc2, hcase⟩ := hcut
            have HC5 := hide hc2
            have HCASE := hide hcase
            clear hc2 hcase
            rcases HCASE.out with ⟨rfl | rfl, hO⟩ | ⟨rfl, j0, j64, jn, x9, hx9, hO⟩
            · have HO9 := hide hO
              clear HCASE hO
              go_wp2
              go_roundw
              case rel => exact ⟨i + 1, cl, L, O, _, by go_num, rfl, rfl, hlt, by omega, hL1, by have := HC5.out; rwa [HO9.out] at this, HK.out⟩
              case measure => simp [intOf]; omega
            · have HO9 := hide hO
              clear HCASE hO
              go_wp2
              go_roundw
              case rel => exact ⟨i + 1, cl, L, O, _, by go_num, rfl, rfl, hlt, by omega, hL1, by have := HC5.out; rwa [HO9.out] at this, HK.out⟩
              case measure => simp [intOf]; omega
            · rw [hO] at HC5
              have HIN := hide (cw_install HC5.out HK.out HLK.out j0 j64 jn hx9 HFT.out)
              have HSUB2 := hide (show (cl : Int) + (O.length : Nat) + 1 - cl = ((O ++ [(i9, x9)]).length : Nat) by simp; omega)
              have HSUB3 := hide (show cl + (O ++ [(i9, x9)]).length = cl + O.length + 1 by simp; omega)
              clear HCASE hO j0 j64 jn hx9
              go_wp2_with (first | (go_at_call 11; refine HIN.out.mono ?_; rintro e7 w7 ⟨j9, L2, rfl, hc2, hk2, hlen2⟩; have HC2 := hide hc2; have HK2 := hide hk2; have HL2 := hide hlen2; clear hc2 hk2 hlen2) | (go_at_call 17; rw [HSUB2.out]; refine (counted_is HC2.out (HK2.out.okL HC2.out.len)).mono ?_; rintro e w6 ⟨rfl, ho6⟩; have HO6 := hide ho6; clear ho6))
              go_roundw
              case rel => exact ⟨i + 1, cl, L2, O ++ [(i9, x9)], _, by go_num, rfl, congrArg (Value.int .i64) (by have := HSUB3.out; omega), hlt, by omega, by have := HL2.out; omega, HC2.out.quiet HO6.out, HK2.out⟩
              case measure => simp [intOf]; omega
      · by_cases a4 : a = 4
        · subst a4
          have HCL := hide (cw_dup HCQ.out HK.out HLK.out c2)
          clear a0
          go_wp2_with fail
          refine HCL.out.mono ?_
          rintro e5 w5 ⟨r1, r2, L2, O2, rfl, hc2, hk2, hl2, hlen2⟩
          have HC2 := hide hc2
          have HK2 := hide hk2
          have HO2L := hide hlen2
          have HSUB2 := hide (show (cl : Int) + (O.length : Nat) - cl = (O2.length : Nat) by omega)
          have HSUB3 := hide hl2
          clear hc2 hk2 hlen2
          go_wp2_with (go_at_call 17; rw [HSUB2.out]; refine (counted_is HC2.out (HK2.out.okL HC2.out.len)).mono ?_; rintro e w6 ⟨rfl, ho6⟩; have HO6 := hide ho6; clear ho6)
          go_roundw
          case rel => exact ⟨i + 1, cl, L2, O2, _, by go_num, rfl, congrArg (Value.int .i64) (by have := HSUB3.out; omega), hlt, by omega, by have := HO2L.out; omega, HC2.out.quiet HO6.out, HK2.out⟩
          case measure => simp [intOf]; omega
        · by_cases a5 : a = 5
          · subst a5
            have HCL := hide (cw_close HCQ.out HK.out HLK.out c2)
            clear a0 a4
            go_wp2_with fail
            refine HCL.out.mono ?_
            rintro e5 w5 ⟨y, gone, er, L2, O2, rfl, hc2, hk2, hlen2, hcase⟩
            obtain ⟨x1, x2, x3, x4, x5⟩ := y
            dsimp only [fV, fC]
            have ho2w : Only [] w5 (w5.alloc (.cells #[.int .i64 x1, .int .i64 x2, .int .i64 x3, .int .i64 x4, .int .i64 x5] 42)) := (Only.refl _ _).alloc _
            have HC2 := hide (hc2.quiet ho2w)
            have HK2 := hide hk2
            have HO2L := hide hlen2
            rcases hcase with ⟨rfl, rfl, hl2⟩ | ⟨rfl, rfl | rfl, hl2⟩
            · have HSUB2 := hide (show (cl : Int) + (O.length : Nat) - (cl + 1) = (O2.length : Nat) by omega)
              have HSUB3 := hide (show cl + O.length = cl + 1 + O2.length by omega)
              have hcl2 : (cl : Int) + 1 ≤ 9223372036854775807 := by omega
              clear hc2 hk2 hlen2 ho2w
              go_wp2_with (go_at_call 17; rw [HSUB2.out]; refine (counted_is HC2.out (HK2.out.okL HC2.out.len)).mono ?_; rintro e w6 ⟨rfl, ho6⟩; have HO6 := hide ho6; clear ho6)
              go_roundw
              case rel => exact ⟨i + 1, cl + 1, L2, O2, _, by go_num, by go_num, congrArg (Value.int .i64) (by have := HSUB3.out; omega), hlt, by omega, by have := HO2L.out; omega, HC2.out.quiet HO6.out, HK2.out⟩
              case measure => simp [intOf]; omega
            · have HSUB2 := hide (show (cl : Int) + (O.length : Nat) - cl = (O2.length : Nat) by omega)
              have HSUB3 := hide hl2
              clear hc2 hk2 hlen2 ho2w
              go_wp2_with (go_at_call 17; rw [HSUB2.out]; refine (counted_is HC2.out (HK2.out.okL HC2.out.len)).mono ?_; rintro e w6 ⟨rfl, ho6⟩; have HO6 := hide ho6; clear ho6)
              go_roundw
              case rel => exact ⟨i + 1, cl, L2, O2, _, by go_num, rfl, congrArg (Value.int .i64) (by have := HSUB3.out; omega), hlt, by omega, by have := HO2L.out; omega, HC2.out.quiet HO6.out, HK2.out⟩
              case measure => simp [intOf]; omega
            · have HSUB2 := hide (show (cl : Int) + (O.length : Nat) - cl = (O2.length : Nat) by omega)
              have HSUB3 := hide hl2
              clear hc2 hk2 hlen2 ho2w
              go_wp2_with (go_at_call 17; rw [HSUB2.out]; refine (counted_is HC2.out (HK2.out.okL HC2.out.len)).mono ?_; rintro e w6 ⟨rfl, ho6⟩; have HO6 := hide ho6; clear ho6)
              go_roundw
              case rel => exact ⟨i + 1, cl, L2, O2, _, by go_num, rfl, congrArg (Value.int .i64) (by have := HSUB3.out; omega), hlt, by omega, by have := HO2L.out; omega, HC2.out.quiet HO6.out, HK2.out⟩
              case measure => simp [intOf]; omega
          · by_cases a6 : a = 6
            · subst a6
              clear a0 a4 a5
              by_cases hl : L.length < 12
              · have hlI : (L.length : Int) < 12 := by omega
                have HFK := hide (cw_fork HCQ.out HK.out hl HLK.out)
                go_wp2_with fail
                refine HFK.out.mono ?_
                rintro e5 wf ⟨t3, O2, rfl, hc2, ht3, hnt, hft, hk2, hl2⟩
                have c1 : wf.cell? ⟨g, 1, none⟩ = some (.slice (some ⟨b2, 0, none⟩) L.length cap2) := (hc2.lw.blk.cell 1).trans (by rw [List.length_map]; rfl)
                have hoa : Only [] wf (wf.alloc (.cells #[ptV t3] 35)) := (Only.refl _ _).alloc _
                have HCA := hide (hc2.quiet hoa)
                have HTA := hide (ht3.quiet hoa)
                have HNT := hide (And.intro hnt hft)
                have HCELL := hide ((Blk.new wf 35 #[ptV t3]).cell 0)
                have HK2 := hide hk2
                have HSUB2 := hide (show (cl : Int) + (O.length : Nat) - cl = (O2.length : Nat) by omega)
                have HSUB3 := hide hl2
                have c1a := (hc2.quiet hoa).lw.blk.cell 1
                clear hc2 ht3 hnt hft hk2 hoa
                go_wp2_with (first | (at_builtin; refine wpList_append_pB (ps := L.map (·.1)) Try.underlying30 info_ptab rfl _ _ rfl rfl (by have := HCA.out.lw.row; rwa [List.length_map] at this) wf.heap.size t3 rfl HCELL.out (by rw [List.length_map]; omega) w.heap.size (by have := HCA.out.lw.lv; rwa [List.length_map] at this) HCA.out.on.size ?_; intro v7 w7 k1 k2 k3 k4; obtain ⟨A7, c7, k4⟩ := k4; rw [List.length_map] at k4; subst k4; have hb7 := HCA.out.gblk (by rw [List.length_map]; exact k2); have e7 := hb7.cell 1; have f7 := hb7.frozen 1; have HC2 := hide (HCA.out.app HTA.out HNT.out.1 HNT.out.2 k1 (by rw [List.length_map]; exact k2) k3); clear k1 k2 k3 hb7) | (go_at_call 17; rw [HSUB2.out]; refine (counted_is HC2.out (HK2.out.okL HC2.out.len)).mono ?_; rintro e w6 ⟨rfl, ho6⟩; have HO6 := hide ho6; clear ho6))
                go_roundw
                case rel => exact ⟨i + 1, cl, L ++ [(t3, T)], O2, _, by go_num, rfl, congrArg (Value.int .i64) (by have := HSUB3.out; omega), hlt, by omega, by simp, HC2.out.quiet HO6.out, HK2.out⟩
                case measure => simp [intOf]; omega
              · have hlI : ¬ (L.length : Int) < 12 := by omega
                go_wp2_with (go_at_call 17; rw [HSUB.out]; refine (counted_is HCQ.out (HK.out.okL HCQ.out.len)).mono ?_; rintro e w6 ⟨rfl, ho6⟩; have HO6 := hide ho6; clear ho6)
                go_roundw
                case rel => exact ⟨i + 1, cl, L, O, _, by go_num, rfl, rfl, hlt, by omega, hL1, HCQ.out.quiet HO6.out, HK.out⟩
                case measure => simp [intOf]; omega
            · by_cases a1 : a = 1
              · subst a1
                clear a0 a4 a5 a6
                have HGT := hide (get_is (HCQ.out.tabs _ (List.mem_of_getElem? HLK.out)) c2)
                cases hgt : getT T c2 with
                | none =>
                  rw [hgt] at HGT
                  dsimp only [Option.getD, Option.isSome] at HGT
                  go_wp2_with (first | (go_at_call 15; refine HGT.out.mono ?_; rintro e w' ⟨rfl, rfl⟩) | (go_at_call 17; rw [HSUB.out]; refine (counted_is HCQ.out (HK.out.okL HCQ.out.len)).mono ?_; rintro e w6 ⟨rfl, ho6⟩; have HO6 := hide ho6; clear ho6))
                  go_roundw
                  case rel => exact ⟨i + 1, cl, L, O, _, by go_num, rfl, rfl, hlt, by omega, hL1, HCQ.out.quiet HO6.out, HK.out⟩
                  case measure => simp [intOf]; omega
                | some kk =>
                  rw [hgt] at HGT
                  dsimp only [Option.getD, Option.isSome] at HGT
                  obtain ⟨i9, hi9, hc9, hg9, hk9⟩ := getT_some hgt
                  have hr9 := (HCQ.out.tabs _ (List.mem_of_getElem? HLK.out)).gbr hi9
                  have HMV := hide (fun W (ho : Only [] W2 W) => cw_move (HCQ.out.quiet ho) HK.out (k := kk) (iW_small (by dsimp only at hr9; omega) (by dsimp only at hr9; omega)) e)
                  clear hc9 hr9 hgt
                  go_wp2_with (go_at_call 15; refine HGT.out.mono ?_; rintro e w' ⟨rfl, rfl⟩)
                  go_still_tail 7, (by kernel_rfl)
                  change wpList _ _ _ _ _ W2.drew
                  go_wp2_with (first | (go_at_call 16; refine (HMV.out _ (Only.refl _ _).drew).mono ?_; rintro e5 w5 ⟨er, O2, rfl, hc2, hk2, hl2⟩; have HC2 := hide hc2; have HK2 := hide hk2; have HSUB3 := hide hl2; have HSUB2 := hide (show (cl : Int) + (O.length : Nat) - cl = (O2.length : Nat) by omega); clear hc2 hk2 hl2) | (go_at_call 17; rw [HSUB2.out]; refine (counted_is HC2.out (HK2.out.okL HC2.out.len)).mono ?_; rintro e w6 ⟨rfl, ho6⟩; have HO6 := hide ho6; clear ho6))
                  go_roundw
                  case rel => exact ⟨i + 1, cl, L, O2, _, by go_num, rfl, congrArg (Value.int .i64) (by have := HSUB3.out; omega), hlt, by omega, hL1, HC2.out.quiet HO6.out, HK2.out⟩
                  case measure => simp [intOf]; omega
              · have q0 : (a == 0) = false := by simpa using a0
                have q4 : (a == 4) = false := by simpa using a4
                have q5 : (a == 5) = false := by simpa using a5
                have q6 : (a == 6) = false := by simpa using a6
                have q1 : (a == 1) = false := by simpa using a1
                clear a0 a4 a5 a6 a1
                go_wp2_with (go_at_call 17; rw [HSUB.out]; refine (counted_is HCQ.out (HK.out.okL HCQ.out.len)).mono ?_; rintro e w5 ⟨rfl, ho5⟩; have HO5 := hide ho5; clear ho5)
                go_roundw
                case rel => exact ⟨i + 1, cl, L, O, _, by go_num, rfl, rfl, hlt, by omega, hL1, HCQ.out.quiet HO5.out, HK.out⟩
                case measure => simp [intOf]; omega
    · obtain rfl : i = n := by omega
      have HB := hide hC.on
      clear hC hK
      go_wp2
      go_ret
      exact ⟨rfl, HB.out.below (Nat.le_refl _) (by simp)⟩
theorem fdCounts_walk {H : Type} {enc : TypeId × Value → H} {w : World} {dd : DataW H} (A : Option Addr) (n c : Nat) (rv : Rd enc Try.prog w 22 [.slice A n c] dd) :
    Calls Try.prog 4 #[.slice A n c] w fun e w' => e = .returned (.bool true) ∧ Below w.heap.size w w' := by
  obtain ⟨h1, h2⟩ := Rd.ops22 rv
  exact fdCounts_walk' A n c w h1 h2
end
end Go.Proofs.Ytfplfpfnlffnjaa
