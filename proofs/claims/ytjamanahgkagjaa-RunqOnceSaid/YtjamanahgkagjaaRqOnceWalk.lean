/-
  The walk of 'RunqOnce'.
-/
import Derived.Test.YtjamanahgkagjaaRqOnce
import Derived.Deep.CutRange
import Derived.Deep.CutBlock
namespace Go.Proofs.Ytjamanahgkagjaa
open Go.ChangeShapes Go.WideShapes Go.ChangeAt Go.RowKit Go.Deep
set_option linter.unusedVariables false

theorem once_mod (c : Int) : ∃ tn : Nat, tn ≤ 63 ∧ ((c.tmod 64 < 0 ∧ wrap64 (c.tmod 64 + 64) = tn) ∨ (¬ c.tmod 64 < 0 ∧ c.tmod 64 = tn)) := by
  have h1 : -64 < c.tmod 64 := by
    have := Int.lt_tmod_of_pos c (show (0 : Int) < 64 by decide)
    omega
  have h2 : c.tmod 64 < 64 := Int.tmod_lt_of_pos c (by decide)
  generalize c.tmod 64 = m at *
  by_cases h : m < 0
  · refine ⟨(m + 64).toNat, by omega, .inl ⟨h, ?_⟩⟩
    rw [wrap64_in _ (by omega)]
    omega
  · exact ⟨m.toNat, by omega, .inr ⟨h, by omega⟩⟩
set_option maxHeartbeats 4000000 in
set_option maxRecDepth 100000 in
theorem runqOnce_walk (n0 : Int) (A : Option Addr) (len cap : Nat) (w : World) (hlen : len < 5900000000000) (hops : ∀ i, i < len → OpAt11 w A i) :
    Calls Try.prog 4 #[.int .i64 n0, .slice A len cap] w fun e w' => e = .returned (.bool true) ∧ Below w.heap.size w w' := by
  have HOP := hide hops
  have HLEN := hide hlen
  clear hops
  by_cases hn : 1 ≤ n0 ∧ n0 ≤ 8
  · obtain ⟨H, rfl⟩ : ∃ H : Nat, n0 = H := ⟨n0.toNat, by omega⟩
    have hH : 1 ≤ H ∧ H ≤ 8 := by omega
    obtain ⟨i0, hi, hz0, hz1, hz2⟩ := info_parts info_int
    have hmk : ∀ u : World, (Instr.makeSlice 36 (.int .i64 65) (.int .i64 65)).run Try.prog u =
        .ok (.slice (some ⟨u.heap.size, 0, none⟩) 65 65) (u.alloc (.cells (madeCells #[.int .i64 0] 65) 3)) := fun u => by
      have h := run_make (P := Try.prog) u 36 3 i0 (.int .i64 0) Try.underlying36 hi hz0 .i64 .i64 65 65 (by omega) (Int.le_refl _) (by rw [hz2]; omega) (by omega)
      simpa [hz1, Value.cells] using h
    have HMK := hide hmk
    clear hi hz0 hz1 hz2
    go_enter Try.func4, Try.ntmps4
    go_wp2_with fail
    refine (lq_new H hH).mono ?_
    rintro e w1 ⟨g, rfl, h1⟩
    go_wp2_with fail
    refine (lives11 _).mono ?_
    rintro e w2 ⟨rfl, ho2⟩
    have HI := hide (show OnceIn w g H w2.heap.size (w2.alloc (.cells (madeCells #[.int .i64 0] 65) 3)) from by
      refine ⟨emptyQ H, (h1.quiet ho2).add _, rfl, fun t ht => (by cases ht), ?_⟩
      have e : madeCells #[.int .i64 0] 65 = rowK (thereQ (emptyQ H)) := by
        rw [made_row]
        unfold rowK
        congr 1
        funext i
        rw [ind_no]
        intro h
        cases h
      rw [e]
      exact Blk.new _ _ _)
    clear h1 ho2
    go_wp2_with fail
    clear hmk
    revert HI
    generalize w2.alloc (.cells (madeCells #[.int .i64 0] 65) 3) = wa
    generalize w2.heap.size = b
    intro HI
    go_loopw [8] (fun iv wr => ∃ k : Nat, k ≤ len ∧ iv = .int .i64 k ∧ OnceIn w g H b wr) (fun iv _ => len - (intOf iv).toNat)
    case atStart => exact ⟨0, Nat.zero_le _, rfl, HI.out⟩
    case round =>
      obtain ⟨k, hk, rfl, hI⟩ := hrel
      by_cases hlt : k < len
      · obtain ⟨q, o, kd, x, c, rfl, hq, c0, c1, c2, hb, hc⟩ := HOP.out k hlt
        have hba : Only [] w wr := by obtain ⟨s, R, _⟩ := hI; exact R.base
        have d0 := (hba.cell hq (by simp) (o := o + k * 3) (s := none)).trans c0
        have d1 := (hba.cell hq (by simp) (o := o + k * 3 + 1) (s := none)).trans c1
        have d2 := (hba.cell hq (by simp) (o := o + k * 3 + 2) (s := none)).trans c2
        have hl64 : (k : Int) + 1 ≤ 9223372036854775807 := by omega
        obtain ⟨tn, ht, hsg⟩ := once_mod c
        have hs3 : ¬ ((tn : Int) < 0) := by omega
        have htI : (tn : Int) < 65 := by omega
        have htI2 : (tn : Int) < 64 := by omega
        have HI2 := hide hI
        clear c0 c1 c2 hba hI
        go_upto_if 55 with fail
        go_cut [10] from 41 to 151 (fun t wx => t = .int .i64 tn ∧ wx = wr.alloc (.cells #[.int .i64 kd, .int .i64 x, .int .i64 c] 33))
        case first =>
          rcases hsg with ⟨hs1, hs2⟩ | ⟨hs1, hs2⟩
          · have hb1 : decide (c.tmod 64 < 0) = true := decide_eq_true hs1
            clear hs1
            refine wp_cond_true (congrArg Value.bool hb1) ?_
            go_wp2_with fail
            go_meet
            case rel => exact ⟨by first | rfl | rw [hs2], rfl⟩
          · have hb1 : decide (c.tmod 64 < 0) = false := decide_eq_false hs1
            refine wp_cond_false (congrArg Value.bool hb1) ?_
            go_wp2_with fail
            go_meet
            case rel => exact ⟨rfl, rfl⟩
        case rest =>
          obtain ⟨rfl, rfl⟩ := hcut
          clear hsg
          go_upto_block 2 with fail
          go_cut [] from 41 to 151 (fun wx => ∃ y, (y = 0 ∨ y = 1) ∧ OnceY w g H b tn y wx)
          case first =>
            have HBX := (Only.refl [] wr).alloc (.cells #[.int .i64 kd, .int .i64 x, .int .i64 c] 33)
            by_cases k1 : kd = 1
            · subst k1
              rcases once_put HI2.out ht x with HC | ⟨x1, y, hx1, hy, HC⟩
              · have HC2 := hide HC
                clear HC
                go_wp2_with (go_at_call 14; refine (HC2.out _ HBX).mono ?_; rintro e w3 ⟨rfl, z1, z2, z3⟩; have HF := hide z3; clear z3)
                go_meet
                case rel => exact ⟨1, .inr rfl, HF.out⟩
              · have hx2 : (x1 == 0) = false := beq_eq_false_iff_ne.2 hx1
                have HC2 := hide HC
                clear HC hx1
                go_wp2_with (go_at_call 14; refine (HC2.out _ HBX).mono ?_; rintro e w3 ⟨rfl, z3⟩; have HF := hide z3; clear z3)
                go_meet
                case rel => exact ⟨y, hy, HF.out⟩
            · have k1b : (kd == 1) = false := beq_eq_false_iff_ne.2 k1
              by_cases k2 : kd = 2
              · subst k2
                clear k1 k1b
                rcases once_wake HI2.out ht with ⟨z, HC⟩ | ⟨z, x1, y, hx1, hy, HC⟩
                · have HC2 := hide HC
                  clear HC
                  go_wp2_with (go_at_call 15; refine (HC2.out _ HBX).mono ?_; rintro e w3 ⟨rfl, z1, z2, z3⟩; have HF := hide z3; clear z3)
                  go_meet
                  case rel => exact ⟨1, .inr rfl, HF.out⟩
                · have hx2 : (x1 == 0) = false := beq_eq_false_iff_ne.2 hx1
                  have HC2 := hide HC
                  clear HC hx1
                  go_wp2_with (go_at_call 15; refine (HC2.out _ HBX).mono ?_; rintro e w3 ⟨rfl, z3⟩; have HF := hide z3; clear z3)
                  go_meet
                  case rel => exact ⟨y, hy, HF.out⟩
              · have k2b : (kd == 2) = false := beq_eq_false_iff_ne.2 k2
                by_cases k3 : kd = 3
                · subst k3
                  clear k1 k1b k2 k2b
                  obtain ⟨z, x1, y, hy, HC⟩ := once_next HI2.out ht x
                  have HC2 := hide HC
                  clear HC
                  go_wp2_with (go_at_call 16; refine (HC2.out _ HBX).mono ?_; rintro e w3 ⟨rfl, z3⟩; have HF := hide z3; clear z3)
                  go_meet
                  case rel => exact ⟨y, hy, HF.out⟩
                · have k3b : (kd == 3) = false := beq_eq_false_iff_ne.2 k3
                  by_cases k4 : kd = 4
                  · subst k4
                    clear k1 k1b k2 k2b k3 k3b
                    obtain ⟨x1, y, hy, HC⟩ := once_tick HI2.out ht x
                    have HC2 := hide HC
                    clear HC
                    go_wp2_with (go_at_call 17; refine (HC2.out _ HBX).mono ?_; rintro e w3 ⟨rfl, z3⟩; have HF := hide z3; clear z3)
                    go_meet
                    case rel => exact ⟨y, hy, HF.out⟩
                  · have k4b : (kd == 4) = false := beq_eq_false_iff_ne.2 k4
                    by_cases k5 : kd = 5
                    · subst k5
                      clear k1 k1b k2 k2b k3 k3b k4 k4b
                      rcases once_sleep HI2.out ht x with ⟨p, y, hp1, hp2, hy, HC⟩ | ⟨y, hy, HC⟩
                      · have hp5 : (p : Int) < 65 := by omega
                        have hpd1 : decide ((p : Int) < 1) = false := by simp; omega
                        have hpd2 : decide (63 < (p : Int)) = false := by simp; omega
                        have HC2 := hide HC
                        clear HC
                        go_wp2_with (go_at_call 18; refine (HC2.out _ HBX).mono ?_; rintro e w3 ⟨rfl, z1, z2, z3⟩; have HF := hide z3; clear z3)
                        go_meet
                        case rel => exact ⟨y, hy, HF.out⟩
                      · have HC2 := hide HC
                        clear HC
                        go_wp2_with (go_at_call 18; refine (HC2.out _ HBX).mono ?_; rintro e w3 ⟨rfl, z3⟩; have HF := hide z3; clear z3)
                        go_meet
                        case rel => exact ⟨y, hy, HF.out⟩
                    · have k5b : (kd == 5) = false := beq_eq_false_iff_ne.2 k5
                      by_cases k6 : kd = 6
                      · subst k6
                        clear k1 k1b k2 k2b k3 k3b k4 k4b k5 k5b
                        rcases once_remove HI2.out ht with HC | HC
                        · have HC2 := hide HC
                          clear HC
                          go_wp2_with (go_at_call 19; refine (HC2.out _ HBX).mono ?_; rintro e w3 ⟨rfl, z1, z2, z3⟩; have HF := hide z3; clear z3)
                          go_meet
                          case rel => exact ⟨0, .inl rfl, HF.out⟩
                        · have HC2 := hide HC
                          clear HC
                          go_wp2_with (go_at_call 19; refine (HC2.out _ HBX).mono ?_; rintro e w3 ⟨rfl, z3⟩; have HF := hide z3; clear z3)
                          go_meet
                          case rel => exact ⟨0, .inl rfl, HF.out⟩
                      · have k6b : (kd == 6) = false := beq_eq_false_iff_ne.2 k6
                        clear k1 k2 k3 k4 k5 k6
                        obtain ⟨y, hy, HC⟩ := once_else HI2.out ht
                        have HF := hide (HC _ HBX)
                        clear HC
                        go_wp2_with fail
                        go_meet
                        case rel => exact ⟨y, hy, HF.out⟩
          case rest =>
            obtain ⟨y, hy, hY⟩ := hcut
            have z4 := hY.2
            have HF := hide hY.1
            clear hY
            rcases hy with rfl | rfl
            all_goals
              go_wp2_with fail
              go_roundw
              case rel => exact ⟨k + 1, hlt, by go_num, HF.out⟩
              case measure => simp only [intOf]; omega
      · obtain rfl : k = len := by omega
        obtain ⟨s, hsH, hF⟩ := found_start hI
        have hbb : b ≠ wr.heap.size := by
          obtain ⟨_, R, _⟩ := hI
          have := R.lt (b := b) (by simp)
          omega
        subst hsH
        have hmk := HMK.out
        have HF := hide hF
        clear hI hF HI HOP
        go_wp2_with fail
        clear hmk HMK
        revert HF hbb
        generalize wr.alloc (.cells (madeCells #[.int .i64 0] 65) 3) = wb
        generalize wr.heap.size = b2
        intro hbb HF
        go_loopw [16] (fun iv wq => ∃ h : Nat, h ≤ s.H ∧ iv = .int .i64 h ∧ FoundIn w g b b2 s h false 0 wq) (fun iv _ => s.H - (intOf iv).toNat)
        case atStart => exact ⟨0, Nat.zero_le _, rfl, HF.out⟩
        case round =>
          obtain ⟨h, hh, rfl, hP⟩ := hrel
          by_cases hhl : h < s.H
          · have hhI : (h : Int) < s.H := by omega
            have hbq : hasQ s h = true := by simp [hasQ, hhl]
            have er : runningF s h = s.r h := by unfold runningF; rw [if_pos hbq, Int.toNat_natCast]
            have eq : queueQ s h = s.n h := by unfold queueQ; rw [if_pos hbq, Int.toNat_natCast]
            have HRN := hide (lq_running hP.1 h)
            rw [er] at HRN
            have HQ := hide (fun wq (P : FoundIn w g b b2 s h true 0 wq) => lq_queue P.1 h)
            rw [eq] at HQ
            have HLB := hide (fun wq (P : FoundIn w g b b2 s h true 0 wq) => P.1.lt (b := b2) (by simp))
            have hfew := hP.1.ok.small.few h (by omega)
            have hwr := (hP.1.ok.wr h).1
            clear er eq hbq
            by_cases hr : s.r h = 0
            · have HG := hide (found_idle hP hr)
              rw [hr] at HRN
              clear hP hwr hr
              go_wp2_with (first | (go_at_call 20; refine HRN.out.mono ?_; rintro e w5 ⟨rfl, rfl⟩) | (go_at_call 21; refine (HQ.out _ HG.out).mono ?_; rintro e w6 ⟨v, rfl, hrow, hfr, ho⟩; have HG2 := hide (HG.out.quiet ho); obtain ⟨A6, c6, rfl, hA6⟩ := hrow.form; have HA6 := hide hA6; have HFR := hide hfr; clear hrow hA6 hfr ho))
              have H6 := hide (show FoundIn w g b b2 s h true 0 w6 ∧ (0 < (s.n h).length → ∃ bq, A6 = some ⟨bq, 0, none⟩ ∧ bq ≠ b2 ∧ bq < w6.heap.size ∧ ∀ j, j < (s.n h).length → w6.cell? ⟨bq, j, none⟩ = some (.int .i64 (gb (s.n h) j))) from ⟨HG2.out, fun hp => by
                obtain ⟨bq, e, _, hl, hc⟩ := HA6.out hp
                have h1 := HFR.out bq (by rw [e]; rfl)
                have h2 := HLB.out _ HG.out
                exact ⟨bq, e, by omega, hl, hc⟩⟩)
              clear HA6 HFR HLB HG HG2 HQ HRN
              go_loopw [19] (fun iv wz => ∃ i : Nat, i ≤ (s.n h).length ∧ iv = .int .i64 i ∧ FoundIn w g b b2 s h true i wz ∧ (0 < (s.n h).length → ∃ bq, A6 = some ⟨bq, 0, none⟩ ∧ bq ≠ b2 ∧ bq < wz.heap.size ∧ ∀ j, j < (s.n h).length → wz.cell? ⟨bq, j, none⟩ = some (.int .i64 (gb (s.n h) j)))) (fun iv _ => (s.n h).length - (intOf iv).toNat)
              case atStart => exact ⟨0, Nat.zero_le _, rfl, H6.out.1, H6.out.2⟩
              case round =>
                obtain ⟨i, hi, rfl, hPI, hQI⟩ := hrel
                by_cases hil : i < (s.n h).length
                · have hiI : (i : Int) < (s.n h).length := by omega
                  obtain ⟨bq, hA6, hne, hlq, hcq⟩ := hQI (by omega)
                  subst hA6
                  obtain ⟨p, f1, f2, f3, f4, f5, f6⟩ := found_next hPI hil hbb
                  have q0 := hcq i hil
                  rw [f1] at q0
                  have HN := hide (show FoundIn w g b b2 s h true (i + 1) (wr.setCell ⟨b2, p, none⟩ (.int .i64 1)) ∧ (0 < (s.n h).length → ∃ bq', some (⟨bq, 0, none⟩ : Addr) = some ⟨bq', 0, none⟩ ∧ bq' ≠ b2 ∧ bq' < (wr.setCell ⟨b2, p, none⟩ (.int .i64 1)).heap.size ∧ ∀ j, j < (s.n h).length → (wr.setCell ⟨b2, p, none⟩ (.int .i64 1)).cell? ⟨bq', j, none⟩ = some (.int .i64 (gb (s.n h) j))) from
                    ⟨f6, fun _ => by
                      have ho : Only [b2] wr (wr.setCell ⟨b2, p, none⟩ (.int .i64 1)) := (Only.refl _ _).setCell _ (by simp)
                      exact ⟨bq, rfl, hne, Nat.lt_of_lt_of_le hlq ho.size, fun j hj => (ho.cell hlq (by simpa using hne)).trans (hcq j hj)⟩⟩)
                  have hpd1 : decide ((p : Int) < 1) = false := by simp; omega
                  have hpd2 : decide (63 < (p : Int)) = false := by simp; omega
                  have hpd3 : (p : Int) < 65 := by omega
                  clear hPI hQI hcq f1 f2 f3 f6
                  go_wp2_with fail
                  go_roundw
                  case rel => exact ⟨i + 1, hil, by go_num, HN.out⟩
                  case measure => simp only [intOf]; omega
                · obtain rfl : i = (s.n h).length := by omega
                  have HH := hide (found_hart hPI)
                  clear hPI hQI H6
                  go_wp2_with fail
                  go_roundw
                  case rel => exact ⟨h + 1, hhl, by go_num, HH.out⟩
                  case measure => simp only [intOf]; omega
            · obtain ⟨p, e1, e2, e3, e4, e5, e6⟩ := found_run hP (by omega) hbb
              have HG := hide e6
              rw [e1] at HRN
              have hp3 : ¬ ((p : Int) < 1) := by omega
              have hp4 : (0 : Int) < p := by omega
              have hp5 : (p : Int) < 65 := by omega
              have hp6 : ¬ p = 0 := by omega
              have hp7 : 0 < p := by omega
              have hp8 : p < 65 := by omega
              have hp9 : (p : Int) < 64 := by omega
              clear hP hwr hr e1 e6
              go_wp2_with (first | (go_at_call 20; refine HRN.out.mono ?_; rintro e w5 ⟨rfl, rfl⟩) | (go_at_call 21; refine (HQ.out _ HG.out).mono ?_; rintro e w6 ⟨v, rfl, hrow, hfr, ho⟩; have HG2 := hide (HG.out.quiet ho); obtain ⟨A6, c6, rfl, hA6⟩ := hrow.form; have HA6 := hide hA6; have HFR := hide hfr; clear hrow hA6 hfr ho))
              have H6 := hide (show FoundIn w g b b2 s h true 0 w6 ∧ (0 < (s.n h).length → ∃ bq, A6 = some ⟨bq, 0, none⟩ ∧ bq ≠ b2 ∧ bq < w6.heap.size ∧ ∀ j, j < (s.n h).length → w6.cell? ⟨bq, j, none⟩ = some (.int .i64 (gb (s.n h) j))) from ⟨HG2.out, fun hp => by
                obtain ⟨bq, e, _, hl, hc⟩ := HA6.out hp
                have h1 := HFR.out bq (by rw [e]; rfl)
                have h2 := HLB.out _ HG.out
                exact ⟨bq, e, by omega, hl, hc⟩⟩)
              clear HA6 HFR HLB HG HG2 HQ HRN
              go_loopw [19] (fun iv wz => ∃ i : Nat, i ≤ (s.n h).length ∧ iv = .int .i64 i ∧ FoundIn w g b b2 s h true i wz ∧ (0 < (s.n h).length → ∃ bq, A6 = some ⟨bq, 0, none⟩ ∧ bq ≠ b2 ∧ bq < wz.heap.size ∧ ∀ j, j < (s.n h).length → wz.cell? ⟨bq, j, none⟩ = some (.int .i64 (gb (s.n h) j)))) (fun iv _ => (s.n h).length - (intOf iv).toNat)
              case atStart => exact ⟨0, Nat.zero_le _, rfl, H6.out.1, H6.out.2⟩
              case round =>
                obtain ⟨i, hi, rfl, hPI, hQI⟩ := hrel
                by_cases hil : i < (s.n h).length
                · have hiI : (i : Int) < (s.n h).length := by omega
                  obtain ⟨bq, hA6, hne, hlq, hcq⟩ := hQI (by omega)
                  subst hA6
                  obtain ⟨p, f1, f2, f3, f4, f5, f6⟩ := found_next hPI hil hbb
                  have q0 := hcq i hil
                  rw [f1] at q0
                  have HN := hide (show FoundIn w g b b2 s h true (i + 1) (wr.setCell ⟨b2, p, none⟩ (.int .i64 1)) ∧ (0 < (s.n h).length → ∃ bq', some (⟨bq, 0, none⟩ : Addr) = some ⟨bq', 0, none⟩ ∧ bq' ≠ b2 ∧ bq' < (wr.setCell ⟨b2, p, none⟩ (.int .i64 1)).heap.size ∧ ∀ j, j < (s.n h).length → (wr.setCell ⟨b2, p, none⟩ (.int .i64 1)).cell? ⟨bq', j, none⟩ = some (.int .i64 (gb (s.n h) j))) from
                    ⟨f6, fun _ => by
                      have ho : Only [b2] wr (wr.setCell ⟨b2, p, none⟩ (.int .i64 1)) := (Only.refl _ _).setCell _ (by simp)
                      exact ⟨bq, rfl, hne, Nat.lt_of_lt_of_le hlq ho.size, fun j hj => (ho.cell hlq (by simpa using hne)).trans (hcq j hj)⟩⟩)
                  have hpd1 : decide ((p : Int) < 1) = false := by simp; omega
                  have hpd2 : decide (63 < (p : Int)) = false := by simp; omega
                  have hpd3 : (p : Int) < 65 := by omega
                  clear hPI hQI hcq f1 f2 f3 f6
                  go_wp2_with fail
                  go_roundw
                  case rel => exact ⟨i + 1, hil, by go_num, HN.out⟩
                  case measure => simp only [intOf]; omega
                · obtain rfl : i = (s.n h).length := by omega
                  have HH := hide (found_hart hPI)
                  clear hPI hQI H6
                  go_wp2_with fail
                  go_roundw
                  case rel => exact ⟨h + 1, hhl, by go_num, HH.out⟩
                  case measure => simp only [intOf]; omega
          · obtain rfl : h = s.H := by omega
            obtain ⟨hO, hE⟩ := found_all hP
            have HO := hide hO
            have HE := hide hE
            clear hP hO hE
            go_wp2_with fail
            go_loopw [20] (fun tv wq => ∃ j : Nat, j ≤ 65 ∧ tv = .int .i64 (j : Int) ∧ Only [] w wq ∧ ∀ t, t < 65 → ∃ y, wq.cell? ⟨b, t, none⟩ = some (.int .i64 y) ∧ wq.cell? ⟨b2, t, none⟩ = some (.int .i64 y)) (fun tv _ => 65 - (intOf tv).toNat)
            case atStart => exact ⟨0, Nat.zero_le _, rfl, HO.out, HE.out⟩
            case round =>
              obtain ⟨j, hj, rfl, hO, hE⟩ := hrel
              have HO2 := hide hO
              have HE2 := hide hE
              by_cases hjl : j < 65
              · obtain ⟨y, q1, q2⟩ := hE j hjl
                have hjI : (j : Int) < 65 := by omega
                have hyy : (y != y) = false := by simp
                clear hO hE
                go_wp2_with fail
                go_region
                go_wp2_with fail
                go_roundw
                case rel => exact ⟨j + 1, hjl, by go_num, HO2.out.drew, HE2.out⟩
                case measure => simp only [intOf]; omega
              · obtain rfl : j = 65 := by omega
                clear hO hE
                go_wp2_with fail
                go_ret
                exact ⟨rfl, HO2.out.below (Nat.le_refl _) (by simp)⟩
  · have HB := hide (qNew_bad (w := w) n0 hn)
    go_enter Try.func4, Try.ntmps4
    go_wp2_with (first | (go_at_call 9; refine HB.out.mono ?_; rintro e w1 ⟨rfl, rfl⟩) | (go_at_call 11; refine (lives11 _).mono ?_; rintro e w2 ⟨rfl, ho2⟩; have H2 := hide ho2; clear ho2))
    go_ret
    exact ⟨rfl, H2.out.below (Nat.le_refl _) (by simp)⟩
end Go.Proofs.Ytjamanahgkagjaa
