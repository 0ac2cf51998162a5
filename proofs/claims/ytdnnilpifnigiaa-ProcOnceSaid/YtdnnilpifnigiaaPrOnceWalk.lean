/-
  The walk of 'ProcOnce'.
-/
import Derived.Test.YtdnnilpifnigiaaPrOnceP
namespace Go.Proofs.Ytdnnilpifnigiaa
open Go.ChangeShapes Go.WideShapes Go.ChangeAt Go.RowKit Go.Maps Go.Deep
set_option linter.unusedVariables false
set_option linter.unusedSimpArgs false
theorem only_up {w0 w w' : World} {t a b : Nat} (h : Only [t, a, b] w w') (ht : w0.heap.size ≤ t) (ha : w0.heap.size ≤ a) (hb : w0.heap.size ≤ b) (h0 : Only [] w0 w) : Only [] w0 w' := h0.trans' h (fun q hq hm => by simp at hm; omega)
section
variable {w w' : World} {t a b : Nat} {s : PS} {n : Int}
set_option maxRecDepth 100000 in
set_option maxHeartbeats 4000000 in
theorem procOnce_walk {H : Type} {enc : TypeId × Value → H} {dd : DataW H} {A0 : Option Addr} {len cap : Nat} (rv : Rd enc Try.prog w 22 [.slice A0 len cap] dd) :
    Calls Try.prog 4 #[.slice A0 len cap] w fun e w' => e = .returned (.bool true) ∧ Below w.heap.size w w' := by
  obtain ⟨hlen, hops⟩ := Rd.ops24 rv
  have HOP := hide hops
  clear rv hops
  have hmm := @run_makeMap Try.prog
  go_enter Try.func4, Try.ntmps4
  go_wp2_with (first | (go_at_call 7; refine (pt_new _).mono ?_; rintro e w1 ⟨t, a, b, rfl, h1⟩; have H1 := hide h1; clear h1) | (go_at_call 8; refine (awake24 _).mono ?_; rintro e w2 ⟨rfl, ho⟩; have H2 := hide (H1.out.quiet ho); have HS := hide ho.size; clear ho))
  have HW0 := hide (show OnceW w ((w2.alloc (.map #[] 0)).alloc (.map #[] 0)) t a b ps1 1 w2.heap.size (w2.heap.size + 1) [] [] from by
    obtain ⟨l1, l2, l3⟩ := H2.out.is_.lt_
    have h0 := H2.out.on.size
    refine ⟨H2.out.quiet (((Only.refl _ _).alloc _).alloc _), ⟨.map [], ownsMap_only (w := w2.alloc (.map #[] 0)) (S := []) (World.ownsMap_made w2 _ _ _) ((Only.refl _ _).alloc _) (by simp), MHolds.empty⟩, ⟨.map [], ?_, MHolds.empty⟩, by omega, h0, by omega, by simp, by simp⟩
    have := World.ownsMap_made (w2.alloc (.map #[] 0)) Try.prog 3 elemB
    rw [World.size_alloc] at this
    exact this)
  generalize (w2.alloc (.map #[] 0)).alloc (.map #[] 0) = w3 at *
  generalize w2.heap.size = mc at *
  go_loopw [34] (fun iv wr => ∃ (i : Nat) (s : PS) (C : List (Int × Int)) (B : List (Int × Bool)), i ≤ len ∧ iv = .int .i64 i ∧ OnceW w wr t a b s (1 + i) mc (mc + 1) C B ∧ OnceP s C B) (fun iv _ => len - (intOf iv).toNat)
  case atStart => exact ⟨0, ps1, [], [], Nat.zero_le _, rfl, HW0.out, ⟨by simp [ps1], by simp⟩⟩
  case round =>
    obtain ⟨i, s, C, B, hi, rfl, hW, hO⟩ := hrel
    have HW := hide hW
    have HP := hide hO
    by_cases hlt : i < len
    · have hltI : (i : Int) < len := by omega
      obtain ⟨q, o, kd, x, c, rfl, hq, hwx, hwc, c0, c1, c2⟩ := HOP.out i hlt
      have hba := hW.pt.on
      have d0 := (hba.cell hq (by simp) (o := o + i * 3) (s := none)).trans c0
      have d1 := (hba.cell hq (by simp) (o := o + i * 3 + 1) (s := none)).trans c1
      have d2 := (hba.cell hq (by simp) (o := o + i * 3 + 2) (s := none)).trans c2
      have HWX := hide (hW.quiet ((Only.refl [] wr).alloc (.cells #[.int .i64 kd, .int .i64 x, .int .i64 c] 29)))
      have HBX := hide (Blk.new wr 29 #[.int .i64 kd, .int .i64 x, .int .i64 c])
      have hb61 : (1 + (i : Int)) < 100000000000000 := by omega
      clear c0 c1 c2 hba hW hO
      by_cases hw4 : kd = 4 ∧ (waitS s x).1.2.2 ≠ 0
      · obtain ⟨rfl, hne⟩ := hw4
        have HCH := hide (fun W (ho : Only [] (wr.alloc (.cells #[.int .i64 4, .int .i64 x, .int .i64 c] 29)) W) => pt_children ((HWX.out.quiet ho).pt) x)
        have HBC := hide (fun W (ho : Only [] (wr.alloc (.cells #[.int .i64 4, .int .i64 x, .int .i64 c] 29)) W) => (show W.cell? ⟨wr.heap.size, 1, none⟩ = some (.int .i64 x) from ((HBX.out.only ho (by simp)).cell 1).trans rfl))
        rcases wait_cases s x with ⟨he, hs⟩ | ⟨k, hk, hz, hpr, he⟩
        · have hnb : ((waitS s x).1.2.2 != 0) = true := by simp [hne]
          have HWT := hide (fun W (ho : Only [] (wr.alloc (.cells #[.int .i64 4, .int .i64 x, .int .i64 c] 29)) W) => pt_wait ((HWX.out.quiet ho).pt) hwx)
          rw [hs] at HWT
          generalize (waitS s x).1.2.2 = er at *
          generalize (waitS s x).1.2.1 = er2 at *
          generalize (waitS s x).1.1 = er3 at *
          clear he hs hne
          go_wp2_with (first | (go_at_call 18; refine (HCH.out _ (Only.refl _ _)).mono ?_; rintro e w5 ⟨v5, rfl, hr, ho⟩; obtain ⟨A5, cp5, rfl, -⟩ := hr.form; have HO5 := hide ho; have b1 := HBC.out _ ho; clear hr ho) | (go_at_call 19; refine (HWT.out _ HO5.out).mono ?_; rintro e w6 ⟨rfl, hp6, ho⟩; have HW6 := hide ((HWX.out.quiet HO5.out).turn hp6 ho (Int.le_refl _)); clear hp6 ho))
          go_roundw
          case rel => exact ⟨i + 1, s, C, B, hlt, by go_num, HW6.out.later (by omega), HP.out⟩
          case measure => simp [intOf]; omega
        · exact absurd (by rw [he]) hne
      · have HN4 := hide hw4
        clear hw4
        go_upto_block 2 with fail
        go_cut [] from 40 to 155 (fun wx => ∃ s' C' B', OnceW w wx t a b s' (1 + (i + 1 : Nat)) mc (mc + 1) C' B' ∧ OnceP s' C' B')
        case first =>
          by_cases k0 : kd = 0
          · subst k0
            go_wp2_with (go_at_call 11; refine (pt_fork HWX.out.pt (by omega) hwx).mono ?_; rintro e w3 ⟨rfl, z3, z4⟩; have HF := hide (HWX.out.turn z3 z4 (by omega)); clear z3 z4)
            go_meet
            case rel => exact ⟨_, _, _, HF.out.later (by omega), HP.out.fork x⟩
          · have k0b : (kd == 0) = false := beq_eq_false_iff_ne.2 k0
            by_cases k1 : kd = 1
            · subst k1
              clear k0 k0b
              go_wp2_with (go_at_call 15; refine (pt_spawn HWX.out.pt (by omega) hwx).mono ?_; rintro e w3 ⟨rfl, z3, z4⟩; have HF := hide (HWX.out.turn z3 z4 (by omega)); clear z3 z4)
              go_meet
              case rel => exact ⟨_, _, _, HF.out.later (by omega), HP.out.spawn x⟩
            · have k1b : (kd == 1) = false := beq_eq_false_iff_ne.2 k1
              by_cases k2 : kd = 2
              · subst k2
                clear k0 k0b k1 k1b
                have hok := HWX.out.pt.ok
                have HTH := hide (pt_thread HWX.out.pt hwx)
                have HTE := hide (fun W (ho : Only [] (wr.alloc (.cells #[.int .i64 2, .int .i64 x, .int .i64 c] 29)) W) => pt_tend ((HWX.out.quiet ho).pt) (by omega) hwx c)
                have HBC := hide (fun W (ho : Only [] (wr.alloc (.cells #[.int .i64 2, .int .i64 x, .int .i64 c] 29)) W) => (show W.cell? ⟨wr.heap.size, 1, none⟩ = some (.int .i64 x) ∧ W.cell? ⟨wr.heap.size, 2, none⟩ = some (.int .i64 c) from ⟨((HBX.out.only ho (by simp)).cell 1).trans rfl, ((HBX.out.only ho (by simp)).cell 2).trans rfl⟩))
                rcases tend_cases hok x c with ⟨he, hs1, hs2⟩ | ⟨y, hy, hyt, k, hk, hkp, hkz, he⟩
                · rw [he] at HTE
                  have HP2 := hide (HP.out.same hs1 (by rw [hs2]; exact Int.le_refl _))
                  clear he hs1 hs2 hok
                  generalize (tendS s x c).2 = S2 at *
                  generalize (tendS s x c).1.2 = er at *
                  generalize (threadS s x).2 = er2 at *
                  generalize (threadS s x).1 = y2 at *
                  obtain ⟨y1, y2, y3, y4⟩ := y2
                  dsimp only [sV, sC] at HTH
                  go_wp2_with (first | (go_at_call 16; refine HTH.out.mono ?_; rintro e w5 ⟨rfl, ho⟩; have HO5 := hide (ho.alloc (.cells #[.int .i64 y1, .int .i64 y2, .bool y3, .int .i64 y4] 43)); obtain ⟨b1, b2⟩ := HBC.out _ HO5.out; clear ho) | (go_at_call 17; refine (HTE.out _ HO5.out).mono ?_; rintro e w6 ⟨rfl, hp6, ho⟩; have HW6 := hide ((HWX.out.quiet HO5.out).turn hp6 ho (Int.le_refl _)); clear hp6 ho))
                  go_meet
                  case rel => exact ⟨_, _, _, HW6.out.later (by omega), HP2.out⟩
                · rw [he] at HTE
                  have hth2 := threadS_at hok hy
                  rw [hyt] at hth2
                  rw [hth2] at HTH
                  have HP2 := hide (HP.out.end_ hok hk c)
                  have HWF := hide (And.intro (HWX.out.pt.wf (by omega) (List.mem_map.2 ⟨k, hk, (rfl : k.pid = k.pid)⟩)) hwc)
                  rw [hkp] at HTE HP2 HWF
                  clear he hok hy hyt hk hkp hkz hth2
                  generalize endS s y.pid c = S2 at *
                  obtain ⟨y1, y2, y3, y4⟩ := y
                  dsimp only [sV, sC] at HTH HTE HP2 HWF
                  go_wp2_with (first | (go_at_call 16; refine HTH.out.mono ?_; rintro e w5 ⟨rfl, ho⟩; have HSZ5 := hide ho.size; have HO5 := hide (ho.alloc (.cells #[.int .i64 y1, .int .i64 y2, .bool y3, .int .i64 y4] 43)); have HB5 := hide (Blk.new w5 43 #[.int .i64 y1, .int .i64 y2, .bool y3, .int .i64 y4]); obtain ⟨b1, b2⟩ := HBC.out _ HO5.out; clear ho) | (go_at_call 17; refine (HTE.out _ HO5.out).mono ?_; rintro e w6 ⟨rfl, hp6, ho⟩; have HW6 := hide ((HWX.out.quiet HO5.out).turn hp6 ho (Int.le_refl _)); have hl6 := HWX.out.pt.is_.lt_; have hl7 := HW.out.pt.is_.lt_; have hl8 := HO5.out.size; have hl9 := HSZ5.out; have b62 := (((HBX.out.only HO5.out (by simp)).only ho (by simp; omega)).cell 2).trans (b := some (Value.int .i64 c)) rfl; have b61 := ((HB5.out.only ho (by simp; rw [World.size_alloc] at hl9; omega)).cell 1).trans (b := some (Value.int .i64 y2)) rfl; obtain ⟨w7, hrun, h7⟩ := HW6.out.code (by omega) HWF.out.1 HWF.out.2 (Only.refl _ _); have HW7 := hide h7; clear hp6 ho h7 hl6 hl7 hl8 hl9))
                  go_meet
                  case rel => exact ⟨_, _, _, HW7.out.later (by omega), HP2.out⟩
              · have k2b : (kd == 2) = false := beq_eq_false_iff_ne.2 k2
                by_cases k3 : kd = 3
                · subst k3
                  clear k0 k0b k1 k1b k2 k2b
                  have hok := HWX.out.pt.ok
                  have HTE := hide (pt_exit HWX.out.pt hwx c)
                  rcases exit_cases hok x c with ⟨he, hs⟩ | ⟨k, hk, hkp, hkz, he, hs⟩
                  · rw [he, hs] at HTE
                    clear he hs hok
                    go_wp2_with (go_at_call 12; refine HTE.out.mono ?_; rintro e w3 ⟨v, rfl, hr, z3, z4⟩; obtain ⟨A5, cp5, rfl, -⟩ := hr.form; have HF := hide (HWX.out.turn z3 z4 (by omega)); clear z3 z4 hr)
                    go_meet
                    case rel => exact ⟨_, _, _, HF.out.later (by omega), HP.out⟩
                  · rw [he, hs] at HTE
                    have HP2 := hide (HP.out.end_ hok hk c)
                    rw [hkp] at HTE HP2
                    clear he hs hok hk hkp hkz
                    generalize endS s x c = S2 at *
                    go_wp2_with (go_at_call 12; refine HTE.out.mono ?_; rintro e w3 ⟨v, rfl, hr, z3, z4⟩; obtain ⟨A5, cp5, rfl, -⟩ := hr.form; have HF := hide (HWX.out.turn z3 z4 (Int.le_refl _)); have hl6 := HWX.out.pt.is_.lt_; have hl7 := HW.out.pt.is_.lt_; have b1 := ((HBX.out.only z4 (by simp; omega)).cell 1).trans (b := some (Value.int .i64 x)) rfl; have b2 := ((HBX.out.only z4 (by simp; omega)).cell 2).trans (b := some (Value.int .i64 c)) rfl; obtain ⟨w7, hrun, h7⟩ := HF.out.code (by omega) hwx hwc (Only.refl _ _); have HW7 := hide h7; clear z3 z4 hr h7 hl6 hl7)
                    go_meet
                    case rel => exact ⟨_, _, _, HW7.out.later (by omega), HP2.out⟩
                · have k3b : (kd == 3) = false := beq_eq_false_iff_ne.2 k3
                  by_cases k4 : kd = 4
                  · subst k4
                    clear k0 k0b k1 k1b k2 k2b k3 k3b
                    rcases wait_cases s x with ⟨he, hs⟩ | ⟨k, hk, hz, hpr, he⟩
                    · exact absurd ⟨rfl, by rcases he with e | e | e <;> rw [e] <;> decide⟩ HN4.out
                    · have hok := HWX.out.pt.ok
                      have HCH := hide (pt_children HWX.out.pt x)
                      have HBC := hide (fun W (ho : Only [] (wr.alloc (.cells #[.int .i64 4, .int .i64 x, .int .i64 c] 29)) W) => (show W.cell? ⟨wr.heap.size, 1, none⟩ = some (.int .i64 x) from ((HBX.out.only ho (by simp)).cell 1).trans rfl))
                      have HWT := hide (fun W (ho : Only [] (wr.alloc (.cells #[.int .i64 4, .int .i64 x, .int .i64 c] 29)) W) => pt_wait ((HWX.out.quiet ho).pt) hwx)
                      rw [he] at HWT
                      have HP2 := hide (HP.out.wait hok hk)
                      have HML := hide (show k.pid ∈ chP s.P x from (mem_chP (pw_nodup hok.sp) hk x).2 hpr)
                      have HWF := hide (HWX.out.pt.wf (by omega) (List.mem_map.2 ⟨k, hk, (rfl : k.pid = k.pid)⟩))
                      have HCD := hide (HP.out.z k hk hz)
                      have HNT := hide (HP.out.not_told hk)
                      have hsm : (chP s.P x).length < 100000 := by
                        have h1 := (chP_sub s.P x).length_le
                        have h2 := hok.fp
                        rw [List.length_map] at h1
                        omega
                      clear he hok hk hz hpr HN4
                      obtain ⟨kp, kpar, kz, kc⟩ := k
                      dsimp only at *
                      generalize chP s.P x = l at *
                      generalize ({ s with P := delK s.P kp } : PS) = S2 at *
                      have hcc : (kc != kc) = false := by simp
                      go_wp2_with (first | (go_at_call 18; refine HCH.out.mono ?_; rintro e w5 ⟨v5, rfl, hr, ho⟩; obtain ⟨A5, cp5, rfl, hA⟩ := hr.form; have HA5 := hide hA; have HO5 := hide ho; have b1 := HBC.out _ ho; clear hr ho hA) | (go_at_call 19; refine (HWT.out _ HO5.out).mono ?_; rintro e w6 ⟨rfl, hp6, ho⟩; have HW6 := hide ((HWX.out.quiet HO5.out).turn hp6 ho (Int.le_refl _)); have HO6 := hide ho; clear hp6 ho))
                      have HA6 := hide (fun (W : World) (ho : Only [] w6 W) (j : Nat) (hj : j < l.length) => (show ∃ b, A5 = some ⟨b, 0, none⟩ ∧ W.cell? ⟨b, j, none⟩ = some (.int .i64 l[j]) from by
                        obtain ⟨q5, e, h1, h2, h3⟩ := HA5.out (by omega)
                        have hl6 := HWX.out.pt.is_.lt_
                        refine ⟨q5, e, ?_⟩
                        rw [ho.cell (Nat.lt_of_lt_of_le h2 HO6.out.size) (by simp), HO6.out.cell h2 (by simp; omega), h3 j hj, gb_at hj]))
                      clear HA5 HCH HBC HWT HO5 HO6
                      have hany : l.any (fun z => z == kp) = true := List.any_eq_true.2 ⟨kp, HML.out, by simp⟩
                      have HANY := hide hany
                      clear hany HML
                      go_loopw [18, 118] (fun ov jv wz => ∃ j : Nat, j ≤ l.length ∧ jv = .int .i64 j ∧ ov = .bool ((l.take j).any fun z => z == kp) ∧ Only [] w6 wz) (fun _ jv _ => l.length - (intOf jv).toNat)
                      case atStart => exact ⟨0, Nat.zero_le _, rfl, rfl, Only.refl _ _⟩
                      case round =>
                        obtain ⟨j, hj, rfl, rfl, ho⟩ := hrel
                        have HO := hide ho
                        by_cases hltj : j < l.length
                        · have hltJ : (j : Int) < l.length := by omega
                          obtain ⟨q5, rfl, cq⟩ := HA6.out _ ho j hltj
                          have HTK := hide (show ((l.take (j + 1)).any fun z => z == kp) = (((l.take j).any fun z => z == kp) || (l[j] == kp)) from by
                            rw [List.take_add_one, List.getElem?_eq_getElem hltj, List.any_append]
                            simp)
                          clear ho
                          generalize l[j] = z at *
                          cases hb : ((l.take j).any fun z => z == kp)
                          · rw [hb] at HTK
                            go_wp2_with fail
                            go_roundw
                            case rel => exact ⟨j + 1, hltj, by go_num, by rw [HTK.out]; rfl, HO.out⟩
                            case measure => simp [intOf]; omega
                          · rw [hb] at HTK
                            go_wp2_with fail
                            go_roundw
                            case rel => exact ⟨j + 1, hltj, by go_num, by rw [HTK.out]; rfl, HO.out⟩
                            case measure => simp [intOf]; omega
                        · obtain rfl : j = l.length := by omega
                          have ho2 := HW6.out.quiet ho
                          have q1 := ho2.seeC HCD.out (Only.refl _ _)
                          have q2 := ho2.seeB HWF.out HNT.out (Only.refl _ _)
                          obtain ⟨w7, hrun, h7⟩ := ho2.tell (by omega) HWF.out HNT.out (Only.refl _ _)
                          have HW7 := hide h7
                          have hany := HANY.out
                          rw [List.take_length, hany]
                          clear ho ho2 h7 HO HA6
                          go_wp2_with fail
                          go_meet
                          case rel => exact ⟨_, _, _, HW7.out.later (by omega), HP2.out⟩
                  · have k4b : (kd == 4) = false := beq_eq_false_iff_ne.2 k4
                    clear k0 k1 k2 k3 k4
                    go_wp2_with fail
                    go_meet
                    case rel => exact ⟨_, _, _, HWX.out.later (by omega), HP.out⟩
        case rest =>
          obtain ⟨s', C', B', hW', hO'⟩ := hcut
          have HF := hide hW'
          have HG := hide hO'
          clear hW' hO' HW HP HWX HBX HN4 d0 d1 d2 hwx hwc
          go_wp2_with (go_at_call 20; refine (tree_is HF.out.pt (by omega)).mono ?_; rintro e w9 ⟨rfl, ho⟩; have HO9 := hide ho; clear ho)
          go_roundw
          case rel => exact ⟨i + 1, s', C', B', hlt, by go_num, HF.out.quiet HO9.out, HG.out⟩
          case measure => simp [intOf]; omega
    · obtain rfl : i = len := by omega
      go_wp2
      go_ret
      exact ⟨rfl, hW.pt.on.below (Nat.le_refl _) (by simp)⟩
end
end Go.Proofs.Ytdnnilpifnigiaa
