/-
  The walk of 'BufHolds': never more blocks than room, none twice, and what is dirty stays.
-/
import Derived.Test.YtenpifamklnkmaaBuAny
import Derived.Deep.Cut
import Derived.Deep.CutRange
import Derived.Deep.CutBlock
namespace Go.Proofs.Ytenpifamklnkmaa
open Go.ChangeShapes Go.WideShapes Go.ChangeAt Go.RowKit Go.Maps
set_option linter.unusedVariables false

abbrev P12 : List Int := List.replicate (512 * 12) 0
/-- A cache beside what was there. -/
structure HoB (w wr : World) (g gd room : Nat) (plat : List Int) (l : List (Nat × List Int)) (L : List VB) (k : Nat) (F : List Nat) : Prop where
  bu : Bu wr g gd 12 room plat l L k F
  new : ∀ q ∈ F, w.heap.size ≤ q
  only : Only [] w wr
section
variable {w wr w' : World} {g gd room : Nat} {plat plat' : List Int} {l l' : List (Nat × List Int)} {L L' : List VB} {k k' : Nat} {F F' : List Nat}
theorem HoB.quiet (h : HoB w wr g gd room plat l L k F) (ho : Only [] wr w') : HoB w w' g gd room plat l L k F := ⟨h.bu.quiet ho, h.new, h.only.trans ho⟩
theorem HoB.turn (h : HoB w wr g gd room plat l L k F) (hT : Turned wr w' F F') (hB : Bu w' g gd 12 room plat' l' L' k' F') : HoB w w' g gd room plat' l' L' k' F' :=
  ⟨hB, fun q hq => (hT.2 q hq).elim (fun e => h.new q e) (fun e => Nat.le_trans h.only.size e), h.only.trans' hT.1 (fun q hq hm => by have := h.new q hm; omega)⟩
theorem HoB.more (h : HoB w wr g gd room plat l L k F) (hk : k ≤ k') : HoB w wr g gd room plat l L k' F := ⟨h.bu.more hk, h.new, h.only⟩
end
theorem IRow.keep {w w' : World} {v : Value} {ns : List Int} {F : List Nat} (h : IRow w v ns) (ho : Only F w w') (hf : ∀ q, v.ownBlock = some q → q ∉ F) : IRow w' v ns := KRow.only h ho hf
/-- Behind the call of a round. -/
def HoldM (w : World) (g gd room : Nat) (v : Value) (DL : List Int) (k : Nat) (wx : World) : Prop :=
  ∃ L F, HoB w wx g gd room P12 [] L k F ∧ IRow wx v DL ∧ ∀ t ∈ DL, t ∈ keysV L
theorem sortK_mem {ns : List Int} {t : Int} : t ∈ sortK ns ↔ t ∈ ns := (sortK_perm ns).mem_iff
theorem dirt_mem {L : List VB} {t : Int} (h : t ∈ sortK (keysV (dirtV L))) : ∃ x ∈ L, x.y = true ∧ x.n = t := by
  rw [sortK_mem] at h
  obtain ⟨x, hx, e⟩ := List.mem_map.1 h
  obtain ⟨h1, h2⟩ := List.mem_filter.1 hx
  exact ⟨x, h1, h2, e⟩
theorem nodup_gb {ns : List Int} (h : ns.Nodup) {i j : Nat} (hj : j < ns.length) (hi : i < j) : (gb ns i == gb ns j) = false := by
  simp only [beq_eq_false_iff_ne, gb, List.getD, List.getElem?_eq_getElem hj, List.getElem?_eq_getElem (show i < ns.length by omega), Option.getD_some]
  intro e
  have := (List.getElem_inj (h₀ := by omega) (h₁ := hj) h).1 e
  omega

set_option maxRecDepth 100000 in
set_option maxHeartbeats 4000000 in
theorem bufHolds_good (room : Int) (A : Option Addr) (m c : Nat) (w : World) (hr : 1 ≤ room ∧ room ≤ 1024) (hm : m < 4398046511000) (hops : ∀ i, i < m → OpAt15 w A i) :
    Calls Try.prog 4 #[.int .i64 room, .slice A m c] w fun e w' => e = .returned (.bool true) ∧ Below w.heap.size w w' := by
  have HOP := hide hops
  clear hops
  have HR := hide hr
  clear hr
  go_enter Try.func4, Try.ntmps4
  go_wp2_with fail
  refine (dk_new 12 _ (by decide) (by decide)).mono ?_
  rintro e w1 ⟨gd, FD, rfl, ho1, hFD, hd⟩
  have HO1 := hide ho1
  have HFD := hide hFD
  have HD := hide hd
  clear ho1 hFD hd
  go_wp2_with fail
  refine (lives_is _).mono ?_
  rintro e w2 ⟨rfl, ho2⟩
  have HO2 := hide (HO1.out.trans ho2)
  have HD2 := hide (HD.out.quiet ho2)
  clear ho2 HD
  go_wp2_with fail
  refine (buNew_ok HD2.out HR.out).mono ?_
  rintro e w3 ⟨g, F3, rfl, ho3, hb3, hF3⟩
  have HB3 := hide (show HoB w w3 g gd room.toNat P12 [] [] 0 F3 from ⟨hb3, fun q hq => (hF3 q hq).elim (fun e => HFD.out q e) (fun e => Nat.le_trans HO2.out.size e), HO2.out.trans ho3⟩)
  clear ho3 hb3 hF3
  go_wp2
  go_loopw [9] (fun iv wr => ∃ (i : Nat) (L : List VB) (F : List Nat), i ≤ m ∧ iv = .int .i64 i ∧ HoB w wr g gd room.toNat P12 [] L i F) (fun iv _ => m - (intOf iv).toNat)
  case atStart => exact ⟨0, [], F3, Nat.zero_le _, rfl, HB3.out⟩
  case round =>
    obtain ⟨i, L, F, hi, rfl, hB⟩ := hrel
    by_cases hlt : i < m
    · obtain ⟨q, o, kd, n, f, s, rfl, hq, c0, c1, c2, c3, hf, hn⟩ := HOP.out i hlt
      have e0 := (hB.only.cell hq (by simp)).trans c0
      have e1 := (hB.only.cell hq (by simp)).trans c1
      have e2 := (hB.only.cell hq (by simp)).trans c2
      have e3 := (hB.only.cell hq (by simp)).trans c3
      have hl64 : (i : Int) + 1 ≤ 9223372036854775807 := by omega
      have HF := hide hf
      have HN := hide hn
      have HB := hide hB
      have HBX := hide (Blk.new wr 33 #[.int .i64 kd, .int .i64 n, .int .u8 f, .int .i64 s])
      have HBA := hide (hB.quiet ((Only.refl [] wr).alloc (.cells #[.int .i64 kd, .int .i64 n, .int .u8 f, .int .i64 s] 33)))
      clear c0 c1 c2 c3 hf hn hB
      go_wp2_with fail
      refine (bu_dirty HBA.out.bu).mono ?_
      rintro e wd ⟨v11, rfl, hr11, hn11, hod⟩
      obtain ⟨A11, c11, hv11, -⟩ := hr11.form2
      have HBD := hide (HBA.out.quiet hod)
      have HR11 := hide hr11
      have HN11 := hide (show ∀ q, v11.ownBlock = some q → q ∉ F from fun q hq hm => by have := HBA.out.bu.lt q hm; have := hn11 q hq; omega)
      have HBXD := hide (HBX.out.only hod (by simp))
      have b0 := (HBX.out.only hod (by simp)).cell 0
      have b1 := (HBX.out.only hod (by simp)).cell 1
      have b2 := (HBX.out.only hod (by simp)).cell 2
      subst hv11
      clear hr11 hn11 hod e0 e1 e2 e3
      have hnd := HBD.out.bu.facts.1
      have HND := hide hnd
      have HDL := hide (show (sortK (keysV (dirtV L))).length ≤ 1024 from by
        have h1 := HBD.out.bu.facts.2.1
        have h2 : (dirtV L).length ≤ L.length := List.length_filter_le _ _
        have h3 := HR.out
        rw [sortK_length]
        simp only [keysV, List.length_map]
        omega)
      clear hnd
      go_upto_block 2 with fail
      go_cut [] from 46 to 130 (fun wx => HoldM w g gd room.toNat (.slice A11 (sortK (keysV (dirtV L))).length c11) (sortK (keysV (dirtV L))) (i + 1) wx)
      case first =>
        by_cases k1 : kd = 1
        · subst k1
          go_wp2_with fail
          refine (bu_read HBD.out.bu (by omega) HN.out).mono ?_
          rintro e w5 ⟨vd, B5, F5, rfl, -, -, -, -, hT, hB5⟩
          have HM := hide (show HoldM w g gd room.toNat (.slice A11 (sortK (keysV (dirtV L))).length c11) (sortK (keysV (dirtV L))) (i + 1) w5 from ⟨_, F5, HBD.out.turn hT hB5, HR11.out.keep hT.1 HN11.out, fun t ht => by
            obtain ⟨x, hx, hy, rfl⟩ := dirt_mem ht
            exact read_dirty HND.out hx hy⟩)
          clear hT hB5
          go_wp2_with fail
          go_meet
          case rel => exact HM.out
        · have k1b : (kd == 1) = false := beq_eq_false_iff_ne.2 k1
          by_cases k2 : kd = 2
          · subst k2
            clear k1
            have HFU := hide (fun W (hW : Only [] wd W) => (full_is W f HF.out.1 HF.out.2).mono (R' := fun e w5 => ∃ d c, e = .returned (.slice (some ⟨d, 0, none⟩) 512 c) ∧ w5.cell? ⟨wr.heap.size, 1, none⟩ = some (.int .i64 n) ∧ ∀ W2, Only [] w5 W2 → Calls Try.prog 13 #[.pointer (some ⟨g, 0, none⟩), .int .i64 n, .slice (some ⟨d, 0, none⟩) 512 c] W2 (fun e w6 => e = .returned (.int .i64 (refV 12 room.toNat L n)) ∧ HoldM w g gd room.toNat (.slice A11 (sortK (keysV (dirtV L))).length c11) (sortK (keysV (dirtV L))) (i + 1) w6))
              (fun e w5 ⟨v5, he, hf5, ho5⟩ => by
                obtain ⟨d, c, rfl, hd1, hd2, -, hc5⟩ := hf5.cells512 (by simp)
                refine ⟨d, c, he, (HBXD.out.only (hW.trans ho5) (by simp)).cell 1, fun W2 hW2 => ?_⟩
                have oo := (hW.trans ho5).trans hW2
                refine (bu_write (HBD.out.bu.quiet oo) (by omega) HN.out d 0 c (List.replicate 512 f) (by simp) (u8_rep _ HF.out.1 HF.out.2) (fun j hj => by rw [hW2.cell hd2 (by simp)]; exact hc5 j hj)).mono ?_
                rintro e w6 ⟨he6, F6, hT, hB6⟩
                exact ⟨he6, _, F6, (HBD.out.quiet oo).turn hT hB6, (HR11.out.keep oo (fun _ _ => by simp)).keep hT.1 HN11.out, fun t ht => by
                  obtain ⟨x, hx, hy, rfl⟩ := dirt_mem ht
                  exact write_dirty HND.out hx hy⟩))
            go_wp2_with fail
            go_region_law (first | (go_simp; go_at_call 12; refine (HFU.out _ (by repeat (first | exact Only.refl _ _ | apply Only.drew | apply Only.drewN))).mono ?_; rintro e w5 ⟨d, c5, rfl, b1', hW5⟩; have HW5 := hide hW5; clear hW5) | (go_simp; go_at_call 13; refine (HW5.out _ (by repeat (first | exact Only.refl _ _ | apply Only.drew | apply Only.drewN))).mono ?_; rintro e w6 ⟨rfl, hM⟩; have HM := hide hM; clear hM))
            all_goals
              go_wp2_with fail
              go_meet
              case rel => exact HM.out
          · have k2b : (kd == 2) = false := beq_eq_false_iff_ne.2 k2
            by_cases k4 : kd = 4
            · subst k4
              go_wp2_with fail
              refine (bu_forget HBD.out.bu).mono ?_
              rintro e w5 ⟨rfl, F5, hT, hB5⟩
              have HM := hide (show HoldM w g gd room.toNat (.slice A11 (sortK (keysV (dirtV L))).length c11) (sortK (keysV (dirtV L))) (i + 1) w5 from ⟨_, F5, (HBD.out.turn hT hB5).more (Nat.le_succ _), HR11.out.keep hT.1 HN11.out, fun t ht => by
                rw [sortK_mem] at ht
                exact ht⟩)
              clear hT hB5
              go_wp2_with fail
              go_meet
              case rel => exact HM.out
            · have k4b : (kd == 4) = false := beq_eq_false_iff_ne.2 k4
              clear k1 k2 k4
              go_wp2_with fail
              go_meet
              case rel => exact ⟨L, F, HBD.out.more (Nat.le_succ _), HR11.out, fun t ht => by
                obtain ⟨x, hx, hy, rfl⟩ := dirt_mem ht
                exact List.mem_map.2 ⟨x, hx, rfl⟩⟩
      case rest =>
        obtain ⟨L2, F2, hB2, hr2, hsub⟩ := hcut
        have HB2 := hide hB2
        have HR2 := hide hr2
        have HSUB := hide hsub
        clear hB2 hr2 hsub HBD HR11 HN11 HB HBA b0 b1 b2 HBX
        go_wp2_with fail
        refine (bu_kept HB2.out.bu).mono ?_
        rintro e wk ⟨v12, rfl, hr12, -, hok⟩
        have HBK := hide (HB2.out.quiet hok)
        obtain ⟨A11', c11', hv11', hA11⟩ := (HR2.out.keep hok (fun _ _ => by simp)).form
        obtain ⟨hnd, hln, -, -, -⟩ := HBK.out.bu.facts
        have hkl : (keysV L2).length = L2.length := by simp [keysV]
        have hlen : ((keysV L2).length : Int) ≤ room := by have := HR.out; omega
        have HNS := hide (And.intro hnd HSUB.out)
        have hrI : room ≤ 1024 := HR.out.2
        obtain ⟨A12, c12, hv12, hA12⟩ := hr12.form
        clear HSUB HR2 HB2 hr12 hok hnd hln hkl HND HN HF
        generalize keysV L2 = ns at *
        subst hv12
        generalize sortK (keysV (dirtV L)) = DL at *
        injection hv11' with e1 e2 e3
        subst e1 e3
        clear e2
        have HA12 := hide hA12
        have HA11 := hide hA11
        clear hA12 hA11
        have hgt : decide (room < (ns.length : Int)) = false := by simp; omega
        have HNL := hide (show ns.length ≤ 1024 by omega)
        clear hlen hrI
        go_upto_if 84 with fail
        refine wp_cond_false rfl ?_
        have hnl := HNL.out
        have hdl := HDL.out
        have hnlI : (ns.length : Int) ≤ 1024 := by omega
        have hdlI : (DL.length : Int) ≤ 1024 := by omega
        clear hgt HDL
        go_wp2
        go_loopw [13] (fun iv w2 => ∃ a : Nat, a ≤ ns.length ∧ iv = .int .i64 a ∧ Only [] wk w2) (fun iv _ => ns.length - (intOf iv).toNat)
        case atStart => exact ⟨0, Nat.zero_le _, rfl, Only.refl _ _⟩
        case round =>
          obtain ⟨a, ha, rfl, hoa⟩ := hrel
          by_cases hal : a < ns.length
          · have halI : (a : Int) < ns.length := by omega
            have HOA := hide hoa
            clear hoa
            go_wp2
            go_loopw [14] (fun jv w3 => ∃ b : Nat, b ≤ a ∧ jv = .int .i64 b ∧ Only [] wk w3) (fun jv _ => a - (intOf jv).toNat)
            case atStart => exact ⟨0, Nat.zero_le _, rfl, HOA.out⟩
            case round =>
              obtain ⟨b, hb, rfl, hob⟩ := hrel
              have HOB := hide hob
              by_cases hba : b < a
              · have hbaI : (b : Int) < a := by omega
                have hblI : (b : Int) < ns.length := by omega
                obtain ⟨z, rfl, -, hz, hzc⟩ := HA12.out (by omega)
                have z1 := (hob.cell hz (by simp)).trans (hzc b (by omega))
                have z2 := (hob.cell hz (by simp)).trans (hzc a hal)
                have hne := nodup_gb HNS.out.1 hal hba
                clear hzc hob
                go_wp2
                go_quiet (fail)
                go_wp2
                go_roundw
                case rel => exact ⟨b + 1, by omega, by go_num, HOB.out.drewN _⟩
                case measure => simp [intOf]; omega
              · obtain rfl : b = a := by omega
                clear hob
                go_wp2
                go_roundw
                case rel => exact ⟨b + 1, by omega, by go_num, HOB.out⟩
                case measure => simp [intOf]; omega
          · obtain rfl : a = ns.length := by omega
            have HOA := hide hoa
            clear hoa
            go_wp2
            go_loopw [15] (fun iv w2 => ∃ a : Nat, a ≤ DL.length ∧ iv = .int .i64 a ∧ Only [] wk w2) (fun iv _ => DL.length - (intOf iv).toNat)
            case atStart => exact ⟨0, Nat.zero_le _, rfl, HOA.out⟩
            case round =>
              obtain ⟨a, ha, rfl, hoa⟩ := hrel
              by_cases hal : a < DL.length
              · have halI : (a : Int) < DL.length := by omega
                have HOA2 := hide hoa
                have HIN := hide (show gb DL a ∈ ns from HNS.out.2 _ (by simp [gb, List.getD, List.getElem?_eq_getElem hal]))
                clear hoa
                go_wp2
                go_loopw [16, 17] (fun tv mv w3 => ∃ b : Nat, b ≤ ns.length ∧ mv = .int .i64 b ∧ tv = .bool (decide (gb DL a ∈ ns.take b)) ∧ Only [] wk w3) (fun _ mv _ => ns.length - (intOf mv).toNat)
                case atStart => exact ⟨0, Nat.zero_le _, rfl, by simp, HOA2.out⟩
                case round =>
                  obtain ⟨b, hb, rfl, rfl, hob⟩ := hrel
                  have HOB := hide hob
                  by_cases hbl : b < ns.length
                  · have hblI : (b : Int) < ns.length := by omega
                    obtain ⟨z, rfl, -, hz, hzc⟩ := HA12.out (by omega)
                    obtain ⟨y, rfl, -, hy, hyc⟩ := HA11.out (by omega)
                    have z1 := (hob.cell hz (by simp)).trans (hzc b hbl)
                    have z2 := (hob.cell hy (by simp)).trans (hyc a hal)
                    have HTK := hide (show ns.take (b + 1) = ns.take b ++ [gb ns b] by rw [List.take_add_one]; simp [hbl, gb])
                    clear hzc hyc hob
                    by_cases ht : gb DL a ∈ ns.take b
                    · have htb : decide (gb DL a ∈ ns.take b) = true := by simp [ht]
                      rw [htb]
                      have HT := hide ht
                      clear ht htb
                      go_wp2
                      go_quiet (fail)
                      go_wp2
                      go_roundw
                      case rel => exact ⟨b + 1, hbl, by go_num, by rw [HTK.out]; simp [HT.out], HOB.out.drewN _⟩
                      case measure => simp [intOf]; omega
                    · have htb : decide (gb DL a ∈ ns.take b) = false := by simp [ht]
                      rw [htb]
                      have HT := hide ht
                      clear ht htb
                      generalize gb DL a = x at *
                      generalize gb ns b = y2 at *
                      by_cases he : y2 = x
                      · have heb : (y2 == x) = true := by simp [he]
                        have HE := hide he
                        clear he
                        go_wp2
                        go_quiet (fail)
                        go_wp2
                        go_roundw
                        case rel => exact ⟨b + 1, hbl, by go_num, by rw [HTK.out, HE.out]; simp, HOB.out.drewN _⟩
                        case measure => simp [intOf]; omega
                      · have heb : (y2 == x) = false := by simp [he]
                        have HE := hide he
                        clear he
                        go_wp2
                        go_quiet (fail)
                        go_wp2
                        go_roundw
                        case rel => exact ⟨b + 1, hbl, by go_num, by rw [HTK.out]; simp [HT.out, Ne.symm HE.out], HOB.out.drewN _⟩
                        case measure => simp [intOf]; omega
                  · obtain rfl : b = ns.length := by omega
                    have htb : decide (gb DL a ∈ ns.take ns.length) = true := by rw [List.take_length]; simp [HIN.out]
                    rw [htb]
                    clear hob htb
                    go_wp2
                    go_roundw
                    case rel => exact ⟨a + 1, hal, by go_num, HOB.out⟩
                    case measure => simp [intOf]; omega
              · obtain rfl : a = DL.length := by omega
                have HOE := hide hoa
                clear hoa
                go_wp2
                go_roundw
                case rel => exact ⟨i + 1, L2, F2, hlt, by go_num, HBK.out.quiet HOE.out⟩
                case measure => simp [intOf]; omega
    · obtain rfl : i = m := by omega
      have HB := hide hB
      clear hB
      go_wp2
      go_ret
      exact ⟨rfl, HB.out.only.below (Nat.le_refl _) (by simp)⟩

theorem bufHolds_bad (room : Int) (A : Option Addr) (m c : Nat) (w : World) (hr : ¬ (1 ≤ room ∧ room ≤ 1024)) :
    Calls Try.prog 4 #[.int .i64 room, .slice A m c] w fun e w' => e = .returned (.bool true) ∧ Below w.heap.size w w' := by
  have HR := hide hr
  clear hr
  go_enter Try.func4, Try.ntmps4
  go_wp2_with fail
  refine (dk_new 12 _ (by decide) (by decide)).mono ?_
  rintro e w1 ⟨gd, FD, rfl, ho1, -, hd⟩
  have HO1 := hide ho1
  have HD := hide hd
  clear ho1 hd
  go_wp2_with fail
  refine (lives_is _).mono ?_
  rintro e w2 ⟨rfl, ho2⟩
  have HO2 := hide (HO1.out.trans ho2)
  have HD2 := hide (HD.out.quiet ho2)
  clear ho2 HD
  go_wp2_with fail
  refine (buNew_bad HD2.out HR.out).mono ?_
  rintro e w3 ⟨rfl, rfl⟩
  go_wp2
  go_ret
  exact ⟨rfl, HO2.out.below (Nat.le_refl _) (by simp)⟩
theorem bufHolds_walk {H : Type} {enc : TypeId × Value → H} (room : Int) (A : Option Addr) (m c : Nat) {w : World} {d : DataW H} (r : Rd enc Try.prog w 22 [.slice A m c] d) :
    Calls Try.prog 4 #[.int .i64 room, .slice A m c] w fun e w' => e = .returned (.bool true) ∧ Below w.heap.size w w' := by
  obtain ⟨hm, hops⟩ := r.ops15
  by_cases hr : 1 ≤ room ∧ room ≤ 1024
  · exact bufHolds_good room A m c w hr hm hops
  · exact bufHolds_bad room A m c w hr
end Go.Proofs.Ytenpifamklnkmaa
