/-
  The walk of 'NamecReaders'.
-/
import Derived.Test.YtjpojoflbjhjjaaNcRd
import Derived.Deep.RegionHeld3
import Derived.Deep.Cut
import Derived.Deep.CutRange
import Derived.Deep.CutBlock
import Derived.StillTailTactics
namespace Go.Proofs.Ytjpojoflbjhjjaa
open Go.ChangeShapes Go.WideShapes Go.ChangeAt Go.RowKit Go.Maps Go.Deep
set_option linter.unusedVariables false
set_option linter.unusedSimpArgs false
section
variable {w w' : World}
theorem kr_first {w w1 w2 : World} {d c : Nat} {room : Int} {s : RS} {FD : List Nat} (ho1 : Only [] w w1) (hFD : ∀ q ∈ FD, w.heap.size ≤ q)
    (hC : ∃ G, Ca w2 c d ⟨room, [], 0, s⟩ G ∧ ∀ q ∈ G, q ∈ FD ∨ w1.heap.size ≤ q) (ho2 : Only [] w1 w2) : Kr w w2 c d ⟨room, [], 0, s⟩ := by
  obtain ⟨G, h1, h2⟩ := hC
  refine ⟨G, h1, fun q hq => ?_, ho1.trans ho2⟩
  rcases h2 q hq with h | h
  · exact hFD q h
  · exact Nat.le_trans ho1.size h
set_option maxRecDepth 100000 in
set_option maxHeartbeats 4000000 in
theorem namecReaders_walk {H : Type} {enc : TypeId × Value → H} {dd : DataW H} {A0 : Option Addr} {len cap : Nat} (rv : Rd enc Try.prog w 29 [.slice A0 len cap] dd) :
    Calls Try.prog 5 #[.slice A0 len cap] w fun e w' => e = .returned (.bool true) ∧ Below w.heap.size w w' := by
  obtain ⟨hlen, hops⟩ := Rd.ops19 rv
  have HOP := hide hops
  have HNM := hide (fun (i : Nat) (hi : i < len) q o (hA : A0 = some ⟨q, o, none⟩) s (hc : w.cell? ⟨q, o + (i * 4 + 2), none⟩ = some (.string s)) => Rd.name19 rv hi hA hc)
  clear rv hops
  go_enter Try.func5, Try.ntmps5
  go_wp2_with (first | (go_at_call 10; refine (rcNew_ok 2 (by decide) _).mono ?_; rintro e w1 ⟨d, FD, rfl, ho, hFD, hR⟩; have HO1 := hide ho; have HFD := hide hFD; have HR := hide hR; clear ho hFD hR) | (go_at_call 11; refine (ca_new HR.out rfl 3 (by decide) (by decide)).mono ?_; rintro e w2 ⟨c, G, rfl, hC, ho, hG⟩; have HK2 := hide (kr_first HO1.out HFD.out ⟨G, hC, hG⟩ ho); clear hC ho hG) | (go_at_call 8; refine (lives_is _).mono ?_; rintro e w3 ⟨rfl, ho⟩; have HK3 := hide (HK2.out.quiet ho); clear ho) | (go_at_call 22; refine (kr_enter HK3.out 0 (n := 0) rfl (by decide) (by decide)).mono ?_; rintro e w4 ⟨rfl, hk⟩; have HK4 := hide hk; clear hk))
  clear HR HFD
  go_loopw [7] (fun iv wr => ∃ (i : Nat) (p : CS), i ≤ len ∧ iv = .int .i64 i ∧ Kr w wr c d p ∧ InvA p i) (fun iv _ => len - (intOf iv).toNat)
  case atStart => exact ⟨0, _, Nat.zero_le _, rfl, HK4.out, ⟨rfl, .inl ⟨rfl, rfl, rfl⟩, fun x hx => (by cases hx), Int.le_refl _⟩⟩
  case round =>
    obtain ⟨i, p, hi, rfl, hK, hA⟩ := hrel
    have HK := hide hK
    have HA := hide hA
    by_cases hlt : i < len
    · have hltI : (i : Int) < len := by omega
      obtain ⟨q, o, kd, k, n, rfl, hq, hwf, c0, c1, c2, c3⟩ := HOP.out i hlt
      have HKS := hide (HNM.out i hlt q o rfl k.name (by rw [← Nat.add_assoc]; exact c2))
      have hba := hK.on
      have d0 := (hba.cell hq (by simp) (o := o + i * 4) (s := none)).trans c0
      have d1 := (hba.cell hq (by simp) (o := o + i * 4 + 1) (s := none)).trans c1
      have d2 := (hba.cell hq (by simp) (o := o + i * 4 + 2) (s := none)).trans c2
      have d3 := (hba.cell hq (by simp) (o := o + i * 4 + 3) (s := none)).trans c3
      have HWF := hide hwf
      have HT := hide (show p.made + 1 < 3900000000000 by have := hA.made; omega)
      clear c0 c1 c2 c3 hba hK hA hwf
      go_upto_block 2 with fail
      go_cut [] from 46 to 68 (fun wx => ∃ p', Kr w wx c d p' ∧ InvB p' ((i + 1 : Nat) : Int))
      case first =>
        by_cases k2 : kd = 2
        · subst k2
          go_wp2_with fail
          go_still_tail 11, (by kernel_rfl)
          change wpList _ _ _ _ _ wr.drew
          go_wp2_with (go_at_call 14; refine (kr_put (k := k) (HK.out.quiet (Only.refl _ _).drew) HWF.out HKS.out n HT.out).mono ?_; rintro e w5 ⟨⟨r5, rfl⟩, h5⟩; have HK5 := hide h5; clear h5)
          go_meet
          case rel => exact ⟨_, HK5.out, HA.out.ext (ext_put p k n) (by have := putC19_made HK.out.ok k n; have := HA.out.made; omega)⟩
        · have k2b : (kd == 2) = false := beq_eq_false_iff_ne.2 k2
          by_cases k3 : kd = 3
          · subst k3
            go_wp2_with (go_at_call 16; refine (kr_forget (k := k) HK.out HWF.out).mono ?_; rintro e w5 ⟨⟨r5, rfl⟩, h5⟩; have HK5 := hide h5; clear h5)
            go_meet
            case rel => exact ⟨_, HK5.out, HA.out.ext (ext_forget p k) (by rw [(CS.forget_made p k).1]; have := HA.out.made; omega)⟩
          · have k3b : (kd == 3) = false := beq_eq_false_iff_ne.2 k3
            go_wp2_with fail
            go_meet
            case rel => exact ⟨p, HK.out, HA.out.ext (Ext.refl p) (by have := HA.out.made; omega)⟩
      case rest =>
        obtain ⟨p1, hk1, hb1⟩ := hcut
        have HK1 := hide hk1
        have HB1 := hide hb1
        have HB2 := hide hb1.round
        clear hk1 hb1 d0 d1 d2 d3 HK HA HT HKS HWF
        go_wp2_with (first | (go_at_call 23; refine (kr_pass HK1.out 1 (by rw [HB1.out.ns]; rfl)).mono ?_; rintro e w5 ⟨rfl, h5⟩; have HK5 := hide h5; clear h5) | (go_at_call 24; refine (kr_step HK5.out (show p1.s.ep + 1 < 4611686018427387904 by rcases HB1.out.ph with ⟨a, _⟩ | ⟨a, _⟩ <;> omega)).mono ?_; rintro e w6 ⟨⟨r6, rfl⟩, h6⟩; have HK6 := hide (show Kr w w6 c d (p1.withS (roundS p1.s)) from h6); clear h6) | (go_at_call 25; refine (kr_ready HK6.out 0 (Nat.zero_le _) (fun j x hj => absurd hj (by omega)) (fun x hx => by have h8 := HB2.out.2.2 x (List.mem_of_getElem? hx); have h9 := HB2.out.2.1; show (roundS p1.s).ep - x.2 < 2; omega) HB2.out.2.2).mono ?_; rintro e w7 ⟨⟨A7, c7, rfl⟩, h7⟩; have HK7 := hide (show Kr w w7 c d (p1.withS (roundS p1.s)) from h7); clear h7))
        go_roundw
        case rel => exact ⟨i + 1, _, hlt, by go_num, HK7.out, HB2.out.1⟩
        case measure => simp [intOf]; omega
    · obtain rfl : i = len := by omega
      have HC0 := hide hA.leave
      have HLN := hide (show (p.s.L.length : Int) < 3900000000000 by have h1 := hK.ok.cnt; have h2 := hK.ok.top; omega)
      clear hK hA
      go_wp2_with (first | (go_at_call 20; refine (kr_waiting HK.out).mono ?_; rintro e w5 ⟨⟨A5, c5, rfl⟩, h5⟩; have HK5 := hide h5; clear h5) | (go_at_call 26; refine (kr_leave HK5.out 0 (by rw [HA.out.ns]; rfl)).mono ?_; rintro e w6 ⟨rfl, h6⟩; have HK6 := hide h6; clear h6))
      generalize p.withS { p.s with ns := p.s.ns.set 0 0, ps := p.s.ps.set 0 true } = p0 at *
      generalize p.s.L.length = N at *
      go_loopw [10, 9] (fun iv rv wr => ∃ (j : Nat) (p : CS) (r : Nat), j ≤ 3 ∧ iv = .int .i64 j ∧ rv = .int .i64 r ∧ Kr w wr c d p ∧ InvC p j N r) (fun iv _ _ => 3 - (intOf iv).toNat)
      case atStart => exact ⟨0, p0, 0, by omega, rfl, rfl, HK6.out, HC0.out⟩
      case round =>
        obtain ⟨j, p2, r, hj, rfl, rfl, hk2, hc2⟩ := hrel
        have HK2' := hide hk2
        have HC2 := hide hc2
        have hsum := hc2.sum
        have hlnn := HLN.out
        have hjI : (j : Int) ≤ 3 := by omega
        by_cases hj3 : j < 3
        · have hj3I : (j : Int) < 3 := by omega
          have hle := pre_le (p2.s.ep + 1) p2.s.L
          have hkb : (pre (p2.s.ep + 1) p2.s.L : Int) ≤ N := by omega
          have hrb : (r : Int) + (pre (p2.s.ep + 1) p2.s.L : Int) < 3900000000000 := by omega
          have HINV := hide (show InvC (endD p2) (j + 1) N ((r + pre (p2.s.ep + 1) p2.s.L : Nat) : Int) from by rw [Int.natCast_add]; exact hc2.round.2.2)
          have H1 := hide (end_pass0 hc2 hk2)
          have H2 := hide (fun W => end_pass1 (w0 := w) (w := W) (c := c) (d := d) hc2)
          have H3 := hide (fun W => end_step (w0 := w) (w := W) (c := c) (d := d) hc2 hj)
          have H4 := hide (fun W => end_ready (w0 := w) (w := W) (c := c) (d := d) hc2)
          clear hle hk2 hc2 hsum HK2' HC2
          generalize pre (p2.s.ep + 1) p2.s.L = kk at *
          generalize endA p2 = pA at *
          generalize endB p2 = pB at *
          generalize endC p2 = pC at *
          generalize endD p2 = pD at *
          go_wp2_with (first | (go_at_call 23; have hg := HK7.out; clear hg; refine (H2.out _ HK7.out).mono ?_; rintro e w8 ⟨rfl, h8⟩; have HK8 := hide h8; clear h8) | (go_at_call 23; refine H1.out.mono ?_; rintro e w7 ⟨rfl, h7⟩; have HK7 := hide h7; clear h7) | (go_at_call 24; refine (H3.out _ HK8.out).mono ?_; rintro e w9 ⟨⟨r9, rfl⟩, h9⟩; have HK9 := hide h9; clear h9) | (go_at_call 25; refine (H4.out _ HK9.out).mono ?_; rintro e w10 ⟨⟨A10, c10, rfl⟩, h10⟩; have HK10 := hide h10; clear h10))
          go_roundw
          case rel => exact ⟨j + 1, pD, r + kk, hj3, congrArg (Value.int .i64) (by omega), congrArg (Value.int .i64) (by omega), HK10.out, HINV.out⟩
          case measure => simp [intOf]; omega
        · obtain rfl : j = 3 := by omega
          have hL := hc2.done (by omega)
          have hrN : r = N := by rw [hL] at hsum; simp at hsum; omega
          subst hrN
          have HW := hide (kr_waiting hk2)
          rw [hL] at HW
          clear hk2 hc2 hsum
          have err : ((r : Int) == (r : Int)) = true := by simp
          go_wp2_with (go_at_call 20; refine HW.out.mono ?_; rintro e w11 ⟨⟨A11, c11, rfl⟩, h11⟩; have HK11 := hide h11; clear h11)
          go_ret
          exact ⟨rfl, HK11.out.on.below (Nat.le_refl _) (by simp)⟩
end
end Go.Proofs.Ytjpojoflbjhjjaa
