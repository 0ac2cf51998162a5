/-
  The walk of 'DiskDoes': it answers true, and turns nothing that was there.
-/
import Derived.Test.YtpkoihbebhmicaaRFork
import Derived.Test.YtpkoihbebhmicaaDiskOps
namespace Go.Proofs.Ytpkoihbebhmicaa
open Go.ChangeShapes Go.WideShapes Go.ChangeAt Go.RowKit
set_option linter.unusedVariables false

theorem Pr.old {w0 w : World} {g gr N k : Nat} (h : Pr w0 w g gr N k) : Only [] w0 w := by
  obtain ⟨plat, l, left, left', stops, rd, wt, fl, F, G, hd, hr, hl, hFG, hF, hG, h0⟩ := h
  exact h0

theorem does_any {w0 w : World} {g gr N k : Nat} (h : Pr w0 w g gr N k) (z m b x : Int) (K : Option Addr) (kn kc : Nat) (t : List (Int × Int)) (hz : z ≠ 5) (hk : k < 4398046511000) (hb0 : 0 ≤ b) (hb1 : b ≤ 255) (hm0 : -9223372036854775808 ≤ m) (hm1 : m ≤ 9223372036854775807) (hkn : kn ≤ 9223372036854775807) (ht : Torns w0 K kn t) :
    Calls Try.prog 13 #[.pointer (some ⟨g, 0, none⟩), .pointer (some ⟨gr, 0, none⟩), opV z m b x K kn kc] w fun e w' => e = .returned (.bool true) ∧ Pr w0 w' g gr N (k + 1) := by
  by_cases z0 : z = 0
  · subst z0; exact does_write h m b x K kn kc hk hb0 hb1
  by_cases z1 : z = 1
  · subst z1; exact does_read h m b x K kn kc hk
  by_cases z2 : z = 2
  · subst z2; exact does_flush h m b x K kn kc hk
  by_cases z3 : z = 3
  · subst z3; exact does_crash h m b x K kn kc t ht hkn
  by_cases z4 : z = 4
  · subst z4; exact does_stop h m b x K kn kc hm0 hm1
  by_cases z6 : z = 6
  · subst z6; exact does_look h m b x K kn kc
  exact does_other h z m b x K kn kc ⟨z0, z1, z2, z3, z4, z6⟩

set_option maxRecDepth 100000 in
set_option maxHeartbeats 1000000 in
theorem diskDoes_bad (n : Int) (A : Option Addr) (m c : Nat) (w : World) (hn : n < 1 ∨ 4096 < n) :
    Calls Try.prog 3 #[.int .i64 n, .slice A m c] w fun e w' => e = .returned (.bool true) ∧ Below w.heap.size w w' := by
  have HN := hide hn
  clear hn
  go_enter Try.func3, Try.ntmps3
  go_wp2_with fail
  refine (awake_ok _).mono ?_
  rintro e w1 ⟨rfl, ho1⟩
  go_wp2_with (first | (go_at_call 6; refine (dnew_bad _ _ HN.out).mono ?_; rintro e w' ⟨rfl, rfl⟩) | (go_at_call 7; refine (rnew_bad _ _ HN.out).mono ?_; rintro e w' ⟨rfl, rfl⟩))
  go_ret
  exact ⟨rfl, ho1.below (Nat.le_refl _) (by simp)⟩

set_option maxRecDepth 100000 in
set_option maxHeartbeats 2000000 in
theorem diskDoes_good (n : Int) (A : Option Addr) (m c : Nat) (w : World) (h1 : 1 ≤ n) (h2 : n ≤ 4096) (hm : m < 4398046511000) (hops : ∀ i, i < m → OpAt2 w A i) :
    Calls Try.prog 3 #[.int .i64 n, .slice A m c] w fun e w' => e = .returned (.bool true) ∧ Below w.heap.size w w' := by
  have HOPS := hide hops
  have HN := hide (And.intro h1 h2)
  have HFI := hide (fun W => (show Calls Try.prog 11 #[.int .i64 512, .int .u8 99] W fun e w' => Filled W w' e (fillL 512 99) from filled_ok 512 99 W (by decide) (by decide) (by decide)))
  clear hops h1 h2
  go_enter Try.func3, Try.ntmps3
  go_wp2_with fail
  refine (awake_ok _).mono ?_
  rintro e w1 ⟨rfl, ho1⟩
  have HO1 := hide ho1
  clear ho1
  go_wp2_with fail
  refine (dk_new n w1 HN.out.1 HN.out.2).mono ?_
  rintro e w2 ⟨g, F, rfl, ho2, hF, hd2⟩
  have HO2 := hide ho2
  have HD2 := hide (And.intro hF hd2)
  clear ho2 hF hd2
  go_wp2_with fail
  refine (rk_new n w2 HN.out.1 HN.out.2).mono ?_
  rintro e w3 ⟨gr, G, rfl, ho3, hG, hr3⟩
  have HPR := hide (show Pr w w3 g gr n.toNat 0 from ⟨_, _, _, _, _, _, _, _, F, G, HD2.out.2.quiet ho3, hr3, .inr ⟨rfl, rfl, by decide⟩, fun q hq hg => by have := HD2.out.2.lt q hq; have := hG q hg; omega, fun q hq => Nat.le_trans HO1.out.size (HD2.out.1 q hq), fun q hq => Nat.le_trans (HO1.out.trans HO2.out).size (hG q hq), (HO1.out.trans HO2.out).trans ho3⟩)
  clear ho3 hG hr3
  generalize n.toNat = N at HPR
  go_wp2_with fail
  go_loopw [5, 38] (fun dv i wr => ∃ k g : Nat, k ≤ m ∧ i = .int .i64 k ∧ dv = .pointer (some ⟨g, 0, none⟩) ∧ Pr w wr g gr N k) (fun _ i _ => m - (intOf i).toNat)
  case atStart => exact ⟨0, g, Nat.zero_le _, rfl, rfl, HPR.out⟩
  case round =>
    obtain ⟨k, g, hk, rfl, rfl, hp⟩ := hrel
    have HP := hide hp
    by_cases hlt : k < m
    · obtain ⟨q, o, z, mm, b, x, K, kn, kc, t, rfl, hq, s0, s1, s2, s3, s4, b0, b1, m0, m1, x0, x1, hkn, ht⟩ := HOPS.out k hlt
      have e0 := (hp.old.cell hq (by simp)).trans s0
      have e1 := (hp.old.cell hq (by simp)).trans s1
      have e2 := (hp.old.cell hq (by simp)).trans s2
      have e3 := (hp.old.cell hq (by simp)).trans s3
      have e4 := (hp.old.cell hq (by simp)).trans s4
      by_cases hz : z = 5
      · have HFK := hide (pr_fork (hp.quiet ((Only.refl [] wr).alloc (.cells (opC z mm b x K kn kc) 33))) (by omega) (fillL 512 99) (fillL_length _ _) (u8_fillL _ _))
        subst hz
        clear s0 s1 s2 s3 s4 hp ht
        go_wp2_with fail
        refine HFK.out.mono ?_
        rintro e w5 ⟨g', rfl, hnx⟩
        have HNX := hide hnx
        clear hnx
        go_wp2_with fail
        refine HNX.out.mono ?_
        rintro e w6 ⟨rfl, hnx⟩
        have HNY := hide hnx
        clear hnx
        go_wp2_with fail
        refine (HFI.out w6).mono ?_
        rintro e w7 ⟨d, rfl, hd, hbd, ho⟩
        rw [fillL_length]
        have HNZ := hide (HNY.out w7 d ho hd hbd)
        clear hd hbd ho
        go_wp2_with fail
        refine HNZ.out.mono ?_
        rintro e w8 ⟨rfl, hnx⟩
        have HNV := hide hnx
        clear hnx
        go_wp2_with fail
        refine HNV.out.mono ?_
        rintro e w9 ⟨⟨E, rfl⟩, hp'⟩
        have HP' := hide hp'
        clear hp'
        go_wp2
        go_roundw
        case rel => exact ⟨k + 1, g', hlt, by go_num, rfl, HP'.out⟩
        case measure => simp [intOf]; omega
      · have HDO := hide (does_any (hp.quiet ((Only.refl [] wr).alloc (.cells (opC z mm b x K kn kc) 33))) z mm b x K kn kc t hz (by omega) b0 b1 m0 m1 hkn ht)
        clear s0 s1 s2 s3 s4 hp ht
        go_wp2_with (go_at_call 13; refine HDO.out.mono ?_; rintro e w' ⟨rfl, hp'⟩; have HP' := hide hp'; clear hp')
        go_roundw
        case rel => exact ⟨k + 1, g, hlt, by go_num, rfl, HP'.out⟩
        case measure => simp [intOf]; omega
    · obtain rfl : k = m := by omega
      clear hp
      go_wp2_with (go_at_call 14; refine (pr_looks HP.out).mono ?_; rintro e w' ⟨rfl, hp'⟩; have HP' := hide hp'; clear hp')
      go_ret
      exact ⟨rfl, HP'.out.old.below (Nat.le_refl _) (by simp)⟩

theorem diskDoes_walk {H : Type} {enc : TypeId × Value → H} (n : Int) (A : Option Addr) (m c : Nat) (w : World) {d1 : DataW H} (r1 : Rd enc Try.prog w 22 [.slice A m c] d1) :
    Calls Try.prog 3 #[.int .i64 n, .slice A m c] w fun e w' => e = .returned (.bool true) ∧ Below w.heap.size w w' := by
  obtain ⟨hm, hops⟩ := r1.ops2
  by_cases h : n < 1 ∨ 4096 < n
  · exact diskDoes_bad n A m c w h
  · exact diskDoes_good n A m c w (by omega) (by omega) hm hops
end Go.Proofs.Ytpkoihbebhmicaa
