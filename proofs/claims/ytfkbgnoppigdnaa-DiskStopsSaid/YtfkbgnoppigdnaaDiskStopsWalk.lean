/-
  The walk of 'DiskStops': it answers true, and turns nothing that was there.
-/
import Derived.Test.YtfkbgnoppigdnaaDiskOps
namespace Go.Proofs.Ytfkbgnoppigdnaa
open Go.ChangeShapes Go.WideShapes Go.ChangeAt Go.RowKit
set_option linter.unusedVariables false

set_option maxRecDepth 100000 in
set_option maxHeartbeats 1000000 in
theorem diskStops_bad (n : Int) (A : Option Addr) (m c : Nat) (s : Int) (K : Option Addr) (kn kc : Nat) (w : World) (hn : n < 1 ∨ 4096 < n) :
    Calls Try.prog 11 #[.int .i64 n, .slice A m c, .int .i64 s, .slice K kn kc] w fun e w' => e = .returned (.bool true) ∧ Below w.heap.size w w' := by
  have HN := hide hn
  clear hn
  go_enter Try.func11, Try.ntmps11
  go_wp2_with fail
  refine (awake_ok _).mono ?_
  rintro e w1 ⟨rfl, ho1⟩
  go_wp2_with (go_at_call 31; refine (dnew_bad _ _ HN.out).mono ?_; rintro e w' ⟨rfl, rfl⟩)
  go_ret
  exact ⟨rfl, ho1.below (Nat.le_refl _) (by simp)⟩

theorem conv_blk {w : World} {d c : Nat} {xs : List Int} {r : List Value} (h : Blk w d 5 (u8l xs ++ r).toArray) (hu : U8 xs) : (convert 32 9 (.slice (some ⟨d, 0, none⟩) xs.length c)).run Try.prog w = .ok (.string (strB xs)) w :=
  conv_bytes w _ _ _ xs ⟨rfl, fun _ => ⟨d, 0, rfl, h.lt, fun i hi => by rw [Nat.zero_add, h.cell]; exact u8l_get _ _ i hi⟩⟩ (by simp) hu
theorem One.few {w : World} {g N : Nat} {plat : List Int} {l : List (Nat × List Int)} {left : Int} {k : Nat} {F : List Nat} (h : One w g N plat l left k F) : l.length ≤ k := by
  obtain ⟨pb, pc, mb, pr, pv, D, ws, rd, wt, fl, hd, h1, h2, h3, h4, _⟩ := h
  rw [← h1, ofW_length]
  exact h4

/-- The loop: both disks hold the same; the power of a goes when left says so. -/
def StopsRel (w : World) (ga gb N m : Nat) (s : Int) (lft i : Value) (wr : World) : Prop :=
  ∃ (k : Nat) (Fa Fb : List Nat) (la : Int) (plat : List Int) (l : List (Nat × List Int)) (x : Int), k ≤ m ∧ i = .int .i64 k ∧ lft = .int .i64 x ∧ One wr ga N plat l la k Fa ∧ One wr gb N plat l (-1) k Fb ∧
    ((0 ≤ s ∧ la = x ∧ 0 ≤ x ∧ x ≤ 9223372036854775807) ∨ (s < 0 ∧ la = -1)) ∧ (∀ q ∈ Fb, q ∉ Fa) ∧ (∀ q ∈ Fa, w.heap.size ≤ q) ∧ (∀ q ∈ Fb, w.heap.size ≤ q) ∧ Only [] w wr

theorem StopsRel.both {w w7 w8 w9 : World} {ga gb N m k : Nat} {s la x : Int} {Fa Fb Fa' Fb' : List Nat} {plat : List Int} {l : List (Nat × List Int)} (hk : k < m) (ho : Only [] w w7) (hfa : ∀ q ∈ Fa, w.heap.size ≤ q) (hfb : ∀ q ∈ Fb, w.heap.size ≤ q)
    (hab : ∀ q ∈ Fb, q ∉ Fa) (hbl : ∀ q ∈ Fb, q < w7.heap.size) (t8 : Turned w7 w8 Fa Fa') (a8 : One w8 ga N plat l la (k + 1) Fa') (t9 : Turned w8 w9 Fb Fb') (b9 : One w9 gb N plat l (-1) (k + 1) Fb')
    (hst : (0 ≤ s ∧ la = x ∧ 0 ≤ x ∧ x ≤ 9223372036854775807) ∨ (s < 0 ∧ la = -1)) : StopsRel w ga gb N m s (.int .i64 x) (.int .i64 ((k : Int) + 1)) w9 := by
  have h1 : ∀ q ∈ Fb, q ∉ Fa' := t8.apart hbl hab
  have h2 : ∀ q ∈ Fa', q ∉ Fb := fun q h h' => h1 q h' h
  have h3 : ∀ q ∈ Fa', q ∉ Fb' := t9.apart a8.lt h2
  have o8 : Only [] w w8 := ho.trans' t8.1 (fun q hq hf => absurd (hfa q hf) (by omega))
  refine ⟨k + 1, Fa', Fb', la, plat, l, x, hk, by go_num, rfl, a8.only t9.1 h2, b9, hst, fun q h h' => h3 q h' h, fun q hq => ?_, fun q hq => ?_, o8.trans' t9.1 (fun q hq hf => absurd (hfb q hf) (by omega))⟩
  · rcases t8.2 q hq with h | h
    · exact hfa q h
    · exact Nat.le_trans ho.size h
  · rcases t9.2 q hq with h | h
    · exact hfb q h
    · exact Nat.le_trans o8.size h

set_option maxRecDepth 100000 in
set_option maxHeartbeats 2000000 in
theorem diskStops_good (n : Int) (A : Option Addr) (m c : Nat) (s : Int) (K : Option Addr) (kn kc : Nat) (t : List (Int × Int)) (w : World) (h1 : 1 ≤ n) (h2 : n ≤ 4096) (hm : m < 4398046511000) (hops : ∀ i, i < m → OpAt2 w A i) (hs0 : -9223372036854775808 ≤ s) (hs1 : s ≤ 9223372036854775807) (ht : Torns w K kn t) (hkn : kn ≤ 9223372036854775807) :
    Calls Try.prog 11 #[.int .i64 n, .slice A m c, .int .i64 s, .slice K kn kc] w fun e w' => e = .returned (.bool true) ∧ Below w.heap.size w w' := by
  have HOPS := hide hops
  have HT := hide ht
  have HS := hide (And.intro hs0 hs1)
  clear hops ht hs0 hs1
  go_enter Try.func11, Try.ntmps11
  go_wp2_with fail
  refine (awake_ok _).mono ?_
  rintro e w1 ⟨rfl, ho1⟩
  go_wp2_with fail
  refine (one_new n w1 h1 h2).mono ?_
  rintro e w2 ⟨ga, Fa, rfl, ho2, hFa, ha⟩
  have HO2 := hide (ho1.trans ho2)
  have HFA := hide (show ∀ q ∈ Fa, w.heap.size ≤ q from fun q hq => Nat.le_trans ho1.size (hFa q hq))
  have HA := hide ha
  clear ho1 ho2 hFa ha
  go_wp2_with fail
  refine (one_new n w2 h1 h2).mono ?_
  rintro e w3 ⟨gb, Fb, rfl, ho3, hFb, hb⟩
  have HO3 := hide (HO2.out.trans ho3)
  have HFB := hide (show ∀ q ∈ Fb, w.heap.size ≤ q from fun q hq => Nat.le_trans HO2.out.size (hFb q hq))
  have HAB := hide (show ∀ q ∈ Fb, q ∉ Fa from fun q hq ha => by have := HA.out.lt q ha; have := hFb q hq; omega)
  have HA3 := hide (HA.out.only ho3 (by simp))
  have HB3 := hide hb
  clear ho3 hFb hb HA
  go_wp2_with fail
  refine (one_stop HA3.out s HS.out.1).mono ?_
  rintro e w4 ⟨rfl, ht4, ha4⟩
  have HA4 := hide ha4
  have HB4 := hide (HB3.out.only ht4.1 (fun q hq => HAB.out q hq))
  have HO4 := hide (show Only [] w w4 from HO3.out.trans' ht4.1 (fun q hq hf => absurd (HFA.out q hf) (by omega)))
  clear ht4 ha4 HA3 HB3
  go_wp2
  go_loopw [13, 61] (fun lft i wr => StopsRel w ga gb n.toNat m s lft i wr) (fun _ i _ => m - (intOf i).toNat)
  case atStart =>
    refine ⟨0, Fa, Fb, stopv s, _, [], s, Nat.zero_le _, rfl, rfl, HA4.out, HB4.out, ?_, HAB.out, HFA.out, HFB.out, HO4.out⟩
    have := HS.out
    unfold stopv
    by_cases h : s < 0
    · exact .inr ⟨h, if_pos h⟩
    · exact .inl ⟨by omega, if_neg h, by omega, by omega⟩
  case round =>
    clear HA4 HB4 HAB HFA HFB HO4 HO2 HO3
    obtain ⟨k, Fa, Fb, la, plat, l, x, hk, rfl, rfl, ha, hb, hst, hab, hfa, hfb, ho⟩ := hrel
    have HA := hide ha
    have HB := hide hb
    have HAB := hide hab
    have HF := hide (And.intro hfa hfb)
    have HO := hide ho
    by_cases hlt : k < m
    · obtain ⟨q, o, kk, mm, bb, xx, Kp, kpn, kpc, tt, rfl, hq, c0, c1, c2, c3, c4, b0, b1, _, _, _, _, _, _⟩ := HOPS.out k hlt
      have e0 := (ho.cell hq (by simp)).trans c0
      have e1 := (ho.cell hq (by simp)).trans c1
      have e2 := (ho.cell hq (by simp)).trans c2
      have e3 := (ho.cell hq (by simp)).trans c3
      have e4 := (ho.cell hq (by simp)).trans c4
      have HL := hide (fun (w' : World) (S : List Nat) (z : Only S (wr.alloc (.cells #[.int .i64 kk, .int .i64 mm, .int .u8 bb, .int .i64 xx, .slice Kp kpn kpc] 68)) w') (hS : wr.heap.size ∉ S) =>
        (show w'.cell? ⟨wr.heap.size, 0, none⟩ = some (.int .i64 kk) ∧ w'.cell? ⟨wr.heap.size, 1, none⟩ = some (.int .i64 mm) ∧ w'.cell? ⟨wr.heap.size, 2, none⟩ = some (.int .u8 bb) from by
          have hB := (Blk.new wr 68 #[.int .i64 kk, .int .i64 mm, .int .u8 bb, .int .i64 xx, .slice Kp kpn kpc]).only z hS
          exact ⟨by rw [hB.cell]; rfl, by rw [hB.cell]; rfl, by rw [hB.cell]; rfl⟩))
      have hcase : (0 ≤ s ∧ x = 0 ∧ la = 0) ∨ (0 ≤ s ∧ 0 < x ∧ la = x ∧ x ≤ 9223372036854775807) ∨ (s < 0 ∧ la = -1) := by
        rcases hst with ⟨a, b, c, d⟩ | h
        · omega
        · exact .inr (.inr h)
      have HSAME := hide (fun w' (z : Only [] wr w') => (show StopsRel w ga gb n.toNat m s (.int .i64 x) (.int .i64 ((k : Int) + 1)) w' from
        ⟨k + 1, Fa, Fb, la, plat, l, x, hlt, by go_num, rfl, (ha.only z (by simp)).more (by omega), (hb.only z (by simp)).more (by omega), hst, hab, hfa, hfb, ho.trans z⟩))
      have HLF := hide (show wr.heap.size ∉ Fa from fun hh => absurd (ha.lt _ hh) (by omega))
      have HLFB := hide (show wr.heap.size ∉ Fb from fun hh => absurd (hb.lt _ hh) (by omega))
      have HFL := hide (And.intro ha.lt hb.lt)
      clear c0 c1 c2 c3 c4 ha hb hst hab hfa hfb ho
      rcases hcase with ⟨hs, rfl, rfl⟩ | ⟨hs, hx, rfl, hxm⟩ | ⟨hs, rfl⟩
      · skip
        go_wp2_with fail
        refine (one_off (HA.out.only ((Only.refl [] wr).alloc _) (by simp))).mono ?_
        rintro e w6 ⟨rfl, ho6⟩
        rw [show decide ((0 : Int) = 0) = true from rfl]
        obtain ⟨f0, f1, f2⟩ := HL.out w6 [] ho6 (by simp)
        have HZ6 := hide ho6
        have HO6 := hide (((Only.refl [] wr).alloc (.cells #[.int .i64 kk, .int .i64 mm, .int .u8 bb, .int .i64 xx, .slice Kp kpn kpc] 68)).trans ho6)
        clear ho6 e0 e1 e2 e3 e4
        by_cases hk0 : kk = 0
        · subst hk0
          go_wp2_with fail
          refine (fill5 bb _ b0 b1).mono ?_
          rintro e w7 ⟨d, rfl, hd, hbk, ho7⟩
          have HBK := hide hbk
          have HZ7 := hide (HZ6.out.trans ho7)
          have HO7 := hide (HO6.out.trans ho7)
          have HDF := hide (show d ∉ Fa ∧ d ∉ Fb from ⟨fun hh => by have := HFL.out.1 d hh; have := HO6.out.size; omega, fun hh => by have := HFL.out.2 d hh; have := HO6.out.size; omega⟩)
          obtain ⟨f0, f1, f2⟩ := HL.out w7 [] HZ7.out (by simp)
          clear hd hbk ho7
          by_cases hr : mm < 0 ∨ (n.toNat : Int) ≤ mm
          · have HW := hide (one_write_sector (HA.out.only HO7.out (by simp)) mm (some ⟨d, 0, none⟩) 512 512 hr)
            clear hr
            go_wp2_with (go_at_call 35; refine HW.out.mono ?_; rintro e w' ⟨rfl, rfl⟩)
            go_roundw
            case rel => exact HSAME.out _ HO7.out
            case measure => simp [intOf]; omega
          · have HW := hide (one_write_off (HA.out.only HO7.out (by simp)) mm (some ⟨d, 0, none⟩) 512 (by omega) (by omega) rfl)
            clear hr
            go_wp2_with (go_at_call 35; refine HW.out.mono ?_; rintro e w' ⟨rfl, rfl⟩)
            go_roundw
            case rel => exact HSAME.out _ HO7.out
            case measure => simp [intOf]; omega
        · have hk0' : (kk == 0) = false := beq_eq_false_iff_ne.2 hk0
          by_cases hk2 : kk = 2
          · subst hk2
            have HW := hide (one_flush_off (HA.out.only HO6.out (by simp)) rfl)
            go_wp2_with (go_at_call 37; refine HW.out.mono ?_; rintro e w' ⟨rfl, rfl⟩)
            go_roundw
            case rel => exact HSAME.out _ HO6.out
            case measure => simp [intOf]; omega
          · have hk2' : (kk == 2) = false := beq_eq_false_iff_ne.2 hk2
            go_wp2
            go_roundw
            case rel => exact HSAME.out _ HO6.out
            case measure => simp [intOf]; omega
      · have hxx : (la == 0) = false := beq_eq_false_iff_ne.2 (by omega)
        go_wp2_with fail
        refine (one_off (HA.out.only ((Only.refl [] wr).alloc _) (by simp))).mono ?_
        rintro e w6 ⟨rfl, ho6⟩
        rw [show decide (la = 0) = false from decide_eq_false (by omega)]
        obtain ⟨f0, f1, f2⟩ := HL.out w6 [] ho6 (by simp)
        have HZ6 := hide ho6
        have HO6 := hide (((Only.refl [] wr).alloc (.cells #[.int .i64 kk, .int .i64 mm, .int .u8 bb, .int .i64 xx, .slice Kp kpn kpc] 68)).trans ho6)
        clear ho6 e0 e1 e2 e3 e4
        by_cases hk0 : kk = 0
        · subst hk0
          go_wp2_with fail
          refine (fill5 bb _ b0 b1).mono ?_
          rintro e w7 ⟨d, rfl, hd, hbk, ho7⟩
          have HBK := hide hbk
          have HZ7 := hide (HZ6.out.trans ho7)
          have HO7 := hide (HO6.out.trans ho7)
          have HDF := hide (show d ∉ Fa ∧ d ∉ Fb from ⟨fun hh => by have := HFL.out.1 d hh; have := HO6.out.size; omega, fun hh => by have := HFL.out.2 d hh; have := HO6.out.size; omega⟩)
          obtain ⟨f0, f1, f2⟩ := HL.out w7 [] HZ7.out (by simp)
          clear hd hbk ho7
          by_cases hr : mm < 0 ∨ (n.toNat : Int) ≤ mm
          · have HW := hide (one_write_sector (HA.out.only HO7.out (by simp)) mm (some ⟨d, 0, none⟩) 512 512 hr)
            clear hr
            go_wp2_with (go_at_call 35; refine HW.out.mono ?_; rintro e w' ⟨rfl, rfl⟩)
            go_roundw
            case rel => exact HSAME.out _ HO7.out
            case measure => simp [intOf]; omega
          · have hnn : ∃ nn : Nat, mm = (nn : Int) := ⟨mm.toNat, by omega⟩
            obtain ⟨nn, rfl⟩ := hnn
            have HNN := hide (show nn < n.toNat by omega)
            clear hr
            go_wp2_with fail
            refine (one_write_do (HA.out.only HO7.out (by simp)) nn d 512 (fillL 512 bb) HNN.out (by omega) (hxm) (fillL_length _ _) (u8_fillL _ _) HBK.out HDF.out.1 (by omega)).mono ?_
            rintro e w8 ⟨rfl, Fa', t8, a8⟩
            obtain ⟨f0, f1, f2⟩ := HL.out w8 Fa ((HZ7.out.mono (by simp)).trans t8.1) HLF.out
            have HT8 := hide t8
            have HA8 := hide a8
            have HB8 := hide ((HB.out.only HO7.out (by simp)).only t8.1 HAB.out)
            have HBK8 := hide (HBK.out.only t8.1 HDF.out.1)
            clear t8 a8
            go_wp2_with fail
            refine (one_write_do HB8.out nn d 512 (fillL 512 bb) HNN.out (by decide) (by decide) (fillL_length _ _) (u8_fillL _ _) HBK8.out HDF.out.2 (by omega)).mono ?_
            rintro e w9 ⟨rfl, Fb', t9, b9⟩
            have HT9 := hide t9
            have HB9 := hide b9
            clear t9 b9
            go_wp2
            go_roundw
            case rel => exact StopsRel.both hlt (HO.out.trans HO7.out) HF.out.1 HF.out.2 HAB.out (fun q hq => Nat.lt_of_lt_of_le (HFL.out.2 q hq) HO7.out.size) HT8.out HA8.out HT9.out HB9.out (.inl ⟨hs, by unfold lessv; rw [if_pos hx], by omega, by omega⟩)
            case measure => simp [intOf]; omega
        · have hk0' : (kk == 0) = false := beq_eq_false_iff_ne.2 hk0
          by_cases hk2 : kk = 2
          · subst hk2
            go_wp2_with fail
            refine (one_flush_do (HA.out.only HO6.out (by simp)) (by omega) (hxm) (by omega)).mono ?_
            rintro e w8 ⟨rfl, t8, a8⟩
            have HT8 := hide t8
            have HA8 := hide a8
            have HB8 := hide ((HB.out.only HO6.out (by simp)).only t8.1 HAB.out)
            clear t8 a8
            go_wp2_with fail
            refine (one_flush_do HB8.out (by decide) (by decide) (by omega)).mono ?_
            rintro e w9 ⟨rfl, t9, b9⟩
            have HT9 := hide t9
            have HB9 := hide b9
            clear t9 b9
            go_wp2
            go_roundw
            case rel => exact StopsRel.both hlt (HO.out.trans HO6.out) HF.out.1 HF.out.2 HAB.out (fun q hq => Nat.lt_of_lt_of_le (HFL.out.2 q hq) HO6.out.size) HT8.out HA8.out HT9.out HB9.out (.inl ⟨hs, by unfold lessv; rw [if_pos hx], by omega, by omega⟩)
            case measure => simp [intOf]; omega
          · have hk2' : (kk == 2) = false := beq_eq_false_iff_ne.2 hk2
            go_wp2
            go_roundw
            case rel => exact HSAME.out _ HO6.out
            case measure => simp [intOf]; omega
      · have hss : ¬ (0 : Int) ≤ s := by omega
        go_wp2_with fail
        refine (one_off (HA.out.only ((Only.refl [] wr).alloc _) (by simp))).mono ?_
        rintro e w6 ⟨rfl, ho6⟩
        rw [show decide ((-1 : Int) = 0) = false from rfl]
        obtain ⟨f0, f1, f2⟩ := HL.out w6 [] ho6 (by simp)
        have HZ6 := hide ho6
        have HO6 := hide (((Only.refl [] wr).alloc (.cells #[.int .i64 kk, .int .i64 mm, .int .u8 bb, .int .i64 xx, .slice Kp kpn kpc] 68)).trans ho6)
        clear ho6 e0 e1 e2 e3 e4
        by_cases hk0 : kk = 0
        · subst hk0
          go_wp2_with fail
          refine (fill5 bb _ b0 b1).mono ?_
          rintro e w7 ⟨d, rfl, hd, hbk, ho7⟩
          have HBK := hide hbk
          have HZ7 := hide (HZ6.out.trans ho7)
          have HO7 := hide (HO6.out.trans ho7)
          have HDF := hide (show d ∉ Fa ∧ d ∉ Fb from ⟨fun hh => by have := HFL.out.1 d hh; have := HO6.out.size; omega, fun hh => by have := HFL.out.2 d hh; have := HO6.out.size; omega⟩)
          obtain ⟨f0, f1, f2⟩ := HL.out w7 [] HZ7.out (by simp)
          clear hd hbk ho7
          by_cases hr : mm < 0 ∨ (n.toNat : Int) ≤ mm
          · have HW := hide (one_write_sector (HA.out.only HO7.out (by simp)) mm (some ⟨d, 0, none⟩) 512 512 hr)
            clear hr
            go_wp2_with (go_at_call 35; refine HW.out.mono ?_; rintro e w' ⟨rfl, rfl⟩)
            go_roundw
            case rel => exact HSAME.out _ HO7.out
            case measure => simp [intOf]; omega
          · have hnn : ∃ nn : Nat, mm = (nn : Int) := ⟨mm.toNat, by omega⟩
            obtain ⟨nn, rfl⟩ := hnn
            have HNN := hide (show nn < n.toNat by omega)
            clear hr
            go_wp2_with fail
            refine (one_write_do (HA.out.only HO7.out (by simp)) nn d 512 (fillL 512 bb) HNN.out (by decide) (by decide) (fillL_length _ _) (u8_fillL _ _) HBK.out HDF.out.1 (by omega)).mono ?_
            rintro e w8 ⟨rfl, Fa', t8, a8⟩
            obtain ⟨f0, f1, f2⟩ := HL.out w8 Fa ((HZ7.out.mono (by simp)).trans t8.1) HLF.out
            have HT8 := hide t8
            have HA8 := hide a8
            have HB8 := hide ((HB.out.only HO7.out (by simp)).only t8.1 HAB.out)
            have HBK8 := hide (HBK.out.only t8.1 HDF.out.1)
            clear t8 a8
            go_wp2_with fail
            refine (one_write_do HB8.out nn d 512 (fillL 512 bb) HNN.out (by decide) (by decide) (fillL_length _ _) (u8_fillL _ _) HBK8.out HDF.out.2 (by omega)).mono ?_
            rintro e w9 ⟨rfl, Fb', t9, b9⟩
            have HT9 := hide t9
            have HB9 := hide b9
            clear t9 b9
            go_wp2
            go_roundw
            case rel => exact StopsRel.both hlt (HO.out.trans HO7.out) HF.out.1 HF.out.2 HAB.out (fun q hq => Nat.lt_of_lt_of_le (HFL.out.2 q hq) HO7.out.size) HT8.out HA8.out HT9.out HB9.out (.inr ⟨hs, rfl⟩)
            case measure => simp [intOf]; omega
        · have hk0' : (kk == 0) = false := beq_eq_false_iff_ne.2 hk0
          by_cases hk2 : kk = 2
          · subst hk2
            go_wp2_with fail
            refine (one_flush_do (HA.out.only HO6.out (by simp)) (by decide) (by decide) (by omega)).mono ?_
            rintro e w8 ⟨rfl, t8, a8⟩
            have HT8 := hide t8
            have HA8 := hide a8
            have HB8 := hide ((HB.out.only HO6.out (by simp)).only t8.1 HAB.out)
            clear t8 a8
            go_wp2_with fail
            refine (one_flush_do HB8.out (by decide) (by decide) (by omega)).mono ?_
            rintro e w9 ⟨rfl, t9, b9⟩
            have HT9 := hide t9
            have HB9 := hide b9
            clear t9 b9
            go_wp2
            go_roundw
            case rel => exact StopsRel.both hlt (HO.out.trans HO6.out) HF.out.1 HF.out.2 HAB.out (fun q hq => Nat.lt_of_lt_of_le (HFL.out.2 q hq) HO6.out.size) HT8.out HA8.out HT9.out HB9.out (.inr ⟨hs, rfl⟩)
            case measure => simp [intOf]; omega
          · have hk2' : (kk == 2) = false := beq_eq_false_iff_ne.2 hk2
            go_wp2
            go_roundw
            case rel => exact HSAME.out _ HO6.out
            case measure => simp [intOf]; omega
    · obtain rfl : k = m := by omega
      have HA2 := hide (fun w' (z : Only [] wr w') => ha.only z (by simp))
      have HB2 := hide (fun w' (z : Only [] wr w') => hb.only z (by simp))
      have HU := hide (one_u8 ha).1
      have HLEN := hide (show l.length ≤ 9223372036854775807 by have := ha.few; omega)
      obtain ⟨er, plat2, HCR⟩ : ∃ (er : Int) (plat2 : List Int), Hid (∀ (w' : World) (g : Nat) (lf : Int) (F : List Nat), One w' g n.toNat plat l lf k F → Torns w' K kn t → (0 < kn → ∀ b, K = some b → b.block ∉ F) →
          Calls Try.prog 42 #[.pointer (some ⟨g, 0, none⟩), .slice K kn kc] w' fun e w'' => e = .returned (.int .i64 er) ∧ Turned w' w'' F F ∧ ∃ l' lf', One w'' g n.toNat plat2 l' lf' k F) :=
        ⟨_, _, hide (fun w' g lf F h ht hA => (one_crash h K kn kc t ht hkn hA).mono fun e w'' ⟨a, b, c⟩ => ⟨a, b, _, _, c⟩)⟩
      have HKT := hide (fun (w' : World) (S : List Nat) (z : Only S w w') (hS : ∀ q ∈ S, w.heap.size ≤ q) => HT.out.only z (fun _ b _ hb hm => absurd (hS _ hm) (by omega)))
      have HKF := hide (show ∀ F : List Nat, (∀ q ∈ F, w.heap.size ≤ q) → 0 < kn → ∀ b, K = some b → b.block ∉ F from fun F hF hp b hb hm => by
        obtain ⟨b', o', hb', hlt', _⟩ := HT.out.2 hp
        rw [hb] at hb'
        injection hb' with hb'
        subst hb'
        exact absurd (hF _ hm) (by simpa using hlt'))
      clear ha hb hst hab hfa hfb ho
      go_wp2_with fail
      go_region_law (first
        | (have hg := kA; go_simp; go_at_call 44; refine (one_pending (HB2.out _ (by repeat (first | exact kA | apply Only.drew)))).mono ?_; rintro e wB ⟨dB, rfl, hiB, hoB⟩; have iB : Only [] wA wB := Only.trans (by repeat (first | exact Only.refl _ _ | apply Only.drew)) hoB; have kB : Only [] wr wB := kA.trans iB)
        | (go_simp; go_at_call 44; refine (one_pending (HA2.out _ (by repeat (first | exact Only.refl _ _ | apply Only.drew)))).mono ?_; rintro e wA ⟨dA, rfl, hiA, hoA⟩; have kA : Only [] wr wA := Only.trans (by repeat (first | exact Only.refl _ _ | apply Only.drew)) hoA)
        | (go_simp; go_at_call 48; refine (same_ints _ _ _ l.length l.length _ _ _ _ (hiA.only iB) hiB rfl HLEN.out).mono ?_; rintro e wC ⟨rfl, hoC⟩; have kC : Only [] wr wC := kB.trans hoC)
        | (have hg := kD; go_simp; go_at_call 45; refine (one_image (HB2.out _ kD)).mono ?_; rintro e wE ⟨vE, rfl, hfE, hoE⟩; obtain ⟨dE, cE, rE, rfl, _, hbE, _⟩ := hfE; have kE : Only [] wr wE := kD.trans hoE; have hqE := conv_blk (c := cE) hbE HU.out; have hqD2 := conv_blk (c := cD) (hbD.only hoE (by simp)) HU.out)
        | (go_simp; go_at_call 45; refine (one_image (HA2.out _ kC)).mono ?_; rintro e wD ⟨vD, rfl, hfD, hoD⟩; obtain ⟨dD, cD, rD, rfl, _, hbD, _⟩ := hfD; have kD : Only [] wr wD := kC.trans hoD; have hqD := conv_blk (c := cD) hbD HU.out))
      all_goals
        have HK := hide kE
        clear kA kB kC kD kE hqD2 hqE hiA hiB iB hoA hoB hoC hoD hoE hbD hbE
        go_wp2_with fail
        go_region_law (first
          | (have hg := oA; go_simp; go_at_call 42; refine (HCR.out _ gb _ Fb bA (HKT.out _ [] oA (by simp)) (HKF.out Fb HF.out.2)).mono ?_; rintro e wB ⟨rfl, tB, lB, lfB, bB⟩; have aB := aA.only tB.1 (fun q h h' => HAB.out q h' h); have oB : Only [] w wB := oA.trans' tB.1 (fun q hq hf => absurd (HF.out.2 q hf) (by omega)))
          | (go_simp; go_at_call 42; refine (HCR.out _ ga _ Fa (HA2.out _ (by repeat (first | exact HK.out | apply Only.drew))) (HKT.out _ [] (HO.out.trans (by repeat (first | exact HK.out | apply Only.drew))) (by simp)) (HKF.out Fa HF.out.1)).mono ?_; rintro e wA2 ⟨rfl, tA, lA, lfA, aA⟩; have bA := (HB2.out _ (by repeat (first | exact HK.out | apply Only.drew))).only tA.1 HAB.out; have oA : Only [] w wA2 := (HO.out.trans (by repeat (first | exact HK.out | apply Only.drew))).trans' tA.1 (fun q hq hf => absurd (HF.out.1 q hf) (by omega)))
          | (have hg := oD; go_simp; go_at_call 45; refine (one_image (bB.only hoD (by simp))).mono ?_; rintro e wE2 ⟨vE, rfl, hfE, hoE⟩; obtain ⟨dE2, cE2, rE2, rfl, _, hbE, _⟩ := hfE; have oE : Only [] w wE2 := oD.trans hoE; have hqE := conv_blk (c := cE2) hbE (one_u8 aB).1; have hqD2 := conv_blk (c := cD2) (hbD.only hoE (by simp)) (one_u8 aB).1)
          | (go_simp; go_at_call 45; refine (one_image aB).mono ?_; rintro e wD2 ⟨vD, rfl, hfD, hoD⟩; obtain ⟨dD2, cD2, rD2, rfl, _, hbD, _⟩ := hfD; have oD : Only [] w wD2 := oB.trans hoD; have hqD2' := conv_blk (c := cD2) hbD (one_u8 aB).1))
        all_goals
          go_wp2
          go_ret
          exact ⟨rfl, oE.below (Nat.le_refl _) (by simp)⟩

theorem diskStops_walk {H : Type} {enc : TypeId × Value → H} (n : Int) (A : Option Addr) (m c : Nat) (s : Int) (K : Option Addr) (kn kc : Nat) (w : World) (wf : (Lit.int .i64 s).wf = true) {d1 d3 : DataW H} (r1 : Rd enc Try.prog w 59 [.slice A m c] d1) (r3 : Rd enc Try.prog w 66 [.slice K kn kc] d3) :
    Calls Try.prog 11 #[.int .i64 n, .slice A m c, .int .i64 s, .slice K kn kc] w fun e w' => e = .returned (.bool true) ∧ Below w.heap.size w w' := by
  obtain ⟨hm, hops⟩ := r1.ops2
  obtain ⟨K', kn', kc', t, he, hkn, ht⟩ := r3.torns
  injection he with h1 h2 h3
  subst h1 h2 h3
  have hs : -9223372036854775808 ≤ s ∧ s ≤ 9223372036854775807 := by simpa [Lit.wf, IntKind.min, IntKind.max, IntKind.signed, IntKind.bits] using wf
  by_cases h : n < 1 ∨ 4096 < n
  · exact diskStops_bad n A m c s K kn kc w h
  · exact diskStops_good n A m c s K kn kc t w (by omega) (by omega) hm hops hs.1 hs.2 ht hkn
end Go.Proofs.Ytfkbgnoppigdnaa
