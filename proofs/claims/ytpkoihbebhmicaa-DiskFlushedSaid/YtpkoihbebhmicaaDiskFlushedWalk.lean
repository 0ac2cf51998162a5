/-
  The walk of 'DiskFlushed': it answers true, and turns nothing that was there.
-/
import Derived.Test.YtpkoihbebhmicaaFlLaw
import Derived.Test.YtpkoihbebhmicaaDiskOps
import Derived.Deep.RegionHeld3
import Derived.BigQuiet
namespace Go.Proofs.Ytpkoihbebhmicaa
open Go.ChangeShapes Go.WideShapes Go.ChangeAt Go.RowKit Go.Maps
set_option linter.unusedVariables false

theorem row_seesF {w : World} {d : Nat} {zs : List Int} (hb : Blk w d 5 (u8l zs).toArray) : Sees w (some ⟨d, 0, none⟩) zs.length zs :=
  ⟨rfl, fun _ => ⟨d, 0, rfl, hb.lt, fun i hi => by
    rw [Nat.zero_add, hb.cell]
    have := u8l_get zs [] i hi
    simpa using this⟩⟩

def K1 (plat : List Int) (l : List (Nat × List Int)) (i : Nat) (s : ByteArray) : Prop := s = strB (sect plat [] i) ∧ ∀ p ∈ l, p.1 ≠ i
def K2 (plat : List Int) (l : List (Nat × List Int)) (i : Nat) (s : ByteArray) : Prop := s = strB (sect plat l i)
def FlI (w0 w : World) (g N kb lb k : Nat) : Prop := ∃ plat l, Fl w0 w g N kb lb k plat l (K1 plat l) (K2 plat l)

theorem ranges_onlyF {P : Program} {k : TypeId} {Rr : Value → Option (DataW Unit × List MemPlace)} {w w' : World} {b r n : Nat} {D : DataW Unit} {left : Lit → Bool} {cnt : Nat} {S : List Nat} (h : w.ranges P k Rr b r n D left cnt) (ho : Only S w w') (hb : b ∉ S) (hr : r ∉ S) : w'.ranges P k Rr b r n D left cnt := by
  have h1 := h.lt
  obtain ⟨es, clock, since, seen, c0, e1, e2, e3, e4, e5, rest⟩ := h
  have h2 : b < w.heap.size := (Array.getElem?_eq_some_iff.1 e1).1
  exact ⟨es, clock, since, seen, c0, (ho.block b h2 hb).trans e1, e2, e3, e4, (ho.block r h1 hr).trans e5, rest⟩
theorem own_put {w : World} {kb N : Nat} {D : DataW Unit} {Q : Nat → ByteArray → Prop} (h : w.ownsMap Try.prog 3 elemT kb N D) (m : Mp N D Q) (hN : N ≤ 4096) {n : Nat} (hn : n < N) {s : ByteArray} (hs : s.size ≤ maxLen) (q : Q n s) :
    ∃ W' D', (Instr.mapUpdate 43 (.map (some kb)) (.int .i64 n) (.string s)).run Try.prog w = .ok () W' ∧ W'.ownsMap Try.prog 3 elemT kb N D' ∧ Mp N D' Q ∧ Only [kb] w W' := by
  obtain ⟨W', r1, r2, r3⟩ := h.store lawIntF Try.underlying43 (by unfold maxLen; omega) (keyOf_int_mk (k := 3) Try.underlying3 (show (Lit.int .i64 (n : Int)).wf = true from WalkArith.wf_i64 (by omega))) (plainElem_string Try.underlying9 hs)
  have m' := m.put hN hn q (fun _ _ _ h => h)
  exact ⟨W', _, r1, own_to r2 m'.size, m', Only.of_grown r3.grown (fun k hk _ => by injection hk with hk; simp [hk])⟩
theorem k_flush {plat : List Int} {l : List (Nat × List Int)} {N : Nat} (hp : plat.length = 512 * N) (hl : ∀ p ∈ l, p.1 < N ∧ p.2.length = 512) (i : Nat) (s : ByteArray) : (K1 plat l i s → K1 (layAll plat l) [] i s) ∧ (K2 plat l i s → K2 (layAll plat l) [] i s) ∧ (K2 (layAll plat l) [] i s → K1 (layAll plat l) [] i s) := by
  refine ⟨fun ⟨h1, h2⟩ => ⟨?_, by simp⟩, fun h => ?_, fun h => ⟨h, by simp⟩⟩
  · rw [h1, sect_flush i l plat hp hl, sect_plain plat l i h2]
  · unfold K2 at h ⊢
    rw [h, sect_flush i l plat hp hl]

abbrev opC2 (k m b x : Int) (K : Option Addr) (kn kc : Nat) : Array Value := #[.int .i64 k, .int .i64 m, .int .u8 b, .int .i64 x, .slice K kn kc]

set_option maxRecDepth 100000 in
set_option maxHeartbeats 1000000 in
theorem diskFlushed_bad (n : Int) (A : Option Addr) (m c : Nat) (K : Option Addr) (kn kc : Nat) (w : World) (hn : n < 1 ∨ 4096 < n) :
    Calls Try.prog 4 #[.int .i64 n, .slice A m c, .slice K kn kc] w fun e w' => e = .returned (.bool true) ∧ Below w.heap.size w w' := by
  have HN := hide hn
  clear hn
  go_enter Try.func4, Try.ntmps4
  go_wp2_with fail
  refine (awake_ok _).mono ?_
  rintro e w1 ⟨rfl, ho1⟩
  go_wp2_with (first | (go_at_call 6; refine (dnew_bad _ _ HN.out).mono ?_; rintro e w' ⟨rfl, rfl⟩))
  go_ret
  exact ⟨rfl, ho1.below (Nat.le_refl _) (by simp)⟩

set_option maxRecDepth 100000 in
set_option maxHeartbeats 2000000 in
theorem diskFlushed_good (n : Int) (A : Option Addr) (m c : Nat) (K : Option Addr) (kn kc : Nat) (t : List (Int × Int)) (w : World) (h1 : 1 ≤ n) (h2 : n ≤ 4096) (hm : m < 4398046511000) (hops : ∀ i, i < m → OpAt2 w A i) (ht : Torns w K kn t) (hkn : kn ≤ 9223372036854775807) :
    Calls Try.prog 4 #[.int .i64 n, .slice A m c, .slice K kn kc] w fun e w' => e = .returned (.bool true) ∧ Below w.heap.size w w' := by
  have HOPS := hide hops
  have HN := hide (And.intro h1 h2)
  have HT := hide (And.intro ht hkn)
  have HFI := hide (fun (b : Int) (hb0 : 0 ≤ b) (hb1 : b ≤ 255) W => (show Calls Try.prog 11 #[.int .i64 512, .int .u8 b] W fun e w' => Filled W w' e (fillL 512 b) from filled_ok 512 b W (by decide) hb0 hb1))
  clear hops h1 h2 ht hkn
  have hmm := @run_makeMap Try.prog
  go_enter Try.func4, Try.ntmps4
  go_wp2_with fail
  refine (awake_ok _).mono ?_
  rintro e w1 ⟨rfl, ho1⟩
  have HO1 := hide ho1
  clear ho1
  go_wp2_with fail
  refine (dk_new n w1 HN.out.1 HN.out.2).mono ?_
  rintro e w2 ⟨g, F, rfl, ho2, hF, hd2⟩
  have HFL := hide (show FlI w ((w2.alloc (.map #[] 0)).alloc (.map #[] 0)) g n.toNat w2.heap.size (w2.heap.size + 1) 0 from by
    have o4 : Only [] w2 ((w2.alloc (.map #[] 0)).alloc (.map #[] 0)) := ((Only.refl [] w2).alloc _).alloc _
    have hk1 : (w2.alloc (.map #[] 0)).ownsMap Try.prog 3 elemT w2.heap.size 0 (.map [] : DataW Unit) := World.ownsMap_made _ _ _ _
    have hk2 : ((w2.alloc (.map #[] 0)).alloc (.map #[] 0)).ownsMap Try.prog 3 elemT (w2.alloc (.map #[] 0)).heap.size 0 (.map [] : DataW Unit) := World.ownsMap_made _ _ _ _
    rw [show (w2.alloc (.map #[] 0)).heap.size = w2.heap.size + 1 by simp] at hk2
    have hz : Maps.size (.map [] : DataW Unit) ≤ n.toNat := by show 0 ≤ _; exact Nat.zero_le _
    have e01 := (HO1.out.trans ho2).size
    exact ⟨_, [], _, _, _, F, _, _, hd2.quiet o4, own_to (ownsMap_only hk1 ((Only.refl [] _).alloc _) (by simp)) hz, own_to hk2 hz, Mp.empty, Mp.empty, fun hm => by have := hd2.lt _ hm; omega, fun hm => by have := hd2.lt _ hm; omega, by omega, fun q hq => Nat.le_trans HO1.out.size (hF q hq), e01, by omega, (HO1.out.trans ho2).trans o4⟩)
  clear ho2 hF hd2
  go_wp2_with fail
  clear hmm
  revert HFL
  generalize (w2.alloc (.map #[] 0)).alloc (.map #[] 0) = w4
  generalize w2.heap.size + 1 = lb
  generalize w2.heap.size = kb
  generalize n.toNat = N
  intro HFL
  go_loopw [42] (fun i wr => ∃ k : Nat, k ≤ m ∧ i = .int .i64 k ∧ FlI w wr g N kb lb k) (fun i _ => m - (intOf i).toNat)
  case atStart => exact ⟨0, Nat.zero_le _, rfl, HFL.out⟩
  case round =>
    obtain ⟨k, hk, rfl, hp⟩ := hrel
    have HP := hide hp
    by_cases hlt : k < m
    · obtain ⟨q, o, z, mm, b, x, Kk, kkn, kkc, t', rfl, hq, s0, s1, s2, s3, s4, b0, b1, m0, m1, x0, x1, hkn', ht'⟩ := HOPS.out k hlt
      obtain ⟨plat, l, hfl⟩ := hp
      have e0 := (hfl.old.cell hq (by simp)).trans s0
      have e1 := (hfl.old.cell hq (by simp)).trans s1
      have e2 := (hfl.old.cell hq (by simp)).trans s2
      have e3 := (hfl.old.cell hq (by simp)).trans s3
      have e4 := (hfl.old.cell hq (by simp)).trans s4
      have HF0 := hide hfl
      have HBX := hide (Blk.new wr 33 (opC2 z mm b x Kk kkn kkc))
      have HB01 := hide (And.intro b0 b1)
      clear s0 s1 s2 s3 s4 hfl ht' b0 b1
      by_cases hz0 : z = 0
      · subst hz0
        by_cases hmm : mm < 0 ∨ N ≤ mm
        · have HA := hide ((Only.refl [] wr).alloc (.cells (opC2 0 mm b x Kk kkn kkc) 33))
          go_wp2_with fail
          revert HBX HA
          generalize wr.alloc (.cells (opC2 0 mm b x Kk kkn kkc) 33) = wa
          intro HBX HA
          have c0 : wa.cell? ⟨wr.heap.size, 0, none⟩ = some (.int .i64 0) := (HBX.out.cell 0).trans rfl
          have c1 : wa.cell? ⟨wr.heap.size, 1, none⟩ = some (.int .i64 mm) := (HBX.out.cell 1).trans rfl
          have c2 : wa.cell? ⟨wr.heap.size, 2, none⟩ = some (.int .u8 b) := (HBX.out.cell 2).trans rfl
          go_region_held3 (fun W => W.cell? ⟨wr.heap.size, 0, none⟩ = some (.int .i64 0) ∧ W.cell? ⟨wr.heap.size, 1, none⟩ = some (.int .i64 mm) ∧ W.cell? ⟨wr.heap.size, 2, none⟩ = some (.int .u8 b)) (first | go_keep | exact cc4 | exact cc3 | exact ⟨c0, c1, c2⟩) (first | (go_at_call 11; refine (HFI.out b HB01.out.1 HB01.out.2 _).mono ?_; rintro e w5 ⟨d, rfl, hd5, hbd5, ho5⟩; rw [fillL_length]; have k5 : Only [] wa w5 := Only.trans (by repeat (first | exact Only.refl _ _ | apply Only.drew)) ho5; have hb5 := HBX.out.only k5 (by simp); have g5 : wr.heap.size ≤ d := Nat.le_trans HA.out.size (Nat.le_trans (Only.size (S := []) (by repeat (first | exact Only.refl _ _ | apply Only.drew))) hd5); have cc3 : w5.cell? ⟨wr.heap.size, 0, none⟩ = some (.int .i64 0) ∧ w5.cell? ⟨wr.heap.size, 1, none⟩ = some (.int .i64 mm) ∧ w5.cell? ⟨wr.heap.size, 2, none⟩ = some (.int .u8 b) := ⟨(hb5.cell 0).trans rfl, (hb5.cell 1).trans rfl, (hb5.cell 2).trans rfl⟩) | (go_at_call 10; have k6 : Only [] w5 _ := (by repeat (first | exact Only.refl _ _ | apply Only.drew)); refine (fl_write_no (HF0.out.quiet (HA.out.trans (k5.trans k6))) mm _ _ _ hmm).mono ?_; rintro e w6 ⟨rfl, o6⟩; have hb6 := (hb5.only k6 (by simp)).only o6 (by simp); have kk6 := k5.trans (k6.trans o6); have cc4 : w6.cell? ⟨wr.heap.size, 0, none⟩ = some (.int .i64 0) ∧ w6.cell? ⟨wr.heap.size, 1, none⟩ = some (.int .i64 mm) ∧ w6.cell? ⟨wr.heap.size, 2, none⟩ = some (.int .u8 b) := ⟨(hb6.cell 0).trans rfl, (hb6.cell 1).trans rfl, (hb6.cell 2).trans rfl⟩))
          have K6 := hide (HA.out.trans kk6)
          have C6 := hide cc4
          clear cc4 cc3 hb6 kk6 o6 hb5 k5 g5 hbd5 ho5 hd5 c0 c1 c2
          have c0 := C6.out.1
          go_wp2
          go_roundw
          case rel => exact ⟨k + 1, hlt, by go_num, plat, l, (HF0.out.quiet (by repeat (first | exact K6.out | apply Only.drew))).more (Nat.le_succ k)⟩
          case measure => simp [intOf]; omega
        · obtain ⟨mm, rfl⟩ := Int.eq_ofNat_of_zero_le (show 0 ≤ mm by omega)
          have HA := hide ((Only.refl [] wr).alloc (.cells (opC2 0 mm b x Kk kkn kkc) 33))
          go_wp2_with fail
          revert HBX HA
          generalize wr.alloc (.cells (opC2 0 mm b x Kk kkn kkc) 33) = wa
          intro HBX HA
          have c0 : wa.cell? ⟨wr.heap.size, 0, none⟩ = some (.int .i64 0) := (HBX.out.cell 0).trans rfl
          have c1 : wa.cell? ⟨wr.heap.size, 1, none⟩ = some (.int .i64 mm) := (HBX.out.cell 1).trans rfl
          have c2 : wa.cell? ⟨wr.heap.size, 2, none⟩ = some (.int .u8 b) := (HBX.out.cell 2).trans rfl
          go_region_held3 (fun W => W.cell? ⟨wr.heap.size, 0, none⟩ = some (.int .i64 0) ∧ W.cell? ⟨wr.heap.size, 1, none⟩ = some (.int .i64 mm) ∧ W.cell? ⟨wr.heap.size, 2, none⟩ = some (.int .u8 b)) (first | go_keep | exact cc4 | exact cc3 | exact ⟨c0, c1, c2⟩) (first | (go_at_call 11; refine (HFI.out b HB01.out.1 HB01.out.2 _).mono ?_; rintro e w5 ⟨d, rfl, hd5, hbd5, ho5⟩; rw [fillL_length]; have k5 : Only [] wa w5 := Only.trans (by repeat (first | exact Only.refl _ _ | apply Only.drew)) ho5; have hb5 := HBX.out.only k5 (by simp); have g5 : wr.heap.size ≤ d := Nat.le_trans HA.out.size (Nat.le_trans (Only.size (S := []) (by repeat (first | exact Only.refl _ _ | apply Only.drew))) hd5); have cc3 : w5.cell? ⟨wr.heap.size, 0, none⟩ = some (.int .i64 0) ∧ w5.cell? ⟨wr.heap.size, 1, none⟩ = some (.int .i64 mm) ∧ w5.cell? ⟨wr.heap.size, 2, none⟩ = some (.int .u8 b) := ⟨(hb5.cell 0).trans rfl, (hb5.cell 1).trans rfl, (hb5.cell 2).trans rfl⟩) | (go_at_call 10; have k6 : Only [] w5 _ := (by repeat (first | exact Only.refl _ _ | apply Only.drew)); refine (fl_write (HF0.out.quiet (HA.out.trans (k5.trans k6))) mm (by omega) d (fillL 512 b) (fillL_length _ _) (u8_fillL _ _) (HA.out.trans (k5.trans k6)) g5 HF0.out (hbd5.only k6 (by simp)) (by omega)).mono ?_; rintro e w6 ⟨rfl, hfl6, hbx6⟩; have hb6 := hbx6 _ _ _ (Nat.le_refl _) (hb5.only k6 (by simp)); have cc4 : w6.cell? ⟨wr.heap.size, 0, none⟩ = some (.int .i64 0) ∧ w6.cell? ⟨wr.heap.size, 1, none⟩ = some (.int .i64 mm) ∧ w6.cell? ⟨wr.heap.size, 2, none⟩ = some (.int .u8 b) := ⟨(hb6.cell 0).trans rfl, (hb6.cell 1).trans rfl, (hb6.cell 2).trans rfl⟩))
          have HF6 := hide hfl6
          have HB6 := hide hb6
          clear cc4 cc3 hb6 hbx6 hfl6 hb5 k5 g5 hbd5 ho5 hd5 c0 c1 c2
          go_wp2_with fail
          have c0 : w6.cell? ⟨wr.heap.size, 0, none⟩ = some (.int .i64 0) := (HB6.out.cell 0).trans rfl
          have c1 : w6.cell? ⟨wr.heap.size, 1, none⟩ = some (.int .i64 mm) := (HB6.out.cell 1).trans rfl
          have c2 : w6.cell? ⟨wr.heap.size, 2, none⟩ = some (.int .u8 b) := (HB6.out.cell 2).trans rfl
          have HLT := hide (show kb < wr.heap.size ∧ lb < wr.heap.size from ⟨HF0.out.lts.1, HF0.out.lts.2.1⟩)
          have HN2 := hide (show mm < N by omega)
          have HSZ := hide (show (strB (fillL 512 b)).size ≤ maxLen by rw [strB_size, fillL_length]; decide)
          go_region_law (go_simp; go_at_call 11; refine (HFI.out b HB01.out.1 HB01.out.2 _).mono ?_; rintro e w7 ⟨d7, rfl, hd7, hbd7, ho7⟩; rw [fillL_length]; have k7 : Only [] w6 w7 := Only.trans (by repeat (first | exact Only.refl _ _ | apply Only.drew)) ho7; have hb7 := HB6.out.only k7 (by simp); have cc7 : w7.cell? ⟨wr.heap.size, 0, none⟩ = some (.int .i64 0) ∧ w7.cell? ⟨wr.heap.size, 1, none⟩ = some (.int .i64 mm) ∧ w7.cell? ⟨wr.heap.size, 2, none⟩ = some (.int .u8 b) := ⟨(hb7.cell 0).trans rfl, (hb7.cell 1).trans rfl, (hb7.cell 2).trans rfl⟩; obtain ⟨x0, x1, x2⟩ := cc7; have hcv : (convert 37 9 (.slice (some ⟨d7, 0, none⟩) 512 512)).run Try.prog w7 = .ok (.string (strB (fillL 512 b))) w7 := (conv_bytes w7 _ 512 512 (fillL 512 b) (by have hs := row_seesF hbd7; rw [fillL_length] at hs; exact hs) (by simp) (u8_fillL _ _)); obtain ⟨w8, hst, hfl8, ho8⟩ := fl_store_last (HF6.out.quiet k7) (Q2' := K2 plat (l ++ [(mm, fillL 512 b)])) HN2.out HSZ.out (by unfold K2; rw [sect_write, if_pos rfl]) (fun j s hj h => by unfold K2 at h ⊢; rw [sect_write, if_neg (fun e => hj e.symm)]; exact h))
          all_goals
            have hB8 := (HB6.out.only k7 (by simp)).only ho8 (by have := HLT.out.2; simp; omega)
            obtain ⟨w9, hdr, hfl9, ho9⟩ := fl_drop hfl8 (n := mm) HN2.out 0
            have z1 : w8.cell? ⟨wr.heap.size, 1, none⟩ = some (.int .i64 mm) := (hB8.cell 1).trans rfl
            have z0 : w9.cell? ⟨wr.heap.size, 0, none⟩ = some (.int .i64 0) := ((hB8.only ho9 (by have := HLT.out.1; simp; omega)).cell 0).trans rfl
            have HF9 := hide hfl9
            clear hfl9 hfl8 hB8 hb7 ho9 ho8 hst hcv x0 x1 x2 k7 ho7 hbd7 hd7 c0 c1 c2
            go_wp2
            go_roundw
            case rel => exact ⟨k + 1, hlt, by go_num, plat, l ++ [(mm, fillL 512 b)], HF9.out.imp (fun i s hi h => ⟨h.2.1, fun p hp => by
              rcases List.mem_append.1 hp with hp | hp
              · exact h.2.2 p hp
              · rw [List.mem_singleton.1 hp]; exact fun e => h.1 e.symm⟩) (fun i s hi h => h)⟩
            case measure => simp [intOf]; omega
      · have d0 : decide (z = 0) = false := by simp [hz0]
        by_cases hz2 : z = 2
        · subst hz2
          have HA := hide ((Only.refl [] wr).alloc (.cells (opC2 2 mm b x Kk kkn kkc) 33))
          have HFL := hide (fun W (r : Only [] wr W) => fl_flush (HF0.out.quiet r) (by omega))
          clear hz0
          go_wp2_with fail
          go_quiet (fail)
          go_wp2_with fail
          refine (HFL.out _ (by first | exact HA.out | exact HA.out.drewN _)).mono ?_
          rintro e w5 ⟨⟨E, rfl⟩, hf5⟩
          obtain ⟨hpl, hN1, hN2, hwr⟩ := HF0.out.facts
          have hf6 := hf5.imp (fun i s _ h => (k_flush hpl (fun p hp => ⟨(hwr p hp).1, (hwr p hp).2.1⟩) i s).1 h) (fun i s _ h => (k_flush hpl (fun p hp => ⟨(hwr p hp).1, (hwr p hp).2.1⟩) i s).2.1 h)
          have HK := hide (fun i s => (k_flush hpl (fun p hp => ⟨(hwr p hp).1, (hwr p hp).2.1⟩) i s).2.2)
          clear hf5 hwr hpl
          generalize layAll plat l = P at hf6 HK
          obtain ⟨rd, wt, fl, F, D1, D2, hd, h1, h2, m1, m2, n1, n2, n3, hF, bb1, bb2, h0⟩ := hf6
          have HH := hide (And.intro hd (And.intro n1 (And.intro n2 (And.intro hF (And.intro bb1 (And.intro bb2 h0))))))
          have HM := hide (And.intro m1 m2)
          have HO1 := hide h1
          have HKL := hide (show kb ≠ lb ∧ kb < w5.heap.size ∧ lb < w5.heap.size from ⟨n3, h1.lt, h2.lt⟩)
          clear hd h1 m1 m2 n1 n2 hF bb1 bb2 h0 n3
          go_wp2_with (at_range; refine wpList_range_own _ rfl _ 43 rfl 3 9 lawIntF Try.underlying43 elemT lb N D2 rfl h2 ?_; intro w6 hrg0 hg0 hs0; go_frame)
          have HG0 := hide (show Only [] w5 w6 from Only.of_grown hg0 (by simp))
          have HRG0 := hide hrg0
          clear hrg0 hg0 hs0 h2
          obtain ⟨it, hit⟩ : ∃ it, w5.heap.size = it := ⟨_, rfl⟩
          have HIT := hide hit
          rw [hit] at HRG0
          rw [hit]
          clear hit
          go_loopw [13, 14] (fun _ _ wl => ∃ left cnt D1', wl.ranges Try.prog 3 elemT lb it N D2 left cnt ∧ wl.ownsMap Try.prog 3 elemT kb N D1' ∧ Mp N D1' (K1 P []) ∧ Only [kb] w5 wl) (fun _ _ wl => wl.rangeLeft lb it)
          case atStart => exact ⟨_, _, D1, HRG0.out, ownsMap_only HO1.out HG0.out (by simp), HM.out.1, HG0.out.mono (by simp)⟩
          case round =>
            obtain ⟨left, cnt, D1', hrg, hown, hm1, hO⟩ := hrel
            have HRG := hide hrg
            have HOW := hide hown
            have HM1 := hide hm1
            have HOO := hide hO
            clear hown hm1 hO
            go_wp2_with (at_next; refine wpList_next_ranges_is _ rfl _ rfl 3 9 .i64 lawIntF Try.underlying3 Try.underlying9 lb it N D2 left cnt rfl hrg ?_ ?_)
            · intro _ _
              have HOL := hide HRG.out.owns
              clear hrg
              go_wp2_with fail
              go_roundw
              case rel =>
                refine ⟨k + 1, hlt, by go_num, P, [], rd, wt, fl, F, D1', D2, HH.out.1.only HOO.out (fun q hq hm => by simp at hm; exact HH.out.2.1 (hm ▸ hq)), HOW.out, HOL.out, HM1.out, HM.out.2, HH.out.2.1, HH.out.2.2.1, HKL.out.1, HH.out.2.2.2.1, HH.out.2.2.2.2.1, HH.out.2.2.2.2.2.1, HH.out.2.2.2.2.2.2.trans' HOO.out (fun q hq hm => by simp at hm; have := HH.out.2.2.2.2.1; omega)⟩
              case measure => simp [intOf]; omega
            · intro x2 cc wn cnt1 hwf hsz hlx hat hrg1 hlt1 hg1 hs1 hen
              obtain ⟨i2, rfl, hi2, hq2⟩ := HM.out.2.come hat
              have ho1 : Only [it] wr wn := ⟨hg1.os, hg1.tape, hg1.output, hg1.size, fun i hi hn => hg1.block i hi (fun e => hn (by injection e with e; simp [e]))⟩
              have hown1 := ownsMap_only HOW.out ho1 (by have := HIT.out; have := HKL.out.2.1; simp; omega)
              obtain ⟨wp, D1'', hput, hown2, hm2, ho2⟩ := own_put hown1 HM1.out hN2 hi2 hsz (HK.out i2 cc hq2)
              have hr2 := ranges_onlyF hrg1 ho2 (by have := HKL.out.1; simp; omega) (by have := HIT.out; have := HKL.out.2.1; simp; omega)
              have HRL := hide (And.intro hr2 (And.intro hown2 (And.intro hm2 (show Only [kb] w5 wp from (HOO.out.trans' ho1 (fun q hq hm => by simp at hm; have := HIT.out; omega)).trans ho2))))
              have HLT := hide hlt1
              clear hrg hrg1 hlt1 hg1 hs1 hat hq2 ho1 hown1 hown2 hm2 ho2 hr2 hlx hwf hsz
              go_wp2
              go_roundw
              case rel => exact ⟨_, cnt1, D1'', HRL.out.1, HRL.out.2.1, HRL.out.2.2.1, HRL.out.2.2.2⟩
              case measure => rw [HRL.out.1.left_eq, HRG.out.left_eq]; exact HLT.out
        · have d2 : decide (z = 2) = false := by simp [hz2]
          go_wp2_with fail
          go_quiet (fail)
          go_wp2
          go_roundw
          case rel => exact ⟨k + 1, hlt, by go_num, plat, l, (HF0.out.quiet (((Only.refl [] wr).alloc _).drewN _)).more (Nat.le_succ k)⟩
          case measure => simp [intOf]; omega
    · obtain rfl : k = m := by omega
      obtain ⟨plat, l, hfl⟩ := hp
      have HF0 := hide hfl
      clear hfl
      obtain ⟨hpl, hN1, hN2, hwr⟩ := HF0.out.facts
      have HCS := hide (fun (tt : List (Int × Int)) (i : Nat) (s : ByteArray) (h : K1 plat l i s) => show K1 (crashAll plat l tt) [] i s from ⟨by rw [h.1, crash_sect l (fun p hp => ⟨(hwr p hp).1, (hwr p hp).2.1⟩) i h.2 tt plat hpl], by simp⟩)
      clear hpl hwr
      obtain ⟨P, HEND⟩ : ∃ P : List Int, Hid (∀ Kz knz kcz, (Kz = K ∧ knz = kn ∧ kcz = kc) → (Calls Try.prog 15 #[.pointer (some ⟨g, 0, none⟩), .slice Kz knz kcz] wr fun e w5 => (e = .returned (.int .i64 0) ∧ Fl w w5 g N kb lb k P [] (K1 P []) (K2 plat l)) ∨ (e = .returned (.int .i64 1) ∧ Calls Try.prog 15 #[.pointer (some ⟨g, 0, none⟩), .slice none 0 0] w5 fun e w6 => e = .returned (.int .i64 0) ∧ Fl w w6 g N kb lb k P [] (K1 P []) (K2 plat l)))) := by
        by_cases hkb : keepB l.length 0 t = true
        · refine ⟨crashAll plat l t, hide ?_⟩
          rintro _ _ _ ⟨rfl, rfl, rfl⟩
          refine (fl_crash HF0.out _ _ _ t HT.out.1 HT.out.2).mono ?_
          rintro e w5 ⟨he, hf⟩
          rw [if_pos hkb] at he
          rw [if_pos hkb, if_pos hkb] at hf
          exact .inl ⟨he, hf.imp (fun i s _ h => HCS.out t i s h) (fun _ _ _ h => h)⟩
        · refine ⟨crashAll plat l [], hide ?_⟩
          rintro _ _ _ ⟨rfl, rfl, rfl⟩
          refine (fl_crash HF0.out _ _ _ t HT.out.1 HT.out.2).mono ?_
          rintro e w5 ⟨he, hf⟩
          rw [if_neg hkb] at he
          rw [if_neg hkb, if_neg hkb] at hf
          refine .inr ⟨he, (fl_crash hf none 0 0 [] ⟨rfl, by omega⟩ (by decide)).mono ?_⟩
          rintro e w6 ⟨he2, hf2⟩
          have hk0 : keepB l.length 0 [] = true := rfl
          rw [if_pos hk0] at he2
          rw [if_pos hk0, if_pos hk0] at hf2
          exact ⟨he2, hf2.imp (fun i s _ h => HCS.out [] i s h) (fun _ _ _ h => h)⟩
      clear HCS HF0
      go_wp2_with fail
      refine (HEND.out _ _ _ ⟨rfl, rfl, rfl⟩).mono ?_
      rintro e w5 (⟨rfl, hf5⟩ | ⟨rfl, hnx⟩)
      · obtain ⟨rd, wt, fl, F, D1, D2, hd, h1, h2, m1, m2, n1, n2, n3, hF, bb1, bb2, h0⟩ := hf5
        have HH := hide (And.intro hd (And.intro n1 (And.intro hF h0)))
        have HM := hide m1
        have HKL := hide (show kb < w5.heap.size from h1.lt)
        clear hd m1 m2 n1 n2 hF bb1 bb2 h0 n3 h2
        go_wp2_with (at_range; refine wpList_range_own _ rfl _ 43 rfl 3 9 lawIntF Try.underlying43 elemT kb N D1 rfl h1 ?_; intro w7 hrg0 hg0 hs0; go_frame)
        have HG0 := hide (show Only [] w5 w7 from Only.of_grown hg0 (by simp))
        have HRG0 := hide hrg0
        have hsz := HM.out.size
        clear hrg0 hg0 hs0 h1
        obtain ⟨it, hit⟩ : ∃ it, w5.heap.size = it := ⟨_, rfl⟩
        have HIT := hide hit
        rw [hit] at HRG0
        rw [hit]
        clear hit
        go_loopw [15, 16] (fun _ _ wl => ∃ left cnt rd' k', wl.ranges Try.prog 3 elemT kb it N D1 left cnt ∧ Dk wl g N P [] (-1) rd' wt fl k' F ∧ k' + cnt ≤ k + N ∧ Only F w5 wl) (fun _ _ wl => wl.rangeLeft kb it)
        case atStart => exact ⟨_, _, _, _, HRG0.out, HH.out.1.quiet HG0.out, by omega, HG0.out.mono (by simp)⟩
        case round =>
          obtain ⟨left, cnt, rd', k', hrg, hd, hkc, hO⟩ := hrel
          have HRG := hide hrg
          have HDK := hide hd
          have HOO := hide hO
          clear hd hO
          go_wp2_with (at_next; refine wpList_next_ranges_is _ rfl _ rfl 3 9 .i64 lawIntF Try.underlying3 Try.underlying9 kb it N D1 left cnt rfl hrg ?_ ?_)
          · intro _ _
            clear hrg
            have hkl : (0 : Int) = ([] : List (Nat × List Int)).length := rfl
            go_wp2_with fail
            refine (dk_pending HDK.out).mono ?_
            rintro e w8 ⟨d, rfl, -, -, ho8⟩
            have HO8 := hide ho8
            clear ho8 hkl
            go_wp2
            go_ret
            exact ⟨rfl, ((HH.out.2.2.2.trans' HOO.out (fun q hq hm => by have := HH.out.2.2.1 q hm; omega)).trans HO8.out).below (Nat.le_refl _) (by simp)⟩
          · intro x2 cc wn cnt1 hwf hsz2 hlx hat hrg1 hlt1 hg1 hs1 hen
            obtain ⟨i2, rfl, hi2, hq2⟩ := HM.out.come hat
            have ho1 : Only [it] wr wn := ⟨hg1.os, hg1.tape, hg1.output, hg1.size, fun i hi hn => hg1.block i hi (fun e => hn (by injection e with e; simp [e]))⟩
            have hitF : ∀ q ∈ F, q ≠ it := fun q hq => by have := HH.out.1.lt q hq; have := HIT.out; omega
            have hd1 := HDK.out.only ho1 (fun q hq hm => by simp at hm; exact hitF q hq hm)
            obtain ⟨sl, su⟩ := hd1.secOk hi2
            have HRD := hide (dk_read hd1 i2 hi2 (by omega))
            have HHH := hide (And.intro hrg1 (And.intro (show Only F w5 wn from HOO.out.trans' ho1 (fun q hq hm => by simp at hm; have := HIT.out; omega)) (And.intro hitF hlt1)))
            have HQ := hide (And.intro hq2.1 (And.intro sl su))
            clear hrg hrg1 hlt1 hg1 hs1 hat hq2 ho1 hlx hwf hsz2 hd1 hitF sl su
            go_wp2_with fail
            refine HRD.out.mono ?_
            rintro e w8 ⟨v, rfl, hf, t8, hd8⟩
            obtain ⟨d, cd, rr, rfl, hB, hbk, hcl⟩ := hf
            rw [HQ.out.2.1]
            have hcv : (convert 37 9 (.slice (some ⟨d, 0, none⟩) 512 cd)).run Try.prog w8 = .ok (.string cc) w8 := by
              rw [HQ.out.1]
              exact conv_bytes w8 _ _ _ _ ⟨HQ.out.2.1, fun _ => ⟨d, 0, rfl, hbk.lt, fun i hi => by rw [Nat.zero_add, hbk.cell]; exact u8l_get _ _ i (by rw [HQ.out.2.1]; exact hi)⟩⟩ (by simp) HQ.out.2.2
            have hr8 := ranges_onlyF HHH.out.1 t8.1 HH.out.2.1 (fun hm => HHH.out.2.2.1 it hm rfl)
            have HRL := hide (And.intro hr8 (And.intro hd8 (show Only F w5 w8 from HHH.out.2.1.trans t8.1)))
            clear hr8 hd8 t8 hbk hB hcl
            go_wp2
            go_roundw
            case rel => exact ⟨_, cnt1, _, _, HRL.out.1, HRL.out.2.1, by have := HHH.out.2.2.2; omega, HRL.out.2.2⟩
            case measure => rw [HRL.out.1.left_eq, HRG.out.left_eq]; exact HHH.out.2.2.2
      · have HNX := hide hnx
        clear hnx
        go_wp2_with fail
        refine HNX.out.mono ?_
        rintro e w6 ⟨rfl, hf5⟩
        obtain ⟨rd, wt, fl, F, D1, D2, hd, h1, h2, m1, m2, n1, n2, n3, hF, bb1, bb2, h0⟩ := hf5
        have HH := hide (And.intro hd (And.intro n1 (And.intro hF h0)))
        have HM := hide m1
        have HKL := hide (show kb < w6.heap.size from h1.lt)
        clear hd m1 m2 n1 n2 hF bb1 bb2 h0 n3 h2
        go_wp2_with (at_range; refine wpList_range_own _ rfl _ 43 rfl 3 9 lawIntF Try.underlying43 elemT kb N D1 rfl h1 ?_; intro w7 hrg0 hg0 hs0; go_frame)
        have HG0 := hide (show Only [] w6 w7 from Only.of_grown hg0 (by simp))
        have HRG0 := hide hrg0
        have hsz := HM.out.size
        clear hrg0 hg0 hs0 h1
        obtain ⟨it, hit⟩ : ∃ it, w6.heap.size = it := ⟨_, rfl⟩
        have HIT := hide hit
        rw [hit] at HRG0
        rw [hit]
        clear hit
        go_loopw [15, 16] (fun _ _ wl => ∃ left cnt rd' k', wl.ranges Try.prog 3 elemT kb it N D1 left cnt ∧ Dk wl g N P [] (-1) rd' wt fl k' F ∧ k' + cnt ≤ k + N ∧ Only F w6 wl) (fun _ _ wl => wl.rangeLeft kb it)
        case atStart => exact ⟨_, _, _, _, HRG0.out, HH.out.1.quiet HG0.out, by omega, HG0.out.mono (by simp)⟩
        case round =>
          obtain ⟨left, cnt, rd', k', hrg, hd, hkc, hO⟩ := hrel
          have HRG := hide hrg
          have HDK := hide hd
          have HOO := hide hO
          clear hd hO
          go_wp2_with (at_next; refine wpList_next_ranges_is _ rfl _ rfl 3 9 .i64 lawIntF Try.underlying3 Try.underlying9 kb it N D1 left cnt rfl hrg ?_ ?_)
          · intro _ _
            clear hrg
            have hkl : (0 : Int) = ([] : List (Nat × List Int)).length := rfl
            go_wp2_with fail
            refine (dk_pending HDK.out).mono ?_
            rintro e w8 ⟨d, rfl, -, -, ho8⟩
            have HO8 := hide ho8
            clear ho8 hkl
            go_wp2
            go_ret
            exact ⟨rfl, ((HH.out.2.2.2.trans' HOO.out (fun q hq hm => by have := HH.out.2.2.1 q hm; omega)).trans HO8.out).below (Nat.le_refl _) (by simp)⟩
          · intro x2 cc wn cnt1 hwf hsz2 hlx hat hrg1 hlt1 hg1 hs1 hen
            obtain ⟨i2, rfl, hi2, hq2⟩ := HM.out.come hat
            have ho1 : Only [it] wr wn := ⟨hg1.os, hg1.tape, hg1.output, hg1.size, fun i hi hn => hg1.block i hi (fun e => hn (by injection e with e; simp [e]))⟩
            have hitF : ∀ q ∈ F, q ≠ it := fun q hq => by have := HH.out.1.lt q hq; have := HIT.out; omega
            have hd1 := HDK.out.only ho1 (fun q hq hm => by simp at hm; exact hitF q hq hm)
            obtain ⟨sl, su⟩ := hd1.secOk hi2
            have HRD := hide (dk_read hd1 i2 hi2 (by omega))
            have HHH := hide (And.intro hrg1 (And.intro (show Only F w6 wn from HOO.out.trans' ho1 (fun q hq hm => by simp at hm; have := HIT.out; omega)) (And.intro hitF hlt1)))
            have HQ := hide (And.intro hq2.1 (And.intro sl su))
            clear hrg hrg1 hlt1 hg1 hs1 hat hq2 ho1 hlx hwf hsz2 hd1 hitF sl su
            go_wp2_with fail
            refine HRD.out.mono ?_
            rintro e w8 ⟨v, rfl, hf, t8, hd8⟩
            obtain ⟨d, cd, rr, rfl, hB, hbk, hcl⟩ := hf
            rw [HQ.out.2.1]
            have hcv : (convert 37 9 (.slice (some ⟨d, 0, none⟩) 512 cd)).run Try.prog w8 = .ok (.string cc) w8 := by
              rw [HQ.out.1]
              exact conv_bytes w8 _ _ _ _ ⟨HQ.out.2.1, fun _ => ⟨d, 0, rfl, hbk.lt, fun i hi => by rw [Nat.zero_add, hbk.cell]; exact u8l_get _ _ i (by rw [HQ.out.2.1]; exact hi)⟩⟩ (by simp) HQ.out.2.2
            have hr8 := ranges_onlyF HHH.out.1 t8.1 HH.out.2.1 (fun hm => HHH.out.2.2.1 it hm rfl)
            have HRL := hide (And.intro hr8 (And.intro hd8 (show Only F w6 w8 from HHH.out.2.1.trans t8.1)))
            clear hr8 hd8 t8 hbk hB hcl
            go_wp2
            go_roundw
            case rel => exact ⟨_, cnt1, _, _, HRL.out.1, HRL.out.2.1, by have := HHH.out.2.2.2; omega, HRL.out.2.2⟩
            case measure => rw [HRL.out.1.left_eq, HRG.out.left_eq]; exact HHH.out.2.2.2

theorem diskFlushed_walk {H : Type} {enc : TypeId × Value → H} (n : Int) (A : Option Addr) (m c : Nat) (K : Option Addr) (kn kc : Nat) (w : World) {d1 d2 : DataW H} (r1 : Rd enc Try.prog w 22 [.slice A m c] d1) (r2 : Rd enc Try.prog w 31 [.slice K kn kc] d2) :
    Calls Try.prog 4 #[.int .i64 n, .slice A m c, .slice K kn kc] w fun e w' => e = .returned (.bool true) ∧ Below w.heap.size w w' := by
  obtain ⟨hm, hops⟩ := r1.ops2
  obtain ⟨K', kn', kc', t, he, hkn, ht⟩ := r2.torns
  injection he with h1 h2 h3
  subst h1 h2 h3
  by_cases h : n < 1 ∨ 4096 < n
  · exact diskFlushed_bad n A m c K kn kc w h
  · exact diskFlushed_good n A m c K kn kc t w (by omega) (by omega) hm hops ht hkn
end Go.Proofs.Ytpkoihbebhmicaa
