/-
  The walk of 'CallTable'.
-/
import Derived.Test.YtccobbfinmlgdaaDoorCaXNumber
import Derived.Deep.RegionHeld3
namespace Go.Proofs.YtccobbfinmlgdaaDoor
open Go.ChangeShapes Go.WideShapes Go.ChangeAt Go.RowKit
set_option linter.unusedVariables false
set_option linter.unusedSimpArgs false

theorem bytes_most (n : Int) : bytesF (entF n).ks ≤ 2304 := by
  by_cases h : 1 ≤ n ∧ n ≤ 30
  · have hx : ∀ i : Nat, i < 30 → bytesF (entL.getD i ⟨⟨#[]⟩, 0, []⟩).ks ≤ 2304 := by decide +kernel
    unfold entF
    rw [if_pos h]
    exact hx _ (by omega)
  · rw [entF_no h]; decide +kernel
theorem numF_nm {n : Int} (h : 1 ≤ n ∧ n ≤ 30) : numF (entF n).nm = n := by
  have hx : ∀ i : Nat, i < 30 → numF (entL.getD i ⟨⟨#[]⟩, 0, []⟩).nm = (i : Int) + 1 := by decide +kernel
  have := hx (n - 1).toNat (by omega)
  unfold entF
  rw [if_pos h, this]
  omega
theorem zero_set (ks : List Int) (cur : List Value) (i : Nat) (h : i < ks.length) : ((List.replicate i (0 : Int) ++ ks.drop i).map (Value.int .i64) ++ cur).toArray.setIfInBounds i (.int .i64 0) =
    ((List.replicate (i + 1) (0 : Int) ++ ks.drop (i + 1)).map (Value.int .i64) ++ cur).toArray := by
  rw [List.setIfInBounds_toArray, List.drop_eq_getElem_cons h, List.replicate_succ']
  congr 1
  simp only [List.map_append, List.map_replicate, List.map_cons, List.map_nil, List.append_assoc, List.cons_append, List.nil_append]
  rw [List.set_append_right _ _ (by simp)]
  simp
/-- The two rows, the box of the call. -/
structure Two (W : World) (g0 g1 : Nat) (nm : ByteArray) (ct : Int) (A : Option Addr) (c : Nat) (A2 : Option Addr) (c2 : Nat) (ks : List Int) : Prop where
  box : Blk W g1 25 #[.string nm, .int .i64 ct, .slice A ks.length c]
  one : KR W g0 (.slice A ks.length c) ks
  lo : ∀ q, (Value.slice A ks.length c).ownBlock = some q → q < g1
  two : KR W (g1 + 1) (.slice A2 ks.length c2) ks
theorem Two.only {W W' : World} {g0 g1 : Nat} {nm : ByteArray} {ct : Int} {A A2 : Option Addr} {c c2 : Nat} {ks : List Int} (h : Two W g0 g1 nm ct A c A2 c2 ks) (ho : Only [] W W') : Two W' g0 g1 nm ct A c A2 c2 ks :=
  ⟨h.box.only ho (by simp), h.one.grow ho, h.lo, h.two.grow ho⟩
set_option maxRecDepth 100000 in
set_option maxHeartbeats 4000000 in
theorem callTable_walk (n : Int) (s : ByteArray) (w : World) (hT : TabS w) : Calls Tryd.prog 4 #[.int .i64 n, .string s] w fun x w' => x = .returned (.bool true) ∧ Below w.heap.size w w' := by
  have HA := hide (fun W0 W (h0 : Only [] w W0) (h : Only [] W0 W) => (awake26 W (hT.only (h0.trans h) (by simp))).mono (R' := fun e w' => e = .returned (.bool true) ∧ Only [] W0 w') (fun e w' ⟨a, b⟩ => ⟨a, h.trans b⟩))
  have HG := hide (xget_is n w)
  have HK := hide (fun W => ckinds_is n W)
  have HN := hide (fun W0 W (h0 : Only [] w W0) (h : Only [] W0 W) => (cname_is n W).mono (R' := fun e w' => e = .returned (.string (entF n).nm) ∧ Only [] W0 w') (fun e w' ⟨a, b⟩ => ⟨a, h.trans b⟩))
  have HC := hide (fun W0 W (h0 : Only [] w W0) (h : Only [] W0 W) => (ccount_is n W).mono (R' := fun e w' => e = .returned (.int .i64 (entF n).cnt) ∧ Only [] W0 w') (fun e w' ⟨a, b⟩ => ⟨a, h.trans b⟩))
  have HB := hide (fun W0 W (h0 : Only [] w W0) (h : Only [] W0 W) => (cbound_is n W (hT.only (h0.trans h) (by simp))).mono (R' := fun e w' => e = .returned (.int .i64 (bytesF (entF n).ks)) ∧ Only [] W0 w') (fun e w' ⟨a, b⟩ => ⟨a, h.trans b⟩))
  have HX := hide (fun W0 W (h0 : Only [] w W0) (h : Only [] W0 W) => (xbound_is n W).mono (R' := fun e w' => e = .returned (.int .i64 (bytesF (entF n).ks)) ∧ Only [] W0 w') (fun e w' ⟨a, b⟩ => ⟨a, h.trans b⟩))
  have HM := hide (fun W0 W (h0 : Only [] w W0) (h : Only [] W0 W) => (cmost_is W (hT.only (h0.trans h) (by simp))).mono (R' := fun e w' => e = .returned (.int .i64 (mostN 30)) ∧ Only [] W0 w') (fun e w' ⟨a, b⟩ => ⟨a, h.trans b⟩))
  have HY := hide (fun W0 W (h0 : Only [] w W0) (h : Only [] W0 W) => (xmost_is W).mono (R' := fun e w' => e = .returned (.int .i64 (mostN 30)) ∧ Only [] W0 w') (fun e w' ⟨a, b⟩ => ⟨a, h.trans b⟩))
  have HL := hide (entF_len n)
  rw [most30] at HM HY
  have HBM := hide (show decide (2304 < bytesF (entF n).ks) = false by have := bytes_most n; simp; omega)
  have HNM := hide (show (¬ (1 ≤ n ∧ n ≤ 30) ∧ (entF n).nm.toList.isEmpty = true) ∨ ((1 ≤ n ∧ n ≤ 30) ∧ (entF n).nm.toList.isEmpty = false ∧ numF (entF n).nm = n) from by
    by_cases h : 1 ≤ n ∧ n ≤ 30
    · exact .inr ⟨h, str_some (nm_some h), numF_nm h⟩
    · exact .inl ⟨h, by rw [nm_empty h, Lib.toList_data]; rfl⟩)
  generalize (entF n).ks = ks at *
  have HU := hide (fun W0 W (h0 : Only [] w W0) (h : Only [] W0 W) => (cnumber_is s W).mono (R' := fun e w' => e = .returned (.tuple #[.int .i64 (numF s), .bool (decide (1 ≤ numF s))]) ∧ Only [] W0 w') (fun e w' ⟨a, b⟩ => ⟨a, h.trans b⟩))
  have HV := hide (fun W0 W (h0 : Only [] w W0) (h : Only [] W0 W) => (xnumber_is s W).mono (R' := fun e w' => e = .returned (.tuple #[.int .i64 (numF s), .bool (decide (1 ≤ numF s))]) ∧ Only [] W0 w') (fun e w' ⟨a, b⟩ => ⟨a, h.trans b⟩))
  generalize numF s = ns at *
  generalize decide (1 ≤ ns) = is at *
  generalize (entF n).nm = nm at *
  generalize (entF n).cnt = ct at *
  generalize hbf : bytesF ks = bf at *
  have HBF := hide hbf
  clear hbf
  have HTT := hide hT
  clear hT
  go_enter Tryd.func4, Tryd.ntmps4
  go_wp2_with fail
  refine HG.out.mono ?_
  rintro e w1 ⟨v, rfl, k1, o1⟩
  obtain ⟨A, c, rfl, -⟩ := KRow.form k1
  have HK1 := hide k1
  have HO1 := hide o1
  have HBX := hide (fun W (ho : Only [] (w1.alloc (.cells #[.string nm, .int .i64 ct, .slice A ks.length c] 25)) W) => (Blk.new w1 25 #[.string nm, .int .i64 ct, .slice A ks.length c]).only ho (by simp))
  clear k1 o1
  generalize hkl : ks.length = kl at *
  have HKL := hide hkl
  clear hkl
  go_wp2_with fail
  refine (HK.out _).mono ?_
  rintro e w2 ⟨v, rfl, k2, o2⟩
  obtain ⟨A2, c2, rfl, -⟩ := KRow.form k2
  rw [HKL.out]
  have HTW := hide (show Two w2 w.heap.size w1.heap.size nm ct A c A2 c2 ks from by
    refine ⟨by rw [HKL.out]; exact HBX.out w2 o2, ?_, ?_, ?_⟩
    · rw [HKL.out]; exact HK1.out.grow (((Only.refl [] w1).alloc _).trans o2)
    · rw [HKL.out]; exact fun q hq => (HK1.out.at_ hq).2
    · have : (w1.alloc (.cells #[.string nm, .int .i64 ct, .slice A kl c] 25)).heap.size = w1.heap.size + 1 := by simp
      rw [← this]
      exact k2)
  have HO2 := hide ((HO1.out.alloc (.cells #[.string nm, .int .i64 ct, .slice A kl c] 25)).trans o2)
  clear k2 o2 HG HBX
  have HS := hide (fun W (ho : Only [] w W) (h2 : Only [] w2 W) => (show W.cell? ⟨w1.heap.size, 0, none⟩ = some (.string nm) ∧ W.cell? ⟨w1.heap.size, 1, none⟩ = some (.int .i64 ct) ∧ W.cell? ⟨w1.heap.size, 2, none⟩ = some (.slice A kl c) from by
    have hb := (HTW.out.only h2).box
    rw [HKL.out] at hb
    exact ⟨hb.cell 0, hb.cell 1, hb.cell 2⟩))
  go_wp2_with fail
  have HA2 := hide (fun W h => HA.out w2 W HO2.out h)
  have HN2 := hide (fun W h => HN.out w2 W HO2.out h)
  have HC2 := hide (fun W h => HC.out w2 W HO2.out h)
  have HB2 := hide (fun W h => HB.out w2 W HO2.out h)
  have HX2 := hide (fun W h => HX.out w2 W HO2.out h)
  have HM2 := hide (fun W h => HM.out w2 W HO2.out h)
  have HY2 := hide (fun W h => HY.out w2 W HO2.out h)
  have kk : Only [] w2 w2.drew := (Only.refl _ _).drew
  have zz := HS.out _ (HO2.out.trans kk) kk
  go_region_held3 (fun W => W.cell? ⟨w1.heap.size, 0, none⟩ = some (.string nm) ∧ W.cell? ⟨w1.heap.size, 1, none⟩ = some (.int .i64 ct) ∧ W.cell? ⟨w1.heap.size, 2, none⟩ = some (.slice A kl c)) (first | go_keep | exact HS.out _ (HO2.out.trans kk) kk) (first | (go_at_call 8; refine (HA2.out _ (kk.trans (by repeat (first | exact Only.refl _ _ | apply Only.drew | apply Only.drewN)))).mono ?_; rintro e w3 ⟨rfl, o3⟩; clear kk; have kk := o3; clear o3) | (go_at_call 11; refine (HN2.out _ (kk.trans (by repeat (first | exact Only.refl _ _ | apply Only.drew | apply Only.drewN)))).mono ?_; rintro e w3 ⟨rfl, o3⟩; clear kk; have kk := o3; clear o3) | (go_at_call 12; refine (HC2.out _ (kk.trans (by repeat (first | exact Only.refl _ _ | apply Only.drew | apply Only.drewN)))).mono ?_; rintro e w3 ⟨rfl, o3⟩; clear kk; have kk := o3; clear o3) | (go_at_call 13; refine (HB2.out _ (kk.trans (by repeat (first | exact Only.refl _ _ | apply Only.drew | apply Only.drewN)))).mono ?_; rintro e w3 ⟨rfl, o3⟩; clear kk; have kk := o3; clear o3) | (go_at_call 14; refine (HX2.out _ (kk.trans (by repeat (first | exact Only.refl _ _ | apply Only.drew | apply Only.drewN)))).mono ?_; rintro e w3 ⟨rfl, o3⟩; clear kk; have kk := o3; clear o3) | (go_at_call 15; refine (HM2.out _ (kk.trans (by repeat (first | exact Only.refl _ _ | apply Only.drew | apply Only.drewN)))).mono ?_; rintro e w3 ⟨rfl, o3⟩; clear kk; have kk := o3; clear o3) | (go_at_call 16; refine (HY2.out _ (kk.trans (by repeat (first | exact Only.refl _ _ | apply Only.drew | apply Only.drewN)))).mono ?_; rintro e w3 ⟨rfl, o3⟩; clear kk; have kk := o3; clear o3))
  have HKK := hide kk
  clear kk zz HA2 HN2 HC2 HB2 HX2 HM2 HY2
  go_wp2_with fail
  have HT3 := hide (HTW.out.only HKK.out)
  have HO3 := hide (HO2.out.trans HKK.out)
  have HR := hide (show 0 < kl → ∃ b2 cur, A2 = some ⟨b2, 0, none⟩ ∧ w1.heap.size + 1 ≤ b2 ∧ Blk w3 b2 3 ((List.replicate 0 (0 : Int) ++ ks.drop 0).map (Value.int .i64) ++ cur).toArray from fun hp => by
    obtain ⟨b2, cap, cur, e, hB, hb, -⟩ := KRow.blk HT3.out.two (by rw [HKL.out]; exact hp)
    injection e with e
    exact ⟨b2, cur, e, hB, by simpa using hb⟩)
  have HR1 := hide (show 0 < kl → ∃ b1, A = some ⟨b1, 0, none⟩ ∧ b1 < w1.heap.size ∧ ∀ i, i < kl → w3.cell? ⟨b1, i, none⟩ = some (.int .i64 (gb ks i)) from fun hp => by
    obtain ⟨A', cap, e, hc⟩ := KRow.form HT3.out.one
    obtain ⟨b1, e1, hB, hb, hcell⟩ := hc (by rw [HKL.out]; exact hp)
    injection e with e _ _
    subst e
    refine ⟨b1, e1, HT3.out.lo b1 (by rw [e1]; rfl), fun i hi => hcell i (by rw [HKL.out]; exact hi)⟩)
  have HBX := hide HT3.out.box
  have HZ := hide (show ∀ q, (Value.slice A2 kl c2).ownBlock = some q → w1.heap.size + 1 ≤ q from fun q hq => (HT3.out.two.at_ (by rw [HKL.out]; exact hq)).1)
  have HW1 := hide HO1.out.size
  clear HS HTW HKK HT3 HK1
  go_loopw [58, 7] (fun iv sv wr => ∃ i : Nat, i ≤ kl ∧ iv = .int .i64 i ∧ sv = .int .i64 (bytesF (ks.take i)) ∧ Only (Value.slice A2 kl c2).ownBlock.toList w3 wr ∧ (0 < kl → ∃ b2 cur, A2 = some ⟨b2, 0, none⟩ ∧ w1.heap.size + 1 ≤ b2 ∧ Blk wr b2 3 ((List.replicate i (0 : Int) ++ ks.drop i).map (Value.int .i64) ++ cur).toArray)) (fun iv _ _ => kl - (intOf iv).toNat)
  case atStart => exact ⟨0, Nat.zero_le _, rfl, rfl, Only.refl _ _, HR.out⟩
  case round =>
    obtain ⟨i, hi, rfl, rfl, ho, hr⟩ := hrel
    have HOr := hide ho
    have HBr := hide (show Blk wr w1.heap.size 25 #[.string nm, .int .i64 ct, .slice A ks.length c] from HBX.out.only ho (fun hm => by
      have := HZ.out _ (by simpa using hm)
      omega))
    rw [HKL.out] at HBr
    by_cases hlt : i < kl
    · have hltI : (i : Int) < kl := by omega
      obtain ⟨b2, cur, rfl, hb2, hB⟩ := hr (by omega)
      obtain ⟨b1, rfl, hb1, hc1⟩ := HR1.out (by omega)
      have hne : b1 ≠ b2 := by omega
      have hcl : wr.cell? ⟨b1, i, none⟩ = some (.int .i64 (gb ks i)) := (ho.cell (World.block_lt_of_cell? _ _ (hc1 i hlt)) (fun hm => by
        have := HZ.out _ (by simpa using hm)
        omega)).trans (hc1 i hlt)
      have hck : wr.cell? ⟨b2, i, none⟩ = some (.int .i64 (gb ks i)) := by
        rw [hB.cell]
        have hki : i < ks.length := by rw [HKL.out]; exact hlt
        have : gb ks i = ks[i] := by simp [gb, List.getD, List.getElem?_eq_getElem hki]
        simp [List.getElem?_append, hki, this]
        intro h
        omega
      have hfr := hB.frozen i
      have HSZ := hide (hSize_is (HTT.out.only (HO3.out.trans' (S := []) ho (fun q hq hm => by
        have := HZ.out q (by simpa using hm)
        have := HW1.out
        omega)) (by simp)) (gb ks i))
      have hbd := bytesF_bd (ks.take i)
      have hsz := szF_bd (gb ks i)
      have hlen := HL.out
      have hll : (ks.take i).length ≤ 19 := by rw [List.length_take]; omega
      have hw : IntKind.i64.wrap (bytesF (ks.take i) + szF (gb ks i)) = bytesF (ks.take i) + szF (gb ks i) := by rw [IntKind.wrap_i64]; omega
      have HE := hide (show bytesF (ks.take (i + 1)) = bytesF (ks.take i) + szF (gb ks i) by
        have hki : i < ks.length := by rw [HKL.out]; exact hlt
        rw [List.take_add_one, List.getElem?_eq_getElem hki]
        have : gb ks i = ks[i] := by simp [gb, List.getD, List.getElem?_eq_getElem hki]
        rw [this]
        exact bytesF_snoc _ _)
      have HBB := hide hB
      have HB2 := hide hb2
      have x2 := HBr.out.cell 2
      generalize bytesF (ks.take i) = S at *
      generalize szF (gb ks i) = Z at *
      generalize gb ks i = K at *
      have hi19 : (i : Int) ≤ 19 := by omega
      clear ho hr hB hb2 hb1 hc1 hbd hsz hlen hll
      go_wp2_with (go_at_call 17; refine HSZ.out.mono ?_; rintro e w' ⟨rfl, rfl⟩)
      go_roundw
      case rel =>
        exact ⟨i + 1, hlt, by go_num, by rw [HE.out], HOr.out.setCell (p := ⟨b2, i, none⟩) _ (fun _ => by exact List.mem_singleton.2 rfl), fun _ => ⟨b2, cur, rfl, HB2.out, by rw [← zero_set ks cur i (by rw [HKL.out]; exact hlt)]; exact HBB.out.set_ i _⟩⟩
      case measure => simp [intOf]; omega
    · obtain rfl : i = kl := by omega
      have HOW := hide (HO3.out.trans' (S := []) ho (fun q hq hm => by
        have := HZ.out q (by simpa using hm)
        have := HW1.out
        omega))
      have HS := hide (fun W (ho : Only [] wr W) => (show W.cell? ⟨w1.heap.size, 0, none⟩ = some (.string nm) ∧ W.cell? ⟨w1.heap.size, 2, none⟩ = some (.slice A i c) from ⟨(HBr.out.only ho (by simp)).cell 0, (HBr.out.only ho (by simp)).cell 2⟩))
      have hbs : bytesF (ks.take i) = bf := by rw [← HKL.out, List.take_length]; exact HBF.out
      rw [hbs]
      have hbm := HBM.out
      have HU2 := hide (fun W h => HU.out wr W HOW.out h)
      have HV2 := hide (fun W h => HV.out wr W HOW.out h)
      have HB2 := hide (fun W h => HB.out wr W HOW.out h)
      have HM2 := hide (fun W h => HM.out wr W HOW.out h)
      clear ho hr hbs HBr HOr HR HR1 HZ HBX HX HY HN HC HA HL
      go_wp2_with fail
      refine (HU2.out _ (Only.refl _ _)).mono ?_
      rintro e w4 ⟨rfl, o4⟩
      go_wp2_with fail
      refine (HV2.out _ o4).mono ?_
      rintro e w5 ⟨rfl, o5⟩
      clear o4
      go_wp2_with fail
      refine (HB2.out _ o5).mono ?_
      rintro e w6 ⟨rfl, o6⟩
      clear o5
      go_wp2_with fail
      refine (HM2.out _ o6).mono ?_
      rintro e w7 ⟨rfl, o7⟩
      clear o6
      have HO7 := hide o7
      have x0 := (HS.out w7 o7).1
      have x2 := (HS.out w7 o7).2
      clear o7
      rcases HNM.out with ⟨hn, he⟩ | ⟨hn, he, hnum⟩
      · clear hn
        go_wp2
        go_ret
        exact ⟨rfl, (HOW.out.trans HO7.out).below (Nat.le_refl _) (by simp)⟩
      · have HNU := hide (fun W0 W (h0 : Only [] w W0) (h : Only [] W0 W) => (cnumber_is nm W).mono (R' := fun e w' => e = .returned (.tuple #[.int .i64 n, .bool true]) ∧ Only [] W0 w') (fun e w' ⟨a, b⟩ => ⟨by rw [a, hnum, decide_eq_true hn.1], h.trans b⟩))
        clear hn hnum
        go_wp2_with fail
        refine (HNU.out wr w7 HOW.out HO7.out).mono ?_
        rintro e w8 ⟨rfl, o8⟩
        clear x0 x2
        have zz := (HS.out w8 o8).2
        have HO8 := hide o8
        have HK9 := hide (fun W h => (HK.out W).mono (R' := fun e w' => ∃ A9 c9, e = .returned (.slice A9 i c9) ∧ Only [] wr w') (fun e w' ⟨v, a, k, b⟩ => by
          obtain ⟨A9, c9, rfl, -⟩ := KRow.form k
          exact ⟨A9, c9, by rw [a, HKL.out], (show Only [] wr W from h).trans b⟩))
        have kk := o8
        clear o8
        go_wp2_with fail
        have zz := (HS.out w8.drew HO8.out.drew).2
        go_region_held3 (fun W => W.cell? ⟨w1.heap.size, 2, none⟩ = some (.slice A i c)) (first | go_keep | exact (HS.out _ kk).2) (first | (go_at_call 10; refine (HK9.out _ (kk.trans (by repeat (first | exact Only.refl _ _ | apply Only.drew | apply Only.drewN)))).mono ?_; rintro e w9 ⟨A9, c9, rfl, o9⟩; clear kk; have kk := o9; clear o9))
        all_goals
          have HKK := hide kk
          clear kk zz
          go_wp2
          go_ret
          exact ⟨rfl, (HOW.out.trans HKK.out).below (Nat.le_refl _) (by simp)⟩
end Go.Proofs.YtccobbfinmlgdaaDoor
