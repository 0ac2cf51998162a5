/-
  The document's own log (parapetref16): a header's bytes.
-/
import Derived.Test.YtpajdnjbeplneaaLgHead
import Derived.Test.YtpajdnjbeplneaaLgLaw
namespace Go.Proofs.Ytpajdnjbeplneaa
open Go.ChangeShapes Go.WideShapes Go.ChangeAt Go.RowKit
set_option linter.unusedVariables false
/-- The first i bytes of the generation, at both ends. -/
def bothF (gen : Int) (i j : Nat) : Int := if j < i then gb (beB 8 gen) j else if 504 ≤ j ∧ j < 504 + i then gb (beB 8 gen) (j - 504) else 0
def partG (gen : Int) (ns : List Int) (i : Nat) : List Int := beB 8 gen ++ beB 2 ns.length ++ numsF (ns.take i) ++ List.replicate (494 - 2 * i) 0 ++ beB 8 gen
theorem partG_length (gen : Int) (ns : List Int) (i : Nat) (h : i ≤ ns.length) (hn : ns.length ≤ 247) : (partG gen ns i).length = 512 := by
  simp [partG, beB_length, numsF_length]
  omega
theorem partG_end (gen : Int) (ns : List Int) : partG gen ns ns.length = hdrF gen ns := by
  unfold partG hdrF
  rw [List.take_of_length_le (Nat.le_refl _)]
theorem set2_splice (xs : List Int) (o : Nat) (a b : Int) (h : o + 2 ≤ xs.length) : (xs.set o a).set (o + 1) b = Go.splice xs o [a, b] := by
  rw [List.set_comm _ _ (by omega)]
  have h1 := splice_set xs [] (o + 1) b (by simp; omega)
  rw [splice_nil] at h1
  rw [h1]
  exact splice_set xs [b] o a (by simp; omega)
theorem beB2 (n : Int) : beB 2 n = [n / 256 % 256, n % 256] := by simp [beB]
theorem partG_step (gen : Int) (ns : List Int) (i : Nat) (h : i < ns.length) (hn : ns.length ≤ 247) : ((partG gen ns i).set (10 + 2 * i) (gb ns i / 256 % 256)).set (11 + 2 * i) (gb ns i % 256) = partG gen ns (i + 1) := by
  have hl := partG_length gen ns i (by omega) hn
  rw [show 11 + 2 * i = 10 + 2 * i + 1 from by omega, set2_splice _ _ _ _ (by omega), ← beB2]
  have e : 494 - 2 * i = 2 + (494 - 2 * (i + 1)) := by omega
  have h1 := splice_at (xs := partG gen ns i) (ys := beB 2 (gb ns i)) (o := 10 + 2 * i) (beB 8 gen ++ beB 2 ns.length ++ numsF (ns.take i)) (List.replicate (494 - 2 * i) 0 ++ beB 8 gen) (by unfold partG; simp only [List.append_assoc]) (by simp [beB_length, numsF_length]; omega)
  rw [h1, e, ← List.replicate_append_replicate]
  unfold partG
  rw [List.take_succ_eq_append_getElem h, numsF_snoc, show ns[i] = gb ns i from by simp [gb, List.getD, h], beB_length]
  simp [List.append_assoc]
theorem gb_app (a b : List Int) (j : Nat) : gb (a ++ b) j = if j < a.length then gb a j else gb b (j - a.length) := by
  unfold gb
  rw [List.getD_eq_getElem?_getD, List.getD_eq_getElem?_getD, List.getD_eq_getElem?_getD, List.getElem?_append]
  split <;> rfl
theorem gb_rep (n j : Nat) : gb (List.replicate n 0) j = 0 := by
  unfold gb
  rw [List.getD_eq_getElem?_getD]
  by_cases h : j < n
  · simp [h]
  · simp [h]
theorem list_gb {xs ys : List Int} (hl : xs.length = ys.length) (h : ∀ j, j < xs.length → gb xs j = gb ys j) : xs = ys := by
  refine List.ext_getElem hl fun j h1 h2 => ?_
  have := h j h1
  simpa [gb, List.getD, h1, h2] using this
theorem both_end (gen : Int) (ns : List Int) (hn : ns.length ≤ 247) {xs : List Int} (hl : xs.length = 512) (h : ∀ j, j < 512 → gb xs j = bothF gen 8 j) : (xs.set 8 ((ns.length : Int) / 256 % 256)).set 9 ((ns.length : Int) % 256) = partG gen ns 0 := by
  have e : xs = beB 8 gen ++ List.replicate 496 0 ++ beB 8 gen := by
    refine list_gb (by simp only [List.length_append, List.length_replicate, beB_length, hl]) fun j hj => ?_
    rw [hl] at hj
    rw [h j hj, gb_app, gb_app, gb_rep]
    simp only [List.length_append, beB_length, List.length_replicate]
    unfold bothF
    by_cases h1 : j < 8
    · rw [if_pos h1, if_pos (by omega), if_pos h1]
    · rw [if_neg h1]
      by_cases h2 : j < 504
      · rw [if_neg (by omega), if_pos (by omega), if_neg h1]
      · rw [if_pos (by omega), if_neg (by omega)]
  have h1 := splice_at (xs := xs) (ys := beB 2 ns.length) (o := 8) (beB 8 gen) (List.replicate 496 0 ++ beB 8 gen) (by rw [e, List.append_assoc]) (by simp [beB_length])
  rw [show (9 : Nat) = 8 + 1 from rfl, set2_splice _ _ _ _ (by omega), ← beB2, h1, show (496 : Nat) = 2 + 494 from rfl, ← List.replicate_append_replicate]
  unfold partG
  rw [List.append_assoc (List.replicate 2 0), beB_length, List.drop_left' List.length_replicate]
  simp only [List.append_assoc, List.take_zero, numsF, List.flatMap_nil, List.nil_append]
theorem gb_beB8 (gen : Int) : gb (beB 8 gen) 0 = gen / 72057594037927936 % 256 ∧ gb (beB 8 gen) 1 = gen / 281474976710656 % 256 ∧ gb (beB 8 gen) 2 = gen / 1099511627776 % 256 ∧ gb (beB 8 gen) 3 = gen / 4294967296 % 256 ∧ gb (beB 8 gen) 4 = gen / 16777216 % 256 ∧ gb (beB 8 gen) 5 = gen / 65536 % 256 ∧ gb (beB 8 gen) 6 = gen / 256 % 256 ∧ gb (beB 8 gen) 7 = gen % 256 := by
  have p : (256 : Int) ^ 7 = 72057594037927936 ∧ (256 : Int) ^ 6 = 281474976710656 ∧ (256 : Int) ^ 5 = 1099511627776 ∧ (256 : Int) ^ 4 = 4294967296 ∧ (256 : Int) ^ 3 = 16777216 ∧ (256 : Int) ^ 2 = 65536 ∧ (256 : Int) ^ 1 = 256 ∧ (256 : Int) ^ 0 = 1 := by decide
  obtain ⟨p7, p6, p5, p4, p3, p2, p1, p0⟩ := p
  rw [← p7, ← p6, ← p5, ← p4, ← p3, ← p2]
  refine ⟨rfl, rfl, rfl, rfl, rfl, rfl, ?_, ?_⟩
  · show gen / 256 ^ 1 % 256 = _
    rw [p1]
  · show gen / 256 ^ 0 % 256 = _
    rw [p0, Int.ediv_one]
theorem both_step (gen : Int) (i j : Nat) (hi : i < 8) {xs : List Int} (hl : xs.length = 512) (h : ∀ j, j < 512 → gb xs j = bothF gen i j) (hj : j < 512) : gb ((xs.set i (gb (beB 8 gen) i)).set (504 + i) (gb (beB 8 gen) i)) j = bothF gen (i + 1) j := by
  rw [gb_set3 _ _ _ _ (by rw [List.length_set]; omega), gb_set3 _ _ _ _ (by omega), h j hj]
  unfold bothF
  by_cases h1 : 504 + i = j
  · subst h1
    rw [if_pos rfl, if_neg (show ¬ 504 + i < i + 1 by omega), if_pos (show 504 ≤ 504 + i ∧ 504 + i < 504 + (i + 1) by omega), show 504 + i - 504 = i from by omega]
  · rw [if_neg h1]
    by_cases h2 : i = j
    · subst h2
      rw [if_pos rfl, if_pos (show i < i + 1 by omega)]
    · rw [if_neg h2]
      by_cases h3 : j < i
      · rw [if_pos h3, if_pos (show j < i + 1 by omega)]
      · rw [if_neg h3, if_neg (show ¬ j < i + 1 by omega)]
        by_cases h4 : 504 ≤ j ∧ j < 504 + i
        · rw [if_pos h4, if_pos (show 504 ≤ j ∧ j < 504 + (i + 1) by omega)]
        · rw [if_neg h4, if_neg (show ¬ (504 ≤ j ∧ j < 504 + (i + 1)) by omega)]
set_option maxRecDepth 100000 in
set_option maxHeartbeats 3000000 in
theorem xheader_is {w : World} {v : Value} {ns : List Int} (h : IRow w v ns) (gen : Int) (g0 : 0 ≤ gen) (g1 : gen < 18446744073709551616) (hn : ns.length ≤ 247) (hr : ∀ x ∈ ns, 0 ≤ x ∧ x < 65536) :
    Calls Try.prog 58 #[.int .u64 gen, v] w fun e w' => ∃ d, e = .returned (.tuple #[.slice (some ⟨d, 0, none⟩) 512 512, .int .i64 0]) ∧ w.heap.size ≤ d ∧ Blk w' d 5 (u8l (hdrF gen ns) ++ ([] : List Value)).toArray ∧ Only [] w w' := by
  obtain ⟨A, c, rfl, hA, hlc, hcm, hcl⟩ := h.form2
  obtain ⟨i0, hi, hz0, hz1, hz2⟩ := info_parts info_u8
  have hmk : ∀ u : World, (Instr.makeSlice 39 (.int .i64 512) (.int .i64 512)).run Try.prog u =
      .ok (.slice (some ⟨u.heap.size, 0, none⟩) 512 512) (u.alloc (.cells (madeCells #[.int .u8 0] 512) 5)) := fun u => by
    have h := run_make (P := Try.prog) u 39 5 i0 (.int .u8 0) Try.underlying39 hi hz0 .i64 .i64 512 512 (by omega) (Int.le_refl _) (by rw [hz2]; omega) (by omega)
    simpa [hz1, Value.cells] using h
  have HB0 := hide (show Blk (w.alloc (.cells (madeCells #[.int .u8 0] 512) 5)) w.heap.size 5 (u8l (List.replicate 512 0) ++ ([] : List Value)).toArray from by
    have e : madeCells #[.int .u8 0] 512 = (u8l (List.replicate 512 0) ++ ([] : List Value)).toArray := by
      apply Array.ext'
      rw [toList_madeCells_one]
      simp [u8l]
    rw [← e]; exact Blk.new _ _ _)
  have HO0 := hide ((Only.refl [] w).alloc (.cells (madeCells #[.int .u8 0] 512) 5))
  have HX0 := hide (show (List.replicate 512 (0 : Int)).length = 512 ∧ ∀ j, j < 512 → gb (List.replicate 512 (0 : Int)) j = bothF gen 0 j from ⟨List.length_replicate, fun j hj => by rw [gb_rep]; unfold bothF; rw [if_neg (by omega), if_neg (by omega)]⟩)
  generalize List.replicate 512 (0 : Int) = xs0 at HB0 HX0
  have HCL := hide hcl
  have HAN := hide hA
  have HR := hide hr
  have HG8 := hide (gb_beB8 gen)
  have hcm2 : c ≤ 9223372036854775807 := by unfold maxLen at hcm; omega
  clear h hcl hA hi hz0 hz1 hz2 hcm hr
  go_enter Try.func58, Try.ntmps58
  go_wp2
  clear hmk
  go_loopw [7] (fun iv wr => ∃ (i : Nat) (xs : List Int), i ≤ 8 ∧ iv = .int .i64 i ∧ Only [] w wr ∧ Blk wr w.heap.size 5 (u8l xs ++ ([] : List Value)).toArray ∧ xs.length = 512 ∧ ∀ j, j < 512 → gb xs j = bothF gen i j) (fun iv _ => 8 - (intOf iv).toNat)
  case atStart => exact ⟨0, xs0, Nat.zero_le _, rfl, HO0.out, HB0.out, HX0.out⟩
  case round =>
    obtain ⟨i, xs, hi, rfl, ho, hb, hxl, hx⟩ := hrel
    have HO := hide ho
    have HB := hide hb
    have HXL := hide hxl
    have HX := hide hx
    clear ho hb hxl hx HB0 HO0 HX0
    by_cases hlt : i < 8
    · have f1 := HB.out.frozen i
      have c1 := HB.out.cell i
      rw [u8l_get _ _ _ (by rw [HXL.out]; omega)] at c1
      have hs1 := HB.out.set_ i (.int .u8 (gb (beB 8 gen) i))
      rw [u8l_set _ _ _ _ (by rw [HXL.out]; omega)] at hs1
      have f2 := HB.out.frozen (504 + i)
      have c2 := HB.out.cell (504 + i)
      rw [u8l_get _ _ _ (by rw [HXL.out]; omega)] at c2
      have hs2 := hs1.set_ (504 + i) (.int .u8 (gb (beB 8 gen) i))
      rw [u8l_set _ _ _ _ (by rw [List.length_set, HXL.out]; omega)] at hs2
      have HS2 := hide hs2
      have HST := hide (fun j => both_step gen i j hlt HXL.out HX.out)
      clear hs1 hs2
      have hc : i = 0 ∨ i = 1 ∨ i = 2 ∨ i = 3 ∨ i = 4 ∨ i = 5 ∨ i = 6 ∨ i = 7 := by omega
      have HRL := hide (fun (wz : World) (ho : Only [w.heap.size] wr wz) (hb : Blk wz w.heap.size 5 (u8l ((xs.set i (gb (beB 8 gen) i)).set (504 + i) (gb (beB 8 gen) i)) ++ ([] : List Value)).toArray) => (show ∃ (k : Nat) (ys : List Int), k ≤ 8 ∧ (.int .i64 ((i : Int) + 1) : Value) = .int .i64 k ∧ Only [] w wz ∧ Blk wz w.heap.size 5 (u8l ys ++ ([] : List Value)).toArray ∧ ys.length = 512 ∧ ∀ j, j < 512 → gb ys j = bothF gen k j from
        ⟨i + 1, _, hlt, by go_num, HO.out.trans' ho (fun q hq hm => by simp at hm; omega), hb, by rw [List.length_set, List.length_set, HXL.out], fun j hj => HST.out j hj⟩))
      obtain ⟨y0, y1, y2, y3, y4, y5, y6, y7⟩ := HG8.out
      have y0' : gb (beB 8 gen) 0 = gen / 72057594037927936 := by rw [y0]; omega
      have HWZ := hide (fun (v : Value) => (show Only [w.heap.size] wr ((wr.setCell ⟨w.heap.size, i, none⟩ v).setCell ⟨w.heap.size, 504 + i, none⟩ v) from ((Only.refl [w.heap.size] wr).setCell (p := ⟨w.heap.size, i, none⟩) v (by simp)).setCell (p := ⟨w.heap.size, 504 + i, none⟩) v (by simp)))
      clear hi hlt HX HST y0
      rcases hc with rfl | rfl | rfl | rfl | rfl | rfl | rfl | rfl
      · rw [y0'] at HRL HS2
        clear y0' y1 y2 y3 y4 y5 y6 y7
        go_wp2
        exact ⟨HRL.out _ (HWZ.out _) HS2.out, by simp [intOf]⟩
      · rw [y1] at HRL HS2
        clear y0' y1 y2 y3 y4 y5 y6 y7
        go_wp2
        exact ⟨HRL.out _ (HWZ.out _) HS2.out, by simp [intOf]⟩
      · rw [y2] at HRL HS2
        clear y0' y1 y2 y3 y4 y5 y6 y7
        go_wp2
        exact ⟨HRL.out _ (HWZ.out _) HS2.out, by simp [intOf]⟩
      · rw [y3] at HRL HS2
        clear y0' y1 y2 y3 y4 y5 y6 y7
        go_wp2
        exact ⟨HRL.out _ (HWZ.out _) HS2.out, by simp [intOf]⟩
      · rw [y4] at HRL HS2
        clear y0' y1 y2 y3 y4 y5 y6 y7
        go_wp2
        exact ⟨HRL.out _ (HWZ.out _) HS2.out, by simp [intOf]⟩
      · rw [y5] at HRL HS2
        clear y0' y1 y2 y3 y4 y5 y6 y7
        go_wp2
        exact ⟨HRL.out _ (HWZ.out _) HS2.out, by simp [intOf]⟩
      · rw [y6] at HRL HS2
        clear y0' y1 y2 y3 y4 y5 y6 y7
        go_wp2
        exact ⟨HRL.out _ (HWZ.out _) HS2.out, by simp [intOf]⟩
      · rw [y7] at HRL HS2
        clear y0' y1 y2 y3 y4 y5 y6 y7
        go_wp2
        exact ⟨HRL.out _ (HWZ.out _) HS2.out, by simp [intOf]⟩
    · obtain rfl : i = 8 := by omega
      have HBE := hide (both_end gen ns hn HXL.out HX.out)
      have c8 := HB.out.cell 8
      rw [u8l_get _ _ _ (by rw [HXL.out]; decide)] at c8
      have f8 := HB.out.frozen 8
      have hs1 := HB.out.set_ 8 (.int .u8 ((ns.length : Int) / 256 % 256))
      rw [u8l_set _ _ _ _ (by rw [HXL.out]; decide)] at hs1
      have c9 := HB.out.cell 9
      rw [u8l_get _ _ _ (by rw [HXL.out]; decide)] at c9
      have f9 := HB.out.frozen 9
      have hs2 := hs1.set_ 9 (.int .u8 ((ns.length : Int) % 256))
      rw [u8l_set _ _ _ _ (by rw [List.length_set, HXL.out]; decide), HBE.out] at hs2
      rw [show (ns.length : Int) / 256 % 256 = 0 from by omega, show (ns.length : Int) % 256 = ns.length from by omega] at hs2
      have HO2 := hide (show Only [] w ((wr.setCell ⟨w.heap.size, 8, none⟩ (.int .u8 0)).setCell ⟨w.heap.size, 9, none⟩ (.int .u8 ns.length)) from (HO.out.setCell (p := ⟨w.heap.size, 8, none⟩) _ (fun h => absurd h (Nat.lt_irrefl _))).setCell (p := ⟨w.heap.size, 9, none⟩) _ (fun h => absurd h (Nat.lt_irrefl _)))
      have HS2 := hide hs2
      clear hs1 hs2 hi hlt HX HO HB
      have hn2 : (ns.length : Int) ≤ 247 := by omega
      have hn3 : (ns.length : Int) / 256 = 0 := by omega
      go_wp2
      clear c8 f8 c9 f9
      go_loopw [48, 8, 9] (fun iv _ _ wz => ∃ i : Nat, i ≤ ns.length ∧ iv = .int .i64 i ∧ Only [] w wz ∧ Blk wz w.heap.size 5 (u8l (partG gen ns i) ++ ([] : List Value)).toArray) (fun iv _ _ _ => ns.length - (intOf iv).toNat)
      case atStart => exact ⟨0, Nat.zero_le _, rfl, HO2.out, HS2.out⟩
      case round =>
        obtain ⟨i, hi, rfl, ho, hb⟩ := hrel
        have HO := hide ho
        have HB := hide hb
        clear ho hb
        by_cases hlt : i < ns.length
        · have hltI : (i : Int) < ns.length := by omega
          obtain ⟨ad, rfl⟩ : ∃ ad, A = some ad := by
            rcases A with _ | ad
            · have := (HAN.out rfl).1; omega
            · exact ⟨ad, rfl⟩
          obtain ⟨b, rfl, hbl, hcell⟩ := HCL.out ad rfl
          have ci := hcell i (.int .i64 (gb ns i)) (by simp [i64l, gb, List.getD, hlt])
          have hx := HR.out (gb ns i) (by simp only [gb, List.getD, List.getElem?_eq_getElem hlt, Option.getD_some]; exact List.getElem_mem hlt)
          have e1 : (10 + 2 * (i : Int)).toNat = 10 + 2 * i := by omega
          have e2 : (11 + 2 * (i : Int)).toNat = 11 + 2 * i := by omega
          have hpl := partG_length gen ns i hi hn
          have hq1 : gb ns i / 256 % 256 = gb ns i / 256 := by omega
          have hst := partG_step gen ns i hlt hn
          rw [hq1] at hst
          have hw1 := HB.out.set_ (10 + 2 * i) (.int .u8 (gb ns i / 256))
          rw [u8l_set _ _ _ _ (by omega)] at hw1
          have hw2 := hw1.set_ (11 + 2 * i) (.int .u8 (gb ns i % 256))
          rw [u8l_set _ _ _ _ (by rw [List.length_set]; omega), hst] at hw2
          have k1 := HB.out.cell (10 + 2 * i)
          rw [u8l_get _ _ _ (by omega)] at k1
          have k2 := HB.out.cell (11 + 2 * i)
          rw [u8l_get _ _ _ (by omega)] at k2
          have g1 := HB.out.frozen (10 + 2 * i)
          have g2 := HB.out.frozen (11 + 2 * i)
          have ci2 : wr.cell? ⟨b, i, none⟩ = some (.int .i64 (gb ns i)) := by rw [HO.out.cell hbl (by simp), ci]
          have HW2 := hide hw2
          have HO2 := hide (show Only [] w ((wr.setCell ⟨w.heap.size, 10 + 2 * i, none⟩ (.int .u8 (gb ns i / 256))).setCell ⟨w.heap.size, 11 + 2 * i, none⟩ (.int .u8 (gb ns i % 256))) from (HO.out.setCell (p := ⟨w.heap.size, 10 + 2 * i, none⟩) _ (fun h => absurd h (Nat.lt_irrefl _))).setCell (p := ⟨w.heap.size, 11 + 2 * i, none⟩) _ (fun h => absurd h (Nat.lt_irrefl _)))
          clear hcell ci hw1 hw2 hst hpl hq1
          generalize gb ns i = x at *
          generalize gb (partG gen ns i) (10 + 2 * i) = o1 at *
          generalize gb (partG gen ns i) (11 + 2 * i) = o2 at *
          go_wp2
          go_roundw
          case rel => (repeat apply Exists.intro); exact ⟨⟨i + 1, hlt, by go_num, HO2.out, HW2.out⟩, rfl⟩
          case measure => simp [intOf]; omega
        · obtain rfl : i = ns.length := by omega
          have HE := hide (partG_end gen ns)
          go_wp2
          go_ret2
          have hb := HB.out
          rw [HE.out] at hb
          exact ⟨w.heap.size, rfl, Nat.le_refl _, hb, HO.out⟩
end Go.Proofs.Ytpajdnjbeplneaa
