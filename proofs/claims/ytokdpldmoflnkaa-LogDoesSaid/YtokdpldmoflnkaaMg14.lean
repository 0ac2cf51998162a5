/-
  The document's own log (parapetref16): a header's bytes.
-/
import Derived.Test.YtokdpldmoflnkaaMg13
import Derived.Laws.IdiomStrings
import Derived.Lib.BufferRead
namespace Go.Proofs.Ytokdpldmoflnkaa
open Go.ChangeShapes Go.WideShapes Go.ChangeAt Go.RowKit
set_option linter.unusedVariables false
/-- The first i bytes of the generation, at both ends. -/
def bothF (gen : Int) (i j : Nat) : Int := if j < i then gb (beB 8 gen) j else if 504 ≤ j ∧ j < 504 + i then gb (beB 8 gen) (j - 504) else 0
def partG (gen : Int) (ns : List Int) (i : Nat) : List Int := beB 8 gen ++ beB 2 ns.length ++ numsF (ns.take i) ++ List.replicate (494 - 2 * i) 0 ++ beB 8 gen
theorem partG_length (gen : Int) (ns : List Int) (i : Nat) (h : i ≤ ns.length) (hn : ns.length ≤ 247) : (partG gen ns i).length = 512 := by
  simp [partG, beB_length, numsF_length]
  omega
theorem partG_end (gen : Int) (ns : List Int) : partG gen ns ns.length = hdrF gen ns := by
  unfold partG hdrF
  rw [List.take_of_length_le (Nat.le_refl _)]
theorem set2_splice (xs : List Int) (o : Nat) (a b : Int) (h : o + 2 ≤ xs.length) : (xs.set o a).set (o + 1) b = Go.splice xs o [a, b] := by
  rw [List.set_comm _ _ (by omega)]
  have h1 := splice_set xs [] (o + 1) b (by simp; omega)
  rw [splice_nil] at h1
  rw [h1]
  exact splice_set xs [b] o a (by simp; omega)
theorem beB2 (n : Int) : beB 2 n = [n / 256 % 256, n % 256] := by simp [beB]
theorem partG_step (gen : Int) (ns : List Int) (i : Nat) (h : i < ns.length) (hn : ns.length ≤ 247) : ((partG gen ns i).set (10 + 2 * i) (gb ns i / 256 % 256)).set (11 + 2 * i) (gb ns i % 256) = partG gen ns (i + 1) := by
  have hl := partG_length gen ns i (by omega) hn
  rw [show 11 + 2 * i = 10 + 2 * i + 1 from by omega, set2_splice _ _ _ _ (by omega), ← beB2]
  have e : 494 - 2 * i = 2 + (494 - 2 * (i + 1)) := by omega
  have h1 := splice_at (xs := partG gen ns i) (ys := beB 2 (gb ns i)) (o := 10 + 2 * i) (beB 8 gen ++ beB 2 ns.length ++ numsF (ns.take i)) (List.replicate (494 - 2 * i) 0 ++ beB 8 gen) (by unfold partG; simp only [List.append_assoc]) (by simp [beB_length, numsF_length]; omega)
  rw [h1, e, ← List.replicate_append_replicate]
  unfold partG
  rw [List.take_succ_eq_append_getElem h, numsF_snoc, show ns[i] = gb ns i from by simp [gb, List.getD, h], beB_length]
  simp [List.append_assoc]
theorem gb_app (a b : List Int) (j : Nat) : gb (a ++ b) j = if j < a.length then gb a j else gb b (j - a.length) := by
  unfold gb
  rw [List.getD_eq_getElem?_getD, List.getD_eq_getElem?_getD, List.getD_eq_getElem?_getD, List.getElem?_append]
  split <;> rfl
theorem gb_rep (n j : Nat) : gb (List.replicate n 0) j = 0 := by
  unfold gb
  rw [List.getD_eq_getElem?_getD]
  by_cases h : j < n
  · simp [h]
  · simp [h]
theorem list_gb {xs ys : List Int} (hl : xs.length = ys.length) (h : ∀ j, j < xs.length → gb xs j = gb ys j) : xs = ys := by
  refine List.ext_getElem hl fun j h1 h2 => ?_
  have := h j h1
  simpa [gb, List.getD, h1, h2] using this
theorem both_end (gen : Int) (ns : List Int) (hn : ns.length ≤ 247) {xs : List Int} (hl : xs.length = 512) (h : ∀ j, j < 512 → gb xs j = bothF gen 8 j) : (xs.set 8 ((ns.length : Int) / 256 % 256)).set 9 ((ns.length : Int) % 256) = partG gen ns 0 := by
  have e : xs = beB 8 gen ++ List.replicate 496 0 ++ beB 8 gen := by
    refine list_gb (by simp only [List.length_append, List.length_replicate, beB_length, hl]) fun j hj => ?_
    rw [hl] at hj
    rw [h j hj, gb_app, gb_app, gb_rep]
    simp only [List.length_append, beB_length, List.length_replicate]
    unfold bothF
    by_cases h1 : j < 8
    · rw [if_pos h1, if_pos (by omega), if_pos h1]
    · rw [if_neg h1]
      by_cases h2 : j < 504
      · rw [if_neg (by omega), if_pos (by omega), if_neg h1]
      · rw [if_pos (by omega), if_neg (by omega)]
  have h1 := splice_at (xs := xs) (ys := beB 2 ns.length) (o := 8) (beB 8 gen) (List.replicate 496 0 ++ beB 8 gen) (by rw [e, List.append_assoc]) (by simp [beB_length])
  rw [show (9 : Nat) = 8 + 1 from rfl, set2_splice _ _ _ _ (by omega), ← beB2, h1, show (496 : Nat) = 2 + 494 from rfl, ← List.replicate_append_replicate]
  unfold partG
  rw [List.append_assoc (List.replicate 2 0), beB_length, List.drop_left' List.length_replicate]
  simp only [List.append_assoc, List.take_zero, numsF, List.flatMap_nil, List.nil_append]
theorem gb_beB8 (gen : Int) : gb (beB 8 gen) 0 = gen / 72057594037927936 % 256 ∧ gb (beB 8 gen) 1 = gen / 281474976710656 % 256 ∧ gb (beB 8 gen) 2 = gen / 1099511627776 % 256 ∧ gb (beB 8 gen) 3 = gen / 4294967296 % 256 ∧ gb (beB 8 gen) 4 = gen / 16777216 % 256 ∧ gb (beB 8 gen) 5 = gen / 65536 % 256 ∧ gb (beB 8 gen) 6 = gen / 256 % 256 ∧ gb (beB 8 gen) 7 = gen % 256 := by
  have p : (256 : Int) ^ 7 = 72057594037927936 ∧ (256 : Int) ^ 6 = 281474976710656 ∧ (256 : Int) ^ 5 = 1099511627776 ∧ (256 : Int) ^ 4 = 4294967296 ∧ (256 : Int) ^ 3 = 16777216 ∧ (256 : Int) ^ 2 = 65536 ∧ (256 : Int) ^ 1 = 256 ∧ (256 : Int) ^ 0 = 1 := by decide
  obtain ⟨p7, p6, p5, p4, p3, p2, p1, p0⟩ := p
  rw [← p7, ← p6, ← p5, ← p4, ← p3, ← p2]
  refine ⟨rfl, rfl, rfl, rfl, rfl, rfl, ?_, ?_⟩
  · show gen / 256 ^ 1 % 256 = _
    rw [p1]
  · show gen / 256 ^ 0 % 256 = _
    rw [p0, Int.ediv_one]
theorem both_step (gen : Int) (i j : Nat) (hi : i < 8) {xs : List Int} (hl : xs.length = 512) (h : ∀ j, j < 512 → gb xs j = bothF gen i j) (hj : j < 512) : gb ((xs.set i (gb (beB 8 gen) i)).set (504 + i) (gb (beB 8 gen) i)) j = bothF gen (i + 1) j := by
  rw [gb_set3 _ _ _ _ (by rw [List.length_set]; omega), gb_set3 _ _ _ _ (by omega), h j hj]
  unfold bothF
  by_cases h1 : 504 + i = j
  · subst h1
    rw [if_pos rfl, if_neg (show ¬ 504 + i < i + 1 by omega), if_pos (show 504 ≤ 504 + i ∧ 504 + i < 504 + (i + 1) by omega), show 504 + i - 504 = i from by omega]
  · rw [if_neg h1]
    by_cases h2 : i = j
    · subst h2
      rw [if_pos rfl, if_pos (show i < i + 1 by omega)]
    · rw [if_neg h2]
      by_cases h3 : j < i
      · rw [if_pos h3, if_pos (show j < i + 1 by omega)]
      · rw [if_neg h3, if_neg (show ¬ j < i + 1 by omega)]
        by_cases h4 : 504 ≤ j ∧ j < 504 + i
        · rw [if_pos h4, if_pos (show 504 ≤ j ∧ j < 504 + (i + 1) by omega)]
        · rw [if_neg h4, if_neg (show ¬ (504 ≤ j ∧ j < 504 + (i + 1)) by omega)]
set_option maxRecDepth 100000 in
set_option maxHeartbeats 3000000 in
theorem xheader_is {w : World} {v : Value} {ns : List Int} (h : IRow w v ns) (gen : Int) (g0 : 0 ≤ gen) (g1 : gen < 18446744073709551616) (hn : ns.length ≤ 247) (hr : ∀ x ∈ ns, 0 ≤ x ∧ x < 65536) :
    Calls Try.prog 46 #[.int .u64 gen, v] w fun e w' => ∃ d, e = .returned (.tuple #[.slice (some ⟨d, 0, none⟩) 512 512, .int .i64 0]) ∧ w.heap.size ≤ d ∧ Blk w' d 5 (u8l (hdrF gen ns) ++ ([] : List Value)).toArray ∧ Only [] w w' := by
  obtain ⟨A, c, rfl, hA, hlc, hcm, hcl⟩ := h.form2
  obtain ⟨i0, hi, hz0, hz1, hz2⟩ := info_parts info_u8
  have hmk : ∀ u : World, (Instr.makeSlice 46 (.int .i64 512) (.int .i64 512)).run Try.prog u =
      .ok (.slice (some ⟨u.heap.size, 0, none⟩) 512 512) (u.alloc (.cells (madeCells #[.int .u8 0] 512) 5)) := fun u => by
    have h := run_make (P := Try.prog) u 46 5 i0 (.int .u8 0) Try.underlying46 hi hz0 .i64 .i64 512 512 (by omega) (Int.le_refl _) (by rw [hz2]; omega) (by omega)
    simpa [hz1, Value.cells] using h
  have HB0 := hide (show Blk (w.alloc (.cells (madeCells #[.int .u8 0] 512) 5)) w.heap.size 5 (u8l (List.replicate 512 0) ++ ([] : List Value)).toArray from by
    have e : madeCells #[.int .u8 0] 512 = (u8l (List.replicate 512 0) ++ ([] : List Value)).toArray := by
      apply Array.ext'
      rw [toList_madeCells_one]
      simp [u8l]
    rw [← e]; exact Blk.new _ _ _)
  have HO0 := hide ((Only.refl [] w).alloc (.cells (madeCells #[.int .u8 0] 512) 5))
  have HX0 := hide (show (List.replicate 512 (0 : Int)).length = 512 ∧ ∀ j, j < 512 → gb (List.replicate 512 (0 : Int)) j = bothF gen 0 j from ⟨List.length_replicate, fun j hj => by rw [gb_rep]; unfold bothF; rw [if_neg (by omega), if_neg (by omega)]⟩)
  generalize List.replicate 512 (0 : Int) = xs0 at HB0 HX0
  have HCL := hide hcl
  have HAN := hide hA
  have HR := hide hr
  have HG8 := hide (gb_beB8 gen)
  have hcm2 : c ≤ 9223372036854775807 := by unfold maxLen at hcm; omega
  clear h hcl hA hi hz0 hz1 hz2 hcm hr
  go_enter Try.func46, Try.ntmps46
  go_wp2
  clear hmk
  go_loopw [7] (fun iv wr => ∃ (i : Nat) (xs : List Int), i ≤ 8 ∧ iv = .int .i64 i ∧ Only [] w wr ∧ Blk wr w.heap.size 5 (u8l xs ++ ([] : List Value)).toArray ∧ xs.length = 512 ∧ ∀ j, j < 512 → gb xs j = bothF gen i j) (fun iv _ => 8 - (intOf iv).toNat)
  case atStart => exact ⟨0, xs0, Nat.zero_le _, rfl, HO0.out, HB0.out, HX0.out⟩
  case round =>
    obtain ⟨i, xs, hi, rfl, ho, hb, hxl, hx⟩ := hrel
    have HO := hide ho
    have HB := hide hb
    have HXL := hide hxl
    have HX := hide hx
    clear ho hb hxl hx HB0 HO0 HX0
    by_cases hlt : i < 8
    · have f1 := HB.out.frozen i
      have c1 := HB.out.cell i
      rw [u8l_get _ _ _ (by rw [HXL.out]; omega)] at c1
      have hs1 := HB.out.set_ i (.int .u8 (gb (beB 8 gen) i))
      rw [u8l_set _ _ _ _ (by rw [HXL.out]; omega)] at hs1
      have f2 := HB.out.frozen (504 + i)
      have c2 := HB.out.cell (504 + i)
      rw [u8l_get _ _ _ (by rw [HXL.out]; omega)] at c2
      have hs2 := hs1.set_ (504 + i) (.int .u8 (gb (beB 8 gen) i))
      rw [u8l_set _ _ _ _ (by rw [List.length_set, HXL.out]; omega)] at hs2
      have HS2 := hide hs2
      have HST := hide (fun j => both_step gen i j hlt HXL.out HX.out)
      clear hs1 hs2
      have hc : i = 0 ∨ i = 1 ∨ i = 2 ∨ i = 3 ∨ i = 4 ∨ i = 5 ∨ i = 6 ∨ i = 7 := by omega
      have HRL := hide (fun (wz : World) (ho : Only [w.heap.size] wr wz) (hb : Blk wz w.heap.size 5 (u8l ((xs.set i (gb (beB 8 gen) i)).set (504 + i) (gb (beB 8 gen) i)) ++ ([] : List Value)).toArray) => (show ∃ (k : Nat) (ys : List Int), k ≤ 8 ∧ (.int .i64 ((i : Int) + 1) : Value) = .int .i64 k ∧ Only [] w wz ∧ Blk wz w.heap.size 5 (u8l ys ++ ([] : List Value)).toArray ∧ ys.length = 512 ∧ ∀ j, j < 512 → gb ys j = bothF gen k j from
        ⟨i + 1, _, hlt, by go_num, HO.out.trans' ho (fun q hq hm => by simp at hm; omega), hb, by rw [List.length_set, List.length_set, HXL.out], fun j hj => HST.out j hj⟩))
      obtain ⟨y0, y1, y2, y3, y4, y5, y6, y7⟩ := HG8.out
      have y0' : gb (beB 8 gen) 0 = gen / 72057594037927936 := by rw [y0]; omega
      have HWZ := hide (fun (v : Value) => (show Only [w.heap.size] wr ((wr.setCell ⟨w.heap.size, i, none⟩ v).setCell ⟨w.heap.size, 504 + i, none⟩ v) from ((Only.refl [w.heap.size] wr).setCell (p := ⟨w.heap.size, i, none⟩) v (by simp)).setCell (p := ⟨w.heap.size, 504 + i, none⟩) v (by simp)))
      clear hi hlt HX HST y0
      rcases hc with rfl | rfl | rfl | rfl | rfl | rfl | rfl | rfl
      · rw [y0'] at HRL HS2
        clear y0' y1 y2 y3 y4 y5 y6 y7
        go_wp2
        exact ⟨HRL.out _ (HWZ.out _) HS2.out, by simp [intOf]⟩
      · rw [y1] at HRL HS2
        clear y0' y1 y2 y3 y4 y5 y6 y7
        go_wp2
        exact ⟨HRL.out _ (HWZ.out _) HS2.out, by simp [intOf]⟩
      · rw [y2] at HRL HS2
        clear y0' y1 y2 y3 y4 y5 y6 y7
        go_wp2
        exact ⟨HRL.out _ (HWZ.out _) HS2.out, by simp [intOf]⟩
      · rw [y3] at HRL HS2
        clear y0' y1 y2 y3 y4 y5 y6 y7
        go_wp2
        exact ⟨HRL.out _ (HWZ.out _) HS2.out, by simp [intOf]⟩
      · rw [y4] at HRL HS2
        clear y0' y1 y2 y3 y4 y5 y6 y7
        go_wp2
        exact ⟨HRL.out _ (HWZ.out _) HS2.out, by simp [intOf]⟩
      · rw [y5] at HRL HS2
        clear y0' y1 y2 y3 y4 y5 y6 y7
        go_wp2
        exact ⟨HRL.out _ (HWZ.out _) HS2.out, by simp [intOf]⟩
      · rw [y6] at HRL HS2
        clear y0' y1 y2 y3 y4 y5 y6 y7
        go_wp2
        exact ⟨HRL.out _ (HWZ.out _) HS2.out, by simp [intOf]⟩
      · rw [y7] at HRL HS2
        clear y0' y1 y2 y3 y4 y5 y6 y7
        go_wp2
        exact ⟨HRL.out _ (HWZ.out _) HS2.out, by simp [intOf]⟩
    · obtain rfl : i = 8 := by omega
      have HBE := hide (both_end gen ns hn HXL.out HX.out)
      have c8 := HB.out.cell 8
      rw [u8l_get _ _ _ (by rw [HXL.out]; decide)] at c8
      have f8 := HB.out.frozen 8
      have hs1 := HB.out.set_ 8 (.int .u8 ((ns.length : Int) / 256 % 256))
      rw [u8l_set _ _ _ _ (by rw [HXL.out]; decide)] at hs1
      have c9 := HB.out.cell 9
      rw [u8l_get _ _ _ (by rw [HXL.out]; decide)] at c9
      have f9 := HB.out.frozen 9
      have hs2 := hs1.set_ 9 (.int .u8 ((ns.length : Int) % 256))
      rw [u8l_set _ _ _ _ (by rw [List.length_set, HXL.out]; decide), HBE.out] at hs2
      rw [show (ns.length : Int) / 256 % 256 = 0 from by omega, show (ns.length : Int) % 256 = ns.length from by omega] at hs2
      have HO2 := hide (show Only [] w ((wr.setCell ⟨w.heap.size, 8, none⟩ (.int .u8 0)).setCell ⟨w.heap.size, 9, none⟩ (.int .u8 ns.length)) from (HO.out.setCell (p := ⟨w.heap.size, 8, none⟩) _ (fun h => absurd h (Nat.lt_irrefl _))).setCell (p := ⟨w.heap.size, 9, none⟩) _ (fun h => absurd h (Nat.lt_irrefl _)))
      have HS2 := hide hs2
      clear hs1 hs2 hi hlt HX HO HB
      have hn2 : (ns.length : Int) ≤ 247 := by omega
      have hn3 : (ns.length : Int) / 256 = 0 := by omega
      go_wp2
      clear c8 f8 c9 f9
      go_loopw [48, 8, 9] (fun iv _ _ wz => ∃ i : Nat, i ≤ ns.length ∧ iv = .int .i64 i ∧ Only [] w wz ∧ Blk wz w.heap.size 5 (u8l (partG gen ns i) ++ ([] : List Value)).toArray) (fun iv _ _ _ => ns.length - (intOf iv).toNat)
      case atStart => exact ⟨0, Nat.zero_le _, rfl, HO2.out, HS2.out⟩
      case round =>
        obtain ⟨i, hi, rfl, ho, hb⟩ := hrel
        have HO := hide ho
        have HB := hide hb
        clear ho hb
        by_cases hlt : i < ns.length
        · have hltI : (i : Int) < ns.length := by omega
          obtain ⟨ad, rfl⟩ : ∃ ad, A = some ad := by
            rcases A with _ | ad
            · have := (HAN.out rfl).1; omega
            · exact ⟨ad, rfl⟩
          obtain ⟨b, rfl, hbl, hcell⟩ := HCL.out ad rfl
          have ci := hcell i (.int .i64 (gb ns i)) (by simp [i64l, gb, List.getD, hlt])
          have hx := HR.out (gb ns i) (by simp only [gb, List.getD, List.getElem?_eq_getElem hlt, Option.getD_some]; exact List.getElem_mem hlt)
          have e1 : (10 + 2 * (i : Int)).toNat = 10 + 2 * i := by omega
          have e2 : (11 + 2 * (i : Int)).toNat = 11 + 2 * i := by omega
          have hpl := partG_length gen ns i hi hn
          have hq1 : gb ns i / 256 % 256 = gb ns i / 256 := by omega
          have hst := partG_step gen ns i hlt hn
          rw [hq1] at hst
          have hw1 := HB.out.set_ (10 + 2 * i) (.int .u8 (gb ns i / 256))
          rw [u8l_set _ _ _ _ (by omega)] at hw1
          have hw2 := hw1.set_ (11 + 2 * i) (.int .u8 (gb ns i % 256))
          rw [u8l_set _ _ _ _ (by rw [List.length_set]; omega), hst] at hw2
          have k1 := HB.out.cell (10 + 2 * i)
          rw [u8l_get _ _ _ (by omega)] at k1
          have k2 := HB.out.cell (11 + 2 * i)
          rw [u8l_get _ _ _ (by omega)] at k2
          have g1 := HB.out.frozen (10 + 2 * i)
          have g2 := HB.out.frozen (11 + 2 * i)
          have ci2 : wr.cell? ⟨b, i, none⟩ = some (.int .i64 (gb ns i)) := by rw [HO.out.cell hbl (by simp), ci]
          have HW2 := hide hw2
          have HO2 := hide (show Only [] w ((wr.setCell ⟨w.heap.size, 10 + 2 * i, none⟩ (.int .u8 (gb ns i / 256))).setCell ⟨w.heap.size, 11 + 2 * i, none⟩ (.int .u8 (gb ns i % 256))) from (HO.out.setCell (p := ⟨w.heap.size, 10 + 2 * i, none⟩) _ (fun h => absurd h (Nat.lt_irrefl _))).setCell (p := ⟨w.heap.size, 11 + 2 * i, none⟩) _ (fun h => absurd h (Nat.lt_irrefl _)))
          clear hcell ci hw1 hw2 hst hpl hq1
          generalize gb ns i = x at *
          generalize gb (partG gen ns i) (10 + 2 * i) = o1 at *
          generalize gb (partG gen ns i) (11 + 2 * i) = o2 at *
          go_wp2
          go_roundw
          case rel => (repeat apply Exists.intro); exact ⟨⟨i + 1, hlt, by go_num, HO2.out, HW2.out⟩, rfl⟩
          case measure => simp [intOf]; omega
        · obtain rfl : i = ns.length := by omega
          have HE := hide (partG_end gen ns)
          go_wp2
          go_ret2
          have hb := HB.out
          rw [HE.out] at hb
          exact ⟨w.heap.size, rfl, Nat.le_refl _, hb, HO.out⟩
end Go.Proofs.Ytokdpldmoflnkaa
/-
  What the calls of the document's own disk (parapetref02) come to: Off, Pending, Load; strings of bytes.
-/
namespace Go.Proofs.Ytokdpldmoflnkaa
open Go.ChangeShapes Go.WideShapes Go.ChangeAt Go.RowKit
set_option linter.unusedVariables false

/-- A slice of sectors reads as a list of writes. -/
def Secs (w : World) (A : Option Addr) (ws : List (Nat × List Int)) : Prop :=
  0 < ws.length → ∃ b, A = some ⟨b, 0, none⟩ ∧ b < w.heap.size ∧ ∀ (i : Nat) (x : Nat × List Int), ws[i]? = some x → ∃ d o c, w.cell? ⟨b, i * 2, none⟩ = some (.int .i64 x.1) ∧ w.cell? ⟨b, i * 2 + 1, none⟩ = some (.slice (some ⟨d, o, none⟩) 512 c) ∧ Sees w (some ⟨d, o, none⟩) 512 x.2

structure IsRef2 (w : World) (g pb pc : Nat) (pr : List Value) (A : Option Addr) (cap : Nat) (N : Nat) (plat : List Int) (ws : List (Nat × List Int)) (left : Int) (stops : Bool) (rd wt fl : Int) : Prop where
  str : Blk w g 74 #[.int .i64 N, .slice (some ⟨pb, 0, none⟩) (512 * N) pc, .slice A ws.length cap, .int .i64 left, .bool stops, .int .i64 rd, .int .i64 wt, .int .i64 fl]
  row : Blk w pb 5 (u8l plat ++ pr).toArray
  len : plat.length = 512 * N
  cap : 512 * N + pr.length = pc
  pos : 1 ≤ N
  big : N ≤ 4096
  u8 : U8 plat
  secs : Secs w A ws
  few : ws.length ≤ 4398046511000

section
variable {w w' : World} {g pb pc : Nat} {pr : List Value} {A : Option Addr} {cap N : Nat} {plat : List Int} {ws : List (Nat × List Int)} {left : Int} {stops : Bool} {rd wt fl : Int}
theorem IsRef2.c0 (h : IsRef2 w g pb pc pr A cap N plat ws left stops rd wt fl) : w.cell? ⟨g, 0, none⟩ = some (.int .i64 N) := by rw [h.str.cell]; rfl
theorem IsRef2.c1 (h : IsRef2 w g pb pc pr A cap N plat ws left stops rd wt fl) : w.cell? ⟨g, 1, none⟩ = some (.slice (some ⟨pb, 0, none⟩) (512 * N) pc) := by rw [h.str.cell]; rfl
theorem IsRef2.c2 (h : IsRef2 w g pb pc pr A cap N plat ws left stops rd wt fl) : w.cell? ⟨g, 2, none⟩ = some (.slice A ws.length cap) := by rw [h.str.cell]; rfl
theorem IsRef2.c3 (h : IsRef2 w g pb pc pr A cap N plat ws left stops rd wt fl) : w.cell? ⟨g, 3, none⟩ = some (.int .i64 left) := by rw [h.str.cell]; rfl
theorem IsRef2.c4 (h : IsRef2 w g pb pc pr A cap N plat ws left stops rd wt fl) : w.cell? ⟨g, 4, none⟩ = some (.bool stops) := by rw [h.str.cell]; rfl
theorem IsRef2.c5 (h : IsRef2 w g pb pc pr A cap N plat ws left stops rd wt fl) : w.cell? ⟨g, 5, none⟩ = some (.int .i64 rd) := by rw [h.str.cell]; rfl
theorem IsRef2.c6 (h : IsRef2 w g pb pc pr A cap N plat ws left stops rd wt fl) : w.cell? ⟨g, 6, none⟩ = some (.int .i64 wt) := by rw [h.str.cell]; rfl
theorem IsRef2.c7 (h : IsRef2 w g pb pc pr A cap N plat ws left stops rd wt fl) : w.cell? ⟨g, 7, none⟩ = some (.int .i64 fl) := by rw [h.str.cell]; rfl

/-- Nothing that was there has turned but for new blocks: it is still that disk. -/
theorem IsRef2.keep (h : IsRef2 w g pb pc pr A cap N plat ws left stops rd wt fl) (ho : Only [] w w') : IsRef2 w' g pb pc pr A cap N plat ws left stops rd wt fl :=
  ⟨h.str.only ho (by simp), h.row.only ho (by simp), h.len, h.cap, h.pos, h.big, h.u8, fun hp => by
    obtain ⟨b, hA, hb, hc⟩ := h.secs hp
    refine ⟨b, hA, Nat.lt_of_lt_of_le hb ho.size, fun i x hx => ?_⟩
    obtain ⟨d, o, c, h1, h2, h3⟩ := hc i x hx
    exact ⟨d, o, c, (ho.cell hb (by simp)).trans h1, (ho.cell hb (by simp)).trans h2, h3.only ho (by simp)⟩, h.few⟩

theorem roff_is (h : IsRef2 w g pb pc pr A cap N plat ws left stops rd wt fl) : Calls Try.prog 79 #[.pointer (some ⟨g, 0, none⟩)] w fun e w' => e = .returned (.bool (stops && decide (left = 0))) ∧ Only [] w w' := by
  have h3 := h.c3
  have h4 := h.c4
  clear h
  cases stops
  · go_enter Try.func79, Try.ntmps79
    go_wp2
    go_ret
    exact ⟨rfl, by repeat (first | exact Only.refl _ _ | apply Only.drew)⟩
  · by_cases h0 : left = 0
    · subst h0
      go_enter Try.func79, Try.ntmps79
      go_wp2
      go_ret
      exact ⟨rfl, by repeat (first | exact Only.refl _ _ | apply Only.drew)⟩
    · have HD := hide (decide_eq_false h0)
      have HB := beq_eq_false_iff_ne.2 h0
      clear h0
      go_enter Try.func79, Try.ntmps79
      go_wp2
      go_ret
      exact ⟨by rw [HD.out]; rfl, by repeat (first | exact Only.refl _ _ | apply Only.drew)⟩
end

section
variable {w w' : World} {g pb pc : Nat} {pr : List Value} {A : Option Addr} {cap N : Nat} {plat : List Int} {ws : List (Nat × List Int)} {left : Int} {stops : Bool} {rd wt fl : Int}

def RPendRel (w : World) (ws : List (Nat × List Int)) (i out : Value) (wr : World) : Prop :=
  ∃ k : Nat, k ≤ ws.length ∧ i = .int .i64 k ∧ Only [] w wr ∧ PendRow wr w.heap.size out ((ws.take k).map fun x => (x.1 : Int))

set_option maxRecDepth 100000 in
theorem rpending_is (h : IsRef2 w g pb pc pr A cap N plat ws left stops rd wt fl) : Calls Try.prog 38 #[.pointer (some ⟨g, 0, none⟩)] w fun e w' => ∃ v, e = .returned v ∧ PendRow w' w.heap.size v (ws.map fun x => (x.1 : Int)) ∧ Only [] w w' := by
  have h2 := h.c2
  have hfew := h.few
  have HD := hide h
  obtain ⟨i0, hi, hz0, hz1, hz2⟩ := info_parts info_intD
  clear h
  go_enter Try.func38, Try.ntmps38
  go_wp2
  clear h2
  go_loopw [3, 11] (fun out i wr => RPendRel w ws i out wr) (fun _ i _ => ws.length - (intOf i).toNat)
  case atStart => exact ⟨0, Nat.zero_le _, rfl, Only.refl _ _, by simp, .inl ⟨rfl, by simp⟩⟩
  case round =>
    obtain ⟨k, hk, rfl, ho, hrow⟩ := hrel
    have HO := hide ho
    have HR := hide hrow
    by_cases hlt : k < ws.length
    · obtain ⟨b, rfl, hbl, hcs⟩ := HD.out.secs (by omega)
      obtain ⟨x, hx⟩ : ∃ x, ws[k]? = some x := ⟨_, List.getElem?_eq_getElem hlt⟩
      obtain ⟨d, o, c, s0, s1, _⟩ := hcs k x hx
      have e0 := (ho.cell hbl (by simp)).trans s0
      have e1 := (ho.cell hbl (by simp)).trans s1
      have HX := hide hx
      have HOW := hide (fun (o1 o2 : Obj) => show PendRow ((wr.alloc o1).alloc o2) w.heap.size u3 ((ws.take k).map fun x => (x.1 : Int)) from ownsRow_only hrow (((Only.refl [] wr).alloc o1).alloc o2) (by simp))
      have HNK := hide (show ((ws.take k).map fun x => (x.1 : Int)).length = k by simp; omega)
      have HSZ := hide (show ∀ o1 o2 : Obj, w.heap.size ≤ ((wr.alloc o1).alloc o2).heap.size from fun o1 o2 => Nat.le_trans ho.size (by simp; omega))
      clear hcs s0 s1 hx hrow ho
      go_wp2_with (at_builtin; refine wpList_append_own _ rfl _ _ 66 rfl w.heap.size 3 i0 _ 1 8 Try.underlying66 hi hz0 hz1 hz2 rfl (by decide) _ _ _ rfl (HOW.out _ _) ⟨_, 0, none⟩ 1 1 [.int .i64 x.1] rfl rfl ?qc2 ?qc3 ?qc4 ?qc5 (HSZ.out _ _) ?_)
      case qc2 =>
        intro j u hj
        have h0 : j = 0 := by
          have := (List.getElem?_eq_some_iff.1 hj).1
          simp at this
          exact this
        subst h0
        rw [add_at]
        have hb := Blk.new (wr.alloc (.cells #[.int .i64 x.1, .slice (some ⟨d, o, none⟩) 512 c] 109)) 3 #[.int .i64 x.1]
        rw [show (wr.alloc (.cells #[.int .i64 x.1, .slice (some ⟨d, o, none⟩) 512 c] 109)).heap.size = wr.heap.size + 1 by simp] at hb
        rw [hb.cell]
        exact hj
      case qc3 =>
        intro u hu
        obtain rfl := List.mem_singleton.1 hu
        rfl
      case qc4 => rw [HNK.out]; unfold maxLen; omega
      case qc5 => rw [HNK.out]; omega
      intro v' w1 hown1 hgrow hnil
      have HO1 := hide (show Only [] w w1 from ((HO.out.alloc _).alloc _).trans' (only_grown hgrow) (fun q hq hm => by
        have hm' : u3.ownBlock = some q := by simpa using hm
        rcases HR.out.2 with ⟨e, _⟩ | ⟨q', cp, cur, e, hB, _⟩
        · rw [e] at hm'; simp [Value.ownBlock] at hm'
        · rw [e] at hm'
          simp only [Value.ownBlock, Option.some.injEq] at hm'
          omega))
      have HR1 := hide (show PendRow w1 w.heap.size v' ((ws.take (k + 1)).map fun x => (x.1 : Int)) from by
        have e : (ws.take (k + 1)).map (fun x => (x.1 : Int)) = ((ws.take k).map fun x => (x.1 : Int)) ++ [(x.1 : Int)] := by
          rw [List.take_succ_eq_append_getElem hlt]
          have := (List.getElem?_eq_some_iff.1 HX.out).2
          simp [this]
        unfold PendRow
        rw [e, List.length_append, List.length_singleton, HNK.out]
        simpa [List.map_take] using hown1)
      clear hown1 hgrow hnil
      go_wp2
      go_roundw
      case rel => exact ⟨k + 1, hlt, by go_num, HO1.out, HR1.out⟩
      case measure => simp [intOf]; omega
    · obtain rfl : k = ws.length := by omega
      have HR1 := hide (show PendRow wr w.heap.size u3 (ws.map fun x => (x.1 : Int)) from by
        have := hrow
        rw [List.take_length] at this
        exact this)
      clear hrow ho HR
      go_wp2
      go_ret
      exact ⟨_, rfl, HR1.out, HO.out⟩
end
/-- What makes a reference disk. -/
def Made2 (w w' : World) (e : Ending) (N : Nat) (plat : List Int) : Prop :=
  ∃ g pb pc pr, e = .returned (.tuple #[.pointer (some ⟨g, 0, none⟩), .int .i64 0]) ∧ w.heap.size ≤ g ∧ w.heap.size ≤ pb ∧ Only [] w w' ∧ IsRef2 w' g pb pc pr none 0 N plat [] 0 false 0 0 0
end Go.Proofs.Ytokdpldmoflnkaa
/-
  The document's own disk (parapetref02): where it lies; New, does, Stop, Sector, Read, Write.
-/
namespace Go.Proofs.Ytokdpldmoflnkaa
open Go.ChangeShapes Go.WideShapes Go.ChangeAt Go.RowKit
set_option linter.unusedVariables false

structure IsR2 (w : World) (g pb pc : Nat) (pr : List Value) (pv : Value) (N : Nat) (plat : List Int) (ws : List WR) (left : Int) (stops : Bool) (rd wt fl : Int) : Prop where
  str : Blk w g 74 #[.int .i64 N, .slice (some ⟨pb, 0, none⟩) (512 * N) pc, pv, .int .i64 left, .bool stops, .int .i64 rd, .int .i64 wt, .int .i64 fl]
  row : Blk w pb 5 (u8l plat ++ pr).toArray
  len : plat.length = 512 * N
  cap : 512 * N + pr.length = pc
  pos : 1 ≤ N
  big : N ≤ 4096
  u8 : U8 plat
  own : w.ownsRow 0 109 2 pv ws.length (ws.flatMap WR.cells)
  wok : ∀ x ∈ ws, x.ok w N
  far : ∀ x ∈ ws, x.blk ≠ pb
  few : ws.length ≤ 4398046511000
theorem info_sec : (Try.prog.info? 109).map (fun i => (i.zero, i.size, i.bytes)) = some (some (.agg #[.int .i64 0, .slice none 0 0]), 2, 32) := by kernel_rfl
section
variable {w w' : World} {g pb pc : Nat} {pr : List Value} {pv : Value} {N : Nat} {plat : List Int} {ws : List WR} {left : Int} {stops : Bool} {rd wt fl : Int} {S : List Nat}
theorem IsR2.c0 (h : IsR2 w g pb pc pr pv N plat ws left stops rd wt fl) : w.cell? ⟨g, 0, none⟩ = some (.int .i64 N) := h.str.cell 0
theorem IsR2.c1 (h : IsR2 w g pb pc pr pv N plat ws left stops rd wt fl) : w.cell? ⟨g, 1, none⟩ = some (.slice (some ⟨pb, 0, none⟩) (512 * N) pc) := h.str.cell 1
theorem IsR2.c2 (h : IsR2 w g pb pc pr pv N plat ws left stops rd wt fl) : w.cell? ⟨g, 2, none⟩ = some pv := h.str.cell 2
theorem IsR2.c3 (h : IsR2 w g pb pc pr pv N plat ws left stops rd wt fl) : w.cell? ⟨g, 3, none⟩ = some (.int .i64 left) := h.str.cell 3
theorem IsR2.c4 (h : IsR2 w g pb pc pr pv N plat ws left stops rd wt fl) : w.cell? ⟨g, 4, none⟩ = some (.bool stops) := h.str.cell 4
theorem IsR2.c5 (h : IsR2 w g pb pc pr pv N plat ws left stops rd wt fl) : w.cell? ⟨g, 5, none⟩ = some (.int .i64 rd) := h.str.cell 5
theorem IsR2.c6 (h : IsR2 w g pb pc pr pv N plat ws left stops rd wt fl) : w.cell? ⟨g, 6, none⟩ = some (.int .i64 wt) := h.str.cell 6
theorem IsR2.c7 (h : IsR2 w g pb pc pr pv N plat ws left stops rd wt fl) : w.cell? ⟨g, 7, none⟩ = some (.int .i64 fl) := h.str.cell 7
theorem IsR2.fr (h : IsR2 w g pb pc pr pv N plat ws left stops rd wt fl) (o : Nat) : w.frozen? ⟨g, o, none⟩ = false := h.str.frozen o
/-- The row of pending writes is of another kind than a block known whole. -/
theorem sec_apart {n : Nat} {xs : List Value} {v : Value} (h : w.ownsRow 0 109 2 v n xs) {q : Nat} {t : TypeId} {cs : Array Value} (hb : Blk w q t cs) (ht : t ≠ 109) : ∀ k, v.ownBlock = some k → k ≠ q := by
  intro k hk e
  subst e
  rcases h.2 with ⟨e, _⟩ | ⟨b, cap, cur, e, _, hg, _⟩
  · rw [e] at hk; simp [Value.ownBlock] at hk
  · rw [e] at hk
    simp only [Value.ownBlock, Option.some.injEq] at hk
    subst hk
    exact Blk.ne_ (t := 109) hg hb (Ne.symm ht) rfl
theorem IsR2.gp (h : IsR2 w g pb pc pr pv N plat ws left stops rd wt fl) : g ≠ pb := h.str.ne_ h.row (by decide)
theorem IsR2.only (h : IsR2 w g pb pc pr pv N plat ws left stops rd wt fl) (ho : Only S w w') (hg : g ∉ S) (hp : pb ∉ S) (hv : ∀ k, pv.ownBlock = some k → k ∉ S) (hx : ∀ x ∈ ws, x.blk ∉ S) : IsR2 w' g pb pc pr pv N plat ws left stops rd wt fl :=
  ⟨h.str.only ho hg, h.row.only ho hp, h.len, h.cap, h.pos, h.big, h.u8, ownsRow_only h.own ho hv, fun x hx' => (h.wok x hx').only ho (hx x hx'), h.far, h.few⟩
theorem IsR2.quiet (h : IsR2 w g pb pc pr pv N plat ws left stops rd wt fl) (ho : Only [] w w') : IsR2 w' g pb pc pr pv N plat ws left stops rd wt fl := h.only ho (by simp) (by simp) (by simp) (by simp)
/-- Only the struct has turned. -/
theorem IsR2.restr (h : IsR2 w g pb pc pr pv N plat ws left stops rd wt fl) {left' : Int} {stops' : Bool} {rd' wt' fl' : Int} (ho : Only [g] w w')
    (hs : Blk w' g 74 #[.int .i64 N, .slice (some ⟨pb, 0, none⟩) (512 * N) pc, pv, .int .i64 left', .bool stops', .int .i64 rd', .int .i64 wt', .int .i64 fl']) : IsR2 w' g pb pc pr pv N plat ws left' stops' rd' wt' fl' :=
  ⟨hs, h.row.only ho (by simpa using h.gp.symm), h.len, h.cap, h.pos, h.big, h.u8, ownsRow_only h.own ho (fun k hk e => sec_apart h.own h.str (by decide) k hk (by simpa using e)), fun x hx => (h.wok x hx).only ho (by simpa using ((h.wok x hx).row.ne_ h.str (by decide))), h.far, h.few⟩
/-- The platter turned. -/
theorem IsR2.replat (h : IsR2 w g pb pc pr pv N plat ws left stops rd wt fl) {plat' : List Int} (ho : Only [pb] w w') (hr : Blk w' pb 5 (u8l plat' ++ pr).toArray) (hl : plat'.length = 512 * N) (hu : U8 plat') : IsR2 w' g pb pc pr pv N plat' ws left stops rd wt fl :=
  ⟨h.str.only ho (by simpa using h.gp), hr, hl, h.cap, h.pos, h.big, hu, ownsRow_only h.own ho (fun k hk e => sec_apart h.own h.row (by decide) k hk (by simpa using e)), fun x hx => (h.wok x hx).only ho (by simpa using h.far x hx), h.far, h.few⟩
theorem sec_form (h : w.ownsRow 0 109 2 pv ws.length (ws.flatMap WR.cells)) : ∃ A cap, pv = .slice A ws.length cap ∧ (A = none → ws.length = 0 ∧ cap = 0) ∧ (∀ b, A = some b → ∃ q, b = ⟨q, 0, none⟩ ∧ q < w.heap.size ∧ pv.ownBlock = some q ∧ (∀ j u, (ws.flatMap WR.cells)[j]? = some u → w.cell? ⟨q, j, none⟩ = some u) ∧ ∀ (i : Nat) (x : WR), ws[i]? = some x →
    w.cell? ⟨q, i * 2, none⟩ = some (.int .i64 x.sec) ∧ w.cell? ⟨q, i * 2 + 1, none⟩ = some (.slice (some ⟨x.blk, 0, none⟩) 512 (512 + x.rest.length))) := by
  rcases h.2 with ⟨e, h0⟩ | ⟨b, cap, cur, e, _, hg, hn, hm, hs, ht⟩
  · exact ⟨none, 0, by rw [e, h0], fun _ => ⟨h0, rfl⟩, fun b hb => by cases hb⟩
  · have hc : ∀ j, j < ws.length * 2 → w.cell? ⟨b, j, none⟩ = (ws.flatMap WR.cells)[j]? := fun j hj => by
      rw [Blk.cell (t := 109) hg, ← ht, List.getElem?_take]
      simp [hj]
    refine ⟨some ⟨b, 0, none⟩, cap, e, fun h => (by cases h), fun q hq => ⟨b, (by injection hq with hq; exact hq.symm), Blk.lt (t := 109) hg, by rw [e]; rfl, fun j u hu => ?_, fun i x hx => ?_⟩⟩
    · have hj := (List.getElem?_eq_some_iff.1 hu).1
      rw [h.1] at hj
      rw [hc j hj]
      exact hu
    · obtain ⟨h1, h2⟩ := flat_cell hx
      have hil : i < ws.length := (List.getElem?_eq_some_iff.1 hx).1
      exact ⟨(hc _ (by omega)).trans h1, (hc _ (by omega)).trans h2⟩
/-- It is what the law's looks wants. -/
theorem IsR2.ref2 (h : IsR2 w g pb pc pr pv N plat ws left stops rd wt fl) : ∃ A cap, IsRef2 w g pb pc pr A cap N plat (ofW ws) left stops rd wt fl := by
  obtain ⟨A, cap, rfl, hA, hA2⟩ := sec_form h.own
  have hl := ofW_length ws
  refine ⟨A, cap, by rw [hl]; exact h.str, h.row, h.len, h.cap, h.pos, h.big, h.u8, fun hp => ?_, by rw [hl]; exact h.few⟩
  rcases A with _ | b
  · have := (hA rfl).1; omega
  · obtain ⟨q, rfl, hq, _, _, hc⟩ := hA2 b rfl
    refine ⟨q, rfl, hq, fun i x hx => ?_⟩
    unfold ofW at hx
    rw [List.getElem?_map] at hx
    obtain ⟨y, hy, rfl⟩ := Option.map_eq_some_iff.1 hx
    obtain ⟨h1, h2⟩ := hc i y hy
    have ho := h.wok y (List.mem_of_getElem? hy)
    exact ⟨y.blk, 0, _, h1, h2, ho.len, fun _ => ⟨y.blk, 0, rfl, ho.row.lt, fun j hj => by rw [Nat.zero_add, ho.row.cell]; exact u8l_get _ _ j (by rw [ho.len]; exact hj)⟩⟩
end

theorem rnew_bad (n : Int) (w : World) (h : n < 1 ∨ 4096 < n) : Calls Try.prog 8 #[.int .i64 n] w fun e w' => e = .returned (.tuple #[.pointer none, .int .i64 1]) ∧ w = w' := by
  by_cases h0 : n < 1
  · clear h
    go_enter Try.func8, Try.ntmps8
    go_wp2
    go_ret2
    exact ⟨rfl, rfl⟩
  · have h1 : 4096 < n := by omega
    clear h
    go_enter Try.func8, Try.ntmps8
    go_wp2
    go_ret2
    exact ⟨rfl, rfl⟩

set_option maxRecDepth 100000 in
theorem rnew_ok (n : Int) (w : World) (h1 : 1 ≤ n) (h2 : n ≤ 4096) : Calls Try.prog 8 #[.int .i64 n] w fun e w' => ∃ g pb, e = .returned (.tuple #[.pointer (some ⟨g, 0, none⟩), .int .i64 0]) ∧ w.heap.size ≤ g ∧ w.heap.size ≤ pb ∧ Only [] w w' ∧ IsR2 w' g pb (512 * n.toNat) [] (.slice none 0 0) n.toNat (List.replicate (512 * n.toNat) 0) [] 0 false 0 0 0 := by
  obtain ⟨i0, hi, hz0, hz1, hz2⟩ := info_parts info_u8
  have hmk : ∀ u : World, (Instr.makeSlice 46 (.int .i64 (512 * n)) (.int .i64 (512 * n))).run Try.prog u =
      .ok (.slice (some ⟨u.heap.size, 0, none⟩) (512 * n.toNat) (512 * n.toNat)) (u.alloc (.cells (madeCells #[.int .u8 0] (512 * n.toNat)) 5)) := fun u => by
    have h := run_make (P := Try.prog) u 46 5 i0 (.int .u8 0) Try.underlying46 hi hz0 .i64 .i64 (512 * n) (512 * n) (by omega) (Int.le_refl _) (by rw [hz2]; omega) (by omega)
    have e : (512 * n).toNat = 512 * n.toNat := by omega
    rw [e] at h
    simpa [hz1, Value.cells] using h
  clear hi hz0 hz1 hz2
  have HN := hide (show ((n.toNat : Nat) : Int) = n by omega)
  go_enter Try.func8, Try.ntmps8
  go_wp2
  clear hmk
  go_ret2
  have hb := Blk.new w 5 (madeCells #[.int .u8 0] (512 * n.toNat))
  rw [made_u8l] at hb ⊢
  have hs := Blk.new (w.alloc (.cells (u8l (List.replicate (512 * n.toNat) 0) ++ ([] : List Value)).toArray 5)) 74 #[.int .i64 n, .slice (some ⟨w.heap.size, 0, none⟩) (512 * n.toNat) (512 * n.toNat), .slice none 0 0, .int .i64 0, .bool false, .int .i64 0, .int .i64 0, .int .i64 0]
  rw [show (w.alloc (.cells (u8l (List.replicate (512 * n.toNat) 0) ++ ([] : List Value)).toArray 5)).heap.size = w.heap.size + 1 by simp] at hs
  refine ⟨w.heap.size + 1, w.heap.size, rfl, by omega, Nat.le_refl _, ((Only.refl _ _).alloc _).alloc _, ⟨by rw [HN.out]; exact hs, hb.alloc _, by simp, by simp, by omega, by omega, U8.replicate _, ⟨by simp, .inl ⟨rfl, by simp⟩⟩, by simp, by simp, by simp⟩⟩

section
variable {w : World} {g pb pc : Nat} {pr : List Value} {pv : Value} {N : Nat} {plat : List Int} {ws : List WR} {left : Int} {stops : Bool} {rd wt fl : Int} (h : IsR2 w g pb pc pr pv N plat ws left stops rd wt fl)
include h

theorem r2off_is : Calls Try.prog 79 #[.pointer (some ⟨g, 0, none⟩)] w fun e w' => e = .returned (.bool (stops && decide (left = 0))) ∧ Only [] w w' := by
  obtain ⟨A, cap, h2⟩ := h.ref2
  exact roff_is h2

/-- Without power nothing is done. -/
theorem rdoes_off (h1 : stops = true) (h2 : left = 0) : Calls Try.prog 66 #[.pointer (some ⟨g, 0, none⟩)] w fun e w' => e = .returned (.bool false) ∧ Only [] w w' := by
  have HO := hide (r2off_is h)
  subst h1 h2
  clear h
  go_enter Try.func66, Try.ntmps66
  go_wp2_with (go_at_call 79; refine HO.out.mono ?_; rintro e w' ⟨rfl, ho⟩; have HW := hide ho; clear ho)
  go_ret
  exact ⟨rfl, HW.out⟩

theorem rdoes_free (h1 : stops = false) : Calls Try.prog 66 #[.pointer (some ⟨g, 0, none⟩)] w fun e w' => e = .returned (.bool true) ∧ Only [] w w' := by
  have HO := hide ((r2off_is h).mono (R' := fun e w' => e = .returned (.bool (stops && decide (left = 0))) ∧ Only [] w w' ∧ w'.cell? ⟨g, 4, none⟩ = some (.bool stops)) (fun e w' ⟨a, b⟩ => ⟨a, b, (h.quiet b).c4⟩))
  subst h1
  clear h
  go_enter Try.func66, Try.ntmps66
  go_wp2_with (go_at_call 79; refine HO.out.mono ?_; rintro e w' ⟨rfl, ho, c4⟩; have HW := hide ho; clear ho)
  go_ret
  exact ⟨rfl, HW.out⟩

theorem rdoes_one (h1 : stops = true) (h2 : 0 < left) (hm : left ≤ 9223372036854775807) : Calls Try.prog 66 #[.pointer (some ⟨g, 0, none⟩)] w fun e w' => e = .returned (.bool true) ∧ Only [g] w w' ∧ IsR2 w' g pb pc pr pv N plat ws (left - 1) stops rd wt fl := by
  have HO := hide ((r2off_is h).mono (R' := fun e w' => e = .returned (.bool (stops && decide (left = 0))) ∧ Only [] w w' ∧ w'.cell? ⟨g, 4, none⟩ = some (.bool stops) ∧ w'.cell? ⟨g, 3, none⟩ = some (.int .i64 left) ∧ w'.frozen? ⟨g, 3, none⟩ = false) (fun e w' ⟨a, b⟩ => ⟨a, b, (h.quiet b).c4, (h.quiet b).c3, (h.quiet b).fr 3⟩))
  have HD := hide h
  subst h1
  rw [show (true && decide (left = 0)) = false by simp; omega] at HO
  clear h
  go_enter Try.func66, Try.ntmps66
  go_wp2_with (go_at_call 79; refine HO.out.mono ?_; rintro e w' ⟨rfl, ho, c4, c3, f3⟩; have HW := hide ho; clear ho)
  go_ret
  have h3 := HD.out.quiet HW.out
  have ho : Only [g] w' (w'.setCell ⟨g, 3, none⟩ (.int .i64 (left - 1))) := (Only.refl _ _).setCell _ (by simp)
  exact ⟨rfl, (HW.out.mono (by simp)).trans ho, h3.restr ho (h3.str.set_ 3 _)⟩

end
end Go.Proofs.Ytokdpldmoflnkaa
