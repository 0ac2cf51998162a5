/-
  The log (parapet/wlog): a header's bytes.
-/
import Derived.Test.YtpajdnjbeplneaaLgBytes
import Derived.Test.YtpajdnjbeplneaaRqRow
namespace Go.Proofs.Ytpajdnjbeplneaa
open Go.ChangeShapes Go.WideShapes Go.ChangeAt Go.RowKit
set_option linter.unusedVariables false

/-- The numbers of blocks, two bytes each. -/
def numsF (ns : List Int) : List Int := ns.flatMap (beB 2)
theorem numsF_length (ns : List Int) : (numsF ns).length = 2 * ns.length := by
  induction ns with
  | nil => rfl
  | cons n ns ih => simp only [numsF, List.flatMap_cons, List.length_append, beB_length, List.length_cons] at ih ⊢; omega
theorem numsF_snoc (ns : List Int) (n : Int) : numsF (ns ++ [n]) = numsF ns ++ beB 2 n := by simp [numsF]
theorem u8_numsF (ns : List Int) : U8 (numsF ns) := by
  intro x hx
  obtain ⟨n, _, h⟩ := List.mem_flatMap.1 hx
  exact u8_beB 2 n x h
/-- A header's bytes. -/
def hdrF (gen : Int) (ns : List Int) : List Int := beB 8 gen ++ beB 2 ns.length ++ numsF ns ++ List.replicate (494 - 2 * ns.length) 0 ++ beB 8 gen
theorem hdrF_length (gen : Int) (ns : List Int) (h : ns.length ≤ 247) : (hdrF gen ns).length = 512 := by
  simp [hdrF, beB_length, numsF_length]
  omega
theorem u8_hdrF (gen : Int) (ns : List Int) : U8 (hdrF gen ns) :=
  ((((u8_beB 8 _).append (u8_beB 2 _)).append (u8_numsF _)).append (U8.replicate _)).append (u8_beB 8 _)
/-- A header as far as its first i blocks are laid. -/
def partF (gen : Int) (ns : List Int) (i : Nat) : List Int := beB 8 gen ++ beB 2 ns.length ++ numsF (ns.take i) ++ List.replicate (502 - 2 * i) 0
theorem splice_at {xs : List Int} (A B : List Int) {ys : List Int} {o : Nat} (h : xs = A ++ B) (ho : A.length = o) : Go.splice xs o ys = A ++ ys ++ B.drop ys.length := by
  subst h; subst ho; exact splice_app A B ys
theorem part_step (gen : Int) (ns : List Int) (i : Nat) (h : i < ns.length) (hn : ns.length ≤ 247) : Go.splice (partF gen ns i) (10 + 2 * i) (beB 2 (gb ns i)) = partF gen ns (i + 1) := by
  have h1 := splice_at (xs := partF gen ns i) (ys := beB 2 (gb ns i)) (o := 10 + 2 * i) (beB 8 gen ++ beB 2 ns.length ++ numsF (ns.take i)) (List.replicate (502 - 2 * i) 0) rfl (by simp [beB_length, numsF_length]; omega)
  rw [h1]
  unfold partF
  rw [List.take_succ_eq_append_getElem h, numsF_snoc, show ns[i] = gb ns i from by simp [gb, List.getD, h], List.drop_replicate, beB_length, show 502 - 2 * i - 2 = 502 - 2 * (i + 1) from by omega]
  simp only [List.append_assoc]
theorem part_end (gen : Int) (ns : List Int) (hn : ns.length ≤ 247) : Go.splice (partF gen ns ns.length) 504 (beB 8 gen) = hdrF gen ns := by
  have e : 502 - 2 * ns.length = 494 - 2 * ns.length + 8 := by omega
  rw [splice_at (beB 8 gen ++ beB 2 ns.length ++ numsF ns ++ List.replicate (494 - 2 * ns.length) 0) (List.replicate 8 0) (by unfold partF; rw [List.take_of_length_le (Nat.le_refl _), e, ← List.replicate_append_replicate]; simp only [List.append_assoc]) (by simp [beB_length, numsF_length]; omega)]
  rw [List.drop_of_length_le (by simp [beB_length]), List.append_nil]
  rfl
theorem part_start (gen : Int) (ns : List Int) : Go.splice (Go.splice (List.replicate 512 0) 0 (beB 8 gen)) 8 (beB 2 ns.length) = partF gen ns 0 := by
  have e : Go.splice (List.replicate 512 0) 0 (beB 8 gen) = beB 8 gen ++ List.replicate 504 0 := by
    have h1 := splice_at (xs := List.replicate 512 0) (ys := beB 8 gen) (o := 0) [] (List.replicate 512 0) rfl rfl
    rw [h1, beB_length, List.drop_replicate]
    rfl
  have h2 := splice_at (xs := beB 8 gen ++ List.replicate 504 0) (ys := beB 2 ns.length) (o := 8) (beB 8 gen) (List.replicate 504 0) rfl (beB_length 8 gen)
  rw [e, h2, beB_length, List.drop_replicate]
  unfold partF
  rw [List.take_zero, show numsF [] = [] from rfl, List.append_nil]
theorem partF_length (gen : Int) (ns : List Int) (i : Nat) (h : i ≤ ns.length) (hn : ns.length ≤ 247) : (partF gen ns i).length = 512 := by
  simp [partF, beB_length, numsF_length]
  omega
/-- A new row of bytes at the head of its block. -/
def NewB (w w' : World) (e : Ending) (xs : List Int) : Prop :=
  ∃ d, e = .returned (.slice (some ⟨d, 0, none⟩) xs.length xs.length) ∧ w.heap.size ≤ d ∧ Blk w' d 5 (u8l xs ++ ([] : List Value)).toArray ∧ Only [] w w'

set_option maxRecDepth 100000 in
set_option maxHeartbeats 1500000 in
theorem header_is {w : World} {v : Value} {ns : List Int} (h : IRow w v ns) (gen : Int) (g0 : 0 ≤ gen) (g1 : gen < 18446744073709551616) (hn : ns.length ≤ 247) (hr : ∀ x ∈ ns, 0 ≤ x ∧ x < 65536) :
    Calls Try.prog 85 #[.int .u64 gen, v] w fun e w' => NewB w w' e (hdrF gen ns) := by
  obtain ⟨A, c, rfl, hA, hlc, hcm, hcl⟩ := h.form2
  obtain ⟨i0, hi, hz0, hz1, hz2⟩ := info_parts info_u8
  have hmk : ∀ u : World, (Instr.makeSlice 39 (.int .i64 512) (.int .i64 512)).run Try.prog u =
      .ok (.slice (some ⟨u.heap.size, 0, none⟩) 512 512) (u.alloc (.cells (madeCells #[.int .u8 0] 512) 5)) := fun u => by
    have h := run_make (P := Try.prog) u 39 5 i0 (.int .u8 0) Try.underlying39 hi hz0 .i64 .i64 512 512 (by omega) (Int.le_refl _) (by rw [hz2]; omega) (by omega)
    simpa [hz1, Value.cells] using h
  have HB0 := hide (show Blk (w.alloc (.cells (madeCells #[.int .u8 0] 512) 5)) w.heap.size 5 (u8l (List.replicate 512 0) ++ ([] : List Value)).toArray from by
    have e : madeCells #[.int .u8 0] 512 = (u8l (List.replicate 512 0) ++ ([] : List Value)).toArray := by
      apply Array.ext'
      rw [toList_madeCells_one]
      simp [u8l]
    rw [← e]; exact Blk.new _ _ _)
  have HXS := hide (part_start gen ns)
  have HXL := hide (show (List.replicate 512 (0 : Int)).length = 512 from List.length_replicate)
  generalize List.replicate 512 (0 : Int) = xs0 at HB0 HXS HXL
  have HO0 := hide ((Only.refl [] w).alloc (.cells (madeCells #[.int .u8 0] 512) 5))
  have HCL := hide hcl
  have HAN := hide hA
  have HR := hide hr
  have hcm2 : c ≤ 9223372036854775807 := by unfold maxLen at hcm; omega
  have hlen0 : (0 : Int) ≤ ns.length := by omega
  have hlen1 : (ns.length : Int) < 18446744073709551616 := by omega
  clear h hcl hA hi hz0 hz1 hz2 hcm hr
  go_enter Try.func85, Try.ntmps85
  go_wp2_with fail
  refine (put_is w.heap.size 0 8 512 xs0 [] gen _ HB0.out (by rw [HXL.out]; decide) (by decide) (by decide) g0 g1).mono ?_
  rintro e w1 ⟨rfl, hb1, ho1⟩
  have HB1 := hide hb1
  have HL1 := hide (show (Go.splice xs0 0 (beB 8 gen)).length = 512 by rw [splice_length _ _ _ (by rw [beB_length, HXL.out]; decide), HXL.out])
  have HO1 := hide (HO0.out.trans' ho1 (fun q hq hm => by simp at hm; omega))
  clear hb1 ho1
  go_wp2_with fail
  refine (put_is w.heap.size 8 2 504 _ [] (ns.length : Int) _ HB1.out (by rw [HL1.out]; decide) (by decide) (by decide) hlen0 hlen1).mono ?_
  rintro e w2 ⟨rfl, hb2, ho2⟩
  rw [HXS.out] at hb2
  have HB2 := hide hb2
  have HO2 := hide (HO1.out.trans' ho2 (fun q hq hm => by simp at hm; omega))
  clear hb2 ho2 HB1 HL1 HO1 HB0 HO0 HXS HXL
  go_wp2
  clear hmk
  go_loopw [21, 6, 7] (fun iv _ _ wr => ∃ i : Nat, i ≤ ns.length ∧ iv = .int .i64 i ∧ Only [] w wr ∧ Blk wr w.heap.size 5 (u8l (partF gen ns i) ++ ([] : List Value)).toArray) (fun iv _ _ _ => ns.length - (intOf iv).toNat)
  case atStart => exact ⟨0, Nat.zero_le _, rfl, HO2.out, HB2.out⟩
  case round =>
    obtain ⟨i, hi, rfl, ho, hb⟩ := hrel
    have HO := hide ho
    have HB := hide hb
    clear ho hb HB2 HO2
    by_cases hlt : i < ns.length
    · have hltI : (i : Int) < ns.length := by omega
      obtain ⟨ad, rfl⟩ : ∃ ad, A = some ad := by
        rcases A with _ | ad
        · have := (HAN.out rfl).1; omega
        · exact ⟨ad, rfl⟩
      obtain ⟨b, rfl, hbl, hcell⟩ := HCL.out ad rfl
      have ci := hcell i (.int .i64 (gb ns i)) (by simp [i64l, gb, List.getD, hlt])
      have ci2 : wr.cell? ⟨b, i, none⟩ = some (.int .i64 (gb ns i)) := by rw [HO.out.cell hbl (by simp), ci]
      have hx := HR.out (gb ns i) (by simp only [gb, List.getD, List.getElem?_eq_getElem hlt, Option.getD_some]; exact List.getElem_mem hlt)
      have e1 : (10 + 2 * (i : Int)).toNat = 10 + 2 * i := by omega
      have HST := hide (part_step gen ns i hlt hn)
      have HPL := hide (partF_length gen ns i hi hn)
      clear hcell ci
      generalize gb ns i = x at *
      go_wp2_with fail
      refine (put_is w.heap.size (10 + 2 * i) 2 _ _ [] x _ HB.out (by rw [HPL.out]; omega) (by decide) (by omega) hx.1 (by omega)).mono ?_
      rintro e w3 ⟨rfl, hb3, ho3⟩
      rw [HST.out] at hb3
      have HB3 := hide hb3
      have HO3 := hide (HO.out.trans' ho3 (fun q hq hm => by simp at hm; omega))
      clear hb3 ho3
      go_wp2
      go_roundw
      case rel => exact ⟨i + 1, hlt, by go_num, HO3.out, HB3.out⟩
      case measure => simp [intOf]; omega
    · obtain rfl : i = ns.length := by omega
      have HPL := hide (partF_length gen ns ns.length hi hn)
      go_wp2_with fail
      refine (put_is w.heap.size 504 8 8 _ [] gen _ HB.out (by rw [HPL.out]; decide) (by decide) (by decide) g0 g1).mono ?_
      rintro e w3 ⟨rfl, hb3, ho3⟩
      rw [part_end gen ns hn] at hb3
      have HB3 := hide hb3
      have HO3 := hide (HO.out.trans' ho3 (fun q hq hm => by simp at hm; omega))
      clear hb3 ho3
      go_wp2
      go_ret
      exact ⟨w.heap.size, by rw [hdrF_length gen ns hn]; rfl, Nat.le_refl _, HB3.out, HO3.out⟩
end Go.Proofs.Ytpajdnjbeplneaa
