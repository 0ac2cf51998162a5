/-
  The law's own 'awake': the chapter's example holds.
-/
import Derived.Test.YtpkoihbebhmicaaDiskNil
import Derived.Test.YtpkoihbebhmicaaDiskHelp
import Derived.Test.YtpkoihbebhmicaaDiskFork
namespace Go.Proofs.Ytpkoihbebhmicaa
open Go.ChangeShapes Go.WideShapes Go.ChangeAt Go.RowKit
set_option linter.unusedVariables false

def Fill5 (w w' : World) (e : Ending) (xs : List Int) : Prop :=
  ∃ d, e = .returned (.slice (some ⟨d, 0, none⟩) 512 512) ∧ w.heap.size ≤ d ∧ Blk w' d 5 (u8l xs).toArray ∧ Only [] w w'

theorem fill5 (c : Int) (w : World) (h0 : 0 ≤ c) (h1 : c ≤ 255) : Calls Try.prog 11 #[.int .i64 512, .int .u8 c] w fun e w' => Fill5 w w' e (fillL 512 c) :=
  (filled_ok 512 c w (by decide) h0 h1).mono fun e w' ⟨d, he, h⟩ => ⟨d, by rw [he, fillL_length], h⟩

theorem blk_gb {w : World} {d : Nat} {xs : List Int} (h : Blk w d 5 (u8l xs).toArray) (i : Nat) (hi : i < xs.length) : w.cell? ⟨d, 0 + i, none⟩ = some (.int .u8 (gb xs i)) := by
  rw [Nat.zero_add, h.cell]
  simp [u8l, gb, List.getD, List.getElem?_eq_getElem hi]

theorem gb_splice_ (L cs : List Int) (o j : Nat) (h : o + cs.length ≤ L.length) : gb (Go.splice L o cs) j = if o ≤ j ∧ j < o + cs.length then gb cs (j - o) else gb L j := by
  unfold gb List.getD Go.splice
  congr 1
  have ht : (L.take o).length = o := by simp; omega
  by_cases h1 : j < o
  · rw [if_neg (by omega), List.getElem?_append_left (by omega), List.getElem?_take, if_pos h1]
  · rw [List.getElem?_append_right (by omega), ht]
    by_cases h2 : j < o + cs.length
    · rw [if_pos ⟨by omega, h2⟩, List.getElem?_append_left (by omega)]
    · rw [if_neg (by omega), List.getElem?_append_right (by omega), List.getElem?_drop]
      exact congrArg (fun k => L[k]?.getD 0) (show o + cs.length + (j - o - cs.length) = j by omega)

set_option maxRecDepth 100000 in
set_option maxHeartbeats 2000000 in
theorem awake_ok (w : World) : Calls Try.prog 5 #[] w fun e w' => e = .returned (.bool true) ∧ Only [] w w' := by
  go_enter Try.func5, Try.ntmps5
  go_wp2_with fail
  refine (dnew_ok 4 _ (by decide) (by decide)).mono ?_
  rintro e w1 ⟨g, pb, pc, mb, pr, rfl, hg, hpb, hmb, ho, hd⟩
  have hz : ∀ i, gb (List.replicate (512 * Int.toNat 4) 0) i = 0 := fun i => by
    unfold gb List.getD
    rw [List.getElem?_replicate]
    split <;> rfl
  replace hd : IsDisk w1 g pb pc mb pr (.slice none 0 0) (.map []) 4 (List.replicate (512 * Int.toNat 4) 0) [] (-1) 0 0 0 := hd
  revert hz hd
  generalize List.replicate (512 * Int.toNat 4) (0 : Int) = plat
  intro hz hd
  have HZ := hide hz
  have HO := hide ho
  have HG := hide (And.intro hg (And.intro hpb hmb))
  have HD := hide hd
  clear hz ho hg hpb hmb hd
  go_wp2_with fail
  refine (fill5 97 _ (by decide) (by decide)).mono ?_
  rintro e w2 ⟨d1, rfl, hd1, hb1, ho1⟩
  have HD1 := hide (HD.out.only ho1 (by simp) (by simp))
  have HO1 := hide (HO.out.trans ho1)
  have HB1 := hide hb1
  have hne1 : d1 ≠ g ∧ d1 ≠ mb := ⟨by have := HD.out.str.lt; omega, by have := (mb_ne HD.out).2.2.1; omega⟩
  have HN1 := hide hne1
  clear HD HO hd1 hb1 ho1 hne1
  go_wp2_with fail
  refine (dwrite_do HD1.out 3 d1 0 512 (fillL 512 97) (by decide) (by decide) (by decide) (fillL_length _ _) (u8_fillL _ _) (fun i hi => blk_gb HB1.out i (by rw [fillL_length]; exact hi)) HB1.out.lt HN1.out.1 HN1.out.2 (by decide) (by decide) (by decide)).mono ?_
  rintro e w3 ⟨rfl, pv3, D3, x3, ho3, hpv3, hxb3, hxs3, hxd3, hd3⟩
  rw [if_neg (by decide), List.nil_append] at hd3
  have HD3 := hide hd3
  have HX3 := hide (show pb < x3.blk ∧ x3.sec = 3 ∧ x3.data = fillL 512 97 from ⟨Nat.lt_of_lt_of_le HD1.out.row.lt hxb3, hxs3, hxd3⟩)
  have HO3 := hide (show Only [] w w3 from HO1.out.trans' ho3 (fun k hk hm => by
    simp only [foot, Value.ownBlock, List.mem_cons, List.not_mem_nil, or_false] at hm
    have := HG.out
    omega))
  have HV3 := hide (show ∀ k, pv3.ownBlock = some k → w.heap.size ≤ k from fun k hk => by
    rcases hpv3 k hk with h | h
    · simp [Value.ownBlock] at h
    · exact Nat.le_trans HO1.out.size h)
  clear HD1 HO1 HB1 HN1 hxb3 hxs3 hxd3 ho3 hd3 hpv3
  go_wp2_with fail
  refine (fill5 98 _ (by decide) (by decide)).mono ?_
  rintro e w4 ⟨d4, rfl, hd4, hb4, ho4⟩
  have HD4 := hide (HD3.out.only ho4 (by simp) (by simp))
  have HO4 := hide (HO3.out.trans ho4)
  have HB4 := hide hb4
  have HN4 := hide (show d4 ≠ g ∧ d4 ≠ mb from ⟨by have := HD3.out.str.lt; omega, by have := (mb_ne HD3.out).2.2.1; omega⟩)
  clear HD3 HO3 hd4 hb4 ho4
  go_wp2_with fail
  refine (dwrite_do HD4.out 3 d4 0 512 (fillL 512 98) (by decide) (by decide) (by decide) (fillL_length _ _) (u8_fillL _ _) (fun i hi => blk_gb HB4.out i (by rw [fillL_length]; exact hi)) HB4.out.lt HN4.out.1 HN4.out.2 (by decide) (by decide) (by simp only [List.length_cons, List.length_nil]; omega)).mono ?_
  rintro e w5 ⟨rfl, pv5, D5, x5, ho5, hpv5, hxb5, hxs5, hxd5, hd5⟩
  rw [if_neg (by decide)] at hd5
  replace hd5 : IsDisk w5 g pb pc mb pr pv5 D5 4 plat [x3, x5] (-1) 0 2 0 := hd5
  have HD5 := hide hd5
  have HX5 := hide (show pb < x5.blk ∧ x5.sec = 3 ∧ x5.data = fillL 512 98 from ⟨Nat.lt_of_lt_of_le HD4.out.row.lt hxb5, hxs5, hxd5⟩)
  have HO5 := hide (show Only [] w w5 from HO4.out.trans' ho5 (fun k hk hm => by
    simp only [foot, List.mem_cons] at hm
    have := HG.out
    rcases hm with h | h | h | h
    · omega
    · omega
    · omega
    · exfalso
      revert h
      cases hc : pv3.ownBlock with
      | none => simp
      | some q => intro h; simp at h; have := HV3.out q hc; omega))
  clear HD4 HO4 HB4 HN4 hxb5 hxs5 hxd5 ho5 hd5 hpv5 HV3
  go_wp2_with fail
  refine (dpending_is HD5.out).mono ?_
  rintro e w6 ⟨d6, rfl, hd6, hi6, ho6⟩
  have HI6 := hide (show ∀ i, i < 2 → w6.cell? ⟨d6, 0 + i, none⟩ = some (.int .i64 (gb [3, 3] i)) from fun i hi => by
    have := hi6.2 i hi
    rw [Nat.zero_add, this]
    simp only [List.map_cons, List.map_nil, HX3.out.2.1, HX5.out.2.1]
    rfl)
  have HL6 := hide (show d6 < w6.heap.size from by
    have := HI6.out 0 (by decide)
    exact Nat.lt_of_not_le fun hle => by
      simp [World.cell?, Array.getElem?_eq_none hle] at this)
  have HD6 := hide (HD5.out.only ho6 (by simp) (by simp))
  have HO6 := hide (HO5.out.trans ho6)
  clear HD5 HO5 hd6 hi6 ho6
  go_wp2_with fail
  refine (sameInts_yes _ (some ⟨d6, 0, none⟩) (some ⟨w6.heap.size, 0, none⟩) 2 2 2 [3, 3] (fun _ => ⟨d6, 0, rfl, by have := HL6.out; simp; omega, fun i hi => Lib.cell?_alloc_some _ (HI6.out i hi)⟩) (fun _ => ⟨w6.heap.size, 0, rfl, by simp, fun i hi => by
    rw [Nat.zero_add, (Blk.new w6 3 #[.int .i64 3, .int .i64 3]).cell]
    have : i = 0 ∨ i = 1 := by omega
    rcases this with rfl | rfl <;> rfl⟩) (by decide)).mono ?_
  rintro e w7 ⟨rfl, ho7⟩
  have HD7 := hide ((IsDisk.alloc HD6.out (.cells #[.int .i64 3, .int .i64 3] 3)).only ho7 (by simp) (by simp))
  have HO7 := hide ((HO6.out.alloc (.cells #[.int .i64 3, .int .i64 3] 3)).trans ho7)
  clear HD6 HO6 HI6 HL6 ho7
  go_wp2_with fail
  have HD8 := hide (IsDisk.alloc HD7.out (.cells #[.int .i64 1, .int .i64 2] 52))
  have HO8 := hide (HO7.out.alloc (.cells #[.int .i64 1, .int .i64 2] 52))
  refine (dcrash_yes HD8.out (some ⟨w7.heap.size, 0, none⟩) 1 1 [(1, 2)] ⟨rfl, fun _ => ⟨w7.heap.size, 0, rfl, by simp, fun i p hp => by
    have h0 : i = 0 := by
      have := (List.getElem?_eq_some_iff.1 hp).1
      simp at this
      exact this
    subst h0
    have hp' : p = (1, 2) := by simpa using hp.symm
    subst hp'
    have hb := Blk.new w7 52 #[.int .i64 1, .int .i64 2]
    exact ⟨by rw [hb.cell]; rfl, by rw [hb.cell]; rfl⟩⟩⟩ (by decide) (by simp [keepB]) (fun x hx => by
      simp only [List.mem_cons, List.not_mem_nil, or_false] at hx
      rcases hx with rfl | rfl
      · exact Nat.ne_of_gt HX3.out.1
      · exact Nat.ne_of_gt HX5.out.1) (fun _ b hb => by
      have := HD7.out.row.lt
      injection hb with hb
      subst hb
      exact Nat.ne_of_gt this)).mono ?_
  rintro e w9 ⟨rfl, ho9, hd9⟩
  have HP := hide (show crashAll plat (ofW [x3, x5]) [(1, 2)] = Go.splice plat 1536 [98, 105] from by
    simp only [crashAll, List.foldl_cons, List.foldl_nil, crash1, ofW, List.map_cons, List.map_nil]
    show Go.splice plat (512 * x5.sec) (x5.data.take 2) = _
    rw [HX5.out.2.1, HX5.out.2.2]
    rfl)
  rw [HP.out] at hd9
  have HD9 := hide hd9
  have HO9 := hide (show Only [] w w9 from HO8.out.trans' ho9 (fun k hk hm => by
    simp only [List.mem_cons, List.not_mem_nil, or_false] at hm
    have := HG.out
    omega))
  clear HD7 HO7 HD8 HO8 ho9 hd9
  go_wp2_with fail
  refine (dread_none HD9.out 3 (by decide) (by simp) (by decide) (by decide)).mono ?_
  rintro e w10 ⟨v, rfl, hv, ho10, hd10⟩
  obtain ⟨d, c, r, rfl, hdB, hbk, hcl⟩ := hv
  have hpl := HD9.out.len
  have hpl0 : plat.length = 2048 := by
    have e : (Go.splice plat 1536 [98, 105]).length = 512 * 4 := hpl
    have hB : 1536 ≤ plat.length ∨ plat.length < 1536 := by omega
    simp [Go.splice] at e
    omega
  have HS := hide (show (sect (Go.splice plat 1536 [98, 105]) (ofW []) 3).length = 512 ∧ gb (sect (Go.splice plat 1536 [98, 105]) (ofW []) 3) 0 = 98 ∧ gb (sect (Go.splice plat 1536 [98, 105]) (ofW []) 3) 1 = 105 ∧ gb (sect (Go.splice plat 1536 [98, 105]) (ofW []) 3) 2 = 0 from by
    have e : sect (Go.splice plat 1536 [98, 105]) (ofW []) 3 = ((Go.splice plat 1536 [98, 105]).drop 1536).take 512 := rfl
    have hc : 1536 + [98, 105].length ≤ plat.length := by simp; omega
    rw [e, gb_cut _ _ _ _ (by decide), gb_cut _ _ _ _ (by decide), gb_cut _ _ _ _ (by decide), gb_splice_ _ _ _ _ hc, gb_splice_ _ _ _ _ hc, gb_splice_ _ _ _ _ hc]
    refine ⟨by rw [List.length_take, List.length_drop, hpl]; rfl, by rw [if_pos (by decide)]; rfl, by rw [if_pos (by decide)]; rfl, ?_⟩
    rw [if_neg (by simp)]
    exact HZ.out _)
  revert hbk hcl HS
  generalize sect (Go.splice plat 1536 [98, 105]) (ofW []) 3 = zs
  intro hbk hcl HS
  have cc : ∀ i, i < 512 → w10.cell? ⟨d, i, none⟩ = some (.int .u8 (gb zs i)) := fun i hi => by
    rw [hbk.cell]
    exact u8l_get _ _ i (by rw [HS.out.1]; exact hi)
  have cc0 := (cc 0 (by decide))
  have cc1 := (cc 1 (by decide))
  have cc2 := (cc 2 (by decide))
  rw [HS.out.2.1] at cc0
  rw [HS.out.2.2.1] at cc1
  rw [HS.out.2.2.2] at cc2
  have HD10 := hide hd10
  have HC10 := hide (show 512 ≤ c from by rw [← hcl, HS.out.1]; omega)
  have HO10 := hide (show Only [] w w10 from HO9.out.trans' ho10 (fun k hk hm => by
    simp only [List.mem_cons, List.not_mem_nil, or_false] at hm
    have := HG.out
    omega))
  rw [HS.out.1]
  clear hd10 hbk hcl HS cc HD9 hpl hpl0 hdB ho10 HO9 HZ HX3 HX5 HP
  go_wp2_with fail
  refine (dflush_do HD10.out (by decide) (by decide) (by decide) (by decide) (by simp)).mono ?_
  rintro e w11 ⟨rfl, ho11, _⟩
  have HO11 := hide (show Only [] w w11 from HO10.out.trans' ho11 (fun k hk hm => by
    simp only [List.mem_cons, List.not_mem_nil, or_false] at hm
    have := HG.out
    omega))
  clear HO10 HD10 ho11
  go_wp2
  go_ret
  exact ⟨rfl, HO11.out⟩
end Go.Proofs.Ytpkoihbebhmicaa
