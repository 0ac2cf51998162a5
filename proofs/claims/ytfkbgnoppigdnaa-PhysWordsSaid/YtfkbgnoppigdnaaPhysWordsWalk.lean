/-
  The walk of 'PhysWords': it answers true, and turns nothing that was there.
-/
import Derived.Test.YtfkbgnoppigdnaaPhysLives
namespace Go.Proofs.Ytfkbgnoppigdnaa
open Go.ChangeShapes Go.WideShapes Go.ChangeAt Go.RowKit
set_option linter.unusedVariables false

theorem words_count (t : Int) (h1 : t ≤ 0) (h2 : -63 ≤ t) : ∃ n, wrap64 ((wrap64 (t * t)).tmod 64 + 1) = n ∧ 1 ≤ n ∧ n ≤ 64 := by
  have h3 : 0 ≤ t * t := by
    have := Int.mul_nonneg (a := -t) (b := -t) (by omega) (by omega)
    rwa [Int.neg_mul_neg] at this
  have h4 : t * t ≤ 3969 := by
    have := Int.mul_le_mul (a := -t) (b := -t) (c := 63) (d := 63) (by omega) (by omega) (by omega) (by omega)
    rw [Int.neg_mul_neg] at this
    omega
  rw [show wrap64 (t * t) = t * t from IntWalk.wrap64_in _ (by omega)]
  rw [Int.tmod_eq_emod_of_nonneg h3]
  exact ⟨t * t % 64 + 1, IntWalk.wrap64_in _ (by omega), by omega, by omega⟩

theorem new_n (n : Int) (w : World) (h1 : 1 ≤ n) (h2 : n ≤ 64) : Calls Try.prog 14 #[.int .i64 n] w fun e w' => ∃ g d xs, e = .returned (.tuple #[.pointer (some ⟨g, 0, none⟩), .int .i64 0]) ∧ w.heap.size ≤ g ∧ w.heap.size ≤ d ∧
      IsMem w' g d (256 * n.toNat) xs [] ∧ Only [] w w' ∧ (xs.length : Int) = 256 * n ∧ ∀ i, gb xs i = 0 := by
  refine (new_ok n w h1 (by omega)).mono fun e w' ⟨g, d, he, hg, hd, hm, ho⟩ => ⟨g, d, _, he, hg, hd, hm, ho, by rw [List.length_replicate]; omega, fun i => ?_⟩
  unfold gb
  simp only [List.getD, List.getElem?_replicate]
  split <;> rfl

theorem getframe_cells {w : World} {g d cap : Nat} {xs : List Int} {r : List Value} (hm : IsMem w g d cap xs r) (n : Int) (h0 : 0 ≤ n) (hn : 256 * n + 256 ≤ xs.length) :
    Calls Try.prog 24 #[.pointer (some ⟨g, 0, none⟩), .int .i64 n] w fun e w' => ∃ d' c, e = .returned (.tuple #[.slice (some ⟨d', 0, none⟩) 256 c, .int .i64 0]) ∧ (∀ i, i < 256 → w'.cell? ⟨d', i, none⟩ = some (.int .u8 (gb xs (256 * n.toNat + i)))) ∧ Only [] w w' := by
  refine (getframe_ok hm n h0 hn).mono fun e w' ⟨v, he, ⟨d', c, r', hv, hB, hb, hl⟩, ho⟩ => ⟨d', c, ?_, fun i hi => ?_, ho⟩
  · rw [he, hv, show ((xs.drop (256 * n.toNat)).take 256).length = 256 by simp; omega]
  · rw [hb.cell, u8l_get _ _ _ (by simp; omega), gb_cut _ _ _ _ hi]

/-- The first loop. -/
def WordsRel1 (w : World) (g d cap : Nat) (ys : List Int) (i : Value) (wr : World) : Prop :=
  ∃ k : Nat, k ≤ 4 ∧ i = .int .i64 k ∧ IsMem wr g d cap ys [] ∧ Only [] w wr
/-- The second loop. -/
def WordsRel2 (w : World) (g d cap : Nat) (n : Int) (ys : List Int) (i : Value) (wr : World) : Prop :=
  ∃ k : Nat, (k : Int) ≤ n ∧ i = .int .i64 k ∧ IsMem wr g d cap ys [] ∧ Only [] w wr
/-- The third loop. -/
def WordsRel3 (i : Value) : Prop := ∃ j : Nat, j ≤ 256 ∧ i = .int .i64 j

set_option maxRecDepth 100000 in
set_option maxHeartbeats 4000000 in
theorem physWords_walk (f a v : Int) (w : World) (w0 : (Lit.int .i64 f).wf = true) (w1 : (Lit.int .i64 a).wf = true) (w2 : (Lit.int .u32 v).wf = true) :
    Calls Try.prog 4 #[.int .i64 f, .int .i64 a, .int .u32 v] w fun e w' => e = .returned (.bool true) ∧ Below w.heap.size w w' := by
  have hv : 0 ≤ v ∧ v ≤ 4294967295 := by simpa [Lit.wf, IntKind.min, IntKind.max, IntKind.signed, IntKind.bits] using w2
  have ha : -9223372036854775808 ≤ a ∧ a ≤ 9223372036854775807 := by simpa [Lit.wf, IntKind.min, IntKind.max, IntKind.signed, IntKind.bits] using w1
  have t1 : f.tmod 64 ≤ 63 := by have := Int.tmod_lt_of_pos f (b := 64) (by decide); omega
  have t2 : -63 ≤ f.tmod 64 := by have := Int.lt_tmod_of_pos f (b := 64) (by decide); omega
  clear w0 w1 w2
  have hcase : (∃ n, wrap64 ((wrap64 (f.tmod 64 * f.tmod 64)).tmod 64 + 1) = n ∧ 1 ≤ n ∧ n ≤ 64 ∧ f.tmod 64 < 1) ∨ (∃ n, f.tmod 64 = n ∧ 1 ≤ n ∧ n ≤ 64 ∧ 1 ≤ f.tmod 64) := by
    by_cases hc : f.tmod 64 ≤ 0
    · obtain ⟨n, hn, hn1, hn2⟩ := words_count _ hc t2
      exact .inl ⟨n, hn, hn1, hn2, by omega⟩
    · exact .inr ⟨_, rfl, by omega, by omega, by omega⟩
  clear t1 t2
  rcases hcase with ⟨n, hn, hn1, hn2, hc⟩ | ⟨n, hn, hn1, hn2, hc⟩
  all_goals
    have HN := hide hn
    clear hn
    go_enter Try.func4, Try.ntmps4
    go_wp2_with fail
    refine (lives_ok _).mono ?_
    rintro e w1 ⟨rfl, ho1⟩
    go_wp2_with fail
    rw [HN.out]
    clear HN hc
    refine (new_n n _ hn1 hn2).mono ?_
    rintro e w2 ⟨g, d, xs, rfl, hg, hd, hm, ho, hl, hz⟩
    have HL := hide hl
    have HZ := hide hz
    clear hl hz
    by_cases hbad : a < 0 ∨ a % 4 ≠ 0 ∨ 256 * n - 4 < a
    · have HS := hide (store32_bad hm a v (by rw [HL.out]; omega))
      have HO := hide (ho1.trans ho)
      clear hm ho ho1
      by_cases b1 : a < 0
      · clear hbad
        go_wp2_with (go_at_call 17; refine HS.out.mono ?_; rintro e w' ⟨rfl, rfl⟩)
        go_ret
        exact ⟨rfl, HO.out.below (Nat.le_refl _) (by simp)⟩
      · by_cases b2 : a % 4 ≠ 0
        · have c2 : (a % 4 != 0) = true := by simp only [bne_iff_ne]; exact b2
          clear hbad b2
          go_wp2_with (go_at_call 17; refine HS.out.mono ?_; rintro e w' ⟨rfl, rfl⟩)
          go_ret
          exact ⟨rfl, HO.out.below (Nat.le_refl _) (by simp)⟩
        · have c2 : (a % 4 != 0) = false := by simp only [bne_eq_false_iff_eq]; omega
          have b3 : 256 * n - 4 < a := by omega
          clear hbad b2
          go_wp2_with (go_at_call 17; refine HS.out.mono ?_; rintro e w' ⟨rfl, rfl⟩)
          go_ret
          exact ⟨rfl, HO.out.below (Nat.le_refl _) (by simp)⟩
    · have a0 : 0 ≤ a := by omega
      have a4 : a + 4 ≤ 256 * n := by omega
      have am : a % 4 = 0 := by omega
      have HS := hide (store32_ok hm a v a0 (by rw [HL.out]; omega) am hv.1 hv.2)
      have HI := hide (show a.toNat + 4 ≤ xs.length from by have := HL.out; omega)
      have HD := hide (show w.heap.size ≤ d from by have := ho1.size; omega)
      have HO := hide (fun (w5 : World) (ho5 : Only [d] w2 w5) => ((ho1.trans ho).trans' ho5 (by intro k hk hk'; simp at hk'; have := HD.out; omega) : Only [] w w5))
      clear hm ho ho1 hbad am
      go_wp2_with (go_at_call 17; refine HS.out.mono ?_; rintro e w3 ⟨rfl, ho3, hm3⟩)
      have HO3 := hide (HO.out _ ho3)
      have HY := hide (gb_putw xs a.toNat · v HI.out)
      have HL2 := hide ((length_putw xs a.toNat v))
      clear HS HO ho3
      revert hm3 HY HL2
      generalize putw xs a.toNat v = ys
      intro hm3 HY HL2
      go_loopw [10] (fun i wr => WordsRel1 w g d (256 * n.toNat) ys i wr) (fun i _ => 4 - (intOf i).toNat)
      case atStart => exact ⟨0, by omega, rfl, hm3, HO3.out⟩
      case round =>
        obtain ⟨k, hk, rfl, hm, hO⟩ := hrel
        have HO4 := hide hO
        have HLL := hide (show (ys.length : Int) = 256 * n by rw [HL2.out]; exact HL.out)
        clear hO HO3 hm3
        have hk5 : k = 0 ∨ k = 1 ∨ k = 2 ∨ k = 3 ∨ k = 4 := by omega
        rcases hk5 with rfl | rfl | rfl | rfl | rfl
        · have e0 : gb ys a.toNat = v % 256 := by rw [HY.out, if_pos rfl]
          have HX := load8_ok hm a a0 (by rw [HLL.out]; omega)
          rw [e0] at HX
          replace HX := hide HX
          have HM := hide hm
          clear e0 hm
          go_wp2_with (go_at_call 23; refine HX.out.mono ?_; rintro e w4 ⟨rfl, ho4⟩)
          go_roundw
          case rel => exact ⟨1, by omega, by go_num, HM.out.only ho4 (by simp) (by simp), HO4.out.trans ho4⟩
          case measure => simp [intOf]
        · have e0 : gb ys (a + 1).toNat = v / 256 % 256 := by rw [HY.out, if_neg (by omega), if_pos (by omega)]
          have HX := load8_ok hm (a + 1) (by omega) (by rw [HLL.out]; omega)
          rw [e0] at HX
          replace HX := hide HX
          have HM := hide hm
          clear e0 hm
          go_wp2_with (go_at_call 23; refine HX.out.mono ?_; rintro e w4 ⟨rfl, ho4⟩)
          go_roundw
          case rel => exact ⟨2, by omega, by go_num, HM.out.only ho4 (by simp) (by simp), HO4.out.trans ho4⟩
          case measure => simp [intOf]
        · have e0 : gb ys (a + 2).toNat = v / 65536 % 256 := by rw [HY.out, if_neg (by omega), if_neg (by omega), if_pos (by omega)]
          have HX := load8_ok hm (a + 2) (by omega) (by rw [HLL.out]; omega)
          rw [e0] at HX
          replace HX := hide HX
          have HM := hide hm
          clear e0 hm
          go_wp2_with (go_at_call 23; refine HX.out.mono ?_; rintro e w4 ⟨rfl, ho4⟩)
          go_roundw
          case rel => exact ⟨3, by omega, by go_num, HM.out.only ho4 (by simp) (by simp), HO4.out.trans ho4⟩
          case measure => simp [intOf]
        · have e0 : gb ys (a + 3).toNat = v / 16777216 := by rw [HY.out, if_neg (by omega), if_neg (by omega), if_neg (by omega), if_pos (by omega)]
          have HX := load8_ok hm (a + 3) (by omega) (by rw [HLL.out]; omega)
          rw [e0] at HX
          replace HX := hide HX
          have HM := hide hm
          clear e0 hm
          go_wp2_with (go_at_call 23; refine HX.out.mono ?_; rintro e w4 ⟨rfl, ho4⟩)
          go_roundw
          case rel => exact ⟨4, by omega, by go_num, HM.out.only ho4 (by simp) (by simp), HO4.out.trans ho4⟩
          case measure => simp [intOf]
        · go_wp2
          have HM := hide hm
          clear hm hk
          go_loopw [13] (fun i wr => WordsRel2 w g d (256 * n.toNat) n ys i wr) (fun i _ => n.toNat - (intOf i).toNat)
          case atStart => exact ⟨0, by omega, rfl, HM.out, HO4.out⟩
          case round =>
            clear HM HO4
            obtain ⟨k, hk, rfl, hm, hO⟩ := hrel
            have HO5 := hide hO
            clear hO
            by_cases hlt : (k : Int) < n
            · have HG := hide (getframe_cells hm k (by omega) (by rw [HLL.out]; omega))
              have HM := hide hm
              clear hm
              go_wp2_with (go_at_call 24; refine HG.out.mono ?_; rintro e w5 ⟨d5, c5, rfl, hcell, ho5⟩)
              have HO6 := hide (HO5.out.trans ho5)
              have HM6 := hide (HM.out.only ho5 (by simp) (by simp))
              have HCE := hide hcell
              clear HM HO5 HG hcell ho5
              go_loop [16] (fun i => WordsRel3 i) (fun i => 256 - (intOf i).toNat)
              case atStart => exact ⟨0, by omega, rfl⟩
              case round =>
                obtain ⟨j, hj, rfl⟩ := hrel
                by_cases hjl : j < 256
                · have hcj := HCE.out j hjl
                  have HV := hide (HY.out (256 * (k : Int).toNat + j))
                  generalize gb ys (256 * (k : Int).toNat + j) = val at hcj HV
                  by_cases hin : a ≤ (k : Int) * 256 + j ∧ (k : Int) * 256 + j < a + 4
                  · obtain ⟨hi1, hi2⟩ := hin
                    by_cases hvz : val = 0
                    · have c1 : (val != 0) = false := by simp only [bne_eq_false_iff_eq]; exact hvz
                      clear hvz
                      go_wp2
                      go_round
                      case rel => exact ⟨j + 1, by omega, by go_num⟩
                      case measure => simp [intOf]; omega
                    · have c1 : (val != 0) = true := by simp only [bne_iff_ne]; exact hvz
                      clear hvz
                      go_wp2
                      go_round
                      case rel => exact ⟨j + 1, by omega, by go_num⟩
                      case measure => simp [intOf]; omega
                  · have c1 : (val != 0) = false := by
                      simp only [bne_eq_false_iff_eq]
                      rw [HV.out, if_neg (by omega), if_neg (by omega), if_neg (by omega), if_neg (by omega)]
                      exact HZ.out _
                    clear hin
                    go_wp2
                    go_round
                    case rel => exact ⟨j + 1, by omega, by go_num⟩
                    case measure => simp [intOf]; omega
                · go_wp2
                  go_roundw
                  case rel => exact ⟨k + 1, by omega, by go_num, HM6.out, HO6.out⟩
                  case measure => simp [intOf]; omega
            · clear hm
              go_wp2
              go_ret
              exact ⟨rfl, HO5.out.below (Nat.le_refl _) (by simp)⟩

end Go.Proofs.Ytfkbgnoppigdnaa
