/-
  The law's own helper over translations: lives; and 'TlbNobody'.
-/
import Derived.Test.YtdkbjnnflpopdaaTlbNil
namespace Go.Proofs.Ytdkbjnnflpopdaa
open Go.ChangeShapes Go.WideShapes Go.ChangeAt Go.RowKit
set_option linter.unusedVariables false

set_option maxRecDepth 100000 in
set_option maxHeartbeats 2000000 in
theorem lives7 (w : World) : Calls Try.prog 10 #[] w fun e w' => e = .returned (.bool true) ∧ Only [] w w' := by
  go_enter Try.func10, Try.ntmps10
  go_wp2_with fail
  refine (show Calls Try.prog 8 #[.int .i64 2, .int .i64 2] w _ from bNew_ok 2 2 w ⟨by decide, by decide⟩ ⟨by decide, by decide⟩).mono ?_
  rintro e w1 ⟨t, hb, ob, bs, rfl, T1, g1, g2, g3, g4, o1⟩
  have G := hide (And.intro g1 (And.intro g2 (And.intro g3 (g4 0 (by decide)))))
  have HT1 := hide T1
  have HO1 := hide o1
  clear T1 g1 g2 g3 g4 o1
  go_wp2_with fail
  refine (show Calls Try.prog 13 #[.pointer (some ⟨t, 0, none⟩), .int .i64 0, .agg #[.int .i64 1, .int .i64 5], .int .u32 7] w1 _ from bFill_is HT1.out 0 (by decide) (k := (1, 5)) ⟨by decide, by decide⟩ 7 (by decide)).mono ?_
  rintro e w2 ⟨rfl, T2, o2⟩
  have HT2 := hide T2
  have HO2 := hide (HO1.out.trans' o2 (fun q h1 h2 => by have := G.out; simp at h2; omega))
  clear T2 o2 HT1 HO1
  go_wp2_with fail
  refine (show Calls Try.prog 13 #[.pointer (some ⟨t, 0, none⟩), .int .i64 0, .agg #[.int .i64 1, .int .i64 6], .int .u32 8] w2 _ from bFill_is HT2.out 0 (by decide) (k := (1, 6)) ⟨by decide, by decide⟩ 8 (by decide)).mono ?_
  rintro e w3 ⟨rfl, T3, o3⟩
  have HT3 := hide T3
  have HO3 := hide (HO2.out.trans' o3 (fun q h1 h2 => by have := G.out; simp at h2; omega))
  clear T3 o3 HT2 HO2
  go_wp2_with fail
  refine (show Calls Try.prog 13 #[.pointer (some ⟨t, 0, none⟩), .int .i64 0, .agg #[.int .i64 2, .int .i64 5], .int .u32 9] w3 _ from bFill_is HT3.out 0 (by decide) (k := (2, 5)) ⟨by decide, by decide⟩ 9 (by decide)).mono ?_
  rintro e w4 ⟨rfl, T4, o4⟩
  have h4 : ∃ ls4 nx4, IsTlb w4 t hb ob 2 2 0 bs ls4 nx4 [] ∧ ls4 0 = [((1, 6), (8, 1)), ((2, 5), (9, 2))] := ⟨_, _, T4, by decide⟩
  obtain ⟨ls4, nx4, T4', hls4⟩ := h4
  have HT4 := hide T4'
  have HL4 := hide hls4
  have HO4 := hide (HO3.out.trans' o4 (fun q h1 h2 => by have := G.out; simp at h2; omega))
  clear T4 T4' o4 HT3 HO3 hls4
  go_wp2_with fail
  have H5 := hide (bStart_one (HT4.out.new ((Only.refl [] w4).alloc (.cells #[.int .i64 0] 3))) 1 (by decide) (by decide) (by decide) (by simp) (by simp) w4.heap.size 0 1 ((Blk.new w4 3 #[.int .i64 0]).cell 0) (by simp) (by have := HT4.out.blk.lt; omega))
  refine H5.out.mono ?_
  rintro e w5 ⟨rfl, T5, o5⟩
  rw [show (0 : Int) + 1 = 1 from rfl, List.nil_append] at T5
  rw [show (0 : Int) + 1 = 1 from rfl]
  have HT5 := hide T5
  have HO5 := hide ((HO4.out.alloc (.cells #[.int .i64 0] 3)).trans' o5 (fun q h1 h2 => by have := G.out; simp at h2; omega))
  clear T5 o5 H5 HT4 HO4
  go_wp2_with fail
  refine (bOver_open HT5.out 1 (s := (1, [true, false, false, false, false, false, false, false])) (by decide) (by decide) (by simp)).mono ?_
  rintro e w6 ⟨rfl, o6⟩
  have HT6 := hide (HT5.out.new o6)
  have HO6 := hide (HO5.out.trans o6)
  clear o6 HT5 HO5
  go_wp2_with fail
  refine (bHandle_one 1 1 HT6.out).mono ?_
  rintro e w7 ⟨rfl, T7, o7⟩
  have HT7 := hide T7
  have HO7 := hide (HO6.out.trans' o7 (fun q h1 h2 => by have := G.out; simp at h2; omega))
  clear T7 o7 HT6 HO6
  go_wp2_with fail
  refine (bOver_yes HT7.out 1 (by decide) (by decide) (by decide) (by simp)).mono ?_
  rintro e w8 ⟨rfl, o8⟩
  have HT8 := hide (HT7.out.new o8)
  have HO8 := hide (HO7.out.trans o8)
  clear o8 HT7 HO7
  go_wp2_with fail
  refine (show Calls Try.prog 18 #[.pointer (some ⟨t, 0, none⟩), .int .i64 0] w8 _ from bKept_one HT8.out 0 (by decide) (by rw [updF_same, HL4.out]; decide)).mono ?_
  rintro e w9 ⟨A, c, rfl, o9⟩
  have HO9 := hide (HO8.out.trans o9)
  clear o9 HT8 HO8
  go_wp2
  go_ret
  exact ⟨rfl, HO9.out⟩

set_option maxRecDepth 100000 in
set_option maxHeartbeats 2000000 in
theorem tlbNobody_is (h k1 k2 n : Int) (w : World) :
    Calls Try.prog 6 #[.int .i64 h, .agg #[.int .i64 k1, .int .i64 k2], .int .i64 n] w fun e w' => e = .returned (.bool true) ∧ Below w.heap.size w w' := by
  go_enter Try.func6, Try.ntmps6
  go_wp2_with (first | (go_at_call 20; refine (bLook_nil _ _ _ _).mono ?_; rintro e w' ⟨rfl, rfl⟩) | (go_at_call 14; refine (bStart_nil _ _ _).mono ?_; rintro e w' ⟨rfl, rfl⟩))
  refine (lives7 _).mono ?_
  rintro e w2 ⟨rfl, o2⟩
  have HO := hide (show Only [] w w2 from (((Only.refl [] w).alloc _).alloc _).trans o2)
  have hb := ((Blk.new w 33 #[.int .i64 k1, .int .i64 k2]).alloc (.cells #[.int .i64 k1, .int .i64 k2] 33)).only o2 (by simp)
  have c0 := hb.cell 0
  have c1 := hb.cell 1
  clear o2 hb
  go_wp2_with (first | (go_at_call 13; refine (bFill_nil _ _ _ _ _).mono ?_; rintro e w' ⟨rfl, rfl⟩) | (go_at_call 19; refine (bFlush_nil _ _ _).mono ?_; rintro e w' ⟨rfl, rfl⟩) | (go_at_call 18; refine (bKept_nil _ _).mono ?_; rintro e w' ⟨rfl, rfl⟩) | (go_at_call 15; refine (bPending_nil _ _).mono ?_; rintro e w' ⟨rfl, rfl⟩) | (go_at_call 17; refine (bHandle_nil _ _).mono ?_; rintro e w' ⟨rfl, rfl⟩) | (go_at_call 16; refine (bOver_nil _ _).mono ?_; rintro e w' ⟨rfl, rfl⟩) | (go_at_call 21; refine (bOpen_nil _).mono ?_; rintro e w' ⟨rfl, rfl⟩) | (go_at_call 22; refine (bHarts_nil _).mono ?_; rintro e w' ⟨rfl, rfl⟩))
  go_ret
  exact ⟨rfl, (HO.out.alloc _).below (Nat.le_refl _) (by simp)⟩
end Go.Proofs.Ytdkbjnnflpopdaa
