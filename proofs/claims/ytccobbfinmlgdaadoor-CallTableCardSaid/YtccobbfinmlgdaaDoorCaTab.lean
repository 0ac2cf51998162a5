/-
  Calls (parapet/call): the table of all calls (gen_catab.py wrote this).
-/
import Derived.Test.YtccobbfinmlgdaaDoorCaFill
namespace Go.Proofs.YtccobbfinmlgdaaDoor
open Go.ChangeShapes Go.WideShapes Go.ChangeAt Go.RowKit
set_option linter.unusedVariables false

theorem info_entry : (Tryd.prog.info? 54).map (fun i => (i.zero, i.size, i.bytes)) = some (some (.agg #[.string .empty, .int .i64 0, .slice none 0 0]), 3, 48) := by kernel_rfl
set_option maxHeartbeats 8000000 in
set_option maxRecDepth 100000 in
theorem ctable_is (w : World) : Calls Tryd.prog 33 #[] w fun e w' => ∃ t, e = .returned t ∧ Tab 54 w' w.heap.size t entL ∧ Only [] w w' := by
  have HA := hide (KRs.none w w.heap.size)
  have HO := hide (Only.refl [] w)
  obtain ⟨i0, hi, hz0, hz1, -⟩ := info_parts info_entry
  have hi1 := hide hi
  have hi2 := hide hz0
  have hi3 := hide hz1
  clear hi hz0 hz1
  go_enter Tryd.func33, Tryd.ntmps33
  go_wp2_with fail
  refine (takes_add (ks' := []) HA.out HO.out ⟨#[101, 120, 105, 116]⟩ 1 (Only.refl [] w) (KR.nil w _) (by decide) (sortK_eq (by decide) (by decide))).mono ?_
  rintro e w1 ⟨rfl, a, b⟩
  have HA' := hide a
  have HO' := hide b
  clear a b HA HO
  have HA := hide HA'.out
  have HO := hide HO'.out
  clear HA' HO'
  go_wp2_with fail
  refine (cwith_is 16 (by decide) (by decide) 4 _ [1, 2, 3] _ _ (kr_new w1 [1, 2, 3] (by decide)) (by decide)).mono ?_
  rintro e u1 ⟨k1, rfl, a1, b1⟩
  have AK := hide (a1.low ((Only.refl [] w1).alloc _).size)
  have BK := hide (((Only.refl [] w1).alloc _).trans b1)
  clear a1 b1
  go_wp2_with fail
  refine (takes_add (ks' := [1, 2, 3, 4, 4, 4, 4, 4, 4, 4, 4, 4, 4, 4, 4, 4, 4, 4, 4]) HA.out HO.out ⟨#[102, 111, 114, 107]⟩ 0 BK.out AK.out (by decide) (sortK_eq (by decide) (by decide))).mono ?_
  rintro e w2 ⟨rfl, a, b⟩
  have HA' := hide a
  have HO' := hide b
  clear a b HA HO AK BK
  have HA := hide HA'.out
  have HO := hide HO'.out
  clear HA' HO'
  go_wp2_with fail
  refine (takes_add (ks' := [9]) HA.out HO.out ⟨#[119, 97, 105, 116]⟩ 1 ((Only.refl [] w2).alloc _) (kr_new w2 [9] (by decide)) (by decide) (sortK_eq (by decide) (by decide))).mono ?_
  rintro e w3 ⟨rfl, a, b⟩
  have HA' := hide a
  have HO' := hide b
  clear a b HA HO
  have HA := hide HA'.out
  have HO := hide HO'.out
  clear HA' HO'
  go_wp2_with fail
  refine (takes_add (ks' := []) HA.out HO.out ⟨#[107, 105, 108, 108]⟩ 1 (Only.refl [] w3) (KR.nil w3 _) (by decide) (sortK_eq (by decide) (by decide))).mono ?_
  rintro e w4 ⟨rfl, a, b⟩
  have HA' := hide a
  have HO' := hide b
  clear a b HA HO
  have HA := hide HA'.out
  have HO := hide HO'.out
  clear HA' HO'
  go_wp2_with fail
  refine (takes_add (ks' := []) HA.out HO.out ⟨#[103, 101, 116, 112, 105, 100]⟩ 0 (Only.refl [] w4) (KR.nil w4 _) (by decide) (sortK_eq (by decide) (by decide))).mono ?_
  rintro e w5 ⟨rfl, a, b⟩
  have HA' := hide a
  have HO' := hide b
  clear a b HA HO
  have HA := hide HA'.out
  have HO := hide HO'.out
  clear HA' HO'
  go_wp2_with fail
  refine (takes_add (ks' := [2]) HA.out HO.out ⟨#[115, 112, 97, 119, 110]⟩ 3 ((Only.refl [] w5).alloc _) (kr_new w5 [2] (by decide)) (by decide) (sortK_eq (by decide) (by decide))).mono ?_
  rintro e w6 ⟨rfl, a, b⟩
  have HA' := hide a
  have HO' := hide b
  clear a b HA HO
  have HA := hide HA'.out
  have HO := hide HO'.out
  clear HA' HO'
  go_wp2_with fail
  refine (takes_add (ks' := [9]) HA.out HO.out ⟨#[106, 111, 105, 110]⟩ 1 ((Only.refl [] w6).alloc _) (kr_new w6 [9] (by decide)) (by decide) (sortK_eq (by decide) (by decide))).mono ?_
  rintro e w7 ⟨rfl, a, b⟩
  have HA' := hide a
  have HO' := hide b
  clear a b HA HO
  have HA := hide HA'.out
  have HO := hide HO'.out
  clear HA' HO'
  go_wp2_with fail
  refine (takes_add (ks' := []) HA.out HO.out ⟨#[116, 101, 120, 105, 116]⟩ 1 (Only.refl [] w7) (KR.nil w7 _) (by decide) (sortK_eq (by decide) (by decide))).mono ?_
  rintro e w8 ⟨rfl, a, b⟩
  have HA' := hide a
  have HO' := hide b
  clear a b HA HO
  have HA := hide HA'.out
  have HO := hide HO'.out
  clear HA' HO'
  go_wp2_with fail
  refine (takes_add (ks' := [9]) HA.out HO.out ⟨#[102, 119, 97, 105, 116]⟩ 2 ((Only.refl [] w8).alloc _) (kr_new w8 [9] (by decide)) (by decide) (sortK_eq (by decide) (by decide))).mono ?_
  rintro e w9 ⟨rfl, a, b⟩
  have HA' := hide a
  have HO' := hide b
  clear a b HA HO
  have HA := hide HA'.out
  have HO := hide HO'.out
  clear HA' HO'
  go_wp2_with fail
  refine (takes_add (ks' := []) HA.out HO.out ⟨#[102, 119, 97, 107, 101]⟩ 2 (Only.refl [] w9) (KR.nil w9 _) (by decide) (sortK_eq (by decide) (by decide))).mono ?_
  rintro e w10 ⟨rfl, a, b⟩
  have HA' := hide a
  have HO' := hide b
  clear a b HA HO
  have HA := hide HA'.out
  have HO := hide HO'.out
  clear HA' HO'
  go_wp2_with fail
  refine (takes_add (ks' := [4]) HA.out HO.out ⟨#[109, 109, 97, 112]⟩ 1 ((Only.refl [] w10).alloc _) (kr_new w10 [4] (by decide)) (by decide) (sortK_eq (by decide) (by decide))).mono ?_
  rintro e w11 ⟨rfl, a, b⟩
  have HA' := hide a
  have HO' := hide b
  clear a b HA HO
  have HA := hide HA'.out
  have HO := hide HO'.out
  clear HA' HO'
  go_wp2_with fail
  refine (takes_add (ks' := [4]) HA.out HO.out ⟨#[109, 117, 110, 109, 97, 112]⟩ 2 ((Only.refl [] w11).alloc _) (kr_new w11 [4] (by decide)) (by decide) (sortK_eq (by decide) (by decide))).mono ?_
  rintro e w12 ⟨rfl, a, b⟩
  have HA' := hide a
  have HO' := hide b
  clear a b HA HO
  have HA := hide HA'.out
  have HO := hide HO'.out
  clear HA' HO'
  go_wp2_with fail
  refine (cwith_is 2 (by decide) (by decide) 7 _ [5, 10] _ _ (kr_new w12 [5, 10] (by decide)) (by decide)).mono ?_
  rintro e u12 ⟨k12, rfl, a12, b12⟩
  have AK := hide (a12.low ((Only.refl [] w12).alloc _).size)
  have BK := hide (((Only.refl [] w12).alloc _).trans b12)
  clear a12 b12
  go_wp2_with fail
  refine (takes_add (ks' := [5, 7, 7, 10]) HA.out HO.out ⟨#[111, 112, 101, 110]⟩ 2 BK.out AK.out (by decide) (sortK_eq (by decide) (by decide))).mono ?_
  rintro e w13 ⟨rfl, a, b⟩
  have HA' := hide a
  have HO' := hide b
  clear a b HA HO AK BK
  have HA := hide HA'.out
  have HO := hide HO'.out
  clear HA' HO'
  go_wp2_with fail
  refine (takes_add (ks' := []) HA.out HO.out ⟨#[99, 108, 111, 115, 101]⟩ 1 (Only.refl [] w13) (KR.nil w13 _) (by decide) (sortK_eq (by decide) (by decide))).mono ?_
  rintro e w14 ⟨rfl, a, b⟩
  have HA' := hide a
  have HO' := hide b
  clear a b HA HO
  have HA := hide HA'.out
  have HO := hide HO'.out
  clear HA' HO'
  go_wp2_with fail
  refine (takes_add (ks' := [9]) HA.out HO.out ⟨#[114, 101, 97, 100]⟩ 3 ((Only.refl [] w14).alloc _) (kr_new w14 [9] (by decide)) (by decide) (sortK_eq (by decide) (by decide))).mono ?_
  rintro e w15 ⟨rfl, a, b⟩
  have HA' := hide a
  have HO' := hide b
  clear a b HA HO
  have HA := hide HA'.out
  have HO := hide HO'.out
  clear HA' HO'
  go_wp2_with fail
  refine (takes_add (ks' := [9]) HA.out HO.out ⟨#[119, 114, 105, 116, 101]⟩ 3 ((Only.refl [] w15).alloc _) (kr_new w15 [9] (by decide)) (by decide) (sortK_eq (by decide) (by decide))).mono ?_
  rintro e w16 ⟨rfl, a, b⟩
  have HA' := hide a
  have HO' := hide b
  clear a b HA HO
  have HA := hide HA'.out
  have HO := hide HO'.out
  clear HA' HO'
  go_wp2_with fail
  refine (takes_add (ks' := []) HA.out HO.out ⟨#[100, 117, 112]⟩ 1 (Only.refl [] w16) (KR.nil w16 _) (by decide) (sortK_eq (by decide) (by decide))).mono ?_
  rintro e w17 ⟨rfl, a, b⟩
  have HA' := hide a
  have HO' := hide b
  clear a b HA HO
  have HA := hide HA'.out
  have HO := hide HO'.out
  clear HA' HO'
  go_wp2_with fail
  refine (cwith_is 2 (by decide) (by decide) 5 _ [6] _ _ (kr_new w17 [6] (by decide)) (by decide)).mono ?_
  rintro e u17 ⟨k17, rfl, a17, b17⟩
  have AK := hide (a17.low ((Only.refl [] w17).alloc _).size)
  have BK := hide (((Only.refl [] w17).alloc _).trans b17)
  clear a17 b17
  go_wp2_with fail
  refine (takes_add (ks' := [5, 5, 6]) HA.out HO.out ⟨#[112, 105, 112, 101]⟩ 1 BK.out AK.out (by decide) (sortK_eq (by decide) (by decide))).mono ?_
  rintro e w18 ⟨rfl, a, b⟩
  have HA' := hide a
  have HO' := hide b
  clear a b HA HO AK BK
  have HA := hide HA'.out
  have HO := hide HO'.out
  clear HA' HO'
  go_wp2_with fail
  refine (cwith_is 2 (by decide) (by decide) 7 _ [10] _ _ (kr_new w18 [10] (by decide)) (by decide)).mono ?_
  rintro e u18 ⟨k18, rfl, a18, b18⟩
  have AK := hide (a18.low ((Only.refl [] w18).alloc _).size)
  have BK := hide (((Only.refl [] w18).alloc _).trans b18)
  clear a18 b18
  go_wp2_with fail
  refine (takes_add (ks' := [7, 7, 10]) HA.out HO.out ⟨#[109, 107, 100, 105, 114]⟩ 1 BK.out AK.out (by decide) (sortK_eq (by decide) (by decide))).mono ?_
  rintro e w19 ⟨rfl, a, b⟩
  have HA' := hide a
  have HO' := hide b
  clear a b HA HO AK BK
  have HA := hide HA'.out
  have HO := hide HO'.out
  clear HA' HO'
  go_wp2_with fail
  refine (cwith_is 2 (by decide) (by decide) 7 _ [] _ _ (KR.nil w19 0) (by decide)).mono ?_
  rintro e u19 ⟨k19, rfl, a19, b19⟩
  have AK := hide (a19.low (Only.refl [] w19).size)
  have BK := hide ((Only.refl [] w19).trans b19)
  clear a19 b19
  go_wp2_with fail
  refine (takes_add (ks' := [7, 7]) HA.out HO.out ⟨#[117, 110, 108, 105, 110, 107]⟩ 1 BK.out AK.out (by decide) (sortK_eq (by decide) (by decide))).mono ?_
  rintro e w20 ⟨rfl, a, b⟩
  have HA' := hide a
  have HO' := hide b
  clear a b HA HO AK BK
  have HA := hide HA'.out
  have HO := hide HO'.out
  clear HA' HO'
  go_wp2_with fail
  refine (cwith_is 4 (by decide) (by decide) 7 _ [] _ _ (KR.nil w20 0) (by decide)).mono ?_
  rintro e u20 ⟨k20, rfl, a20, b20⟩
  have AK := hide (a20.low (Only.refl [] w20).size)
  have BK := hide ((Only.refl [] w20).trans b20)
  clear a20 b20
  go_wp2_with fail
  refine (takes_add (ks' := [7, 7, 7, 7]) HA.out HO.out ⟨#[108, 105, 110, 107]⟩ 2 BK.out AK.out (by decide) (sortK_eq (by decide) (by decide))).mono ?_
  rintro e w21 ⟨rfl, a, b⟩
  have HA' := hide a
  have HO' := hide b
  clear a b HA HO AK BK
  have HA := hide HA'.out
  have HO := hide HO'.out
  clear HA' HO'
  go_wp2_with fail
  refine (cwith_is 4 (by decide) (by decide) 7 _ [] _ _ (KR.nil w21 0) (by decide)).mono ?_
  rintro e u21 ⟨k21, rfl, a21, b21⟩
  have AK := hide (a21.low (Only.refl [] w21).size)
  have BK := hide ((Only.refl [] w21).trans b21)
  clear a21 b21
  go_wp2_with fail
  refine (takes_add (ks' := [7, 7, 7, 7]) HA.out HO.out ⟨#[114, 101, 110, 97, 109, 101]⟩ 2 BK.out AK.out (by decide) (sortK_eq (by decide) (by decide))).mono ?_
  rintro e w22 ⟨rfl, a, b⟩
  have HA' := hide a
  have HO' := hide b
  clear a b HA HO AK BK
  have HA := hide HA'.out
  have HO := hide HO'.out
  clear HA' HO'
  go_wp2_with fail
  refine (takes_add (ks' := []) HA.out HO.out ⟨#[115, 105, 122, 101]⟩ 1 (Only.refl [] w22) (KR.nil w22 _) (by decide) (sortK_eq (by decide) (by decide))).mono ?_
  rintro e w23 ⟨rfl, a, b⟩
  have HA' := hide a
  have HO' := hide b
  clear a b HA HO
  have HA := hide HA'.out
  have HO := hide HO'.out
  clear HA' HO'
  go_wp2_with fail
  refine (cwith_is 4 (by decide) (by decide) 8 _ [] _ _ (KR.nil w23 0) (by decide)).mono ?_
  rintro e u23 ⟨k23, rfl, a23, b23⟩
  have AK := hide (a23.low (Only.refl [] w23).size)
  have BK := hide ((Only.refl [] w23).trans b23)
  clear a23 b23
  go_wp2_with fail
  refine (takes_add (ks' := [8, 8, 8, 8]) HA.out HO.out ⟨#[115, 121, 110, 99]⟩ 0 BK.out AK.out (by decide) (sortK_eq (by decide) (by decide))).mono ?_
  rintro e w24 ⟨rfl, a, b⟩
  have HA' := hide a
  have HO' := hide b
  clear a b HA HO AK BK
  have HA := hide HA'.out
  have HO := hide HO'.out
  clear HA' HO'
  go_wp2_with fail
  refine (cwith_is 16 (by decide) (by decide) 4 _ [3, 7, 7] _ _ (kr_new w24 [3, 7, 7] (by decide)) (by decide)).mono ?_
  rintro e u24 ⟨k24, rfl, a24, b24⟩
  have AK := hide (a24.low ((Only.refl [] w24).alloc _).size)
  have BK := hide (((Only.refl [] w24).alloc _).trans b24)
  clear a24 b24
  go_wp2_with fail
  refine (takes_add (ks' := [3, 4, 4, 4, 4, 4, 4, 4, 4, 4, 4, 4, 4, 4, 4, 4, 4, 7, 7]) HA.out HO.out ⟨#[101, 120, 101, 99]⟩ 1 BK.out AK.out (by decide) (sortK_eq (by decide) (by decide))).mono ?_
  rintro e w25 ⟨rfl, a, b⟩
  have HA' := hide a
  have HO' := hide b
  clear a b HA HO AK BK
  have HA := hide HA'.out
  have HO := hide HO'.out
  clear HA' HO'
  go_wp2_with fail
  refine (takes_add (ks' := []) HA.out HO.out ⟨#[121, 105, 101, 108, 100]⟩ 0 (Only.refl [] w25) (KR.nil w25 _) (by decide) (sortK_eq (by decide) (by decide))).mono ?_
  rintro e w26 ⟨rfl, a, b⟩
  have HA' := hide a
  have HO' := hide b
  clear a b HA HO
  have HA := hide HA'.out
  have HO := hide HO'.out
  clear HA' HO'
  go_wp2_with fail
  refine (takes_add (ks' := []) HA.out HO.out ⟨#[115, 101, 101, 107]⟩ 2 (Only.refl [] w26) (KR.nil w26 _) (by decide) (sortK_eq (by decide) (by decide))).mono ?_
  rintro e w27 ⟨rfl, a, b⟩
  have HA' := hide a
  have HO' := hide b
  clear a b HA HO
  have HA := hide HA'.out
  have HO := hide HO'.out
  clear HA' HO'
  go_wp2_with fail
  refine (takes_add (ks' := []) HA.out HO.out ⟨#[103, 101, 116, 116, 105, 100]⟩ 0 (Only.refl [] w27) (KR.nil w27 _) (by decide) (sortK_eq (by decide) (by decide))).mono ?_
  rintro e w28 ⟨rfl, a, b⟩
  have HA' := hide a
  have HO' := hide b
  clear a b HA HO
  have HA := hide HA'.out
  have HO := hide HO'.out
  clear HA' HO'
  go_wp2_with fail
  refine (takes_add (ks' := []) HA.out HO.out ⟨#[116, 105, 99, 107, 115]⟩ 0 (Only.refl [] w28) (KR.nil w28 _) (by decide) (sortK_eq (by decide) (by decide))).mono ?_
  rintro e w29 ⟨rfl, a, b⟩
  have HA' := hide a
  have HO' := hide b
  clear a b HA HO
  have HA := hide HA'.out
  have HO := hide HO'.out
  clear HA' HO'
  go_wp2_with fail
  refine (takes_add (ks' := [9]) HA.out HO.out ⟨#[112, 111, 108, 108]⟩ 2 ((Only.refl [] w29).alloc _) (kr_new w29 [9] (by decide)) (by decide) (sortK_eq (by decide) (by decide))).mono ?_
  rintro e w30 ⟨rfl, a, b⟩
  have HA' := hide a
  have HO' := hide b
  clear a b HA HO
  have HA := hide HA'.out
  have HO := hide HO'.out
  clear HA' HO'
  go_wp2_with (refine wpList_buildSlice rfl _ _ _ rfl _ (by simp [partsE, entL, Act.eval]) _ _ (run_buildTab 56 54 Tryd.underlying56 hi1.out hi2.out hi3.out entL [.slice none 0 0, k1, .slice (some ⟨w2.heap.size, 0, none⟩) 1 1, .slice none 0 0, .slice none 0 0, .slice (some ⟨w5.heap.size, 0, none⟩) 1 1, .slice (some ⟨w6.heap.size, 0, none⟩) 1 1, .slice none 0 0, .slice (some ⟨w8.heap.size, 0, none⟩) 1 1, .slice none 0 0, .slice (some ⟨w10.heap.size, 0, none⟩) 1 1, .slice (some ⟨w11.heap.size, 0, none⟩) 1 1, k12, .slice none 0 0, .slice (some ⟨w14.heap.size, 0, none⟩) 1 1, .slice (some ⟨w15.heap.size, 0, none⟩) 1 1, .slice none 0 0, k17, k18, k19, k20, k21, .slice none 0 0, k23, k24, .slice none 0 0, .slice none 0 0, .slice none 0 0, .slice none 0 0, .slice (some ⟨w29.heap.size, 0, none⟩) 1 1] 30 rfl rfl (by decide) (by decide) _) ?_)
  go_ret
  refine ⟨_, rfl, ⟨_, [.slice none 0 0, k1, .slice (some ⟨w2.heap.size, 0, none⟩) 1 1, .slice none 0 0, .slice none 0 0, .slice (some ⟨w5.heap.size, 0, none⟩) 1 1, .slice (some ⟨w6.heap.size, 0, none⟩) 1 1, .slice none 0 0, .slice (some ⟨w8.heap.size, 0, none⟩) 1 1, .slice none 0 0, .slice (some ⟨w10.heap.size, 0, none⟩) 1 1, .slice (some ⟨w11.heap.size, 0, none⟩) 1 1, k12, .slice none 0 0, .slice (some ⟨w14.heap.size, 0, none⟩) 1 1, .slice (some ⟨w15.heap.size, 0, none⟩) 1 1, .slice none 0 0, k17, k18, k19, k20, k21, .slice none 0 0, k23, k24, .slice none 0 0, .slice none 0 0, .slice none 0 0, .slice none 0 0, .slice (some ⟨w29.heap.size, 0, none⟩) 1 1], rfl, HO.out.size, Blk.new _ _ _, rfl, ?_⟩, HO.out.alloc _⟩
  refine KRs.grow (w := w30) ?_ ((Only.refl [] _).alloc _)
  have h := HA.out
  simpa only [List.nil_append, List.cons_append, entL, List.map_cons, List.map_nil, List.zip_cons_cons, List.zip_nil_right, List.length_cons, List.length_nil, Nat.zero_add, Nat.reduceAdd] using h
end Go.Proofs.YtccobbfinmlgdaaDoor
