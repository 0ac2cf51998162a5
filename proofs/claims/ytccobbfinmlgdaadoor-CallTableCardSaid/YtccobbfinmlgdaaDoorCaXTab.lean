/-
  The document's table of calls (gen_caxtab.py wrote this).
-/
import Derived.Test.YtccobbfinmlgdaaDoorCaXRow
namespace Go.Proofs.YtccobbfinmlgdaaDoor
open Go.ChangeShapes Go.WideShapes Go.ChangeAt Go.RowKit
set_option linter.unusedVariables false

def xentL : List EN := ⟨⟨#[]⟩, 0, []⟩ :: entL
theorem info_xcall : (Tryd.prog.info? 25).map (fun i => (i.zero, i.size, i.bytes)) = some (some (.agg #[.string .empty, .int .i64 0, .slice none 0 0]), 3, 48) := by kernel_rfl
theorem KRd.swap' {w : World} {B : Nat} {l : List (Value × List Int)} {a b : Value × List Int} (h : KRd w B (l ++ [a] ++ [b])) : KRd w B (l ++ [b] ++ [a]) := by
  rw [List.append_assoc] at h ⊢
  exact KRd.swap h
theorem wpList_halt {P : Program} {ops : Array Oper} {Q : Exit → Act → World → Prop} {l : List Oper} {a : Act} {w : World} (h : Hid (wpList P ops Q l a w)) : wpList P ops Q l a w := h.out
set_option maxHeartbeats 4000000 in
set_option maxRecDepth 100000 in
theorem xcalls_is (w : World) : Calls Tryd.prog 30 #[] w fun e w' => ∃ t, e = .returned t ∧ Tab 25 w' w.heap.size t xentL ∧ Only [] w w' := by
  obtain ⟨i0, hi, hz0, hz1, -⟩ := info_parts info_xcall
  have hi1 := hide hi
  have hi2 := hide hz0
  have hi3 := hide hz1
  clear hi hz0 hz1
  have HA := hide (KRd.none w w.heap.size)
  have HO := hide (Only.refl [] w)
  go_enter Tryd.func30, Tryd.ntmps30
  go_wp2_with fail
  refine (xtimes_is _ 4 16 (by decide)).mono ?_
  rintro e w0 ⟨v, rfl, h3, h4⟩
  obtain ⟨A0, c0, rfl, -⟩ := KRow.form h3
  have h1 := HA.out.add h4 HO.out.size h3
  have h2 := HO.out.trans h4
  clear h3 h4
  have HA' := hide h1
  have HO' := hide h2
  clear h1 h2 HA HO
  have HA := hide HA'.out
  have HO := hide HO'.out
  clear HA' HO'
  rw [show (List.replicate 16 (4 : Int)).length = 16 from rfl] at HA
  simp only [show (List.replicate 16 (4 : Int)).length = 16 from rfl]
  go_wp2_with (refine wpList_build_d _ _ HA.out HO.out [1, 2, 3] rfl rfl (by decide) (by kernel_rfl) ?_; intro b1 w1 h1 h2; refine wpList_halt ?_)
  have HA' := hide h1
  have HO' := hide h2
  clear h1 h2 HA HO
  have HA := hide HA'.out
  have HO := hide HO'.out
  clear HA' HO'
  refine hide ?_
  go_wp2_with (refine wpList_append_d rfl (.tmp 5) (.tmp 6) rfl HA.out HO.out rfl rfl (HA.out.1 (_, List.replicate 16 (4 : Int)) (by simp)) (by simp) ?_; intro A2 c2 w2 h1 h2; refine wpList_halt ?_)
  have HA' := hide h1
  have HO' := hide h2
  clear h1 h2 HA HO
  have HA := hide HA'.out
  have HO := hide HO'.out
  clear HA' HO'
  rw [show List.length (α := Int) ([1, 2, 3] ++ List.replicate 16 (4 : Int)) = 19 from rfl] at HA
  refine hide ?_
  go_wp2_with (refine wpList_build_d _ _ HA.out HO.out [9] rfl rfl (by decide) (by kernel_rfl) ?_; intro b3 w3 h1 h2; refine wpList_halt ?_)
  have HA' := hide h1
  have HO' := hide h2
  clear h1 h2 HA HO
  have HA := hide HA'.out
  have HO := hide HO'.out
  clear HA' HO'
  refine hide ?_
  go_wp2_with (refine wpList_build_d _ _ HA.out HO.out [2] rfl rfl (by decide) (by kernel_rfl) ?_; intro b4 w4 h1 h2; refine wpList_halt ?_)
  have HA' := hide h1
  have HO' := hide h2
  clear h1 h2 HA HO
  have HA := hide HA'.out
  have HO := hide HO'.out
  clear HA' HO'
  refine hide ?_
  go_wp2_with (refine wpList_build_d _ _ HA.out HO.out [9] rfl rfl (by decide) (by kernel_rfl) ?_; intro b5 w5 h1 h2; refine wpList_halt ?_)
  have HA' := hide h1
  have HO' := hide h2
  clear h1 h2 HA HO
  have HA := hide HA'.out
  have HO := hide HO'.out
  clear HA' HO'
  refine hide ?_
  go_wp2_with (refine wpList_build_d _ _ HA.out HO.out [9] rfl rfl (by decide) (by kernel_rfl) ?_; intro b6 w6 h1 h2; refine wpList_halt ?_)
  have HA' := hide h1
  have HO' := hide h2
  clear h1 h2 HA HO
  have HA := hide HA'.out
  have HO := hide HO'.out
  clear HA' HO'
  refine hide ?_
  go_wp2_with (refine wpList_build_d _ _ HA.out HO.out [4] rfl rfl (by decide) (by kernel_rfl) ?_; intro b7 w7 h1 h2; refine wpList_halt ?_)
  have HA' := hide h1
  have HO' := hide h2
  clear h1 h2 HA HO
  have HA := hide HA'.out
  have HO := hide HO'.out
  clear HA' HO'
  refine hide ?_
  go_wp2_with (refine wpList_build_d _ _ HA.out HO.out [4] rfl rfl (by decide) (by kernel_rfl) ?_; intro b8 w8 h1 h2; refine wpList_halt ?_)
  have HA' := hide h1
  have HO' := hide h2
  clear h1 h2 HA HO
  have HA := hide HA'.out
  have HO := hide HO'.out
  clear HA' HO'
  refine hide ?_
  go_wp2_with (refine wpList_build_d _ _ HA.out HO.out [5, 7, 7, 10] rfl rfl (by decide) (by kernel_rfl) ?_; intro b9 w9 h1 h2; refine wpList_halt ?_)
  have HA' := hide h1
  have HO' := hide h2
  clear h1 h2 HA HO
  have HA := hide HA'.out
  have HO := hide HO'.out
  clear HA' HO'
  refine hide ?_
  go_wp2_with (refine wpList_build_d _ _ HA.out HO.out [9] rfl rfl (by decide) (by kernel_rfl) ?_; intro b10 w10 h1 h2; refine wpList_halt ?_)
  have HA' := hide h1
  have HO' := hide h2
  clear h1 h2 HA HO
  have HA := hide HA'.out
  have HO := hide HO'.out
  clear HA' HO'
  refine hide ?_
  go_wp2_with (refine wpList_build_d _ _ HA.out HO.out [9] rfl rfl (by decide) (by kernel_rfl) ?_; intro b11 w11 h1 h2; refine wpList_halt ?_)
  have HA' := hide h1
  have HO' := hide h2
  clear h1 h2 HA HO
  have HA := hide HA'.out
  have HO := hide HO'.out
  clear HA' HO'
  refine hide ?_
  go_wp2_with (refine wpList_build_d _ _ HA.out HO.out [5, 5, 6] rfl rfl (by decide) (by kernel_rfl) ?_; intro b12 w12 h1 h2; refine wpList_halt ?_)
  have HA' := hide h1
  have HO' := hide h2
  clear h1 h2 HA HO
  have HA := hide HA'.out
  have HO := hide HO'.out
  clear HA' HO'
  refine hide ?_
  go_wp2_with (refine wpList_build_d _ _ HA.out HO.out [7, 7, 10] rfl rfl (by decide) (by kernel_rfl) ?_; intro b13 w13 h1 h2; refine wpList_halt ?_)
  have HA' := hide h1
  have HO' := hide h2
  clear h1 h2 HA HO
  have HA := hide HA'.out
  have HO := hide HO'.out
  clear HA' HO'
  refine hide ?_
  go_wp2_with (refine wpList_build_d _ _ HA.out HO.out [7, 7] rfl rfl (by decide) (by kernel_rfl) ?_; intro b14 w14 h1 h2; refine wpList_halt ?_)
  have HA' := hide h1
  have HO' := hide h2
  clear h1 h2 HA HO
  have HA := hide HA'.out
  have HO := hide HO'.out
  clear HA' HO'
  refine hide ?_
  go_wp2_with fail
  refine (xtimes_is _ 7 4 (by decide)).mono ?_
  rintro e w15 ⟨v, rfl, h3, h4⟩
  obtain ⟨A15, c15, rfl, -⟩ := KRow.form h3
  have h1 := HA.out.add h4 HO.out.size h3
  have h2 := HO.out.trans h4
  clear h3 h4
  have HA' := hide h1
  have HO' := hide h2
  clear h1 h2 HA HO
  have HA := hide HA'.out
  have HO := hide HO'.out
  clear HA' HO'
  rw [show (List.replicate 4 (7 : Int)).length = 4 from rfl] at HA
  simp only [show (List.replicate 4 (7 : Int)).length = 4 from rfl]
  go_wp2_with fail
  refine (xtimes_is _ 7 4 (by decide)).mono ?_
  rintro e w16 ⟨v, rfl, h3, h4⟩
  obtain ⟨A16, c16, rfl, -⟩ := KRow.form h3
  have h1 := HA.out.add h4 HO.out.size h3
  have h2 := HO.out.trans h4
  clear h3 h4
  have HA' := hide h1
  have HO' := hide h2
  clear h1 h2 HA HO
  have HA := hide HA'.out
  have HO := hide HO'.out
  clear HA' HO'
  rw [show (List.replicate 4 (7 : Int)).length = 4 from rfl] at HA
  simp only [show (List.replicate 4 (7 : Int)).length = 4 from rfl]
  go_wp2_with fail
  refine (xtimes_is _ 8 4 (by decide)).mono ?_
  rintro e w17 ⟨v, rfl, h3, h4⟩
  obtain ⟨A17, c17, rfl, -⟩ := KRow.form h3
  have h1 := HA.out.add h4 HO.out.size h3
  have h2 := HO.out.trans h4
  clear h3 h4
  have HA' := hide h1
  have HO' := hide h2
  clear h1 h2 HA HO
  have HA := hide HA'.out
  have HO := hide HO'.out
  clear HA' HO'
  rw [show (List.replicate 4 (8 : Int)).length = 4 from rfl] at HA
  simp only [show (List.replicate 4 (8 : Int)).length = 4 from rfl]
  go_wp2_with (refine wpList_build_d _ _ HA.out HO.out [3] rfl rfl (by decide) (by kernel_rfl) ?_; intro b18 w18 h1 h2; refine wpList_halt ?_)
  have HA' := hide h1
  have HO' := hide h2
  clear h1 h2 HA HO
  have HA := hide HA'.out
  have HO := hide HO'.out
  clear HA' HO'
  refine hide ?_
  go_wp2_with (refine wpList_append_d rfl (.tmp 46) (.tmp 47) rfl HA.out HO.out rfl rfl (HA.out.1 (_, List.replicate 16 (4 : Int)) (by simp)) (by simp) ?_; intro A19 c19 w19 h1 h2; refine wpList_halt ?_)
  have HA' := hide h1
  have HO' := hide h2
  clear h1 h2 HA HO
  have HA := hide HA'.out
  have HO := hide HO'.out
  clear HA' HO'
  rw [show List.length (α := Int) ([3] ++ List.replicate 16 (4 : Int)) = 17 from rfl] at HA
  refine hide ?_
  go_wp2_with (refine wpList_build_d _ _ HA.out HO.out [7, 7] rfl rfl (by decide) (by kernel_rfl) ?_; intro b20 w20 h1 h2; refine wpList_halt ?_)
  have HA' := hide h1
  have HO' := hide h2
  clear h1 h2 HA HO
  have HA := hide HA'.out
  have HO := hide HO'.out
  clear HA' HO'
  refine hide ?_
  go_wp2_with (refine wpList_append_d rfl (.tmp 48) (.tmp 49) rfl HA.out.swap' HO.out rfl rfl (HA.out.1 (_, [7, 7]) (by simp)) (by simp) ?_; intro A21 c21 w21 h1 h2; refine wpList_halt ?_)
  have HA' := hide h1
  have HO' := hide h2
  clear h1 h2 HA HO
  have HA := hide HA'.out
  have HO := hide HO'.out
  clear HA' HO'
  rw [show List.length (α := Int) ([3] ++ List.replicate 16 (4 : Int) ++ [7, 7]) = 19 from rfl] at HA
  refine hide ?_
  go_wp2_with (refine wpList_build_d _ _ HA.out HO.out [9] rfl rfl (by decide) (by kernel_rfl) ?_; intro b22 w22 h1 h2; refine wpList_halt ?_)
  have HA' := hide h1
  have HO' := hide h2
  clear h1 h2 HA HO
  have HA := hide HA'.out
  have HO := hide HO'.out
  clear HA' HO'
  refine hide ?_
  go_wp2_with (refine wpList_buildSlice rfl _ _ _ rfl _ (by simp [partsE, xentL, entL, Act.eval]) _ _ (run_buildTab 51 25 Tryd.underlying51 hi1.out hi2.out hi3.out xentL [.slice none 0 0, .slice none 0 0, .slice A2 19 c2, .slice (some ⟨b3, 0, none⟩) 1 1, .slice none 0 0, .slice none 0 0, .slice (some ⟨b4, 0, none⟩) 1 1, .slice (some ⟨b5, 0, none⟩) 1 1, .slice none 0 0, .slice (some ⟨b6, 0, none⟩) 1 1, .slice none 0 0, .slice (some ⟨b7, 0, none⟩) 1 1, .slice (some ⟨b8, 0, none⟩) 1 1, .slice (some ⟨b9, 0, none⟩) 4 4, .slice none 0 0, .slice (some ⟨b10, 0, none⟩) 1 1, .slice (some ⟨b11, 0, none⟩) 1 1, .slice none 0 0, .slice (some ⟨b12, 0, none⟩) 3 3, .slice (some ⟨b13, 0, none⟩) 3 3, .slice (some ⟨b14, 0, none⟩) 2 2, .slice A15 4 c15, .slice A16 4 c16, .slice none 0 0, .slice A17 4 c17, .slice A21 19 c21, .slice none 0 0, .slice none 0 0, .slice none 0 0, .slice none 0 0, .slice (some ⟨b22, 0, none⟩) 1 1] 31 rfl rfl (by decide) (by decide) _) ?_)
  go_ret
  refine ⟨_, rfl, ⟨_, [.slice none 0 0, .slice none 0 0, .slice A2 19 c2, .slice (some ⟨b3, 0, none⟩) 1 1, .slice none 0 0, .slice none 0 0, .slice (some ⟨b4, 0, none⟩) 1 1, .slice (some ⟨b5, 0, none⟩) 1 1, .slice none 0 0, .slice (some ⟨b6, 0, none⟩) 1 1, .slice none 0 0, .slice (some ⟨b7, 0, none⟩) 1 1, .slice (some ⟨b8, 0, none⟩) 1 1, .slice (some ⟨b9, 0, none⟩) 4 4, .slice none 0 0, .slice (some ⟨b10, 0, none⟩) 1 1, .slice (some ⟨b11, 0, none⟩) 1 1, .slice none 0 0, .slice (some ⟨b12, 0, none⟩) 3 3, .slice (some ⟨b13, 0, none⟩) 3 3, .slice (some ⟨b14, 0, none⟩) 2 2, .slice A15 4 c15, .slice A16 4 c16, .slice none 0 0, .slice A17 4 c17, .slice A21 19 c21, .slice none 0 0, .slice none 0 0, .slice none 0 0, .slice none 0 0, .slice (some ⟨b22, 0, none⟩) 1 1], rfl, HO.out.size, Blk.new _ _ _, rfl, ?_⟩, HO.out.alloc _⟩
  refine KRs.grow (w := w22) ?_ ((Only.refl [] _).alloc _)
  have h := HA.out.1
  clear HA HO
  intro p hp
  simp only [xentL, entL, List.map_cons, List.map_nil, List.zip_cons_cons, List.zip_nil_right, List.mem_cons, List.not_mem_nil, or_false] at hp
  rcases hp with rfl | rfl | rfl | rfl | rfl | rfl | rfl | rfl | rfl | rfl | rfl | rfl | rfl | rfl | rfl | rfl | rfl | rfl | rfl | rfl | rfl | rfl | rfl | rfl | rfl | rfl | rfl | rfl | rfl | rfl | rfl <;> first | exact KR.nil _ _ | exact h _ (by simp)
end Go.Proofs.YtccobbfinmlgdaaDoor
