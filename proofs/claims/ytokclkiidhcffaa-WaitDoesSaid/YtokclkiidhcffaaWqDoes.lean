/-
  WaitDoes: one call of the law's does, where it only looks.
-/
import Derived.Test.YtokclkiidhcffaaWqBo
import Derived.Deep.RegionHeld3
namespace Go.Proofs.Ytokclkiidhcffaa
open Go.ChangeShapes Go.WideShapes Go.ChangeAt Go.RowKit Go.Maps
set_option linter.unusedVariables false
/-- A call's cells at a block's begin. -/
def OpD (W : World) (q : Nat) (x : OP12) : Prop := W.cell? ⟨q, 0, none⟩ = some (.int .i64 x.kind) ∧ W.cell? ⟨q, 1, none⟩ = some (.int .i64 x.tid) ∧ W.cell? ⟨q, 2, none⟩ = some (.slice x.A x.l.length x.c) ∧
    W.cell? ⟨q, 3, none⟩ = some (.int .i64 x.f.kind) ∧ W.cell? ⟨q, 4, none⟩ = some (.int .i64 x.f.a) ∧ W.cell? ⟨q, 5, none⟩ = some (.int .i64 x.f.b) ∧
    W.cell? ⟨q, 6, none⟩ = some (.int .i64 x.g.kind) ∧ W.cell? ⟨q, 7, none⟩ = some (.int .i64 x.g.a) ∧ W.cell? ⟨q, 8, none⟩ = some (.int .i64 x.g.b) ∧ W.cell? ⟨q, 9, none⟩ = some (.int .i64 x.n)
theorem opD_cells {W : World} {q : Nat} {x : OP12} (h : Blk W q 34 x.cells.toArray) : OpD W q x := by
  exact ⟨h.cell 0, h.cell 1, h.cell 2, h.cell 3, h.cell 4, h.cell 5, h.cell 6, h.cell 7, h.cell 8, h.cell 9⟩
section
variable {w0 w w' W : World} {g r m m' : Nat} {s s' : LW} {R R' : List SE} {xs ys F F' S : List Nat}
def DidB (w0 w w' : World) (g r m : Nat) (xs : List Nat) : Prop := ∃ s' R' F', Bm w0 w' g r m s' R' xs F' ∧ RelW s' R' ∧ ∀ k ∈ xs, w'.heap[k]? = w.heap[k]?
set_option maxHeartbeats 2000000 in
set_option maxRecDepth 100000 in
theorem does_look (h : Bm w0 w g r m s R xs F) (hR : RelW s R) (hm : m < 100000000000000000) {x : OP12} (ht : iW x.tid) (hf : x.f.wf) (h0 : x.kind ≠ 0) (h1 : x.kind ≠ 1) (h2 : x.kind ≠ 2) (h3 : x.kind ≠ 3) :
    Calls Try.prog 12 #[.pointer (some ⟨g, 0, none⟩), .pointer (some ⟨r, 0, none⟩), .agg x.cells.toArray] w fun e w' => e = .returned (.bool true) ∧ Only [] w w' := by
  have k0 : (x.kind == 0) = false := by simp [h0]
  have k1 : (x.kind == 1) = false := by simp [h1]
  have k2 : (x.kind == 2) = false := by simp [h2]
  have k3 : (x.kind == 3) = false := by simp [h3]
  have hB := h.quiet ((Only.refl [] w).alloc (.cells x.cells.toArray 34))
  have hBX := Blk.new w 34 x.cells.toArray
  have H1 := hide (show Only [] w (w.alloc (.cells x.cells.toArray 34)) from (Only.refl [] w).alloc _)
  have hn := seats_few hR
  have HX := hide (fun (W : World) (hW : Only [] (w.alloc (.cells x.cells.toArray 34)) W) => opD_cells (hBX.only hW (by simp)))
  have HSQ := hide (fun (W : World) (hW : Only [] (w.alloc (.cells x.cells.toArray 34)) W) => (lq_wsleepers (hB.quiet hW).q hm hf).mono (R' := fun e w' => ∃ v, e = .returned v ∧ ZsAt w' v (atL s.2 x.f) ∧ Only [] W w') (fun e w' ⟨v, p1, p2, _, p4⟩ => ⟨v, p1, p2.sees, p4⟩))
  have HSX := hide (fun (W : World) (hW : Only [] (w.alloc (.cells x.cells.toArray 34)) W) => (xslp_is (hB.quiet hW).x hn x.f).mono (R' := fun e w' => ∃ v, e = .returned v ∧ ZsAt w' v (atL s.2 x.f) ∧ Only [] W w') (fun e w' ⟨v, p1, p2, _, p4⟩ => ⟨v, p1, by rw [hR.ord] at p2; exact p2.sees, p4⟩))
  have HOQ := hide (fun (W : World) (hW : Only [] (w.alloc (.cells x.cells.toArray 34)) W) => (lq_won (hB.quiet hW).q ht).mono (R' := fun e w' => ∃ v, e = .returned v ∧ ChansAt w' v (atL s.1 x.tid) ∧ Only [] W w') (fun e w' ⟨v, p1, p2, _, p4⟩ => ⟨v, p1, p2.sees, p4⟩))
  have HOX := hide (fun (W : World) (hW : Only [] (w.alloc (.cells x.cells.toArray 34)) W) => (xon_is (hB.quiet hW).x hn x.tid).mono (R' := fun e w' => ∃ v, e = .returned v ∧ ChansAt w' v (atL s.1 x.tid) ∧ Only [] W w') (fun e w' ⟨v, p1, p2, _, p4⟩ => ⟨v, p1, by rw [onR_is hR] at p2; exact p2.sees, p4⟩))
  have HAQ := hide (fun (W : World) (hW : Only [] (w.alloc (.cells x.cells.toArray 34)) W) => (lq_wall (hB.quiet hW).q).mono (R' := fun e w' => ∃ v, e = .returned v ∧ ZsAt w' v (sort12 (s.1.map (·.1))) ∧ Only [] W w') (fun e w' ⟨v, p1, p2, _, p4⟩ => ⟨v, p1, p2.sees, p4⟩))
  have HAX := hide (fun (W : World) (hW : Only [] (w.alloc (.cells x.cells.toArray 34)) W) => (xall_is (hB.quiet hW).x hn).mono (R' := fun e w' => ∃ v, e = .returned v ∧ ZsAt w' v (sort12 (s.1.map (·.1))) ∧ Only [] W w') (fun e w' ⟨v, p1, p2, _, p4⟩ => ⟨v, p1, by rw [← allR_is hR] at p2; exact p2.sees, p4⟩))
  have HLN := hide (fun (W : World) (hW : Only [] (w.alloc (.cells x.cells.toArray 34)) W) => (lq_wlen (hB.quiet hW).q).mono (R' := fun e w' => e = .returned (.int .i64 (sort12 (s.1.map (·.1))).length) ∧ W = w') (fun e w' ⟨p1, p2⟩ => ⟨by rw [p1, sort12_length, List.length_map], p2⟩))
  have HFS := hide (show (atL s.2 x.f).length < 4000000000000 from by have := wake_in hR.ok x.f 0; omega)
  have HFO := hide (show (atL s.1 x.tid).length ≤ 1000 from by
    by_cases e : atL s.1 x.tid = []
    · rw [e]; simp
    · obtain ⟨p, hp, hpe⟩ := List.mem_map.1 (mem_atL e)
      rw [← hpe, atL_of_mem hR.ok.k1 hp]
      exact Nat.le_trans (hR.ok.on16 p hp) (by decide))
  have HFA := hide (show (sort12 (s.1.map (·.1))).length < 4000000000000 from by rw [sort12_length, List.length_map]; have := hR.ok.few; omega)
  generalize sort12 (s.1.map (·.1)) = la at *
  generalize atL s.2 x.f = ls at *
  generalize atL s.1 x.tid = lo at *
  clear h hB hBX hn hR h0 h1 h2 h3 ht hf
  unfold OP12.cells at *
  go_enter Try.func12, Try.ntmps12
  obtain ⟨d0, d1, d2, d3, d4, d5, d6, d7, d8, d9⟩ := HX.out _ (Only.refl _ _)
  go_wp2_with fail
  generalize w.alloc (.cells ([.int .i64 x.kind, .int .i64 x.tid, .slice x.A x.l.length x.c, .int .i64 x.f.kind, .int .i64 x.f.a, .int .i64 x.f.b, .int .i64 x.g.kind, .int .i64 x.g.a, .int .i64 x.g.b, .int .i64 x.n] : List Value).toArray 34) = W1 at *
  go_wp2_with (go_at_call 28; refine (HAX.out _ (by repeat (first | exact Only.refl _ _ | apply Only.drew | apply Only.drewN))).mono ?_; rintro e w2 ⟨v2, rfl, hz, ho⟩; obtain ⟨A2, c2, rfl, _⟩ := id hz)
  have HZA := hide (fun (W : World) (hW : Only [] w2 W) => hz.quiet hW)
  have HK2 := hide ho
  have hz2 := hide (HX.out _ ho)
  obtain ⟨f0, f1, f2, f3, f4, f5, f6, f7, f8, f9⟩ := hz2.out
  have kk : Only [] W1 w2 := ho
  clear hz ho d0 d1 d2 d3 d4 d5 d6 d7 d8 d9 hz2
  go_region_held3 (fun w' => w'.cell? ⟨w.heap.size, 1, none⟩ = some (.int .i64 x.tid) ∧ w'.cell? ⟨w.heap.size, 3, none⟩ = some (.int .i64 x.f.kind) ∧ w'.cell? ⟨w.heap.size, 4, none⟩ = some (.int .i64 x.f.a) ∧ w'.cell? ⟨w.heap.size, 5, none⟩ = some (.int .i64 x.f.b)) (first | go_keep | exact ⟨(HX.out _ kk).2.1, (HX.out _ kk).2.2.2.1, (HX.out _ kk).2.2.2.2.1, (HX.out _ kk).2.2.2.2.2.1⟩) (first | (go_at_call 18; have hg := HAQ2; refine (same12_is (HAQ2.out _ (by repeat (first | exact Only.refl _ _ | apply Only.drew | apply Only.drewN))) (HZA.out _ (by repeat (first | exact hka | apply Only.drew | apply Only.drewN))) HFA.out HFA.out).mono ?_; rintro e w9 ⟨rfl, ho⟩; have k9 : Only [] W1 w9 := Only.trans (by repeat (first | exact kk | apply Only.drew | apply Only.drewN)) ho; clear kk ho; have kk := k9; clear k9) | (go_at_call 18; refine (same12_is (HSS.out _ (by repeat (first | exact Only.refl _ _ | apply Only.drew | apply Only.drewN))).1 (HSS.out _ (by repeat (first | exact Only.refl _ _ | apply Only.drew | apply Only.drewN))).2 HFS.out HFS.out).mono ?_; rintro e w5 ⟨rfl, ho⟩; have k5 : Only [] W1 w5 := Only.trans (by repeat (first | exact kk | apply Only.drew | apply Only.drewN)) ho; have hka : Only [] w2 w5 := Only.trans (by repeat (first | exact hkb | apply Only.drew | apply Only.drewN)) ho; clear kk hkb ho; have kk := k5; have hkb := hka; clear k5 hka) | (go_at_call 14; refine (HSQ.out _ (by repeat (first | exact kk | apply Only.drew | apply Only.drewN))).mono ?_; rintro e w3 ⟨v3, rfl, hz, ho⟩; have HS1 := hide (fun (W : World) (hW : Only [] w3 W) => hz.quiet hW); have k3 : Only [] W1 w3 := Only.trans (by repeat (first | exact kk | apply Only.drew | apply Only.drewN)) ho; have hkb : Only [] w2 w3 := Only.trans (by repeat (first | exact Only.refl _ _ | apply Only.drew | apply Only.drewN)) ho; clear kk hz ho; have kk := k3; clear k3) | (go_at_call 29; refine (HSX.out _ (by repeat (first | exact kk | apply Only.drew | apply Only.drewN))).mono ?_; rintro e w4 ⟨v4, rfl, hz, ho⟩; have HSS := hide (fun (W : World) (hW : Only [] w4 W) => And.intro (HS1.out W ((Only.trans (by repeat (first | exact Only.refl _ _ | apply Only.drew | apply Only.drewN)) ho).trans hW)) (hz.quiet hW)); have k4 : Only [] W1 w4 := Only.trans (by repeat (first | exact kk | apply Only.drew | apply Only.drewN)) ho; have hkc : Only [] w2 w4 := Only.trans (by repeat (first | exact hkb | apply Only.drew | apply Only.drewN)) ho; clear kk hkb hz ho; have kk := k4; have hkb := hkc; clear k4 hkc) | (go_at_call 19; refine (HOQ.out _ (by repeat (first | exact kk | apply Only.drew | apply Only.drewN))).mono ?_; rintro e w6 ⟨v6, rfl, hz, ho⟩; have HC1 := hide (fun (W : World) (hW : Only [] w6 W) => hz.quiet hW); have k6 : Only [] W1 w6 := Only.trans (by repeat (first | exact kk | apply Only.drew | apply Only.drewN)) ho; have hkc : Only [] w2 w6 := Only.trans (by repeat (first | exact hkb | apply Only.drew | apply Only.drewN)) ho; clear kk hkb hz ho; have kk := k6; have hkb := hkc; clear k6 hkc) | (go_at_call 31; refine (HOX.out _ (by repeat (first | exact kk | apply Only.drew | apply Only.drewN))).mono ?_; rintro e w7 ⟨v7, rfl, hz, ho⟩; have HCC := hide (fun (W : World) (hW : Only [] w7 W) => And.intro (HC1.out W ((Only.trans (by repeat (first | exact Only.refl _ _ | apply Only.drew | apply Only.drewN)) ho).trans hW)) (hz.quiet hW)); have k7 : Only [] W1 w7 := Only.trans (by repeat (first | exact kk | apply Only.drew | apply Only.drewN)) ho; have hkc : Only [] w2 w7 := Only.trans (by repeat (first | exact hkb | apply Only.drew | apply Only.drewN)) ho; clear kk hkb hz ho; have kk := k7; have hkb := hkc; clear k7 hkc) | (go_at_call 30; refine (sameC_yes (HCC.out _ (by repeat (first | exact Only.refl _ _ | apply Only.drew | apply Only.drewN))).1 (HCC.out _ (by repeat (first | exact Only.refl _ _ | apply Only.drew | apply Only.drewN))).2 HFO.out).mono ?_; rintro e w8 ⟨rfl, ho⟩; have k8 : Only [] W1 w8 := Only.trans (by repeat (first | exact kk | apply Only.drew | apply Only.drewN)) ho; have hkc : Only [] w2 w8 := Only.trans (by repeat (first | exact hkb | apply Only.drew | apply Only.drewN)) ho; clear kk hkb ho; have kk := k8; have hkb := hkc; clear k8 hkc) | (go_at_call 17; refine (HAQ.out _ (by repeat (first | exact kk | apply Only.drew | apply Only.drewN))).mono ?_; rintro e wa ⟨va, rfl, hz, ho⟩; have HAQ2 := hide (fun (W : World) (hW : Only [] wa W) => hz.quiet hW); have ka : Only [] W1 wa := Only.trans (by repeat (first | exact kk | apply Only.drew | apply Only.drewN)) ho; have hka : Only [] w2 wa := Only.trans (by repeat (first | exact hkb | apply Only.drew | apply Only.drewN)) ho; clear kk hkb hz ho; have kk := ka; clear ka) | (go_at_call 16; refine (HLN.out _ (by repeat (first | exact kk | apply Only.drew | apply Only.drewN))).mono ?_; rintro e wl ⟨rfl, rfl⟩))
  all_goals
    go_wp2
    go_ret
    exact ⟨by simp, H1.out.trans (by repeat (first | exact kk | apply Only.drew | apply Only.drewN))⟩
end
end Go.Proofs.Ytokclkiidhcffaa
