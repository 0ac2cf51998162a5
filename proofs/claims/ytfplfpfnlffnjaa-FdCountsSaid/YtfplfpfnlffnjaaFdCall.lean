/-
  Open files (parapet/fdtab): share, Drop, Move.
-/
import Derived.Test.YtfplfpfnlffnjaaFdIs
import Derived.StillTailTactics
import Derived.RegionTactic
namespace Go.Proofs.Ytfplfpfnlffnjaa
open Go.ChangeShapes Go.WideShapes Go.ChangeAt Go.RowKit Go.Maps
set_option linter.unusedVariables false
set_option linter.unusedSimpArgs false
section
variable {w w' w1 : World} {f m : Nat} {O : List (Int × F5)} {S : List Nat} {k : Int} {x : F5}
theorem share_is (h : IsFi w f m O) (hp : (k, x) ∈ O) (r0 : 0 ≤ x.refs) (r1 : x.refs < 4611686018427387904) : Calls Try.prog 42 #[.pointer (some ⟨f, 0, none⟩), .int .i64 k] w fun e w' => e = .returned (.tuple #[]) ∧ IsFi w' f m (setV O k { x with refs := x.refs + 1 }) ∧ Only [m] w w' := by
  have c0 := h.c0
  obtain ⟨D, d1, d2⟩ := h.own
  have hl : (Instr.lookup 50 (.map (some m)) (.int .i64 k) false).run Try.prog w = .ok (fV x) w := lookF d2 d1 hp false
  have HS := hide (fun W (ho : Only [] w W) => h.put hp { x with refs := x.refs + 1 } ho)
  have HCW := hide (fun W (ho : Only [] w W) => (h.quiet ho).c0)
  clear h d1 d2 hp
  obtain ⟨x1, x2, x3, x4, x5⟩ := x
  dsimp only [fV, fC] at hl r0 r1 HS ⊢
  obtain ⟨w4, hrun, h5, ho4⟩ := HS.out (w.alloc (.cells #[.int .i64 x1, .int .i64 x2, .int .i64 x3, .int .i64 x4, .int .i64 (x5 + 1)] 42)).drew (((Only.refl [] w).alloc _).drew)
  have c1 := HCW.out (w.alloc (.cells #[.int .i64 x1, .int .i64 x2, .int .i64 x3, .int .i64 x4, .int .i64 (x5 + 1)] 42)) ((Only.refl [] w).alloc _)
  have H5 := hide h5
  have HO4 := hide (((((Only.refl [] w).alloc _).drew).mono (S' := [m]) (by simp)).trans ho4)
  clear h5 ho4 HS HCW
  go_enter Try.func42, Try.ntmps42
  go_wp2
  go_region
  all_goals go_wp2
  go_end0
  exact ⟨rfl, H5.out, HO4.out⟩
/-- Where the results of Drop stand. -/
theorem drop_blks (h : IsFi w f m O) {w2 w4 : World} {y : F5} (ho : Only [] (w.alloc (.cells (fC f0) 42)) w2) (ho4 : Only [m] (w2.alloc (.cells (fC y) 42)) w4) :
    Blk w4 w.heap.size 42 (fC f0) ∧ Blk w4 w2.heap.size 42 (fC y) ∧ Only [m] w (w4.setRow w.heap.size (fC y)) ∧ ∀ O', IsFi w4 f m O' → IsFi (w4.setRow w.heap.size (fC y)) f m O' := by
  obtain ⟨l1, l2⟩ := h.lt
  have hs : w.heap.size + 1 ≤ w2.heap.size := by have := ho.size; rwa [World.size_alloc] at this
  refine ⟨(((Blk.new w 42 (fC f0)).only ho (by simp)).alloc _).only ho4 (by simp; omega), (Blk.new w2 42 (fC y)).only ho4 (by simp; omega), ?_, fun O' h' => h'.only (S := [w.heap.size]) ((Only.refl _ _).setRow _ (by simp)) (by simp; omega) (by simp; omega)⟩
  exact ((((((Only.refl [] w).alloc _).trans ho).alloc (.cells (fC y) 42)).mono (S' := [m]) (by simp)).trans ho4).setRow _ (fun hlt => absurd hlt (Nat.lt_irrefl _))
theorem drop_none (h : IsFi w f m O) (hk : iW k) (hn : k ∉ O.map (·.1)) : Calls Try.prog 20 #[.pointer (some ⟨f, 0, none⟩), .int .i64 k] w fun e w' => e = .returned (.tuple #[fV f0, .bool false, .int .i64 221]) ∧ Only [] w w' := by
  have HC := hide (fun W (ho : Only [] w W) => get_none (h.quiet ho) hk hn)
  have HW := hide (show ∀ W, Only [] (w.alloc (.cells (fC f0) 42)) W → Blk (W.alloc (.cells (fC f0) 42)) w.heap.size 42 (fC f0) ∧ Only [] w ((W.alloc (.cells (fC f0) 42)).setRow w.heap.size (fC f0)) from fun W ho =>
    ⟨((Blk.new w 42 (fC f0)).only ho (by simp)).alloc _, ((((Only.refl [] w).alloc _).trans ho).alloc _).setRow _ (fun hlt => absurd hlt (Nat.lt_irrefl _))⟩)
  clear h hk hn
  dsimp only [fV, fC] at HC ⊢
  go_enter Try.func20, Try.ntmps20
  go_wp2_with (first | (with_reducible refine wp_region_lit (id := 3) ?_) | (go_at_call 19; refine (HC.out _ (by repeat (first | exact Only.refl _ _ | apply Only.drew | apply Only.drewN | apply Only.alloc))).mono ?_; rintro e w1 ⟨rfl, ho⟩; have HX := hide (HW.out _ ho); clear ho HW) | ((with_reducible refine file_store (.tmp 4) (.tmp 17) f0 HX.out.1 ?_ ?_ ?_); (· rfl); (· rfl)))
  exact bodyPost_ret (drop_results (p := 4) (q := 5) (s := 6) (f := f0) rfl rfl rfl rfl (HX.out.1.row _)) rfl ⟨rfl, HX.out.2⟩
set_option maxRecDepth 100000 in
theorem drop_more (h : IsFi w f m O) (hp : (k, x) ∈ O) (r0 : 1 < x.refs) (r1 : x.refs < 4611686018427387904) : Calls Try.prog 20 #[.pointer (some ⟨f, 0, none⟩), .int .i64 k] w fun e w' => e = .returned (.tuple #[fV { x with refs := x.refs - 1 }, .bool false, .int .i64 0]) ∧ IsFi w' f m (setV O k { x with refs := x.refs - 1 }) ∧ Only [m] w w' := by
  have HC := hide (fun W (ho : Only [] w W) => get_ok (h.quiet ho) hp)
  have HS := hide (fun W (ho : Only [] w W) => h.put hp { x with refs := x.refs - 1 } ho)
  have HCW := hide (fun W (ho : Only [] w W) => (h.quiet ho).c0)
  have HW := hide (fun (w2 w4 : World) (ho : Only [] (w.alloc (.cells (fC f0) 42)) w2) (ho4 : Only [m] (w2.alloc (.cells (fC { x with refs := x.refs - 1 }) 42)) w4) => drop_blks h ho ho4)
  clear h hp
  obtain ⟨x1, x2, x3, x4, x5⟩ := x
  dsimp only [fV, fC] at r0 r1 HS HC HW ⊢
  have hne : (x5 - 1 == 0) = false := by simp only [beq_eq_false_iff_ne]; omega
  go_enter Try.func20, Try.ntmps20
  go_wp2_with (first | (with_reducible refine wp_region_lit (id := 9) ?_) | (go_at_call 19; refine (HC.out _ (by repeat (first | exact Only.refl _ _ | apply Only.drew | apply Only.drewN | apply Only.alloc))).mono ?_; rintro e w2 ⟨rfl, ho⟩; have ho1 : Only [] w (w2.alloc (.cells #[.int .i64 x1, .int .i64 x2, .int .i64 x3, .int .i64 x4, .int .i64 (x5 - 1)] 42)) := (((Only.refl [] w).alloc _).trans ho).alloc _; have c1 := HCW.out _ ho1; obtain ⟨w4, hrun, h5, ho4⟩ := HS.out _ ho1.drew; have HX := hide (HW.out w2 w4 ho (((Only.refl [m] _).drew).trans ho4)); have H5 := hide h5; clear ho ho1 HW h5 ho4 HS HCW) | ((with_reducible refine file_load (f := ⟨x1, x2, x3, x4, x5 - 1⟩) (.tmp 7) HX.out.2.1 ?_ ?_); (· rfl)) | ((with_reducible refine file_store (.tmp 4) (.tmp 38) ⟨x1, x2, x3, x4, x5 - 1⟩ (fo := f0) HX.out.1 ?_ ?_ ?_); (· rfl); (· rfl)))
  go_region
  all_goals go_wp2_with (first | (with_reducible refine wp_region_lit (id := 9) ?_) | ((with_reducible refine file_load (f := ⟨x1, x2, x3, x4, x5 - 1⟩) (.tmp 7) HX.out.2.1 ?_ ?_); (· rfl)) | ((with_reducible refine file_store (.tmp 4) (.tmp 38) ⟨x1, x2, x3, x4, x5 - 1⟩ (fo := f0) HX.out.1 ?_ ?_ ?_); (· rfl); (· rfl)))
  (try simp only [Exit.inBlock, Exit.then])
  exact bodyPost_ret (drop_results (p := 4) (q := 5) (s := 6) (f := ⟨x1, x2, x3, x4, x5 - 1⟩) rfl rfl rfl rfl (HX.out.1.row _)) rfl ⟨rfl, HX.out.2.2.2 _ H5.out, HX.out.2.2.1⟩
set_option maxRecDepth 100000 in
theorem drop_last (h : IsFi w f m O) (hp : (k, x) ∈ O) (r0 : x.refs = 1) : Calls Try.prog 20 #[.pointer (some ⟨f, 0, none⟩), .int .i64 k] w fun e w' => e = .returned (.tuple #[fV { x with refs := 0 }, .bool true, .int .i64 0]) ∧ IsFi w' f m (outV O k) ∧ Only [m] w w' := by
  have HC := hide (fun W (ho : Only [] w W) => get_ok (h.quiet ho) hp)
  have HS := hide (fun W (ho : Only [] w W) => h.del hp 0 ho)
  have HCW := hide (fun W (ho : Only [] w W) => (h.quiet ho).c0)
  have HW := hide (fun (w2 w4 : World) (ho : Only [] (w.alloc (.cells (fC f0) 42)) w2) (ho4 : Only [m] (w2.alloc (.cells (fC { x with refs := 0 }) 42)) w4) => drop_blks h ho ho4)
  clear h hp
  obtain ⟨x1, x2, x3, x4, x5⟩ := x
  dsimp only [fV, fC] at r0 HS HC HW ⊢
  subst r0
  go_enter Try.func20, Try.ntmps20
  go_wp2_with (first | (with_reducible refine wp_region_lit (id := 7) ?_) | (go_at_call 19; refine (HC.out _ (by repeat (first | exact Only.refl _ _ | apply Only.drew | apply Only.drewN | apply Only.alloc))).mono ?_; rintro e w2 ⟨rfl, ho⟩; have ho1 : Only [] w (w2.alloc (.cells #[.int .i64 x1, .int .i64 x2, .int .i64 x3, .int .i64 x4, .int .i64 0] 42)) := (((Only.refl [] w).alloc _).trans ho).alloc _; have c1 := HCW.out _ ho1; obtain ⟨w4, hrun, h5, ho4⟩ := HS.out _ ho1; have HX := hide (HW.out w2 w4 ho ho4); have H5 := hide h5; clear ho ho1 HW h5 ho4 HS HCW) | ((with_reducible refine file_load (f := ⟨x1, x2, x3, x4, 0⟩) (.tmp 7) HX.out.2.1 ?_ ?_); (· rfl)) | ((with_reducible refine file_store (.tmp 4) (.tmp 31) ⟨x1, x2, x3, x4, 0⟩ (fo := f0) HX.out.1 ?_ ?_ ?_); (· rfl); (· rfl)))
  (try simp only [Exit.inBlock, Exit.then])
  exact bodyPost_ret (drop_results (p := 4) (q := 5) (s := 6) (f := ⟨x1, x2, x3, x4, 0⟩) rfl rfl rfl rfl (HX.out.1.row _)) rfl ⟨rfl, HX.out.2.2.2 _ H5.out, HX.out.2.2.1⟩
end
end Go.Proofs.Ytfplfpfnlffnjaa
