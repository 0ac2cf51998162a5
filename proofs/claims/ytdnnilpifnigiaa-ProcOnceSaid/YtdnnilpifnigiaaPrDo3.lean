/-
  Processes and threads (parapet/proc): Proc, Join.
-/
import Derived.Test.YtdnnilpifnigiaaPrDo2
import Derived.Deep.RegionHeld3
namespace Go.Proofs.Ytdnnilpifnigiaa
open Go.ChangeShapes Go.WideShapes Go.ChangeAt Go.RowKit Go.Maps
set_option linter.unusedVariables false
set_option linter.unusedSimpArgs false
section
variable {w w' w1 : World} {t a b : Nat} {s : PS} {S : List Nat} {x : K5} {y : S4}
/-- Where Proc's results stand. -/
theorem proc_blks (w : World) {w2 : World} {x : K5} {v : Value} {ns : List Int} (ho : Only [] ((w.alloc (.cells (kC k0) 58)).alloc (.cells (kC x) 58)) w2) (hr : KRow .i64 3 w2 ((w.alloc (.cells (kC k0) 58)).alloc (.cells (kC x) 58)).heap.size v ns) :
    Blk w2 (w.heap.size + 1) 58 (kC x) ∧ Blk (w2.setCell ⟨w.heap.size + 1, 4, none⟩ v) w.heap.size 58 (kTC k0 (.slice none 0 0)) ∧ Blk (w2.setCell ⟨w.heap.size + 1, 4, none⟩ v) (w.heap.size + 1) 58 (kTC x v) ∧
      Only [] w ((w2.setCell ⟨w.heap.size + 1, 4, none⟩ v).setRow w.heap.size (kTC x v)) ∧ KRow .i64 3 ((w2.setCell ⟨w.heap.size + 1, 4, none⟩ v).setRow w.heap.size (kTC x v)) w.heap.size v ns ∧ ∀ b, v.ownBlock = some b → w.heap.size + 2 ≤ b := by
  rw [World.size_alloc, World.size_alloc] at hr
  have b1 : Blk w2 w.heap.size 58 (kC k0) := ((Blk.new w 58 (kC k0)).alloc _).only ho (by simp)
  have b2 : Blk w2 (w.heap.size + 1) 58 (kC x) := by
    have := Blk.new (w.alloc (.cells (kC k0) 58)) 58 (kC x)
    rw [World.size_alloc] at this
    exact this.only ho (by simp)
  have hv : ∀ b, v.ownBlock = some b → w.heap.size + 2 ≤ b := fun b hb => (hr.at_ hb).1
  have h1 : Only [w.heap.size, w.heap.size + 1] w2 ((w2.setCell ⟨w.heap.size + 1, 4, none⟩ v).setRow w.heap.size (kTC x v)) := ((Only.refl _ _).setCell _ (by simp)).setRow _ (by simp)
  refine ⟨b2, b1.far (by simp) _, b2.set_ 4 v, ?_, (hr.only h1 (fun q hq hm => ?_)).base (by omega), hv⟩
  · have h0 : Only [] w w2 := (((Only.refl [] w).alloc _).alloc _).trans ho
    exact h0.trans' h1 (fun q hq hm => by simp at hm; omega)
  · have := hv q hq
    simp at hm
    omega
set_option maxRecDepth 100000 in
theorem proc_is (h : IsPt w t a b s) (ok : OkS s) {pid : Int} (hk : iW pid) : Calls Try.prog 22 #[.pointer (some ⟨t, 0, none⟩), .int .i64 pid] w fun e w' => ∃ v, e = .returned (.tuple #[.agg (kTC (procS s pid).1 v), .int .i64 (procS s pid).2.2]) ∧ KRow .i64 3 w' w.heap.size v (procS s pid).2.1 ∧ Only [] w w' := by
  have HC := hide (fun W (ho : Only [] w W) => pcclosed_is (h.quiet ho))
  have c1 := (h.quiet ((Only.refl [] w).alloc (.cells (kC k0) 58))).c0
  unfold procS
  by_cases hm : pid ∈ s.P.map (·.pid)
  · rw [if_pos hm]
    obtain ⟨y, hy, rfl⟩ := List.mem_map.1 hm
    rw [getK_at h.ndP hy]
    have hl := h.seeK hy true ((Only.refl [] w).alloc (.cells (kC k0) 58))
    have HT := hide (thof_is (h.quiet (((Only.refl [] w).alloc (.cells (kC k0) 58)).alloc (.cells (kC y) 58))) ok.st (by have := ok.ft; omega) y.pid)
    have HW := hide (fun (w2 : World) v ns ho hr => proc_blks w (w2 := w2) (x := y) (v := v) (ns := ns) ho hr)
    clear h hy hm hk ok
    obtain ⟨x1, x2, x3, x4⟩ := y
    dsimp only [kV, kC] at hl c1 HC HT
    go_enter Try.func22, Try.ntmps22
    go_wp2_with (first | (with_reducible refine wp_region_lit (id := 7) ?_) | (go_at_call 27; refine (HC.out _ (by repeat (first | exact Only.refl _ _ | apply Only.drew | apply Only.drewN | apply Only.alloc))).mono ?_; rintro e w' ⟨rfl, rfl⟩) | (go_at_call 31; refine HT.out.mono ?_; rintro e w2 ⟨v, rfl, hr, ho⟩; have hww := HW.out w2 _ _ ho hr; have b4 := (hww.1.cell 4).trans (b := some (Value.slice none 0 0)) rfl; have f4 := hww.1.frozen 4; obtain ⟨A, cp, rfl, -⟩ := hr.form; have HWW := hide hww; clear ho hr hww) | ((with_reducible refine kinT_load (f := ⟨x1, x2, x3, x4⟩) (.tmp 6) HWW.out.2.2.1 ?_ ?_); (· rfl)) | ((with_reducible refine kinT_store (.tmp 4) (.tmp 27) ⟨x1, x2, x3, x4⟩ A (thP s.T x1).length cp (fo := k0) (vo := .slice none 0 0) HWW.out.2.1 ?_ ?_ ?_); (· rfl); (· rfl)))
    (try simp only [Exit.inBlock, Exit.then])
    exact bodyPost_ret (kin_results (p := 4) (q := 5) (f := ⟨x1, x2, x3, x4⟩) rfl rfl rfl (HWW.out.2.1.row _)) rfl ⟨_, rfl, HWW.out.2.2.2.2.1, HWW.out.2.2.2.1⟩
  · rw [if_neg hm]
    have hl := h.seeK_no hk hm ((Only.refl [] w).alloc (.cells (kC k0) 58))
    have HW := hide (show Blk ((w.alloc (.cells (kC k0) 58)).alloc (.cells (kC k0) 58)) w.heap.size 58 (kC k0) ∧ Only [] w ((w.alloc (.cells (kC k0) 58)).alloc (.cells (kC k0) 58)) from
      ⟨(Blk.new w _ _).alloc _, ((Only.refl [] w).alloc _).alloc _⟩)
    clear h hm hk ok
    dsimp only [kV, kC, kTC] at *
    go_enter Try.func22, Try.ntmps22
    go_wp2_with (first | (with_reducible refine wp_region_lit (id := 5) ?_) | (go_at_call 27; refine (HC.out _ (by repeat (first | exact Only.refl _ _ | apply Only.drew | apply Only.drewN | apply Only.alloc))).mono ?_; rintro e w' ⟨rfl, rfl⟩) | ((with_reducible refine kin_store (.tmp 4) (.tmp 22) k0 HW.out.1 ?_ ?_ ?_); (· rfl); (· rfl)))
    (try simp only [Exit.inBlock, Exit.then])
    exact bodyPost_ret (kin_results (p := 4) (q := 5) (f := k0) (v0 := .slice none 0 0) rfl rfl rfl HW.out.1) rfl ⟨_, rfl, KRow.nil _ _ _ _, HW.out.2⟩

end
end Go.Proofs.Ytdnnilpifnigiaa
