/-
  The walk of 'PtabNobody'.
-/
import Derived.Test.YtmlaomkofcajgaaPtabEach
namespace Go.Proofs.Ytmlaomkofcajgaa
open Go.ChangeShapes Go.WideShapes Go.ChangeAt Go.RowKit Go.Shelf
set_option linter.unusedVariables false

set_option maxRecDepth 100000 in
set_option maxHeartbeats 2000000 in
theorem ptabNobody_walk (p x a : Int) (w : World) :
    Calls Try.prog 7 #[.int .i64 p, .int .u32 x, .int .u32 a] w fun e w' => e = .returned (.bool true) ∧ Below w.heap.size w w' := by
  have HLv := hide lives5
  (refine (callsIn_wide (n := 9)).1 ?_; refine callsIn_of_wp_marks Try.func7 rfl trivial ?_ rfl; simp only [Try.ntmps7, List.size_toArray, List.length_cons, List.length_nil, Nat.reduceAdd, Nat.reduceSub, Array.replicate_succ, Array.replicate_zero, List.push_toArray, List.append_toArray, List.nil_append, List.cons_append]; refine wpIn_wide.2 ?_)
  go_wp2_with (first | (go_at_call 13; refine (HLv.out _).mono ?_; rintro e w1 ⟨rfl, ho⟩; have HO := hide ho; clear ho) | (go_at_call 21; refine (tnew_nil _ _).mono ?_; rintro e w' ⟨rfl, rfl⟩) | (go_at_call 22; refine (set_nil _ _ _ _).mono ?_; rintro e w' ⟨rfl, rfl⟩) | (go_at_call 29; refine (get_nil _ _).mono ?_; rintro e w' ⟨rfl, rfl⟩) | (go_at_call 30; refine (trans_nil _ _ _).mono ?_; rintro e w' ⟨rfl, rfl⟩) | (go_at_call 31; refine (tall_new _ _).mono ?_; rintro e w2 ⟨rfl, hw2⟩; have HW2 := hide hw2; clear hw2))
  have hb0 : Blk w2 w.heap.size 4 #[.bool false] := by rw [HW2.out]; exact ((Blk.new w 4 #[.bool false]).only HO.out (by simp)).alloc _
  have hB0 : Below w.heap.size w w2 := by
    rw [HW2.out]
    exact (((Below.refl _ w).alloc (Nat.le_refl _) _).trans (HO.out.below (by simp) (by simp))).alloc (by have := HO.out.size; simp at this; omega) _
  have hs1 : w.heap.size < w1.heap.size := by have := HO.out.size; simp at this; omega
  have hs2 : w2.heap.size = w1.heap.size + 1 := by rw [HW2.out]; simp
  have hc : w2.cell? ⟨w1.heap.size, 0, none⟩ = some (.pointer none) := by rw [HW2.out]; simp
  clear HO HW2 HLv
  refine (wpIn_wide (n := 9)).1 ?_
  refine wpIn_rangeFunc_ownF rfl (by decide) (gf := 58) (lb := #[.pointer (some ⟨w1.heap.size, 0, none⟩)]) rfl trivial (enters_of Try.func58 (by kernel_rfl) rfl)
    (all1_nil _ w.heap.size w1.heap.size _ (by decide) (by omega) hc) belowK_t (belowK_b (by omega)) (Below.refl _ _) (fun x => x.elim)
    (fun _ W => Blk W w.heap.size 4 #[.bool false] ∧ Below w.heap.size w W) (fun _ _ _ => False)
    (OwnFrom.and (Own.from (fun s A B row hs hg hr => blk_kept hs hg hr) _) (ownFrom_below (Nat.le_refl _) (by omega)))
    (fun _ _ _ _ _ hs _ _ => hs)
    ⟨hb0, hB0⟩ (fun x => x.elim) (fun _ x => x.elim) (fun _ _ x => x.elim) ?done ?stop
  case done =>
    rintro D ys W hD rfl ⟨hb, hBW⟩ hK
    clear hb0 hB0 hc
    have HB := hide hb
    have HBW := hide hBW
    have HK := hide hK
    clear hb hBW hK
    have HLT : Hid (∀ (W4 : World), Below W.heap.size W W4 → W4.cell? ⟨w.heap.size, 0, none⟩ = some (.bool false) ∧ W4.frozen? ⟨w.heap.size, 0, none⟩ = false) := hide (fun W4 h => by
      have hb4 : Blk W4 w.heap.size 4 #[.bool false] := (h.block _ HB.out.lt).trans HB.out
      exact ⟨hb4.cell 0, hb4.frozen 0⟩)
    go_wp2_with (first | (go_at_call 32; refine (root_nil _).mono ?_; rintro e w' ⟨rfl, rfl⟩) | (go_at_call 33; refine (needs_nil _ _).mono ?_; rintro e w' ⟨rfl, rfl⟩) | (go_at_call 34; refine (Leaves_nil _).mono ?_; rintro e w4 ⟨rfl, hb4⟩; have HB4 := hide hb4; obtain ⟨k1, k2⟩ := HLT.out _ hb4; clear hb4))
    have hlD : D < W.heap.size := (Array.getElem?_eq_some_iff.1 HK.out).1
    have hK4 : (w4.setCell ⟨w.heap.size, 0, none⟩ (.bool true)).heap[D]? = some (.deferred (some [])) :=
      (Below.heap_setCell w4 ⟨w.heap.size, 0, none⟩ (.bool true) D (by simp; omega)).trans ((HB4.out.block D hlD).trans HK.out)
    have hc5 := cell_kept (World.cell?_setCell_same' w4 ⟨w.heap.size, 0, none⟩ (.bool true) (by rw [k1]; rfl)) (grownBy_putObj' _ D (.deferred none)) (fun r e => by cases e; exact ⟨_, hK4, rfl⟩)
    refine ⟨by simp, .inl ⟨_, _, rfl, run_takeDeferred hK4, ?_⟩⟩
    refine ⟨.bool true, by simp [results, Try.f7, go_sem, hc5], rfl, ?_⟩
    have hW4 : Below w.heap.size w (w4.setCell ⟨w.heap.size, 0, none⟩ (.bool true)) := (HBW.out.trans (HB4.out.mono HBW.out.size)).setCell (p := ⟨w.heap.size, 0, none⟩) (Nat.le_refl _) _
    exact hW4.trans (belowK_b (w := w) (Nat.le_refl _) _ D _ _ (by omega) hK4 rfl rfl)
  case stop =>
    rintro D c pre W hD h _ _
    exact h.elim
end Go.Proofs.Ytmlaomkofcajgaa
