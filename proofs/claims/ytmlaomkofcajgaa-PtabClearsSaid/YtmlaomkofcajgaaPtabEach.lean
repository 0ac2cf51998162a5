/-
  Arrays of 256 words as lists; 'entries' and 'All' of a nil page table.
-/
import Derived.Test.YtmlaomkofcajgaaPtabNil
namespace Go.Proofs.Ytmlaomkofcajgaa
open Go.ChangeShapes Go.WideShapes Go.ChangeAt Go.RowKit Go.Shelf
set_option linter.unusedVariables false

/-- Numbers as cells. -/
def u32A (cs : List Int) : Array Value := (cs.map (Value.int .u32)).toArray
theorem size_u32A (cs : List Int) : (u32A cs).size = cs.length := by simp [u32A]
theorem u32A_get (cs : List Int) (i : Nat) (h : i < cs.length) : (u32A cs)[i]? = some (.int .u32 (gb cs i)) := by
  simp [u32A, gb, List.getElem?_eq_getElem h, List.getD]
theorem u32A_set (cs : List Int) (i : Nat) (x : Int) : (u32A cs).setIfInBounds i (.int .u32 x) = u32A (cs.set i x) := by
  simp [u32A, List.map_set]
theorem u32A_one (cs : List Int) : (u32A cs).all (·.oneCell') = true := by
  simp [u32A, Value.oneCell']
theorem info_arr : (Try.prog.info? 78).map (·.size) = some 256 := by kernel_rfl
theorem zero_arr : Try.zeroCells78 = u32A (List.replicate 256 0) := by kernel_rfl

theorem arr_load {ops : Array Oper} {rest : List Oper} {ds ty ps af} {a : Act} {w : World} {Q : Exit → Act → World → Prop} (x : Operand)
    {g : Nat} {cs : List Int} (hg : Blk w g 78 (u32A cs)) (hx : a.eval x = .pointer (some ⟨g, 0, none⟩)) (hl : cs.length = 256)
    (h : wpList Try.prog ops Q rest (a.put ds (.agg (u32A cs))) w) : wpList Try.prog ops Q (⟨ds, .load 78 x, ty, ps, af, none⟩ :: rest) a w :=
  wpList_load_row rfl 78 x rfl _ hx 78 (u32A cs) (0, 0) _ hg Try.underlying78 rfl (by rw [info_arr, size_u32A, hl]) h
theorem arr_store {ops : Array Oper} {rest : List Oper} {ds ty ps af} {a : Act} {w : World} {Q : Exit → Act → World → Prop} (x y : Operand)
    {g : Nat} (cs : List Int) (hg : ∃ old : Array Value, old.size = 256 ∧ Blk w g 78 old) (hx : a.eval x = .pointer (some ⟨g, 0, none⟩)) (hy : a.eval y = .agg (u32A cs)) (hl : cs.length = 256)
    (h : wpList Try.prog ops Q rest (a.put ds undef) (w.setRow g (u32A cs))) : wpList Try.prog ops Q (⟨ds, .store 78 x y, ty, ps, af, none⟩ :: rest) a w := by
  obtain ⟨old, h1, h2⟩ := hg
  exact wpList_store_row rfl 78 x y rfl _ (u32A cs) hx hy 78 old h2 (by rw [info_arr, size_u32A, hl]) (by rw [h1, size_u32A, hl]) (u32A_one cs) h
theorem arr_results {fn : Func} {p : Tmp} (hf : fn.results = #[.cell p 78]) {tmps : Array Value} {w : World} {r : Nat} {cs : List Int}
    (hp : tmps.getD p undef = .pointer (some ⟨r, 0, none⟩)) (hl : cs.length = 256) (h1 : Blk w r 78 (u32A cs)) :
    (results fn tmps).run Try.prog w = .ok (.agg (u32A cs)) w :=
  results_cell_row hf tmps w r 78 (u32A cs) (0, 0) _ hp h1 Try.underlying78 rfl (by rw [info_arr, size_u32A, hl])

theorem blk_kept {W W' : World} {g : Nat} {t : TypeId} {cs : Array Value} {row : Option Nat} (h : Blk W g t cs) (hg : W.grownBy W' row) (hr : ∀ r, row = some r → ∃ o : Obj, W.heap[r]? = some o ∧ o.isCells = false) : Blk W' g t cs := by
  refine (hg.block g h.lt (fun e => ?_)).trans h
  obtain ⟨o, ho, hc⟩ := hr g e.symm
  unfold Blk at h
  rw [h] at ho
  injection ho with ho
  subst ho
  cases hc

theorem below_setRow' {B g : Nat} {w : World} {c : Array Value} (hg : B ≤ g) : Below B w (w.setRow g c) :=
  ⟨rfl, rfl, rfl, by simp [World.setRow], fun k hk => setRow_other w g k c (by omega)⟩
theorem grown_of_below {w w' : World} (h : Below w.heap.size w w') : w.grownBy w' none :=
  ⟨h.os, h.tape, h.output, h.size, fun k hk _ => h.block k hk⟩

set_option maxRecDepth 100000 in
theorem entries_nil (w : World) : Calls Try.prog 59 #[.pointer none] w fun e w' => e = .returned (.agg (u32A (List.replicate 256 0))) ∧ Below w.heap.size w w' := by
  have hz : (List.replicate 256 (0 : Int)).length = 256 := List.length_replicate
  generalize hL : List.replicate 256 (0 : Int) = zs at hz
  have hZ : Try.zeroCells78 = u32A zs := by rw [← hL]; exact zero_arr
  clear hL
  (refine (callsIn_wide (n := 9)).1 ?_; refine callsIn_of_wp_marks Try.func59 rfl trivial ?_ rfl; simp only [Try.ntmps59, List.size_toArray, List.length_cons, List.length_nil, Nat.reduceAdd, Nat.reduceSub, Array.replicate_succ, Array.replicate_zero, List.push_toArray, List.append_toArray, List.nil_append, List.cons_append]; refine wpIn_wide.2 ?_)
  go_wp2_with (go_at_call 60; refine (tleaves_new _ _).mono ?_; rintro e w1 ⟨rfl, rfl⟩)
  obtain ⟨W0, hW0⟩ : ∃ W0, ((((w.alloc (.cells #[.pointer none] 42)).alloc (.cells (u32A zs) 78)).alloc (.cells (u32A zs) 78)).alloc (.cells #[.pointer none] 42)) = W0 := ⟨_, rfl⟩
  have h1 : Blk W0 (w.heap.size + 1) 78 (u32A zs) := by
    rw [← hW0]; have := ((Blk.new (w.alloc (.cells #[.pointer none] 42)) 78 (u32A zs)).alloc (.cells (u32A zs) 78)).alloc (.cells #[.pointer none] 42); simpa using this
  have h2 : Blk W0 (w.heap.size + 1 + 1) 78 (u32A zs) := by
    rw [← hW0]; have := (Blk.new ((w.alloc (.cells #[.pointer none] 42)).alloc (.cells (u32A zs) 78)) 78 (u32A zs)).alloc (.cells #[.pointer none] 42); simpa using this
  have h3 : W0.cell? ⟨w.heap.size + 1 + 1 + 1, 0, none⟩ = some (.pointer none) := by
    rw [← hW0]; have := (Blk.new (((w.alloc (.cells #[.pointer none] 42)).alloc (.cells (u32A zs) 78)).alloc (.cells (u32A zs) 78)) 42 #[.pointer none]).cell 0; simpa using this
  have hs : W0.heap.size = w.heap.size + 4 := by rw [← hW0]; simp
  have hB : Below w.heap.size w W0 := by rw [← hW0]; exact ((((Below.refl _ w).alloc (Nat.le_refl _) _).alloc (by simp) _).alloc (by simp; omega) _).alloc (by simp; omega) _
  rw [hW0]
  clear hW0 hZ
  refine (wpIn_wide (n := 9)).1 ?_
  refine wpIn_rangeFunc_ownF rfl (by decide) (gf := 66) (lb := #[.pointer (some ⟨w.heap.size + 1 + 1 + 1, 0, none⟩)]) rfl trivial (enters_of Try.func66 (by kernel_rfl) rfl)
    (leaves1_nil _ w.heap.size (w.heap.size + 1 + 1 + 1) _ (by decide) (by omega) h3) belowK_t (belowK_b (by omega)) (Below.refl _ _) (fun x => x.elim)
    (fun _ W => (Blk W (w.heap.size + 1) 78 (u32A zs) ∧ Blk W (w.heap.size + 1 + 1) 78 (u32A zs)) ∧ Below w.heap.size w W) (fun _ _ _ => False)
    (OwnFrom.and (Own.from (fun s A B row hs hg hr => ⟨blk_kept hs.1 hg hr, blk_kept hs.2 hg hr⟩) _) (ownFrom_below (Nat.le_refl _) (by omega)))
    (fun _ _ _ _ _ hs _ _ => hs)
    ⟨⟨h1, h2⟩, hB⟩ (fun x => x.elim) (fun _ x => x.elim) (fun _ _ x => x.elim) ?done ?stop
  case done =>
    rintro D ys W hD rfl ⟨⟨hb1, hb2⟩, hBW⟩ hK
    have H2 := hide hb2
    have H1 := hide hb1
    clear hb1 hb2 h1 h2 h3
    go_wp2_with (first | (with_reducible refine wp_region_lit (id := 10) ?_) | ((with_reducible refine arr_load _ (g := w.heap.size + 1 + 1) (cs := zs) ?_ ?_ ?_ ?_); (· exact H2.out); (· rfl); (· exact hz)) | ((with_reducible refine arr_store _ _ (g := w.heap.size + 1) zs ?_ ?_ ?_ ?_ ?_); (· exact ⟨_, by rw [size_u32A, hz], H1.out⟩); (· rfl); (· rfl); (· exact hz)))
    have hK' : (W.setRow (w.heap.size + 1) (u32A zs)).heap[D]? = some (.deferred (some [])) := (setRow_other W _ D _ (by omega)).trans hK
    have hBr : Blk (W.setRow (w.heap.size + 1) (u32A zs)) (w.heap.size + 1) 78 (u32A zs) := H1.out.row _
    refine ⟨by simp, .inl ⟨_, _, rfl, run_takeDeferred hK', ?_⟩⟩
    refine ⟨_, arr_results rfl (by simp [Act.put]) hz (blk_kept hBr (grownBy_putObj' _ D (.deferred none)) (fun r e => by cases e; exact ⟨_, hK', rfl⟩)), rfl, ?_⟩
    exact (hBW.trans (below_setRow' (Nat.le_succ _))).trans (belowK_b (w := w) (Nat.le_refl _) _ D _ _ (by omega) hK' rfl rfl)
  case stop =>
    rintro D c pre W hD h _ _
    exact h.elim

theorem info_u32 : (Try.prog.info? 27).map (·.size) = some 1 := by kernel_rfl
theorem run_index_arr {cs : List Int} {k : Nat} {x : Int} (w : World) (hl : cs.length = 256) (hk : k < 256) (hx : gb cs k = x) :
    (Instr.index 78 (.agg (u32A cs)) (.int .i64 (k : Int))).run Try.prog w = .ok (.int .u32 x) w := by
  subst hx
  have hget : (u32A cs)[k]? = some (.int .u32 (gb cs k)) := u32A_get cs k (by omega)
  obtain ⟨i0, hi, hs⟩ : ∃ i0, Try.prog.info? 27 = some i0 ∧ i0.size = 1 := by
    have := info_u32
    cases h : Try.prog.info? 27 with
    | none => rw [h] at this; cases this
    | some i => rw [h] at this; injection this with this; exact ⟨i, rfl, this⟩
  have hs2 : (sizeOf 27).run Try.prog w = .ok 1 w := by
    simp [sizeOf, typeInfo, Sem.run_bind, hi, hs]
  have hu := run_underlying Try.underlying78 w
  have hn : (0 : Int) ≤ (k : Int) ∧ (k : Int) < ((256 : Nat) : Int) := by omega
  simp only [Instr.index, asIntOf, Sem.run_bind, Sem.run_pure, Result.andThen_ok, hu]
  rw [if_pos hn]
  simp only [Sem.run_bind, hs2, Result.andThen_ok]
  rw [Nat.mul_one, Int.toNat_natCast]
  have hpk : Try.prog.plainKey 27 = true := by kernel_rfl
  exact run_part_plain _ hpk hget

set_option maxRecDepth 100000 in
/-- All of a nil table: nothing. -/
theorem all1_nil (n n₀ B : Nat) (w : World) (hn : 1 ≤ n) (hB : B < w.heap.size) (hc : w.cell? ⟨B, 0, none⟩ = some (.pointer none)) :
    SeqStopsK Fence.wide n Try.prog 58 #[.pointer (some ⟨B, 0, none⟩)] (fun x : Empty => x.elim) (Below n₀) (fun xs => xs = []) (fun _ => False) 0 w := fun l J Jx W hW hJ hJx hY h0 => by
  have hcW := (hW.cell (p := ⟨B, 0, none⟩) hB).trans hc
  have hz : (List.replicate 256 (0 : Int)).length = 256 := List.length_replicate
  have hg : ∀ i, gb (List.replicate 256 (0 : Int)) i = 0 := gb_zeros _
  have HE := hide fun w1 => entries_nil w1
  generalize List.replicate 256 (0 : Int) = zs at hz hg HE
  have HZ := hide hz
  have HG := hide hg
  clear hz hg
  refine callsIn_wide.2 ?_
  show Calls Try.prog 58 #[.func (.yield l) #[] #[], .pointer (some ⟨B, 0, none⟩)] W _
  go_enter Try.func58, Try.ntmps58
  go_wp2_with (go_at_call 59; refine (HE.out _).mono ?_; rintro e w1 ⟨rfl, hB1⟩)
  have HJ := hide (hJ [] W w1 none h0 (grown_of_below hB1) (by simp))
  clear hB1 HE h0 hY hJ hJx
  go_loopw [7] (fun i wr => ∃ k : Nat, k ≤ 256 ∧ i = .int .i64 k ∧ wr = w1) (fun i _ => 256 - (intOf i).toNat)
  case atStart => exact ⟨0, by decide, rfl, rfl⟩
  case round =>
    obtain ⟨k, hk, rfl, rfl⟩ := hrel
    by_cases hlt : k < 256
    · have ha := run_index_arr wr HZ.out hlt (HG.out k)
      go_wp2
      go_roundw
      case rel => exact ⟨k + 1, by omega, by go_num, trivial⟩
      case measure => simp [intOf]; omega
    · go_wp2
      go_end0
      exact ⟨⟨_, rfl⟩, .inl ⟨_, rfl, HJ.out⟩⟩
end Go.Proofs.Ytmlaomkofcajgaa
