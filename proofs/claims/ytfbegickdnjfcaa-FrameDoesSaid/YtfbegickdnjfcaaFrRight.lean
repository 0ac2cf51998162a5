/-
  Frames (parapet/frame): Right.
-/
import Derived.Test.YtfbegickdnjfcaaFrAll
import Derived.Test.YtfbegickdnjfcaaFrFree
import Derived.BigRegionIn
namespace Go.Proofs.Ytfbegickdnjfcaa
open Go.ChangeShapes Go.WideShapes Go.ChangeAt Go.RowKit Go.Shelf
set_option linter.unusedVariables false
attribute [local go_sem] Oper.semAt_some

theorem KRow.keeps {k : IntKind} {e : TypeId} {W W' : World} {B : Nat} {v : Value} {ns : List Int} {S : List Nat} (h : KRow k e W B v ns) (hk : KeepsCells S W W') (hs : ∀ q, v.ownBlock = some q → q ∉ S) : KRow k e W' B v ns := by
  obtain ⟨hl, h⟩ := h
  refine ⟨hl, ?_⟩
  rcases h with hn | ⟨q, cap, cur, rfl, hb, hq, rest⟩
  · exact .inl hn
  · exact .inr ⟨q, cap, cur, rfl, hb, hk.2 q e cur (hs q rfl) hq, rest⟩
theorem keepsCells_grown {W W' : World} {row : Option Nat} (hg : W.grownBy W' row) (hr : ∀ r, row = some r → ∃ o : Obj, W.heap[r]? = some o ∧ o.isCells = false) (S : List Nat) : KeepsCells S W W' :=
  ⟨hg.size, fun k t cs _ hb => by
    refine (hg.block k hb.lt (fun e => ?_)).trans hb
    obtain ⟨o, ho, hc⟩ := hr k e.symm
    unfold Blk at hb
    rw [hb] at ho
    injection ho with ho
    subst ho
    cases hc⟩
theorem below_drewN' {B : Nat} {w w' : World} (h : Below B w w') (n : Nat) : Below B w (w'.drewN n) := ⟨h.os, h.tape, h.output, h.size, h.block⟩

section
variable {w W W' : World} {t g d cap : Nat} {xs : List Int} {r : List Value} {first harts : Nat} {v : Nat → Value} {ns : Nat → List Int} {S : List Nat} {ps : List Int}
theorem RowsAt.keeps (R : RowsAt W t v ns) (hk : KeepsCells S W W') (hs : ∀ k, k ∈ footL t v → k ∉ S) : RowsAt W' t v ns :=
  ⟨hk.2 _ _ _ (hs t (mem_footL.2 (.inl rfl))) R.blk, fun o h => KRow.keeps (R.row o h) hk (fun q hq => hs q (mem_footL.2 (.inr ⟨o, h.lt, hq⟩))), R.apart, R.old⟩
theorem IsFr.keeps (F : IsFr W t g d cap xs r first harts v ns) (hk : KeepsCells S W W') (hs : ∀ k, k ∈ footL t v → k ∉ S) (hg : g ∉ S) (hd : d ∉ S) : IsFr W' t g d cap xs r first harts v ns :=
  ⟨F.rows.keeps hk hs, F.v0, F.v1, F.v3, ⟨hk.2 _ _ _ hg F.mem.mem, hk.2 _ _ _ hd F.mem.row, F.mem.cap, F.mem.pos, F.mem.mul, F.mem.big, F.mem.tne⟩, F.u8, F.hh, F.fit⟩
theorem IsFr.lts (F : IsFr w t g d cap xs r first harts v ns) : g < w.heap.size ∧ d < w.heap.size ∧ ∀ k, k ∈ footL t v → k < w.heap.size :=
  ⟨F.mem.lt.1, F.mem.lt.2, fun k hk => by
    rcases mem_footL.1 hk with rfl | ⟨o, ho, e⟩
    · exact F.rows.blk.lt
    · exact F.rows.lt ho e⟩

/-- Each frame stands in one place; the bytes of free ones are 0. -/
structure Good (xs : List Int) (first : Nat) (ns : Nat → List Int) : Prop where
  cnt : ∀ k, k < (ns 2).length → 0 ≤ gb (ns 2) k ∧ gb (ns 2) k ≤ 1048576
  rng : ∀ x ∈ freeL ns, ∃ k : Nat, k < (ns 2).length ∧ x = first + k ∧ gb (ns 2) k = 0
  one : ∀ k : Nat, k < (ns 2).length → gb (ns 2) k = 0 → (freeL ns).count ((first : Int) + k) = 1
  zero : ∀ k, k < (ns 2).length → gb (ns 2) k = 0 → ZeroAt xs (first + k)
  few : ∀ o, Slot o → (ns o).length ≤ 4096

/-- What Right keeps between its rounds: ps is how often each frame was met. -/
structure RightI (w W : World) (t g d cap : Nat) (xs : List Int) (r : List Value) (first harts : Nat) (v : Nat → Value) (ns : Nat → List Int) (ps : List Int) : Prop where
  box : Blk W w.heap.size 28 #[.pointer (some ⟨t, 0, none⟩)]
  row : Blk W (w.heap.size + 1) 3 (i64l ps).toArray
  pl : Blk W (w.heap.size + 2) 46 #[.slice (some ⟨w.heap.size + 1, 0, none⟩) (ns 2).length (ns 2).length]
  fr : IsFr W t g d cap xs r first harts v ns
  below : Below w.heap.size w W
  size : w.heap.size + 4 ≤ W.heap.size
  len : ps.length = (ns 2).length
theorem RightI.keeps (h : RightI w W t g d cap xs r first harts v ns ps) (hk : KeepsCells [] W W') (hb : Below w.heap.size W W') : RightI w W' t g d cap xs r first harts v ns ps :=
  ⟨hk.2 _ _ _ (by simp) h.box, hk.2 _ _ _ (by simp) h.row, hk.2 _ _ _ (by simp) h.pl, h.fr.keeps hk (by simp) (by simp) (by simp), h.below.trans hb, Nat.le_trans h.size hk.1, h.len⟩
theorem RightI.drewN (h : RightI w W t g d cap xs r first harts v ns ps) (n : Nat) : RightI w (W.drewN n) t g d cap xs r first harts v ns ps :=
  h.keeps ⟨Nat.le_refl _, fun _ _ _ _ h => h⟩ (below_drewN' (Below.refl _ _) n)
theorem RightI.only (h : RightI w W t g d cap xs r first harts v ns ps) (ho : Only [] W W') : RightI w W' t g d cap xs r first harts v ns ps :=
  h.keeps (KeepsCells.of_only ho) (ho.below (by have := h.size; omega) (by simp))
theorem RightI.set (h : RightI w W t g d cap xs r first harts v ns ps) (hl : ∀ k, k ∈ footL t v → k < w.heap.size) (hg : g < w.heap.size) (hd : d < w.heap.size) (k : Nat) (x : Int) : RightI w (W.setCell ⟨w.heap.size + 1, k, none⟩ (.int .i64 x)) t g d cap xs r first harts v ns (ps.set k x) := by
  have ho : Only [w.heap.size + 1] W (W.setCell ⟨w.heap.size + 1, k, none⟩ (.int .i64 x)) := (Only.refl _ _).setCell _ (by simp)
  refine ⟨h.box.only ho (by simp), ?_, h.pl.only ho (by simp), h.fr.only ho (fun q hq => by have := hl q hq; simp; omega) (by simp; omega) (by simp; omega), h.below.trans (ho.below (by have := h.size; omega) (by simp)), Nat.le_trans h.size ho.size, by rw [List.length_set]; exact h.len⟩
  have := h.row.set_ k (.int .i64 x)
  rw [List.setIfInBounds_toArray, show (i64l ps).set k (Value.int .i64 x) = i64l (ps.set k x) by simp [i64l, List.map_set]] at this
  exact this

/-- How often each of n frames was met, as a row. -/
def psOf (f : Nat → Nat) (n : Nat) : List Int := (List.range n).map fun k => (f k : Int)
theorem psOf_len (f : Nat → Nat) (n : Nat) : (psOf f n).length = n := by simp [psOf]
theorem psOf_get (f : Nat → Nat) (n k : Nat) (h : k < n) : gb (psOf f n) k = f k := by simp [psOf, gb, List.getD, h]
theorem psOf_congr {f f' : Nat → Nat} {n : Nat} (h : ∀ k, k < n → f k = f' k) : psOf f n = psOf f' n := by
  unfold psOf
  refine List.map_congr_left fun k hk => ?_
  rw [h k (List.mem_range.1 hk)]
theorem psOf_set (f : Nat → Nat) (n k : Nat) (h : k < n) : (psOf f n).set k ((f k : Int) + 1) = psOf (fun j => f j + if j = k then 1 else 0) n := by
  refine List.ext_getElem (by simp [psOf]) fun j h1 h2 => ?_
  rw [List.getElem_set]
  have hj : j < n := by simpa [psOf] using h2
  by_cases e : k = j
  · subst e; simp [psOf]
  · simp [psOf, e, Ne.symm e]
/-- How often a frame is among those that came. -/
def usedPs (ns : Nat → List Int) (pre : List (UseI ns)) (k : Nat) : Nat := (pre.map fun x => x.1).count k
theorem usedPs_snoc (ns : Nat → List Int) (pre : List (UseI ns)) (x : UseI ns) (j : Nat) : usedPs ns (pre ++ [x]) j = usedPs ns pre j + if j = x.1 then 1 else 0 := by
  unfold usedPs
  rw [List.map_append, List.count_append]
  by_cases e : j = x.1
  · subst e; simp
  · rw [if_neg e]
    simp [Ne.symm e]
theorem used_count (ns : Nat → List Int) (k : Nat) : ∀ m, usedPs ns (usedTo ns m) k = if k < m ∧ k < (ns 2).length ∧ 0 < gb (ns 2) k then 1 else 0
  | 0 => by simp [usedTo, usedPs]
  | m + 1 => by
    have ih := used_count ns k m
    by_cases h : m < (ns 2).length ∧ 0 < gb (ns 2) m
    · rw [usedTo_yes h, usedPs_snoc, ih]
      by_cases e : k = m
      · subst e
        rw [if_neg (by omega), if_pos rfl, if_pos ⟨by omega, h⟩]
      · rw [if_neg (show ¬ k = (⟨m, h⟩ : UseI ns).1 from e)]
        by_cases hk : k < m
        · by_cases h2 : k < (ns 2).length ∧ 0 < gb (ns 2) k
          · rw [if_pos ⟨hk, h2⟩, if_pos ⟨by omega, h2⟩]
          · rw [if_neg (fun q => h2 q.2), if_neg (fun q => h2 q.2)]
        · rw [if_neg (fun q => hk q.1), if_neg (fun q => hk (by omega))]
    · have hu : usedTo ns (m + 1) = usedTo ns m := by rw [usedTo, dif_neg h]
      rw [hu, ih]
      by_cases hk : k < m
      · by_cases h2 : k < (ns 2).length ∧ 0 < gb (ns 2) k
        · rw [if_pos ⟨hk, h2⟩, if_pos ⟨by omega, h2⟩]
        · rw [if_neg (fun q => h2 q.2), if_neg (fun q => h2 q.2)]
      · rw [if_neg (fun q => hk q.1), if_neg (fun q => by
          have : k = m := by omega
          subst this
          exact h q.2)]
theorem Good.met (G : Good xs first ns) (k : Nat) (hk : k < (ns 2).length) : usedPs ns (usedTo ns (ns 2).length) k + (freeL ns).count ((first : Int) + k) = 1 := by
  rw [used_count]
  by_cases h : 0 < gb (ns 2) k
  · rw [if_pos ⟨hk, hk, h⟩, List.count_eq_zero.2 (fun hm => ?_)]
    obtain ⟨k', h1, h2, h3⟩ := G.rng _ hm
    have : k = k' := by omega
    subst this
    omega
  · rw [if_neg (fun q => h q.2.2), G.one k hk (by have := (G.cnt k hk).1; omega)]

/-- What holds at a round of Right's second loop. -/
def RightR (w w2 : World) (t g d cap : Nat) (xs : List Int) (r : List Value) (first harts : Nat) (v : Nat → Value) (ns : Nat → List Int) (D : Nat) (iv : Value) (wr : World) : Prop :=
  ∃ k : Nat, k ≤ (freeL ns).length ∧ iv = .int .i64 k ∧ RightI w wr t g d cap xs r first harts v ns (psOf (fun j => usedPs ns (usedTo ns (ns 2).length) j + ((freeL ns).take k).count ((first : Int) + j)) (ns 2).length) ∧
    KeepsCells [w.heap.size + 1] w2 wr ∧ wr.heap[D]? = some (.deferred (some []))

set_option maxRecDepth 100000 in
set_option maxHeartbeats 4000000 in
theorem right_is (F : IsFr w t g d cap xs r first harts v ns) (G : Good xs first ns) (hn0 : 0 < (ns 2).length) : Calls Try.prog 16 #[.pointer (some ⟨t, 0, none⟩)] w fun e w' => e = .returned (.bool true) ∧ Below w.heap.size w w' := by
  have hlt := F.lts
  have hsm := F.small
  obtain ⟨n, hn⟩ : ∃ n, (ns 2).length = n := ⟨_, rfl⟩
  have F0 : ∀ o, IsFr (w.alloc o) t g d cap xs r first harts v ns := fun o => F.only ((Only.refl [] w).alloc o) (by simp) (by simp) (by simp)
  have HC := hide (fclosed_is (F0 (.cells #[.pointer (some ⟨t, 0, none⟩)] 28)))
  have hc2 := F.cell 2 (by decide)
  obtain ⟨A2, c2, hv2, -⟩ := (F.rows.row 2 (.inl rfl)).form
  rw [hv2] at hc2
  have hc2' : ∀ o, (w.alloc o).cell? ⟨t, 2, none⟩ = some (.slice A2 (ns 2).length c2) := fun o => Lib.cell?_alloc_some _ hc2
  clear hc2
  obtain ⟨i0, hi, hz0, hz1, hz2⟩ := info_parts info_int
  have hmk : ∀ u : World, (Instr.makeSlice 46 (.int .i64 ((ns 2).length : Int)) (.int .i64 ((ns 2).length : Int))).run Try.prog u =
      .ok (.slice (some ⟨u.heap.size, 0, none⟩) (ns 2).length (ns 2).length) (u.alloc (.cells (madeCells #[.int .i64 0] (ns 2).length) 3)) := fun u => by
    have h := run_make (P := Try.prog) u 46 3 i0 (.int .i64 0) Try.underlying46 hi hz0 .i64 .i64 ((ns 2).length : Int) ((ns 2).length : Int) (by omega) (Int.le_refl _) (by rw [hz2]; omega) (by omega)
    simpa [hz1, Value.cells] using h
  have HF := hide F
  clear F F0 hv2 hi hz0 hz1 hz2
  have HLT := hide hlt
  have HN := hide hn
  clear hlt hn
  (refine (callsIn_wide (n := 9)).1 ?_; refine callsIn_of_wp_marks Try.func16 rfl trivial ?_ rfl; simp only [Try.ntmps16, List.size_toArray, List.length_cons, List.length_nil, Nat.reduceAdd, Nat.reduceSub, Array.replicate_succ, Array.replicate_zero, List.push_toArray, List.append_toArray, List.nil_append, List.cons_append]; refine wpIn_wide.2 ?_)
  go_wp2_with (first | (go_at_call 33; refine HC.out.mono ?_; rintro e w' ⟨rfl, rfl⟩) | (go_at_call 11; refine (fall_new _ _).mono ?_; rintro e w1 ⟨rfl, hw1⟩; have HW1 := hide hw1; clear hw1))
  obtain ⟨hlg, hld, hll⟩ := HLT.out
  have hE : RightI w w1 t g d cap xs r first harts v ns (psOf (usedPs ns []) (ns 2).length) := by
    rw [HW1.out]
    have hz : (i64l (psOf (usedPs ns []) (ns 2).length)).toArray = madeCells #[.int .i64 0] (ns 2).length := by
      apply Array.ext'
      rw [toList_madeCells_one]
      simp only [i64l, psOf, usedPs, List.map_map]
      show List.map (fun _ => Value.int .i64 0) (List.range (ns 2).length) = _
      rw [List.map_const', List.length_range]
    refine ⟨(((Blk.new w _ _).alloc _).alloc _).alloc _, ?_, ?_, ?_, ((((Below.refl _ w).alloc (Nat.le_refl _) _).alloc (by simp) _).alloc (by simp; omega) _).alloc (by simp; omega) _, by simp, psOf_len _ _⟩
    · rw [hz]
      have := ((Blk.new (w.alloc (.cells #[.pointer (some ⟨t, 0, none⟩)] 28)) 3 (madeCells #[.int .i64 0] (ns 2).length)).alloc (.cells #[.slice (some ⟨w.heap.size + 1, 0, none⟩) (ns 2).length (ns 2).length] 46)).alloc (.cells #[.pointer (some ⟨t, 0, none⟩)] 28)
      simpa using this
    · have := (Blk.new ((w.alloc (.cells #[.pointer (some ⟨t, 0, none⟩)] 28)).alloc (.cells (madeCells #[.int .i64 0] (ns 2).length) 3)) 46 #[.slice (some ⟨w.heap.size + 1, 0, none⟩) (ns 2).length (ns 2).length]).alloc (.cells #[.pointer (some ⟨t, 0, none⟩)] 28)
      simpa using this
    · exact HF.out.only (((((Only.refl [] w).alloc _).alloc _).alloc _).alloc _) (by simp) (by simp) (by simp)
  have hCB : Blk w1 (w.heap.size + 1 + 1 + 1) 28 #[.pointer (some ⟨t, 0, none⟩)] := by
    rw [HW1.out]
    have := Blk.new (((w.alloc (.cells #[.pointer (some ⟨t, 0, none⟩)] 28)).alloc (.cells (madeCells #[.int .i64 0] (ns 2).length) 3)).alloc (.cells #[.slice (some ⟨w.heap.size + 1, 0, none⟩) (ns 2).length (ns 2).length] 46)) 28 #[.pointer (some ⟨t, 0, none⟩)]
    simpa using this
  have hsz : w1.heap.size = w.heap.size + 4 := by rw [HW1.out]; simp
  have hltt := hll t (mem_footL.2 (.inl rfl))
  clear HW1 HC hc2' hmk
  refine (wpIn_wide (n := 9)).1 ?_
  refine wpIn_rangeFunc_ownF rfl (by decide) (gf := 32) (lb := #[.pointer (some ⟨w.heap.size + 1 + 1 + 1, 0, none⟩)]) rfl trivial (enters_of Try.func32 (by kernel_rfl) rfl)
    (all1_is hE.fr _ (w.heap.size + 1 + 1 + 1) (by decide) hCB [w.heap.size + 1] (by simp; omega) (by simp; omega) (by simp; omega) G.cnt) keepsCells_t (fun W l o o' _ h hc _ => keepsCells_b W l o o' h hc) (Below.refl _ _) (fun x => rfl)
    (fun pre W => RightI w W t g d cap xs r first harts v ns (psOf (usedPs ns pre) (ns 2).length)) (fun _ _ _ => False)
    (fun s W W' row hs hg hr => hs.keeps (keepsCells_grown hg (fun r e => (hr r e).2) _) ((Below.refl w.heap.size W).grown hg hs.below.size (fun k e => by have := (hr k e).1; omega)))
    (fun _ _ _ _ _ hs _ _ => hs)
    hE
    (fun x => { tmps := #[.pointer (some ⟨t, 0, none⟩), .pointer (some ⟨w.heap.size, 0, none⟩), .bool false, .pointer (some ⟨w.heap.size + 1 + 1, 0, none⟩), .int .i64 (first + x.1), undef, undef, .pointer (some ⟨t, 0, none⟩), .bool false, .pointer (some ⟨t, 0, none⟩), .pointer (some ⟨t, 0, none⟩), .pointer (some ⟨t, 2, none⟩), .slice A2 (ns 2).length c2, .int .i64 (ns 2).length, .slice (some ⟨w.heap.size + 1, 0, none⟩) (ns 2).length (ns 2).length, .pointer (some ⟨t, 0, none⟩), .func (.func 32) #[] #[.pointer (some ⟨w.heap.size + 1 + 1 + 1, 0, none⟩)], .int .i64 (first + x.1), .int .i64 (gb (ns 2) x.1), undef, undef, undef, undef, undef, undef, undef, undef, undef, undef, undef, undef, undef, undef, undef, undef, undef, undef, undef, undef, undef, undef, undef, undef, undef, undef, undef, undef, undef, undef, undef, undef, undef, undef, undef, undef, undef], defers := [] }) ?assign ?body ?done ?stop
  case assign =>
    intro l x W K hK
    gi_wp2
    exact hK
  case body =>
    rintro l pre ⟨k, hk⟩ W hI hlen
    clear hE hCB hsz
    have hfk : (usedPs ns pre k : Int) < 4611686018427387904 := by
      have : usedPs ns pre k ≤ pre.length := by
        have := List.count_le_length (a := k) (l := pre.map fun x => x.1)
        simpa [usedPs] using this
      omega
    obtain ⟨f, hf⟩ : ∃ f : Nat → Nat, usedPs ns pre = f := ⟨_, rfl⟩
    rw [hf] at hI hfk
    have HFF := hide hf
    have hb : W.cell? ⟨w.heap.size, 0, none⟩ = some (.pointer (some ⟨t, 0, none⟩)) := hI.box.cell 0
    have hp : W.cell? ⟨w.heap.size + 1 + 1, 0, none⟩ = some (.slice (some ⟨w.heap.size + 1, 0, none⟩) (ns 2).length (ns 2).length) := hI.pl.cell 0
    have hfc := hI.fr.cell 1 (by decide)
    rw [hI.fr.v1] at hfc
    have hcc : W.cell? ⟨w.heap.size + 1, k, none⟩ = some (.int .i64 (f k)) := by
      have := i64l_get (psOf f (ns 2).length) [] k (by rw [hI.len]; exact hk.1)
      rw [List.append_nil] at this
      rw [hI.row.cell, this, psOf_get _ _ _ hk.1]
    have hfz := hI.row.frozen k
    have HS := hide (fun n => (hI.drewN n).set hll hlg hld k ((f k : Int) + 1))
    have hk1 : (k : Int) < (ns 2).length := by have := hk.1; omega
    have hw2 : (first : Int) + k - first = k := by omega
    have hw1 : IntKind.i64.wrap ((first : Int) + k - first) = k := by rw [IntKind.wrap_i64]; omega
    have hw3 : IntKind.i64.wrap (k : Int) = k := by rw [IntKind.wrap_i64]; omega
    have hk2 : (k : Int) ≤ 4096 := by omega
    have hwf : IntKind.i64.wrap ((f k : Int) + 1) = (f k : Int) + 1 := by rw [IntKind.wrap_i64]; omega
    have HB := hide (show KeepsOthers W (W.setCell ⟨w.heap.size + 1, k, none⟩ (.int .i64 ((f k : Int) + 1))).drew ∧ KeepsCells [w.heap.size + 1] W (W.setCell ⟨w.heap.size + 1, k, none⟩ (.int .i64 ((f k : Int) + 1))).drew ∧
        RightI w (W.setCell ⟨w.heap.size + 1, k, none⟩ (.int .i64 ((f k : Int) + 1))).drew t g d cap xs r first harts v ns (psOf (usedPs ns (pre ++ [⟨k, hk⟩])) (ns 2).length) from by
      refine ⟨(KeepsOthers.setCell W _ _).trans ⟨Nat.le_refl _, fun _ _ h _ => h⟩, KeepsCells.of_only (((Only.refl _ W).setCell _ (by simp)).drew), ?_⟩
      have h1 := ((hI.set hll hlg hld k ((f k : Int) + 1)).drewN 1)
      rw [psOf_set _ _ _ hk.1] at h1
      have e : psOf (fun j => f j + if j = k then 1 else 0) (ns 2).length = psOf (usedPs ns (pre ++ [⟨k, hk⟩])) (ns 2).length := psOf_congr fun j _ => by
        rw [usedPs_snoc, HFF.out]
      rw [e] at h1
      exact h1)
    clear hI hf HS
    dsimp only
    gi_wp2
    gi_region
    all_goals exact HB.out
  case done =>
    rintro D ys W hD rfl hI hK
    have hDw : w.heap.size ≤ D := by omega
    clear hE hCB hsz
    have hDl : D < W.heap.size := (Array.getElem?_eq_some_iff.1 hK).1
    have hWs : w.heap.size + 4 ≤ W.heap.size := hI.size
    have hfl : (freeL ns).length ≤ 36864 := by
      have h1 := catL_le ns G.few 8 (by decide)
      have h2 := G.few 12 (by unfold Slot; omega)
      unfold freeL
      rw [List.length_append]; omega
    have HFR := hide ((freeL_is hI.fr G.few).mono (R' := fun e w2 => ∃ A c, e = .returned (.slice A (freeL ns).length c) ∧ KRow .i64 3 w2 W.heap.size (.slice A (freeL ns).length c) (freeL ns) ∧ Only [] W w2) (by
      rintro e w2 ⟨v', he, hr, ho⟩
      obtain ⟨A, c, rfl, -⟩ := hr.form
      exact ⟨A, c, he, hr, ho⟩))
    have hb : W.cell? ⟨w.heap.size, 0, none⟩ = some (.pointer (some ⟨t, 0, none⟩)) := hI.box.cell 0
    have HI := hide hI
    have HK := hide hK
    clear hI hK
    go_wp2_with (go_at_call 38; refine HFR.out.mono ?_; rintro e w2 ⟨A3, c3, rfl, hr2, ho2⟩; have HR2 := hide hr2; have HO2 := hide ho2; clear hr2 ho2)
    have HI2 := hide (HI.out.only HO2.out)
    have HK2 := hide (show w2.heap[D]? = some (.deferred (some [])) from (HO2.out.block D hDl (by simp)).trans HK.out)
    clear HFR hb HI HK
    go_loopw [33] (fun iv wr => RightR w w2 t g d cap xs r first harts v ns D iv wr) (fun iv _ => (freeL ns).length - (intOf iv).toNat)
    case atStart => exact ⟨0, Nat.zero_le _, rfl, by simp only [List.take_zero, List.count_nil, Nat.add_zero]; exact HI2.out, ⟨Nat.le_refl _, fun _ _ _ _ h => h⟩, HK2.out⟩
    case round =>
      clear HI2 HK2
      obtain ⟨k, hk, rfl, hI, hkc, hK⟩ := hrel
      have HI := hide hI
      have HKC := hide hkc
      have HK := hide hK
      have hDr : D < wr.heap.size := (Array.getElem?_eq_some_iff.1 hK).1
      have hb : wr.cell? ⟨w.heap.size, 0, none⟩ = some (.pointer (some ⟨t, 0, none⟩)) := hI.box.cell 0
      have hp : wr.cell? ⟨w.heap.size + 1 + 1, 0, none⟩ = some (.slice (some ⟨w.heap.size + 1, 0, none⟩) (ns 2).length (ns 2).length) := hI.pl.cell 0
      by_cases hlt : k < (freeL ns).length
      · obtain ⟨kk, hkk, hxk, h0⟩ := G.rng _ (List.getElem_mem hlt)
        obtain ⟨b3, rfl, hck⟩ : ∃ b3, A3 = some ⟨b3, 0, none⟩ ∧ wr.cell? ⟨b3, k, none⟩ = some (.int .i64 ((first : Int) + kk)) := by
          have hr := KRow.keeps HR2.out hkc (fun q hq hm => by have := (HR2.out.at_ hq).1; simp at hm; omega)
          obtain ⟨A, c, e, hA⟩ := hr.form
          injection e with e1 e2 e3
          obtain ⟨b, e, _, _, hc⟩ := hA (by omega)
          refine ⟨b, e1.trans e, ?_⟩
          rw [hc k hlt, ← hxk]
          simp [gb, List.getD, List.getElem?_eq_getElem hlt]
        have HBK := hide (blank_yes hI.fr ((first : Int) + kk) kk rfl hkk (G.zero kk hkk h0))
        obtain ⟨f, hf⟩ : ∃ f : Nat → Nat, (fun j : Nat => usedPs ns (usedTo ns (ns 2).length) j + ((freeL ns).take k).count ((first : Int) + j)) = f := ⟨_, rfl⟩
        rw [hf] at HI
        have hfk : (f kk : Int) ≤ 100000 := by
          rw [← hf]
          have h1 : usedPs ns (usedTo ns (ns 2).length) kk ≤ 1 := by rw [used_count]; split <;> omega
          have h2 := List.count_le_length (a := ((first : Int) + kk)) (l := (freeL ns).take k)
          rw [List.length_take] at h2
          simp only
          omega
        have HN := hide (fun (w5 : World) (ho5 : Only [] wr w5) => (show (w5.cell? ⟨w.heap.size, 0, none⟩ = some (.pointer (some ⟨t, 0, none⟩)) ∧ w5.cell? ⟨w.heap.size + 1 + 1, 0, none⟩ = some (.slice (some ⟨w.heap.size + 1, 0, none⟩) (ns 2).length (ns 2).length) ∧
            w5.cell? ⟨t, 1, none⟩ = some (.int .i64 first) ∧ w5.cell? ⟨w.heap.size + 1, kk, none⟩ = some (.int .i64 (f kk)) ∧ w5.frozen? ⟨w.heap.size + 1, kk, none⟩ = false) ∧
            (RightR w w2 t g d cap xs r first harts v ns D (.int .i64 ((k + 1 : Nat) : Int)) (w5.setCell ⟨w.heap.size + 1, kk, none⟩ (.int .i64 ((f kk : Int) + 1))).drew) from by
          have h5 := HI.out.only ho5
          refine ⟨⟨h5.box.cell 0, h5.pl.cell 0, by rw [h5.fr.cell 1 (by decide), h5.fr.v1], ?_, h5.row.frozen _⟩, k + 1, hlt, rfl, ?_, keepsCells_t (keepsCells_t HKC.out (KeepsCells.of_only (ho5.mono (by simp)))) (KeepsCells.of_only (((Only.refl _ w5).setCell _ (by simp)).drew)), ?_⟩
          · have := i64l_get (psOf f (ns 2).length) [] kk (by rw [psOf_len]; exact hkk)
            rw [List.append_nil] at this
            rw [h5.row.cell, this, psOf_get _ _ _ hkk]
          · have h1 := ((h5.set hll hlg hld kk ((f kk : Int) + 1)).drewN 1)
            rw [psOf_set _ _ _ hkk] at h1
            have e : psOf (fun j => f j + if j = kk then 1 else 0) (ns 2).length = psOf (fun j => usedPs ns (usedTo ns (ns 2).length) j + ((freeL ns).take (k + 1)).count ((first : Int) + j)) (ns 2).length := psOf_congr fun j _ => by
              rw [← hf, List.take_succ_eq_append_getElem hlt, List.count_append, hxk]
              by_cases e : j = kk
              · subst e; simp; omega
              · have : ¬ ((first : Int) + kk = (first : Int) + j) := by omega
                simp [e, this]
            rw [e] at h1
            exact h1
          · show (w5.setCell _ _).heap[D]? = _
            rw [Below.heap_setCell w5 ⟨w.heap.size + 1, kk, none⟩ _ D (by intro e; have := hI.row; unfold Blk at this; rw [← show D = w.heap.size + 1 from e, hK] at this; cases this)]
            exact (ho5.block D hDr (by simp)).trans HK.out))
        have hw1 : IntKind.i64.wrap ((first : Int) + kk - first) = kk := by rw [IntKind.wrap_i64]; omega
        have hw2 : (first : Int) + kk - first = kk := by omega
        have hw3 : IntKind.i64.wrap (kk : Int) = kk := by rw [IntKind.wrap_i64]; omega
        have hk1 : (kk : Int) < (ns 2).length := by omega
        have hk2 : (kk : Int) ≤ 4096 := by omega
        have hwf : IntKind.i64.wrap ((f kk : Int) + 1) = (f kk : Int) + 1 := by rw [IntKind.wrap_i64]; omega
        have hkl : (k : Int) < (freeL ns).length := by omega
        clear hI hkc hK HI HKC HK hf hxk h0 hkk
        go_wp2_with (go_at_call 39; refine HBK.out.mono ?_; rintro e w5 ⟨rfl, ho5⟩; obtain ⟨⟨d1, d2, d3, d4, d5⟩, d6⟩ := HN.out w5 ho5; have HD6 := hide d6; clear d6 ho5 hb hp hck)
        go_region
        go_wp2
        go_roundw
        case rel => exact HD6.out
        case measure => simp [intOf]; omega
      · obtain rfl : k = (freeL ns).length := by omega
        have HH := hide (hasI_none wr (some ⟨w.heap.size + 1, 0, none⟩) (ns 2).length (ns 2).length (by omega) (fun _ => ⟨w.heap.size + 1, 0, rfl, fun i hi => by
          have := i64l_get (psOf (fun j => usedPs ns (usedTo ns (ns 2).length) j + ((freeL ns).take (freeL ns).length).count ((first : Int) + j)) (ns 2).length) [] i (by rw [psOf_len]; exact hi)
          rw [List.append_nil] at this
          rw [Nat.zero_add, hI.row.cell, this, psOf_get _ _ _ hi, List.take_length, G.met i hi]
          rfl⟩))
        have HBL := hide hI.below
        clear hI hkc hK HI HKC hlt hk
        go_wp2_with (go_at_call 40; refine HH.out.mono ?_; rintro e w5 ⟨rfl, rfl⟩)
        refine ⟨by simp, .inl ⟨_, _, rfl, run_takeDeferred HK.out, ?_⟩⟩
        exact ⟨_, results_tmp rfl _ _ _, rfl, HBL.out.trans (belowK_b (w := w) (Nat.le_refl _) _ D _ _ hDw HK.out rfl rfl)⟩
  case stop =>
    rintro D c pre W hD _ h _
    exact h.elim
end
end Go.Proofs.Ytfbegickdnjfcaa
