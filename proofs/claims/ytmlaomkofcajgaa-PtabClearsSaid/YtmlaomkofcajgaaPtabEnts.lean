/-
  A page table's entries as one array (parapet/ptab 'entries'), and All.
-/
import Derived.Test.YtmlaomkofcajgaaPtabIter
namespace Go.Proofs.Ytmlaomkofcajgaa
open Go.ChangeShapes Go.WideShapes Go.ChangeAt Go.RowKit Go.Shelf
set_option linter.unusedVariables false
attribute [local go_sem] Oper.semAt_some

theorem shl6_or (f g : Int) (h0 : 0 ≤ f) (h1 : f ≤ 3) (g0 : 0 ≤ g) (g1 : g ≤ 63) : bits .or .i64 (f * 64) g = f * 64 + g := by
  obtain ⟨a, rfl⟩ := Int.eq_ofNat_of_zero_le h0
  obtain ⟨b, rfl⟩ := Int.eq_ofNat_of_zero_le g0
  have := i64_or_nat (a * 64) b (by omega) (by omega)
  have e : (a * 64 ||| b) = a * 64 + b := by
    rw [Nat.mul_comm]
    exact (Nat.two_pow_add_eq_or_of_lt (i := 6) (by omega) a).symm
  rw [e] at this
  rw [show ((a : Int) * 64) = ((a * 64 : Nat) : Int) by omega, this]
  omega

/-- The word that the leaf of page q says. -/
def entW (xs : List Int) (root : Int) (q : Nat) : Int := wordB xs (wordB xs root ((q : Int) / 64) / 256) ((q : Int) % 64)
/-- The entries of the pages of p; 0 of the others. -/
def entsP (xs : List Int) (root : Int) (p : Nat → Bool) : List Int := (List.range 256).map fun q => if p q then entW xs root q else 0
theorem entsP_len (xs : List Int) (root : Int) (p : Nat → Bool) : (entsP xs root p).length = 256 := by simp [entsP]
theorem entsP_get (xs : List Int) (root : Int) (p : Nat → Bool) (q : Nat) (h : q < 256) : gb (entsP xs root p) q = if p q then entW xs root q else 0 := by
  simp [gb, entsP, List.getD, h]
theorem entsP_congr {xs : List Int} {root : Int} {p p' : Nat → Bool} (h : ∀ q, q < 256 → p q = p' q) : entsP xs root p = entsP xs root p' := by
  unfold entsP
  exact List.map_congr_left fun q hq => by rw [h q (List.mem_range.1 hq)]
theorem entsP_set {xs : List Int} {root : Int} {p : Nat → Bool} {z : Nat} (hz : z < 256) : (entsP xs root p).set z (entW xs root z) = entsP xs root (fun q => p q || q == z) := by
  refine List.ext_getElem? fun j => ?_
  by_cases hj : j < 256
  · rw [List.getElem?_set]
    have hlen : j < (entsP xs root p).length := by rw [entsP_len]; exact hj
    simp only [entsP, List.getElem?_map, List.getElem?_range hj, Option.map_some, List.length_map, List.length_range]
    by_cases hzj : z = j
    · subst hzj; simp [hz]
    · have : (j == z) = false := by simp; omega
      simp [hzj, this]
  · rw [List.getElem?_eq_none (by rw [List.length_set, entsP_len]; omega), List.getElem?_eq_none (by rw [entsP_len]; omega)]
theorem entsP_none (xs : List Int) (root : Int) : entsP xs root (fun _ => false) = List.replicate 256 0 := by
  unfold entsP
  simp only [Bool.false_eq_true, if_false]
  rw [List.map_const', List.length_range]

/-- Is page q's leaf among those that came? -/
def came {xs : List Int} {root : Int} (pre : List (LeafI xs root)) (q : Nat) : Bool := pre.any fun x => decide (x.1 = (q : Int) / 64)
theorem came_snoc {xs : List Int} {root : Int} (pre : List (LeafI xs root)) (x : LeafI xs root) (q : Nat) : came (pre ++ [x]) q = (came pre q || decide (x.1 = (q : Int) / 64)) := by
  simp [came]
theorem came_to (xs : List Int) (root : Int) : ∀ k q, k ≤ 4 → came (leavesTo xs root k) q = (decide (q / 64 < k) && leafB xs root ((q : Int) / 64))
  | 0, q, _ => by simp [came, leavesTo]
  | k + 1, q, hk => by
    have ih := came_to xs root k q (by omega)
    by_cases h : leafB xs root (k : Int) = true
    · rw [leavesTo_yes ⟨by omega, h⟩, came_snoc, ih]
      by_cases hq : (k : Int) = (q : Int) / 64
      · have hle : leafB xs root ((q : Int) / 64) = true := by rw [← hq]; exact h
        rw [hle, decide_eq_true (p := q / 64 < k + 1) (by omega), decide_eq_true hq]; simp
      · by_cases hlt : q / 64 < k
        · rw [decide_eq_true hlt, decide_eq_true (p := q / 64 < k + 1) (by omega), decide_eq_false hq]; simp
        · rw [decide_eq_false hlt, decide_eq_false (p := q / 64 < k + 1) (by omega), decide_eq_false hq]; simp
    · have h' : leafB xs root (k : Int) = false := by simpa using h
      rw [leavesTo_no h', ih]
      by_cases hq : (k : Int) = (q : Int) / 64
      · have hle : leafB xs root ((q : Int) / 64) = false := by rw [← hq]; exact h'
        rw [hle]; simp
      · by_cases hlt : q / 64 < k
        · rw [decide_eq_true hlt, decide_eq_true (p := q / 64 < k + 1) (by omega)]
        · rw [decide_eq_false hlt, decide_eq_false (p := q / 64 < k + 1) (by omega)]

/-- All entries, as Walk tells them. -/
def entsA (xs : List Int) (root : Int) : List Int := entsP xs root (came (leavesTo xs root 4))
theorem entsA_get {xs : List Int} {root : Int} (hr : hasB xs root = true) (q : Nat) (h : q < 256) : gb (entsA xs root) q = walkB xs root q := by
  unfold entsA
  rw [entsP_get _ _ _ _ h, came_to _ _ _ _ (Nat.le_refl _), decide_eq_true (p := q / 64 < 4) (by omega)]
  unfold walkB entW
  rw [hr, decide_eq_true (p := 0 ≤ (q : Int) ∧ (q : Int) < 256) (by omega)]
  simp

section
variable {w : World} {t g d cap : Nat} {xs : List Int} {r : List Value} {root : Int}

theorem tab_kept {W W' : World} {row : Option Nat} (h : IsTab W t g d cap xs r root) (hg : W.grownBy W' row) (hr : ∀ r, row = some r → ∃ o : Obj, W.heap[r]? = some o ∧ o.isCells = false) : IsTab W' t g d cap xs r root :=
  ⟨blk_kept h.tab hg hr, ⟨blk_kept h.mem.mem hg hr, blk_kept h.mem.row hg hr, h.mem.cap, h.mem.pos, h.mem.mul, h.mem.big, h.mem.tne⟩, h.u8, h.root⟩

/-- What holds between two rounds. -/
structure EntI (w W : World) (t g d cap : Nat) (xs : List Int) (r : List Value) (root : Int) (p : Nat → Bool) (zs : List Int) : Prop where
  arr : Blk W (w.heap.size + 1 + 1) 78 (u32A (entsP xs root p))
  res : Blk W (w.heap.size + 1) 78 (u32A zs)
  box : Blk W w.heap.size 42 #[.pointer (some ⟨t, 0, none⟩)]
  tab : IsTab W t g d cap xs r root
  below : Below w.heap.size w W
  size : w.heap.size + 4 ≤ W.heap.size

theorem EntI.kept {W W' : World} {p : Nat → Bool} {zs : List Int} {row : Option Nat} (h : EntI w W t g d cap xs r root p zs) (hg : W.grownBy W' row) (hr : ∀ r, row = some r → w.heap.size + 4 ≤ r ∧ ∃ o : Obj, W.heap[r]? = some o ∧ o.isCells = false) : EntI w W' t g d cap xs r root p zs :=
  ⟨blk_kept h.arr hg (fun r e => (hr r e).2), blk_kept h.res hg (fun r e => (hr r e).2), blk_kept h.box hg (fun r e => (hr r e).2), tab_kept h.tab hg (fun r e => (hr r e).2),
    h.below.grown hg h.below.size (fun k e => by have := (hr k e).1; omega), Nat.le_trans h.size hg.size⟩
theorem EntI.drewN {W : World} {p : Nat → Bool} {zs : List Int} (h : EntI w W t g d cap xs r root p zs) (n : Nat) : EntI w (W.drewN n) t g d cap xs r root p zs :=
  ⟨h.arr.drewN n, h.res.drewN n, h.box.drewN n, h.tab.drewN n, below_drewN h.below n, h.size⟩
theorem EntI.congr {W : World} {p p' : Nat → Bool} {zs : List Int} (h : EntI w W t g d cap xs r root p zs) (hp : ∀ q, q < 256 → p q = p' q) : EntI w W t g d cap xs r root p' zs :=
  ⟨by rw [← entsP_congr hp]; exact h.arr, h.res, h.box, h.tab, h.below, h.size⟩
/-- One entry more. -/
theorem EntI.set {W : World} {p : Nat → Bool} {zs : List Int} (h : EntI w W t g d cap xs r root p zs) (hlt : t < w.heap.size ∧ g < w.heap.size ∧ d < w.heap.size) {z : Nat} (hz : z < 256) :
    EntI w (W.setCell ⟨w.heap.size + 1 + 1, z, none⟩ (.int .u32 (entW xs root z))) t g d cap xs r root (fun q => p q || q == z) zs :=
  ⟨by have := h.arr.set_ z (.int .u32 (entW xs root z)); rw [u32A_set, entsP_set hz] at this; exact this, h.res.far (by simp) _, h.box.far (by simp; omega) _,
    h.tab.only ((Only.refl [w.heap.size + 1 + 1] W).setCell _ (by simp)) (by simp; omega) (by simp; omega) (by simp; omega),
    h.below.setCell (p := ⟨w.heap.size + 1 + 1, z, none⟩) (by simp; omega) _, by simpa [World.setCell] using h.size⟩

set_option maxRecDepth 100000 in
set_option maxHeartbeats 4000000 in
theorem entries_is (hT : IsTab w t g d cap xs r root) : Calls Try.prog 59 #[.pointer (some ⟨t, 0, none⟩)] w fun e w' => e = .returned (.agg (u32A (entsA xs root))) ∧ Below w.heap.size w w' := by
  have hlt := hT.lt
  have hz : (List.replicate 256 (0 : Int)).length = 256 := List.length_replicate
  have hz2 := entsP_none xs root
  generalize hL : List.replicate 256 (0 : Int) = zs at hz hz2
  have hZ : Try.zeroCells78 = u32A zs := by rw [← hL]; exact zero_arr
  clear hL
  (refine (callsIn_wide (n := 9)).1 ?_; refine callsIn_of_wp_marks Try.func59 rfl trivial ?_ rfl; simp only [Try.ntmps59, List.size_toArray, List.length_cons, List.length_nil, Nat.reduceAdd, Nat.reduceSub, Array.replicate_succ, Array.replicate_zero, List.push_toArray, List.append_toArray, List.nil_append, List.cons_append]; refine wpIn_wide.2 ?_)
  go_wp2_with (go_at_call 60; refine (tleaves_new _ _).mono ?_; rintro e w1 ⟨rfl, hw1⟩; have HW1 := hide hw1; clear hw1)
  have hE : EntI w w1 t g d cap xs r root (fun _ => false) zs := by
    rw [HW1.out]
    refine ⟨?_, ?_, ?_, (((hT.alloc _).alloc _).alloc _).alloc _, ((((Below.refl _ w).alloc (Nat.le_refl _) _).alloc (by simp) _).alloc (by simp; omega) _).alloc (by simp; omega) _, by simp⟩
    · have := (Blk.new ((w.alloc (.cells #[.pointer (some ⟨t, 0, none⟩)] 42)).alloc (.cells (u32A zs) 78)) 78 (u32A zs)).alloc (.cells #[.pointer (some ⟨t, 0, none⟩)] 42)
      rw [hz2]; simpa using this
    · have := ((Blk.new (w.alloc (.cells #[.pointer (some ⟨t, 0, none⟩)] 42)) 78 (u32A zs)).alloc (.cells (u32A zs) 78)).alloc (.cells #[.pointer (some ⟨t, 0, none⟩)] 42)
      simpa using this
    · exact (((Blk.new w 42 #[.pointer (some ⟨t, 0, none⟩)]).alloc _).alloc _).alloc _
  have hsz : w1.heap.size = w.heap.size + 4 := by rw [HW1.out]; simp
  have hc : w1.cell? ⟨w.heap.size + 1 + 1 + 1, 0, none⟩ = some (.pointer (some ⟨t, 0, none⟩)) := by
    rw [HW1.out]; have := (Blk.new (((w.alloc (.cells #[.pointer (some ⟨t, 0, none⟩)] 42)).alloc (.cells (u32A zs) 78)).alloc (.cells (u32A zs) 78)) 42 #[.pointer (some ⟨t, 0, none⟩)]).cell 0
    simpa using this
  clear HW1 hT hZ
  refine (wpIn_wide (n := 9)).1 ?_
  refine wpIn_rangeFunc_ownF rfl (by decide) (gf := 66) (lb := #[.pointer (some ⟨w.heap.size + 1 + 1 + 1, 0, none⟩)]) rfl trivial (enters_of Try.func66 (by kernel_rfl) rfl)
    (leaves1_is hE.tab _ w.heap.size (w.heap.size + 1 + 1 + 1) (by decide) (by omega) hc (by omega) hlt.1 hlt.2.1 hlt.2.2) kpB_t (kpB_b (by omega)) (Below.refl _ _) (fun x => rfl)
    (fun pre W => EntI w W t g d cap xs r root (came pre) zs) (fun _ _ _ => False)
    (fun s W W' row hs hg hr => hs.kept hg (fun r e => by have := hr r e; exact ⟨by omega, this.2⟩))
    (fun _ _ _ _ _ hs _ _ => hs)
    hE
    (fun x => { tmps := #[.pointer (some ⟨t, 0, none⟩), .pointer (some ⟨w.heap.size, 0, none⟩), .pointer (some ⟨w.heap.size + 1, 0, none⟩), .pointer (some ⟨w.heap.size + 1 + 1, 0, none⟩), .int .i64 x.1, .int .i64 (wordB xs root x.1 / 256), undef, .pointer (some ⟨t, 0, none⟩), .func (.func 66) #[] #[.pointer (some ⟨w.heap.size + 1 + 1 + 1, 0, none⟩)], .int .i64 x.1, .int .i64 (wordB xs root x.1 / 256), undef, undef, undef, undef, undef, undef, undef, undef, undef, undef, undef, undef, undef, undef, undef, undef, undef], defers := [] }) ?assign ?body ?done ?stop
  case assign =>
    intro l x W K hK
    gi_wp2
    exact hK
  case body =>
    rintro l pre x W hI hlen
    clear hE hc hz2
    obtain ⟨⟨x0, x3⟩, hxl⟩ := x.2
    have hleaf : hasB xs (wordB xs root x.1 / 256) = true := by simp only [leafB, Bool.and_eq_true] at hxl; exact hxl.2
    have HP := hide (show ∀ q, q < 256 → (came pre q || (decide (x.1 = (q : Int) / 64) && decide (q % 64 < 64))) = came (pre ++ [x]) q from fun q hq => by
      rw [came_snoc, decide_eq_true (p := q % 64 < 64) (by omega), Bool.and_true])
    have HP0 := hide (show ∀ q, q < 256 → came pre q = (came pre q || (decide (x.1 = (q : Int) / 64) && decide (q % 64 < 0))) from fun q hq => by
      rw [decide_eq_false (p := q % 64 < 0) (by omega), Bool.and_false, Bool.or_false])
    have HI := hide hI
    clear hI
    gi_wp2
    gi_loopw [11] (fun j wr => ∃ k : Nat, k ≤ 64 ∧ j = .int .i64 k ∧ EntI w wr t g d cap xs r root (fun q => came pre q || (decide (x.1 = (q : Int) / 64) && decide (q % 64 < k))) zs ∧ KeepsOthers W wr ∧ KpB w.heap.size (w.heap.size + 1 + 1 + 1) W wr) (fun j _ => 64 - (intOf j).toNat)
    case atStart => exact ⟨0, by decide, rfl, HI.out.congr HP0.out, KeepsOthers.refl _, Below.refl _ _, fun v hv => hv⟩
    case round =>
      obtain ⟨k, hk, rfl, hI, hko, hkp⟩ := hrel
      have HI := hide hI
      have HK := hide (And.intro hko hkp)
      by_cases hlt64 : k < 64
      · have hbx : wr.cell? ⟨w.heap.size, 0, none⟩ = some (.pointer (some ⟨t, 0, none⟩)) := hI.box.cell 0
        have c0 := hI.tab.cell0
        have HW := hide (tword_is hI.tab.mem hI.tab.u8 (wordB xs root x.1 / 256) (k : Int) hleaf (by omega) (by omega))
        have hor := shl6_or x.1 (k : Int) x0 x3 (by omega) (by omega)
        have hz3 : (x.1 * 64 + (k : Int)).toNat < 256 := by omega
        have hcell : wr.cell? ⟨w.heap.size + 1 + 1, (x.1 * 64 + (k : Int)).toNat, none⟩ = some (.int .u32 (gb (entsP xs root (fun q => came pre q || (decide (x.1 = (q : Int) / 64) && decide (q % 64 < k)))) (x.1 * 64 + (k : Int)).toNat)) := by
          rw [hI.arr.cell]; exact u32A_get _ _ (by rw [entsP_len]; exact hz3)
        have hfro : wr.frozen? ⟨w.heap.size + 1 + 1, (x.1 * 64 + (k : Int)).toNat, none⟩ = false := hI.arr.frozen _
        have HS := hide (fun n => (hI.drewN n).set hlt hz3)
        have HE := hide (show entW xs root (x.1 * 64 + (k : Int)).toNat = wordB xs (wordB xs root x.1 / 256) k by
          unfold entW
          rw [show ((x.1 * 64 + (k : Int)).toNat : Int) / 64 = x.1 by omega, show ((x.1 * 64 + (k : Int)).toNat : Int) % 64 = (k : Int) by omega])
        clear hI hko hkp hxl hleaf
        gi_wp2_with (refine ⟨trivial, ?_⟩; gi_at_call 55; refine (CallsIn.inRound l (callsIn_wide.2 HW.out)).mono ?_; rintro e w2 ⟨rfl, nq, rfl⟩)
        have hfin := HS.out nq
        rw [HE.out] at hfin
        have hlw : w.heap.size + 1 + 1 ≠ w.heap.size + 1 + 1 + 1 := by omega
        refine ⟨⟨k + 1, by omega, by go_num, hfin.congr fun q hq => ?_, HK.out.1.trans ((show KeepsOthers wr (wr.drewN nq) from ⟨Nat.le_refl _, fun _ _ h _ => h⟩).trans (KeepsOthers.setCell _ _ _)), kpB_t HK.out.2 ⟨?_, fun v hv => ?_⟩⟩, by simp [intOf]; omega⟩
        · by_cases hq1 : x.1 = (q : Int) / 64
          · rw [decide_eq_true hq1, Bool.true_and, Bool.true_and, Bool.or_assoc]
            congr 1
            by_cases hq2 : q % 64 < k
            · rw [decide_eq_true hq2, decide_eq_true (p := q % 64 < k + 1) (by omega)]; rfl
            · rw [decide_eq_false hq2]
              by_cases hq3 : q % 64 = k
              · rw [decide_eq_true (p := q % 64 < k + 1) (by omega), show (q == (x.1 * 64 + (k : Int)).toNat) = true by simp; omega]; rfl
              · rw [decide_eq_false (p := q % 64 < k + 1) (by omega), show (q == (x.1 * 64 + (k : Int)).toNat) = false by simp; omega]; rfl
          · rw [decide_eq_false hq1, Bool.false_and, Bool.false_and, show (q == (x.1 * 64 + (k : Int)).toNat) = false by simp; omega, Bool.or_false]
        · exact (below_drewN (Below.refl _ wr) nq).setCell (p := ⟨w.heap.size + 1 + 1, (x.1 * 64 + (k : Int)).toNat, none⟩) (by simp; omega) _
        · exact (World.cell?_of_block (a := ⟨w.heap.size + 1 + 1 + 1, 0, none⟩) (Below.heap_setCell (wr.drewN nq) ⟨w.heap.size + 1 + 1, (x.1 * 64 + (k : Int)).toNat, none⟩ _ (w.heap.size + 1 + 1 + 1) (by simp))).trans hv
      · obtain rfl : k = 64 := by omega
        rw [show ((64 : Nat) : Int) = 64 from rfl]
        gi_wp2
        exact ⟨HK.out.1, HK.out.2, HI.out.congr HP.out⟩
  case done =>
    rintro D ys W hD rfl hI hK
    have H2 := hide hI.arr
    have H1 := hide hI.res
    have HB := hide hI.below
    clear hE hc
    have hl2 := entsP_len xs root (came (leavesTo xs root 4))
    have HE := hide (show entsP xs root (came (leavesTo xs root 4)) = entsA xs root from rfl)
    rw [HE.out] at H2 hl2
    clear hI
    have HL2 := hide hl2
    have HLZ := hide hz
    clear hl2 hz
    go_wp2_with (first | (with_reducible refine wp_region_lit (id := 10) ?_) | ((with_reducible refine arr_load _ (g := w.heap.size + 1 + 1) (cs := entsA xs root) ?_ ?_ ?_ ?_); (· exact H2.out); (· rfl); (· exact HL2.out)) | ((with_reducible refine arr_store _ _ (g := w.heap.size + 1) (entsA xs root) ?_ ?_ ?_ ?_ ?_); (· exact ⟨_, by rw [size_u32A, HLZ.out], H1.out⟩); (· rfl); (· rfl); (· exact HL2.out)))
    have hK' : (W.setRow (w.heap.size + 1) (u32A (entsA xs root))).heap[D]? = some (.deferred (some [])) := (setRow_other W _ D _ (by omega)).trans hK
    have hBr : Blk (W.setRow (w.heap.size + 1) (u32A (entsA xs root))) (w.heap.size + 1) 78 (u32A (entsA xs root)) := H1.out.row _
    refine ⟨by simp, .inl ⟨_, _, rfl, run_takeDeferred hK', ?_⟩⟩
    refine ⟨_, arr_results rfl (by simp [Act.put]) HL2.out (blk_kept hBr (grownBy_putObj' _ D (.deferred none)) (fun r e => by cases e; exact ⟨_, hK', rfl⟩)), rfl, ?_⟩
    exact (HB.out.trans (below_setRow' (Nat.le_succ _))).trans (belowK_b (w := w) (Nat.le_refl _) _ D _ _ (by omega) hK' rfl rfl)
  case stop =>
    rintro D c pre W hD _ h _
    exact h.elim
end
end Go.Proofs.Ytmlaomkofcajgaa
