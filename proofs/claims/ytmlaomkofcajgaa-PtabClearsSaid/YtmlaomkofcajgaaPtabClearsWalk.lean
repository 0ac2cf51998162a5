/-
  The walk of 'PtabClears'.
-/
import Derived.Test.YtmlaomkofcajgaaPtabSetR
namespace Go.Proofs.Ytmlaomkofcajgaa
open Go.ChangeShapes Go.WideShapes Go.ChangeAt Go.RowKit Go.Shelf
set_option linter.unusedVariables false
attribute [local go_sem] Oper.semAt_some

theorem nleaf_le (xs : List Int) (root : Int) : nleaf xs root ≤ 4 := leavesTo_len xs root 4
theorem nleaf_new {xs : List Int} {root p x sp : Int} (hr : hasB xs root = true) (hp : isPg p) (h0 : 0 ≤ x) (h1 : x ≤ 4294967295) (hs : hasB xs sp = true) (ha : Apart xs root sp) (hb : xs.length ≤ 1048576) (hl : leafB xs root (p / 64) = false) :
    nleaf (newB xs root p x sp) root = nleaf xs root + 1 := by
  rw [nleaf_is, nleaf_is, newB_leaf hr hp h0 h1 hs ha hb (i := 0) (by omega) (by omega), newB_leaf hr hp h0 h1 hs ha hb (i := 1) (by omega) (by omega), newB_leaf hr hp h0 h1 hs ha hb (i := 2) (by omega) (by omega), newB_leaf hr hp h0 h1 hs ha hb (i := 3) (by omega) (by omega)]
  obtain ⟨p0, p1⟩ := hp
  have hc : p / 64 = 0 ∨ p / 64 = 1 ∨ p / 64 = 2 ∨ p / 64 = 3 := by omega
  rcases hc with h | h | h | h <;> rw [h] at hl ⊢ <;> rw [hl] <;> simp <;> omega
theorem nleaf_old {xs : List Int} {root p x : Int} (hr : hasB xs root = true) (hp : isPg p) (h0 : 0 ≤ x) (h1 : x ≤ 4294967295) (hT : TInv xs root) (hl : leafB xs root (p / 64) = true) : nleaf (oldB xs root p x) root = nleaf xs root := by
  rw [nleaf_is, nleaf_is, oldB_leaf hr hp h0 h1 hT hl (i := 0) (by omega) (by omega), oldB_leaf hr hp h0 h1 hT hl (i := 1) (by omega) (by omega), oldB_leaf hr hp h0 h1 hT hl (i := 2) (by omega) (by omega), oldB_leaf hr hp h0 h1 hT hl (i := 3) (by omega) (by omega)]

/-- The table of the first loop: s is the next spare frame. -/
structure C1 (xs : List Int) (s : Int) : Prop where
  len : xs.length = 3072
  inv : TInv xs 0
  cnt : s = nleaf xs 0 + 1
  low : ∀ i, 0 ≤ i → i ≤ 3 → leafB xs 0 i = true → 1 ≤ lfB xs 0 i ∧ lfB xs 0 i < s

theorem c1_step {xs : List Int} {s : Int} (h : C1 xs s) (p x : Int) (h0 : 0 ≤ x) (h1 : x ≤ 4294967295) :
    C1 (setR xs 0 p x s).2.2 (if (setR xs 0 p x s).1 then s + 1 else s) ∧ ∀ q, walkB (setR xs 0 p x s).2.2 0 q ≠ 0 → q = p ∨ walkB xs 0 q ≠ 0 := by
  have hr : hasB xs 0 = true := by simp only [hasB, decide_eq_true_eq]; rw [h.len]; omega
  have ha : Apart xs 0 s := ⟨by have := h.cnt; omega, fun i i0 i1 hi => by have := (h.low i i0 i1 hi).2; omega⟩
  have hb : xs.length ≤ 1048576 := by rw [h.len]; omega
  unfold setR
  split
  · exact ⟨h, fun q hq => .inr hq⟩
  · rename_i hp
    have hp : isPg p := by simpa using hp
    split
    · exact ⟨h, fun q hq => .inr hq⟩
    · split
      · rename_i hl
        refine ⟨⟨(length_setW _ _ _ _).trans h.len, oldB_inv hr hp h0 h1 h.inv hl, ?_, fun i i0 i1 hi => ?_⟩, fun q hq => ?_⟩
        · show s = (nleaf (oldB xs 0 p x) 0 : Int) + 1
          rw [nleaf_old hr hp h0 h1 h.inv hl]; exact h.cnt
        · rw [oldB_leaf hr hp h0 h1 h.inv hl i0 i1] at hi
          show 1 ≤ lfB (oldB xs 0 p x) 0 i ∧ lfB (oldB xs 0 p x) 0 i < s
          rw [oldB_lf hr hp h0 h1 h.inv hl i0 i1]; exact h.low i i0 i1 hi
        · replace hq : walkB (oldB xs 0 p x) 0 q ≠ 0 := hq
          rw [oldB_walk hr hp h0 h1 h.inv hl] at hq
          by_cases hqp : q = p
          · exact .inl hqp
          · rw [if_neg hqp] at hq; exact .inr hq
      · rename_i hl
        have hl : leafB xs 0 (p / 64) = false := by simpa using hl
        split
        · exact ⟨h, fun q hq => .inr hq⟩
        · split
          · exact ⟨h, fun q hq => .inr hq⟩
          · split
            · exact ⟨h, fun q hq => .inr hq⟩
            · rename_i hs
              have hs : hasB xs s = true := by simpa using hs
              refine ⟨⟨(newB_len (root := 0) (p := p) (x := x) hs).trans h.len, newB_inv hr hp h0 h1 hs ha hb h.inv, ?_, fun i i0 i1 hi => ?_⟩, fun q hq => ?_⟩
              · show s + 1 = (nleaf (newB xs 0 p x s) 0 : Int) + 1
                rw [nleaf_new hr hp h0 h1 hs ha hb hl]; have := h.cnt; omega
              · rw [newB_leaf hr hp h0 h1 hs ha hb i0 i1] at hi
                show 1 ≤ lfB (newB xs 0 p x s) 0 i ∧ lfB (newB xs 0 p x s) 0 i < s + 1
                rw [newB_lf hr hp h0 h1 hs ha hb i0 i1]
                by_cases hip : i = p / 64
                · rw [if_pos hip]; have := h.cnt; omega
                · rw [if_neg hip]; rw [decide_eq_false hip, Bool.false_or] at hi; have := h.low i i0 i1 hi; omega
              · replace hq : walkB (newB xs 0 p x s) 0 q ≠ 0 := hq
                rw [newB_walk hr hp h0 h1 hs ha hb hl h.inv] at hq
                by_cases hqp : q = p
                · exact .inl hqp
                · rw [if_neg hqp] at hq; exact .inr hq

theorem c2_step {xs : List Int} {n : Nat} (hlen : xs.length = 3072) (hi : TInv xs 0) (hn : nleaf xs 0 = n) (p : Int) :
    (setR xs 0 p 0 (-1)).1 = false ∧ ((setR xs 0 p 0 (-1)).2.1 = 0 ∨ ((setR xs 0 p 0 (-1)).2.1 = 1 ∧ ¬ isPg p)) ∧ (setR xs 0 p 0 (-1)).2.2.length = 3072 ∧ TInv (setR xs 0 p 0 (-1)).2.2 0 ∧ nleaf (setR xs 0 p 0 (-1)).2.2 0 = n ∧
      ∀ q, walkB (setR xs 0 p 0 (-1)).2.2 0 q ≠ 0 → q ≠ p ∧ walkB xs 0 q ≠ 0 := by
  have hr : hasB xs 0 = true := by simp only [hasB, decide_eq_true_eq]; rw [hlen]; omega
  have hm : mayB xs 0 = true := rfl
  unfold setR
  split
  · rename_i hp
    exact ⟨rfl, .inr ⟨rfl, hp⟩, hlen, hi, hn, fun q hq => ⟨fun e => hq (walk_none fun h => absurd (e ▸ h) hp), hq⟩⟩
  · rename_i hp
    have hp : isPg p := by simpa using hp
    rw [if_neg (by rw [hm]; simp)]
    split
    · rename_i hl
      refine ⟨rfl, .inl rfl, (length_setW _ _ _ _).trans hlen, oldB_inv hr hp (by omega) (by omega) hi hl, (nleaf_old hr hp (by omega) (by omega) hi hl).trans hn, fun q hq => ?_⟩
      replace hq : walkB (oldB xs 0 p 0) 0 q ≠ 0 := hq
      rw [oldB_walk hr hp (by omega) (by omega) hi hl] at hq
      by_cases hqp : q = p
      · rw [if_pos hqp] at hq; exact absurd rfl hq
      · rw [if_neg hqp] at hq; exact ⟨hqp, hq⟩
    · rename_i hl
      have hl : leafB xs 0 (p / 64) = false := by simpa using hl
      rw [if_pos rfl]
      refine ⟨rfl, .inl rfl, hlen, hi, hn, fun q hq => ⟨fun e => ?_, hq⟩⟩
      subst e
      exact hq (walk_none fun _ => hl)

/-- The first loop. -/
def CRel1 (w0 : World) (n t g d : Nat) (zs : List Int) (sv iv : Value) (wr : World) : Prop :=
  ∃ (k : Nat) (s : Int) (ys : List Int), k ≤ n ∧ iv = .int .i64 k ∧ sv = .int .i64 s ∧ IsTab wr t g d 3072 ys [] 0 ∧ C1 ys s ∧ (∀ q, walkB ys 0 q ≠ 0 → ∃ j, j < k ∧ gb zs j = q) ∧ Only [] w0 wr
/-- The second loop. -/
def CRel2 (w0 : World) (n t g d m : Nat) (zs : List Int) (iv : Value) (wr : World) : Prop :=
  ∃ (k : Nat) (ys : List Int), k ≤ n ∧ iv = .int .i64 k ∧ IsTab wr t g d 3072 ys [] 0 ∧ ys.length = 3072 ∧ TInv ys 0 ∧ nleaf ys 0 = m ∧ (∀ q, walkB ys 0 q ≠ 0 → ∃ j, k ≤ j ∧ j < n ∧ gb zs j = q) ∧ Only [] w0 wr

set_option maxRecDepth 100000 in
set_option maxHeartbeats 4000000 in
theorem ptabClears_walk (A : Option Addr) (n cp : Nat) (zs : List Int) (x : Int) (w : World) (hrow : IsRow .i64 w A n cp zs) (wx : (Lit.int .u32 x).wf = true) :
    Calls Try.prog 8 #[.slice A n cp, .int .u32 x] w fun e w' => e = .returned (.bool true) ∧ Below w.heap.size w w' := by
  have hx : 0 ≤ x ∧ x ≤ 4294967295 := by simpa [Lit.wf, IntKind.min, IntKind.max, IntKind.signed, IntKind.bits] using wx
  obtain ⟨x0, x1⟩ := hx
  have HR := hide hrow
  have HN : n ≤ 9223372036854775807 := by
    rcases hrow with ⟨_, h0, _⟩ | ⟨z, rfl, hl, hm, _⟩
    · omega
    · unfold maxLen at hm; omega
  have HLv := hide lives5
  clear hrow wx
  (refine (callsIn_wide (n := 9)).1 ?_; refine callsIn_of_wp_marks Try.func8 rfl trivial ?_ rfl; simp only [Try.ntmps8, List.size_toArray, List.length_cons, List.length_nil, Nat.reduceAdd, Nat.reduceSub, Array.replicate_succ, Array.replicate_zero, List.push_toArray, List.append_toArray, List.nil_append, List.cons_append]; refine wpIn_wide.2 ?_)
  go_wp2_with fail
  refine (new_zeros 12 _ (by decide) (by decide)).mono ?_
  rintro e w2 ⟨g, d, xs, rfl, hg, hd, hm, ho2, hl, hu, hz⟩
  obtain ⟨w0, hw0⟩ : ∃ w0, w.alloc (.cells #[.bool false] 4) = w0 := ⟨_, rfl⟩
  rw [hw0] at ho2 hg hd
  have hs0 : w0.heap.size = w.heap.size + 1 := by rw [← hw0]; simp
  have hb0 : Blk w0 w.heap.size 4 #[.bool false] := by rw [← hw0]; exact Blk.new _ _ _
  have hw0b : Below w.heap.size w w0 := by rw [← hw0]; exact (Below.refl _ w).alloc (Nat.le_refl _) _
  have HW0 := hide (And.intro hs0 (And.intro hb0 hw0b))
  have HL := hide (show xs.length = 3072 from hl)
  have HD := hide (And.intro hd hg)
  have hr : hasB xs 0 = true := by simp only [hasB, decide_eq_true_eq]; rw [HL.out]; omega
  have HM := hide hm
  have HU := hide hu
  have HO2 := hide ho2
  clear hm hl hu hz hg hd ho2 hs0 hb0 hw0b hw0
  go_wp2_with (first | (go_at_call 13; refine (HLv.out _).mono ?_; rintro e w3 ⟨rfl, ho3⟩; have HM3 := hide (HM.out.only ho3 (by simp) (by simp)); have HO3 := hide (HO2.out.trans ho3); clear ho3) | (go_at_call 21; refine (tnew_ok HM3.out HU.out 0 hr).mono ?_; rintro e w4 ⟨t, rfl, ht, hT, ho4⟩))
  have HT := hide hT
  have HO4 := hide (HO3.out.trans' (S := []) ho4 (by intro q hq hq'; simp at hq'; have := HD.out.1; omega))
  have HC := hide (show C1 (clr xs 0) 1 from ⟨(length_clr hr).trans HL.out, tinv_start hr, by rw [nleaf_is, leaf_start hr (by omega) (by omega), leaf_start hr (by omega) (by omega), leaf_start hr (by omega) (by omega), leaf_start hr (by omega) (by omega)]; rfl, fun i i0 i1 h => absurd h (by rw [leaf_start hr i0 i1]; simp)⟩)
  have HWk := hide (show ∀ q, walkB (clr xs 0) 0 q ≠ 0 → ∃ j, j < 0 ∧ gb zs j = q from fun q hq => absurd (walk_start hr) hq)
  clear hT ho4 HM HM3 HO2 HO3 HLv hr HU HL
  go_loopw [8, 9] (fun sv iv wr => CRel1 w0 n t g d zs sv iv wr) (fun _ iv _ => n - (intOf iv).toNat)
  case atStart => exact ⟨0, 1, _, Nat.zero_le _, rfl, rfl, HT.out, HC.out, HWk.out, HO4.out⟩
  case round =>
    clear HT HC HWk HO4
    obtain ⟨k, s, ys, hk, rfl, rfl, hT, hC, hW, ho⟩ := hrel
    have HT := hide hT
    have HC := hide hC
    have HW := hide hW
    have HO := hide ho
    by_cases hlt : k < n
    · obtain ⟨b, o, rfl, hb2, hnc, hcm, hz, hcell, hwf⟩ := HR.out.at_ (by omega)
      have hbw : b < w0.heap.size := by have := HW0.out.1; omega
      have hck : wr.cell? ⟨b, o + k, none⟩ = some (.int .i64 (gb zs k)) := (ho.cell hbw (by simp)).trans ((HW0.out.2.2.cell (p := ⟨b, o + k, none⟩) hb2).trans (hcell k (by omega)))
      have HS := set_R hT (gb zs k) x s x0 x1
      have hst := c1_step hC (gb zs k) x x0 x1
      have hcnt := hC.cnt
      have hnl := nleaf_le ys 0
      have hs5 : 1 ≤ s ∧ s ≤ 5 := by omega
      clear hT hC hW ho hcell hwf hb2 hbw hcnt hnl hnc hcm hz
      generalize setR ys 0 (gb zs k) x s = R at HS hst
      obtain ⟨u, er, y2⟩ := R
      dsimp only at HS hst
      replace HS := hide HS
      have HST := hide hst
      clear hst
      generalize hpv : gb zs k = pv at *
      cases u with
      | true =>
        go_wp2_with (go_at_call 22; refine HS.out.mono ?_; rintro e w5 ⟨rfl, ho5, hT5⟩)
        have HN5 := hide (And.intro hT5 (HO.out.trans' (S := []) ho5 (by intro q hq hq'; simp at hq'; have := HD.out.1; omega)))
        have HW5 := hide (show ∀ q, walkB y2 0 q ≠ 0 → ∃ j, j < k + 1 ∧ gb zs j = q from fun q hq => by
          rcases HST.out.2 q hq with h | h
          · exact ⟨k, by omega, by rw [hpv, h]⟩
          · obtain ⟨j, hj, hg⟩ := HW.out q h
            exact ⟨j, by omega, hg⟩)
        have HC5 := hide HST.out.1
        clear ho5 hT5 HS HST hpv hck
        go_roundw
        case rel => exact ⟨k + 1, s + 1, y2, hlt, by go_num, rfl, HN5.out.1, HC5.out, HW5.out, HN5.out.2⟩
        case measure => simp [intOf]; omega
      | false =>
        go_wp2_with (go_at_call 22; refine HS.out.mono ?_; rintro e w5 ⟨rfl, ho5, hT5⟩)
        have HN5 := hide (And.intro hT5 (HO.out.trans' (S := []) ho5 (by intro q hq hq'; simp at hq'; have := HD.out.1; omega)))
        have HW5 := hide (show ∀ q, walkB y2 0 q ≠ 0 → ∃ j, j < k + 1 ∧ gb zs j = q from fun q hq => by
          rcases HST.out.2 q hq with h | h
          · exact ⟨k, by omega, by rw [hpv, h]⟩
          · obtain ⟨j, hj, hg⟩ := HW.out q h
            exact ⟨j, by omega, hg⟩)
        have HC5 := hide HST.out.1
        clear ho5 hT5 HS HST hpv hck
        go_roundw
        case rel => exact ⟨k + 1, s, y2, hlt, by go_num, rfl, HN5.out.1, HC5.out, HW5.out, HN5.out.2⟩
        case measure => simp [intOf]; omega
    · obtain rfl : k = n := by omega
      have HC2 := hide (show ∀ q, walkB ys 0 q ≠ 0 → ∃ j, 0 ≤ j ∧ j < k ∧ gb zs j = q from fun q hq => by obtain ⟨j, h1, h2⟩ := hW q hq; exact ⟨j, Nat.zero_le _, h1, h2⟩)
      have hcnt := hC.cnt
      have hnl := nleaf_le ys 0
      obtain ⟨m, hm⟩ : ∃ m, nleaf ys 0 = m := ⟨_, rfl⟩
      rw [hm] at hcnt hnl
      subst hcnt
      clear hT hC hW ho HW
      go_wp2
      go_loopw [12] (fun iv wr => CRel2 w0 k t g d m zs iv wr) (fun iv _ => k - (intOf iv).toNat)
      case atStart => exact ⟨0, ys, Nat.zero_le _, rfl, HT.out, HC.out.len, HC.out.inv, hm, HC2.out, HO.out⟩
      case round =>
        clear HT HC HC2 HO hm
        obtain ⟨z, ys, hz, rfl, hT, hlen, hi, hm, hW, ho⟩ := hrel
        have HT := hide hT
        have HI := hide (And.intro hlen (And.intro hi hm))
        have HW := hide hW
        have HO := hide ho
        by_cases hlt2 : z < k
        · obtain ⟨b, o, rfl, hb2, hnc, hcm, hzz, hcell, hwf⟩ := HR.out.at_ (by omega)
          have hbw : b < w0.heap.size := by have := HW0.out.1; omega
          have hdw0 : w0.heap.size ≤ d := HD.out.1
          have hck : wr.cell? ⟨b, o + z, none⟩ = some (.int .i64 (gb zs z)) := (ho.cell hbw (by simp)).trans ((HW0.out.2.2.cell (p := ⟨b, o + z, none⟩) hb2).trans (hcell z (by omega)))
          have HS := set_R hT (gb zs z) 0 (-1) (by decide) (by decide)
          have hst := c2_step hlen hi hm (gb zs z)
          have HCK := hide fun w5 (kk : Only [d] wr w5) => (show w5.cell? ⟨b, o + z, none⟩ = some (.int .i64 (gb zs z)) from (kk.cell (Nat.lt_of_lt_of_le hbw ho.size) (by have := hdw0; simp; omega)).trans hck)
          clear hT hlen hi hm hW ho hcell hwf hb2 hbw hnc hcm hzz
          generalize setR ys 0 (gb zs z) 0 (-1) = R at HS hst
          obtain ⟨u, er, y2⟩ := R
          dsimp only at HS hst
          obtain ⟨rfl, her, hl2, hi2, hn2, hw2⟩ := hst
          replace HS := hide HS
          have HW5 := hide (show ∀ q, walkB y2 0 q ≠ 0 → ∃ j, z + 1 ≤ j ∧ j < k ∧ gb zs j = q from fun q hq => by
            obtain ⟨h1, h2⟩ := hw2 q hq
            obtain ⟨j, hj, hjk, hg⟩ := HW.out q h2
            have hzj : z ≠ j := fun e => h1 (by rw [← hg, e])
            exact ⟨j, by omega, hjk, hg⟩)
          have HI2 := hide (And.intro hl2 (And.intro hi2 hn2))
          clear hw2 hl2 hi2 hn2
          generalize hpv : gb zs z = pv at *
          clear hpv
          rcases her with rfl | ⟨rfl, hnp⟩
          · go_wp2_with (go_at_call 22; refine HS.out.mono ?_; rintro e w5 ⟨rfl, ho5, hT5⟩)
            have HN5 := hide (And.intro hT5 (HO.out.trans' (S := []) ho5 (by intro q hq hq'; simp at hq'; have := HD.out.1; omega)))
            clear ho5 hT5 HS hck
            go_roundw
            case rel => exact ⟨z + 1, y2, hlt2, by go_num, HN5.out.1, HI2.out.1, HI2.out.2.1, HI2.out.2.2, HW5.out, HN5.out.2⟩
            case measure => simp [intOf]; omega
          · have hcase : pv < 0 ∨ (¬ pv < 0 ∧ 256 ≤ pv) := by unfold isPg at hnp; omega
            rcases hcase with hneg | ⟨hneg, hbig⟩
            · clear hnp
              go_wp2_with (go_at_call 22; refine HS.out.mono ?_; rintro e w5 ⟨rfl, ho5, hT5⟩; have hck5 := HCK.out _ ho5)
              have HN5 := hide (And.intro hT5 (HO.out.trans' (S := []) ho5 (by intro q hq hq'; simp at hq'; have := HD.out.1; omega)))
              clear ho5 hT5 HS hck
              go_roundw
              case rel => exact ⟨z + 1, y2, hlt2, by go_num, HN5.out.1, HI2.out.1, HI2.out.2.1, HI2.out.2.2, HW5.out, HN5.out.2⟩
              case measure => simp [intOf]; omega
            · clear hnp
              go_wp2_with (go_at_call 22; refine HS.out.mono ?_; rintro e w5 ⟨rfl, ho5, hT5⟩; have hck5 := HCK.out _ ho5)
              have HN5 := hide (And.intro hT5 (HO.out.trans' (S := []) ho5 (by intro q hq hq'; simp at hq'; have := HD.out.1; omega)))
              clear ho5 hT5 HS hck
              go_roundw
              case rel => exact ⟨z + 1, y2, hlt2, by go_num, HN5.out.1, HI2.out.1, HI2.out.2.1, HI2.out.2.2, HW5.out, HN5.out.2⟩
              case measure => simp [intOf]; omega
        · have hno : ∀ q, walkB ys 0 q = 0 := fun q => by
            by_cases hq : walkB ys 0 q = 0
            · exact hq
            · obtain ⟨j, h1, h2, _⟩ := hW q hq; omega
          have hox : PageI ys 0 → False := fun v => v.2.2 (hno _)
          have hbx : Blk wr w.heap.size 4 #[.bool false] := HW0.out.2.1.only ho (by simp)
          have hbw : Below w.heap.size w wr := HW0.out.2.2.trans (ho.below (by have := HW0.out.1; omega) (by simp))
          have hwz : w.heap.size < wr.heap.size := hbx.lt
          clear hT hlen hi hW ho HW
          go_wp2_with (go_at_call 31; refine (tall_new _ _).mono ?_; rintro e w5 ⟨rfl, hw5⟩; have HW5 := hide hw5; clear hw5)
          have hT5 : IsTab w5 t g d 3072 ys [] 0 := by rw [HW5.out]; exact HT.out.alloc _
          have hbx5 : Blk w5 w.heap.size 4 #[.bool false] := by rw [HW5.out]; exact hbx.alloc _
          have hbw5 : Below w.heap.size w w5 := by rw [HW5.out]; exact hbw.alloc (by omega) _
          have hsz5 : w5.heap.size = wr.heap.size + 1 := by rw [HW5.out]; simp
          have hc5 : w5.cell? ⟨wr.heap.size, 0, none⟩ = some (.pointer (some ⟨t, 0, none⟩)) := by rw [HW5.out]; simp
          clear HW5 hbx hbw HT
          refine (wpIn_wide (n := 9)).1 ?_
          refine wpIn_rangeFunc_ownF rfl (by decide) (gf := 58) (lb := #[.pointer (some ⟨wr.heap.size, 0, none⟩)]) rfl trivial (enters_of Try.func58 (by kernel_rfl) rfl)
            (all1_is hT5 _ w.heap.size wr.heap.size (by decide) (by omega) hc5) belowK_t (belowK_b (by omega)) (Below.refl _ _) (fun x => rfl)
            (fun _ W => (Blk W w.heap.size 4 #[.bool false] ∧ IsTab W t g d 3072 ys [] 0) ∧ Below w.heap.size w W) (fun _ _ _ => False)
            (OwnFrom.and (Own.from (fun s A B row hs hg hr => ⟨blk_kept hs.1 hg hr, tab_kept hs.2 hg hr⟩) _) (ownFrom_below (Nat.le_refl _) (by omega)))
            (fun _ _ _ _ _ hs _ _ => hs)
            ⟨⟨hbx5, hT5⟩, hbw5⟩ (fun x => (hox x).elim) (fun _ x => (hox x).elim) (fun _ _ x => (hox x).elim) ?done ?stop
          case done =>
            rintro D ls W hD _ ⟨⟨hb, hT⟩, hBW⟩ hK
            have HB := hide hb
            have HBW := hide hBW
            have HK := hide hK
            have HLV := hide ((Leaves_is hT).mono (R' := fun e w4 => ∃ A cap, e = .returned (.slice A m cap) ∧ Below W.heap.size W w4) fun e w4 ⟨v, he, hr, hbl⟩ => by
              obtain ⟨A, cap, hv, _⟩ := hr.form
              refine ⟨A, cap, ?_, hbl⟩
              rw [he, hv]
              have : (frames ys 0 (leavesTo ys 0 4)).length = m := by rw [← hm]; simp [frames, nleaf]
              rw [this])
            clear hb hT hBW hK hT5 hbx5 hbw5 hc5 hno hm
            have HLT : Hid (∀ (W4 : World), Below W.heap.size W W4 → W4.cell? ⟨w.heap.size, 0, none⟩ = some (.bool false) ∧ W4.frozen? ⟨w.heap.size, 0, none⟩ = false) := hide (fun W4 h => by
              have hb4 : Blk W4 w.heap.size 4 #[.bool false] := (h.block _ HB.out.lt).trans HB.out
              exact ⟨hb4.cell 0, hb4.frozen 0⟩)
            have hm1 : ((m : Int) == (m : Int) + 1 - 1) = true := by simp
            have hm5 : decide ((m : Int) + 1 ≤ 5) = true := by simp; omega
            go_wp2_with (go_at_call 34; refine HLV.out.mono ?_; rintro e w4 ⟨A4, cap4, rfl, hb4⟩; have HB4 := hide hb4; obtain ⟨k1, k2⟩ := HLT.out _ hb4; clear hb4)
            have hlD : D < W.heap.size := (Array.getElem?_eq_some_iff.1 HK.out).1
            have hK4 : (w4.setCell ⟨w.heap.size, 0, none⟩ (.bool true)).heap[D]? = some (.deferred (some [])) :=
              (Below.heap_setCell w4 ⟨w.heap.size, 0, none⟩ (.bool true) D (by simp; omega)).trans ((HB4.out.block D hlD).trans HK.out)
            have hc6 := cell_kept (World.cell?_setCell_same' w4 ⟨w.heap.size, 0, none⟩ (.bool true) (by rw [k1]; rfl)) (grownBy_putObj' _ D (.deferred none)) (fun r e => by cases e; exact ⟨_, hK4, rfl⟩)
            refine ⟨by simp, .inl ⟨_, _, rfl, run_takeDeferred hK4, ?_⟩⟩
            refine ⟨.bool true, by simp [results, Try.f8, go_sem, hc6], rfl, ?_⟩
            have hW4 : Below w.heap.size w (w4.setCell ⟨w.heap.size, 0, none⟩ (.bool true)) := (HBW.out.trans (HB4.out.mono HBW.out.size)).setCell (p := ⟨w.heap.size, 0, none⟩) (Nat.le_refl _) _
            exact hW4.trans (belowK_b (w := w) (Nat.le_refl _) _ D _ _ (by omega) hK4 rfl rfl)
          case stop =>
            rintro D c pre W hD _ h _
            exact h.elim
end Go.Proofs.Ytmlaomkofcajgaa
