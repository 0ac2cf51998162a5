/-
  Frames (parapet/frame): take, Alloc.
-/
import Derived.Test.YtfbegickdnjfcaaFrCalls
namespace Go.Proofs.Ytfbegickdnjfcaa
open Go.ChangeShapes Go.WideShapes Go.ChangeAt Go.RowKit
set_option linter.unusedVariables false

theorem IRow.setAt {w : World} {b n c k : Nat} {ns : List Int} (h : IRow w (.slice (some ⟨b, 0, none⟩) n c) ns) (hk : k < ns.length) (x : Int) : IRow (w.setCell ⟨b, k, none⟩ (.int .i64 x)) (.slice (some ⟨b, 0, none⟩) n c) (ns.set k x) := by
  obtain ⟨b', cap, cur, e, hb, hl, hm⟩ := h.blk (by omega)
  injection e with e1 e2 e3
  injection e1 with e1
  injection e1 with e1
  subst e1; subst e2; subst e3
  have h1 := hb.set_ k (.int .i64 x)
  rw [List.setIfInBounds_toArray, List.set_append_left _ _ (by rw [i64l_length]; exact hk), show (i64l ns).set k (Value.int .i64 x) = i64l (ns.set k x) by simp [i64l, List.map_set]] at h1
  have := IRow.of_blk (cap := c) h1 (by simpa using hl) hm
  rwa [List.length_set] at this

section
variable {w w' : World} {t g d cap : Nat} {xs : List Int} {r : List Value} {first harts : Nat} {v : Nat → Value} {ns ns' : Nat → List Int} {S : List Nat}

theorem RowsAt.setAt (R : RowsAt w t v ns) {i b n c k : Nat} (hi : Slot i) (hv : v i = .slice (some ⟨b, 0, none⟩) n c) (hk : k < (ns i).length) (x : Int) :
    RowsAt (w.setCell ⟨b, k, none⟩ (.int .i64 x)) t v (upd ns i ((ns i).set k x)) ∧ Turn w (w.setCell ⟨b, k, none⟩ (.int .i64 x)) (footL t v) (footL t v) := by
  have hob : (v i).ownBlock = some b := by rw [hv]; rfl
  have hbt : b ≠ t := R.ne hi.lt hob
  have ho : Only [b] w (w.setCell ⟨b, k, none⟩ (.int .i64 x)) := (Only.refl _ _).setCell _ (by simp)
  refine ⟨⟨R.blk.far (p := ⟨b, k, none⟩) (Ne.symm hbt) _, fun o h => ?_, R.apart, R.old⟩, ho.mono (fun q _ hq => ?_), fun q hq => .inl hq⟩
  · by_cases e : o = i
    · subst e
      rw [upd_same]
      have := R.row o h
      rw [hv] at this ⊢
      exact this.setAt hk x
    · rw [upd_far _ _ e]
      exact KRow.only (R.row o h) ho (fun q hq hm => by
        simp at hm
        subst hm
        exact R.apart o i q h.lt hi.lt e hq hob)
  · simp at hq
    subst hq
    exact mem_footL.2 (.inr ⟨i, hi.lt, hob⟩)

/-- A list when the hart takes: filled, if it was empty. -/
def fillN (ns : Nat → List Int) (h : Nat) : Nat → List Int := if (ns (4 + h)).length = 0 then refillN ns h else ns

/-- What take came to. -/
def TookN (w w' : World) (e : Ending) (t : Nat) (v : Nat → Value) (n1 : Nat → List Int) (h : Nat) : Prop :=
  ((n1 (4 + h)).length = 0 ∧ e = .returned (.tuple #[.int .i64 0, .bool false]) ∧ Moved w w' t v n1) ∨
  (0 < (n1 (4 + h)).length ∧ e = .returned (.tuple #[.int .i64 (gb (n1 (4 + h)) ((n1 (4 + h)).length - 1)), .bool true]) ∧ Moved w w' t v (upd n1 (4 + h) ((n1 (4 + h)).take ((n1 (4 + h)).length - 1))))

set_option maxHeartbeats 1000000 in
set_option maxRecDepth 100000 in
theorem take_is (F : IsFr w t g d cap xs r first harts v ns) (h : Nat) (hh : h < 8) (hs : ∀ o, Slot o → (ns o).length ≤ 4096) (hs1 : (fillN ns h (4 + h)).length ≤ 4096) :
    Calls Try.prog 36 #[.pointer (some ⟨t, 0, none⟩), .int .i64 h] w fun e w' => TookN w w' e t v (fillN ns h) h := by
  have hsl : Slot (4 + h) := by unfold Slot; omega
  have hhi : (h : Int) < 8 := by omega
  have hc := F.cell (4 + h) (by omega)
  have hf := F.rows.free (4 + h)
  obtain ⟨A, c, hv, hA⟩ := (F.rows.row (4 + h) hsl).form
  rw [hv] at hc
  -- from a world in which the list is not empty
  have HT : Hid (∀ (w1 : World) (v1 : Nat → Value) (n1 : Nat → List Int), RowsAt w1 t v1 n1 → Turn w w1 (footL t v) (footL t v1) → (∀ o, ¬ Slot o → v1 o = v o) → 0 < (n1 (4 + h)).length → (n1 (4 + h)).length ≤ 4096 →
      ∃ b c, w1.cell? ⟨t, 4 + h, none⟩ = some (.slice (some ⟨b, 0, none⟩) (n1 (4 + h)).length c) ∧ (n1 (4 + h)).length ≤ c ∧ w1.frozen? ⟨t, 4 + h, none⟩ = false ∧ w1.cell? ⟨b, (n1 (4 + h)).length - 1, none⟩ = some (.int .i64 (gb (n1 (4 + h)) ((n1 (4 + h)).length - 1))) ∧
        Moved w (w1.setCell ⟨t, 4 + h, none⟩ (.slice (some ⟨b, 0, none⟩) ((n1 (4 + h)).length - 1) c)) t v (upd n1 (4 + h) ((n1 (4 + h)).take ((n1 (4 + h)).length - 1)))) := hide (by
    intro w1 v1 n1 R1 T1 k1 hp hle
    obtain ⟨b, c, cur, hv1, hb1, hl1, hm1⟩ := (R1.row (4 + h) hsl).blk hp
    have hc1 := R1.cell (4 + h) (by omega)
    rw [hv1] at hc1
    have hrow := R1.row (4 + h) hsl
    rw [hv1] at hrow
    obtain ⟨R2, T2⟩ := R1.put (i := 4 + h) hsl (Only.refl _ _) (hrow.cut (Nat.sub_le _ 1)) (fun k hk => .inl (by rw [hv1]; exact hk))
    refine ⟨b, c, hc1, by omega, R1.free _, ?_, _, R2, T1.trans T2, fun o ho => ?_⟩
    · rw [hb1.cell]; exact i64l_get _ _ _ (by omega)
    · rw [upd_far _ _ (show o ≠ 4 + h from fun e => ho (by rw [e]; exact hsl))]
      exact k1 o ho)
  by_cases h0 : (ns (4 + h)).length = 0
  · have HR := hide (refill_is F h hh h0 hs)
    have HE := hide (show fillN ns h = refillN ns h by unfold fillN; rw [if_pos h0])
    rw [HE.out] at hs1
    rw [HE.out]
    rw [h0] at hc
    clear hA hv F hs HE
    generalize refillN ns h = n1 at *
    go_enter Try.func36, Try.ntmps36
    go_wp2_with fail
    refine HR.out.mono ?_
    rintro e w1 ⟨rfl, v1, R1, T1, k1⟩
    by_cases h1 : (n1 (4 + h)).length = 0
    · obtain ⟨A1, c1, hv1, -⟩ := (R1.row (4 + h) hsl).form
      have hc1 := R1.cell (4 + h) (by omega)
      rw [hv1, h1] at hc1
      have HF := hide (show TookN w w1 (.returned (.tuple #[.int .i64 0, .bool false])) t v n1 h from .inl ⟨h1, rfl, v1, R1, T1, k1⟩)
      clear R1 T1 k1 hv1 HT HR
      go_wp2
      go_ret2
      exact HF.out
    · obtain ⟨b, c2, d1, d2, d3, d4, d5⟩ := HT.out w1 v1 n1 R1 T1 k1 (by omega) hs1
      have hp : 0 < (n1 (4 + h)).length := by omega
      have HF := hide (fun e (he : e = .returned (.tuple #[.int .i64 (gb (n1 (4 + h)) ((n1 (4 + h)).length - 1)), .bool true])) => (show TookN w _ e t v n1 h from .inr ⟨hp, he, d5⟩))
      clear R1 T1 k1 d5 HT HR
      generalize gb (n1 (4 + h)) ((n1 (4 + h)).length - 1) = y at *
      have p0 : (0 : Int) ≤ ((n1 (4 + h)).length : Int) - 1 := by omega
      have p1 : (((n1 (4 + h)).length : Int) - 1).toNat = (n1 (4 + h)).length - 1 := by omega
      have p2 : ((n1 (4 + h)).length : Int) - 1 < (n1 (4 + h)).length := by omega
      have p3 : ((n1 (4 + h)).length : Int) - 1 ≤ c2 := by omega
      have p4 : (((n1 (4 + h)).length : Int) == 0) = false := by simp only [beq_eq_false_iff_ne]; omega
      have p5 : ((n1 (4 + h)).length : Int) ≤ 4096 := by omega
      go_wp2
      go_ret2
      exact HF.out _ rfl
  · have HE := hide (show fillN ns h = ns by unfold fillN; rw [if_neg h0])
    rw [HE.out] at hs1
    rw [HE.out]
    obtain ⟨b, c2, d1, d2, d3, d4, d5⟩ := HT.out w v ns F.rows (Turn.refl _ _) (fun _ _ => rfl) (by omega) hs1
    have hp : 0 < (ns (4 + h)).length := by omega
    have HF := hide (fun e (he : e = .returned (.tuple #[.int .i64 (gb (ns (4 + h)) ((ns (4 + h)).length - 1)), .bool true])) => (show TookN w _ e t v ns h from .inr ⟨hp, he, d5⟩))
    clear F d5 HT HE hA hc hv
    generalize gb (ns (4 + h)) ((ns (4 + h)).length - 1) = y at *
    have p0 : (0 : Int) ≤ ((ns (4 + h)).length : Int) - 1 := by omega
    have p1 : (((ns (4 + h)).length : Int) - 1).toNat = (ns (4 + h)).length - 1 := by omega
    have p2 : ((ns (4 + h)).length : Int) - 1 < (ns (4 + h)).length := by omega
    have p3 : ((ns (4 + h)).length : Int) - 1 ≤ c2 := by omega
    have p4 : (((ns (4 + h)).length : Int) == 0) = false := by simp only [beq_eq_false_iff_ne]; omega
    have p5 : ((ns (4 + h)).length : Int) ≤ 4096 := by omega
    go_enter Try.func36, Try.ntmps36
    go_wp2
    go_ret2
    exact HF.out _ rfl

theorem fillN_2 (ns : Nat → List Int) (h : Nat) : fillN ns h 2 = ns 2 := by
  unfold fillN refillN moveN
  split
  · split
    · rw [upd_far _ _ (by omega), upd_far _ _ (by omega)]
    · split
      · rfl
      · rw [upd_far _ _ (by omega), upd_far _ _ (by omega)]
  · rfl

theorem alloc_arg (F : IsFr w t g d cap xs r first harts v ns) (h : Int) (hh : ¬ (0 ≤ h ∧ h < harts)) :
    Calls Try.prog 12 #[.pointer (some ⟨t, 0, none⟩), .int .i64 h] w fun e w' => e = .returned (.tuple #[.int .i64 0, .int .i64 1]) ∧ w = w' := by
  have HC := hide (fclosed_is F)
  have HH := hide (fhasHart_is F h)
  rw [show (decide (0 ≤ h) && decide (h < (harts : Int))) = false by rw [← Bool.decide_and]; exact decide_eq_false hh] at HH
  clear F hh
  go_enter Try.func12, Try.ntmps12
  go_wp2_with (first | (go_at_call 33; refine HC.out.mono ?_; rintro e w' ⟨rfl, rfl⟩) | (go_at_call 35; refine HH.out.mono ?_; rintro e w' ⟨rfl, rfl⟩))
  go_ret2
  exact ⟨rfl, rfl⟩

theorem alloc_full (F : IsFr w t g d cap xs r first harts v ns) (h : Nat) (hh : h < harts) (hs : ∀ o, Slot o → (ns o).length ≤ 4096) (he : (fillN ns h (4 + h)).length = 0) :
    Calls Try.prog 12 #[.pointer (some ⟨t, 0, none⟩), .int .i64 h] w fun e w' => e = .returned (.tuple #[.int .i64 0, .int .i64 2]) ∧ Moved w w' t v (fillN ns h) := by
  have HC := hide (fclosed_is F)
  have HH := hide (fhasHart_is F h)
  rw [show (decide (0 ≤ (h : Int)) && decide ((h : Int) < (harts : Int))) = true by simp; omega] at HH
  have HT := hide ((take_is F h (by have := F.hh; omega) hs (by omega)).mono (R' := fun e w' => e = .returned (.tuple #[.int .i64 0, .bool false]) ∧ Moved w w' t v (fillN ns h)) (by
    rintro e w1 (⟨_, h1, h2⟩ | ⟨h1, _⟩)
    · exact ⟨h1, h2⟩
    · exact absurd h1 (by omega)))
  clear F hh he
  go_enter Try.func12, Try.ntmps12
  go_wp2_with (first | (go_at_call 33; refine HC.out.mono ?_; rintro e w' ⟨rfl, rfl⟩) | (go_at_call 35; refine HH.out.mono ?_; rintro e w' ⟨rfl, rfl⟩) | (go_at_call 36; refine HT.out.mono ?_; rintro e w1 ⟨rfl, hM⟩))
  go_ret2
  exact ⟨rfl, hM⟩

/-- What Alloc leaves, the frame being the first and k. -/
def allocN (ns : Nat → List Int) (h k : Nat) : Nat → List Int := upd (upd (fillN ns h) (4 + h) ((fillN ns h (4 + h)).take ((fillN ns h (4 + h)).length - 1))) 2 ((ns 2).set k 1)
/-- A frame's bytes are 0. -/
def zeroF (xs : List Int) (x : Nat) : List Int := Go.splice xs (256 * x) (List.replicate 256 0)
theorem zeroF_len {xs : List Int} {x : Nat} (h : 256 * x + 256 ≤ xs.length) : (zeroF xs x).length = xs.length := length_splice _ _ _ (by rw [List.length_replicate]; exact h)
theorem zeroF_u8 {xs : List Int} (h : U8 xs) (x : Nat) : U8 (zeroF xs x) := h.splice (U8.replicate _) _

/-- Frames, with other bytes and rows, behind a call. -/
def FrDid (w w' : World) (t g d cap : Nat) (xs' : List Int) (r : List Value) (first harts : Nat) (v : Nat → Value) (ns' : Nat → List Int) : Prop :=
  ∃ v', IsFr w' t g d cap xs' r first harts v' ns' ∧ Turn w w' (d :: footL t v) (d :: footL t v')

theorem Turn.more {F F' : List Nat} (h : Turn w w' F F') (d : Nat) : Turn w w' (d :: F) (d :: F') :=
  ⟨h.only.mono (by intro k _ hk; simp [hk]), fun k hk => by
    rcases List.mem_cons.1 hk with rfl | hk
    · exact .inl (by simp)
    · exact (h.foot k hk).imp (fun h => by simp [h]) id⟩
theorem Turn.self {F : List Nat} (h : Only [d] w w') : Turn w w' (d :: F) (d :: F) := ⟨h.mono (by intro k _ hk; simp at hk; simp [hk]), fun k hk => .inl hk⟩

theorem IsFr.zeroed (F : IsFr w t g d cap xs r first harts v ns) (ho : Only [d] w w') {ys : List Int} (hm : IsMem w' g d cap ys r) (hu : U8 ys) (hl : ys.length = xs.length) : IsFr w' t g d cap ys r first harts v ns :=
  ⟨F.rows.far ho (fun k hk hd => F.far_d (by simp at hd; exact hd ▸ hk)), F.v0, F.v1, F.v3, hm, hu, F.hh, by rw [hl]; exact F.fit⟩

set_option maxHeartbeats 1000000 in
theorem alloc_ok (F : IsFr w t g d cap xs r first harts v ns) (h k : Nat) (hh : h < harts) (hs : ∀ o, Slot o → (ns o).length ≤ 4096) (hp : 0 < (fillN ns h (4 + h)).length) (hs1 : (fillN ns h (4 + h)).length ≤ 4096)
    (hk : k < (ns 2).length) (x : Int) (hx : gb (fillN ns h (4 + h)) ((fillN ns h (4 + h)).length - 1) = x) (hxk : x = first + k) :
    Calls Try.prog 12 #[.pointer (some ⟨t, 0, none⟩), .int .i64 h] w fun e w' => e = .returned (.tuple #[.int .i64 x, .int .i64 0]) ∧ FrDid w w' t g d cap (zeroF xs (first + k)) r first harts v (allocN ns h k) := by
  have HC := hide (fclosed_is F)
  have HH := hide (fhasHart_is F h)
  rw [show (decide (0 ≤ (h : Int)) && decide ((h : Int) < (harts : Int))) = true by simp; omega] at HH
  have hbig : first + (ns 2).length ≤ 4096 := by have := F.fit; have := F.mem.big; omega
  have hsl : Slot (4 + h) := by unfold Slot; have := F.hh; omega
  have HF := hide F
  have HT := hide ((take_is F h (by have := F.hh; omega) hs hs1).mono (R' := fun e w' => e = .returned (.tuple #[.int .i64 x, .bool true]) ∧ Moved w w' t v (upd (fillN ns h) (4 + h) ((fillN ns h (4 + h)).take ((fillN ns h (4 + h)).length - 1)))) (by
    rintro e w1 (⟨h1, _⟩ | ⟨h1, h2, h3⟩)
    · omega
    · exact ⟨by rw [h2, hx], h3⟩))
  have HFIT := hide (show 256 * (first + k) + 256 ≤ xs.length by have := F.fit; omega)
  have HK := hide hk
  have HXK := hide hxk
  have hx0 : (first : Int) ≤ x := by omega
  have hx1 : x ≤ 4096 := by omega
  clear F hp hx hxk hk hs hs1 hh
  go_enter Try.func12, Try.ntmps12
  go_wp2_with (first | (go_at_call 33; refine HC.out.mono ?_; rintro e w' ⟨rfl, rfl⟩) | (go_at_call 35; refine HH.out.mono ?_; rintro e w' ⟨rfl, rfl⟩))
  refine HT.out.mono ?_
  rintro e w1 ⟨rfl, v1, R1, T1, k1⟩
  have F1 := HF.out.moved R1 T1 k1 (by rw [upd_far _ _ (by omega), fillN_2])
  have hc0 := F1.cell 0 (by decide)
  rw [F1.v0] at hc0
  have HZ := hide (zero_ok F1.mem x (by omega) (by have := HFIT.out; have := HXK.out; omega))
  rw [show x.toNat = first + k by have := HXK.out; omega] at HZ
  have HF1 := hide F1
  have HT1 := hide T1
  clear F1 R1 T1 k1 HT HC HH
  go_wp2_with (go_at_call 18; refine HZ.out.mono ?_; rintro e w2 ⟨rfl, ho2, hm2⟩)
  have F2 := HF1.out.zeroed ho2 hm2 (zeroF_u8 HF1.out.u8 _) (zeroF_len HFIT.out)
  have hn2 : (upd (fillN ns h) (4 + h) ((fillN ns h (4 + h)).take ((fillN ns h (4 + h)).length - 1))) 2 = ns 2 := by rw [upd_far _ _ (by omega), fillN_2]
  obtain ⟨b2, c2, cur2, hv2, hb2, hl2, hm2'⟩ := (F2.rows.row 2 (.inl rfl)).blk (by rw [hn2]; have := HK.out; omega)
  have hd1 := F2.cell 1 (by decide)
  rw [F2.v1] at hd1
  have hd2 := F2.cell 2 (by decide)
  rw [hv2] at hd2
  rw [hn2] at hd2 hv2 hb2
  have hd3 : w2.cell? ⟨b2, k, none⟩ = some (.int .i64 (gb (ns 2) k)) := by rw [hb2.cell]; exact i64l_get _ _ _ HK.out
  have hd4 := hb2.frozen k
  obtain ⟨R3, T3⟩ := F2.rows.setAt (i := 2) (.inl rfl) hv2 (k := k) (by rw [hn2]; exact HK.out) 1
  have HD := hide (fun n => (show FrDid w ((w2.setCell ⟨b2, k, none⟩ (.int .i64 1)).drewN n) t g d cap (zeroF xs (first + k)) r first harts v (allocN ns h k) from by
    have F3 := F2.moved R3 T3 (fun _ _ => rfl) (by rw [upd_same, List.length_set])
    rw [hn2] at F3
    exact ⟨_, F3.drewN n, ((HT1.out.more d).trans (Turn.self ho2)).trans (T3.more d) |>.dr n⟩))
  clear F2 R3 T3 ho2 hm2 HF1 HT1 hb2 hv2 hl2 hm2'
  have hw1 : IntKind.i64.wrap (x - (first : Int)) = k := by rw [IntKind.wrap_i64]; have := HXK.out; have := HK.out; omega
  have hw2 : x - (first : Int) = k := by have := HXK.out; omega
  have hw3 : (k : Int) < (ns 2).length := by have := HK.out; omega
  go_region
  go_wp2
  go_ret2
  exact ⟨rfl, HD.out _⟩
end
end Go.Proofs.Ytfbegickdnjfcaa
