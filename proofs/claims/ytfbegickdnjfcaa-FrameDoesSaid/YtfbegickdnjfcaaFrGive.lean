/-
  Frames (parapet/frame): give, whole: a list that grows too long hands its first ones to the common ones, which are sorted.
-/
import Derived.Test.YtfbegickdnjfcaaFrShP
import Derived.Test.YtfbegickdnjfcaaShelf
import Derived.Sort.OwnSortedInts
namespace Go.Proofs.Ytfbegickdnjfcaa
open Go.ChangeShapes Go.WideShapes Go.ChangeAt Go.RowKit Go.Sort
set_option linter.unusedVariables false

theorem sort_row {w : World} {v : Value} {ns : List Int} (h : IRow w v ns) (hp : 0 < ns.length) (hl : ns.length ≤ 100000) : Calls Try.prog 50 #[v] w fun e w' => e = .returned (.tuple #[]) ∧ IRow w' v (sortI ns) ∧ Only v.ownBlock.toList w w' := by
  obtain ⟨b, cap, cur, rfl, hb, hcl, hm⟩ := h.blk hp
  refine (Try.slices_Sort_int b 0 cap ns w (holds_of_blockI (e := 3) hb ?_) hb.lt (by omega)).mono ?_
  · simp [i64l]
  · rintro e w' ⟨rfl, n, os, rfl⟩
    refine ⟨rfl, ?_, ?_⟩
    · have := ownsRow_sortedI (base := 0) (n := n) (os := os) (ss := ns) (ts := sortI ns) (cap := cap) (sortI_length ns) (Nat.zero_le _) hb (by omega) hm (by simp [i64l]; omega)
      unfold IRow KRow
      rw [sortI_length]
      exact this
    · exact only_grown' (grownBy_sortedI _)

section
variable {w w' w1 : World} {t g d cap : Nat} {xs : List Int} {r : List Value} {first harts : Nat} {v : Nat → Value} {ns ns' : Nat → List Int} {S : List Nat}

/-- A row turned in its own block. -/
theorem RowsAt.turned (R : RowsAt w t v ns) {i : Nat} (hi : Slot i) {xs : List Int} (ho : Only (v i).ownBlock.toList w w1) (hx : IRow w1 (v i) xs) : RowsAt w1 t v (upd ns i xs) ∧ Turn w w1 (footL t v) (footL t v) := by
  have htS : t ∉ (v i).ownBlock.toList := fun h => R.ne hi.lt (mem_own.1 h) rfl
  refine ⟨⟨R.blk.only ho htS, fun o h => ?_, R.apart, R.old⟩, ho.mono (fun k _ hk => mem_footL.2 (.inr ⟨i, hi.lt, mem_own.1 hk⟩)), fun k hk => .inl hk⟩
  by_cases e : o = i
  · subst e
    rw [upd_same]
    exact hx
  · rw [upd_far _ _ e]
    exact (R.row o h).only ho (fun q hq hm => R.apart o i q h.lt hi.lt e hq (mem_own.1 hm))

set_option maxHeartbeats 2000000 in
set_option maxRecDepth 100000 in
theorem give_long (F : IsFr w t g d cap xs r first harts v ns) (h : Nat) (hh : h < 8) (x : Int) (hl : 16 ≤ (ns (4 + h)).length) (hs : ∀ o, Slot o → (ns o).length ≤ 4096) :
    Calls Try.prog 37 #[.pointer (some ⟨t, 0, none⟩), .int .i64 h, .int .i64 x] w fun e w' => e = .returned (.tuple #[]) ∧ Moved w w' t v (giveN ns h x) := by
  have hE := hide (show giveN ns h x = upd (moveN (upd ns (4 + h) (ns (4 + h) ++ [x])) 12 (4 + h) 8) 12 (sortI (moveN (upd ns (4 + h) (ns (4 + h) ++ [x])) 12 (4 + h) 8 12)) by unfold giveN; rw [if_neg (by omega)])
  rw [hE.out]
  obtain ⟨n1, hn1⟩ : ∃ n1, upd ns (4 + h) (ns (4 + h) ++ [x]) = n1 := ⟨_, rfl⟩
  rw [hn1]
  have hsl : Slot (4 + h) := by unfold Slot; omega
  have h12 : Slot 12 := by unfold Slot; omega
  have hhi : (h : Int) < 8 := by omega
  obtain ⟨A, c, hv, -⟩ := (F.rows.row (4 + h) hsl).form
  have hc := F.cell (4 + h) (by omega)
  have hf := F.rows.free (4 + h)
  rw [hv] at hc
  have hl4 := hs (4 + h) hsl
  have hl12 := hs 12 h12
  have hl1 : 16 ≤ ((ns (4 + h)).length : Int) := by omega
  have hl2 : ((ns (4 + h)).length : Int) ≤ 4096 := by omega
  have HRA := hide (show IRow (w.alloc (.cells #[.int .i64 x] 3)) (.slice A (ns (4 + h)).length c) (ns (4 + h)) from by
    have := F.rows.row (4 + h) hsl
    rw [hv] at this
    exact KRow.only this ((Only.refl [] w).alloc _) (by simp))
  have HNW := hide (show ∀ ad, some (⟨w.heap.size, 0, none⟩ : Addr) = some ad → ∀ j u, (i64l [x])[j]? = some u → (w.alloc (.cells #[.int .i64 x] 3)).cell? (ad.add j) = some u from by
    rintro ad e j u hu
    injection e with e
    subst e
    have h0 : j = 0 := by
      have := (List.getElem?_eq_some_iff.1 hu).1
      simp [i64l] at this
      exact this
    subst h0
    rw [add_at, (Blk.new w 3 #[.int .i64 x]).cell]
    exact hu)
  have HBIG := hide (show (ns (4 + h)).length + 1 < 4000000000000 by omega)
  have HP := hide (fun (v5 : Value) (w5 : World) (h1 : IRow w5 v5 (ns (4 + h) ++ [x])) (h2 : Only (Value.slice A (ns (4 + h)).length c).ownBlock.toList (w.alloc (.cells #[.int .i64 x] 3)) w5)
      (h3 : ∀ k, v5.ownBlock = some k → (Value.slice A (ns (4 + h)).length c).ownBlock = some k ∨ (w.alloc (.cells #[.int .i64 x] 3)).heap.size ≤ k) =>
    (show w5.cell? ⟨t, 4 + h, none⟩ = some (.slice A (ns (4 + h)).length c) ∧ w5.frozen? ⟨t, 4 + h, none⟩ = false ∧ (∃ A5 c5, v5 = .slice A5 ((ns (4 + h)).length + 1) c5) ∧
        RowsAt (w5.setCell ⟨t, 4 + h, none⟩ v5) t (upd v (4 + h) v5) n1 ∧ Turn w (w5.setCell ⟨t, 4 + h, none⟩ v5) (footL t v) (footL t (upd v (4 + h) v5)) from by
      have ho : Only (v (4 + h)).ownBlock.toList w w5 := by rw [hv]; exact (((Only.refl [] w).alloc _).mono (by simp)).trans h2
      have hb5 := F.rows.blk.only ho (fun hm => F.rows.ne hsl.lt (mem_own.1 hm) rfl)
      obtain ⟨A5, c5, e5, -⟩ := h1.form
      obtain ⟨R2, T2⟩ := F.rows.put hsl ho h1 (fun k hk => by
        rw [hv]
        exact (h3 k hk).imp id (fun h => by simp at h; omega))
      rw [hn1] at R2
      exact ⟨(hb5.cell _).trans ((cells13_get _ _ hsl.lt).trans (by rw [hv])), hb5.frozen _, ⟨A5, c5, by rw [e5, List.length_append]; rfl⟩, R2, T2⟩))
  have hn4 : (n1 (4 + h)).length = (ns (4 + h)).length + 1 := by rw [← hn1, upd_same, List.length_append]; rfl
  have hn12 : n1 12 = ns 12 := by rw [← hn1, upd_far _ _ (by omega)]
  have HN4 := hide hn4
  have HN12 := hide hn12
  clear F hv hn4 hn12 hn1 hs hE
  go_enter Try.func37, Try.ntmps37
  go_wp2_with (first | (at_builtin; refine wpList_append_any rfl _ _ rfl (.slice A (ns (4 + h)).length c) (ns (4 + h)) rfl HRA.out (some ⟨w.heap.size, 0, none⟩) 1 1 rfl (fun e => by cases e) [x] rfl HNW.out HBIG.out ?_; intro v5 w5 h1 h2 h3; obtain ⟨k1, k2, ⟨A5, c5, rfl⟩, R2, T2⟩ := HP.out v5 w5 h1 h2 h3; have HR2 := hide R2; have HT2 := hide T2; clear h1 h2 h3 R2 T2))
  have hcr := HR2.out.cell (4 + h) (by omega)
  rw [upd_same] at hcr
  have HM := hide (move_is HR2.out 12 (4 + h) 8 h12 hsl (by omega) (by decide) (by have := HN4.out; omega) (by rw [HN12.out]; omega))
  clear k1 k2 hc hf HP HRA HNW HBIG
  generalize w5.setCell ⟨t, 4 + h, none⟩ (.slice A5 ((ns (4 + h)).length + 1) c5) = w6 at *
  have hgt : decide (16 < ((ns (4 + h)).length : Int) + 1) = true := by simp; omega
  refine HM.out.mono ?_
  rintro e w7 ⟨rfl, v7, R7, T7, k7⟩
  have hp7 : 0 < (moveN n1 12 (4 + h) 8 12).length := by
    unfold moveN
    rw [upd_far _ _ (by omega), upd_same, List.length_append, List.length_take]
    have := HN4.out
    omega
  have hb7 : (moveN n1 12 (4 + h) 8 12).length ≤ 100000 := by
    unfold moveN
    rw [upd_far _ _ (by omega), upd_same, List.length_append, List.length_take, HN12.out]
    omega
  obtain ⟨A7, c7, hv7, -⟩ := (R7.row 12 h12).form
  have hc7 := R7.cell 12 (by decide)
  rw [hv7] at hc7
  have HS := hide (sort_row (R7.row 12 h12) hp7 hb7)
  rw [hv7] at HS
  have HR7 := hide R7
  have HF := hide (fun (w8 : World) (h8 : IRow w8 (v7 12) (sortI (moveN n1 12 (4 + h) 8 12))) (o8 : Only (v7 12).ownBlock.toList w7 w8) => (show Moved w w8 t v (upd (moveN n1 12 (4 + h) 8) 12 (sortI (moveN n1 12 (4 + h) 8 12))) from by
    obtain ⟨R8, T8⟩ := HR7.out.turned h12 o8 h8
    exact ⟨v7, R8, (HT2.out.trans T7).trans T8, fun o ho => (k7 o ho).trans (upd_far _ _ (fun e => ho (by rw [e]; exact hsl)))⟩))
  rw [hv7] at HF
  clear R7 T7 k7 hv7 HM HT2 HR2 hcr HN4 HN12 hp7 hb7 HR7
  generalize (moveN n1 12 (4 + h) 8 12).length = L7 at *
  go_wp2_with (go_at_call 50; refine HS.out.mono ?_; rintro e w8 ⟨rfl, h8, o8⟩; have HF8 := hide (HF.out w8 h8 o8); clear h8 o8)
  go_end0
  exact ⟨rfl, HF8.out⟩

theorem give_is : ∀ (w : World) (t g d cap : Nat) (xs : List Int) (r : List Value) (first harts : Nat) (v : Nat → Value) (ns : Nat → List Int) (h : Nat) (x : Int), IsFr w t g d cap xs r first harts v ns → h < 8 → (∀ o, Slot o → (ns o).length ≤ 4096) →
    Calls Try.prog 37 #[.pointer (some ⟨t, 0, none⟩), .int .i64 h, .int .i64 x] w fun e w' => e = .returned (.tuple #[]) ∧ Moved w w' t v (giveN ns h x) := by
  intro w t g d cap xs r first harts v ns h x F hh hs
  by_cases hl : (ns (4 + h)).length < 16
  · rw [show giveN ns h x = upd ns (4 + h) (ns (4 + h) ++ [x]) by unfold giveN; rw [if_pos hl]]
    exact give_short F h hh x hl
  · exact give_long F h hh x (by omega) hs
end
end Go.Proofs.Ytfbegickdnjfcaa
