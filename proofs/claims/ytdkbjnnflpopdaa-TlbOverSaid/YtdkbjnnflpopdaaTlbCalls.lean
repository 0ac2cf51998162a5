/-
  Translations (parapet/tlb): Fill, Flush.
-/
import Derived.Test.YtdkbjnnflpopdaaTlbIs
namespace Go.Proofs.Ytdkbjnnflpopdaa
open Go.ChangeShapes Go.WideShapes Go.ChangeAt Go.RowKit Go.Maps
set_option linter.unusedVariables false
section
variable {w w' : World} {t hb ob n size : Nat} {begun : Int} {bs : Nat → Nat} {ls : Nat → List (K2 × K2)} {nx : Nat → Int} {O : List (Int × Sh)} {S : List Nat}
/-- One hart has turned. -/
theorem IsTlb.turn (T : IsTlb w t hb ob n size begun bs ls nx O) {j : Nat} (hj : j < n) {l : List (K2 × K2)} {x : Int} (hH : HartAt w' (bs j) l x) (hR : Blk w' hb 61 ((hRow n bs nx).setIfInBounds (j * 2 + 1) (.int .i64 x))) (ho : Only [hb, bs j] w w') (hl : l.length ≤ size) (hx : 0 ≤ x) :
    IsTlb w' t hb ob n size begun bs (updF ls j l) (updF nx j x) O := by
  obtain ⟨n1, n2, n3, n4⟩ := T.ne
  obtain ⟨D, ho1, ho2⟩ := T.opn
  rw [hRow_set hj] at hR
  refine ⟨T.blk.only ho (by simp; exact ⟨n3, fun e => (n4 j hj).1 e.symm⟩), hR, fun i hi => ?_, fun i hi => ?_, fun i hi => ?_, T.inj, T.obn, ⟨D, own_onlyS ho1 ho (by simp; exact ⟨n2, fun e => (n4 j hj).2.2 e.symm⟩), ho2⟩, T.n1, T.s1⟩
  · by_cases e : i = j
    · subst e; rw [updF_same, updF_same]; exact hH
    · rw [updF_far _ _ e, updF_far _ _ e]
      exact (T.hart i hi).only ho (by simp; exact ⟨(n4 i hi).2.1, fun e1 => e (T.inj i j hi hj e1)⟩)
  · by_cases e : i = j
    · subst e; rw [updF_same]; exact hl
    · rw [updF_far _ _ e]; exact T.len i hi
  · by_cases e : i = j
    · subst e; rw [updF_same]; exact hx
    · rw [updF_far _ _ e]; exact T.nx0 i hi

set_option maxRecDepth 100000 in
theorem bFill_is (T : IsTlb w t hb ob n size begun bs ls nx O) (j : Nat) (hj : j < n) {k : K2} (hk : k.wf) (e : Int) (hx1 : nx j < 4611686018427387904) :
    Calls Try.prog 13 #[.pointer (some ⟨t, 0, none⟩), .int .i64 j, kV k, .int .u32 e] w fun r w' => r = .returned (.int .i64 0) ∧ IsTlb w' t hb ob n size begun bs (updF ls j (fillL size (ls j) k e (nx j))) (updF nx j (nxL (ls j) k (nx j))) O ∧ Only [hb, bs j] w w' := by
  obtain ⟨n1, n2, n3, n4⟩ := T.ne
  have hlt := T.blk.lt
  have HN := hide (n4 j hj)
  have HT := hide (fun W (ho : Only [] w W) => T.new ho)
  have HC := hide (fun o1 => bclosed_is (T.new ((Only.refl [] w).alloc o1)))
  have HH := hide (fun o1 => show Calls Try.prog 32 #[.pointer (some ⟨t, 0, none⟩), .int .i64 j] (w.alloc o1) fun e w' => e = .returned (.bool true) ∧ w.alloc o1 = w' from by
    have := bhas_is (T.new ((Only.refl [] w).alloc o1)) j
    rwa [decide_eq_true (by omega)] at this)
  have HF := hide (fun W (ho : Only [] w W) => fill_any (k := k) (e := e) (T.new ho).row (hRow_map hj) (hRow_int hj) ((T.new ho).hart j hj) T.s1 (T.len j hj) hk (T.nx0 j hj) hx1)
  have HJ := hide (And.intro hj (And.intro (fillL_len (k := k) (e := e) (next := nx j) T.s1.1 (T.len j hj)) (T.nx0 j hj)))
  have HS := hide (fun W (ho : Only [hb, bs j] (w.alloc (.cells #[.int .i64 k.1, .int .i64 k.2] 33)) W) => (show W.cell? ⟨t, 0, none⟩ = some (.slice (some ⟨hb, 0, none⟩) n n) ∧ W.cell? ⟨t, 1, none⟩ = some (.int .i64 size) ∧ W.cell? ⟨w.heap.size, 0, none⟩ = some (.int .i64 k.1) ∧ W.cell? ⟨w.heap.size, 1, none⟩ = some (.int .i64 k.2) from by
    have hb1 := (T.new ((Only.refl [] w).alloc (.cells #[.int .i64 k.1, .int .i64 k.2] 33))).blk.only ho (by simp; exact ⟨n3, fun e => (n4 j hj).1 e.symm⟩)
    have hb2 := (Blk.new w 33 #[.int .i64 k.1, .int .i64 k.2]).only ho (by
      have h1 := T.row.lt
      obtain ⟨⟨D, h2, _⟩, _⟩ := T.hart j hj
      have h3 := h2.lt
      simp; omega)
    exact ⟨hb1.cell 0, hb1.cell 1, hb2.cell 0, hb2.cell 1⟩))
  have hc0 : w.cell? ⟨t, 0, none⟩ = some (.slice (some ⟨hb, 0, none⟩) n n) := T.blk.cell 0
  have hc1 : w.cell? ⟨t, 1, none⟩ = some (.int .i64 size) := T.blk.cell 1
  have hjn : (j : Int) < n := by omega
  clear n1 n2 n3 n4 T hk hx1 hj
  go_enter Try.func13, Try.ntmps13
  go_wp2_with (first | (go_at_call 31; refine (HC.out _).mono ?_; rintro e w' ⟨rfl, rfl⟩) | (go_at_call 32; refine (HH.out _).mono ?_; rintro e w' ⟨rfl, rfl⟩))
  go_region_held3 (fun w' => w'.cell? ⟨t, 0, none⟩ = some (.slice (some ⟨hb, 0, none⟩) n n) ∧ w'.cell? ⟨t, 1, none⟩ = some (.int .i64 size) ∧ w'.cell? ⟨w.heap.size, 0, none⟩ = some (.int .i64 k.1) ∧ w'.cell? ⟨w.heap.size, 1, none⟩ = some (.int .i64 k.2)) (first | assumption | exact HS.out _ (by repeat (first | exact Only.refl _ _ | apply Only.drew)) | exact HK2.out | go_keep) (first | (go_at_call 33; refine (HF.out _ (by repeat (first | exact Only.refl _ _ | apply Only.drew | apply Only.alloc))).mono ?_; rintro e' w1 ⟨rfl, hA1, hB1, ho1⟩; have HK2 := hide (HS.out w1 (Only.trans (by repeat (first | exact Only.refl _ _ | apply Only.drew)) ho1)); have HE := hide (And.intro hA1 (And.intro hB1 ho1)); clear hA1 hB1 ho1))
  have HO := hide (show Only [hb, bs j] w w1 from Only.trans (by repeat (first | exact Only.refl _ _ | apply Only.drew | apply Only.alloc)) HE.out.2.2)
  have HR := hide ((HT.out w (Only.refl _ _)).turn HJ.out.1 HE.out.1 HE.out.2.1 HO.out HJ.out.2.1 (by have := HJ.out.2.2; unfold nxL; split <;> omega))
  clear HE HK2 HS HF HH HC
  go_wp2
  go_ret
  exact ⟨rfl, HR.out, HO.out⟩

theorem bFlush_no (T : IsTlb w t hb ob n size begun bs ls nx O) (h sp : Int) (hh : ¬ (0 ≤ h ∧ h < n)) : Calls Try.prog 19 #[.pointer (some ⟨t, 0, none⟩), .int .i64 h, .int .i64 sp] w fun r w' => r = .returned (.int .i64 0) ∧ w = w' := by
  have HH := hide (show Calls Try.prog 32 #[.pointer (some ⟨t, 0, none⟩), .int .i64 h] w fun e w' => e = .returned (.bool false) ∧ w = w' from by
    have := bhas_is T h
    rwa [decide_eq_false hh] at this)
  clear T hh
  go_enter Try.func19, Try.ntmps19
  go_wp2_with (go_at_call 32; refine HH.out.mono ?_; rintro e w' ⟨rfl, rfl⟩)
  go_ret
  exact ⟨rfl, rfl⟩

theorem bFlush_is (T : IsTlb w t hb ob n size begun bs ls nx O) (j : Nat) (hj : j < n) (sp : Int) :
    Calls Try.prog 19 #[.pointer (some ⟨t, 0, none⟩), .int .i64 j, .int .i64 sp] w fun r w' => r = .returned (.int .i64 (((ls j).length : Int) - (notSp sp (ls j)).length)) ∧ IsTlb w' t hb ob n size begun bs (updF ls j (notSp sp (ls j))) nx O ∧ Only [bs j] w w' := by
  have HH := hide (show Calls Try.prog 32 #[.pointer (some ⟨t, 0, none⟩), .int .i64 j] w fun e w' => e = .returned (.bool true) ∧ w = w' from by
    have := bhas_is T j
    rwa [decide_eq_true (by omega)] at this)
  have HF := hide (forget_is T.row (hRow_map hj) (T.hart j hj) (by have := T.len j hj; have := T.s1; omega) sp)
  have HT := hide T
  have hc0 : w.cell? ⟨t, 0, none⟩ = some (.slice (some ⟨hb, 0, none⟩) n n) := T.blk.cell 0
  have hjn : (j : Int) < n := by omega
  clear T
  go_enter Try.func19, Try.ntmps19
  go_wp2_with (first | (go_at_call 32; refine HH.out.mono ?_; rintro e w' ⟨rfl, rfl⟩) | (go_at_call 36; refine HF.out.mono ?_; rintro e w1 ⟨rfl, hA1, ho1⟩; have HE := hide (And.intro hA1 ho1); clear hA1 ho1))
  go_ret
  obtain ⟨hA, ho⟩ := HE.out
  have hne := HT.out.ne.2.2.2 j hj
  have hr : Blk w1 hb 61 ((hRow n bs nx).setIfInBounds (j * 2 + 1) (.int .i64 (nx j))) := by
    rw [hRow_set hj, hRow_same]
    exact HT.out.row.only ho (by simp; exact fun e => hne.2.1 e.symm)
  have h1 := HT.out.turn hj hA hr (ho.mono (fun q _ hq => by simp at hq; simp [hq])) (Nat.le_trans (List.length_filter_le _ _) (HT.out.len j hj)) (HT.out.nx0 j hj)
  have hx : updF nx j (nx j) = nx := by funext i; by_cases e : i = j <;> simp [updF, e]
  rw [hx] at h1
  exact ⟨rfl, h1, ho⟩

theorem bHarts_is (T : IsTlb w t hb ob n size begun bs ls nx O) : Calls Try.prog 22 #[.pointer (some ⟨t, 0, none⟩)] w fun e w' => e = .returned (.int .i64 n) ∧ w = w' := by
  have HC := hide (bclosed_is T)
  have hc : w.cell? ⟨t, 0, none⟩ = some (.slice (some ⟨hb, 0, none⟩) n n) := T.blk.cell 0
  clear T
  go_enter Try.func22, Try.ntmps22
  go_wp2_with (go_at_call 31; refine HC.out.mono ?_; rintro e w' ⟨rfl, rfl⟩)
  go_ret
  exact ⟨rfl, rfl⟩
end

/-! ### New -/
theorem info_hart : (Try.prog.info? 61).map (fun i => (i.zero, i.size, i.bytes)) = some (some (.agg #[.map none, .int .i64 0]), 2, 16) := by kernel_rfl
theorem bNew_bad (a b : Int) (w : World) (h : a < 1 ∨ 8 < a ∨ b < 1 ∨ 64 < b) : Calls Try.prog 8 #[.int .i64 a, .int .i64 b] w fun e w' => e = .returned (.tuple #[.pointer none, .int .i64 1]) ∧ w = w' := by
  by_cases h1 : a < 1
  · have d1 : decide (a < 1) = true := by simpa using h1
    clear h
    go_enter Try.func8, Try.ntmps8
    go_wp2
    go_ret2
    exact ⟨rfl, rfl⟩
  have d1 : decide (a < 1) = false := by simpa using h1
  by_cases h2 : 8 < a
  · have d2 : decide (8 < a) = true := by simpa using h2
    clear h
    go_enter Try.func8, Try.ntmps8
    go_wp2
    go_ret2
    exact ⟨rfl, rfl⟩
  have d2 : decide (8 < a) = false := by simpa using h2
  by_cases h3 : b < 1
  · have d3 : decide (b < 1) = true := by simpa using h3
    clear h
    go_enter Try.func8, Try.ntmps8
    go_wp2
    go_ret2
    exact ⟨rfl, rfl⟩
  have d3 : decide (b < 1) = false := by simpa using h3
  have d4 : decide (64 < b) = true := by simp; omega
  clear h
  go_enter Try.func8, Try.ntmps8
  go_wp2
  go_ret2
  exact ⟨rfl, rfl⟩
end Go.Proofs.Ytdkbjnnflpopdaa
