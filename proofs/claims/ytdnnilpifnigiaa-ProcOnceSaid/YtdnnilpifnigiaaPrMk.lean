/-
  Processes and threads (parapet/proc): add, begin, New, keep, heir.
-/
import Derived.Test.YtdnnilpifnigiaaPrIs
namespace Go.Proofs.Ytdnnilpifnigiaa
open Go.ChangeShapes Go.WideShapes Go.ChangeAt Go.RowKit Go.Maps
set_option linter.unusedVariables false
set_option linter.unusedSimpArgs false
/-- A thread more. -/
def addS (s : PS) (pid : Int) : PS := { s with T := s.T ++ [⟨s.lt + 1, pid, false, 0⟩], lt := s.lt + 1 }
/-- A process more, with one thread. -/
def beginS (s : PS) (par : Int) : PS := addS { s with P := s.P ++ [⟨s.lp + 1, par, false, 0⟩], lp := s.lp + 1 } (s.lp + 1)
/-- A zombie that nobody can ask for is gone. -/
def keepP (P : List K5) (k : K5) : List K5 := if k.zom = true ∧ k.par = 0 then delK P k.pid else setK P k
def heirP (P : List K5) : Int := if livesP P 1 then 1 else 0
section
variable {w w' w1 : World} {t a b : Nat} {s : PS} {S : List Nat} {k : Int} {x : K5} {y : S4}
set_option maxRecDepth 100000 in
theorem add_is (h : IsPt w t a b s) (l0 : 0 ≤ s.lt) (l1 : s.lt < 4611686018427387000) (hn : ∀ z ∈ s.T, z.tid ≤ s.lt) (hl : s.T.length < 100000) (pid : Int) : Calls Try.prog 43 #[.pointer (some ⟨t, 0, none⟩), .int .i64 pid] w fun e w' => e = .returned (.int .i64 (s.lt + 1)) ∧ IsPt w' t a b (addS s pid) ∧ Only [t, b] w w' := by
  have c0 := h.c1
  have c3 := h.c3
  have hf := h.blk.frozen 3
  have h1 := h.setN (s.lt + 1)
  have HS := hide (fun W (ho : Only [] (w.setCell ⟨t, 3, none⟩ (.int .i64 (s.lt + 1))) W) => h1.newT (y := ⟨s.lt + 1, pid, false, 0⟩) (iW_mid (by show -1 ≤ s.lt + 1; omega) (by show s.lt + 1 ≤ _; omega)) (by
    intro hm
    obtain ⟨z, hz, e⟩ := List.mem_map.1 hm
    have := hn z hz
    dsimp only at e
    omega) hl ho)
  obtain ⟨w4, hrun, h5, ho4⟩ := HS.out (w.setCell ⟨t, 3, none⟩ (.int .i64 (s.lt + 1))).drew ((Only.refl _ _).drew)
  have HX : Only [t, b] w w4 := (((Only.refl [t, b] w).setCell (p := ⟨t, 3, none⟩) (.int .i64 (s.lt + 1)) (by simp)).drew).trans (ho4.mono (by intro q _ hq; simp at hq ⊢; omega))
  have HO := hide HX
  have k0 := h1.c1
  have k3 := h1.c3
  have K2 := hide (fun hb : b ≠ t => h1.quiet ((Only.refl [] _).drew))
  have c4 : w4.cell? ⟨t, 3, none⟩ = some (.int .i64 (s.lt + 1)) := h5.c3
  have H5 := hide h5
  have HBD := hide (And.intro l0 l1)
  clear h h1 HS h5 ho4 HX hn hl
  obtain ⟨P, T, lp, lt⟩ := s
  dsimp only [sV, sC] at *
  have hw : IntKind.i64.wrap (lt + 1) = lt + 1 := by have := HBD.out; rw [IntKind.wrap_i64]; omega
  go_enter Try.func43, Try.ntmps43
  go_wp2
  go_region
  all_goals go_wp2
  go_ret
  exact ⟨rfl, H5.out, HO.out⟩

set_option maxRecDepth 100000 in
theorem begin_is (h : IsPt w t a b s) (l0 : 0 ≤ s.lt) (l1 : s.lt < 4611686018427387000) (p0 : 0 ≤ s.lp) (p1 : s.lp < 4611686018427387000) (hn : ∀ z ∈ s.T, z.tid ≤ s.lt) (hp : ∀ z ∈ s.P, z.pid ≤ s.lp) (hl : s.T.length < 100000) (hl2 : s.P.length < 100000) (par : Int) : Calls Try.prog 25 #[.pointer (some ⟨t, 0, none⟩), .int .i64 par] w fun e w' => e = .returned (.tuple #[.int .i64 (s.lp + 1), .int .i64 (s.lt + 1)]) ∧ IsPt w' t a b (beginS s par) ∧ Only [t, a, b] w w' := by
  have c0 := h.c0
  have c3 := h.c2
  have hf := h.blk.frozen 2
  have h1 := h.setP (s.lp + 1)
  have HS := hide (fun W (ho : Only [] (w.setCell ⟨t, 2, none⟩ (.int .i64 (s.lp + 1))) W) => h1.newK (x := ⟨s.lp + 1, par, false, 0⟩) (iW_mid (by show -1 ≤ s.lp + 1; omega) (by show s.lp + 1 ≤ _; omega)) (by
    intro hm
    obtain ⟨z, hz, e⟩ := List.mem_map.1 hm
    have := hp z hz
    dsimp only at e
    omega) hl2 ho)
  obtain ⟨w4, hrun, h5, ho4⟩ := HS.out (w.setCell ⟨t, 2, none⟩ (.int .i64 (s.lp + 1))).drew ((Only.refl _ _).drew)
  have HX : Only [t, a, b] w w4 := (((Only.refl [t, a, b] w).setCell (p := ⟨t, 2, none⟩) (.int .i64 (s.lp + 1)) (by simp)).drew).trans (ho4.mono (by intro q _ hq; simp at hq ⊢; omega))
  have HO := hide HX
  have k0 := h1.c0
  have k3 := h1.c2
  have HA := hide (fun W (ho : Only [] w4 W) => add_is (h5.quiet ho) l0 l1 hn hl (s.lp + 1))
  have c4 : w4.cell? ⟨t, 2, none⟩ = some (.int .i64 (s.lp + 1)) := h5.c2
  have HBD := hide (And.intro p0 p1)
  clear h h1 HS h5 ho4 HX hn hl hp hl2
  obtain ⟨P, T, lp, lt⟩ := s
  dsimp only [kV, kC] at *
  have hw : IntKind.i64.wrap (lp + 1) = lp + 1 := by have := HBD.out; rw [IntKind.wrap_i64]; omega
  go_enter Try.func25, Try.ntmps25
  go_wp2
  go_region
  all_goals go_wp2
  all_goals go_region_law (go_simp; go_at_call 43; refine (HA.out _ (by repeat (first | exact Only.refl _ _ | apply Only.drew | apply Only.drewN))).mono ?_; rintro e w5 ⟨rfl, h6, ho6⟩; have c5 : w5.cell? ⟨t, 2, none⟩ = some (.int .i64 (lp + 1)) := h6.c2; have H6 := hide h6; have HO6 := hide ho6; clear h6 ho6)
  all_goals go_wp2
  all_goals go_ret2
  all_goals exact ⟨rfl, H6.out, HO.out.trans ((by repeat (first | exact Only.refl _ _ | apply Only.drew | apply Only.drewN) : Only [t, a, b] w4 _).trans (HO6.out.mono (by intro q _ hq; simp at hq ⊢; omega)))⟩

theorem heir_is (h : IsPt w t a b s) : Calls Try.prog 54 #[.pointer (some ⟨t, 0, none⟩)] w fun e w' => e = .returned (.int .i64 (heirP s.P)) ∧ Only [] w w' := by
  have HL := lives_is h (k := 1) (by decide)
  unfold heirP
  cases hb : livesP s.P 1
  · rw [hb] at HL
    have H := hide HL
    clear HL h hb
    go_enter Try.func54, Try.ntmps54
    go_wp2_with (go_at_call 30; refine H.out.mono ?_; rintro e w2 ⟨rfl, ho⟩; have HO := hide ho; clear ho)
    go_ret
    exact ⟨rfl, HO.out⟩
  · rw [hb] at HL
    have H := hide HL
    clear HL h hb
    go_enter Try.func54, Try.ntmps54
    go_wp2_with (go_at_call 30; refine H.out.mono ?_; rintro e w2 ⟨rfl, ho⟩; have HO := hide ho; clear ho)
    go_ret
    exact ⟨rfl, HO.out⟩

set_option maxRecDepth 100000 in
/-- A process is kept as it is given. -/
theorem keep_is (h : IsPt w t a b s) {x0 : K5} (hm : x0 ∈ s.P) (e0 : x0.pid = x.pid) (hl : s.P.length < 100000) : Calls Try.prog 53 #[.pointer (some ⟨t, 0, none⟩), kV x] w fun e w' => e = .returned (.tuple #[]) ∧ IsPt w' t a b { s with P := keepP s.P x } ∧ Only [a] w w' := by
  have h1 := h.quiet ((Only.refl [] w).alloc (.cells (kC x) 58))
  have HBK := hide (Blk.new w 58 (kC x))
  have c0 := h1.c0
  by_cases hz : x.zom = true ∧ x.par = 0
  · have HK := hide (show keepP s.P x = delK s.P x.pid from if_pos hz)
    obtain ⟨w4, hrun, h5, ho4⟩ := h1.delK hm 0 ((Only.refl _ _).drew)
    rw [e0] at hrun h5
    have H5 := hide h5
    have HO : Only [a] w w4 := (((Only.refl [a] w).alloc (.cells (kC x) 58)).drew).trans ho4
    have HO4 := hide HO
    obtain ⟨x1, x2, x3, x4⟩ := x
    dsimp only at hz
    obtain ⟨rfl, rfl⟩ := hz
    dsimp only [kV, kC] at *
    have b0 := HBK.out.cell 0
    have b1 := HBK.out.cell 1
    have b2 := HBK.out.cell 2
    clear h h1 hm hl h5 ho4 HO e0
    go_enter Try.func53, Try.ntmps53
    go_wp2
    go_region
    all_goals go_wp2
    all_goals ((try simp only [Exit.inBlock, Exit.then]); refine bodyPost_ret (results_none rfl _ _ _) rfl ?_)
    all_goals exact ⟨rfl, by rw [HK.out]; exact H5.out, HO4.out⟩
  · have HK := hide (show keepP s.P x = setK s.P x from if_neg hz)
    obtain ⟨w4, hrun, h5, ho4⟩ := h1.putK (x := x) hm e0 hl ((Only.refl _ _).drew)
    have H5 := hide h5
    have HO : Only [a] w w4 := (((Only.refl [a] w).alloc (.cells (kC x) 58)).drew).trans ho4
    have HO4 := hide HO
    obtain ⟨x1, x2, x3, x4⟩ := x
    dsimp only [kV, kC] at *
    have b0 := HBK.out.cell 0
    have b1 := HBK.out.cell 1
    have b2 := HBK.out.cell 2
    have b3 := HBK.out.cell 3
    have b4 := HBK.out.cell 4
    have hor : x3 = false ∨ (x3 = true ∧ (x2 == 0) = false) := by
      cases x3
      · exact .inl rfl
      · refine .inr ⟨rfl, ?_⟩
        rw [beq_eq_false_iff_ne]
        exact fun e => hz ⟨rfl, e⟩
    clear h h1 hm hl h5 ho4 HO e0 hz
    rcases hor with rfl | ⟨rfl, hne⟩
    · go_enter Try.func53, Try.ntmps53
      go_wp2
      go_region
      all_goals go_wp2
      all_goals go_end0
      all_goals exact ⟨rfl, by rw [HK.out]; exact H5.out, HO4.out⟩
    · go_enter Try.func53, Try.ntmps53
      go_wp2
      go_region
      all_goals go_wp2
      all_goals go_end0
      all_goals exact ⟨rfl, by rw [HK.out]; exact H5.out, HO4.out⟩

end
end Go.Proofs.Ytdnnilpifnigiaa
