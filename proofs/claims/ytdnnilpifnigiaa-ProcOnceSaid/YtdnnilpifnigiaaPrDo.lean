/-
  Processes and threads (parapet/proc): New, Fork, Spawn, Exit, End.
-/
import Derived.Test.YtdnnilpifnigiaaPrEnd
namespace Go.Proofs.Ytdnnilpifnigiaa
open Go.ChangeShapes Go.WideShapes Go.ChangeAt Go.RowKit Go.Maps
set_option linter.unusedVariables false
set_option linter.unusedSimpArgs false
section
variable {w w' w1 : World} {t a b : Nat} {s : PS} {S : List Nat} {x : K5} {y : S4}
theorem only3 {w w' : World} {t a b : Nat} (h : Only [a, b] w w') : Only [t, a, b] w w' := h.mono (by intro q _ hq; simp at hq ⊢; omega)
set_option maxRecDepth 100000 in
theorem fork_is (h : IsPt w t a b s) (ok : OkS s) (p1 : s.lp < 4611686018427387000) (t1 : s.lt < 4611686018427387000) {pid : Int} (hk : iW pid) : Calls Try.prog 11 #[.pointer (some ⟨t, 0, none⟩), .int .i64 pid] w fun e w' => e = .returned (.tuple #[.int .i64 (forkS s pid).1.1, .int .i64 (forkS s pid).1.2.1, .int .i64 (forkS s pid).1.2.2]) ∧ IsPt w' t a b (forkS s pid).2 ∧ Only [t, a, b] w w' := by
  have HC := hide (pcclosed_is h)
  have HLV := hide (lives_is h hk)
  have H := hide h
  have HB := hide (fun W (ho : Only [] w W) => begin_is (h.quiet ho) (by have := ok.l0; omega) t1 (by have := ok.l0; omega) p1 (fun z hz => (ok.ht z hz).2) (fun z hz => (ok.hp z hz).2) (by have := ok.ft; omega) (by have := ok.fp; omega) pid)
  clear h ok p1 t1 hk
  unfold forkS
  cases hb : livesP s.P pid
  · rw [hb] at HLV
    rw [if_neg (by decide)]
    go_enter Try.func11, Try.ntmps11
    go_wp2_with (first | (go_at_call 27; refine HC.out.mono ?_; rintro e w' ⟨rfl, rfl⟩) | (go_at_call 30; refine HLV.out.mono ?_; rintro e w1 ⟨rfl, ho⟩; have HO := hide ho; clear ho))
    go_ret3
    exact ⟨rfl, H.out.quiet HO.out, HO.out.mono (by simp)⟩
  · rw [hb] at HLV
    rw [if_pos rfl]
    by_cases hP : s.P.length = 32
    · rw [if_pos (Or.inl hP)]
      have hfP : ((s.P.length : Int) == 32) = true := by rw [hP]; rfl
      go_enter Try.func11, Try.ntmps11
      go_wp2_with (first | (go_at_call 27; refine HC.out.mono ?_; rintro e w' ⟨rfl, rfl⟩) | (go_at_call 30; refine HLV.out.mono ?_; rintro e w1 ⟨rfl, ho⟩; have c0 := (H.out.quiet ho).c0; have c1 := (H.out.quiet ho).c1; have q1 := fun ty => (H.out.lens ho ty).1; have q2 := fun ty => (H.out.lens ho ty).2; have HO := hide ho; clear ho))
      go_ret3
      exact ⟨rfl, H.out.quiet HO.out, HO.out.mono (by simp)⟩
    · have hfP : ((s.P.length : Int) == 32) = false := by rw [beq_eq_false_iff_ne]; omega
      by_cases hT : s.T.length = 64
      · rw [if_pos (Or.inr hT)]
        have hfT : ((s.T.length : Int) == 64) = true := by rw [hT]; rfl
        clear hP hT
        go_enter Try.func11, Try.ntmps11
        go_wp2_with (first | (go_at_call 27; refine HC.out.mono ?_; rintro e w' ⟨rfl, rfl⟩) | (go_at_call 30; refine HLV.out.mono ?_; rintro e w1 ⟨rfl, ho⟩; have c0 := (H.out.quiet ho).c0; have c1 := (H.out.quiet ho).c1; have q1 := fun ty => (H.out.lens ho ty).1; have q2 := fun ty => (H.out.lens ho ty).2; have HO := hide ho; clear ho))
        go_ret3
        exact ⟨rfl, H.out.quiet HO.out, HO.out.mono (by simp)⟩
      · rw [if_neg (by rintro (e | e) <;> omega)]
        have hfT : ((s.T.length : Int) == 64) = false := by rw [beq_eq_false_iff_ne]; omega
        clear hP hT
        go_enter Try.func11, Try.ntmps11
        go_wp2_with (first | (go_at_call 27; refine HC.out.mono ?_; rintro e w' ⟨rfl, rfl⟩) | (go_at_call 30; refine HLV.out.mono ?_; rintro e w1 ⟨rfl, ho⟩; have c0 := (H.out.quiet ho).c0; have c1 := (H.out.quiet ho).c1; have q1 := fun ty => (H.out.lens ho ty).1; have q2 := fun ty => (H.out.lens ho ty).2; have HO := hide ho; clear ho) | (go_at_call 25; refine (HB.out _ HO.out).mono ?_; rintro e w2 ⟨rfl, h2, ho2⟩; have H2 := hide h2; have HO2 := hide ho2; clear h2 ho2))
        go_ret3
        exact ⟨rfl, H2.out, (HO.out.mono (by simp)).trans HO2.out⟩
set_option maxRecDepth 100000 in
theorem spawn_is (h : IsPt w t a b s) (ok : OkS s) (t1 : s.lt < 4611686018427387000) {pid : Int} (hk : iW pid) : Calls Try.prog 15 #[.pointer (some ⟨t, 0, none⟩), .int .i64 pid] w fun e w' => e = .returned (.tuple #[.int .i64 (spawnS s pid).1.1, .int .i64 (spawnS s pid).1.2]) ∧ IsPt w' t a b (spawnS s pid).2 ∧ Only [t, a, b] w w' := by
  have HC := hide (pcclosed_is h)
  have HLV := hide (lives_is h hk)
  have H := hide h
  have HB := hide (fun W (ho : Only [] w W) => add_is (h.quiet ho) (by have := ok.l0; omega) t1 (fun z hz => (ok.ht z hz).2) (by have := ok.ft; omega) pid)
  clear h ok t1 hk
  unfold spawnS
  cases hb : livesP s.P pid
  · rw [hb] at HLV
    rw [if_neg (by decide)]
    go_enter Try.func15, Try.ntmps15
    go_wp2_with (first | (go_at_call 27; refine HC.out.mono ?_; rintro e w' ⟨rfl, rfl⟩) | (go_at_call 30; refine HLV.out.mono ?_; rintro e w1 ⟨rfl, ho⟩; have HO := hide ho; clear ho))
    go_ret2
    exact ⟨rfl, H.out.quiet HO.out, HO.out.mono (by simp)⟩
  · rw [hb] at HLV
    rw [if_pos rfl]
    by_cases hT : s.T.length = 64
    · rw [if_pos hT]
      have hfT : ((s.T.length : Int) == 64) = true := by rw [hT]; rfl
      clear hT
      go_enter Try.func15, Try.ntmps15
      go_wp2_with (first | (go_at_call 27; refine HC.out.mono ?_; rintro e w' ⟨rfl, rfl⟩) | (go_at_call 30; refine HLV.out.mono ?_; rintro e w1 ⟨rfl, ho⟩; have c1 := (H.out.quiet ho).c1; have q2 := fun ty => (H.out.lens ho ty).2; have HO := hide ho; clear ho))
      go_ret2
      exact ⟨rfl, H.out.quiet HO.out, HO.out.mono (by simp)⟩
    · rw [if_neg hT]
      have hfT : ((s.T.length : Int) == 64) = false := by rw [beq_eq_false_iff_ne]; omega
      clear hT
      go_enter Try.func15, Try.ntmps15
      go_wp2_with (first | (go_at_call 27; refine HC.out.mono ?_; rintro e w' ⟨rfl, rfl⟩) | (go_at_call 30; refine HLV.out.mono ?_; rintro e w1 ⟨rfl, ho⟩; have c1 := (H.out.quiet ho).c1; have q2 := fun ty => (H.out.lens ho ty).2; have HO := hide ho; clear ho) | (go_at_call 43; refine (HB.out _ HO.out).mono ?_; rintro e w2 ⟨rfl, h2, ho2⟩; have H2 := hide h2; have HO2 := hide ho2; clear h2 ho2))
      go_ret2
      exact ⟨rfl, H2.out, (HO.out.mono (by simp)).trans (HO2.out.mono (by intro q _ hq; simp at hq ⊢; omega))⟩
set_option maxRecDepth 100000 in
theorem exit_is (h : IsPt w t a b s) (ok : OkS s) {pid : Int} (hk : iW pid) (code : Int) : Calls Try.prog 12 #[.pointer (some ⟨t, 0, none⟩), .int .i64 pid, .int .i64 code] w fun e w' => ∃ v, e = .returned (.tuple #[v, .int .i64 (exitS s pid code).1.2]) ∧ KRow .i64 3 w' w.heap.size v (exitS s pid code).1.1 ∧ IsPt w' t a b (exitS s pid code).2 ∧ Only [t, a, b] w w' := by
  have HC := hide (pcclosed_is h)
  have HLV := hide (lives_is h hk)
  have H := hide h
  have HLT := hide h.lt_
  unfold exitS
  cases hb : livesP s.P pid
  · rw [hb] at HLV
    rw [if_neg (by decide)]
    clear h ok hk
    go_enter Try.func12, Try.ntmps12
    go_wp2_with (first | (go_at_call 27; refine HC.out.mono ?_; rintro e w' ⟨rfl, rfl⟩) | (go_at_call 30; refine HLV.out.mono ?_; rintro e w1 ⟨rfl, ho⟩; have HO := hide ho; clear ho))
    go_ret2
    exact ⟨_, rfl, KRow.nil _ _ _ _, H.out.quiet HO.out, HO.out.mono (by simp)⟩
  · rw [hb] at HLV
    rw [if_pos rfl]
    obtain ⟨k, hkm, rfl, hz⟩ := livesP_yes hb
    have HT := hide (fun W (ho : Only [] w W) => thof_is (h.quiet ho) ok.st (by have := ok.ft; omega) k.pid)
    have HE := hide (fun W (ho : Only [] w W) => end_is (h.quiet ho) ok.sp ok.st hkm (by have := ok.fp; omega) (by have := ok.ft; omega) code)
    clear h ok hk hkm hz hb
    generalize k.pid = pid at *
    go_enter Try.func12, Try.ntmps12
    go_wp2_with (first | (go_at_call 27; refine HC.out.mono ?_; rintro e w' ⟨rfl, rfl⟩) | (go_at_call 30; refine HLV.out.mono ?_; rintro e w1 ⟨rfl, ho⟩; have HO := hide ho; clear ho) | (go_at_call 31; refine (HT.out _ HO.out).mono ?_; rintro e w2 ⟨v, rfl, hr, ho2⟩; have HR := hide hr; have HO2 := hide (HO.out.trans ho2); obtain ⟨A, cp, rfl, -⟩ := hr.form; clear hr ho2) | (go_at_call 32; refine (HE.out _ HO2.out).mono ?_; rintro e w3 ⟨rfl, h3, ho3⟩; have H3 := hide h3; have HO3 := hide ho3; clear h3 ho3))
    go_ret2
    refine ⟨_, rfl, (HR.out.only HO3.out (fun q hq hm => ?_)).base HO.out.size, H3.out, (HO2.out.mono (by simp)).trans (only3 HO3.out)⟩
    have h1 := (HR.out.at_ hq).1
    have h2 := HLT.out
    have h3 := HO.out.size
    simp at hm
    omega
set_option maxRecDepth 100000 in
set_option maxHeartbeats 1000000 in
theorem tend_is (h : IsPt w t a b s) (ok : OkS s) (t1 : s.lt < 4611686018427387000) {tid : Int} (hk : iW tid) (code : Int) : Calls Try.prog 17 #[.pointer (some ⟨t, 0, none⟩), .int .i64 tid, .int .i64 code] w fun e w' => e = .returned (.tuple #[.bool (tendS s tid code).1.1, .int .i64 (tendS s tid code).1.2]) ∧ IsPt w' t a b (tendS s tid code).2 ∧ Only [t, a, b] w w' := by
  have HC := hide (pcclosed_is h)
  have HLV := hide (runs_is h hk)
  have H := hide h
  have HLT := hide h.lt_
  have nd := pw_nodup ok.st
  unfold tendS
  cases hb : runsT s.T tid
  · rw [hb] at HLV
    rw [if_neg (by decide)]
    clear h ok hk
    go_enter Try.func17, Try.ntmps17
    go_wp2_with (first | (go_at_call 27; refine HC.out.mono ?_; rintro e w' ⟨rfl, rfl⟩) | (go_at_call 44; refine HLV.out.mono ?_; rintro e w1 ⟨rfl, ho⟩; have HO := hide ho; clear ho))
    go_ret2
    exact ⟨rfl, H.out.quiet HO.out, HO.out.mono (by simp)⟩
  · rw [hb] at HLV
    rw [if_pos rfl]
    obtain ⟨y, hy, rfl, hz⟩ := runsT_yes hb
    rw [getT_at nd hy]
    have hst2 := setT_pw ok.st (endY y code)
    have HSEE := hide (fun W (ho : Only [] w W) => h.seeT hy false ho)
    have HPUT := hide (fun W (ho : Only [] w W) => h.putT (y := endY y code) hy rfl (by have := ok.ft; omega) ho)
    obtain ⟨k, hkm, hke, hkz⟩ := ok.thr y hy
    have HTO := hide (fun W (hI : IsPt W t a b { s with T := setT s.T (endY y code) }) => thof_is hI hst2 (by show (setT s.T _).length < 100000; unfold setT; rw [List.length_map]; have := ok.ft; omega) y.pid)
    have HCO := hide (fun W B v (hI : IsPt W t a b { s with T := setT s.T (endY y code) }) (hr : KRow .i64 3 W B v (thP (setT s.T (endY y code)) y.pid)) => contRu_is hI hr (by
      have h1 := (thP_sub (setT s.T (endY y code)) y.pid).length_le
      have h2 := ok.ft
      unfold setT at h1
      rw [List.length_map, List.length_map] at h1
      unfold setT
      omega) (fun x hx => by
      obtain ⟨z, hz1, rfl⟩ := List.mem_map.1 ((thP_sub _ _).subset hx)
      have hb2 : 1 ≤ z.tid ∧ z.tid ≤ s.lt := by
        rcases mem_setT hz1 with rfl | ⟨hz2, _⟩
        · exact ok.ht y hy
        · exact ok.ht z hz2
      exact iW_mid (by omega) (by omega)))
    have HE := hide (fun W (hI : IsPt W t a b { s with T := setT s.T (endY y code) }) => end_is hI ok.sp hst2 hkm (by have := ok.fp; show s.P.length < 100000; omega) (by show (setT s.T _).length < 100000; unfold setT; rw [List.length_map]; have := ok.ft; omega) code)
    rw [hke] at HE
    rw [endS_setT s nd hy code code] at HE
    clear h ok hk hy hz hb nd hst2 hkm hkz hke
    have HAR := hide (show ((thP (setT s.T (endY y code)) y.pid).any fun x => runsT (setT s.T (endY y code)) x) = anyRun (setT s.T (endY y code)) y.pid from rfl)
    cases har : anyRun (setT s.T (endY y code)) y.pid
    · rw [har] at HAR
      rw [if_neg (by decide)]
      generalize hT2 : setT s.T (endY y code) = T2 at *
      generalize hS2 : endS s y.pid code = S2 at *
      clear hT2 hS2 har
      obtain ⟨y1, y2, y3, y4⟩ := y
      dsimp only [sV, sC, endY] at *
      go_enter Try.func17, Try.ntmps17
      go_wp2_with (first | (go_at_call 27; refine HC.out.mono ?_; rintro e w' ⟨rfl, rfl⟩) | (go_at_call 44; refine HLV.out.mono ?_; rintro e w1 ⟨rfl, ho⟩; have c1 := (H.out.quiet ho).c1; have hl := HSEE.out _ ho; have ho2 : Only [] w (w1.alloc (.cells #[.int .i64 y1, .int .i64 y2, .bool true, .int .i64 code] 43)) := ho.alloc _; have c2 := (H.out.quiet ho2).c1; obtain ⟨w4, hrun, h4, ho4⟩ := HPUT.out _ ho2.drew; have HO := hide ho; have HO2 := hide ho2; have H4 := hide h4; have HO4 := hide ho4; have hbk := ((Blk.new w1 43 #[.int .i64 y1, .int .i64 y2, .bool true, .int .i64 code]).drew).only ho4 (by simp; have := HLT.out; have := ho.size; omega); have b1 := hbk.cell 1; have HBK := hide hbk; clear ho ho2 h4 ho4 hbk))
      go_region
      all_goals go_wp2_with (first | (go_at_call 31; refine (HTO.out _ (H4.out.quiet (by repeat (first | exact Only.refl _ _ | apply Only.drew | apply Only.drewN)))).mono ?_; rintro e w5 ⟨v, rfl, hr, ho5⟩; have HR := hide hr; obtain ⟨A, cp, rfl, -⟩ := hr.form; have H5 := hide (H4.out.quiet ho5); have HO5 := hide ho5; have b5 := (HBK.out.only ho5 (by simp)).cell 1; have HBK5 := hide (HBK.out.only ho5 (by simp)); clear hr ho5) | (go_at_call 45; refine (HCO.out _ _ _ H5.out HR.out).mono ?_; rw [HAR.out]; rintro e w6 ⟨rfl, ho6⟩; have H6 := hide (H5.out.quiet ho6); have HO6 := hide (HO5.out.trans ho6); have b6 := (HBK5.out.only ho6 (by simp)).cell 1; clear ho6) | (go_at_call 32; refine (HE.out _ H6.out).mono ?_; rintro e w7 ⟨rfl, h7, ho7⟩; have H7 := hide h7; have HO7 := hide ho7; clear h7 ho7))
      all_goals go_ret2
      all_goals exact ⟨rfl, H7.out, ((((HO2.out.drew).mono (by simp)).trans (HO4.out.mono (by intro q _ hq; simp at hq ⊢; omega))).trans (HO6.out.mono (by simp))).trans (only3 HO7.out)⟩
    · rw [har] at HAR
      rw [if_pos rfl]
      generalize hT2 : setT s.T (endY y code) = T2 at *
      clear hT2 har HE
      obtain ⟨y1, y2, y3, y4⟩ := y
      dsimp only [sV, sC, endY] at *
      go_enter Try.func17, Try.ntmps17
      go_wp2_with (first | (go_at_call 27; refine HC.out.mono ?_; rintro e w' ⟨rfl, rfl⟩) | (go_at_call 44; refine HLV.out.mono ?_; rintro e w1 ⟨rfl, ho⟩; have c1 := (H.out.quiet ho).c1; have hl := HSEE.out _ ho; have ho2 : Only [] w (w1.alloc (.cells #[.int .i64 y1, .int .i64 y2, .bool true, .int .i64 code] 43)) := ho.alloc _; have c2 := (H.out.quiet ho2).c1; obtain ⟨w4, hrun, h4, ho4⟩ := HPUT.out _ ho2.drew; have HO := hide ho; have HO2 := hide ho2; have H4 := hide h4; have HO4 := hide ho4; have hbk := ((Blk.new w1 43 #[.int .i64 y1, .int .i64 y2, .bool true, .int .i64 code]).drew).only ho4 (by simp; have := HLT.out; have := ho.size; omega); have b1 := hbk.cell 1; have HBK := hide hbk; clear ho ho2 h4 ho4 hbk))
      go_region
      all_goals go_wp2_with (first | (go_at_call 31; refine (HTO.out _ (H4.out.quiet (by repeat (first | exact Only.refl _ _ | apply Only.drew | apply Only.drewN)))).mono ?_; rintro e w5 ⟨v, rfl, hr, ho5⟩; have HR := hide hr; obtain ⟨A, cp, rfl, -⟩ := hr.form; have H5 := hide (H4.out.quiet ho5); have HO5 := hide ho5; clear hr ho5) | (go_at_call 45; refine (HCO.out _ _ _ H5.out HR.out).mono ?_; rw [HAR.out]; rintro e w6 ⟨rfl, ho6⟩; have H6 := hide (H5.out.quiet ho6); have HO6 := hide (HO5.out.trans ho6); clear ho6))
      all_goals go_ret2
      all_goals exact ⟨rfl, H6.out, (((HO2.out.drew).mono (by simp)).trans (HO4.out.mono (by intro q _ hq; simp at hq ⊢; omega))).trans (HO6.out.mono (by simp))⟩
end
end Go.Proofs.Ytdnnilpifnigiaa
