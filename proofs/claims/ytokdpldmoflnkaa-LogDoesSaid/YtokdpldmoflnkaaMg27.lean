/-
  LogDoes: does, of the kind Step while none runs.
-/
import Derived.Test.YtokdpldmoflnkaaMg26
namespace Go.Proofs.Ytokdpldmoflnkaa
open Go.ChangeShapes Go.WideShapes Go.ChangeAt Go.RowKit Go.Maps
set_option linter.unusedVariables false
set_option linter.unusedSimpArgs false
section
variable {w0 w w' w1 w2 : World} {gw gd g gr gx N a sz K K' : Nat} {S S' : Option PG} {p p' : LP} {F G F' G' : List Nat}
set_option maxRecDepth 100000 in
theorem lg_step_none (h : LgP w g gd N a sz S p K F) (h0 : p.st = 0) : Calls Try.prog 24 #[.pointer (some ⟨g, 0, none⟩)] w fun e w' => e = .returned (.tuple #[.bool false, .int .i64 4]) ∧ w = w' := by
  have HC := hide (lg_closed h)
  have HR := hide (lg_running h)
  have hd : (!decide (((p.st : Nat) : Int) = 0)) = false := by simp [h0]
  rw [hd] at HR
  clear h hd
  go_enter Try.func24, Try.ntmps24
  go_wp2_with (first | (go_at_call 49; refine HC.out.mono ?_; rintro e w' ⟨rfl, rfl⟩) | (go_at_call 34; refine HR.out.mono ?_; rintro e w' ⟨rfl, rfl⟩))
  go_ret2
  exact ⟨rfl, rfl⟩
set_option maxRecDepth 100000 in
theorem xlp_step_none (h : XlP w gx gr N a sz S p K G) (h0 : p.st = 0) : Calls Try.prog 25 #[.pointer (some ⟨gx, 0, none⟩)] w fun e w' => e = .returned (.tuple #[.bool false, .int .i64 4]) ∧ Only [] w w' := by
  have c7 := h.cells.2
  have hd : (!decide (p.st = 0)) = false := by simp [h0]
  rw [hd] at c7
  clear h hd
  go_enter Try.func25, Try.ntmps25
  go_wp2
  go_ret2
  exact ⟨rfl, by repeat (first | exact Only.refl _ _ | apply Only.drew | apply Only.drewN)⟩
set_option maxRecDepth 100000 in
set_option maxHeartbeats 1000000 in
theorem does_step_none (h : Bl w0 w gw gd g gr gx N a sz S p K F G) (h0 : p.st = 0) (n b m : Int) : Calls Try.prog 5 #[.pointer (some ⟨gw, 0, none⟩), op16V 6 n b m] w fun e w' => e = .returned (.bool true) ∧ DidBl w0 w' gw gd N a sz S p K := by
  have HC := hide (fun W (ho : Only [] w W) => (h.quiet ho).cells)
  have HB := hide (fun W (ho : Only [] w W) => (show Calls Try.prog 24 #[.pointer (some ⟨g, 0, none⟩)] W (fun e w1 => e = .returned (.tuple #[.bool false, .int .i64 4]) ∧ (w1.cell? ⟨gw, 1, none⟩ = some (.pointer (some ⟨g, 0, none⟩)) ∧ w1.cell? ⟨gw, 3, none⟩ = some (.pointer (some ⟨gx, 0, none⟩))) ∧ ∀ W2, Only [] w1 W2 → Calls Try.prog 25 #[.pointer (some ⟨gx, 0, none⟩)] W2 (fun e w2 => e = .returned (.tuple #[.bool false, .int .i64 4]) ∧ DidBl w0 w2 gw gd N a sz S p K)) from by
    have hq := h.quiet ho
    refine (lg_step_none hq.lg h0).mono ?_
    rintro e w1 ⟨q1, rfl⟩
    refine ⟨q1, hq.cells, fun W2 ho2 => ?_⟩
    refine (xlp_step_none (hq.quiet ho2).xl h0).mono ?_
    rintro e w2 ⟨q2, o3⟩
    exact ⟨q2, g, gr, gx, F, G, hq.quiet (ho2.trans o3)⟩))
  clear h
  unfold op16V
  go_enter Try.func5, Try.ntmps5
  obtain ⟨c1, c3⟩ := HC.out (w.alloc (.cells #[.int .i64 6, .int .i64 n, .int .u8 b, .int .i64 m] 27)) ((Only.refl _ _).alloc _)
  have hoa : Only [] w (w.alloc (.cells #[.int .i64 6, .int .i64 n, .int .u8 b, .int .i64 m] 27)) := (Only.refl _ _).alloc _
  go_wp2_with (first | (go_at_call 24; refine (HB.out _ (Only.trans hoa (by repeat (first | exact Only.refl _ _ | apply Only.drew | apply Only.drewN)))).mono ?_; rintro e w2 ⟨rfl, ⟨hc1, hc3⟩, hn2⟩; have HN2 := hide hn2; clear hn2) | (go_at_call 25; refine (HN2.out _ (by repeat (first | exact Only.refl _ _ | apply Only.drew | apply Only.drewN))).mono ?_; rintro e w3 ⟨rfl, hd⟩; have HD := hide hd; clear hd))
  go_ret
  exact ⟨by simp, HD.out⟩
end
end Go.Proofs.Ytokdpldmoflnkaa
/-
  LogDoes: does, of the kind Commit.
-/
namespace Go.Proofs.Ytokdpldmoflnkaa
open Go.ChangeShapes Go.WideShapes Go.ChangeAt Go.RowKit Go.Maps
set_option linter.unusedVariables false
set_option linter.unusedSimpArgs false
/-- What is always so, plainly. -/
structure Keep (N a sz : Nat) (p : LP) : Prop where
  run : IdleP p ∨ RunsP p
  hdr : HdrOk N a sz p.plat p.l
  sec : SecOk N p.plat p.l
  okp : OkP N a sz p.G
  gen_ : 0 ≤ p.gen ∧ p.gen < 18446744073709551616
theorem SecOk.app {N : Nat} {plat : List Int} {l : List (Nat × List Int)} (h : SecOk N plat l) {n : Nat} {zs : List Int} (h1 : n < N) (h2 : zs.length = 512) : SecOk N plat (l ++ [(n, zs)]) := ⟨h.1, fun q hq => by
  rcases List.mem_append.1 hq with e | e
  · exact h.2 q e
  · simp at e
    subst e
    exact ⟨h1, h2⟩⟩
theorem SecOk.flush {N : Nat} {plat : List Int} {l : List (Nat × List Int)} (h : SecOk N plat l) : SecOk N (layAll plat l) [] := ⟨layAll_len l plat h.1 h.2, by simp⟩
theorem sec_do {N a sz : Nat} {p : LP} (hs : SecOk N p.plat p.l) (hok : OkP N a sz p.G) (hn : a + sz ≤ N) (hsz : 2 ≤ sz ∧ sz ≤ 248) (hr : RunsP p) : SecOk N (doP a p).plat (doP a p).l := by
  obtain ⟨h1, h2, h3, h4, h5⟩ := hr
  have hl := hok.1
  have hst : p.st = 1 ∨ p.st = 2 ∨ p.st = 3 ∨ p.st = 4 ∨ p.st = 5 ∨ p.st = 6 ∨ p.st = 7 ∨ p.st = 8 := by omega
  have hm : p.nx < p.G.length → p.G.getD p.nx (0, []) ∈ p.G := fun hi => by simp only [List.getD, List.getElem?_eq_getElem hi, Option.getD_some]; exact List.getElem_mem hi
  rcases hst with e | e | e | e | e | e | e | e
  · rw [show doP a p = { p with l := p.l ++ [(a + 1 + p.nx, (p.G.getD p.nx (0, [])).2)] } from by unfold doP; rw [e]; rfl]
    have hi := h3 (by simp [eachP, e])
    exact hs.app (by omega) (hok.2.2 _ (hm hi)).2.1
  · rw [show doP a p = { p with plat := layAll p.plat p.l, l := [] } from by unfold doP; rw [e]; rfl]
    exact hs.flush
  · rw [show doP a p = { p with gen := (p.gen + 1) % 18446744073709551616, l := p.l ++ [(a, hdrF ((p.gen + 1) % 18446744073709551616) (p.G.map (·.1)))] } from by unfold doP; rw [e]; rfl]
    exact hs.app (by omega) (hdrF_length _ _ (by simp; omega))
  · rw [show doP a p = { p with plat := layAll p.plat p.l, l := [] } from by unfold doP; rw [e]; rfl]
    exact hs.flush
  · rw [show doP a p = { p with l := p.l ++ [((p.G.getD p.nx (0, [])).1.toNat, (p.G.getD p.nx (0, [])).2)] } from by unfold doP; rw [e]; rfl]
    have hi := h3 (by simp [eachP, e])
    have hb := blkB_yes.1 (hok.2.2 _ (hm hi)).1
    exact hs.app (by omega) (hok.2.2 _ (hm hi)).2.1
  · rw [show doP a p = { p with plat := layAll p.plat p.l, l := [] } from by unfold doP; rw [e]; rfl]
    exact hs.flush
  · rw [show doP a p = { p with l := p.l ++ [(a, hdrF p.gen [])] } from by unfold doP; rw [e]; rfl]
    exact hs.app (by omega) (hdrF_length _ _ (by simp))
  · rw [show doP a p = { p with plat := layAll p.plat p.l, l := [] } from by unfold doP; rw [e]; rfl]
    exact hs.flush
theorem gen_do {a : Nat} {p : LP} (hg : 0 ≤ p.gen ∧ p.gen < 18446744073709551616) : 0 ≤ (doP a p).gen ∧ (doP a p).gen < 18446744073709551616 := by
  unfold doP
  split
  · exact hg
  · show 0 ≤ (p.gen + 1) % 18446744073709551616 ∧ (p.gen + 1) % 18446744073709551616 < 18446744073709551616
    omega
  · exact hg
  · exact hg
  · exact hg
theorem Keep.step {N a sz : Nat} {p : LP} (h : Keep N a sz p) (hn : a + sz ≤ N) (hsz : 2 ≤ sz ∧ sz ≤ 248) (hr : RunsP p) : Keep N a sz (stepP a p) := by
  obtain ⟨r1, r2⟩ := step_runs a hr
  refine ⟨r1, hdr_step h.hdr h.sec h.okp h.gen_ (by omega) hr, ?_, ?_, ?_⟩
  · unfold stepP
    rw [(nextP_same _).2.1, (nextP_same _).2.2]
    exact sec_do h.sec h.okp hn hsz hr
  · by_cases h8 : p.st = 8
    · have : (stepP a p).G = [] := by
        unfold stepP
        rw [show doP a p = { p with plat := layAll p.plat p.l, l := [] } from by unfold doP; rw [h8]; rfl]
        unfold nextP
        rw [if_neg (by simp [eachP, h8]), if_pos h8]
      rw [this]
      exact ⟨by simp; omega, by simp, by simp⟩
    · rw [(stepP_st a hr h8).2]; exact h.okp
  · unfold stepP
    rw [(nextP_same _).1]
    exact gen_do h.gen_
theorem Keep.iter {N a sz : Nat} (hn : a + sz ≤ N) (hsz : 2 ≤ sz ∧ sz ≤ 248) : ∀ (n : Nat) (p : LP), Keep N a sz p → n ≤ leftP p → Keep N a sz (iterP a n p)
  | 0, p, h, _ => h
  | n + 1, p, h, hl => by
    have hr : RunsP p := by
      rcases h.run with e | e
      · have : leftP p = 0 := left_idle e.1
        omega
      · exact e
    have := (step_runs a hr).2
    exact Keep.iter hn hsz n (stepP a p) (h.step hn hsz hr) (by omega)
end Go.Proofs.Ytokdpldmoflnkaa
/-
  LogDoes: does, of the kind Commit: the walk.
-/
namespace Go.Proofs.Ytokdpldmoflnkaa
open Go.ChangeShapes Go.WideShapes Go.ChangeAt Go.RowKit Go.Maps
set_option linter.unusedVariables false
set_option linter.unusedSimpArgs false
section
variable {w0 w w' w1 w2 : World} {gw gd g gr gx N a sz K K' : Nat} {S S' : Option PG} {p p' : LP} {F G F' G' : List Nat}
theorem Bl.keep_start (h : Bl w0 w gw gd g gr gx N a sz S p K F G) : Keep N a sz (startP S p) := by
  obtain ⟨r1, r2, r5⟩ := h.start
  obtain ⟨s1, s2, s3, s4, s5, s6⟩ := startP_same S p
  refine ⟨r1, r5, ?_, ?_, ?_⟩
  · rw [s4, s5]; exact h.lg.sec
  · rw [s2]; exact h.lg.okp
  · rw [s1]; exact h.lg.gen_
set_option maxRecDepth 100000 in
set_option maxHeartbeats 1000000 in
theorem does_commit (h : Bl w0 w gw gd g gr gx N a sz S p K F G) (hS : S = none) (hk : K < 4611686018426000000) (hl5 : p.l.length < 4398046000000) (n b m : Int) : Calls Try.prog 5 #[.pointer (some ⟨gw, 0, none⟩), op16V 7 n b m] w fun e w' => e = .returned (.bool true) ∧ DidBl w0 w' gw gd N a sz none (endP a (startP none p)) (K + leftP (startP none p)) := by
  subst hS
  have HC := hide (fun W (ho : Only [] w W) => (h.quiet ho).cells)
  have hrng := h.lg.rng
  have HB := hide (fun W (ho : Only [] w W) => (show Calls Try.prog 26 #[.pointer (some ⟨g, 0, none⟩)] W (fun e w1 => e = .returned (.tuple #[.int .i64 (leftP (startP none p)), .int .i64 0]) ∧ (w1.cell? ⟨gw, 1, none⟩ = some (.pointer (some ⟨g, 0, none⟩)) ∧ w1.cell? ⟨gw, 3, none⟩ = some (.pointer (some ⟨gx, 0, none⟩))) ∧ ∀ W2, Only [] w1 W2 → Calls Try.prog 27 #[.pointer (some ⟨gx, 0, none⟩)] W2 (fun e w2 => e = .returned (.tuple #[.int .i64 (leftP (startP none p)), .int .i64 0]) ∧ DidBl w0 w2 gw gd N a sz none (endP a (startP none p)) (K + leftP (startP none p)))) from by
    have hq := h.quiet ho
    have kp := Keep.iter (by omega) (by omega) (leftP (startP none p)) (startP none p) hq.keep_start (Nat.le_refl _)
    refine (lg_commit hq.lg hq.run (by omega) hl5).mono ?_
    rintro e w1 ⟨q1, F1, t1, l1⟩
    have hw1 := hq.wd.only t1.1 hq.gwF.1
    refine ⟨q1, ⟨hw1.cell 1, hw1.cell 3⟩, fun W2 ho2 => ?_⟩
    have t2 := turned_quiet t1 ho2
    refine (xlp_commit (hq.xl1 t2) hq.run hk hl5).mono ?_
    rintro e w2 ⟨q2, G2, t3, x3⟩
    have hB := hq.both t2 (show LgP W2 g gd N a sz none (endP a (startP none p)) (K + leftP (startP none p)) F1 from l1.quiet ho2) t3 x3 kp.run (fun e => absurd rfl e) kp.hdr
    exact ⟨q2, g, gr, gx, F1, G2, hB⟩))
  clear h
  unfold op16V
  go_enter Try.func5, Try.ntmps5
  obtain ⟨c1, c3⟩ := HC.out (w.alloc (.cells #[.int .i64 7, .int .i64 n, .int .u8 b, .int .i64 m] 27)) ((Only.refl _ _).alloc _)
  have hoa : Only [] w (w.alloc (.cells #[.int .i64 7, .int .i64 n, .int .u8 b, .int .i64 m] 27)) := (Only.refl _ _).alloc _
  go_wp2_with (first | (go_at_call 26; refine (HB.out _ (Only.trans hoa (by repeat (first | exact Only.refl _ _ | apply Only.drew | apply Only.drewN)))).mono ?_; rintro e w2 ⟨rfl, ⟨hc1, hc3⟩, hn2⟩; have HN2 := hide hn2; clear hn2) | (go_at_call 27; refine (HN2.out _ (by repeat (first | exact Only.refl _ _ | apply Only.drew | apply Only.drewN))).mono ?_; rintro e w3 ⟨rfl, hd⟩; have HD := hide hd; clear hd))
  go_ret
  exact ⟨by simp, HD.out⟩
set_option maxRecDepth 100000 in
set_option maxHeartbeats 1000000 in
theorem does_commit_busy (h : Bl w0 w gw gd g gr gx N a sz S p K F G) {G0 : PG} (hS : S = some G0) (n b m : Int) : Calls Try.prog 5 #[.pointer (some ⟨gw, 0, none⟩), op16V 7 n b m] w fun e w' => e = .returned (.bool true) ∧ DidBl w0 w' gw gd N a sz S p K := by
  have HC := hide (fun W (ho : Only [] w W) => (h.quiet ho).cells)
  have HB := hide (fun W (ho : Only [] w W) => (show Calls Try.prog 26 #[.pointer (some ⟨g, 0, none⟩)] W (fun e w1 => e = .returned (.tuple #[.int .i64 0, .int .i64 5]) ∧ (w1.cell? ⟨gw, 1, none⟩ = some (.pointer (some ⟨g, 0, none⟩)) ∧ w1.cell? ⟨gw, 3, none⟩ = some (.pointer (some ⟨gx, 0, none⟩))) ∧ ∀ W2, Only [] w1 W2 → Calls Try.prog 27 #[.pointer (some ⟨gx, 0, none⟩)] W2 (fun e w2 => e = .returned (.tuple #[.int .i64 0, .int .i64 5]) ∧ DidBl w0 w2 gw gd N a sz S p K)) from by
    have hq := h.quiet ho
    refine (lg_commit_busy hq.lg hS).mono ?_
    rintro e w1 ⟨q1, rfl⟩
    refine ⟨q1, hq.cells, fun W2 ho2 => ?_⟩
    refine (xlp_commit_busy (hq.quiet ho2).xl (by rw [hS]; simp)).mono ?_
    rintro e w2 ⟨q2, o3⟩
    exact ⟨q2, g, gr, gx, F, G, hq.quiet (ho2.trans o3)⟩))
  clear h
  unfold op16V
  go_enter Try.func5, Try.ntmps5
  obtain ⟨c1, c3⟩ := HC.out (w.alloc (.cells #[.int .i64 7, .int .i64 n, .int .u8 b, .int .i64 m] 27)) ((Only.refl _ _).alloc _)
  have hoa : Only [] w (w.alloc (.cells #[.int .i64 7, .int .i64 n, .int .u8 b, .int .i64 m] 27)) := (Only.refl _ _).alloc _
  go_wp2_with (first | (go_at_call 26; refine (HB.out _ (Only.trans hoa (by repeat (first | exact Only.refl _ _ | apply Only.drew | apply Only.drewN)))).mono ?_; rintro e w2 ⟨rfl, ⟨hc1, hc3⟩, hn2⟩; have HN2 := hide hn2; clear hn2) | (go_at_call 27; refine (HN2.out _ (by repeat (first | exact Only.refl _ _ | apply Only.drew | apply Only.drewN))).mono ?_; rintro e w3 ⟨rfl, hd⟩; have HD := hide hd; clear hd))
  go_ret
  exact ⟨by simp, HD.out⟩
end
end Go.Proofs.Ytokdpldmoflnkaa
