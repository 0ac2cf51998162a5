/-
  LogDoes: does, of the kinds Begin, End, Abort, Start, Step, Commit.
-/
import Derived.Test.YtokdpldmoflnkaaMg25
namespace Go.Proofs.Ytokdpldmoflnkaa
open Go.ChangeShapes Go.WideShapes Go.ChangeAt Go.RowKit Go.Maps
set_option linter.unusedVariables false
set_option linter.unusedSimpArgs false
section
variable {w0 w w' w1 w2 : World} {gw gd g gr gx N a sz K K' : Nat} {S S' : Option PG} {p p' : LP} {F G F' G' : List Nat}
theorem Bl.cells (h : Bl w0 w gw gd g gr gx N a sz S p K F G) : w.cell? ⟨gw, 1, none⟩ = some (.pointer (some ⟨g, 0, none⟩)) ∧ w.cell? ⟨gw, 3, none⟩ = some (.pointer (some ⟨gx, 0, none⟩)) := ⟨h.wd.cell 1, h.wd.cell 3⟩
def op16V (kd n b m : Int) : Value := .agg #[.int .i64 kd, .int .i64 n, .int .u8 b, .int .i64 m]
set_option maxRecDepth 100000 in
set_option maxHeartbeats 1000000 in
theorem does_begin_ok (h : Bl w0 w gw gd g gr gx N a sz S p K F G) (hS : S = none) (h0 : p.st = 0) (n b m : Int) : Calls Try.prog 5 #[.pointer (some ⟨gw, 0, none⟩), op16V 2 n b m] w fun e w' => e = .returned (.bool true) ∧ DidBl w0 w' gw gd N a sz (some p.G) p K := by
  have HC := hide (fun W (ho : Only [] w W) => (h.quiet ho).cells)
  have HB := hide (fun W (ho : Only [] w W) => (lg_begin (h.quiet ho).lg hS (by simp [h0])).mono (R' := fun e w1 => e = .returned (.int .i64 0) ∧ (w1.cell? ⟨gw, 1, none⟩ = some (.pointer (some ⟨g, 0, none⟩)) ∧ w1.cell? ⟨gw, 3, none⟩ = some (.pointer (some ⟨gx, 0, none⟩))) ∧ ∀ W2, Only [] w1 W2 → Calls Try.prog 18 #[.pointer (some ⟨gx, 0, none⟩)] W2 (fun e w2 => e = .returned (.int .i64 0) ∧ (w2.cell? ⟨gw, 1, none⟩ = some (.pointer (some ⟨g, 0, none⟩)) ∧ w2.cell? ⟨gw, 3, none⟩ = some (.pointer (some ⟨gx, 0, none⟩))) ∧ DidBl w0 w2 gw gd N a sz (some p.G) p K)) (fun e w1 ⟨q1, F1, t1, l1⟩ => by
    have hq := h.quiet ho
    have hw1 := hq.wd.only t1.1 hq.gwF.1
    refine ⟨q1, ⟨hw1.cell 1, hw1.cell 3⟩, fun W2 ho2 => ?_⟩
    have t2 := turned_quiet t1 ho2
    refine (xlp_begin (hq.xl1 t2) hS h0).mono ?_
    rintro e w2 ⟨q2, G2, t3, x3⟩
    have hB := hq.both t2 (show LgP W2 g gd N a sz (some p.G) p K F1 from l1.quiet ho2) t3 x3 h.run (fun _ => h0) h.hdr
    exact ⟨q2, hB.cells, g, gr, gx, F1, G2, hB⟩))
  clear h
  unfold op16V
  go_enter Try.func5, Try.ntmps5
  obtain ⟨c1, c3⟩ := HC.out (w.alloc (.cells #[.int .i64 2, .int .i64 n, .int .u8 b, .int .i64 m] 27)) ((Only.refl _ _).alloc _)
  have hoa : Only [] w (w.alloc (.cells #[.int .i64 2, .int .i64 n, .int .u8 b, .int .i64 m] 27)) := (Only.refl _ _).alloc _
  go_wp2_with fail
  generalize w.alloc (.cells #[.int .i64 2, .int .i64 n, .int .u8 b, .int .i64 m] 27) = W1 at *
  go_region_held3 (fun w' => w'.cell? ⟨gw, 1, none⟩ = some (.pointer (some ⟨g, 0, none⟩)) ∧ w'.cell? ⟨gw, 3, none⟩ = some (.pointer (some ⟨gx, 0, none⟩))) (first | go_keep | assumption) (first | (go_at_call 17; refine (HB.out _ (Only.trans hoa (by repeat (first | exact Only.refl _ _ | apply Only.drew | apply Only.drewN)))).mono ?_; rintro e w2 ⟨rfl, hcc, hn2⟩; have HN2 := hide hn2; clear hn2) | (go_at_call 18; refine (HN2.out _ (by repeat (first | exact Only.refl _ _ | apply Only.drew | apply Only.drewN))).mono ?_; rintro e w3 ⟨rfl, hcc, hd⟩; have HD := hide hd; clear hd))
  all_goals
    go_wp2
    go_ret
    exact ⟨by simp, HD.out⟩
-- MORE
set_option maxRecDepth 100000 in
set_option maxHeartbeats 1000000 in
theorem does_begin_busy (h : Bl w0 w gw gd g gr gx N a sz S p K F G) (hn : S ≠ none ∨ p.st ≠ 0) (n b m : Int) : Calls Try.prog 5 #[.pointer (some ⟨gw, 0, none⟩), op16V 2 n b m] w fun e w' => e = .returned (.bool true) ∧ DidBl w0 w' gw gd N a sz S p K := by
  have HC := hide (fun W (ho : Only [] w W) => (h.quiet ho).cells)
  have HB := hide (fun W (ho : Only [] w W) => (show Calls Try.prog 17 #[.pointer (some ⟨g, 0, none⟩)] W (fun e w1 => e = .returned (.int .i64 5) ∧ (w1.cell? ⟨gw, 1, none⟩ = some (.pointer (some ⟨g, 0, none⟩)) ∧ w1.cell? ⟨gw, 3, none⟩ = some (.pointer (some ⟨gx, 0, none⟩))) ∧ ∀ W2, Only [] w1 W2 → Calls Try.prog 18 #[.pointer (some ⟨gx, 0, none⟩)] W2 (fun e w2 => e = .returned (.int .i64 5) ∧ (w2.cell? ⟨gw, 1, none⟩ = some (.pointer (some ⟨g, 0, none⟩)) ∧ w2.cell? ⟨gw, 3, none⟩ = some (.pointer (some ⟨gx, 0, none⟩))) ∧ DidBl w0 w2 gw gd N a sz S p K)) from by
    have hq := h.quiet ho
    refine (lg_begin_busy hq.lg (hn.imp_right (fun e => by omega))).mono ?_
    rintro e w1 ⟨q1, rfl⟩
    refine ⟨q1, hq.cells, fun W2 ho2 => ?_⟩
    refine (xlp_begin_busy (hq.quiet ho2).xl hn).mono ?_
    rintro e w2 ⟨q2, o3⟩
    have hB := hq.quiet (ho2.trans o3)
    exact ⟨q2, hB.cells, g, gr, gx, F, G, hB⟩))
  clear h
  unfold op16V
  go_enter Try.func5, Try.ntmps5
  obtain ⟨c1, c3⟩ := HC.out (w.alloc (.cells #[.int .i64 2, .int .i64 n, .int .u8 b, .int .i64 m] 27)) ((Only.refl _ _).alloc _)
  have hoa : Only [] w (w.alloc (.cells #[.int .i64 2, .int .i64 n, .int .u8 b, .int .i64 m] 27)) := (Only.refl _ _).alloc _
  go_wp2_with fail
  generalize w.alloc (.cells #[.int .i64 2, .int .i64 n, .int .u8 b, .int .i64 m] 27) = W1 at *
  go_region_held3 (fun w' => w'.cell? ⟨gw, 1, none⟩ = some (.pointer (some ⟨g, 0, none⟩)) ∧ w'.cell? ⟨gw, 3, none⟩ = some (.pointer (some ⟨gx, 0, none⟩))) (first | go_keep | assumption) (first | (go_at_call 17; refine (HB.out _ (Only.trans hoa (by repeat (first | exact Only.refl _ _ | apply Only.drew | apply Only.drewN)))).mono ?_; rintro e w2 ⟨rfl, hcc, hn2⟩; have HN2 := hide hn2; clear hn2) | (go_at_call 18; refine (HN2.out _ (by repeat (first | exact Only.refl _ _ | apply Only.drew | apply Only.drewN))).mono ?_; rintro e w3 ⟨rfl, hcc, hd⟩; have HD := hide hd; clear hd))
  all_goals
    go_wp2
    go_ret
    exact ⟨by simp, HD.out⟩
set_option maxRecDepth 100000 in
set_option maxHeartbeats 1000000 in
theorem does_end_none (h : Bl w0 w gw gd g gr gx N a sz S p K F G) (hS : S = none) (n b m : Int) : Calls Try.prog 5 #[.pointer (some ⟨gw, 0, none⟩), op16V 3 n b m] w fun e w' => e = .returned (.bool true) ∧ DidBl w0 w' gw gd N a sz S p K := by
  have HC := hide (fun W (ho : Only [] w W) => (h.quiet ho).cells)
  have HB := hide (fun W (ho : Only [] w W) => (show Calls Try.prog 19 #[.pointer (some ⟨g, 0, none⟩)] W (fun e w1 => e = .returned (.int .i64 4) ∧ (w1.cell? ⟨gw, 1, none⟩ = some (.pointer (some ⟨g, 0, none⟩)) ∧ w1.cell? ⟨gw, 3, none⟩ = some (.pointer (some ⟨gx, 0, none⟩))) ∧ ∀ W2, Only [] w1 W2 → Calls Try.prog 20 #[.pointer (some ⟨gx, 0, none⟩), .bool false] W2 (fun e w2 => e = .returned (.int .i64 4) ∧ (w2.cell? ⟨gw, 1, none⟩ = some (.pointer (some ⟨g, 0, none⟩)) ∧ w2.cell? ⟨gw, 3, none⟩ = some (.pointer (some ⟨gx, 0, none⟩))) ∧ DidBl w0 w2 gw gd N a sz S p K)) from by
    have hq := h.quiet ho
    refine (lg_end_none hq.lg hS).mono ?_
    rintro e w1 ⟨q1, rfl⟩
    refine ⟨q1, hq.cells, fun W2 ho2 => ?_⟩
    refine (xlp_end_none (hq.quiet ho2).xl false hS).mono ?_
    rintro e w2 ⟨q2, o3⟩
    have hB := hq.quiet (ho2.trans o3)
    exact ⟨q2, hB.cells, g, gr, gx, F, G, hB⟩))
  clear h
  unfold op16V
  go_enter Try.func5, Try.ntmps5
  obtain ⟨c1, c3⟩ := HC.out (w.alloc (.cells #[.int .i64 3, .int .i64 n, .int .u8 b, .int .i64 m] 27)) ((Only.refl _ _).alloc _)
  have hoa : Only [] w (w.alloc (.cells #[.int .i64 3, .int .i64 n, .int .u8 b, .int .i64 m] 27)) := (Only.refl _ _).alloc _
  go_wp2_with fail
  generalize w.alloc (.cells #[.int .i64 3, .int .i64 n, .int .u8 b, .int .i64 m] 27) = W1 at *
  go_region_held3 (fun w' => w'.cell? ⟨gw, 1, none⟩ = some (.pointer (some ⟨g, 0, none⟩)) ∧ w'.cell? ⟨gw, 3, none⟩ = some (.pointer (some ⟨gx, 0, none⟩))) (first | go_keep | assumption) (first | (go_at_call 19; refine (HB.out _ (Only.trans hoa (by repeat (first | exact Only.refl _ _ | apply Only.drew | apply Only.drewN)))).mono ?_; rintro e w2 ⟨rfl, hcc, hn2⟩; have HN2 := hide hn2; clear hn2) | (go_at_call 20; refine (HN2.out _ (by repeat (first | exact Only.refl _ _ | apply Only.drew | apply Only.drewN))).mono ?_; rintro e w3 ⟨rfl, hcc, hd⟩; have HD := hide hd; clear hd))
  all_goals
    go_wp2
    go_ret
    exact ⟨by simp, HD.out⟩
set_option maxRecDepth 100000 in
set_option maxHeartbeats 1000000 in
theorem does_end (h : Bl w0 w gw gd g gr gx N a sz S p K F G) {G0 : PG} (hS : S = some G0) (n b m : Int) : Calls Try.prog 5 #[.pointer (some ⟨gw, 0, none⟩), op16V 3 n b m] w fun e w' => e = .returned (.bool true) ∧ DidBl w0 w' gw gd N a sz none p K := by
  have HC := hide (fun W (ho : Only [] w W) => (h.quiet ho).cells)
  have HB := hide (fun W (ho : Only [] w W) => (show Calls Try.prog 19 #[.pointer (some ⟨g, 0, none⟩)] W (fun e w1 => e = .returned (.int .i64 0) ∧ (w1.cell? ⟨gw, 1, none⟩ = some (.pointer (some ⟨g, 0, none⟩)) ∧ w1.cell? ⟨gw, 3, none⟩ = some (.pointer (some ⟨gx, 0, none⟩))) ∧ ∀ W2, Only [] w1 W2 → Calls Try.prog 20 #[.pointer (some ⟨gx, 0, none⟩), .bool false] W2 (fun e w2 => e = .returned (.int .i64 0) ∧ (w2.cell? ⟨gw, 1, none⟩ = some (.pointer (some ⟨g, 0, none⟩)) ∧ w2.cell? ⟨gw, 3, none⟩ = some (.pointer (some ⟨gx, 0, none⟩))) ∧ DidBl w0 w2 gw gd N a sz none p K)) from by
    have hq := h.quiet ho
    refine (lg_end hq.lg hS).mono ?_
    rintro e w1 ⟨q1, F1, t1, l1⟩
    have hw1 := hq.wd.only t1.1 hq.gwF.1
    refine ⟨q1, ⟨hw1.cell 1, hw1.cell 3⟩, fun W2 ho2 => ?_⟩
    have t2 := turned_quiet t1 ho2
    refine ((show Calls Try.prog 20 #[.pointer (some ⟨gx, 0, none⟩), .bool false] W2 (fun e w2 => e = .returned (.int .i64 0) ∧ DidXP W2 w2 gx gr N a sz none p K G) from xlp_end (hq.xl1 t2) false hS (hq.sav (by rw [hS]; simp)))).mono ?_
    rintro e w2 ⟨q2, G2, t3, x3⟩
    have hB := hq.both t2 (show LgP W2 g gd N a sz none p K F1 from l1.quiet ho2) t3 x3 h.run (fun e => absurd rfl e) h.hdr
    exact ⟨q2, hB.cells, g, gr, gx, F1, G2, hB⟩))
  clear h
  unfold op16V
  go_enter Try.func5, Try.ntmps5
  obtain ⟨c1, c3⟩ := HC.out (w.alloc (.cells #[.int .i64 3, .int .i64 n, .int .u8 b, .int .i64 m] 27)) ((Only.refl _ _).alloc _)
  have hoa : Only [] w (w.alloc (.cells #[.int .i64 3, .int .i64 n, .int .u8 b, .int .i64 m] 27)) := (Only.refl _ _).alloc _
  go_wp2_with fail
  generalize w.alloc (.cells #[.int .i64 3, .int .i64 n, .int .u8 b, .int .i64 m] 27) = W1 at *
  go_region_held3 (fun w' => w'.cell? ⟨gw, 1, none⟩ = some (.pointer (some ⟨g, 0, none⟩)) ∧ w'.cell? ⟨gw, 3, none⟩ = some (.pointer (some ⟨gx, 0, none⟩))) (first | go_keep | assumption) (first | (go_at_call 19; refine (HB.out _ (Only.trans hoa (by repeat (first | exact Only.refl _ _ | apply Only.drew | apply Only.drewN)))).mono ?_; rintro e w2 ⟨rfl, hcc, hn2⟩; have HN2 := hide hn2; clear hn2) | (go_at_call 20; refine (HN2.out _ (by repeat (first | exact Only.refl _ _ | apply Only.drew | apply Only.drewN))).mono ?_; rintro e w3 ⟨rfl, hcc, hd⟩; have HD := hide hd; clear hd))
  all_goals
    go_wp2
    go_ret
    exact ⟨by simp, HD.out⟩
set_option maxRecDepth 100000 in
set_option maxHeartbeats 1000000 in
theorem does_abort_none (h : Bl w0 w gw gd g gr gx N a sz S p K F G) (hS : S = none) (n b m : Int) : Calls Try.prog 5 #[.pointer (some ⟨gw, 0, none⟩), op16V 4 n b m] w fun e w' => e = .returned (.bool true) ∧ DidBl w0 w' gw gd N a sz S p K := by
  have HC := hide (fun W (ho : Only [] w W) => (h.quiet ho).cells)
  have HB := hide (fun W (ho : Only [] w W) => (show Calls Try.prog 21 #[.pointer (some ⟨g, 0, none⟩)] W (fun e w1 => e = .returned (.int .i64 4) ∧ (w1.cell? ⟨gw, 1, none⟩ = some (.pointer (some ⟨g, 0, none⟩)) ∧ w1.cell? ⟨gw, 3, none⟩ = some (.pointer (some ⟨gx, 0, none⟩))) ∧ ∀ W2, Only [] w1 W2 → Calls Try.prog 20 #[.pointer (some ⟨gx, 0, none⟩), .bool true] W2 (fun e w2 => e = .returned (.int .i64 4) ∧ (w2.cell? ⟨gw, 1, none⟩ = some (.pointer (some ⟨g, 0, none⟩)) ∧ w2.cell? ⟨gw, 3, none⟩ = some (.pointer (some ⟨gx, 0, none⟩))) ∧ DidBl w0 w2 gw gd N a sz S p K)) from by
    have hq := h.quiet ho
    refine (lg_abort_none hq.lg hS).mono ?_
    rintro e w1 ⟨q1, rfl⟩
    refine ⟨q1, hq.cells, fun W2 ho2 => ?_⟩
    refine (xlp_end_none (hq.quiet ho2).xl true hS).mono ?_
    rintro e w2 ⟨q2, o3⟩
    have hB := hq.quiet (ho2.trans o3)
    exact ⟨q2, hB.cells, g, gr, gx, F, G, hB⟩))
  clear h
  unfold op16V
  go_enter Try.func5, Try.ntmps5
  obtain ⟨c1, c3⟩ := HC.out (w.alloc (.cells #[.int .i64 4, .int .i64 n, .int .u8 b, .int .i64 m] 27)) ((Only.refl _ _).alloc _)
  have hoa : Only [] w (w.alloc (.cells #[.int .i64 4, .int .i64 n, .int .u8 b, .int .i64 m] 27)) := (Only.refl _ _).alloc _
  go_wp2_with fail
  generalize w.alloc (.cells #[.int .i64 4, .int .i64 n, .int .u8 b, .int .i64 m] 27) = W1 at *
  go_region_held3 (fun w' => w'.cell? ⟨gw, 1, none⟩ = some (.pointer (some ⟨g, 0, none⟩)) ∧ w'.cell? ⟨gw, 3, none⟩ = some (.pointer (some ⟨gx, 0, none⟩))) (first | go_keep | assumption) (first | (go_at_call 21; refine (HB.out _ (Only.trans hoa (by repeat (first | exact Only.refl _ _ | apply Only.drew | apply Only.drewN)))).mono ?_; rintro e w2 ⟨rfl, hcc, hn2⟩; have HN2 := hide hn2; clear hn2) | (go_at_call 20; refine (HN2.out _ (by repeat (first | exact Only.refl _ _ | apply Only.drew | apply Only.drewN))).mono ?_; rintro e w3 ⟨rfl, hcc, hd⟩; have HD := hide hd; clear hd))
  all_goals
    go_wp2
    go_ret
    exact ⟨by simp, HD.out⟩
end
end Go.Proofs.Ytokdpldmoflnkaa
/-
  LogDoes: does, of the kinds Abort, Start.
-/
namespace Go.Proofs.Ytokdpldmoflnkaa
open Go.ChangeShapes Go.WideShapes Go.ChangeAt Go.RowKit Go.Maps
set_option linter.unusedVariables false
set_option linter.unusedSimpArgs false
section
variable {w0 w w' w1 w2 : World} {gw gd g gr gx N a sz K K' : Nat} {S S' : Option PG} {p p' : LP} {F G F' G' : List Nat}
theorem left_idle {p : LP} (h : p.st = 0) : leftP p = 0 := by unfold leftP; rw [h]; simp [tailC]
theorem startP_eq {S : Option PG} {p : LP} (h : startB p.G S p.st = false) : startP S p = p := by unfold startP; rw [if_neg (by rw [h]; simp)]
/-- What Start leaves keeps what is always so. -/
theorem Bl.start (h : Bl w0 w gw gd g gr gx N a sz S p K F G) : (IdleP (startP S p) ∨ RunsP (startP S p)) ∧ (S ≠ none → (startP S p).st = 0) ∧ HdrOk N a sz (startP S p).plat (startP S p).l := by
  obtain ⟨s1, s2, s3, s4, s5, s6⟩ := startP_same S p
  refine ⟨start_runs h.run, ?_⟩
  rw [s4, s5]
  cases hb : startB p.G S p.st with
  | false =>
    rw [startP_eq hb]
    exact ⟨h.sav, h.hdr⟩
  | true =>
    have hb0 := hb
    unfold startB at hb
    simp at hb
    obtain ⟨⟨b1, b2⟩, b3⟩ := hb
    exact ⟨fun e => absurd b2 e, h.hdr⟩
set_option maxRecDepth 100000 in
set_option maxHeartbeats 1000000 in
theorem does_abort (h : Bl w0 w gw gd g gr gx N a sz S p K F G) {G0 : PG} (hS : S = some G0) (n b m : Int) : Calls Try.prog 5 #[.pointer (some ⟨gw, 0, none⟩), op16V 4 n b m] w fun e w' => e = .returned (.bool true) ∧ DidBl w0 w' gw gd N a sz none { p with G := G0 } K := by
  have HC := hide (fun W (ho : Only [] w W) => (h.quiet ho).cells)
  have HB := hide (fun W (ho : Only [] w W) => (show Calls Try.prog 21 #[.pointer (some ⟨g, 0, none⟩)] W (fun e w1 => e = .returned (.int .i64 0) ∧ (w1.cell? ⟨gw, 1, none⟩ = some (.pointer (some ⟨g, 0, none⟩)) ∧ w1.cell? ⟨gw, 3, none⟩ = some (.pointer (some ⟨gx, 0, none⟩))) ∧ ∀ W2, Only [] w1 W2 → Calls Try.prog 20 #[.pointer (some ⟨gx, 0, none⟩), .bool true] W2 (fun e w2 => e = .returned (.int .i64 0) ∧ (w2.cell? ⟨gw, 1, none⟩ = some (.pointer (some ⟨g, 0, none⟩)) ∧ w2.cell? ⟨gw, 3, none⟩ = some (.pointer (some ⟨gx, 0, none⟩))) ∧ DidBl w0 w2 gw gd N a sz none { p with G := G0 } K)) from by
    have hq := h.quiet ho
    have h0 := hq.sav (by rw [hS]; simp)
    refine (lg_abort hq.lg hS).mono ?_
    rintro e w1 ⟨q1, F1, t1, l1⟩
    have hw1 := hq.wd.only t1.1 hq.gwF.1
    refine ⟨q1, ⟨hw1.cell 1, hw1.cell 3⟩, fun W2 ho2 => ?_⟩
    have t2 := turned_quiet t1 ho2
    refine ((show Calls Try.prog 20 #[.pointer (some ⟨gx, 0, none⟩), .bool true] W2 (fun e w2 => e = .returned (.int .i64 0) ∧ DidXP W2 w2 gx gr N a sz none { p with G := G0 } K G) from xlp_end (hq.xl1 t2) true hS h0)).mono ?_
    rintro e w2 ⟨q2, G2, t3, x3⟩
    have hB := hq.both t2 (show LgP W2 g gd N a sz none { p with G := G0 } K F1 from l1.quiet ho2) t3 x3 (by rcases h.run with e | e; exact .inl e; exact absurd h0 (by have := e.1; omega)) (fun e => absurd rfl e) h.hdr
    exact ⟨q2, hB.cells, g, gr, gx, F1, G2, hB⟩))
  clear h
  unfold op16V
  go_enter Try.func5, Try.ntmps5
  obtain ⟨c1, c3⟩ := HC.out (w.alloc (.cells #[.int .i64 4, .int .i64 n, .int .u8 b, .int .i64 m] 27)) ((Only.refl _ _).alloc _)
  have hoa : Only [] w (w.alloc (.cells #[.int .i64 4, .int .i64 n, .int .u8 b, .int .i64 m] 27)) := (Only.refl _ _).alloc _
  go_wp2_with fail
  generalize w.alloc (.cells #[.int .i64 4, .int .i64 n, .int .u8 b, .int .i64 m] 27) = W1 at *
  go_region_held3 (fun w' => w'.cell? ⟨gw, 1, none⟩ = some (.pointer (some ⟨g, 0, none⟩)) ∧ w'.cell? ⟨gw, 3, none⟩ = some (.pointer (some ⟨gx, 0, none⟩))) (first | go_keep | assumption) (first | (go_at_call 21; refine (HB.out _ (Only.trans hoa (by repeat (first | exact Only.refl _ _ | apply Only.drew | apply Only.drewN)))).mono ?_; rintro e w2 ⟨rfl, hcc, hn2⟩; have HN2 := hide hn2; clear hn2) | (go_at_call 20; refine (HN2.out _ (by repeat (first | exact Only.refl _ _ | apply Only.drew | apply Only.drewN))).mono ?_; rintro e w3 ⟨rfl, hcc, hd⟩; have HD := hide hd; clear hd))
  all_goals
    go_wp2
    go_ret
    exact ⟨by simp, HD.out⟩
set_option maxRecDepth 100000 in
set_option maxHeartbeats 1000000 in
theorem does_start (h : Bl w0 w gw gd g gr gx N a sz S p K F G)  (n b m : Int) : Calls Try.prog 5 #[.pointer (some ⟨gw, 0, none⟩), op16V 5 n b m] w fun e w' => e = .returned (.bool true) ∧ DidBl w0 w' gw gd N a sz S (startP S p) K := by
  have HC := hide (fun W (ho : Only [] w W) => (h.quiet ho).cells)
  have HB := hide (fun W (ho : Only [] w W) => (show Calls Try.prog 22 #[.pointer (some ⟨g, 0, none⟩)] W (fun e w1 => e = .returned (.bool (startB p.G S p.st)) ∧ (w1.cell? ⟨gw, 1, none⟩ = some (.pointer (some ⟨g, 0, none⟩)) ∧ w1.cell? ⟨gw, 3, none⟩ = some (.pointer (some ⟨gx, 0, none⟩))) ∧ ∀ W2, Only [] w1 W2 → Calls Try.prog 23 #[.pointer (some ⟨gx, 0, none⟩)] W2 (fun e w2 => e = .returned (.bool (startB p.G S p.st)) ∧ (w2.cell? ⟨gw, 1, none⟩ = some (.pointer (some ⟨g, 0, none⟩)) ∧ w2.cell? ⟨gw, 3, none⟩ = some (.pointer (some ⟨gx, 0, none⟩))) ∧ DidBl w0 w2 gw gd N a sz S (startP S p) K)) from by
    have hq := h.quiet ho
    obtain ⟨r1, r2, r5⟩ := hq.start
    refine (lg_start hq.lg).mono ?_
    rintro e w1 ⟨q1, F1, t1, l1⟩
    have hw1 := hq.wd.only t1.1 hq.gwF.1
    refine ⟨q1, ⟨hw1.cell 1, hw1.cell 3⟩, fun W2 ho2 => ?_⟩
    have t2 := turned_quiet t1 ho2
    refine (xlp_start (hq.xl1 t2) h.run).mono ?_
    rintro e w2 ⟨q2, G2, t3, x3⟩
    have hB := hq.both t2 (show LgP W2 g gd N a sz S (startP S p) K F1 from by obtain ⟨s1, s2, s3, s4, s5, s6⟩ := startP_same S p; unfold LgP; rw [s1, s2, s3, s4, s5, s6]; exact l1.quiet ho2) t3 x3 r1 r2 r5
    exact ⟨q2, hB.cells, g, gr, gx, F1, G2, hB⟩))
  clear h
  unfold op16V
  go_enter Try.func5, Try.ntmps5
  obtain ⟨c1, c3⟩ := HC.out (w.alloc (.cells #[.int .i64 5, .int .i64 n, .int .u8 b, .int .i64 m] 27)) ((Only.refl _ _).alloc _)
  have hoa : Only [] w (w.alloc (.cells #[.int .i64 5, .int .i64 n, .int .u8 b, .int .i64 m] 27)) := (Only.refl _ _).alloc _
  go_wp2_with fail
  generalize w.alloc (.cells #[.int .i64 5, .int .i64 n, .int .u8 b, .int .i64 m] 27) = W1 at *
  go_region_held3 (fun w' => w'.cell? ⟨gw, 1, none⟩ = some (.pointer (some ⟨g, 0, none⟩)) ∧ w'.cell? ⟨gw, 3, none⟩ = some (.pointer (some ⟨gx, 0, none⟩))) (first | go_keep | assumption) (first | (go_at_call 22; refine (HB.out _ (Only.trans hoa (by repeat (first | exact Only.refl _ _ | apply Only.drew | apply Only.drewN)))).mono ?_; rintro e w2 ⟨rfl, hcc, hn2⟩; have HN2 := hide hn2; clear hn2) | (go_at_call 23; refine (HN2.out _ (by repeat (first | exact Only.refl _ _ | apply Only.drew | apply Only.drewN))).mono ?_; rintro e w3 ⟨rfl, hcc, hd⟩; have HD := hide hd; clear hd))
  all_goals
    go_wp2
    go_ret
    exact ⟨by simp, HD.out⟩
end
end Go.Proofs.Ytokdpldmoflnkaa
/-
  LogDoes: does, of the kind Step while a commit runs.
-/
namespace Go.Proofs.Ytokdpldmoflnkaa
open Go.ChangeShapes Go.WideShapes Go.ChangeAt Go.RowKit Go.Maps
set_option linter.unusedVariables false
set_option linter.unusedSimpArgs false
section
variable {w0 w w' w1 w2 : World} {gw gd g gr gx N a sz K K' : Nat} {S S' : Option PG} {p p' : LP} {F G F' G' : List Nat}
/-- What a step leaves keeps what is always so. -/
theorem Bl.step (h : Bl w0 w gw gd g gr gx N a sz S p K F G) (hr : RunsP p) : (IdleP (stepP a p) ∨ RunsP (stepP a p)) ∧ (S ≠ none → (stepP a p).st = 0) ∧ HdrOk N a sz (stepP a p).plat (stepP a p).l := by
  obtain ⟨r1, r2⟩ := step_runs a hr
  refine ⟨r1, fun e => ?_, hdr_step h.hdr h.lg.sec h.lg.okp h.lg.gen_ (by have := h.lg.rng; omega) hr⟩
  have := h.sav e
  have := hr.1
  omega
set_option maxRecDepth 100000 in
set_option maxHeartbeats 1000000 in
theorem does_step (h : Bl w0 w gw gd g gr gx N a sz S p K F G) (hr : RunsP p) (hk : K < 4611686018427000000) (hl5 : p.l.length < 4398046511000) (n b m : Int) : Calls Try.prog 5 #[.pointer (some ⟨gw, 0, none⟩), op16V 6 n b m] w fun e w' => e = .returned (.bool true) ∧ DidBl w0 w' gw gd N a sz S (stepP a p) (K + 1) := by
  have HC := hide (fun W (ho : Only [] w W) => (h.quiet ho).cells)
  have HB := hide (fun W (ho : Only [] w W) => (show Calls Try.prog 24 #[.pointer (some ⟨g, 0, none⟩)] W (fun e w1 => e = .returned (.tuple #[.bool (!decide (((stepP a p).st : Int) = 0)), .int .i64 0]) ∧ (w1.cell? ⟨gw, 1, none⟩ = some (.pointer (some ⟨g, 0, none⟩)) ∧ w1.cell? ⟨gw, 3, none⟩ = some (.pointer (some ⟨gx, 0, none⟩))) ∧ ∀ W2, Only [] w1 W2 → Calls Try.prog 25 #[.pointer (some ⟨gx, 0, none⟩)] W2 (fun e w2 => e = .returned (.tuple #[.bool (!decide (((stepP a p).st : Int) = 0)), .int .i64 0]) ∧ DidBl w0 w2 gw gd N a sz S (stepP a p) (K + 1))) from by
    have hq := h.quiet ho
    obtain ⟨r1, r2, r5⟩ := hq.step hr
    refine (lg_step hq.lg hr (by omega) hl5).mono ?_
    rintro e w1 ⟨q1, F1, t1, l1⟩
    have hw1 := hq.wd.only t1.1 hq.gwF.1
    refine ⟨q1, ⟨hw1.cell 1, hw1.cell 3⟩, fun W2 ho2 => ?_⟩
    have t2 := turned_quiet t1 ho2
    refine (xl_step (hq.xl1 t2) hr hk hl5).mono ?_
    rintro e w2 ⟨q2, G2, t3, x3⟩
    have hB := hq.both t2 (show LgP W2 g gd N a sz S (stepP a p) (K + 1) F1 from l1.quiet ho2) t3 x3 r1 r2 r5
    exact ⟨q2, g, gr, gx, F1, G2, hB⟩))
  clear h hr
  generalize (!decide (((stepP a p).st : Int) = 0)) = rb at *
  unfold op16V
  go_enter Try.func5, Try.ntmps5
  obtain ⟨c1, c3⟩ := HC.out (w.alloc (.cells #[.int .i64 6, .int .i64 n, .int .u8 b, .int .i64 m] 27)) ((Only.refl _ _).alloc _)
  have hoa : Only [] w (w.alloc (.cells #[.int .i64 6, .int .i64 n, .int .u8 b, .int .i64 m] 27)) := (Only.refl _ _).alloc _
  go_wp2_with (first | (go_at_call 24; refine (HB.out _ (Only.trans hoa (by repeat (first | exact Only.refl _ _ | apply Only.drew | apply Only.drewN)))).mono ?_; rintro e w2 ⟨rfl, ⟨hc1, hc3⟩, hn2⟩; have HN2 := hide hn2; clear hn2) | (go_at_call 25; refine (HN2.out _ (by repeat (first | exact Only.refl _ _ | apply Only.drew | apply Only.drewN))).mono ?_; rintro e w3 ⟨rfl, hd⟩; have HD := hide hd; clear hd))
  go_ret
  exact ⟨by simp, HD.out⟩
end
end Go.Proofs.Ytokdpldmoflnkaa
