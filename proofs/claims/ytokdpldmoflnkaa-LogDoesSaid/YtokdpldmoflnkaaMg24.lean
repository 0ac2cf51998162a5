/-
  The document's log: Step, the header without numbers.
-/
import Derived.Test.YtokdpldmoflnkaaMg23
import Derived.StillTailTactics
namespace Go.Proofs.Ytokdpldmoflnkaa
open Go.ChangeShapes Go.WideShapes Go.ChangeAt Go.RowKit
set_option linter.unusedVariables false
set_option linter.unusedSimpArgs false
section
variable {w w' w1 w2 : World} {gx gr N a sz : Nat} {gen : Int} {vG : Value} {ws : List WR} {vS : Value} {ss : List WR} {op runs : Bool} {nx : Int} {plat plat' : List Int} {l l' : List (Nat × List Int)} {k k' : Nat} {GD GD' F T : List Nat} {G : PG} {S : Option PG}
set_option maxRecDepth 100000 in
set_option maxHeartbeats 1000000 in
theorem xstep_empty {nx : Int} (h : XlI w gx gr N a sz gen vG ws vS ss op true nx plat l k GD) (h4 : ∀ q, footX gx vG ws vS ss op GD q → q ∈ F) (hS : (if op = true then some (ss.map pairX) else none) = S) (hn : nx = 2 * (ws.length : Int) + 4) (hk : k < 4611686018427000000) (hlen : l.length < 4398046511000) :
    Calls Try.prog 25 #[.pointer (some ⟨gx, 0, none⟩)] w fun e w' => e = .returned (.tuple #[.bool true, .int .i64 0]) ∧ DidXl w w' gx gr N a sz gen (ws.map pairX) S true (nx + 1) plat (l ++ [(a, hdrF gen [])]) (k + 1) F := by
  have hrng := h.rng
  have hl := h.len
  have hbig := h.big
  have hgen := h.gen_
  obtain ⟨A, cap, rfl, -⟩ := h.grp.slice
  have c7 := h.c7
  have c8 := h.c8
  have c4 := h.c4
  have HH := hide h
  have H4 := hide h4
  have HS := hide hS
  have g0 : decide (nx < (ws.length : Int)) = false := by exact decide_eq_false (by omega)
  have g1 : (nx == (ws.length : Int)) = false := by simp only [beq_eq_false_iff_ne]; omega
  have g2 : (nx == (ws.length : Int) + 2) = false := by simp only [beq_eq_false_iff_ne]; omega
  have g3 : (nx == 2 * (ws.length : Int) + 3) = false := by simp only [beq_eq_false_iff_ne]; omega
  have g4 : (nx == (ws.length : Int) + 1) = false := by simp only [beq_eq_false_iff_ne]; omega
  have g5 : decide (nx < 2 * (ws.length : Int) + 3) = false := by exact decide_eq_false (by omega)
  have g6 : (nx == 2 * (ws.length : Int) + 4) = true := by subst hn; simp
  have hwn : IntKind.i64.wrap (nx + 1) = nx + 1 := by rw [IntKind.wrap_i64]; omega
  have hw1 : IntKind.i64.wrap ((ws.length : Int) + 1) = (ws.length : Int) + 1 := by rw [IntKind.wrap_i64]; omega
  have hw2 : IntKind.i64.wrap ((ws.length : Int) + 2) = (ws.length : Int) + 2 := by rw [IntKind.wrap_i64]; omega
  have hw3 : IntKind.i64.wrap (2 * (ws.length : Int)) = 2 * (ws.length : Int) := by rw [IntKind.wrap_i64]; omega
  have hw4 : IntKind.i64.wrap (2 * (ws.length : Int) + 3) = 2 * (ws.length : Int) + 3 := by rw [IntKind.wrap_i64]; omega
  have hw5 : IntKind.i64.wrap (2 * (ws.length : Int) + 4) = 2 * (ws.length : Int) + 4 := by rw [IntKind.wrap_i64]; omega
  clear h h4 hS hn
  go_enter Try.func25, Try.ntmps25
  go_wp2_with fail
  go_quiet (fail)
  have HO := hide (show Only [] w (w.drewN nq) from (Only.refl _ _).drewN nq)
  have HI := hide (HH.out.quiet HO.out)
  clear HH c7 c8 c4
  generalize w.drewN nq = w0 at *
  have h := HI.out
  have o2 : Only [gx] w0 (w0.setCell ⟨gx, 8, none⟩ (.int .i64 (nx + 1))) := (Only.refl _ _).setCell (p := ⟨gx, 8, none⟩) _ (by simp)
  have hb2 := h.blk.set_ 8 (.int .i64 (nx + 1))
  have hI2 := h.restr (op' := op) (runs' := true) (nx' := nx + 1) (gen' := gen) o2 (fun e => e) hgen hb2
  have c8 := h.c8
  have f8 := h.fr 8
  have c3 := h.c3
  have HO2 := hide o2
  have HI2 := hide hI2
  clear h hb2 o2 hI2
  go_wp2_with fail
  clear c8 f8 c3
  generalize w0.setCell ⟨gx, 8, none⟩ (.int .i64 (nx + 1)) = W1 at *
  have c3 := HI2.out.c3
  go_wp2_with (go_at_call 46; refine (xheader_is (w := _) (v := .slice none 0 0) (ns := []) (KRow.nil _ _ _ _) gen hgen.1 hgen.2 (by simp) (by simp)).mono ?_; rintro e w6 ⟨d6, rfl, hd6, hb6, ho6⟩; have HB6 := hide hb6; have kk : Only [] W1 w6 := Only.trans (by repeat (first | exact Only.refl _ _ | apply Only.drew | apply Only.drewN)) ho6; have HD6 := hide (show W1.heap.size ≤ d6 by first | exact hd6 | (simp at hd6; omega)); clear hd6 hb6 ho6; have c0 := (HI2.out.quiet kk).c0; have c1 := (HI2.out.quiet kk).c1)
  have hI6 := HI2.out.quiet kk
  have hdG : d6 ∉ GD := fun hm => by have := HI2.out.xd.lt d6 hm; have := HD6.out; omega
  have HWR := hide (fun W (hW : Only [] w6 W) => (show Calls Try.prog 47 #[.pointer (some ⟨gr, 0, none⟩), .int .i64 a, .slice (some ⟨d6, 0, none⟩) 512 512] W (fun e w' => e = .returned (.int .i64 0) ∧ (DidXl w w' gx gr N a sz gen (ws.map pairX) S true (nx + 1) plat (l ++ [(a, hdrF gen [])]) (k + 1) F) ∧ w'.cell? ⟨gx, 7, none⟩ = some (.bool true)) from by
    have hWR := xd_write (hI6.xd.quiet hW) a (some ⟨d6, 0, none⟩) 512 (hdrF gen []) (by omega) (u8_512 (HB6.out.only hW (by simp)) (hdrF_length _ _ (by simp))) (u8_hdrF _ _) (fun b hb => by cases hb; exact hdG) hk hlen
    refine hWR.mono ?_
    rintro e w' ⟨q1, G', q2, q3⟩
    have hbW := (hI6.quiet hW).blk
    have hD := HI.out.done H4.out hgen (HO2.out.trans ((kk.trans hW).mono (by simp))) hbW q2 q3
    rw [HS.out] at hD
    exact ⟨q1, hD.base HO.out, (hbW.only q2.1 hI6.dx).cell 7⟩))
  clear hI6 hdG
  go_wp2_with fail
  go_still_tail 9, (by kernel_rfl)
  change wpList _ _ _ _ _ w6.drew
  go_wp2_with (go_at_call 47; refine (HWR.out _ (by repeat (first | exact Only.refl _ _ | apply Only.drew | apply Only.drewN))).mono ?_; rintro e w3 ⟨rfl, hd, c7'⟩; have HD := hide hd; clear hd)
  go_ret2
  exact ⟨rfl, HD.out⟩
end
end Go.Proofs.Ytokdpldmoflnkaa
/-
  The document's log beside the program's plain state LP: Step whole.
-/
namespace Go.Proofs.Ytokdpldmoflnkaa
open Go.ChangeShapes Go.WideShapes Go.ChangeAt Go.RowKit
set_option linter.unusedVariables false
set_option linter.unusedSimpArgs false
/-- The document's log tells the plain state p. -/
def XlP (w : World) (gx gr N a sz : Nat) (S : Option PG) (p : LP) (k : Nat) (F : List Nat) : Prop :=
  ∃ nx : Int, Xl w gx gr N a sz p.gen p.G S (!decide (p.st = 0)) nx p.plat p.l k F ∧ (p.st ≠ 0 → nx + (leftP p : Int) = 6 + 2 * (p.G.length : Int))
def DidXP (w w' : World) (gx gr N a sz : Nat) (S : Option PG) (p : LP) (k : Nat) (F : List Nat) : Prop := ∃ F', Turned w w' F F' ∧ XlP w' gx gr N a sz S p k F'
section
variable {w w' : World} {gx gr N a sz k : Nat} {F : List Nat} {S : Option PG} {p : LP} {nx : Int}
theorem stepP_st (a : Nat) {p : LP} (hr : RunsP p) (h8 : p.st ≠ 8) : (stepP a p).st ≠ 0 ∧ (stepP a p).G = p.G := by
  obtain ⟨h1, h2, h3, h4, h5⟩ := hr
  obtain ⟨d1, d2, d3⟩ := doP_same a p
  unfold stepP nextP
  rw [d1, d2, d3]
  split
  · exact ⟨by show p.st ≠ 0; omega, rfl⟩
  · exact ⟨by show p.st + 1 ≠ 0; omega, rfl⟩
theorem stepX_fin (hr : RunsP p) (h8 : p.st ≠ 8) (hnx : nx + (leftP p : Int) = 6 + 2 * (p.G.length : Int)) (hd : DidXl w w' gx gr N a sz (doP a p).gen p.G S true (nx + 1) (doP a p).plat (doP a p).l (k + 1) F) : DidXP w w' gx gr N a sz S (stepP a p) (k + 1) F := by
  obtain ⟨F', t, x⟩ := hd
  obtain ⟨s1, s2⟩ := stepP_st a hr h8
  obtain ⟨n1, n2, n3⟩ := nextP_same (doP a p)
  have hlf := (step_runs a hr).2
  refine ⟨F', t, nx + 1, ?_, fun _ => ?_⟩
  · have e : (!decide ((stepP a p).st = 0)) = true := by simp [s1]
    rw [e, s2, show (stepP a p).gen = (doP a p).gen from n1, show (stepP a p).plat = (doP a p).plat from n2, show (stepP a p).l = (doP a p).l from n3]
    exact x
  · rw [s2]
    omega
theorem xl_step (h : XlP w gx gr N a sz S p k F) (hr : RunsP p) (hk : k < 4611686018427000000) (hlen : p.l.length < 4398046511000) :
    Calls Try.prog 25 #[.pointer (some ⟨gx, 0, none⟩)] w fun e w' => e = .returned (.tuple #[.bool (!decide (((stepP a p).st : Int) = 0)), .int .i64 0]) ∧ DidXP w w' gx gr N a sz S (stepP a p) (k + 1) F := by
  obtain ⟨nx, ⟨vG, ws, vS, ss, op, GD, hI, hG, hS, h4, h5⟩, hnx⟩ := h
  have hr0 := hr
  obtain ⟨h1, h2, h3, h4', h5'⟩ := hr
  have hnx := hnx (by omega)
  have hst0 : (!decide (p.st = 0)) = true := by simp; omega
  rw [hst0] at hI
  have hGl : p.G.length = ws.length := by rw [← hG]; simp
  have fin : p.st ≠ 8 → ∀ e w', (e = Ending.returned (.tuple #[.bool true, .int .i64 0]) ∧ DidXl w w' gx gr N a sz (doP a p).gen (ws.map pairX) S true (nx + 1) (doP a p).plat (doP a p).l (k + 1) F) → (e = .returned (.tuple #[.bool (!decide (((stepP a p).st : Int) = 0)), .int .i64 0]) ∧ DidXP w w' gx gr N a sz S (stepP a p) (k + 1) F) := fun h8 e w' ⟨q1, q2⟩ => by
    rw [hG] at q2
    refine ⟨?_, stepX_fin hr0 h8 hnx q2⟩
    have := (stepP_st a hr0 h8).1
    rw [q1, show (!decide (((stepP a p).st : Int) = 0)) = true by simp; omega]
  have hst : p.st = 1 ∨ p.st = 2 ∨ p.st = 3 ∨ p.st = 4 ∨ p.st = 5 ∨ p.st = 6 ∨ p.st = 7 ∨ p.st = 8 := by omega
  have hL : leftP p = tailC p.G.length p.st - p.nx := rfl
  have gd : ∀ i x, ws[i]? = some x → p.G.getD i (0, []) = pairX x := fun i x hx => by rw [← hG]; simp [List.getD, hx]
  rcases hst with e | e | e | e | e | e | e | e
  · have hE : eachP p = true := by simp [eachP, e]
    have hi := h3 hE
    obtain ⟨x, hx⟩ : ∃ x, ws[p.nx]? = some x := ⟨_, List.getElem?_eq_getElem (by omega)⟩
    rw [hL, e] at hnx
    simp only [tailC] at hnx
    obtain rfl : nx = (p.nx : Int) := by omega
    refine (xstep_log hI h4 hS hx hk hlen).mono fun e1 w1 q => fin (by omega) e1 w1 ?_
    rw [show doP a p = { p with l := p.l ++ [(a + 1 + p.nx, (p.G.getD p.nx (0, [])).2)] } from by unfold doP; rw [e]; rfl, gd _ _ hx]
    exact q
  · have hz := h4' (by simp [eachP, e])
    rw [hL, e, hz] at hnx
    simp only [tailC] at hnx
    refine (xstep_flush1 hI h4 hS (by omega) hk).mono fun e1 w1 q => fin (by omega) e1 w1 ?_
    rw [show doP a p = { p with plat := layAll p.plat p.l, l := [] } from by unfold doP; rw [e]; rfl]
    exact q
  · have hz := h4' (by simp [eachP, e])
    rw [hL, e, hz] at hnx
    simp only [tailC] at hnx
    refine (xstep_head hI h4 hS (by omega) hk hlen).mono fun e1 w1 q => fin (by omega) e1 w1 ?_
    rw [show doP a p = { p with gen := (p.gen + 1) % 18446744073709551616, l := p.l ++ [(a, hdrF ((p.gen + 1) % 18446744073709551616) (p.G.map (·.1)))] } from by unfold doP; rw [e]; rfl]
    rw [show p.G.map (·.1) = secsF ws from by rw [← hG]; exact secsF_pair ws]
    exact q
  · have hz := h4' (by simp [eachP, e])
    rw [hL, e, hz] at hnx
    simp only [tailC] at hnx
    refine (xstep_flush2 hI h4 hS (by omega) hk).mono fun e1 w1 q => fin (by omega) e1 w1 ?_
    rw [show doP a p = { p with plat := layAll p.plat p.l, l := [] } from by unfold doP; rw [e]; rfl]
    exact q
  · have hE : eachP p = true := by simp [eachP, e]
    have hi := h3 hE
    obtain ⟨x, hx⟩ : ∃ x, ws[p.nx]? = some x := ⟨_, List.getElem?_eq_getElem (by omega)⟩
    rw [hL, e] at hnx
    simp only [tailC] at hnx
    refine (xstep_place hI h4 hS hx (by omega) hk hlen).mono fun e1 w1 q => fin (by omega) e1 w1 ?_
    rw [show doP a p = { p with l := p.l ++ [((p.G.getD p.nx (0, [])).1.toNat, (p.G.getD p.nx (0, [])).2)] } from by unfold doP; rw [e]; rfl, gd _ _ hx]
    exact q
  · have hz := h4' (by simp [eachP, e])
    rw [hL, e, hz] at hnx
    simp only [tailC] at hnx
    refine (xstep_flush3 hI h4 hS (by omega) hk).mono fun e1 w1 q => fin (by omega) e1 w1 ?_
    rw [show doP a p = { p with plat := layAll p.plat p.l, l := [] } from by unfold doP; rw [e]; rfl]
    exact q
  · have hz := h4' (by simp [eachP, e])
    rw [hL, e, hz] at hnx
    simp only [tailC] at hnx
    refine (xstep_empty hI h4 hS (by omega) hk hlen).mono fun e1 w1 q => fin (by omega) e1 w1 ?_
    rw [show doP a p = { p with l := p.l ++ [(a, hdrF p.gen [])] } from by unfold doP; rw [e]; rfl]
    exact q
  · have hz := h4' (by simp [eachP, e])
    rw [hL, e, hz] at hnx
    simp only [tailC] at hnx
    have hs : stepP a p = ⟨p.gen, [], 0, 0, layAll p.plat p.l, []⟩ := by
      unfold stepP
      rw [show doP a p = { p with plat := layAll p.plat p.l, l := [] } from by unfold doP; rw [e]; rfl]
      unfold nextP
      rw [if_neg (by simp [eachP, e]), if_pos e]
    refine (xstep_last hI h4 hS (by omega) hk).mono ?_
    rintro e1 w1 ⟨q1, F', q2, q3⟩
    rw [hs]
    exact ⟨q1, F', q2, nx + 1, q3, fun h => absurd rfl h⟩
end
end Go.Proofs.Ytokdpldmoflnkaa
/-
  The document's log beside LP: Start, Commit.
-/
namespace Go.Proofs.Ytokdpldmoflnkaa
open Go.ChangeShapes Go.WideShapes Go.ChangeAt Go.RowKit
set_option linter.unusedVariables false
set_option linter.unusedSimpArgs false
section
variable {w w' : World} {gx gr N a sz k : Nat} {F : List Nat} {S : Option PG} {p : LP} {nx : Int}
theorem XlP.quiet (h : XlP w gx gr N a sz S p k F) (ho : Only [] w w') : XlP w' gx gr N a sz S p k F := by
  obtain ⟨nx, h1, h2⟩ := h
  exact ⟨nx, h1.quiet ho, h2⟩
theorem XlP.cells (h : XlP w gx gr N a sz S p k F) : w.cell? ⟨gx, 6, none⟩ = some (.bool S.isSome) ∧ w.cell? ⟨gx, 7, none⟩ = some (.bool (!decide (p.st = 0))) := by
  obtain ⟨nx, ⟨vG, ws, vS, ss, op, GD, hI, hG, hS, h4, h5⟩, _⟩ := h
  have c6 := hI.c6
  have e : S.isSome = op := by rw [← hS]; cases op <;> simp
  rw [e]
  exact ⟨c6, hI.c7⟩
theorem xlp_start (h : XlP w gx gr N a sz S p k F) (hr : IdleP p ∨ RunsP p) : Calls Try.prog 23 #[.pointer (some ⟨gx, 0, none⟩)] w fun e w' => e = .returned (.bool (startB p.G S p.st)) ∧ DidXP w w' gx gr N a sz S (startP S p) k F := by
  obtain ⟨nx, hX, hnx⟩ := h
  cases hb : startB p.G S p.st with
  | true =>
    have hb0 := hb
    unfold startB at hb
    simp at hb
    obtain ⟨⟨b1, b2⟩, b3⟩ := hb
    have hi : IdleP p := by
      rcases hr with h | h
      · exact h
      · have := h.1; omega
    subst b2
    have hst : (!decide (p.st = 0)) = false := by simp [b1]
    rw [hst] at hX
    refine (xl_start_yes hX rfl rfl b3).mono ?_
    rintro e w' ⟨q1, F', q2, q3⟩
    refine ⟨q1, F', q2, 0, ?_, fun _ => ?_⟩
    · unfold startP
      rw [if_pos hb0]
      exact q3
    · unfold startP leftP
      rw [if_pos hb0]
      show (0 : Int) + ((tailC p.G.length 1 - p.nx : Nat) : Int) = 6 + 2 * (p.G.length : Int)
      rw [hi.2]
      simp only [tailC]
      omega
  | false =>
    have hs : startP S p = p := by unfold startP; rw [if_neg (by rw [hb]; simp)]
    rw [hs]
    refine (xl_start_no hX ?_).mono ?_
    · by_cases h0 : p.st = 0
      · right
        by_cases h1 : S = none
        · right
          subst h1
          unfold startB at hb
          simpa [h0] using hb
        · exact .inl h1
      · left; simp [h0]
    · rintro e w' ⟨q1, q2⟩
      exact ⟨q1, F, Turned.same (q2.mono (by simp)), nx, hX.quiet q2, hnx⟩
theorem xlp_commit_busy (h : XlP w gx gr N a sz S p k F) (hS : S ≠ none) : Calls Try.prog 27 #[.pointer (some ⟨gx, 0, none⟩)] w fun e w' => e = .returned (.tuple #[.int .i64 0, .int .i64 5]) ∧ Only [] w w' := by
  have c6 := h.cells.1
  rw [show S.isSome = true from by cases S with | none => exact absurd rfl hS | some x => rfl] at c6
  clear h
  go_enter Try.func27, Try.ntmps27
  go_wp2
  go_ret2
  exact ⟨rfl, by repeat (first | exact Only.refl _ _ | apply Only.drew | apply Only.drewN)⟩
set_option maxRecDepth 100000 in
set_option maxHeartbeats 1000000 in
theorem xlp_commit (h : XlP w gx gr N a sz none p k F) (hr : IdleP p ∨ RunsP p) (hk : k < 4611686018426000000) (hlen : p.l.length < 4398046000000) : Calls Try.prog 27 #[.pointer (some ⟨gx, 0, none⟩)] w fun e w' => e = .returned (.tuple #[.int .i64 (leftP (startP none p)), .int .i64 0]) ∧ DidXP w w' gx gr N a sz none (endP a (startP none p)) (k + leftP (startP none p)) F := by
  obtain ⟨c6, c7⟩ := h.cells
  have hlb : leftP (startP none p) ≤ 1000 := by
    have h1 := left_le (start_runs (S := none) hr)
    rw [(startP_same none p).2.1] at h1
    obtain ⟨_, ⟨vG, ws, vS, ss, op, GD, hI, hG, _⟩, _⟩ := h
    have e : p.G.length = ws.length := by rw [← hG]; simp
    have := hI.len
    have := hI.rng
    omega
  have HST := hide (fun W (ho : Only [] w W) => xlp_start (h.quiet ho) hr)
  have hr2 := start_runs (S := none) hr
  have hl2 : (startP none p).l = p.l := (startP_same none p).2.2.2.2.1
  have HH := hide h
  by_cases h0 : p.st = 0
  · have hc : (!decide (p.st = 0)) = false := by simp [h0]
    rw [hc] at c7
    generalize startP none p = q at *
    clear h
    go_enter Try.func27, Try.ntmps27
    go_wp2_with (go_at_call 23; refine (HST.out _ (by repeat (first | exact Only.refl _ _ | apply Only.drew | apply Only.drewN))).mono ?_; rintro e w1 ⟨rfl, F1, t1, x1⟩; have HST1 := hide (show DidXP w w1 gx gr N a sz none q k F from ⟨F1, turned_trans (Turned.same (Only.mono (show Only [] _ _ from by repeat (first | exact Only.refl _ _ | apply Only.drew | apply Only.drewN)) (by simp))) t1, x1⟩); clear t1 x1)
    go_loopw [4] (fun iv wr => ∃ n : Nat, iv = .int .i64 n ∧ (IdleP (iterP a n q) ∨ RunsP (iterP a n q)) ∧ n + leftP (iterP a n q) = leftP q ∧ DidXP w wr gx gr N a sz none (iterP a n q) (k + n) F) (fun iv _ => leftP q - (intOf iv).toNat)
    case atStart => exact ⟨0, rfl, hr2, by simp [iterP], HST1.out⟩
    case round =>
      obtain ⟨n, rfl, hrn, hln, F', hT, hL⟩ := hrel
      have HT := hide hT
      have HL := hide hL
      have HLN := hide hln
      have hc7 := hL.cells.2
      have hnb : n ≤ 1000 := by omega
      have hnb2 : (n : Int) < 9223372036854775807 := by omega
      clear hT hL hln
      rcases hrn with hi | hrr
      · have hd : (!decide ((iterP a n q).st = 0)) = false := by rw [hi.1]; rfl
        rw [hd] at hc7
        have hz : leftP (iterP a n q) = 0 := by unfold leftP; rw [hi.1]; simp [tailC]
        have HN := hide (show n = leftP q by have := HLN.out; omega)
        clear hi hd hz
        go_wp2
        go_ret2
        have e := HN.out
        refine ⟨by rw [← e]; rfl, F', HT.out, ?_⟩
        have := HL.out
        unfold endP
        rw [← e]
        exact this
      · have hd : (!decide ((iterP a n q).st = 0)) = true := by have := hrr.1; simp; omega
        rw [hd] at hc7
        have HS := hide (xl_step HL.out hrr (by omega) (by have := iterP_len a n q; rw [hl2] at this; omega))
        have HRS := hide (step_runs a hrr)
        have HPOS := hide (left_pos hrr)
        clear hrr hd
        go_wp2_with (go_at_call 25; refine HS.out.mono ?_; rintro e w1 ⟨rfl, F2, t2, l2⟩; have HT2 := hide t2; have HL2 := hide l2; clear t2 l2)
        go_roundw
        case rel =>
          refine ⟨n + 1, by go_num, ?_, ?_, F2, turned_trans HT.out HT2.out, ?_⟩
          · rw [iterP_succ]; exact HRS.out.1
          · rw [iterP_succ]; have := HRS.out.2; have := HLN.out; omega
          · rw [iterP_succ]; exact HL2.out
        case measure =>
          have := HLN.out
          have := HPOS.out
          simp [intOf]
          omega
  · have hc : (!decide (p.st = 0)) = true := by simp [h0]
    rw [hc] at c7
    have hs : startP none p = p := by unfold startP; rw [if_neg (by unfold startB; simp; omega)]
    have HST1 := hide (show DidXP w w gx gr N a sz none (startP none p) k F from by rw [hs]; exact ⟨F, Turned.same (Only.refl _ _), h⟩)
    generalize startP none p = q at *
    clear h
    go_enter Try.func27, Try.ntmps27
    go_wp2_with fail
    go_loopw [4] (fun iv wr => ∃ n : Nat, iv = .int .i64 n ∧ (IdleP (iterP a n q) ∨ RunsP (iterP a n q)) ∧ n + leftP (iterP a n q) = leftP q ∧ DidXP w wr gx gr N a sz none (iterP a n q) (k + n) F) (fun iv _ => leftP q - (intOf iv).toNat)
    case atStart => exact ⟨0, rfl, hr2, by simp [iterP], HST1.out⟩
    case round =>
      obtain ⟨n, rfl, hrn, hln, F', hT, hL⟩ := hrel
      have HT := hide hT
      have HL := hide hL
      have HLN := hide hln
      have hc7 := hL.cells.2
      have hnb : n ≤ 1000 := by omega
      have hnb2 : (n : Int) < 9223372036854775807 := by omega
      clear hT hL hln
      rcases hrn with hi | hrr
      · have hd : (!decide ((iterP a n q).st = 0)) = false := by rw [hi.1]; rfl
        rw [hd] at hc7
        have hz : leftP (iterP a n q) = 0 := by unfold leftP; rw [hi.1]; simp [tailC]
        have HN := hide (show n = leftP q by have := HLN.out; omega)
        clear hi hd hz
        go_wp2
        go_ret2
        have e := HN.out
        refine ⟨by rw [← e]; rfl, F', HT.out, ?_⟩
        have := HL.out
        unfold endP
        rw [← e]
        exact this
      · have hd : (!decide ((iterP a n q).st = 0)) = true := by have := hrr.1; simp; omega
        rw [hd] at hc7
        have HS := hide (xl_step HL.out hrr (by omega) (by have := iterP_len a n q; rw [hl2] at this; omega))
        have HRS := hide (step_runs a hrr)
        have HPOS := hide (left_pos hrr)
        clear hrr hd
        go_wp2_with (go_at_call 25; refine HS.out.mono ?_; rintro e w1 ⟨rfl, F2, t2, l2⟩; have HT2 := hide t2; have HL2 := hide l2; clear t2 l2)
        go_roundw
        case rel =>
          refine ⟨n + 1, by go_num, ?_, ?_, F2, turned_trans HT.out HT2.out, ?_⟩
          · rw [iterP_succ]; exact HRS.out.1
          · rw [iterP_succ]; have := HRS.out.2; have := HLN.out; omega
          · rw [iterP_succ]; exact HL2.out
        case measure =>
          have := HLN.out
          have := HPOS.out
          simp [intOf]
          omega
end
end Go.Proofs.Ytokdpldmoflnkaa
