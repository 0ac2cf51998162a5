/-
  The log (parapet/wlog): Step, run, Commit.
-/
import Derived.Test.YtokdpldmoflnkaaMg12
namespace Go.Proofs.Ytokdpldmoflnkaa
open Go.ChangeShapes Go.WideShapes Go.ChangeAt Go.RowKit Go.Maps
set_option linter.unusedVariables false
set_option linter.unusedSimpArgs false
theorem nextP_same (p : LP) : (nextP p).gen = p.gen ∧ (nextP p).plat = p.plat ∧ (nextP p).l = p.l := by
  unfold nextP
  split
  · exact ⟨rfl, rfl, rfl⟩
  · split <;> exact ⟨rfl, rfl, rfl⟩
theorem doP_same (a : Nat) (p : LP) : (doP a p).st = p.st ∧ (doP a p).nx = p.nx ∧ (doP a p).G = p.G := by
  unfold doP
  split <;> exact ⟨rfl, rfl, rfl⟩
/-- How many steps are left. -/
def tailC (n : Nat) : Nat → Nat
  | 0 => 0
  | 1 => 6 + 2 * n
  | 2 => 6 + n
  | 3 => 5 + n
  | 4 => 4 + n
  | 5 => 3 + n
  | 6 => 3
  | 7 => 2
  | _ => 1
def leftP (p : LP) : Nat := tailC p.G.length p.st - p.nx
def IdleP (p : LP) : Prop := p.st = 0 ∧ p.nx = 0
theorem step_runs (a : Nat) {p : LP} (h : RunsP p) : (IdleP (stepP a p) ∨ RunsP (stepP a p)) ∧ leftP (stepP a p) + 1 = leftP p := by
  obtain ⟨h1, h2, h3, h4, h5⟩ := h
  obtain ⟨d1, d2, d3⟩ := doP_same a p
  have he : eachP (doP a p) = eachP p := by unfold eachP; rw [d1]
  unfold stepP nextP
  rw [he, d1, d2, d3]
  obtain ⟨gen, G, st, nx, plat, l⟩ := p
  simp only at h1 h2 h3 h4 h5 ⊢
  by_cases hc : eachP ⟨gen, G, st, nx, plat, l⟩ = true ∧ nx + 1 ≠ G.length
  · rw [if_pos hc]
    have hlt := h3 hc.1
    have hst : st = 1 ∨ st = 5 := by have := hc.1; unfold eachP at this; simpa using this
    refine ⟨.inr ⟨by omega, by omega, fun _ => ?_, fun e => ?_, fun _ => by show 0 < G.length; omega⟩, ?_⟩
    · show nx + 1 < G.length; omega
    · unfold eachP at e; simp at e; omega
    · show tailC G.length st - (nx + 1) + 1 = tailC G.length st - nx
      rcases hst with rfl | rfl <;> (simp only [tailC, Nat.reduceAdd] <;> omega)
  · rw [if_neg hc]
    by_cases h8 : st = 8
    · rw [if_pos h8]
      have : nx = 0 := h4 (by unfold eachP; subst h8; rfl)
      subst h8; subst this
      exact ⟨.inl ⟨rfl, rfl⟩, rfl⟩
    · rw [if_neg h8]
      by_cases hst : st = 1 ∨ st = 5
      · have hE : eachP ⟨gen, G, st, nx, plat, l⟩ = true := by unfold eachP; simpa using hst
        have hn : nx + 1 = G.length := by
          by_cases e : nx + 1 = G.length
          · exact e
          · exact absurd ⟨hE, e⟩ hc
        refine ⟨.inr ⟨by show 1 ≤ st + 1; omega, by show st + 1 ≤ 8; omega, fun e => ?_, fun _ => rfl, fun _ => by show 0 < G.length; omega⟩, ?_⟩
        · unfold eachP at e; simp at e; omega
        · show tailC G.length (st + 1) - 0 + 1 = tailC G.length st - nx
          rcases hst with rfl | rfl <;> (simp only [tailC, Nat.reduceAdd] <;> omega)
      · have h0 : nx = 0 := h4 (by unfold eachP; simpa using hst)
        subst h0
        have h17 : st = 2 ∨ st = 3 ∨ st = 4 ∨ st = 6 ∨ st = 7 := by omega
        refine ⟨.inr ⟨by show 1 ≤ st + 1; omega, by show st + 1 ≤ 8; omega, fun e => ?_, fun _ => rfl, fun e => ?_⟩, ?_⟩
        · show 0 < G.length
          unfold eachP at e
          simp at e
          exact h5 (by omega)
        · have e : st + 1 ≤ 5 := e
          exact h5 (by omega)
        · show tailC G.length (st + 1) - 0 + 1 = tailC G.length st - 0
          rcases h17 with rfl | rfl | rfl | rfl | rfl <;> (simp only [tailC, Nat.reduceAdd] <;> omega)
theorem left_pos {p : LP} (h : RunsP p) : 0 < leftP p := by
  have := (step_runs 0 h).2
  omega
theorem left_le {p : LP} (h : IdleP p ∨ RunsP p) : leftP p ≤ 6 + 2 * p.G.length := by
  unfold leftP
  have : tailC p.G.length p.st ≤ 6 + 2 * p.G.length := by unfold tailC; split <;> omega
  omega
def iterP (a : Nat) : Nat → LP → LP
  | 0, p => p
  | n + 1, p => iterP a n (stepP a p)
theorem iterP_succ (a : Nat) : ∀ (n : Nat) (p : LP), iterP a (n + 1) p = stepP a (iterP a n p)
  | 0, p => rfl
  | n + 1, p => iterP_succ a n (stepP a p)
theorem stepP_len (a : Nat) (p : LP) : (stepP a p).l.length ≤ p.l.length + 1 := by
  unfold stepP
  rw [(nextP_same _).2.2]
  unfold doP
  split <;> simp
theorem iterP_len (a : Nat) : ∀ (n : Nat) (p : LP), (iterP a n p).l.length ≤ p.l.length + n
  | 0, p => Nat.le_refl _
  | n + 1, p => by
    have h1 := iterP_len a n (stepP a p)
    have h2 := stepP_len a p
    show (iterP a n (stepP a p)).l.length ≤ _
    omega
/-- A commit run to its end. -/
def endP (a : Nat) (p : LP) : LP := iterP a (leftP p) p
section
variable {w w' w1 : World} {g gd N a sz : Nat} {k k' : Nat} {F T : List Nat} {S : Option PG} {p : LP}
abbrev LgP (w : World) (g gd N a sz : Nat) (S : Option PG) (p : LP) (k : Nat) (F : List Nat) : Prop := Lg w g gd N a sz p.gen p.G S p.st p.nx p.plat p.l k F
abbrev DidP (w w' : World) (g gd N a sz : Nat) (S : Option PG) (p : LP) (k : Nat) (F : List Nat) : Prop := DidLg w w' g gd N a sz p.gen p.G S p.st p.nx p.plat p.l k F
theorem lg_step (h : LgP w g gd N a sz S p k F) (hr : RunsP p) (hk : k < 4611686018427380000) (hlen : p.l.length < 4398046511000) :
    Calls Try.prog 24 #[.pointer (some ⟨g, 0, none⟩)] w fun e w' => e = .returned (.tuple #[.bool (!decide (((stepP a p).st : Int) = 0)), .int .i64 0]) ∧ DidP w w' g gd N a sz S (stepP a p) (k + 1) F := by
  obtain ⟨h1, h2, h3, h4, h5⟩ := hr
  obtain ⟨gen, G, st, nx, plat, l⟩ := p
  simp only at h1 h2 h3 h4 h5 hlen
  have h : Lg w g gd N a sz gen G S st nx plat l k F := h
  have hlenG : G.length ≤ 247 := by have := h.okp.1; have := h.rng; omega
  have hnx : nx ≤ 300 := by
    cases he : eachP ⟨gen, G, st, nx, plat, l⟩ with
    | true => have := h3 he; omega
    | false => have := h4 he; omega
  have e2 : (G[nx]?).getD (0, []) = G.getD nx (0, []) := by simp [List.getD]
  have hst : st = 1 ∨ st = 2 ∨ st = 3 ∨ st = 4 ∨ st = 5 ∨ st = 6 ∨ st = 7 ∨ st = 8 := by omega
  have fin : ∀ {gen' plat' l'}, doP a ⟨gen, G, st, nx, plat, l⟩ = ⟨gen', G, st, nx, plat', l'⟩ → ∀ (e : Ending) (w' : World), (e = .returned (.tuple #[.bool (!decide (((nextP ⟨gen', G, st, nx, plat', l'⟩).st : Int) = 0)), .int .i64 0]) ∧ DidLg w w' g gd N a sz gen' (nextP ⟨gen', G, st, nx, plat', l'⟩).G S (nextP ⟨gen', G, st, nx, plat', l'⟩).st (nextP ⟨gen', G, st, nx, plat', l'⟩).nx plat' l' (k + 1) F) → (e = .returned (.tuple #[.bool (!decide (((stepP a ⟨gen, G, st, nx, plat, l⟩).st : Int) = 0)), .int .i64 0]) ∧ DidP w w' g gd N a sz S (stepP a ⟨gen, G, st, nx, plat, l⟩) (k + 1) F) := by
    rintro gen' plat' l' he e w' ⟨q1, q2⟩
    unfold stepP DidP
    rw [he]
    obtain ⟨s1, s2, s3⟩ := nextP_same ⟨gen', G, st, nx, plat', l'⟩
    rw [s1, s2, s3]
    exact ⟨q1, q2⟩
  rcases hst with rfl | rfl | rfl | rfl | rfl | rfl | rfl | rfl
  · have hp : G[nx]? = some (G.getD nx (0, [])) := by
      have : nx < G.length := h3 rfl
      simp [List.getD, this]
    exact (step_core h (by decide) (by decide) rfl rfl rfl hnx (.inl rfl) (fun W ho => lg_logB (h.quiet ho) hk hlen rfl hp)).mono (fin rfl)
  · exact (step_core h (by decide) (by decide) rfl rfl rfl hnx (.inr (.inl rfl)) (fun W ho => lg_flush (h.quiet ho) hk hlen)).mono (fin rfl)
  · exact (step_core h (by decide) (by decide) rfl rfl rfl hnx (.inr (.inr (.inl rfl))) (fun W ho => lg_writeH (h.quiet ho) hk hlen)).mono (fin rfl)
  · exact (step_core h (by decide) (by decide) rfl rfl rfl hnx (.inr (.inl rfl)) (fun W ho => lg_flush (h.quiet ho) hk hlen)).mono (fin rfl)
  · have hp : G[nx]? = some (G.getD nx (0, [])) := by
      have : nx < G.length := h3 rfl
      simp [List.getD, this]
    exact (step_core h (by decide) (by decide) rfl rfl rfl hnx (.inr (.inr (.inr (.inl rfl)))) (fun W ho => lg_placeB (h.quiet ho) hk hlen rfl hp)).mono (fin rfl)
  · exact (step_core h (by decide) (by decide) rfl rfl rfl hnx (.inr (.inl rfl)) (fun W ho => lg_flush (h.quiet ho) hk hlen)).mono (fin rfl)
  · exact (step_core h (by decide) (by decide) rfl rfl rfl hnx (.inr (.inr (.inr (.inr rfl)))) (fun W ho => lg_emptyH (h.quiet ho) hk hlen)).mono (fin rfl)
  · exact (step_core h (by decide) (by decide) rfl rfl rfl hnx (.inr (.inl rfl)) (fun W ho => lg_flush (h.quiet ho) hk hlen)).mono (fin rfl)
set_option maxRecDepth 100000 in
theorem lg_run (h : LgP w g gd N a sz S p k F) (hr : IdleP p ∨ RunsP p) (hk : k < 4611686018427000000) (hlen : p.l.length < 4398046000000) :
    Calls Try.prog 44 #[.pointer (some ⟨g, 0, none⟩)] w fun e w' => e = .returned (.int .i64 (leftP p)) ∧ DidP w w' g gd N a sz S (endP a p) (k + leftP p) F := by
  have hlenL : leftP p ≤ 1000 := by
    have h1 := left_le hr
    have : p.G.length ≤ 247 := by have := h.okp.1; have := h.rng; omega
    omega
  have H := hide h
  have HR := hide hr
  clear h hr
  go_enter Try.func44, Try.ntmps44
  go_wp2_with fail
  go_loopw [3] (fun iv wr => ∃ n : Nat, iv = .int .i64 n ∧ (IdleP (iterP a n p) ∨ RunsP (iterP a n p)) ∧ n + leftP (iterP a n p) = leftP p ∧ DidP w wr g gd N a sz S (iterP a n p) (k + n) F) (fun iv _ => leftP p - (intOf iv).toNat)
  case atStart => exact ⟨0, rfl, HR.out, by simp [iterP], F, Turned.same (Only.refl _ _), H.out⟩
  case round =>
    obtain ⟨n, rfl, hrn, hln, F', hT, hL⟩ := hrel
    have HT := hide hT
    have HL := hide hL
    have HG := hide (lg_running hL)
    have HRN := hide hrn
    have HLN := hide hln
    have hnb : n ≤ 1000 := by omega
    have hnb2 : (n : Int) < 9223372036854775807 := by omega
    clear hT hL hrn hln
    rcases HRN.out with hi | hr
    · have hd : (!decide (((iterP a n p).st : Int) = 0)) = false := by rw [hi.1]; rfl
      rw [hd] at HG
      have hz : leftP (iterP a n p) = 0 := by unfold leftP; rw [hi.1]; simp [tailC]
      have HN := hide (show n = leftP p by have := HLN.out; omega)
      clear hi hd hz
      go_wp2_with (go_at_call 34; refine HG.out.mono ?_; rintro e w' ⟨rfl, rfl⟩)
      go_ret
      refine ⟨by rw [← HN.out]; rfl, F', HT.out, ?_⟩
      have := HL.out
      unfold endP
      rw [← HN.out]
      exact this
    · have hd : (!decide (((iterP a n p).st : Int) = 0)) = true := by have := hr.1; simp; omega
      rw [hd] at HG
      have HS := hide (lg_step HL.out hr (by omega) (by have := iterP_len a n p; omega))
      have HRS := hide (step_runs a hr)
      have HPOS := hide (left_pos hr)
      clear hr hd
      go_wp2_with (first | (go_at_call 34; refine HG.out.mono ?_; rintro e w' ⟨rfl, rfl⟩) | (go_at_call 24; refine HS.out.mono ?_; rintro e w1 ⟨rfl, F2, t2, l2⟩; have HT2 := hide t2; have HL2 := hide l2; clear t2 l2))
      go_roundw
      case rel =>
        refine ⟨n + 1, by go_num, ?_, ?_, F2, ⟨?_, fun q hq => ?_⟩, ?_⟩
        · rw [iterP_succ]; exact HRS.out.1
        · rw [iterP_succ]; have := HRS.out.2; have := HLN.out; omega
        · exact HT.out.1.trans' HT2.out.1 (fun q hq hm => by
            rcases HT.out.2 q hm with e | e
            · exact e
            · omega)
        · rcases HT2.out.2 q hq with e | e
          · exact HT.out.2 q e
          · exact .inr (Nat.le_trans HT.out.1.size e)
        · rw [iterP_succ]; exact HL2.out
      case measure =>
        have := HLN.out
        have := HPOS.out
        simp [intOf]
        omega
end
end Go.Proofs.Ytokdpldmoflnkaa
/-
  The log (parapet/wlog): mayBe, with, Format; Commit.
-/
namespace Go.Proofs.Ytokdpldmoflnkaa
open Go.ChangeShapes Go.WideShapes Go.ChangeAt Go.RowKit Go.Maps
set_option linter.unusedVariables false
/-- May a log be? -/
def mayL (N : Nat) (a sz : Int) : Bool := decide (2 ≤ sz ∧ sz ≤ 248 ∧ 0 ≤ a ∧ a ≤ N - sz)
set_option maxRecDepth 100000 in
theorem mayBe_is {w : World} {dv : Option Addr} {N : Nat} (hN : N ≤ 4096) (a sz : Int) (hc : Calls Try.prog 65 #[.pointer dv] w fun e w' => e = .returned (.int .i64 N) ∧ w = w') : Calls Try.prog 42 #[.pointer dv, .int .i64 a, .int .i64 sz] w fun e w' => e = .returned (.bool (mayL N a sz)) ∧ w = w' := by
  have HC := hide hc
  clear hc
  by_cases h1 : 2 ≤ sz
  · by_cases h2 : sz ≤ 248
    · by_cases h3 : 0 ≤ a
      · have e1 : IntKind.i64.wrap ((N : Int) - sz) = (N : Int) - sz := IntWalk.i64_in _ (by omega)
        by_cases h4 : a ≤ (N : Int) - sz
        · have HM := hide (show mayL N a sz = true from decide_eq_true ⟨h1, h2, h3, h4⟩)
          rw [HM.out]
          have d4 : decide (a ≤ (N : Int) - sz) = true := decide_eq_true h4
          clear h4
          go_enter Try.func42, Try.ntmps42
          go_wp2_with (go_at_call 65; refine HC.out.mono ?_; rintro e w' ⟨rfl, rfl⟩)
          go_ret
          exact ⟨rfl, rfl⟩
        · have HM := hide (show mayL N a sz = false from decide_eq_false (fun h => h4 h.2.2.2))
          rw [HM.out]
          have d4 : decide (a ≤ (N : Int) - sz) = false := decide_eq_false h4
          clear h4
          go_enter Try.func42, Try.ntmps42
          go_wp2_with (go_at_call 65; refine HC.out.mono ?_; rintro e w' ⟨rfl, rfl⟩)
          go_ret
          exact ⟨rfl, rfl⟩
      · have HM := hide (show mayL N a sz = false from decide_eq_false (fun h => h3 h.2.2.1))
        rw [HM.out]
        have d3 : decide (0 ≤ a) = false := decide_eq_false h3
        clear h3
        go_enter Try.func42, Try.ntmps42
        go_wp2
        go_ret
        exact ⟨rfl, rfl⟩
    · have HM := hide (show mayL N a sz = false from decide_eq_false (fun h => h2 h.2.1))
      rw [HM.out]
      have d3 : decide (sz ≤ 248) = false := decide_eq_false h2
      clear h2
      go_enter Try.func42, Try.ntmps42
      go_wp2
      go_ret
      exact ⟨rfl, rfl⟩
  · have HM := hide (show mayL N a sz = false from decide_eq_false (fun h => h1 h.1))
    rw [HM.out]
    have d3 : decide (2 ≤ sz) = false := decide_eq_false h1
    clear h1
    go_enter Try.func42, Try.ntmps42
    go_wp2
    go_ret
    exact ⟨rfl, rfl⟩
section
variable {w w' w1 : World} {g gd N a sz : Nat} {gen gen' : Int} {plat plat' : List Int} {l l' : List (Nat × List Int)} {rd wt fl rd' wt' fl' : Int} {k k' : Nat} {FD FD' F T : List Nat} {G : PG} {S : Option PG} {p : LP}
/-- A new log with an empty group, of a disk that nothing was done to. -/
theorem with_is (hd : Dk w gd N plat l (-1) rd wt fl k FD) (hr : 2 ≤ sz ∧ sz ≤ 248 ∧ a + sz ≤ N) : Calls Try.prog 43 #[.pointer (some ⟨gd, 0, none⟩), .int .i64 a, .int .i64 sz] w fun e w' => ∃ g m, e = .returned (.pointer (some ⟨g, 0, none⟩)) ∧ w.heap.size ≤ g ∧ w.heap.size ≤ m ∧ Only [] w w' ∧ LgI w' g gd N a sz 0 (.slice none 0 0) m [] none 0 0 plat l rd wt fl k FD := by
  have HE := hide (empty_is w)
  have HD := hide hd
  clear hd
  go_enter Try.func43, Try.ntmps43
  go_wp2_with fail
  refine HE.out.mono ?_
  rintro e w1 ⟨m, rfl, hg, hm, ho⟩
  have HG := hide hg
  have HM := hide hm
  have HO := hide ho
  clear hg hm ho
  go_wp2
  go_ret
  have hl := HG.out.ltm
  have hA : Only [] w1 (w1.alloc (.cells #[.pointer (some ⟨gd, 0, none⟩), .int .i64 a, .int .i64 sz, .int .u64 0, .slice none 0 0, .map (some m), .pointer none, .int .i64 0, .int .i64 0] 83)) := (Only.refl [] w1).alloc _
  refine ⟨w1.heap.size, m, rfl, HO.out.size, HM.out, HO.out.trans hA, ⟨Blk.new _ _ _, HG.out.quiet hA, by simp, HD.out.quiet (HO.out.trans hA), fun q hq hm' => ?_, by decide, hr, ⟨by simp; omega, by simp⟩, by simp⟩⟩
  have h1 := HD.out.lt q hm'
  have h2 := HO.out.size
  have h3 := HM.out
  rcases hq with hq | ⟨x, hx, rfl⟩
  · rcases mem_footL.1 hq with e | e | e | ⟨s, hs, e⟩
    · omega
    · omega
    · simp [Value.ownBlock] at e
    · cases hs
  · rcases mem_bytesL.1 hx with e | ⟨s, hs, e⟩
    · cases e
    · cases hs
theorem format_no {dv : Option Addr} (hN : N ≤ 4096) (ai szi : Int) (hc : Calls Try.prog 65 #[.pointer dv] w fun e w' => e = .returned (.int .i64 N) ∧ w = w') (hm : mayL N ai szi = false) : Calls Try.prog 10 #[.pointer dv, .int .i64 ai, .int .i64 szi] w fun e w' => e = .returned (.tuple #[.pointer none, .int .i64 1]) ∧ w = w' := by
  have HM := hide (mayBe_is hN ai szi hc)
  rw [hm] at HM
  clear hc hm
  go_enter Try.func10, Try.ntmps10
  go_wp2_with (go_at_call 42; refine HM.out.mono ?_; rintro e w' ⟨rfl, rfl⟩)
  go_ret2
  exact ⟨rfl, rfl⟩
/-- Behind Format. -/
def fmtP (a : Nat) (plat : List Int) (l : List (Nat × List Int)) : LP := ⟨0, [], 0, 0, layAll plat (l ++ [(a, hdrF 0 [])]), []⟩
theorem fmt_end (a : Nat) (plat : List Int) (l : List (Nat × List Int)) : endP a ⟨0, [], 7, 0, plat, l⟩ = fmtP a plat l := rfl
set_option maxRecDepth 100000 in
set_option maxHeartbeats 1000000 in
theorem format_ok (hd : Dk w gd N plat l (-1) rd wt fl k FD) (hm : mayL N a sz = true) (hk : k < 4611686018426000000) (hlen : l.length < 4398045000000) : Calls Try.prog 10 #[.pointer (some ⟨gd, 0, none⟩), .int .i64 a, .int .i64 sz] w fun e w' => ∃ g F, e = .returned (.tuple #[.pointer (some ⟨g, 0, none⟩), .int .i64 0]) ∧ Only FD w w' ∧ (∀ q ∈ F, q ∈ FD ∨ w.heap.size ≤ q) ∧ LgP w' g gd N a sz none (fmtP a plat l) (k + 2) F := by
  have hN := hd.platOk.2.2
  have hr : 2 ≤ sz ∧ sz ≤ 248 ∧ a + sz ≤ N := by
    have := of_decide_eq_true hm
    omega
  have HM := hide (mayBe_is hN.2 (a : Int) (sz : Int) (dk_count hd))
  rw [hm] at HM
  have HW := hide (with_is hd hr)
  have HFD := hide hd.lt
  clear hd hm
  go_enter Try.func10, Try.ntmps10
  go_wp2_with (first | (go_at_call 42; refine HM.out.mono ?_; rintro e w' ⟨rfl, rfl⟩) | fail)
  refine HW.out.mono ?_
  rintro e w1 ⟨g, m, rfl, hg, hm, ho, hI⟩
  have f7 := hI.fr 7
  have c7 := hI.c7
  have o2 : Only [g] w1 (w1.setCell ⟨g, 7, none⟩ (.int .i64 7)) := (Only.refl _ _).setCell _ (by simp)
  have i2 := hI.restr (SS' := none) (gen' := 0) (st' := 7) (nx' := 0) o2 (fun s hs => hs) (by decide) (hI.blk.set_ 7 _)
  obtain ⟨F2, hT2, hL2⟩ := Lg.mk2 (w := w) (F := FD) i2 ((ho.mono (by simp)).trans' o2 (fun q hq hm => by simp at hm; omega)) (fun q hq => by
    rcases mem_footL.1 hq with e | e | e | ⟨s, hs, e⟩
    · exact .inr (e ▸ hg)
    · exact .inr (e ▸ hm)
    · simp [Value.ownBlock] at e
    · cases hs) (fun q hq => .inl hq) (fun x hx => by
    rcases mem_bytesL.1 hx with e | ⟨s, hs, e⟩
    · cases e
    · cases hs)
  have HL2 := hide (show LgP (w1.setCell ⟨g, 7, none⟩ (.int .i64 7)) g gd N a sz none ⟨0, [], 7, 0, plat, l⟩ k F2 from hL2)
  have HT2 := hide hT2
  clear hg hm ho hI o2 i2 hT2 hL2
  have HR := hide (lg_run HL2.out (.inr ⟨by show 1 ≤ 7; decide, by show 7 ≤ 8; decide, fun e => by simp [eachP] at e, fun _ => rfl, fun e => by simp at e⟩) (by omega) (by show l.length < 4398046000000; omega))
  rw [fmt_end] at HR
  go_wp2_with (go_at_call 44; refine HR.out.mono ?_; rintro e w2 ⟨rfl, F3, t3, l3⟩; have HT3 := hide t3; have HL3 := hide l3; clear t3 l3)
  go_ret2
  refine ⟨g, F3, rfl, HT2.out.1.trans' HT3.out.1 (fun q hq hm => ?_), fun q hq => ?_, HL3.out⟩
  · rcases HT2.out.2 q hm with e | e
    · exact e
    · omega
  · rcases HT3.out.2 q hq with e | e
    · exact HT2.out.2 q e
    · exact .inr (Nat.le_trans HT2.out.1.size e)
/-- A commit that may start has started. -/
def startP (S : Option PG) (p : LP) : LP := if startB p.G S p.st then { p with st := 1 } else p
theorem start_runs {p : LP} (h : IdleP p ∨ RunsP p) : IdleP (startP S p) ∨ RunsP (startP S p) := by
  unfold startP
  split
  · rename_i hb
    right
    unfold startB at hb
    simp at hb
    have hne : 0 < p.G.length := by
      cases hG : p.G with
      | nil => rw [hG] at hb; simp at hb
      | cons x y => simp
    have h0 : p.nx = 0 := by
      rcases h with h | h
      · exact h.2
      · have := h.1; omega
    exact ⟨by simp, by simp, fun _ => by simp [h0, hne], fun e => by simp [eachP] at e, fun _ => hne⟩
  · exact h
theorem startP_same (S : Option PG) (p : LP) : (startP S p).gen = p.gen ∧ (startP S p).G = p.G ∧ (startP S p).nx = p.nx ∧ (startP S p).plat = p.plat ∧ (startP S p).l = p.l ∧ ((startP S p).st : Int) = if startB p.G S p.st then 1 else (p.st : Int) := by
  unfold startP
  split <;> simp
theorem lg_commit_busy {G' : PG} (h : LgP w g gd N a sz S p k F) (hS : S = some G') : Calls Try.prog 26 #[.pointer (some ⟨g, 0, none⟩)] w fun e w' => e = .returned (.tuple #[.int .i64 0, .int .i64 5]) ∧ w = w' := by
  have HC := hide (lg_closed h)
  obtain ⟨v, m, L, SS, rd, wt, fl, FD, h1, _, h3, _⟩ := h
  obtain ⟨s, rfl⟩ : ∃ s, SS = some s := by cases SS with | none => rw [hS] at h3; simp at h3 | some s => exact ⟨s, rfl⟩
  have c6 : w.cell? ⟨g, 6, none⟩ = some (.pointer (some ⟨s.h, 0, none⟩)) := h1.c6
  clear h1 h3 hS
  go_enter Try.func26, Try.ntmps26
  go_wp2_with (go_at_call 49; refine HC.out.mono ?_; rintro e w' ⟨rfl, rfl⟩)
  go_ret2
  exact ⟨rfl, rfl⟩
theorem lg_commit (h : LgP w g gd N a sz none p k F) (hr : IdleP p ∨ RunsP p) (hk : k < 4611686018427000000) (hlen : p.l.length < 4398046000000) : Calls Try.prog 26 #[.pointer (some ⟨g, 0, none⟩)] w fun e w' => e = .returned (.tuple #[.int .i64 (leftP (startP none p)), .int .i64 0]) ∧ DidP w w' g gd N a sz none (endP a (startP none p)) (k + leftP (startP none p)) F := by
  have HC := hide (lg_closed h)
  have HS := hide (lg_start h)
  have HR := hide (fun W F' (q : LgP W g gd N a sz none (startP none p) k F') => lg_run q (start_runs hr) hk (by rw [(startP_same none p).2.2.2.2.1]; exact hlen))
  obtain ⟨v, m, L, SS, rd, wt, fl, FD, h1, _, h3, _⟩ := h
  obtain rfl : SS = none := by cases SS with | none => rfl | some s => simp at h3
  have c6 : w.cell? ⟨g, 6, none⟩ = some (.pointer none) := h1.c6
  clear h1 h3 hr
  go_enter Try.func26, Try.ntmps26
  go_wp2_with (first | (go_at_call 49; refine HC.out.mono ?_; rintro e w' ⟨rfl, rfl⟩) | (go_at_call 22; refine HS.out.mono ?_; rintro e w1 ⟨rfl, F1, t1, l1⟩; have HT1 := hide t1; have HR1 := hide (HR.out w1 F1 (by obtain ⟨s1, s2, s3, s4, s5, s6⟩ := startP_same none p; unfold LgP; rw [s1, s2, s3, s4, s5, s6]; exact l1)); clear t1 l1) | (go_at_call 44; refine HR1.out.mono ?_; rintro e w2 ⟨rfl, F2, t2, l2⟩; have HT2 := hide t2; have HL2 := hide l2; clear t2 l2))
  go_ret2
  refine ⟨rfl, F2, ⟨HT1.out.1.trans' HT2.out.1 (fun q hq hm => ?_), fun q hq => ?_⟩, HL2.out⟩
  · rcases HT1.out.2 q hm with e | e
    · exact e
    · omega
  · rcases HT2.out.2 q hq with e | e
    · exact HT1.out.2 q e
    · exact .inr (Nat.le_trans HT1.out.1.size e)
end
end Go.Proofs.Ytokdpldmoflnkaa
/-
  The log: the laws' own helpers: filled, sameInts; what the disk tells beside the log.
-/
namespace Go.Proofs.Ytokdpldmoflnkaa
open Go.ChangeShapes Go.WideShapes Go.ChangeAt Go.RowKit Go.Maps
set_option linter.unusedVariables false
def fill3 (n : Nat) (c : Int) : List Int := (List.range n).map fun (i : Nat) => (c + (i : Int) * 3) % 256
theorem fill3_length (n : Nat) (c : Int) : (fill3 n c).length = n := by simp [fill3]
theorem gb_fill3 (n i : Nat) (c : Int) (h : i < n) : gb (fill3 n c) i = (c + (i : Int) * 3) % 256 := by
  simp [gb, fill3, List.getD, h]
theorem u8_fill3 (n : Nat) (c : Int) : U8 (fill3 n c) := by
  intro x hx
  obtain ⟨i, _, rfl⟩ := List.mem_map.1 hx
  omega
def FillRel3 (n : Nat) (c : Int) (w : World) (i : Value) (wr : World) : Prop :=
  ∃ k : Nat, k ≤ n ∧ i = .int .i64 k ∧ Only [] w wr ∧ ∃ ns : List Int, ns.length = n ∧ Blk wr w.heap.size 5 (u8l ns).toArray ∧ ∀ j, j < k → gb ns j = gb (fill3 n c) j
theorem gb_set3 (ns : List Int) (k j : Nat) (x : Int) (h : k < ns.length) : gb (ns.set k x) j = if k = j then x else gb ns j := by
  unfold gb
  by_cases e : k = j
  · subst e
    simp [List.getD, h]
  · simp [List.getD, e]
set_option maxRecDepth 100000 in
theorem filled3_ok (n : Nat) (c : Int) (w : World) (hn : n ≤ 100000) (h0 : 0 ≤ c) (h1 : c ≤ 255) : Calls Try.prog 12 #[.int .i64 n, .int .u8 c] w fun e w' => ∃ d, e = .returned (.slice (some ⟨d, 0, none⟩) n n) ∧ w.heap.size ≤ d ∧ Blk w' d 5 (u8l (fill3 n c)).toArray ∧ Only [] w w' := by
  obtain ⟨i0, hi, hz0, hz1, hz2⟩ := info_parts info_u8
  have hmk : ∀ u : World, (Instr.makeSlice 46 (.int .i64 (n : Int)) (.int .i64 (n : Int))).run Try.prog u =
      .ok (.slice (some ⟨u.heap.size, 0, none⟩) n n) (u.alloc (.cells (madeCells #[.int .u8 0] n) 5)) := fun u => by
    have h := run_make (P := Try.prog) u 46 5 i0 (.int .u8 0) Try.underlying46 hi hz0 .i64 .i64 (n : Int) (n : Int) (by omega) (Int.le_refl _) (by rw [hz2]; omega) (by omega)
    simpa [hz1, Value.cells] using h
  have HM := hide (Blk.new w 5 (madeCells #[.int .u8 0] n))
  have HO0 := hide ((Only.refl [] w).alloc (.cells (madeCells #[.int .u8 0] n) 5))
  have HML := hide (show madeCells #[.int .u8 0] n = (u8l (List.replicate n 0)).toArray from by
    apply Array.ext'
    rw [toList_madeCells_one]
    simp [u8l])
  rw [HML.out] at HM HO0
  have hmx : max (n : Int) 0 = n := by omega
  go_enter Try.func12, Try.ntmps12
  go_wp2
  clear hmk hi hz0 hz1 hz2 hmx
  go_loopw [12, 6] (fun i _ wr => FillRel3 n c w i wr) (fun i _ _ => n - (intOf i).toNat)
  case atStart => exact ⟨0, Nat.zero_le _, rfl, by rw [HML.out]; exact HO0.out, List.replicate n 0, by simp, by rw [HML.out]; exact HM.out, fun j hj => absurd hj (by omega)⟩
  case round =>
    clear HM HO0
    obtain ⟨k, hk, rfl, ho, ns, hnl, hbk, hns⟩ := hrel
    have HO := hide ho
    have HB := hide hbk
    have HNL := hide hnl
    have HNS := hide hns
    by_cases hlt : k < n
    · have hfk := hbk.frozen k
      have hck : wr.cell? ⟨w.heap.size, k, none⟩ = some (.int .u8 (gb ns k)) := by
        rw [hbk.cell]
        simp [u8l, gb, List.getD, List.getElem?_eq_getElem (show k < ns.length by omega)]
      clear hbk hns hnl ho
      go_wp2
      go_roundw
      case rel =>
        have hv : (c + (k : Int) % 256 * 3) % 256 = (c + (k : Int) * 3) % 256 := by omega
        rw [hv]
        refine ⟨k + 1, hlt, by go_num, HO.out.setCell _ (by simp), ns.set k ((c + (k : Int) * 3) % 256), by rw [List.length_set]; exact HNL.out, ?_, fun j hj => ?_⟩
        · have := HB.out.set_ k (.int .u8 ((c + (k : Int) * 3) % 256))
          rw [u8l, List.setIfInBounds_toArray, ← List.map_set] at this
          exact this
        · rw [gb_set3 _ _ _ _ (by rw [HNL.out]; exact hlt)]
          by_cases hj2 : k = j
          · subst hj2
            rw [if_pos rfl, gb_fill3 _ _ _ hlt]
          · rw [if_neg hj2]
            exact HNS.out j (by omega)
      case measure => simp [intOf]; omega
    · obtain rfl : k = n := by omega
      have HE := hide (show ns = fill3 k c from by
        refine List.ext_getElem? fun j => ?_
        by_cases hj : j < k
        · have := hns j hj
          simp [gb, List.getD, List.getElem?_eq_getElem (show j < ns.length by omega), List.getElem?_eq_getElem (show j < (fill3 k c).length by rw [fill3_length]; omega)] at this
          rw [List.getElem?_eq_getElem (show j < ns.length by omega), List.getElem?_eq_getElem (show j < (fill3 k c).length by rw [fill3_length]; omega), this]
        · rw [List.getElem?_eq_none (by omega), List.getElem?_eq_none (by rw [fill3_length]; omega)])
      clear hbk hns hnl ho
      go_wp2
      go_ret
      refine ⟨w.heap.size, rfl, Nat.le_refl _, ?_, HO.out⟩
      rw [← HE.out]
      exact HB.out
section
variable {w w' w1 : World} {g gd N a sz : Nat} {k k' : Nat} {F T : List Nat} {S : Option PG} {p : LP}
/-- What the log's disk reads. -/
theorem lg_dread (h : LgP w g gd N a sz S p k F) (n : Nat) (hn : n < N) (hk : k < 4611686018427000000) : Calls Try.prog 41 #[.pointer (some ⟨gd, 0, none⟩), .int .i64 n] w fun e w' => ∃ v, e = .returned (.tuple #[v, .int .i64 0]) ∧ Fresh w' w.heap.size v (sect p.plat p.l n) ∧ DidP w w' g gd N a sz S p (k + 1) F := by
  obtain ⟨v, m, L, SS, rd, wt, fl, FD, h1, h2, h3, h4, h5⟩ := h
  refine (dk_read h1.dk n hn (by omega)).mono ?_
  rintro e w' ⟨v', e1, e2, e3, e4⟩
  have := LgI.did h4 e3 (h1.dkT e3 e4)
  rw [h2, h3] at this
  exact ⟨v', e1, e2, this⟩
theorem lg_dpending (h : LgP w g gd N a sz S p k F) : Calls Try.prog 37 #[.pointer (some ⟨gd, 0, none⟩)] w fun e w' => ∃ d, e = .returned (.slice (some ⟨d, 0, none⟩) p.l.length p.l.length) ∧ w.heap.size ≤ d ∧ IntsAt w' d p.l.length (p.l.map fun x => (x.1 : Int)) ∧ Only [] w w' := by
  obtain ⟨rd, wt, fl, FD, hd⟩ := h.disk
  exact dk_pending hd
theorem lg_dimage (h : LgP w g gd N a sz S p k F) : Calls Try.prog 39 #[.pointer (some ⟨gd, 0, none⟩)] w fun e w' => ∃ v, e = .returned v ∧ Fresh w' w.heap.size v p.plat ∧ Only [] w w' := by
  obtain ⟨rd, wt, fl, FD, hd⟩ := h.disk
  exact dk_image hd
end
end Go.Proofs.Ytokdpldmoflnkaa
