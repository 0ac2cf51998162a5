/-
  The log (parapet/wlog): Step, run, Commit.
-/
import Derived.Test.YtpajdnjbeplneaaLgStep4
namespace Go.Proofs.Ytpajdnjbeplneaa
open Go.ChangeShapes Go.WideShapes Go.ChangeAt Go.RowKit Go.Maps
set_option linter.unusedVariables false
set_option linter.unusedSimpArgs false
theorem nextP_same (p : LP) : (nextP p).gen = p.gen ∧ (nextP p).plat = p.plat ∧ (nextP p).l = p.l := by
  unfold nextP
  split
  · exact ⟨rfl, rfl, rfl⟩
  · split <;> exact ⟨rfl, rfl, rfl⟩
theorem doP_same (a : Nat) (p : LP) : (doP a p).st = p.st ∧ (doP a p).nx = p.nx ∧ (doP a p).G = p.G := by
  unfold doP
  split <;> exact ⟨rfl, rfl, rfl⟩
/-- How many steps are left. -/
def tailC (n : Nat) : Nat → Nat
  | 0 => 0
  | 1 => 6 + 2 * n
  | 2 => 6 + n
  | 3 => 5 + n
  | 4 => 4 + n
  | 5 => 3 + n
  | 6 => 3
  | 7 => 2
  | _ => 1
def leftP (p : LP) : Nat := tailC p.G.length p.st - p.nx
def IdleP (p : LP) : Prop := p.st = 0 ∧ p.nx = 0
theorem step_runs (a : Nat) {p : LP} (h : RunsP p) : (IdleP (stepP a p) ∨ RunsP (stepP a p)) ∧ leftP (stepP a p) + 1 = leftP p := by
  obtain ⟨h1, h2, h3, h4, h5⟩ := h
  obtain ⟨d1, d2, d3⟩ := doP_same a p
  have he : eachP (doP a p) = eachP p := by unfold eachP; rw [d1]
  unfold stepP nextP
  rw [he, d1, d2, d3]
  obtain ⟨gen, G, st, nx, plat, l⟩ := p
  simp only at h1 h2 h3 h4 h5 ⊢
  by_cases hc : eachP ⟨gen, G, st, nx, plat, l⟩ = true ∧ nx + 1 ≠ G.length
  · rw [if_pos hc]
    have hlt := h3 hc.1
    have hst : st = 1 ∨ st = 5 := by have := hc.1; unfold eachP at this; simpa using this
    refine ⟨.inr ⟨by omega, by omega, fun _ => ?_, fun e => ?_, fun _ => by show 0 < G.length; omega⟩, ?_⟩
    · show nx + 1 < G.length; omega
    · unfold eachP at e; simp at e; omega
    · show tailC G.length st - (nx + 1) + 1 = tailC G.length st - nx
      rcases hst with rfl | rfl <;> (simp only [tailC, Nat.reduceAdd] <;> omega)
  · rw [if_neg hc]
    by_cases h8 : st = 8
    · rw [if_pos h8]
      have : nx = 0 := h4 (by unfold eachP; subst h8; rfl)
      subst h8; subst this
      exact ⟨.inl ⟨rfl, rfl⟩, rfl⟩
    · rw [if_neg h8]
      by_cases hst : st = 1 ∨ st = 5
      · have hE : eachP ⟨gen, G, st, nx, plat, l⟩ = true := by unfold eachP; simpa using hst
        have hn : nx + 1 = G.length := by
          by_cases e : nx + 1 = G.length
          · exact e
          · exact absurd ⟨hE, e⟩ hc
        refine ⟨.inr ⟨by show 1 ≤ st + 1; omega, by show st + 1 ≤ 8; omega, fun e => ?_, fun _ => rfl, fun _ => by show 0 < G.length; omega⟩, ?_⟩
        · unfold eachP at e; simp at e; omega
        · show tailC G.length (st + 1) - 0 + 1 = tailC G.length st - nx
          rcases hst with rfl | rfl <;> (simp only [tailC, Nat.reduceAdd] <;> omega)
      · have h0 : nx = 0 := h4 (by unfold eachP; simpa using hst)
        subst h0
        have h17 : st = 2 ∨ st = 3 ∨ st = 4 ∨ st = 6 ∨ st = 7 := by omega
        refine ⟨.inr ⟨by show 1 ≤ st + 1; omega, by show st + 1 ≤ 8; omega, fun e => ?_, fun _ => rfl, fun e => ?_⟩, ?_⟩
        · show 0 < G.length
          unfold eachP at e
          simp at e
          exact h5 (by omega)
        · have e : st + 1 ≤ 5 := e
          exact h5 (by omega)
        · show tailC G.length (st + 1) - 0 + 1 = tailC G.length st - 0
          rcases h17 with rfl | rfl | rfl | rfl | rfl <;> (simp only [tailC, Nat.reduceAdd] <;> omega)
theorem left_pos {p : LP} (h : RunsP p) : 0 < leftP p := by
  have := (step_runs 0 h).2
  omega
theorem left_le {p : LP} (h : IdleP p ∨ RunsP p) : leftP p ≤ 6 + 2 * p.G.length := by
  unfold leftP
  have : tailC p.G.length p.st ≤ 6 + 2 * p.G.length := by unfold tailC; split <;> omega
  omega
def iterP (a : Nat) : Nat → LP → LP
  | 0, p => p
  | n + 1, p => iterP a n (stepP a p)
theorem iterP_succ (a : Nat) : ∀ (n : Nat) (p : LP), iterP a (n + 1) p = stepP a (iterP a n p)
  | 0, p => rfl
  | n + 1, p => iterP_succ a n (stepP a p)
/-- A commit run to its end. -/
def endP (a : Nat) (p : LP) : LP := iterP a (leftP p) p
section
variable {w w' w1 : World} {g gd N a sz : Nat} {k k' : Nat} {F T : List Nat} {S : Option PG} {p : LP}
abbrev LgP (w : World) (g gd N a sz : Nat) (S : Option PG) (p : LP) (k : Nat) (F : List Nat) : Prop := Lg w g gd N a sz p.gen p.G S p.st p.nx p.plat p.l k F
abbrev DidP (w w' : World) (g gd N a sz : Nat) (S : Option PG) (p : LP) (k : Nat) (F : List Nat) : Prop := DidLg w w' g gd N a sz p.gen p.G S p.st p.nx p.plat p.l k F
theorem lg_step (h : LgP w g gd N a sz S p k F) (hr : RunsP p) (hk : k < 4398046511000) :
    Calls Try.prog 20 #[.pointer (some ⟨g, 0, none⟩)] w fun e w' => e = .returned (.tuple #[.bool (!decide (((stepP a p).st : Int) = 0)), .int .i64 0]) ∧ DidP w w' g gd N a sz S (stepP a p) (k + 1) F := by
  obtain ⟨h1, h2, h3, h4, h5⟩ := hr
  obtain ⟨gen, G, st, nx, plat, l⟩ := p
  simp only at h1 h2 h3 h4 h5
  have h : Lg w g gd N a sz gen G S st nx plat l k F := h
  have hlen : G.length ≤ 247 := by have := h.okp.1; have := h.rng; omega
  have hnx : nx ≤ 300 := by
    cases he : eachP ⟨gen, G, st, nx, plat, l⟩ with
    | true => have := h3 he; omega
    | false => have := h4 he; omega
  have e2 : (G[nx]?).getD (0, []) = G.getD nx (0, []) := by simp [List.getD]
  have hst : st = 1 ∨ st = 2 ∨ st = 3 ∨ st = 4 ∨ st = 5 ∨ st = 6 ∨ st = 7 ∨ st = 8 := by omega
  have fin : ∀ {gen' plat' l'}, doP a ⟨gen, G, st, nx, plat, l⟩ = ⟨gen', G, st, nx, plat', l'⟩ → ∀ (e : Ending) (w' : World), (e = .returned (.tuple #[.bool (!decide (((nextP ⟨gen', G, st, nx, plat', l'⟩).st : Int) = 0)), .int .i64 0]) ∧ DidLg w w' g gd N a sz gen' (nextP ⟨gen', G, st, nx, plat', l'⟩).G S (nextP ⟨gen', G, st, nx, plat', l'⟩).st (nextP ⟨gen', G, st, nx, plat', l'⟩).nx plat' l' (k + 1) F) → (e = .returned (.tuple #[.bool (!decide (((stepP a ⟨gen, G, st, nx, plat, l⟩).st : Int) = 0)), .int .i64 0]) ∧ DidP w w' g gd N a sz S (stepP a ⟨gen, G, st, nx, plat, l⟩) (k + 1) F) := by
    rintro gen' plat' l' he e w' ⟨q1, q2⟩
    unfold stepP DidP
    rw [he]
    obtain ⟨s1, s2, s3⟩ := nextP_same ⟨gen', G, st, nx, plat', l'⟩
    rw [s1, s2, s3]
    exact ⟨q1, q2⟩
  rcases hst with rfl | rfl | rfl | rfl | rfl | rfl | rfl | rfl
  · have hp : G[nx]? = some (G.getD nx (0, [])) := by
      have : nx < G.length := h3 rfl
      simp [List.getD, this]
    exact (step_core h (by decide) (by decide) rfl rfl rfl hnx (.inl rfl) (fun W ho => lg_logB (h.quiet ho) hk rfl hp)).mono (fin rfl)
  · exact (step_core h (by decide) (by decide) rfl rfl rfl hnx (.inr (.inl rfl)) (fun W ho => lg_flush (h.quiet ho) hk)).mono (fin rfl)
  · exact (step_core h (by decide) (by decide) rfl rfl rfl hnx (.inr (.inr (.inl rfl))) (fun W ho => lg_writeH (h.quiet ho) hk)).mono (fin rfl)
  · exact (step_core h (by decide) (by decide) rfl rfl rfl hnx (.inr (.inl rfl)) (fun W ho => lg_flush (h.quiet ho) hk)).mono (fin rfl)
  · have hp : G[nx]? = some (G.getD nx (0, [])) := by
      have : nx < G.length := h3 rfl
      simp [List.getD, this]
    exact (step_core h (by decide) (by decide) rfl rfl rfl hnx (.inr (.inr (.inr (.inl rfl)))) (fun W ho => lg_placeB (h.quiet ho) hk rfl hp)).mono (fin rfl)
  · exact (step_core h (by decide) (by decide) rfl rfl rfl hnx (.inr (.inl rfl)) (fun W ho => lg_flush (h.quiet ho) hk)).mono (fin rfl)
  · exact (step_core h (by decide) (by decide) rfl rfl rfl hnx (.inr (.inr (.inr (.inr rfl)))) (fun W ho => lg_emptyH (h.quiet ho) hk)).mono (fin rfl)
  · exact (step_core h (by decide) (by decide) rfl rfl rfl hnx (.inr (.inl rfl)) (fun W ho => lg_flush (h.quiet ho) hk)).mono (fin rfl)
set_option maxRecDepth 100000 in
theorem lg_run (h : LgP w g gd N a sz S p k F) (hr : IdleP p ∨ RunsP p) (hk : k < 4398046500000) :
    Calls Try.prog 52 #[.pointer (some ⟨g, 0, none⟩)] w fun e w' => e = .returned (.int .i64 (leftP p)) ∧ DidP w w' g gd N a sz S (endP a p) (k + leftP p) F := by
  have hlen : leftP p ≤ 1000 := by
    have h1 := left_le hr
    have : p.G.length ≤ 247 := by have := h.okp.1; have := h.rng; omega
    omega
  have H := hide h
  have HR := hide hr
  clear h hr
  go_enter Try.func52, Try.ntmps52
  go_wp2_with fail
  go_loopw [3] (fun iv wr => ∃ n : Nat, iv = .int .i64 n ∧ (IdleP (iterP a n p) ∨ RunsP (iterP a n p)) ∧ n + leftP (iterP a n p) = leftP p ∧ DidP w wr g gd N a sz S (iterP a n p) (k + n) F) (fun iv _ => leftP p - (intOf iv).toNat)
  case atStart => exact ⟨0, rfl, HR.out, by simp [iterP], F, Turned.same (Only.refl _ _), H.out⟩
  case round =>
    obtain ⟨n, rfl, hrn, hln, F', hT, hL⟩ := hrel
    have HT := hide hT
    have HL := hide hL
    have HG := hide (lg_running hL)
    have HRN := hide hrn
    have HLN := hide hln
    have hnb : n ≤ 1000 := by omega
    have hnb2 : (n : Int) < 9223372036854775807 := by omega
    clear hT hL hrn hln
    rcases HRN.out with hi | hr
    · have hd : (!decide (((iterP a n p).st : Int) = 0)) = false := by rw [hi.1]; rfl
      rw [hd] at HG
      have hz : leftP (iterP a n p) = 0 := by unfold leftP; rw [hi.1]; simp [tailC]
      have HN := hide (show n = leftP p by have := HLN.out; omega)
      clear hi hd hz
      go_wp2_with (go_at_call 24; refine HG.out.mono ?_; rintro e w' ⟨rfl, rfl⟩)
      go_ret
      refine ⟨by rw [← HN.out]; rfl, F', HT.out, ?_⟩
      have := HL.out
      unfold endP
      rw [← HN.out]
      exact this
    · have hd : (!decide (((iterP a n p).st : Int) = 0)) = true := by have := hr.1; simp; omega
      rw [hd] at HG
      have HS := hide (lg_step HL.out hr (by omega))
      have HRS := hide (step_runs a hr)
      have HPOS := hide (left_pos hr)
      clear hr hd
      go_wp2_with (first | (go_at_call 24; refine HG.out.mono ?_; rintro e w' ⟨rfl, rfl⟩) | (go_at_call 20; refine HS.out.mono ?_; rintro e w1 ⟨rfl, F2, t2, l2⟩; have HT2 := hide t2; have HL2 := hide l2; clear t2 l2))
      go_roundw
      case rel =>
        refine ⟨n + 1, by go_num, ?_, ?_, F2, ⟨?_, fun q hq => ?_⟩, ?_⟩
        · rw [iterP_succ]; exact HRS.out.1
        · rw [iterP_succ]; have := HRS.out.2; have := HLN.out; omega
        · exact HT.out.1.trans' HT2.out.1 (fun q hq hm => by
            rcases HT.out.2 q hm with e | e
            · exact e
            · omega)
        · rcases HT2.out.2 q hq with e | e
          · exact HT.out.2 q e
          · exact .inr (Nat.le_trans HT.out.1.size e)
        · rw [iterP_succ]; exact HL2.out
      case measure =>
        have := HLN.out
        have := HPOS.out
        simp [intOf]
        omega
end
end Go.Proofs.Ytpajdnjbeplneaa
