/-
  The log (parapet/wlog): mayBe, with, Format; Commit.
-/
import Derived.Test.YtpajdnjbeplneaaLgRun
import Derived.Test.YtpajdnjbeplneaaDiskNil
namespace Go.Proofs.Ytpajdnjbeplneaa
open Go.ChangeShapes Go.WideShapes Go.ChangeAt Go.RowKit Go.Maps
set_option linter.unusedVariables false
/-- May a log be? -/
def mayL (N : Nat) (a sz : Int) : Bool := decide (2 ≤ sz ∧ sz ≤ 248 ∧ 0 ≤ a ∧ a ≤ N - sz)
set_option maxRecDepth 100000 in
theorem mayBe_is {w : World} {dv : Option Addr} {N : Nat} (hN : N ≤ 4096) (a sz : Int) (hc : Calls Try.prog 67 #[.pointer dv] w fun e w' => e = .returned (.int .i64 N) ∧ w = w') : Calls Try.prog 53 #[.pointer dv, .int .i64 a, .int .i64 sz] w fun e w' => e = .returned (.bool (mayL N a sz)) ∧ w = w' := by
  have HC := hide hc
  clear hc
  by_cases h1 : 2 ≤ sz
  · by_cases h2 : sz ≤ 248
    · by_cases h3 : 0 ≤ a
      · have e1 : IntKind.i64.wrap ((N : Int) - sz) = (N : Int) - sz := IntWalk.i64_in _ (by omega)
        by_cases h4 : a ≤ (N : Int) - sz
        · have HM := hide (show mayL N a sz = true from decide_eq_true ⟨h1, h2, h3, h4⟩)
          rw [HM.out]
          have d4 : decide (a ≤ (N : Int) - sz) = true := decide_eq_true h4
          clear h4
          go_enter Try.func53, Try.ntmps53
          go_wp2_with (go_at_call 67; refine HC.out.mono ?_; rintro e w' ⟨rfl, rfl⟩)
          go_ret
          exact ⟨rfl, rfl⟩
        · have HM := hide (show mayL N a sz = false from decide_eq_false (fun h => h4 h.2.2.2))
          rw [HM.out]
          have d4 : decide (a ≤ (N : Int) - sz) = false := decide_eq_false h4
          clear h4
          go_enter Try.func53, Try.ntmps53
          go_wp2_with (go_at_call 67; refine HC.out.mono ?_; rintro e w' ⟨rfl, rfl⟩)
          go_ret
          exact ⟨rfl, rfl⟩
      · have HM := hide (show mayL N a sz = false from decide_eq_false (fun h => h3 h.2.2.1))
        rw [HM.out]
        have d3 : decide (0 ≤ a) = false := decide_eq_false h3
        clear h3
        go_enter Try.func53, Try.ntmps53
        go_wp2
        go_ret
        exact ⟨rfl, rfl⟩
    · have HM := hide (show mayL N a sz = false from decide_eq_false (fun h => h2 h.2.1))
      rw [HM.out]
      have d3 : decide (sz ≤ 248) = false := decide_eq_false h2
      clear h2
      go_enter Try.func53, Try.ntmps53
      go_wp2
      go_ret
      exact ⟨rfl, rfl⟩
  · have HM := hide (show mayL N a sz = false from decide_eq_false (fun h => h1 h.1))
    rw [HM.out]
    have d3 : decide (2 ≤ sz) = false := decide_eq_false h1
    clear h1
    go_enter Try.func53, Try.ntmps53
    go_wp2
    go_ret
    exact ⟨rfl, rfl⟩
section
variable {w w' w1 : World} {g gd N a sz : Nat} {gen gen' : Int} {plat plat' : List Int} {l l' : List (Nat × List Int)} {rd wt fl rd' wt' fl' : Int} {k k' : Nat} {FD FD' F T : List Nat} {G : PG} {S : Option PG} {p : LP}
/-- A new log with an empty group, of a disk that nothing was done to. -/
theorem with_is (hd : Dk w gd N plat l (-1) rd wt fl k FD) (hr : 2 ≤ sz ∧ sz ≤ 248 ∧ a + sz ≤ N) : Calls Try.prog 54 #[.pointer (some ⟨gd, 0, none⟩), .int .i64 a, .int .i64 sz] w fun e w' => ∃ g m, e = .returned (.pointer (some ⟨g, 0, none⟩)) ∧ w.heap.size ≤ g ∧ w.heap.size ≤ m ∧ Only [] w w' ∧ LgI w' g gd N a sz 0 (.slice none 0 0) m [] none 0 0 plat l rd wt fl k FD := by
  have HE := hide (empty_is w)
  have HD := hide hd
  clear hd
  go_enter Try.func54, Try.ntmps54
  go_wp2_with fail
  refine HE.out.mono ?_
  rintro e w1 ⟨m, rfl, hg, hm, ho⟩
  have HG := hide hg
  have HM := hide hm
  have HO := hide ho
  clear hg hm ho
  go_wp2
  go_ret
  have hl := HG.out.ltm
  have hA : Only [] w1 (w1.alloc (.cells #[.pointer (some ⟨gd, 0, none⟩), .int .i64 a, .int .i64 sz, .int .u64 0, .slice none 0 0, .map (some m), .pointer none, .int .i64 0, .int .i64 0] 84)) := (Only.refl [] w1).alloc _
  refine ⟨w1.heap.size, m, rfl, HO.out.size, HM.out, HO.out.trans hA, ⟨Blk.new _ _ _, HG.out.quiet hA, by simp, HD.out.quiet (HO.out.trans hA), fun q hq hm' => ?_, by decide, hr, ⟨by simp; omega, by simp⟩, by simp⟩⟩
  have h1 := HD.out.lt q hm'
  have h2 := HO.out.size
  have h3 := HM.out
  rcases hq with hq | ⟨x, hx, rfl⟩
  · rcases mem_footL.1 hq with e | e | e | ⟨s, hs, e⟩
    · omega
    · omega
    · simp [Value.ownBlock] at e
    · cases hs
  · rcases mem_bytesL.1 hx with e | ⟨s, hs, e⟩
    · cases e
    · cases hs
theorem format_no {dv : Option Addr} (hN : N ≤ 4096) (ai szi : Int) (hc : Calls Try.prog 67 #[.pointer dv] w fun e w' => e = .returned (.int .i64 N) ∧ w = w') (hm : mayL N ai szi = false) : Calls Try.prog 29 #[.pointer dv, .int .i64 ai, .int .i64 szi] w fun e w' => e = .returned (.tuple #[.pointer none, .int .i64 1]) ∧ w = w' := by
  have HM := hide (mayBe_is hN ai szi hc)
  rw [hm] at HM
  clear hc hm
  go_enter Try.func29, Try.ntmps29
  go_wp2_with (go_at_call 53; refine HM.out.mono ?_; rintro e w' ⟨rfl, rfl⟩)
  go_ret2
  exact ⟨rfl, rfl⟩
/-- Behind Format. -/
def fmtP (a : Nat) (plat : List Int) (l : List (Nat × List Int)) : LP := ⟨0, [], 0, 0, layAll plat (l ++ [(a, hdrF 0 [])]), []⟩
theorem fmt_end (a : Nat) (plat : List Int) (l : List (Nat × List Int)) : endP a ⟨0, [], 7, 0, plat, l⟩ = fmtP a plat l := rfl
set_option maxRecDepth 100000 in
set_option maxHeartbeats 1000000 in
theorem format_ok (hd : Dk w gd N plat l (-1) rd wt fl k FD) (hm : mayL N a sz = true) (hk : k < 4398040000000) : Calls Try.prog 29 #[.pointer (some ⟨gd, 0, none⟩), .int .i64 a, .int .i64 sz] w fun e w' => ∃ g F, e = .returned (.tuple #[.pointer (some ⟨g, 0, none⟩), .int .i64 0]) ∧ Only FD w w' ∧ (∀ q ∈ F, q ∈ FD ∨ w.heap.size ≤ q) ∧ LgP w' g gd N a sz none (fmtP a plat l) (k + 2) F := by
  have hN := hd.platOk.2.2
  have hr : 2 ≤ sz ∧ sz ≤ 248 ∧ a + sz ≤ N := by
    have := of_decide_eq_true hm
    omega
  have HM := hide (mayBe_is hN.2 (a : Int) (sz : Int) (dk_count hd))
  rw [hm] at HM
  have HW := hide (with_is hd hr)
  have HFD := hide hd.lt
  clear hd hm
  go_enter Try.func29, Try.ntmps29
  go_wp2_with (first | (go_at_call 53; refine HM.out.mono ?_; rintro e w' ⟨rfl, rfl⟩) | fail)
  refine HW.out.mono ?_
  rintro e w1 ⟨g, m, rfl, hg, hm, ho, hI⟩
  have f7 := hI.fr 7
  have c7 := hI.c7
  have o2 : Only [g] w1 (w1.setCell ⟨g, 7, none⟩ (.int .i64 7)) := (Only.refl _ _).setCell _ (by simp)
  have i2 := hI.restr (SS' := none) (gen' := 0) (st' := 7) (nx' := 0) o2 (fun s hs => hs) (by decide) (hI.blk.set_ 7 _)
  obtain ⟨F2, hT2, hL2⟩ := Lg.mk2 (w := w) (F := FD) i2 ((ho.mono (by simp)).trans' o2 (fun q hq hm => by simp at hm; omega)) (fun q hq => by
    rcases mem_footL.1 hq with e | e | e | ⟨s, hs, e⟩
    · exact .inr (e ▸ hg)
    · exact .inr (e ▸ hm)
    · simp [Value.ownBlock] at e
    · cases hs) (fun q hq => .inl hq) (fun x hx => by
    rcases mem_bytesL.1 hx with e | ⟨s, hs, e⟩
    · cases e
    · cases hs)
  have HL2 := hide (show LgP (w1.setCell ⟨g, 7, none⟩ (.int .i64 7)) g gd N a sz none ⟨0, [], 7, 0, plat, l⟩ k F2 from hL2)
  have HT2 := hide hT2
  clear hg hm ho hI o2 i2 hT2 hL2
  have HR := hide (lg_run HL2.out (.inr ⟨by show 1 ≤ 7; decide, by show 7 ≤ 8; decide, fun e => by simp [eachP] at e, fun _ => rfl, fun e => by simp at e⟩) (by omega))
  rw [fmt_end] at HR
  go_wp2_with (go_at_call 52; refine HR.out.mono ?_; rintro e w2 ⟨rfl, F3, t3, l3⟩; have HT3 := hide t3; have HL3 := hide l3; clear t3 l3)
  go_ret2
  refine ⟨g, F3, rfl, HT2.out.1.trans' HT3.out.1 (fun q hq hm => ?_), fun q hq => ?_, HL3.out⟩
  · rcases HT2.out.2 q hm with e | e
    · exact e
    · omega
  · rcases HT3.out.2 q hq with e | e
    · exact HT2.out.2 q e
    · exact .inr (Nat.le_trans HT2.out.1.size e)
/-- A commit that may start has started. -/
def startP (S : Option PG) (p : LP) : LP := if startB p.G S p.st then { p with st := 1 } else p
theorem start_runs {p : LP} (h : IdleP p ∨ RunsP p) : IdleP (startP S p) ∨ RunsP (startP S p) := by
  unfold startP
  split
  · rename_i hb
    right
    unfold startB at hb
    simp at hb
    have hne : 0 < p.G.length := by
      cases hG : p.G with
      | nil => rw [hG] at hb; simp at hb
      | cons x y => simp
    have h0 : p.nx = 0 := by
      rcases h with h | h
      · exact h.2
      · have := h.1; omega
    exact ⟨by simp, by simp, fun _ => by simp [h0, hne], fun e => by simp [eachP] at e, fun _ => hne⟩
  · exact h
theorem startP_same (S : Option PG) (p : LP) : (startP S p).gen = p.gen ∧ (startP S p).G = p.G ∧ (startP S p).nx = p.nx ∧ (startP S p).plat = p.plat ∧ (startP S p).l = p.l ∧ ((startP S p).st : Int) = if startB p.G S p.st then 1 else (p.st : Int) := by
  unfold startP
  split <;> simp
theorem lg_commit_busy {G' : PG} (h : LgP w g gd N a sz S p k F) (hS : S = some G') : Calls Try.prog 21 #[.pointer (some ⟨g, 0, none⟩)] w fun e w' => e = .returned (.tuple #[.int .i64 0, .int .i64 5]) ∧ w = w' := by
  have HC := hide (lg_closed h)
  obtain ⟨v, m, L, SS, rd, wt, fl, FD, h1, _, h3, _⟩ := h
  obtain ⟨s, rfl⟩ : ∃ s, SS = some s := by cases SS with | none => rw [hS] at h3; simp at h3 | some s => exact ⟨s, rfl⟩
  have c6 : w.cell? ⟨g, 6, none⟩ = some (.pointer (some ⟨s.h, 0, none⟩)) := h1.c6
  clear h1 h3 hS
  go_enter Try.func21, Try.ntmps21
  go_wp2_with (go_at_call 43; refine HC.out.mono ?_; rintro e w' ⟨rfl, rfl⟩)
  go_ret2
  exact ⟨rfl, rfl⟩
theorem lg_commit (h : LgP w g gd N a sz none p k F) (hr : IdleP p ∨ RunsP p) (hk : k < 4398046500000) : Calls Try.prog 21 #[.pointer (some ⟨g, 0, none⟩)] w fun e w' => e = .returned (.tuple #[.int .i64 (leftP (startP none p)), .int .i64 0]) ∧ DidP w w' g gd N a sz none (endP a (startP none p)) (k + leftP (startP none p)) F := by
  have HC := hide (lg_closed h)
  have HS := hide (lg_start h)
  have HR := hide (fun W F' (q : LgP W g gd N a sz none (startP none p) k F') => lg_run q (start_runs hr) hk)
  obtain ⟨v, m, L, SS, rd, wt, fl, FD, h1, _, h3, _⟩ := h
  obtain rfl : SS = none := by cases SS with | none => rfl | some s => simp at h3
  have c6 : w.cell? ⟨g, 6, none⟩ = some (.pointer none) := h1.c6
  clear h1 h3 hr
  go_enter Try.func21, Try.ntmps21
  go_wp2_with (first | (go_at_call 43; refine HC.out.mono ?_; rintro e w' ⟨rfl, rfl⟩) | (go_at_call 14; refine HS.out.mono ?_; rintro e w1 ⟨rfl, F1, t1, l1⟩; have HT1 := hide t1; have HR1 := hide (HR.out w1 F1 (by obtain ⟨s1, s2, s3, s4, s5, s6⟩ := startP_same none p; unfold LgP; rw [s1, s2, s3, s4, s5, s6]; exact l1)); clear t1 l1) | (go_at_call 52; refine HR1.out.mono ?_; rintro e w2 ⟨rfl, F2, t2, l2⟩; have HT2 := hide t2; have HL2 := hide l2; clear t2 l2))
  go_ret2
  refine ⟨rfl, F2, ⟨HT1.out.1.trans' HT2.out.1 (fun q hq hm => ?_), fun q hq => ?_⟩, HL2.out⟩
  · rcases HT1.out.2 q hm with e | e
    · exact e
    · omega
  · rcases HT2.out.2 q hq with e | e
    · exact HT1.out.2 q e
    · exact .inr (Nat.le_trans HT1.out.1.size e)
end
end Go.Proofs.Ytpajdnjbeplneaa
