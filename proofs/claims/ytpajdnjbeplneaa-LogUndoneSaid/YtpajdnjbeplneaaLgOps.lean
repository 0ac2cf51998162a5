/-
  The log (parapet/wlog): Start, Begin, End, Abort.
-/
import Derived.Test.YtpajdnjbeplneaaLgPack
namespace Go.Proofs.Ytpajdnjbeplneaa
open Go.ChangeShapes Go.WideShapes Go.ChangeAt Go.RowKit Go.Maps
set_option linter.unusedVariables false
section
variable {w w' w1 : World} {g gd N a sz : Nat} {gen : Int} {v v' : Value} {m m' : Nat} {L L' : List GB} {SS SS' : Option SG} {st nx : Int} {plat : List Int} {l : List (Nat × List Int)} {rd wt fl : Int} {k k' : Nat} {FD F T : List Nat} {G : PG} {S : Option PG}
theorem LgI.far_g (h : LgI w g gd N a sz gen v m L SS st nx plat l rd wt fl k FD) : (∀ q, v.ownBlock = some q → q ≠ g) ∧ m ≠ g ∧ (∀ s, SS = some s → s.h ≠ g ∧ s.m ≠ g ∧ ∀ q, s.v.ownBlock = some q → q ≠ g) ∧ ∀ x ∈ bytesL L SS, x.b ≠ g := by
  refine ⟨h.gr.blk_v h.blk (by decide), (h.gr.blk_m h.blk).symm, fun s hs => ?_, fun x hx => (h.byte_ok hx).row.ne_ h.blk (by decide)⟩
  obtain ⟨k1, k2, _⟩ := h.sv s hs
  exact ⟨k1.ne_ h.blk (by decide), (k2.blk_m h.blk).symm, k2.blk_v h.blk (by decide)⟩
/-- Cells of the struct turned; what was kept may be let go. -/
theorem LgI.restr (h : LgI w g gd N a sz gen v m L SS st nx plat l rd wt fl k FD) {gen' st' nx' : Int} (ho : Only [g] w w1) (hsub : ∀ s, SS' = some s → SS = some s) (hg : 0 ≤ gen' ∧ gen' < 18446744073709551616)
    (hb : Blk w1 g 84 #[.pointer (some ⟨gd, 0, none⟩), .int .i64 a, .int .i64 sz, .int .u64 gen', v, .map (some m), bfV SS', .int .i64 st', .int .i64 nx']) : LgI w1 g gd N a sz gen' v m L SS' st' nx' plat l rd wt fl k FD := by
  obtain ⟨f1, f2, f3, f4⟩ := h.far_g
  have hgF : g ∉ FD := h.dis g (.inl (mem_footL.2 (.inl rfl)))
  refine ⟨hb, h.gr.only ho (fun q hq => by simpa using f1 q hq) (by simpa using f2) (fun x hx => by simpa using f4 x (mem_bytesL.2 (.inl hx))), fun s hs => ?_, h.dk.only ho (fun q hq hm => hgF (by simp at hm; exact hm ▸ hq)), fun q hq => h.dis q ?_, hg, h.rng, h.ok, fun s hs => h.oks s (hsub s hs)⟩
  · obtain ⟨k1, k2, k3, k4⟩ := h.sv s (hsub s hs)
    obtain ⟨j1, j2, j3⟩ := f3 s (hsub s hs)
    exact ⟨k1.only ho (by simpa using j1), k2.only ho (fun q hq => by simpa using j3 q hq) (by simpa using j2) (fun x hx => by simpa using f4 x (mem_bytesL.2 (.inr ⟨s, hsub s hs, hx⟩))), k3, k4⟩
  · rcases hq with hq | ⟨x, hx, rfl⟩
    · left
      rcases mem_footL.1 hq with e | e | e | ⟨s, hs, e⟩
      · exact mem_footL.2 (.inl e)
      · exact mem_footL.2 (.inr (.inl e))
      · exact mem_footL.2 (.inr (.inr (.inl e)))
      · exact mem_footL.2 (.inr (.inr (.inr ⟨s, hsub s hs, e⟩)))
    · refine .inr ⟨x, ?_, rfl⟩
      rcases mem_bytesL.1 hx with e | ⟨s, hs, e⟩
      · exact mem_bytesL.2 (.inl e)
      · exact mem_bytesL.2 (.inr ⟨s, hsub s hs, e⟩)
/-- The same, packed. -/
theorem Lg.turn (h1 : LgI w g gd N a sz gen v m L SS st nx plat l rd wt fl k FD) (h4 : ∀ q, q ∈ footL g v m SS ∨ (∃ x ∈ bytesL L SS, x.b = q) ∨ q ∈ FD → q ∈ F) {gen' st' nx' : Int} (ho : Only [g] w w1) (hsub : ∀ s, SS' = some s → SS = some s) (hg : 0 ≤ gen' ∧ gen' < 18446744073709551616)
    (hb : Blk w1 g 84 #[.pointer (some ⟨gd, 0, none⟩), .int .i64 a, .int .i64 sz, .int .u64 gen', v, .map (some m), bfV SS', .int .i64 st', .int .i64 nx']) : ∃ F', Turned w w1 F F' ∧ Lg w1 g gd N a sz gen' (gvG L) (SS'.map (fun s => gvG s.L)) st' nx' plat l k F' := by
  refine Lg.mk2 (h1.restr ho hsub hg hb) (ho.mono (fun q _ hq => by simp at hq; subst hq; exact h4 _ (.inl (mem_footL.2 (.inl rfl))))) (fun q hq => .inl (h4 q (.inl ?_))) (fun q hq => .inl (h4 q (.inr (.inr hq)))) (fun x hx => .inl (h4 _ (.inr (.inl ⟨x, ?_, rfl⟩))))
  · rcases mem_footL.1 hq with e | e | e | ⟨s, hs, e⟩
    · exact mem_footL.2 (.inl e)
    · exact mem_footL.2 (.inr (.inl e))
    · exact mem_footL.2 (.inr (.inr (.inl e)))
    · exact mem_footL.2 (.inr (.inr (.inr ⟨s, hsub s hs, e⟩)))
  · rcases mem_bytesL.1 hx with e | ⟨s, hs, e⟩
    · exact mem_bytesL.2 (.inl e)
    · exact mem_bytesL.2 (.inr ⟨s, hsub s hs, e⟩)
/-- May a commit start? -/
def startB (G : PG) (S : Option PG) (st : Int) : Bool := decide (st = 0) && S.isNone && !G.isEmpty
def DidLg (w w' : World) (g gd N a sz : Nat) (gen : Int) (G : PG) (S : Option PG) (st nx : Int) (plat : List Int) (l : List (Nat × List Int)) (k : Nat) (F : List Nat) : Prop := ∃ F', Turned w w' F F' ∧ Lg w' g gd N a sz gen G S st nx plat l k F'
theorem Lg.same (h : Lg w g gd N a sz gen G S st nx plat l k F) (ho : Only [] w w') : DidLg w w' g gd N a sz gen G S st nx plat l k F := ⟨F, Turned.same (ho.mono (by simp)), h.quiet ho⟩
section
variable (h : Lg w g gd N a sz gen G S st nx plat l k F)
include h
set_option maxRecDepth 100000 in
theorem lg_start : Calls Try.prog 14 #[.pointer (some ⟨g, 0, none⟩)] w fun e w' => e = .returned (.bool (startB G S st)) ∧ DidLg w w' g gd N a sz gen G S (if startB G S st then 1 else st) nx plat l k F := by
  have H := hide h
  obtain ⟨v, m, L, SS, rd, wt, fl, FD, h1, rfl, rfl, h4, _⟩ := h
  have HC := hide (lgclosed_is h1)
  have HR := hide (lgrunning_is h1)
  have H1 := hide h1
  have H4 := hide h4
  have c4 := h1.c4
  have c6 := h1.c6
  have f7 := h1.fr 7
  have c7 := h1.c7
  obtain ⟨A, c, hv, _⟩ := h1.gr.row.form2
  have HV := hide hv
  simp only [hv] at c4
  have hlen : (nsG L).length = (gvG L).length := by simp [nsG, gvG]
  rw [hlen] at c4
  clear h1 h4 hv hlen
  by_cases hs : st = 0
  · have hd : (!decide (st = 0)) = false := by simp [hs]
    rw [hd] at HR
    clear hd
    cases SS with
    | some s =>
      have hb : bfV (some s) = .pointer (some ⟨s.h, 0, none⟩) := rfl
      rw [hb] at c6
      have HB := hide (show startB (gvG L) (Option.map (fun s : SG => gvG s.L) (some s)) st = false by simp [startB])
      rw [HB.out]
      clear c7 hb hs
      go_enter Try.func14, Try.ntmps14
      go_wp2_with (first | (go_at_call 43; refine HC.out.mono ?_; rintro e w' ⟨rfl, rfl⟩) | (go_at_call 24; refine HR.out.mono ?_; rintro e w' ⟨rfl, rfl⟩))
      go_ret
      exact ⟨rfl, H.out.same (Only.refl _ _)⟩
    | none =>
      have hb : bfV none = .pointer none := rfl
      rw [hb] at c6
      by_cases hg : (gvG L).length = 0
      · have HB := hide (show startB (gvG L) (Option.map (fun s : SG => gvG s.L) none) st = false by simp [startB, List.length_eq_zero_iff.1 hg])
        rw [HB.out]
        have hd : decide ((gvG L).length = 0) = true := by simp [hg]
        rw [hg] at c4
        clear c7 hb hs hg hd
        go_enter Try.func14, Try.ntmps14
        go_wp2_with (first | (go_at_call 43; refine HC.out.mono ?_; rintro e w' ⟨rfl, rfl⟩) | (go_at_call 24; refine HR.out.mono ?_; rintro e w' ⟨rfl, rfl⟩))
        go_ret
        exact ⟨rfl, H.out.same (Only.refl _ _)⟩
      · have HB := hide (show startB (gvG L) (Option.map (fun s : SG => gvG s.L) none) st = true by
          cases hG : gvG L with
          | nil => rw [hG] at hg; simp at hg
          | cons x y => simp [startB, hs])
        rw [HB.out]
        have hd : decide (((gvG L).length : Int) = 0) = false := decide_eq_false (by omega)
        have hd2 : decide ((gvG L).length = 0) = false := decide_eq_false hg
        have hd3 : 0 < (gvG L).length := by omega
        clear hb hg
        have HT := hide ((Lg.turn (SS' := none) (st' := 1) (nx' := nx) (gen' := gen) H1.out H4.out ((Only.refl [g] w).setCell (p := ⟨g, 7, none⟩) (.int .i64 1) (by simp)) (by simp) H1.out.gen_ (H1.out.blk.set_ 7 _)))
        clear hs
        generalize (gvG L).length = n at c4 hd hd2 hd3
        go_enter Try.func14, Try.ntmps14
        go_wp2_with (first | (go_at_call 43; refine HC.out.mono ?_; rintro e w' ⟨rfl, rfl⟩) | (go_at_call 24; refine HR.out.mono ?_; rintro e w' ⟨rfl, rfl⟩))
        go_ret
        exact ⟨rfl, HT.out⟩
  · have hd : (!decide (st = 0)) = true := by simp [hs]
    rw [hd] at HR
    have HB := hide (show startB (gvG L) (SS.map (fun s => gvG s.L)) st = false by simp [startB, hs])
    rw [HB.out]
    clear hd c6 c7 c4
    go_enter Try.func14, Try.ntmps14
    go_wp2_with (first | (go_at_call 43; refine HC.out.mono ?_; rintro e w' ⟨rfl, rfl⟩) | (go_at_call 24; refine HR.out.mono ?_; rintro e w' ⟨rfl, rfl⟩))
    go_ret
    exact ⟨rfl, H.out.same (Only.refl _ _)⟩
end
end
end Go.Proofs.Ytpajdnjbeplneaa
