/-
  The log (parapet/wlog): Start, Begin, End, Abort.
-/
import Derived.Test.YtokdpldmoflnkaaMg09
namespace Go.Proofs.Ytokdpldmoflnkaa
open Go.ChangeShapes Go.WideShapes Go.ChangeAt Go.RowKit Go.Maps
set_option linter.unusedVariables false
section
variable {w w' w1 : World} {g gd N a sz : Nat} {gen : Int} {v v' : Value} {m m' : Nat} {L L' : List GB} {SS SS' : Option SG} {st nx : Int} {plat : List Int} {l : List (Nat × List Int)} {rd wt fl : Int} {k k' : Nat} {FD F T : List Nat} {G : PG} {S : Option PG}
theorem LgI.far_g (h : LgI w g gd N a sz gen v m L SS st nx plat l rd wt fl k FD) : (∀ q, v.ownBlock = some q → q ≠ g) ∧ m ≠ g ∧ (∀ s, SS = some s → s.h ≠ g ∧ s.m ≠ g ∧ ∀ q, s.v.ownBlock = some q → q ≠ g) ∧ ∀ x ∈ bytesL L SS, x.b ≠ g := by
  refine ⟨h.gr.blk_v h.blk (by decide), (h.gr.blk_m h.blk).symm, fun s hs => ?_, fun x hx => (h.byte_ok hx).row.ne_ h.blk (by decide)⟩
  obtain ⟨k1, k2, _⟩ := h.sv s hs
  exact ⟨k1.ne_ h.blk (by decide), (k2.blk_m h.blk).symm, k2.blk_v h.blk (by decide)⟩
/-- Cells of the struct turned; what was kept may be let go. -/
theorem LgI.restr (h : LgI w g gd N a sz gen v m L SS st nx plat l rd wt fl k FD) {gen' st' nx' : Int} (ho : Only [g] w w1) (hsub : ∀ s, SS' = some s → SS = some s) (hg : 0 ≤ gen' ∧ gen' < 18446744073709551616)
    (hb : Blk w1 g 83 #[.pointer (some ⟨gd, 0, none⟩), .int .i64 a, .int .i64 sz, .int .u64 gen', v, .map (some m), bfV SS', .int .i64 st', .int .i64 nx']) : LgI w1 g gd N a sz gen' v m L SS' st' nx' plat l rd wt fl k FD := by
  obtain ⟨f1, f2, f3, f4⟩ := h.far_g
  have hgF : g ∉ FD := h.dis g (.inl (mem_footL.2 (.inl rfl)))
  refine ⟨hb, h.gr.only ho (fun q hq => by simpa using f1 q hq) (by simpa using f2) (fun x hx => by simpa using f4 x (mem_bytesL.2 (.inl hx))), fun s hs => ?_, h.dk.only ho (fun q hq hm => hgF (by simp at hm; exact hm ▸ hq)), fun q hq => h.dis q ?_, hg, h.rng, h.ok, fun s hs => h.oks s (hsub s hs)⟩
  · obtain ⟨k1, k2, k3, k4⟩ := h.sv s (hsub s hs)
    obtain ⟨j1, j2, j3⟩ := f3 s (hsub s hs)
    exact ⟨k1.only ho (by simpa using j1), k2.only ho (fun q hq => by simpa using j3 q hq) (by simpa using j2) (fun x hx => by simpa using f4 x (mem_bytesL.2 (.inr ⟨s, hsub s hs, hx⟩))), k3, k4⟩
  · rcases hq with hq | ⟨x, hx, rfl⟩
    · left
      rcases mem_footL.1 hq with e | e | e | ⟨s, hs, e⟩
      · exact mem_footL.2 (.inl e)
      · exact mem_footL.2 (.inr (.inl e))
      · exact mem_footL.2 (.inr (.inr (.inl e)))
      · exact mem_footL.2 (.inr (.inr (.inr ⟨s, hsub s hs, e⟩)))
    · refine .inr ⟨x, ?_, rfl⟩
      rcases mem_bytesL.1 hx with e | ⟨s, hs, e⟩
      · exact mem_bytesL.2 (.inl e)
      · exact mem_bytesL.2 (.inr ⟨s, hsub s hs, e⟩)
/-- The same, packed. -/
theorem Lg.turn (h1 : LgI w g gd N a sz gen v m L SS st nx plat l rd wt fl k FD) (h4 : ∀ q, q ∈ footL g v m SS ∨ (∃ x ∈ bytesL L SS, x.b = q) ∨ q ∈ FD → q ∈ F) {gen' st' nx' : Int} (ho : Only [g] w w1) (hsub : ∀ s, SS' = some s → SS = some s) (hg : 0 ≤ gen' ∧ gen' < 18446744073709551616)
    (hb : Blk w1 g 83 #[.pointer (some ⟨gd, 0, none⟩), .int .i64 a, .int .i64 sz, .int .u64 gen', v, .map (some m), bfV SS', .int .i64 st', .int .i64 nx']) : ∃ F', Turned w w1 F F' ∧ Lg w1 g gd N a sz gen' (gvG L) (SS'.map (fun s => gvG s.L)) st' nx' plat l k F' := by
  refine Lg.mk2 (h1.restr ho hsub hg hb) (ho.mono (fun q _ hq => by simp at hq; subst hq; exact h4 _ (.inl (mem_footL.2 (.inl rfl))))) (fun q hq => .inl (h4 q (.inl ?_))) (fun q hq => .inl (h4 q (.inr (.inr hq)))) (fun x hx => .inl (h4 _ (.inr (.inl ⟨x, ?_, rfl⟩))))
  · rcases mem_footL.1 hq with e | e | e | ⟨s, hs, e⟩
    · exact mem_footL.2 (.inl e)
    · exact mem_footL.2 (.inr (.inl e))
    · exact mem_footL.2 (.inr (.inr (.inl e)))
    · exact mem_footL.2 (.inr (.inr (.inr ⟨s, hsub s hs, e⟩)))
  · rcases mem_bytesL.1 hx with e | ⟨s, hs, e⟩
    · exact mem_bytesL.2 (.inl e)
    · exact mem_bytesL.2 (.inr ⟨s, hsub s hs, e⟩)
/-- May a commit start? -/
def startB (G : PG) (S : Option PG) (st : Int) : Bool := decide (st = 0) && S.isNone && !G.isEmpty
def DidLg (w w' : World) (g gd N a sz : Nat) (gen : Int) (G : PG) (S : Option PG) (st nx : Int) (plat : List Int) (l : List (Nat × List Int)) (k : Nat) (F : List Nat) : Prop := ∃ F', Turned w w' F F' ∧ Lg w' g gd N a sz gen G S st nx plat l k F'
theorem Lg.same (h : Lg w g gd N a sz gen G S st nx plat l k F) (ho : Only [] w w') : DidLg w w' g gd N a sz gen G S st nx plat l k F := ⟨F, Turned.same (ho.mono (by simp)), h.quiet ho⟩
section
variable (h : Lg w g gd N a sz gen G S st nx plat l k F)
include h
set_option maxRecDepth 100000 in
theorem lg_start : Calls Try.prog 22 #[.pointer (some ⟨g, 0, none⟩)] w fun e w' => e = .returned (.bool (startB G S st)) ∧ DidLg w w' g gd N a sz gen G S (if startB G S st then 1 else st) nx plat l k F := by
  have H := hide h
  obtain ⟨v, m, L, SS, rd, wt, fl, FD, h1, rfl, rfl, h4, _⟩ := h
  have HC := hide (lgclosed_is h1)
  have HR := hide (lgrunning_is h1)
  have H1 := hide h1
  have H4 := hide h4
  have c4 := h1.c4
  have c6 := h1.c6
  have f7 := h1.fr 7
  have c7 := h1.c7
  obtain ⟨A, c, hv, _⟩ := h1.gr.row.form2
  have HV := hide hv
  simp only [hv] at c4
  have hlen : (nsG L).length = (gvG L).length := by simp [nsG, gvG]
  rw [hlen] at c4
  clear h1 h4 hv hlen
  by_cases hs : st = 0
  · have hd : (!decide (st = 0)) = false := by simp [hs]
    rw [hd] at HR
    clear hd
    cases SS with
    | some s =>
      have hb : bfV (some s) = .pointer (some ⟨s.h, 0, none⟩) := rfl
      rw [hb] at c6
      have HB := hide (show startB (gvG L) (Option.map (fun s : SG => gvG s.L) (some s)) st = false by simp [startB])
      rw [HB.out]
      clear c7 hb hs
      go_enter Try.func22, Try.ntmps22
      go_wp2_with (first | (go_at_call 49; refine HC.out.mono ?_; rintro e w' ⟨rfl, rfl⟩) | (go_at_call 34; refine HR.out.mono ?_; rintro e w' ⟨rfl, rfl⟩))
      go_ret
      exact ⟨rfl, H.out.same (Only.refl _ _)⟩
    | none =>
      have hb : bfV none = .pointer none := rfl
      rw [hb] at c6
      by_cases hg : (gvG L).length = 0
      · have HB := hide (show startB (gvG L) (Option.map (fun s : SG => gvG s.L) none) st = false by simp [startB, List.length_eq_zero_iff.1 hg])
        rw [HB.out]
        have hd : decide ((gvG L).length = 0) = true := by simp [hg]
        rw [hg] at c4
        clear c7 hb hs hg hd
        go_enter Try.func22, Try.ntmps22
        go_wp2_with (first | (go_at_call 49; refine HC.out.mono ?_; rintro e w' ⟨rfl, rfl⟩) | (go_at_call 34; refine HR.out.mono ?_; rintro e w' ⟨rfl, rfl⟩))
        go_ret
        exact ⟨rfl, H.out.same (Only.refl _ _)⟩
      · have HB := hide (show startB (gvG L) (Option.map (fun s : SG => gvG s.L) none) st = true by
          cases hG : gvG L with
          | nil => rw [hG] at hg; simp at hg
          | cons x y => simp [startB, hs])
        rw [HB.out]
        have hd : decide (((gvG L).length : Int) = 0) = false := decide_eq_false (by omega)
        have hd2 : decide ((gvG L).length = 0) = false := decide_eq_false hg
        have hd3 : 0 < (gvG L).length := by omega
        clear hb hg
        have HT := hide ((Lg.turn (SS' := none) (st' := 1) (nx' := nx) (gen' := gen) H1.out H4.out ((Only.refl [g] w).setCell (p := ⟨g, 7, none⟩) (.int .i64 1) (by simp)) (by simp) H1.out.gen_ (H1.out.blk.set_ 7 _)))
        clear hs
        generalize (gvG L).length = n at c4 hd hd2 hd3
        go_enter Try.func22, Try.ntmps22
        go_wp2_with (first | (go_at_call 49; refine HC.out.mono ?_; rintro e w' ⟨rfl, rfl⟩) | (go_at_call 34; refine HR.out.mono ?_; rintro e w' ⟨rfl, rfl⟩))
        go_ret
        exact ⟨rfl, HT.out⟩
  · have hd : (!decide (st = 0)) = true := by simp [hs]
    rw [hd] at HR
    have HB := hide (show startB (gvG L) (SS.map (fun s => gvG s.L)) st = false by simp [startB, hs])
    rw [HB.out]
    clear hd c6 c7 c4
    go_enter Try.func22, Try.ntmps22
    go_wp2_with (first | (go_at_call 49; refine HC.out.mono ?_; rintro e w' ⟨rfl, rfl⟩) | (go_at_call 34; refine HR.out.mono ?_; rintro e w' ⟨rfl, rfl⟩))
    go_ret
    exact ⟨rfl, H.out.same (Only.refl _ _)⟩
end
end
end Go.Proofs.Ytokdpldmoflnkaa
/-
  The log (parapet/wlog): End, Abort, Read.
-/
namespace Go.Proofs.Ytokdpldmoflnkaa
open Go.ChangeShapes Go.WideShapes Go.ChangeAt Go.RowKit Go.Maps
set_option linter.unusedVariables false
/-- What a block reads as. -/
def readG (G : PG) (plat : List Int) (l : List (Nat × List Int)) (n : Int) : List Int := match G.find? (fun p => decide (p.1 = n)) with | some p => p.2 | none => sect plat l n.toNat
theorem readG_in {G : PG} {plat : List Int} {l : List (Nat × List Int)} {n : Int} {d : List Int} (hn : (G.map (·.1)).Nodup) (h : (n, d) ∈ G) : readG G plat l n = d := by
  have : G.find? (fun p => decide (p.1 = n)) = some (n, d) := by
    induction G with
    | nil => cases h
    | cons x G ih =>
      rw [List.map_cons, List.nodup_cons] at hn
      rw [List.find?_cons]
      by_cases e : x.1 = n
      · rcases List.mem_cons.1 h with h | h
        · rw [show decide (x.1 = n) = true from decide_eq_true e, h]
        · exact absurd (List.mem_map.2 ⟨_, h, rfl⟩) (e ▸ hn.1)
      · rw [show decide (x.1 = n) = false from decide_eq_false e]
        rcases List.mem_cons.1 h with h | h
        · rw [← h] at e; exact absurd rfl e
        · exact ih hn.2 h
  unfold readG
  rw [this]
theorem readG_out {G : PG} {plat : List Int} {l : List (Nat × List Int)} {n : Int} (h : n ∉ G.map (·.1)) : readG G plat l n = sect plat l n.toNat := by
  have : G.find? (fun p => decide (p.1 = n)) = none := by
    rw [List.find?_eq_none]
    intro x hx
    simp
    exact fun e => h (List.mem_map.2 ⟨x, hx, e⟩)
  unfold readG
  rw [this]
section
variable {w w' w1 : World} {g gd N a sz : Nat} {gen : Int} {v v' : Value} {m m' : Nat} {L L' : List GB} {SS SS' : Option SG} {st nx : Int} {plat : List Int} {l : List (Nat × List Int)} {rd wt fl : Int} {k k' : Nat} {FD F T : List Nat} {G : PG} {S : Option PG}
section
variable (h : Lg w g gd N a sz gen G S st nx plat l k F)
include h
set_option maxRecDepth 100000 in
theorem lg_end_none (hS : S = none) : Calls Try.prog 19 #[.pointer (some ⟨g, 0, none⟩)] w fun e w' => e = .returned (.int .i64 4) ∧ w = w' := by
  obtain ⟨v, m, L, SS, rd, wt, fl, FD, h1, rfl, h3, h4, _⟩ := h
  obtain rfl : SS = none := by cases SS with | none => rfl | some s => rw [hS] at h3; simp at h3
  have HC := hide (lgclosed_is h1)
  have c6 : w.cell? ⟨g, 6, none⟩ = some (.pointer none) := h1.c6
  clear h1 h4 h3 hS
  go_enter Try.func19, Try.ntmps19
  go_wp2_with (go_at_call 49; refine HC.out.mono ?_; rintro e w' ⟨rfl, rfl⟩)
  go_ret
  exact ⟨rfl, rfl⟩
set_option maxRecDepth 100000 in
theorem lg_end {G' : PG} (hS : S = some G') : Calls Try.prog 19 #[.pointer (some ⟨g, 0, none⟩)] w fun e w' => e = .returned (.int .i64 0) ∧ DidLg w w' g gd N a sz gen G none st nx plat l k F := by
  obtain ⟨v, m, L, SS, rd, wt, fl, FD, h1, rfl, h3, h4, _⟩ := h
  obtain ⟨s, rfl⟩ : ∃ s, SS = some s := by cases SS with | none => rw [hS] at h3; simp at h3 | some s => exact ⟨s, rfl⟩
  have HC := hide (lgclosed_is h1)
  have c6 : w.cell? ⟨g, 6, none⟩ = some (.pointer (some ⟨s.h, 0, none⟩)) := h1.c6
  have f6 := h1.fr 6
  have HT := hide (Lg.turn (SS' := none) (st' := st) (nx' := nx) (gen' := gen) h1 h4 ((Only.refl [g] w).setCell (p := ⟨g, 6, none⟩) (.pointer none) (by simp)) (by simp) h1.gen_ (h1.blk.set_ 6 _))
  clear h1 h4 h3 hS
  go_enter Try.func19, Try.ntmps19
  go_wp2_with (go_at_call 49; refine HC.out.mono ?_; rintro e w' ⟨rfl, rfl⟩)
  go_ret
  exact ⟨rfl, HT.out⟩
set_option maxRecDepth 100000 in
theorem lg_abort_none (hS : S = none) : Calls Try.prog 21 #[.pointer (some ⟨g, 0, none⟩)] w fun e w' => e = .returned (.int .i64 4) ∧ w = w' := by
  obtain ⟨v, m, L, SS, rd, wt, fl, FD, h1, rfl, h3, h4, _⟩ := h
  obtain rfl : SS = none := by cases SS with | none => rfl | some s => rw [hS] at h3; simp at h3
  have HC := hide (lgclosed_is h1)
  have c6 : w.cell? ⟨g, 6, none⟩ = some (.pointer none) := h1.c6
  clear h1 h4 h3 hS
  go_enter Try.func21, Try.ntmps21
  go_wp2_with (go_at_call 49; refine HC.out.mono ?_; rintro e w' ⟨rfl, rfl⟩)
  go_ret
  exact ⟨rfl, rfl⟩
set_option maxRecDepth 100000 in
theorem lg_abort {G' : PG} (hS : S = some G') : Calls Try.prog 21 #[.pointer (some ⟨g, 0, none⟩)] w fun e w' => e = .returned (.int .i64 0) ∧ DidLg w w' g gd N a sz gen G' none st nx plat l k F := by
  obtain ⟨v, m, L, SS, rd, wt, fl, FD, h1, rfl, h3, h4, _⟩ := h
  obtain ⟨s, rfl⟩ : ∃ s, SS = some s := by cases SS with | none => rw [hS] at h3; simp at h3 | some s => exact ⟨s, rfl⟩
  have hG : gvG s.L = G' := by rw [hS] at h3; simpa using h3
  subst hG
  have HC := hide (lgclosed_is h1)
  have c6 : w.cell? ⟨g, 6, none⟩ = some (.pointer (some ⟨s.h, 0, none⟩)) := h1.c6
  have c4 := h1.c4
  have c5 := h1.c5
  obtain ⟨b1, b2, b3, b4⟩ := h1.sv s rfl
  obtain ⟨f1, f2, f3, f4⟩ := h1.far_g
  obtain ⟨j1, j2, j3⟩ := f3 s rfl
  have s0 := b1.cell 0
  have s1 := b1.cell 1
  have fr4 := h1.fr 4
  have fr5 := h1.fr 5
  have fr6 := h1.fr 6
  obtain ⟨A, c, hv, _⟩ := h1.gr.row.form2
  obtain ⟨A2, cc2, hv2, _⟩ := b2.row.form2
  have ho : Only [g] w (((w.setCell ⟨g, 4, none⟩ s.v).setCell ⟨g, 5, none⟩ (.map (some s.m))).setCell ⟨g, 6, none⟩ (.pointer none)) := (((Only.refl [g] w).setCell (p := ⟨g, 4, none⟩) s.v (by simp)).setCell (p := ⟨g, 5, none⟩) (.map (some s.m)) (by simp)).setCell (p := ⟨g, 6, none⟩) (.pointer none) (by simp)
  have hI : LgI (((w.setCell ⟨g, 4, none⟩ s.v).setCell ⟨g, 5, none⟩ (.map (some s.m))).setCell ⟨g, 6, none⟩ (.pointer none)) g gd N a sz gen s.v s.m s.L none st nx plat l rd wt fl k FD := by
    have hgF : g ∉ FD := h1.dis g (.inl (mem_footL.2 (.inl rfl)))
    refine ⟨((h1.blk.set_ 4 s.v).set_ 5 (.map (some s.m))).set_ 6 (.pointer none), b2.only ho (fun q hq => by simpa using j3 q hq) (by simpa using j2) (fun x hx => by simpa using f4 x (mem_bytesL.2 (.inr ⟨s, rfl, hx⟩))), by simp, h1.dk.only ho (fun q hq hm => hgF (by simp at hm; exact hm ▸ hq)), fun q hq => h1.dis q ?_, h1.gen_, h1.rng, h1.oks s rfl, by simp⟩
    rcases hq with hq | ⟨x, hx, rfl⟩
    · left
      rcases mem_footL.1 hq with e | e | e | ⟨s', hs, e⟩
      · exact mem_footL.2 (.inl e)
      · exact mem_footL.2 (.inr (.inr (.inr ⟨s, rfl, .inr (.inl e)⟩)))
      · exact mem_footL.2 (.inr (.inr (.inr ⟨s, rfl, .inr (.inr e)⟩)))
      · cases hs
    · refine .inr ⟨x, ?_, rfl⟩
      rcases mem_bytesL.1 hx with e | ⟨s', hs, e⟩
      · exact mem_bytesL.2 (.inr ⟨s, rfl, e⟩)
      · cases hs
  have HT := hide (Lg.mk2 hI (ho.mono (fun q _ hq => by simp at hq; subst hq; exact h4 _ (.inl (mem_footL.2 (.inl rfl))))) (fun q hq => .inl (by
    rcases mem_footL.1 hq with e | e | e | ⟨s', hs, e⟩
    · exact h4 _ (.inl (mem_footL.2 (.inl e)))
    · exact h4 _ (.inl (mem_footL.2 (.inr (.inr (.inr ⟨s, rfl, .inr (.inl e)⟩)))))
    · exact h4 _ (.inl (mem_footL.2 (.inr (.inr (.inr ⟨s, rfl, .inr (.inr e)⟩)))))
    · cases hs)) (fun q hq => .inl (h4 q (.inr (.inr hq)))) (fun x hx => .inl (by
    rcases mem_bytesL.1 hx with e | ⟨s', hs, e⟩
    · exact h4 _ (.inr (.inl ⟨x, mem_bytesL.2 (.inr ⟨s, rfl, e⟩), rfl⟩))
    · cases hs)))
  rw [hv2] at HT s0
  rw [hv] at c4
  clear h1 h4 h3 hS b1 b2 b3 b4 f1 f2 f3 f4 j1 j2 j3 ho hI hv hv2
  go_enter Try.func21, Try.ntmps21
  go_wp2_with (go_at_call 49; refine HC.out.mono ?_; rintro e w' ⟨rfl, rfl⟩)
  go_ret
  exact ⟨rfl, HT.out⟩
set_option maxRecDepth 100000 in
theorem lg_read_bad (n : Int) (hn : blkB N a sz n = false) : Calls Try.prog 15 #[.pointer (some ⟨g, 0, none⟩), .int .i64 n] w fun e w' => e = .returned (.tuple #[.slice none 0 0, .int .i64 1]) ∧ Only [] w w' := by
  have HC := hide (lg_closed h)
  have HH := hide (lg_has h n)
  rw [hn] at HH
  clear h hn
  go_enter Try.func15, Try.ntmps15
  go_wp2_with (first | (go_at_call 49; refine HC.out.mono ?_; rintro e w' ⟨rfl, rfl⟩) | (go_at_call 50; refine HH.out.mono ?_; rintro e w1 ⟨rfl, ho⟩; have HO := hide ho; clear ho))
  go_ret2
  exact ⟨rfl, HO.out⟩
set_option maxRecDepth 100000 in
set_option maxHeartbeats 1000000 in
theorem lg_read (n : Int) (hn : blkB N a sz n = true) (hk : k < 4611686018427387904) : Calls Try.prog 15 #[.pointer (some ⟨g, 0, none⟩), .int .i64 n] w fun e w' => ∃ vd, e = .returned (.tuple #[vd, .int .i64 0]) ∧ Fresh w' w.heap.size vd (readG G plat l n) ∧ Turned w w' F F ∧ Lg w' g gd N a sz gen G S st nx plat l (k + 1) F := by
  have H := hide h
  have HC := hide (lg_closed h)
  have HH := hide (lg_has h n)
  rw [hn] at HH
  obtain ⟨v, m, L, SS, rd, wt, fl, FD, h1, rfl, h3, h4, h5⟩ := h
  have hb := blkB_yes.1 hn
  have hbig := h1.big
  have hw : iW n := WalkArith.wf_i64 (by omega)
  by_cases hm : n ∈ nsG L
  · obtain ⟨x, hx, rfl⟩ := gr_find hm
    have HR := hide (readG_in (G := gvG L) (plat := plat) (l := l) (n := x.n) (d := x.d) (by rw [gvG_keys]; exact h1.gr.nd) (List.mem_map.2 ⟨x, hx, rfl⟩))
    rw [HR.out]
    have HL := hide (fun W (ho : Only [] w W) => (show W.cell? ⟨g, 5, none⟩ = some (.map (some m)) ∧ (Instr.lookup 78 (.map (some m)) (.int .i64 x.n) true).run Try.prog W = .ok (.tuple #[.slice (some ⟨x.b, 0, none⟩) 512 (512 + x.r.length), .bool true]) W from by
      have q := h1.quiet ho
      obtain ⟨D, k1, k2⟩ := q.gr.own
      exact ⟨q.c5, lookY_ok k2 k1 (List.mem_map.2 ⟨x, hx, rfl⟩)⟩))
    have HK := hide (fun W (ho : Only [] w W) => (clone_ok ⟨x.b, 0, none⟩ 512 (512 + x.r.length) x.d W (h1.gr.ok x hx).len (by omega) (fun j hj => by
      rw [add_at, Nat.zero_add, ((h1.gr.ok x hx).only ho (by simp)).row.cell]
      exact u8l_get _ _ j (by rw [(h1.gr.ok x hx).len]; exact hj))).mono (R' := fun e w' => ∃ v', e = .returned v' ∧ Fresh w' W.heap.size v' x.d ∧ Only [] W w') (fun e w' h => h))
    clear h1 h3 h4 h5 hn hb hbig hw hm hx
    go_enter Try.func15, Try.ntmps15
    go_wp2_with (first | (go_at_call 49; refine HC.out.mono ?_; rintro e w' ⟨rfl, rfl⟩) | (go_at_call 50; refine HH.out.mono ?_; rintro e w1 ⟨rfl, ho⟩; have HO := hide ho; obtain ⟨c5, hlk⟩ := HL.out _ ho; clear ho) | (go_at_call 52; refine (HK.out _ HO.out).mono ?_; rintro e w2 ⟨v2, rfl, hf, ho⟩; have HF := hide hf; have HO2 := hide ho; clear hf ho))
    go_ret2
    exact ⟨_, rfl, HF.out.mono HO.out.size, Turned.same ((HO.out.trans HO2.out).mono (by simp)), (H.out.quiet (HO.out.trans HO2.out)).more (Nat.le_succ _)⟩
  · have HR := hide (readG_out (plat := plat) (l := l) (n := n) (G := gvG L) (by rw [gvG_keys]; exact hm))
    rw [HR.out]
    obtain ⟨n', rfl⟩ := Int.eq_ofNat_of_zero_le hb.1
    rw [Int.toNat_natCast]
    have HL := hide (fun W (ho : Only [] w W) => (show W.cell? ⟨g, 0, none⟩ = some (.pointer (some ⟨gd, 0, none⟩)) ∧ W.cell? ⟨g, 5, none⟩ = some (.map (some m)) ∧ (Instr.lookup 78 (.map (some m)) (.int .i64 (n' : Int)) true).run Try.prog W = .ok (.tuple #[.slice none 0 0, .bool false]) W from by
      have q := h1.quiet ho
      obtain ⟨D, k1, k2⟩ := q.gr.own
      exact ⟨q.c0, q.c5, lookY_nok k2 k1 hw (by rw [refG_keys]; exact hm)⟩))
    have HK := hide (fun W (ho : Only [] w W) => (dk_read (h1.quiet ho).dk n' (by omega) hk).mono (R' := fun e w' => ∃ v', e = .returned (.tuple #[v', .int .i64 0]) ∧ Fresh w' w.heap.size v' (sect plat l n') ∧ Turned w w' F F ∧ Lg w' g gd N a sz gen (gvG L) S st nx plat l (k + 1) F) (fun e w' ⟨v', e1, e2, e3, e4⟩ => ⟨v', e1, e2.mono ho.size, Turned.same ((ho.mono (by simp)).trans (e3.1.mono (fun q _ hq => h4 q (.inr (.inr hq))))), by
      have q := h1.quiet ho
      have hI := (q.more (Nat.le_succ k))
      have dn : ∀ q ∈ footL g v m SS, q ∉ FD := fun q hq => h1.dis q (.inl hq)
      have db : ∀ x ∈ bytesL L SS, x.b ∉ FD := fun x hx => h1.dis _ (.inr ⟨x, hx, rfl⟩)
      refine ⟨v, m, L, SS, rd + 1, wt, fl, FD, ⟨q.blk.only e3.1 (dn _ (mem_footL.2 (.inl rfl))), q.gr.only e3.1 (fun z hz => dn z (mem_footL.2 (.inr (.inr (.inl hz))))) (dn _ (mem_footL.2 (.inr (.inl rfl)))) (fun x hx => db x (mem_bytesL.2 (.inl hx))), fun s hs => ?_, e4, h1.dis, h1.gen_, h1.rng, h1.ok, h1.oks⟩, rfl, h3, h4, fun z hz => Nat.lt_of_lt_of_le (h5 z hz) (Nat.le_trans ho.size e3.1.size)⟩
      obtain ⟨k1, k2, k3, k4⟩ := q.sv s hs
      exact ⟨k1.only e3.1 (dn _ (mem_footL.2 (.inr (.inr (.inr ⟨s, hs, .inl rfl⟩))))), k2.only e3.1 (fun z hz => dn z (mem_footL.2 (.inr (.inr (.inr ⟨s, hs, .inr (.inr hz)⟩))))) (dn _ (mem_footL.2 (.inr (.inr (.inr ⟨s, hs, .inr (.inl rfl)⟩))))) (fun x hx => db x (mem_bytesL.2 (.inr ⟨s, hs, hx⟩))), k3, k4⟩⟩))
    clear h1 h3 h4 h5 hn hb hbig hw hm
    go_enter Try.func15, Try.ntmps15
    go_wp2_with (first | (go_at_call 49; refine HC.out.mono ?_; rintro e w' ⟨rfl, rfl⟩) | (go_at_call 50; refine HH.out.mono ?_; rintro e w1 ⟨rfl, ho⟩; have HO := hide ho; obtain ⟨c0, c5, hlk⟩ := HL.out _ ho; clear ho) | (go_at_call 41; refine (HK.out _ HO.out).mono ?_; rintro e w2 ⟨v2, rfl, hf⟩; have HF := hide hf; clear hf))
    go_ret2
    exact ⟨_, rfl, HF.out⟩
end
end
end Go.Proofs.Ytokdpldmoflnkaa
/-
  The log (parapet/wlog): group.clone; Begin.
-/
namespace Go.Proofs.Ytokdpldmoflnkaa
open Go.ChangeShapes Go.WideShapes Go.ChangeAt Go.RowKit Go.Maps
set_option linter.unusedVariables false
theorem mpcloneO_is {w : World} {m n : Nat} {D : DataW Unit} (h : w.ownsMap Try.prog 3 elemSl m n D) : Calls Try.prog 70 #[.map (some m)] w fun e w' => e = .returned (.map (some w.heap.size)) ∧ w'.ownsMap Try.prog 3 elemSl w.heap.size n D ∧ Only [] w w' := by
  obtain ⟨es, clock, hb, rest⟩ := h
  refine (mpcloneY_is w m es clock hb).mono ?_
  rintro e w' ⟨rfl, rfl⟩
  exact ⟨rfl, ⟨es, clock, heap_alloc_new w _, rest⟩, (Only.refl _ _).alloc _⟩
section
variable {w w' w1 : World} {g gd N a sz : Nat} {gen : Int} {v v' : Value} {m m' : Nat} {L L' : List GB} {SS SS' : Option SG} {st nx : Int} {plat : List Int} {l : List (Nat × List Int)} {rd wt fl : Int} {k k' : Nat} {FD F T : List Nat} {G : PG} {S : Option PG}
/-- A group's like, made behind w. -/
def ClonedG (w w' : World) (e : Ending) (L : List GB) : Prop := ∃ v' m', e = .returned (.agg #[v', .map (some m')]) ∧ IsGr w' v' m' L ∧ w.heap.size ≤ m' ∧ (∀ q, v'.ownBlock = some q → w.heap.size ≤ q) ∧ Only [] w w'
set_option maxRecDepth 100000 in
set_option maxHeartbeats 1500000 in
theorem gclone_is (h : IsGr w v m L) (hl : L.length ≤ 4096) : Calls Try.prog 56 #[.agg #[v, .map (some m)]] w fun e w' => ClonedG w w' e L := by
  obtain ⟨A, c, rfl, _⟩ := h.row.form2
  have HK := hide (fun W (ho : Only [] w W) => cloneI_is (h.quiet ho).row (by rw [nsG_length]; omega))
  have HM := hide (fun W (ho : Only [] w W) => (show ∃ D, W.ownsMap Try.prog 3 elemSl m (refG L).length D ∧ MHolds encY D (refG L) from (h.quiet ho).own))
  have HOK := hide h.ok
  have HA := hide (fun W (ho : Only [] ((w.alloc (.cells #[.slice A (nsG L).length c, .map (some m)] 80)).alloc (.cells #[.slice none 0 0, .map none] 80)) W) => (show W.cell? ⟨w.heap.size, 0, none⟩ = some (.slice A (nsG L).length c) ∧ W.cell? ⟨w.heap.size, 1, none⟩ = some (.map (some m)) ∧ Blk W (w.heap.size + 1) 80 #[.slice none 0 0, .map none] ∧ Only [] w W from by
    have b0 := ((Blk.new w 80 #[.slice A (nsG L).length c, .map (some m)]).alloc (.cells #[.slice none 0 0, .map none] 80)).only ho (by simp)
    have b1 := (Blk.new (w.alloc (.cells #[.slice A (nsG L).length c, .map (some m)] 80)) 80 #[.slice none 0 0, .map none]).only ho (by simp)
    simp only [World.size_alloc] at b1
    exact ⟨b0.cell 0, b0.cell 1, b1, (((Only.refl [] w).alloc _).alloc _).trans ho⟩))
  clear h
  go_enter Try.func56, Try.ntmps56
  go_wp2_with fail
  have HS1 := hide (show w.heap.size + 2 ≤ ((w.alloc (.cells #[.slice A (nsG L).length c, .map (some m)] 80)).alloc (.cells #[.slice none 0 0, .map none] 80)).heap.size by simp)
  generalize (w.alloc (.cells #[.slice A (nsG L).length c, .map (some m)] 80)).alloc (.cells #[.slice none 0 0, .map none] 80) = W1 at *
  have HKW := hide (fun W (ho : Only [] W1 W) => (HK.out W (HA.out W ho).2.2.2).mono (R' := fun e w' => ∃ v', e = .returned v' ∧ IRow w' v' (nsG L) ∧ (∀ q, v'.ownBlock = some q → W1.heap.size ≤ q) ∧ Only [] W1 w') (fun e w' ⟨v', e1, e2, e3, e4⟩ => ⟨v', e1, e2, fun q hq => Nat.le_trans ho.size (e3 q hq), ho.trans e4⟩))
  have HMW := hide (fun W (ho : Only [] W1 W) => (show ∃ D, Calls Try.prog 70 #[.map (some m)] W (fun e w' => e = .returned (.map (some W.heap.size)) ∧ W1.heap.size ≤ W.heap.size ∧ (w'.ownsMap Try.prog 3 elemSl W.heap.size (refG L).length D ∧ MHolds encY D (refG L)) ∧ Only [] W w' ∧ Only [] W1 w') from by
    obtain ⟨D, k1, k2⟩ := HM.out W (HA.out W ho).2.2.2
    exact ⟨D, (mpcloneO_is k1).mono (fun e w' ⟨e1, e2, e3⟩ => ⟨e1, ho.size, ⟨e2, k2⟩, e3, ho.trans e3⟩)⟩))
  have kk : Only [] W1 W1.drew := (Only.refl _ _).drew
  have zz := And.intro (HA.out _ kk).1 (HA.out _ kk).2.1
  go_region_held3 (fun w' => w'.cell? ⟨w.heap.size, 0, none⟩ = some (.slice A (nsG L).length c) ∧ w'.cell? ⟨w.heap.size, 1, none⟩ = some (.map (some m))) (first | go_keep | exact ⟨(HA.out _ kk).1, (HA.out _ kk).2.1⟩) (first | (go_at_call 61; refine (HKW.out _ (by repeat (first | exact Only.refl _ _ | apply Only.drew | apply Only.drewN))).mono ?_; rintro e w2 ⟨v2, rfl, r2, n2, o2⟩; obtain ⟨A2, c2, rfl, -⟩ := r2.form2; have HR2 := hide r2; have HN2 := hide n2; clear r2 n2 kk; have kk := o2; clear o2) | (go_at_call 70; obtain ⟨D, hcc⟩ := HMW.out _ (kk.trans (by repeat (first | exact Only.refl _ _ | apply Only.drew | apply Only.drewN))); refine hcc.mono ?_; rintro e w3 ⟨rfl, n3, m3, o3, p3⟩; have HM3 := hide m3; have HO3 := hide o3; have HN3 := hide n3; have f3 := (HA.out _ p3).2.2.1; have r0 := f3.cell 0; have r1 := f3.cell 1; have r2 := f3.frozen 0; have r3 := f3.frozen 1; have HF3 := hide f3; clear f3 hcc m3 o3 n3 kk; have kk := p3; clear p3))
  have HZ := hide (show Blk ((w3.setCell ⟨w.heap.size + 1, 0, none⟩ (.slice A2 (nsG L).length c2)).setCell ⟨w.heap.size + 1, 1, none⟩ (.map (some w2.heap.size))) (w.heap.size + 1) 80 #[.slice A2 (nsG L).length c2, .map (some w2.heap.size)] from (HF3.out.set_ 0 _).set_ 1 _)
  have hoz : Only [w.heap.size + 1] w3 ((w3.setCell ⟨w.heap.size + 1, 0, none⟩ (.slice A2 (nsG L).length c2)).setCell ⟨w.heap.size + 1, 1, none⟩ (.map (some w2.heap.size))) := ((Only.refl [w.heap.size + 1] w3).setCell (p := ⟨w.heap.size + 1, 0, none⟩) _ (by simp)).setCell (p := ⟨w.heap.size + 1, 1, none⟩) _ (by simp)
  have HOZ := hide hoz
  have hgr : IsGr ((w3.setCell ⟨w.heap.size + 1, 0, none⟩ (.slice A2 (nsG L).length c2)).setCell ⟨w.heap.size + 1, 1, none⟩ (.map (some w2.heap.size))) (.slice A2 (nsG L).length c2) w2.heap.size L := by
    have hs := HS1.out
    have hn := HN3.out
    have hm := HM3.out
    refine ⟨?_, ⟨D, ownsMap_onlyY HM3.out.1 hoz (by simp; omega), HM3.out.2⟩, fun x hx => ?_⟩
    · refine KRow.only (KRow.only HR2.out HO3.out (by simp)) hoz (fun q hq => ?_)
      have := HN2.out q hq
      simp
      omega
    · have hlt := (HOK.out x hx).row.lt
      exact ((HOK.out x hx).only (HA.out _ kk).2.2.2 (by simp)).only hoz (by simp; omega)
  have HGR := hide hgr
  have HO := hide (show Only [] w ((w3.setCell ⟨w.heap.size + 1, 0, none⟩ (.slice A2 (nsG L).length c2)).setCell ⟨w.heap.size + 1, 1, none⟩ (.map (some w2.heap.size))) from (HA.out _ kk).2.2.2.trans' hoz (fun q hq hm => by simp at hm; omega))
  clear hoz hgr r0 r1 r2 r3 kk zz
  generalize (w3.setCell ⟨w.heap.size + 1, 0, none⟩ (.slice A2 (nsG L).length c2)).setCell ⟨w.heap.size + 1, 1, none⟩ (.map (some w2.heap.size)) = w4 at *
  have z0 := HZ.out.cell 0
  have z1 := HZ.out.cell 1
  go_wp2
  exact bodyPost_ret (v := .agg #[.slice A2 (nsG L).length c2, .map (some w2.heap.size)]) (by simp [results, Try.results56, go_sem, z0, z1]) rfl ⟨_, _, rfl, HGR.out, by have := HN3.out; have := HS1.out; omega, fun q hq => by have := HN2.out q hq; have := HS1.out; omega, HO.out⟩
section
variable (h : Lg w g gd N a sz gen G S st nx plat l k F)
include h
set_option maxRecDepth 100000 in
theorem lg_begin_busy (hS : S ≠ none ∨ st ≠ 0) : Calls Try.prog 17 #[.pointer (some ⟨g, 0, none⟩)] w fun e w' => e = .returned (.int .i64 5) ∧ w = w' := by
  obtain ⟨v, m, L, SS, rd, wt, fl, FD, h1, rfl, h3, h4, _⟩ := h
  have HC := hide (lgclosed_is h1)
  have HR := hide (lgrunning_is h1)
  have c6 := h1.c6
  cases SS with
  | some s =>
    have c6' : w.cell? ⟨g, 6, none⟩ = some (.pointer (some ⟨s.h, 0, none⟩)) := c6
    clear h1 h4 h3 hS c6
    go_enter Try.func17, Try.ntmps17
    go_wp2_with (first | (go_at_call 49; refine HC.out.mono ?_; rintro e w' ⟨rfl, rfl⟩) | (go_at_call 34; refine HR.out.mono ?_; rintro e w' ⟨rfl, rfl⟩))
    go_ret
    exact ⟨rfl, rfl⟩
  | none =>
    have c6' : w.cell? ⟨g, 6, none⟩ = some (.pointer none) := c6
    have hs : st ≠ 0 := by
      rcases hS with e | e
      · exact absurd h3.symm e
      · exact e
    have hd : (!decide (st = 0)) = true := by simp [hs]
    rw [hd] at HR
    clear h1 h4 h3 hS c6 hs hd
    go_enter Try.func17, Try.ntmps17
    go_wp2_with (first | (go_at_call 49; refine HC.out.mono ?_; rintro e w' ⟨rfl, rfl⟩) | (go_at_call 34; refine HR.out.mono ?_; rintro e w' ⟨rfl, rfl⟩))
    go_ret
    exact ⟨rfl, rfl⟩
set_option maxRecDepth 100000 in
set_option maxHeartbeats 1500000 in
theorem lg_begin (hS : S = none) (hst : st = 0) : Calls Try.prog 17 #[.pointer (some ⟨g, 0, none⟩)] w fun e w' => e = .returned (.int .i64 0) ∧ DidLg w w' g gd N a sz gen G (some G) st nx plat l k F := by
  obtain ⟨v, m, L, SS, rd, wt, fl, FD, h1, rfl, h3, h4, h5⟩ := h
  obtain rfl : SS = none := by cases SS with | none => rfl | some s => rw [hS] at h3; simp at h3
  have HC := hide (lgclosed_is h1)
  have HR := hide (lgrunning_is h1)
  have hd : (!decide (st = 0)) = false := by simp [hst]
  rw [hd] at HR
  have c4 := h1.c4
  have c5 := h1.c5
  have c6 : w.cell? ⟨g, 6, none⟩ = some (.pointer none) := h1.c6
  have HK := hide (gclone_is h1.gr (by have := h1.len; omega))
  have H1 := hide h1
  have H4 := hide h4
  have H5 := hide h5
  obtain ⟨A, c, rfl, _⟩ := h1.gr.row.form2
  clear h1 h4 h3 hS hd hst h5
  go_enter Try.func17, Try.ntmps17
  go_wp2_with (first | (go_at_call 49; refine HC.out.mono ?_; rintro e w' ⟨rfl, rfl⟩) | (go_at_call 34; refine HR.out.mono ?_; rintro e w' ⟨rfl, rfl⟩) | fail)
  refine HK.out.mono ?_
  rintro e w1 ⟨v1, m1, rfl, hg1, hm1, hv1, ho1⟩
  obtain ⟨A1, c1, rfl, -⟩ := hg1.row.form2
  have oA : Only [] w1 (w1.alloc (.cells #[.slice A1 (nsG L).length c1, .map (some m1)] 80)) := (Only.refl [] w1).alloc _
  have q2 := H1.out.quiet (ho1.trans oA)
  have f6 := q2.fr 6
  have c6' : (w1.alloc (.cells #[.slice A1 (nsG L).length c1, .map (some m1)] 80)).cell? ⟨g, 6, none⟩ = some (.pointer none) := q2.c6
  have hW : DidLg w ((w1.alloc (.cells #[.slice A1 (nsG L).length c1, .map (some m1)] 80)).setCell ⟨g, 6, none⟩ (.pointer (some ⟨w1.heap.size, 0, none⟩))) g gd N a sz gen (gvG L) (some (gvG L)) st nx plat l k F := by
    have hgl := H1.out.blk.lt
    have oS : Only [g] (w1.alloc (.cells #[.slice A1 (nsG L).length c1, .map (some m1)] 80)) ((w1.alloc (.cells #[.slice A1 (nsG L).length c1, .map (some m1)] 80)).setCell ⟨g, 6, none⟩ (.pointer (some ⟨w1.heap.size, 0, none⟩))) := (Only.refl _ _).setCell _ (by simp)
    have oT : Only [g] w1 _ := (oA.mono (by simp)).trans oS
    obtain ⟨f1, f2, f3, f4⟩ := q2.far_g
    have hnew := Blk.new w1 80 #[.slice A1 (nsG L).length c1, .map (some m1)]
    have hs1 := ho1.size
    have hF : g ∉ FD := H1.out.dis g (.inl (mem_footL.2 (.inl rfl)))
    have hI : LgI ((w1.alloc (.cells #[.slice A1 (nsG L).length c1, .map (some m1)] 80)).setCell ⟨g, 6, none⟩ (.pointer (some ⟨w1.heap.size, 0, none⟩))) g gd N a sz gen (.slice A (nsG L).length c) m L (some ⟨w1.heap.size, .slice A1 (nsG L).length c1, m1, L⟩) st nx plat l rd wt fl k FD := by
      refine ⟨q2.blk.set_ 6 _, q2.gr.only oS (fun q hq => by simpa using f1 q hq) (by simpa using f2) (fun x hx => by simpa using f4 x (mem_bytesL.2 (.inl hx))), fun s hs => ?_, q2.dk.only oS (fun q hq hm => hF (by simp at hm; exact hm ▸ hq)), fun q hq => ?_, H1.out.gen_, H1.out.rng, H1.out.ok, fun s hs => ?_⟩
      · injection hs with hs
        subst hs
        have hne : w1.heap.size ≠ g := by omega
        refine ⟨hnew.only oS (by simpa using hne), hg1.only oT (fun q hq => ?_) (by simp; omega) (fun x hx => by simpa using f4 x (mem_bytesL.2 (.inl hx))), by have := H1.out.gr.ltm; show m1 ≠ m; omega, fun q hq e => ?_⟩
        · have := hv1 q hq; simp; omega
        · have e1 := hv1 q hq
          have e2 := H1.out.gr.ltv e
          omega
      · have hFD : ∀ z ∈ FD, z < w.heap.size := H1.out.dk.lt
        rcases hq with hq | ⟨x, hx, rfl⟩
        · rcases mem_footL.1 hq with e | e | e | ⟨s, hs, e⟩
          · exact H1.out.dis q (.inl (mem_footL.2 (.inl e)))
          · exact H1.out.dis q (.inl (mem_footL.2 (.inr (.inl e))))
          · exact H1.out.dis q (.inl (mem_footL.2 (.inr (.inr (.inl e)))))
          · injection hs with hs
            subst hs
            intro hm
            have := hFD q hm
            rcases e with e | e | e
            · have e : q = w1.heap.size := e
              omega
            · have e : q = m1 := e
              omega
            · have := hv1 q e; omega
        · rcases mem_bytesL.1 hx with e | ⟨s, hs, e⟩
          · exact H1.out.dis x.b (.inr ⟨x, mem_bytesL.2 (.inl e), rfl⟩)
          · injection hs with hs
            subst hs
            exact H1.out.dis x.b (.inr ⟨x, mem_bytesL.2 (.inl e), rfl⟩)
      · injection hs with hs
        subst hs
        exact H1.out.ok
    refine Lg.mk2 hI ((ho1.mono (by simp)).trans (oT.mono (fun q _ hq => by simp at hq; subst hq; exact H4.out _ (.inl (mem_footL.2 (.inl rfl)))))) (fun q hq => ?_) (fun q hq => .inl (H4.out q (.inr (.inr hq)))) (fun x hx => .inl (H4.out _ (.inr (.inl ⟨x, ?_, rfl⟩))))
    · rcases mem_footL.1 hq with e | e | e | ⟨s, hs, e⟩
      · exact .inl (H4.out q (.inl (mem_footL.2 (.inl e))))
      · exact .inl (H4.out q (.inl (mem_footL.2 (.inr (.inl e)))))
      · exact .inl (H4.out q (.inl (mem_footL.2 (.inr (.inr (.inl e))))))
      · injection hs with hs
        subst hs
        right
        rcases e with e | e | e
        · subst e; exact hs1
        · subst e; exact hm1
        · exact hv1 q e
    · rcases mem_bytesL.1 hx with e | ⟨s, hs, e⟩
      · exact mem_bytesL.2 (.inl e)
      · injection hs with hs
        subst hs
        exact mem_bytesL.2 (.inl e)
  have HW := hide hW
  clear hg1 hm1 hv1 ho1 c4 c5 c6 oA q2 hW
  go_wp2
  go_ret
  exact ⟨rfl, HW.out⟩
end
end
end Go.Proofs.Ytokdpldmoflnkaa
