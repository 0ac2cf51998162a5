/-
  The log (parapet/wlog): End, Abort, Read.
-/
import Derived.Test.YtpajdnjbeplneaaLgOps
namespace Go.Proofs.Ytpajdnjbeplneaa
open Go.ChangeShapes Go.WideShapes Go.ChangeAt Go.RowKit Go.Maps
set_option linter.unusedVariables false
/-- What a block reads as. -/
def readG (G : PG) (plat : List Int) (l : List (Nat × List Int)) (n : Int) : List Int := match G.find? (fun p => decide (p.1 = n)) with | some p => p.2 | none => sect plat l n.toNat
theorem readG_in {G : PG} {plat : List Int} {l : List (Nat × List Int)} {n : Int} {d : List Int} (hn : (G.map (·.1)).Nodup) (h : (n, d) ∈ G) : readG G plat l n = d := by
  have : G.find? (fun p => decide (p.1 = n)) = some (n, d) := by
    induction G with
    | nil => cases h
    | cons x G ih =>
      rw [List.map_cons, List.nodup_cons] at hn
      rw [List.find?_cons]
      by_cases e : x.1 = n
      · rcases List.mem_cons.1 h with h | h
        · rw [show decide (x.1 = n) = true from decide_eq_true e, h]
        · exact absurd (List.mem_map.2 ⟨_, h, rfl⟩) (e ▸ hn.1)
      · rw [show decide (x.1 = n) = false from decide_eq_false e]
        rcases List.mem_cons.1 h with h | h
        · rw [← h] at e; exact absurd rfl e
        · exact ih hn.2 h
  unfold readG
  rw [this]
theorem readG_out {G : PG} {plat : List Int} {l : List (Nat × List Int)} {n : Int} (h : n ∉ G.map (·.1)) : readG G plat l n = sect plat l n.toNat := by
  have : G.find? (fun p => decide (p.1 = n)) = none := by
    rw [List.find?_eq_none]
    intro x hx
    simp
    exact fun e => h (List.mem_map.2 ⟨x, hx, e⟩)
  unfold readG
  rw [this]
section
variable {w w' w1 : World} {g gd N a sz : Nat} {gen : Int} {v v' : Value} {m m' : Nat} {L L' : List GB} {SS SS' : Option SG} {st nx : Int} {plat : List Int} {l : List (Nat × List Int)} {rd wt fl : Int} {k k' : Nat} {FD F T : List Nat} {G : PG} {S : Option PG}
section
variable (h : Lg w g gd N a sz gen G S st nx plat l k F)
include h
set_option maxRecDepth 100000 in
theorem lg_end_none (hS : S = none) : Calls Try.prog 17 #[.pointer (some ⟨g, 0, none⟩)] w fun e w' => e = .returned (.int .i64 4) ∧ w = w' := by
  obtain ⟨v, m, L, SS, rd, wt, fl, FD, h1, rfl, h3, h4, _⟩ := h
  obtain rfl : SS = none := by cases SS with | none => rfl | some s => rw [hS] at h3; simp at h3
  have HC := hide (lgclosed_is h1)
  have c6 : w.cell? ⟨g, 6, none⟩ = some (.pointer none) := h1.c6
  clear h1 h4 h3 hS
  go_enter Try.func17, Try.ntmps17
  go_wp2_with (go_at_call 43; refine HC.out.mono ?_; rintro e w' ⟨rfl, rfl⟩)
  go_ret
  exact ⟨rfl, rfl⟩
set_option maxRecDepth 100000 in
theorem lg_end {G' : PG} (hS : S = some G') : Calls Try.prog 17 #[.pointer (some ⟨g, 0, none⟩)] w fun e w' => e = .returned (.int .i64 0) ∧ DidLg w w' g gd N a sz gen G none st nx plat l k F := by
  obtain ⟨v, m, L, SS, rd, wt, fl, FD, h1, rfl, h3, h4, _⟩ := h
  obtain ⟨s, rfl⟩ : ∃ s, SS = some s := by cases SS with | none => rw [hS] at h3; simp at h3 | some s => exact ⟨s, rfl⟩
  have HC := hide (lgclosed_is h1)
  have c6 : w.cell? ⟨g, 6, none⟩ = some (.pointer (some ⟨s.h, 0, none⟩)) := h1.c6
  have f6 := h1.fr 6
  have HT := hide (Lg.turn (SS' := none) (st' := st) (nx' := nx) (gen' := gen) h1 h4 ((Only.refl [g] w).setCell (p := ⟨g, 6, none⟩) (.pointer none) (by simp)) (by simp) h1.gen_ (h1.blk.set_ 6 _))
  clear h1 h4 h3 hS
  go_enter Try.func17, Try.ntmps17
  go_wp2_with (go_at_call 43; refine HC.out.mono ?_; rintro e w' ⟨rfl, rfl⟩)
  go_ret
  exact ⟨rfl, HT.out⟩
set_option maxRecDepth 100000 in
theorem lg_abort_none (hS : S = none) : Calls Try.prog 15 #[.pointer (some ⟨g, 0, none⟩)] w fun e w' => e = .returned (.int .i64 4) ∧ w = w' := by
  obtain ⟨v, m, L, SS, rd, wt, fl, FD, h1, rfl, h3, h4, _⟩ := h
  obtain rfl : SS = none := by cases SS with | none => rfl | some s => rw [hS] at h3; simp at h3
  have HC := hide (lgclosed_is h1)
  have c6 : w.cell? ⟨g, 6, none⟩ = some (.pointer none) := h1.c6
  clear h1 h4 h3 hS
  go_enter Try.func15, Try.ntmps15
  go_wp2_with (go_at_call 43; refine HC.out.mono ?_; rintro e w' ⟨rfl, rfl⟩)
  go_ret
  exact ⟨rfl, rfl⟩
set_option maxRecDepth 100000 in
theorem lg_abort {G' : PG} (hS : S = some G') : Calls Try.prog 15 #[.pointer (some ⟨g, 0, none⟩)] w fun e w' => e = .returned (.int .i64 0) ∧ DidLg w w' g gd N a sz gen G' none st nx plat l k F := by
  obtain ⟨v, m, L, SS, rd, wt, fl, FD, h1, rfl, h3, h4, _⟩ := h
  obtain ⟨s, rfl⟩ : ∃ s, SS = some s := by cases SS with | none => rw [hS] at h3; simp at h3 | some s => exact ⟨s, rfl⟩
  have hG : gvG s.L = G' := by rw [hS] at h3; simpa using h3
  subst hG
  have HC := hide (lgclosed_is h1)
  have c6 : w.cell? ⟨g, 6, none⟩ = some (.pointer (some ⟨s.h, 0, none⟩)) := h1.c6
  have c4 := h1.c4
  have c5 := h1.c5
  obtain ⟨b1, b2, b3, b4⟩ := h1.sv s rfl
  obtain ⟨f1, f2, f3, f4⟩ := h1.far_g
  obtain ⟨j1, j2, j3⟩ := f3 s rfl
  have s0 := b1.cell 0
  have s1 := b1.cell 1
  have fr4 := h1.fr 4
  have fr5 := h1.fr 5
  have fr6 := h1.fr 6
  obtain ⟨A, c, hv, _⟩ := h1.gr.row.form2
  obtain ⟨A2, cc2, hv2, _⟩ := b2.row.form2
  have ho : Only [g] w (((w.setCell ⟨g, 4, none⟩ s.v).setCell ⟨g, 5, none⟩ (.map (some s.m))).setCell ⟨g, 6, none⟩ (.pointer none)) := (((Only.refl [g] w).setCell (p := ⟨g, 4, none⟩) s.v (by simp)).setCell (p := ⟨g, 5, none⟩) (.map (some s.m)) (by simp)).setCell (p := ⟨g, 6, none⟩) (.pointer none) (by simp)
  have hI : LgI (((w.setCell ⟨g, 4, none⟩ s.v).setCell ⟨g, 5, none⟩ (.map (some s.m))).setCell ⟨g, 6, none⟩ (.pointer none)) g gd N a sz gen s.v s.m s.L none st nx plat l rd wt fl k FD := by
    have hgF : g ∉ FD := h1.dis g (.inl (mem_footL.2 (.inl rfl)))
    refine ⟨((h1.blk.set_ 4 s.v).set_ 5 (.map (some s.m))).set_ 6 (.pointer none), b2.only ho (fun q hq => by simpa using j3 q hq) (by simpa using j2) (fun x hx => by simpa using f4 x (mem_bytesL.2 (.inr ⟨s, rfl, hx⟩))), by simp, h1.dk.only ho (fun q hq hm => hgF (by simp at hm; exact hm ▸ hq)), fun q hq => h1.dis q ?_, h1.gen_, h1.rng, h1.oks s rfl, by simp⟩
    rcases hq with hq | ⟨x, hx, rfl⟩
    · left
      rcases mem_footL.1 hq with e | e | e | ⟨s', hs, e⟩
      · exact mem_footL.2 (.inl e)
      · exact mem_footL.2 (.inr (.inr (.inr ⟨s, rfl, .inr (.inl e)⟩)))
      · exact mem_footL.2 (.inr (.inr (.inr ⟨s, rfl, .inr (.inr e)⟩)))
      · cases hs
    · refine .inr ⟨x, ?_, rfl⟩
      rcases mem_bytesL.1 hx with e | ⟨s', hs, e⟩
      · exact mem_bytesL.2 (.inr ⟨s, rfl, e⟩)
      · cases hs
  have HT := hide (Lg.mk2 hI (ho.mono (fun q _ hq => by simp at hq; subst hq; exact h4 _ (.inl (mem_footL.2 (.inl rfl))))) (fun q hq => .inl (by
    rcases mem_footL.1 hq with e | e | e | ⟨s', hs, e⟩
    · exact h4 _ (.inl (mem_footL.2 (.inl e)))
    · exact h4 _ (.inl (mem_footL.2 (.inr (.inr (.inr ⟨s, rfl, .inr (.inl e)⟩)))))
    · exact h4 _ (.inl (mem_footL.2 (.inr (.inr (.inr ⟨s, rfl, .inr (.inr e)⟩)))))
    · cases hs)) (fun q hq => .inl (h4 q (.inr (.inr hq)))) (fun x hx => .inl (by
    rcases mem_bytesL.1 hx with e | ⟨s', hs, e⟩
    · exact h4 _ (.inr (.inl ⟨x, mem_bytesL.2 (.inr ⟨s, rfl, e⟩), rfl⟩))
    · cases hs)))
  rw [hv2] at HT s0
  rw [hv] at c4
  clear h1 h4 h3 hS b1 b2 b3 b4 f1 f2 f3 f4 j1 j2 j3 ho hI hv hv2
  go_enter Try.func15, Try.ntmps15
  go_wp2_with (go_at_call 43; refine HC.out.mono ?_; rintro e w' ⟨rfl, rfl⟩)
  go_ret
  exact ⟨rfl, HT.out⟩
set_option maxRecDepth 100000 in
theorem lg_read_bad (n : Int) (hn : blkB N a sz n = false) : Calls Try.prog 19 #[.pointer (some ⟨g, 0, none⟩), .int .i64 n] w fun e w' => e = .returned (.tuple #[.slice none 0 0, .int .i64 1]) ∧ Only [] w w' := by
  have HC := hide (lg_closed h)
  have HH := hide (lg_has h n)
  rw [hn] at HH
  clear h hn
  go_enter Try.func19, Try.ntmps19
  go_wp2_with (first | (go_at_call 43; refine HC.out.mono ?_; rintro e w' ⟨rfl, rfl⟩) | (go_at_call 44; refine HH.out.mono ?_; rintro e w1 ⟨rfl, ho⟩; have HO := hide ho; clear ho))
  go_ret2
  exact ⟨rfl, HO.out⟩
set_option maxRecDepth 100000 in
set_option maxHeartbeats 1000000 in
theorem lg_read (n : Int) (hn : blkB N a sz n = true) (hk : k < 4611686018427387904) : Calls Try.prog 19 #[.pointer (some ⟨g, 0, none⟩), .int .i64 n] w fun e w' => ∃ vd, e = .returned (.tuple #[vd, .int .i64 0]) ∧ Fresh w' w.heap.size vd (readG G plat l n) ∧ Turned w w' F F ∧ Lg w' g gd N a sz gen G S st nx plat l (k + 1) F := by
  have H := hide h
  have HC := hide (lg_closed h)
  have HH := hide (lg_has h n)
  rw [hn] at HH
  obtain ⟨v, m, L, SS, rd, wt, fl, FD, h1, rfl, h3, h4, h5⟩ := h
  have hb := blkB_yes.1 hn
  have hbig := h1.big
  have hw : iW n := WalkArith.wf_i64 (by omega)
  by_cases hm : n ∈ nsG L
  · obtain ⟨x, hx, rfl⟩ := gr_find hm
    have HR := hide (readG_in (G := gvG L) (plat := plat) (l := l) (n := x.n) (d := x.d) (by rw [gvG_keys]; exact h1.gr.nd) (List.mem_map.2 ⟨x, hx, rfl⟩))
    rw [HR.out]
    have HL := hide (fun W (ho : Only [] w W) => (show W.cell? ⟨g, 5, none⟩ = some (.map (some m)) ∧ (Instr.lookup 79 (.map (some m)) (.int .i64 x.n) true).run Try.prog W = .ok (.tuple #[.slice (some ⟨x.b, 0, none⟩) 512 (512 + x.r.length), .bool true]) W from by
      have q := h1.quiet ho
      obtain ⟨D, k1, k2⟩ := q.gr.own
      exact ⟨q.c5, lookY_ok k2 k1 (List.mem_map.2 ⟨x, hx, rfl⟩)⟩))
    have HK := hide (fun W (ho : Only [] w W) => (clone_ok ⟨x.b, 0, none⟩ 512 (512 + x.r.length) x.d W (h1.gr.ok x hx).len (by omega) (fun j hj => by
      rw [add_at, Nat.zero_add, ((h1.gr.ok x hx).only ho (by simp)).row.cell]
      exact u8l_get _ _ j (by rw [(h1.gr.ok x hx).len]; exact hj))).mono (R' := fun e w' => ∃ v', e = .returned v' ∧ Fresh w' W.heap.size v' x.d ∧ Only [] W w') (fun e w' h => h))
    clear h1 h3 h4 h5 hn hb hbig hw hm hx
    go_enter Try.func19, Try.ntmps19
    go_wp2_with (first | (go_at_call 43; refine HC.out.mono ?_; rintro e w' ⟨rfl, rfl⟩) | (go_at_call 44; refine HH.out.mono ?_; rintro e w1 ⟨rfl, ho⟩; have HO := hide ho; obtain ⟨c5, hlk⟩ := HL.out _ ho; clear ho) | (go_at_call 46; refine (HK.out _ HO.out).mono ?_; rintro e w2 ⟨v2, rfl, hf, ho⟩; have HF := hide hf; have HO2 := hide ho; clear hf ho))
    go_ret2
    exact ⟨_, rfl, HF.out.mono HO.out.size, Turned.same ((HO.out.trans HO2.out).mono (by simp)), (H.out.quiet (HO.out.trans HO2.out)).more (Nat.le_succ _)⟩
  · have HR := hide (readG_out (plat := plat) (l := l) (n := n) (G := gvG L) (by rw [gvG_keys]; exact hm))
    rw [HR.out]
    obtain ⟨n', rfl⟩ := Int.eq_ofNat_of_zero_le hb.1
    rw [Int.toNat_natCast]
    have HL := hide (fun W (ho : Only [] w W) => (show W.cell? ⟨g, 0, none⟩ = some (.pointer (some ⟨gd, 0, none⟩)) ∧ W.cell? ⟨g, 5, none⟩ = some (.map (some m)) ∧ (Instr.lookup 79 (.map (some m)) (.int .i64 (n' : Int)) true).run Try.prog W = .ok (.tuple #[.slice none 0 0, .bool false]) W from by
      have q := h1.quiet ho
      obtain ⟨D, k1, k2⟩ := q.gr.own
      exact ⟨q.c0, q.c5, lookY_nok k2 k1 hw (by rw [refG_keys]; exact hm)⟩))
    have HK := hide (fun W (ho : Only [] w W) => (dk_read (h1.quiet ho).dk n' (by omega) hk).mono (R' := fun e w' => ∃ v', e = .returned (.tuple #[v', .int .i64 0]) ∧ Fresh w' w.heap.size v' (sect plat l n') ∧ Turned w w' F F ∧ Lg w' g gd N a sz gen (gvG L) S st nx plat l (k + 1) F) (fun e w' ⟨v', e1, e2, e3, e4⟩ => ⟨v', e1, e2.mono ho.size, Turned.same ((ho.mono (by simp)).trans (e3.1.mono (fun q _ hq => h4 q (.inr (.inr hq))))), by
      have q := h1.quiet ho
      have hI := (q.more (Nat.le_succ k))
      have dn : ∀ q ∈ footL g v m SS, q ∉ FD := fun q hq => h1.dis q (.inl hq)
      have db : ∀ x ∈ bytesL L SS, x.b ∉ FD := fun x hx => h1.dis _ (.inr ⟨x, hx, rfl⟩)
      refine ⟨v, m, L, SS, rd + 1, wt, fl, FD, ⟨q.blk.only e3.1 (dn _ (mem_footL.2 (.inl rfl))), q.gr.only e3.1 (fun z hz => dn z (mem_footL.2 (.inr (.inr (.inl hz))))) (dn _ (mem_footL.2 (.inr (.inl rfl)))) (fun x hx => db x (mem_bytesL.2 (.inl hx))), fun s hs => ?_, e4, h1.dis, h1.gen_, h1.rng, h1.ok, h1.oks⟩, rfl, h3, h4, fun z hz => Nat.lt_of_lt_of_le (h5 z hz) (Nat.le_trans ho.size e3.1.size)⟩
      obtain ⟨k1, k2, k3, k4⟩ := q.sv s hs
      exact ⟨k1.only e3.1 (dn _ (mem_footL.2 (.inr (.inr (.inr ⟨s, hs, .inl rfl⟩))))), k2.only e3.1 (fun z hz => dn z (mem_footL.2 (.inr (.inr (.inr ⟨s, hs, .inr (.inr hz)⟩))))) (dn _ (mem_footL.2 (.inr (.inr (.inr ⟨s, hs, .inr (.inl rfl)⟩))))) (fun x hx => db x (mem_bytesL.2 (.inr ⟨s, hs, hx⟩))), k3, k4⟩⟩))
    clear h1 h3 h4 h5 hn hb hbig hw hm
    go_enter Try.func19, Try.ntmps19
    go_wp2_with (first | (go_at_call 43; refine HC.out.mono ?_; rintro e w' ⟨rfl, rfl⟩) | (go_at_call 44; refine HH.out.mono ?_; rintro e w1 ⟨rfl, ho⟩; have HO := hide ho; obtain ⟨c0, c5, hlk⟩ := HL.out _ ho; clear ho) | (go_at_call 49; refine (HK.out _ HO.out).mono ?_; rintro e w2 ⟨v2, rfl, hf⟩; have HF := hide hf; clear hf))
    go_ret2
    exact ⟨_, rfl, HF.out⟩
end
end
end Go.Proofs.Ytpajdnjbeplneaa
