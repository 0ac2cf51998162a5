/-
  The log (parapet/wlog): group.clone; Begin.
-/
import Derived.Test.YtpajdnjbeplneaaLgOps2
namespace Go.Proofs.Ytpajdnjbeplneaa
open Go.ChangeShapes Go.WideShapes Go.ChangeAt Go.RowKit Go.Maps
set_option linter.unusedVariables false
theorem mpcloneO_is {w : World} {m n : Nat} {D : DataW Unit} (h : w.ownsMap Try.prog 3 elemSl m n D) : Calls Try.prog 68 #[.map (some m)] w fun e w' => e = .returned (.map (some w.heap.size)) ∧ w'.ownsMap Try.prog 3 elemSl w.heap.size n D ∧ Only [] w w' := by
  obtain ⟨es, clock, hb, rest⟩ := h
  refine (mpcloneY_is w m es clock hb).mono ?_
  rintro e w' ⟨rfl, rfl⟩
  exact ⟨rfl, ⟨es, clock, heap_alloc_new w _, rest⟩, (Only.refl _ _).alloc _⟩
section
variable {w w' w1 : World} {g gd N a sz : Nat} {gen : Int} {v v' : Value} {m m' : Nat} {L L' : List GB} {SS SS' : Option SG} {st nx : Int} {plat : List Int} {l : List (Nat × List Int)} {rd wt fl : Int} {k k' : Nat} {FD F T : List Nat} {G : PG} {S : Option PG}
/-- A group's like, made behind w. -/
def ClonedG (w w' : World) (e : Ending) (L : List GB) : Prop := ∃ v' m', e = .returned (.agg #[v', .map (some m')]) ∧ IsGr w' v' m' L ∧ w.heap.size ≤ m' ∧ (∀ q, v'.ownBlock = some q → w.heap.size ≤ q) ∧ Only [] w w'
set_option maxRecDepth 100000 in
set_option maxHeartbeats 1500000 in
theorem gclone_is (h : IsGr w v m L) (hl : L.length ≤ 4096) : Calls Try.prog 48 #[.agg #[v, .map (some m)]] w fun e w' => ClonedG w w' e L := by
  obtain ⟨A, c, rfl, _⟩ := h.row.form2
  have HK := hide (fun W (ho : Only [] w W) => cloneI_is (h.quiet ho).row (by rw [nsG_length]; omega))
  have HM := hide (fun W (ho : Only [] w W) => (show ∃ D, W.ownsMap Try.prog 3 elemSl m (refG L).length D ∧ MHolds encY D (refG L) from (h.quiet ho).own))
  have HOK := hide h.ok
  have HA := hide (fun W (ho : Only [] ((w.alloc (.cells #[.slice A (nsG L).length c, .map (some m)] 81)).alloc (.cells #[.slice none 0 0, .map none] 81)) W) => (show W.cell? ⟨w.heap.size, 0, none⟩ = some (.slice A (nsG L).length c) ∧ W.cell? ⟨w.heap.size, 1, none⟩ = some (.map (some m)) ∧ Blk W (w.heap.size + 1) 81 #[.slice none 0 0, .map none] ∧ Only [] w W from by
    have b0 := ((Blk.new w 81 #[.slice A (nsG L).length c, .map (some m)]).alloc (.cells #[.slice none 0 0, .map none] 81)).only ho (by simp)
    have b1 := (Blk.new (w.alloc (.cells #[.slice A (nsG L).length c, .map (some m)] 81)) 81 #[.slice none 0 0, .map none]).only ho (by simp)
    simp only [World.size_alloc] at b1
    exact ⟨b0.cell 0, b0.cell 1, b1, (((Only.refl [] w).alloc _).alloc _).trans ho⟩))
  clear h
  go_enter Try.func48, Try.ntmps48
  go_wp2_with fail
  have HS1 := hide (show w.heap.size + 2 ≤ ((w.alloc (.cells #[.slice A (nsG L).length c, .map (some m)] 81)).alloc (.cells #[.slice none 0 0, .map none] 81)).heap.size by simp)
  generalize (w.alloc (.cells #[.slice A (nsG L).length c, .map (some m)] 81)).alloc (.cells #[.slice none 0 0, .map none] 81) = W1 at *
  have HKW := hide (fun W (ho : Only [] W1 W) => (HK.out W (HA.out W ho).2.2.2).mono (R' := fun e w' => ∃ v', e = .returned v' ∧ IRow w' v' (nsG L) ∧ (∀ q, v'.ownBlock = some q → W1.heap.size ≤ q) ∧ Only [] W1 w') (fun e w' ⟨v', e1, e2, e3, e4⟩ => ⟨v', e1, e2, fun q hq => Nat.le_trans ho.size (e3 q hq), ho.trans e4⟩))
  have HMW := hide (fun W (ho : Only [] W1 W) => (show ∃ D, Calls Try.prog 68 #[.map (some m)] W (fun e w' => e = .returned (.map (some W.heap.size)) ∧ W1.heap.size ≤ W.heap.size ∧ (w'.ownsMap Try.prog 3 elemSl W.heap.size (refG L).length D ∧ MHolds encY D (refG L)) ∧ Only [] W w' ∧ Only [] W1 w') from by
    obtain ⟨D, k1, k2⟩ := HM.out W (HA.out W ho).2.2.2
    exact ⟨D, (mpcloneO_is k1).mono (fun e w' ⟨e1, e2, e3⟩ => ⟨e1, ho.size, ⟨e2, k2⟩, e3, ho.trans e3⟩)⟩))
  have kk : Only [] W1 W1.drew := (Only.refl _ _).drew
  have zz := And.intro (HA.out _ kk).1 (HA.out _ kk).2.1
  go_region_held3 (fun w' => w'.cell? ⟨w.heap.size, 0, none⟩ = some (.slice A (nsG L).length c) ∧ w'.cell? ⟨w.heap.size, 1, none⟩ = some (.map (some m))) (first | go_keep | exact ⟨(HA.out _ kk).1, (HA.out _ kk).2.1⟩) (first | (go_at_call 47; refine (HKW.out _ (by repeat (first | exact Only.refl _ _ | apply Only.drew | apply Only.drewN))).mono ?_; rintro e w2 ⟨v2, rfl, r2, n2, o2⟩; obtain ⟨A2, c2, rfl, -⟩ := r2.form2; have HR2 := hide r2; have HN2 := hide n2; clear r2 n2 kk; have kk := o2; clear o2) | (go_at_call 68; obtain ⟨D, hcc⟩ := HMW.out _ (kk.trans (by repeat (first | exact Only.refl _ _ | apply Only.drew | apply Only.drewN))); refine hcc.mono ?_; rintro e w3 ⟨rfl, n3, m3, o3, p3⟩; have HM3 := hide m3; have HO3 := hide o3; have HN3 := hide n3; have f3 := (HA.out _ p3).2.2.1; have r0 := f3.cell 0; have r1 := f3.cell 1; have r2 := f3.frozen 0; have r3 := f3.frozen 1; have HF3 := hide f3; clear f3 hcc m3 o3 n3 kk; have kk := p3; clear p3))
  have HZ := hide (show Blk ((w3.setCell ⟨w.heap.size + 1, 0, none⟩ (.slice A2 (nsG L).length c2)).setCell ⟨w.heap.size + 1, 1, none⟩ (.map (some w2.heap.size))) (w.heap.size + 1) 81 #[.slice A2 (nsG L).length c2, .map (some w2.heap.size)] from (HF3.out.set_ 0 _).set_ 1 _)
  have hoz : Only [w.heap.size + 1] w3 ((w3.setCell ⟨w.heap.size + 1, 0, none⟩ (.slice A2 (nsG L).length c2)).setCell ⟨w.heap.size + 1, 1, none⟩ (.map (some w2.heap.size))) := ((Only.refl [w.heap.size + 1] w3).setCell (p := ⟨w.heap.size + 1, 0, none⟩) _ (by simp)).setCell (p := ⟨w.heap.size + 1, 1, none⟩) _ (by simp)
  have HOZ := hide hoz
  have hgr : IsGr ((w3.setCell ⟨w.heap.size + 1, 0, none⟩ (.slice A2 (nsG L).length c2)).setCell ⟨w.heap.size + 1, 1, none⟩ (.map (some w2.heap.size))) (.slice A2 (nsG L).length c2) w2.heap.size L := by
    have hs := HS1.out
    have hn := HN3.out
    have hm := HM3.out
    refine ⟨?_, ⟨D, ownsMap_onlyY HM3.out.1 hoz (by simp; omega), HM3.out.2⟩, fun x hx => ?_⟩
    · refine KRow.only (KRow.only HR2.out HO3.out (by simp)) hoz (fun q hq => ?_)
      have := HN2.out q hq
      simp
      omega
    · have hlt := (HOK.out x hx).row.lt
      exact ((HOK.out x hx).only (HA.out _ kk).2.2.2 (by simp)).only hoz (by simp; omega)
  have HGR := hide hgr
  have HO := hide (show Only [] w ((w3.setCell ⟨w.heap.size + 1, 0, none⟩ (.slice A2 (nsG L).length c2)).setCell ⟨w.heap.size + 1, 1, none⟩ (.map (some w2.heap.size))) from (HA.out _ kk).2.2.2.trans' hoz (fun q hq hm => by simp at hm; omega))
  clear hoz hgr r0 r1 r2 r3 kk zz
  generalize (w3.setCell ⟨w.heap.size + 1, 0, none⟩ (.slice A2 (nsG L).length c2)).setCell ⟨w.heap.size + 1, 1, none⟩ (.map (some w2.heap.size)) = w4 at *
  have z0 := HZ.out.cell 0
  have z1 := HZ.out.cell 1
  go_wp2
  exact bodyPost_ret (v := .agg #[.slice A2 (nsG L).length c2, .map (some w2.heap.size)]) (by simp [results, Try.results48, go_sem, z0, z1]) rfl ⟨_, _, rfl, HGR.out, by have := HN3.out; have := HS1.out; omega, fun q hq => by have := HN2.out q hq; have := HS1.out; omega, HO.out⟩
section
variable (h : Lg w g gd N a sz gen G S st nx plat l k F)
include h
set_option maxRecDepth 100000 in
theorem lg_begin_busy (hS : S ≠ none ∨ st ≠ 0) : Calls Try.prog 13 #[.pointer (some ⟨g, 0, none⟩)] w fun e w' => e = .returned (.int .i64 5) ∧ w = w' := by
  obtain ⟨v, m, L, SS, rd, wt, fl, FD, h1, rfl, h3, h4, _⟩ := h
  have HC := hide (lgclosed_is h1)
  have HR := hide (lgrunning_is h1)
  have c6 := h1.c6
  cases SS with
  | some s =>
    have c6' : w.cell? ⟨g, 6, none⟩ = some (.pointer (some ⟨s.h, 0, none⟩)) := c6
    clear h1 h4 h3 hS c6
    go_enter Try.func13, Try.ntmps13
    go_wp2_with (first | (go_at_call 43; refine HC.out.mono ?_; rintro e w' ⟨rfl, rfl⟩) | (go_at_call 24; refine HR.out.mono ?_; rintro e w' ⟨rfl, rfl⟩))
    go_ret
    exact ⟨rfl, rfl⟩
  | none =>
    have c6' : w.cell? ⟨g, 6, none⟩ = some (.pointer none) := c6
    have hs : st ≠ 0 := by
      rcases hS with e | e
      · exact absurd h3.symm e
      · exact e
    have hd : (!decide (st = 0)) = true := by simp [hs]
    rw [hd] at HR
    clear h1 h4 h3 hS c6 hs hd
    go_enter Try.func13, Try.ntmps13
    go_wp2_with (first | (go_at_call 43; refine HC.out.mono ?_; rintro e w' ⟨rfl, rfl⟩) | (go_at_call 24; refine HR.out.mono ?_; rintro e w' ⟨rfl, rfl⟩))
    go_ret
    exact ⟨rfl, rfl⟩
set_option maxRecDepth 100000 in
set_option maxHeartbeats 1500000 in
theorem lg_begin (hS : S = none) (hst : st = 0) : Calls Try.prog 13 #[.pointer (some ⟨g, 0, none⟩)] w fun e w' => e = .returned (.int .i64 0) ∧ DidLg w w' g gd N a sz gen G (some G) st nx plat l k F := by
  obtain ⟨v, m, L, SS, rd, wt, fl, FD, h1, rfl, h3, h4, h5⟩ := h
  obtain rfl : SS = none := by cases SS with | none => rfl | some s => rw [hS] at h3; simp at h3
  have HC := hide (lgclosed_is h1)
  have HR := hide (lgrunning_is h1)
  have hd : (!decide (st = 0)) = false := by simp [hst]
  rw [hd] at HR
  have c4 := h1.c4
  have c5 := h1.c5
  have c6 : w.cell? ⟨g, 6, none⟩ = some (.pointer none) := h1.c6
  have HK := hide (gclone_is h1.gr (by have := h1.len; omega))
  have H1 := hide h1
  have H4 := hide h4
  have H5 := hide h5
  obtain ⟨A, c, rfl, _⟩ := h1.gr.row.form2
  clear h1 h4 h3 hS hd hst h5
  go_enter Try.func13, Try.ntmps13
  go_wp2_with (first | (go_at_call 43; refine HC.out.mono ?_; rintro e w' ⟨rfl, rfl⟩) | (go_at_call 24; refine HR.out.mono ?_; rintro e w' ⟨rfl, rfl⟩) | fail)
  refine HK.out.mono ?_
  rintro e w1 ⟨v1, m1, rfl, hg1, hm1, hv1, ho1⟩
  obtain ⟨A1, c1, rfl, -⟩ := hg1.row.form2
  have oA : Only [] w1 (w1.alloc (.cells #[.slice A1 (nsG L).length c1, .map (some m1)] 81)) := (Only.refl [] w1).alloc _
  have q2 := H1.out.quiet (ho1.trans oA)
  have f6 := q2.fr 6
  have c6' : (w1.alloc (.cells #[.slice A1 (nsG L).length c1, .map (some m1)] 81)).cell? ⟨g, 6, none⟩ = some (.pointer none) := q2.c6
  have hW : DidLg w ((w1.alloc (.cells #[.slice A1 (nsG L).length c1, .map (some m1)] 81)).setCell ⟨g, 6, none⟩ (.pointer (some ⟨w1.heap.size, 0, none⟩))) g gd N a sz gen (gvG L) (some (gvG L)) st nx plat l k F := by
    have hgl := H1.out.blk.lt
    have oS : Only [g] (w1.alloc (.cells #[.slice A1 (nsG L).length c1, .map (some m1)] 81)) ((w1.alloc (.cells #[.slice A1 (nsG L).length c1, .map (some m1)] 81)).setCell ⟨g, 6, none⟩ (.pointer (some ⟨w1.heap.size, 0, none⟩))) := (Only.refl _ _).setCell _ (by simp)
    have oT : Only [g] w1 _ := (oA.mono (by simp)).trans oS
    obtain ⟨f1, f2, f3, f4⟩ := q2.far_g
    have hnew := Blk.new w1 81 #[.slice A1 (nsG L).length c1, .map (some m1)]
    have hs1 := ho1.size
    have hF : g ∉ FD := H1.out.dis g (.inl (mem_footL.2 (.inl rfl)))
    have hI : LgI ((w1.alloc (.cells #[.slice A1 (nsG L).length c1, .map (some m1)] 81)).setCell ⟨g, 6, none⟩ (.pointer (some ⟨w1.heap.size, 0, none⟩))) g gd N a sz gen (.slice A (nsG L).length c) m L (some ⟨w1.heap.size, .slice A1 (nsG L).length c1, m1, L⟩) st nx plat l rd wt fl k FD := by
      refine ⟨q2.blk.set_ 6 _, q2.gr.only oS (fun q hq => by simpa using f1 q hq) (by simpa using f2) (fun x hx => by simpa using f4 x (mem_bytesL.2 (.inl hx))), fun s hs => ?_, q2.dk.only oS (fun q hq hm => hF (by simp at hm; exact hm ▸ hq)), fun q hq => ?_, H1.out.gen_, H1.out.rng, H1.out.ok, fun s hs => ?_⟩
      · injection hs with hs
        subst hs
        have hne : w1.heap.size ≠ g := by omega
        refine ⟨hnew.only oS (by simpa using hne), hg1.only oT (fun q hq => ?_) (by simp; omega) (fun x hx => by simpa using f4 x (mem_bytesL.2 (.inl hx))), by have := H1.out.gr.ltm; show m1 ≠ m; omega, fun q hq e => ?_⟩
        · have := hv1 q hq; simp; omega
        · have e1 := hv1 q hq
          have e2 := H1.out.gr.ltv e
          omega
      · have hFD : ∀ z ∈ FD, z < w.heap.size := H1.out.dk.lt
        rcases hq with hq | ⟨x, hx, rfl⟩
        · rcases mem_footL.1 hq with e | e | e | ⟨s, hs, e⟩
          · exact H1.out.dis q (.inl (mem_footL.2 (.inl e)))
          · exact H1.out.dis q (.inl (mem_footL.2 (.inr (.inl e))))
          · exact H1.out.dis q (.inl (mem_footL.2 (.inr (.inr (.inl e)))))
          · injection hs with hs
            subst hs
            intro hm
            have := hFD q hm
            rcases e with e | e | e
            · have e : q = w1.heap.size := e
              omega
            · have e : q = m1 := e
              omega
            · have := hv1 q e; omega
        · rcases mem_bytesL.1 hx with e | ⟨s, hs, e⟩
          · exact H1.out.dis x.b (.inr ⟨x, mem_bytesL.2 (.inl e), rfl⟩)
          · injection hs with hs
            subst hs
            exact H1.out.dis x.b (.inr ⟨x, mem_bytesL.2 (.inl e), rfl⟩)
      · injection hs with hs
        subst hs
        exact H1.out.ok
    refine Lg.mk2 hI ((ho1.mono (by simp)).trans (oT.mono (fun q _ hq => by simp at hq; subst hq; exact H4.out _ (.inl (mem_footL.2 (.inl rfl)))))) (fun q hq => ?_) (fun q hq => .inl (H4.out q (.inr (.inr hq)))) (fun x hx => .inl (H4.out _ (.inr (.inl ⟨x, ?_, rfl⟩))))
    · rcases mem_footL.1 hq with e | e | e | ⟨s, hs, e⟩
      · exact .inl (H4.out q (.inl (mem_footL.2 (.inl e))))
      · exact .inl (H4.out q (.inl (mem_footL.2 (.inr (.inl e)))))
      · exact .inl (H4.out q (.inl (mem_footL.2 (.inr (.inr (.inl e))))))
      · injection hs with hs
        subst hs
        right
        rcases e with e | e | e
        · subst e; exact hs1
        · subst e; exact hm1
        · exact hv1 q e
    · rcases mem_bytesL.1 hx with e | ⟨s, hs, e⟩
      · exact mem_bytesL.2 (.inl e)
      · injection hs with hs
        subst hs
        exact mem_bytesL.2 (.inl e)
  have HW := hide hW
  clear hg1 hm1 hv1 ho1 c4 c5 c6 oA q2 hW
  go_wp2
  go_ret
  exact ⟨rfl, HW.out⟩
end
end
end Go.Proofs.Ytpajdnjbeplneaa
