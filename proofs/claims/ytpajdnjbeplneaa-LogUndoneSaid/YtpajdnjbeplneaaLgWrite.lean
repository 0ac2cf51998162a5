/-
  The log (parapet/wlog): Write.
-/
import Derived.Test.YtpajdnjbeplneaaLgBegin
namespace Go.Proofs.Ytpajdnjbeplneaa
open Go.ChangeShapes Go.WideShapes Go.ChangeAt Go.RowKit Go.Maps
set_option linter.unusedVariables false
section
variable {w w' w1 : World} {g gd N a sz : Nat} {gen : Int} {v v' : Value} {m m' : Nat} {L L' : List GB} {SS SS' : Option SG} {st nx : Int} {plat : List Int} {l : List (Nat × List Int)} {rd wt fl : Int} {k k' : Nat} {FD F T : List Nat} {G : PG} {S : Option PG}
section
variable (h : Lg w g gd N a sz gen G S st nx plat l k F)
include h
set_option maxRecDepth 100000 in
theorem lg_write_arg (n : Int) (A : Option Addr) (mm c : Nat) (hn : blkB N a sz n = false ∨ mm ≠ 512) : Calls Try.prog 9 #[.pointer (some ⟨g, 0, none⟩), .int .i64 n, .slice A mm c] w fun e w' => e = .returned (.int .i64 1) ∧ Only [] w w' := by
  have HC := hide (lg_closed h)
  have HH := hide (lg_has h n)
  clear h
  cases hb : blkB N a sz n with
  | false =>
    rw [hb] at HH
    clear hb hn
    go_enter Try.func9, Try.ntmps9
    go_wp2_with (first | (go_at_call 43; refine HC.out.mono ?_; rintro e w' ⟨rfl, rfl⟩) | (go_at_call 44; refine HH.out.mono ?_; rintro e w1 ⟨rfl, ho⟩; have HO := hide ho; clear ho))
    go_ret
    exact ⟨rfl, HO.out⟩
  | true =>
    have hm : mm ≠ 512 := by
      rcases hn with e | e
      · rw [hb] at e; cases e
      · exact e
    have hd : decide ((mm : Int) = 512) = false := decide_eq_false (by omega)
    have hd2 : ¬ (mm = 512) := hm
    rw [hb] at HH
    clear hb hn hm
    go_enter Try.func9, Try.ntmps9
    go_wp2_with (first | (go_at_call 43; refine HC.out.mono ?_; rintro e w' ⟨rfl, rfl⟩) | (go_at_call 44; refine HH.out.mono ?_; rintro e w1 ⟨rfl, ho⟩; have HO := hide ho; clear ho))
    go_ret
    exact ⟨rfl, HO.out⟩
set_option maxRecDepth 100000 in
theorem lg_write_busy (n : Int) (A : Option Addr) (c : Nat) (hn : blkB N a sz n = true) (hst : st ≠ 0) : Calls Try.prog 9 #[.pointer (some ⟨g, 0, none⟩), .int .i64 n, .slice A 512 c] w fun e w' => e = .returned (.int .i64 5) ∧ Only [] w w' := by
  have HC := hide (lg_closed h)
  have HH := hide (lg_has h n)
  have HR := hide (fun W (ho : Only [] w W) => lg_running (h.quiet ho))
  rw [hn] at HH
  have hd : (!decide (st = 0)) = true := by simp [hst]
  rw [hd] at HR
  clear h hn hst hd
  go_enter Try.func9, Try.ntmps9
  go_wp2_with (first | (go_at_call 43; refine HC.out.mono ?_; rintro e w' ⟨rfl, rfl⟩) | (go_at_call 44; refine HH.out.mono ?_; rintro e w1 ⟨rfl, ho⟩; have HO := hide ho; clear ho) | (go_at_call 24; refine (HR.out _ HO.out).mono ?_; rintro e w' ⟨rfl, rfl⟩))
  go_ret
  exact ⟨rfl, HO.out⟩
set_option maxRecDepth 100000 in
theorem lg_write_full (n : Int) (A : Option Addr) (c : Nat) (hn : blkB N a sz n = true) (hst : st = 0) (hm : n ∉ G.map (·.1)) (hf : G.length + 1 = sz) : Calls Try.prog 9 #[.pointer (some ⟨g, 0, none⟩), .int .i64 n, .slice A 512 c] w fun e w' => e = .returned (.int .i64 2) ∧ Only [] w w' := by
  have q22 : ∀ (w : World) (a : Option Addr) (n c n' c' : Nat), (binOp .eql 39 (.slice a n c) (.slice none n' c')).run Try.prog w = .ok (.bool a.isNone) w := fun w a n c n' c' => Lib.run_eql_slice_nil w _ _ a n c n' c' Try.underlying39
  have HC := hide (lg_closed h)
  have HH := hide (lg_has h n)
  have HR := hide (fun W (ho : Only [] w W) => lg_running (h.quiet ho))
  have HM := hide (fun W (ho : Only [] w W) => lg_room (h.quiet ho))
  rw [hn] at HH
  have hd : (!decide (st = 0)) = false := by simp [hst]
  rw [hd] at HR
  rw [show (sz : Int) - 1 - G.length = 0 from by omega] at HM
  have hrng := h.rng
  obtain ⟨v, m, L, SS, rd, wt, fl, FD, h1, rfl, _⟩ := h
  have hb := blkB_yes.1 hn
  have hw : iW n := WalkArith.wf_i64 (by omega)
  have HL := hide (fun W (ho : Only [] w W) => (show W.cell? ⟨g, 5, none⟩ = some (.map (some m)) ∧ (Instr.lookup 79 (.map (some m)) (.int .i64 n) false).run Try.prog W = .ok (.slice none 0 0) W from by
    have q := h1.quiet ho
    obtain ⟨D, k1, k2⟩ := q.gr.own
    exact ⟨q.c5, lookY_no k2 k1 hw (by rw [refG_keys, ← gvG_keys]; exact hm)⟩))
  clear h1 hn hst hd hm hf hrng hb hw
  go_enter Try.func9, Try.ntmps9
  go_wp2_with (first | (go_at_call 43; refine HC.out.mono ?_; rintro e w' ⟨rfl, rfl⟩) | (go_at_call 44; refine HH.out.mono ?_; rintro e w1 ⟨rfl, ho⟩; have HO := hide ho; obtain ⟨c5, hlk⟩ := HL.out _ ho; clear ho) | (go_at_call 24; refine (HR.out _ HO.out).mono ?_; rintro e w' ⟨rfl, rfl⟩) | (go_at_call 23; refine (HM.out _ HO.out).mono ?_; rintro e w2 ⟨rfl, ho⟩; have HO2 := hide ho; clear ho))
  go_ret
  exact ⟨rfl, HO.out.trans HO2.out⟩
set_option maxRecDepth 100000 in
set_option maxHeartbeats 1500000 in
theorem lg_write (n : Int) (d o c : Nat) (zs : List Int) (hn : blkB N a sz n = true) (hst : st = 0) (hf : n ∈ G.map (·.1) ∨ G.length + 1 < sz) (hz : zs.length = 512) (hu : U8 zs) (hc : ∀ i, i < 512 → w.cell? ⟨d, o + i, none⟩ = some (.int .u8 (gb zs i))) (hdl : d < w.heap.size) :
    Calls Try.prog 9 #[.pointer (some ⟨g, 0, none⟩), .int .i64 n, .slice (some ⟨d, o, none⟩) 512 c] w fun e w' => e = .returned (.int .i64 0) ∧ DidLg w w' g gd N a sz gen (putG G n zs) S st nx plat l k F := by
  have q22 : ∀ (w : World) (a : Option Addr) (n c n' c' : Nat), (binOp .eql 39 (.slice a n c) (.slice none n' c')).run Try.prog w = .ok (.bool a.isNone) w := fun w a n c n' c' => Lib.run_eql_slice_nil w _ _ a n c n' c' Try.underlying39
  have HC := hide (lg_closed h)
  have HH := hide (lg_has h n)
  have HR := hide (fun W (ho : Only [] w W) => lg_running (h.quiet ho))
  have HM := hide (fun W (ho : Only [] w W) => lg_room (h.quiet ho))
  rw [hn] at HH
  have hd : (!decide (st = 0)) = false := by simp [hst]
  rw [hd] at HR
  have hrng := h.rng
  have hokp := h.okp
  obtain ⟨v, m, L, SS, rd, wt, fl, FD, h1, rfl, rfl, h4, h5⟩ := h
  have hb := blkB_yes.1 hn
  have hw : iW n := WalkArith.wf_i64 (by omega)
  have HCL := hide (fun W (ho : Only [] w W) => (clone_ok ⟨d, o, none⟩ 512 c zs W hz (by omega) (fun i hi => by rw [add_at, ho.cell hdl (by simp), hc i hi])).mono (R' := fun e w' => ∃ b r, e = .returned (.slice (some ⟨b, 0, none⟩) 512 (512 + r.length)) ∧ (GB.ok w' ⟨n, b, zs, r⟩) ∧ w.heap.size ≤ b ∧ Only [] w w') (fun e w' ⟨v', e1, ⟨b, cc, r, e2, e3, e4, e5⟩, e6⟩ => ⟨b, r, by rw [e1, e2, ← e5, hz], ⟨e4, hz, hu⟩, Nat.le_trans ho.size e3, ho.trans e6⟩))
  have HGW := hide (fun W (ho : Only [] w W) (b : Nat) (r : List Value) (hx : GB.ok W ⟨n, b, zs, r⟩) (hnew : w.heap.size ≤ b) => (show Calls Try.prog 45 #[.pointer (some ⟨g, 4, none⟩), .int .i64 n, .slice (some ⟨b, 0, none⟩) 512 (512 + r.length)] W (fun e w' => e = .returned (.tuple #[]) ∧ DidLg w w' g gd N a sz gen (putG (gvG L) n zs) (SS.map (fun s => gvG s.L)) st nx plat l k F) from by
    have q := h1.quiet ho
    have hlen : L.length < 4096 := by have := h1.len; omega
    have key : ∀ e w', WroteG W w' e g m v (.pointer (some ⟨gd, 0, none⟩)) (bfV SS) a sz gen st nx L ⟨n, b, zs, r⟩ → (e = .returned (.tuple #[]) ∧ DidLg w w' g gd N a sz gen (putG (gvG L) n zs) (SS.map (fun s => gvG s.L)) st nx plat l k F) := by
      rintro e w' ⟨rfl, v', L', k1, k2, k3, k4, k5, k6⟩
      refine ⟨rfl, ?_⟩
      rw [← k3]
      have hgm := q.gr.blk_m q.blk
      have T : ∀ z, z ∈ g :: m :: v.ownBlock.toList → z = g ∨ z = m ∨ v.ownBlock = some z := fun z hz => by simpa [mem_own] using hz
      have TF : ∀ z, z ∈ g :: m :: v.ownBlock.toList → z ∈ footL g v m SS := fun z hz => by
        rcases T z hz with e | e | e
        · exact mem_footL.2 (.inl e)
        · exact mem_footL.2 (.inr (.inl e))
        · exact mem_footL.2 (.inr (.inr (.inl e)))
      have hsz := ho.size
      have hFD : ∀ z ∈ FD, z < w.heap.size := h1.dk.lt
      have hI : LgI w' g gd N a sz gen v' m L' SS st nx plat l rd wt fl k FD := by
        refine ⟨k1, k2, fun s hs => ?_, q.dk.only k6 (fun z hz hm => h1.dis z (.inl (TF z hm)) hz), fun z hz => ?_, h1.gen_, h1.rng, ⟨?_, fun x hx => ?_⟩, h1.oks⟩
        · obtain ⟨j1, j2, j3, j4⟩ := q.sv s hs
          have s1 : s.h ∉ g :: m :: v.ownBlock.toList := fun hm => by
            rcases T _ hm with e | e | e
            · exact j1.ne_ q.blk (by decide) e
            · exact q.gr.blk_m j1 e
            · exact q.gr.blk_v j1 (by decide) _ e rfl
          have s2 : ∀ z, s.v.ownBlock = some z → z ∉ g :: m :: v.ownBlock.toList := fun z hz hm => by
            rcases T _ hm with e | e | e
            · exact j2.blk_v q.blk (by decide) _ hz e
            · obtain ⟨cs, hbq⟩ := irow_blk j2.row hz
              exact q.gr.blk_m hbq e
            · exact j4 z hz e
          have s3 : s.m ∉ g :: m :: v.ownBlock.toList := fun hm => by
            rcases T _ hm with e | e | e
            · exact j2.blk_m q.blk e.symm
            · exact j3 e
            · obtain ⟨cs, hbq⟩ := irow_blk q.gr.row e
              exact j2.blk_m hbq rfl
          refine ⟨j1.only k6 s1, j2.only k6 s2 s3 (fun x hx => fun hm => ?_), j3, fun z hz e => ?_⟩
          · exact q.u8_far (j2.ok x hx).row (TF _ hm)
          · rcases k4 z e with e | e
            · exact j4 z hz e
            · have := j2.ltv hz; omega
        · rcases hz with hz | ⟨x, hx, rfl⟩
          · rcases mem_footL.1 hz with e | e | e | e
            · exact h1.dis z (.inl (mem_footL.2 (.inl e)))
            · exact h1.dis z (.inl (mem_footL.2 (.inr (.inl e))))
            · rcases k4 z e with e | e
              · exact h1.dis z (.inl (mem_footL.2 (.inr (.inr (.inl e)))))
              · intro hm; have := hFD z hm; omega
            · exact h1.dis z (.inl (mem_footL.2 (.inr (.inr (.inr e)))))
          · rcases mem_bytesL.1 hx with e | e
            · rcases k5 x e with e | e
              · exact h1.dis _ (.inr ⟨x, mem_bytesL.2 (.inl e), rfl⟩)
              · subst e; intro hm; have := hFD b hm; omega
            · exact h1.dis _ (.inr ⟨x, mem_bytesL.2 (.inr e), rfl⟩)
        · have hl := congrArg List.length k3
          have hok := h1.ok.len
          unfold putG at hl
          split at hl
          · simp [gvG] at hl; omega
          · rename_i hnm
            have : (gvG L).length + 1 < sz := by
              rcases hf with e | e
              · exact absurd e hnm
              · exact e
            simp [gvG] at hl this
            omega
        · rcases k5 x hx with e | e
          · exact h1.ok.num x e
          · subst e; exact hn
      refine Lg.mk2 hI ((ho.mono (by simp)).trans (k6.mono (fun z _ hz => h4 z (.inl (TF z hz))))) (fun z hz => ?_) (fun z hz => .inl (h4 z (.inr (.inr hz)))) (fun x hx => ?_)
      · rcases mem_footL.1 hz with e | e | e | e
        · exact .inl (h4 z (.inl (mem_footL.2 (.inl e))))
        · exact .inl (h4 z (.inl (mem_footL.2 (.inr (.inl e)))))
        · rcases k4 z e with e | e
          · exact .inl (h4 z (.inl (mem_footL.2 (.inr (.inr (.inl e))))))
          · exact .inr (Nat.le_trans hsz e)
        · exact .inl (h4 z (.inl (mem_footL.2 (.inr (.inr (.inr e))))))
      · rcases mem_bytesL.1 hx with e | e
        · rcases k5 x e with e | e
          · exact .inl (h4 _ (.inr (.inl ⟨x, mem_bytesL.2 (.inl e), rfl⟩)))
          · subst e; exact .inr hnew
        · exact .inl (h4 _ (.inr (.inl ⟨x, mem_bytesL.2 (.inr e), rfl⟩)))
    by_cases hm : n ∈ nsG L
    · exact (gwrite_old q.blk q.gr ⟨n, b, zs, r⟩ hx hm hlen).mono key
    · exact (gwrite_new q.blk q.gr ⟨n, b, zs, r⟩ hx hw hm hlen).mono key))
  by_cases hm : n ∈ nsG L
  · obtain ⟨x, hx, rfl⟩ := gr_find hm
    have HL := hide (fun W (ho : Only [] w W) => (show W.cell? ⟨g, 5, none⟩ = some (.map (some m)) ∧ (Instr.lookup 79 (.map (some m)) (.int .i64 x.n) false).run Try.prog W = .ok (.slice (some ⟨x.b, 0, none⟩) 512 (512 + x.r.length)) W from by
      have q := h1.quiet ho
      obtain ⟨D, k1, k2⟩ := q.gr.own
      exact ⟨q.c5, lookY k2 k1 (List.mem_map.2 ⟨x, hx, rfl⟩)⟩))
    clear h1 h4 h5 hn hst hd hf hrng hb hw hokp hm hx hz hu hc hdl
    go_enter Try.func9, Try.ntmps9
    go_wp2_with (first | (go_at_call 43; refine HC.out.mono ?_; rintro e w' ⟨rfl, rfl⟩) | (go_at_call 44; refine HH.out.mono ?_; rintro e w1 ⟨rfl, ho⟩; have HO := hide ho; obtain ⟨c5, hlk⟩ := HL.out _ ho; clear ho) | (go_at_call 24; refine (HR.out _ HO.out).mono ?_; rintro e w' ⟨rfl, rfl⟩))
    go_region_law (go_simp; first | (go_at_call 46; refine (HCL.out _ (HO.out.trans (by repeat (first | exact Only.refl _ _ | apply Only.drew | apply Only.drewN)))).mono ?_; rintro e w2 ⟨b, r, rfl, hx, hnew, ho⟩; have HG := hide (fun W hW => HGW.out W (ho.trans hW) b r (hx.only hW (by simp)) hnew); clear hx hnew ho) | (go_at_call 45; refine (HG.out _ (by repeat (first | exact Only.refl _ _ | apply Only.drew | apply Only.drewN))).mono ?_; rintro e w3 ⟨rfl, hd⟩; have HD := hide hd; clear hd))
    all_goals
      go_wp2
      go_ret
      exact ⟨rfl, HD.out⟩
  · have HL := hide (fun W (ho : Only [] w W) => (show W.cell? ⟨g, 5, none⟩ = some (.map (some m)) ∧ (Instr.lookup 79 (.map (some m)) (.int .i64 n) false).run Try.prog W = .ok (.slice none 0 0) W from by
      have q := h1.quiet ho
      obtain ⟨D, k1, k2⟩ := q.gr.own
      exact ⟨q.c5, lookY_no k2 k1 hw (by rw [refG_keys]; exact hm)⟩))
    have hlt : (gvG L).length + 1 < sz := by
      rcases hf with e | e
      · rw [gvG_keys] at e; exact absurd e hm
      · exact e
    have hne : 0 < (sz : Int) - 1 - (gvG L).length := by omega
    generalize (sz : Int) - 1 - (gvG L).length = rm at HM hne
    clear h1 h4 h5 hn hst hd hf hrng hb hw hokp hm hz hu hc hdl hlt
    go_enter Try.func9, Try.ntmps9
    go_wp2_with (first | (go_at_call 43; refine HC.out.mono ?_; rintro e w' ⟨rfl, rfl⟩) | (go_at_call 44; refine HH.out.mono ?_; rintro e w1 ⟨rfl, ho⟩; have HO := hide ho; obtain ⟨c5, hlk⟩ := HL.out _ ho; clear ho) | (go_at_call 24; refine (HR.out _ HO.out).mono ?_; rintro e w' ⟨rfl, rfl⟩) | (go_at_call 23; refine (HM.out _ HO.out).mono ?_; rintro e w2 ⟨rfl, ho⟩; have HO2 := hide (HO.out.trans ho); clear ho))
    go_region_law (go_simp; first | (go_at_call 46; refine (HCL.out _ (HO2.out.trans (by repeat (first | exact Only.refl _ _ | apply Only.drew | apply Only.drewN)))).mono ?_; rintro e w3 ⟨b, r, rfl, hx, hnew, ho⟩; have HG := hide (fun W hW => HGW.out W (ho.trans hW) b r (hx.only hW (by simp)) hnew); clear hx hnew ho) | (go_at_call 45; refine (HG.out _ (by repeat (first | exact Only.refl _ _ | apply Only.drew | apply Only.drewN))).mono ?_; rintro e w3 ⟨rfl, hd⟩; have HD := hide hd; clear hd))
    all_goals
      go_wp2
      go_ret
      exact ⟨rfl, HD.out⟩
end
end
end Go.Proofs.Ytpajdnjbeplneaa
