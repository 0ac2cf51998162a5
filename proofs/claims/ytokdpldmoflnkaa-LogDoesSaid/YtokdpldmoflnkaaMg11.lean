/-
  The log (parapet/wlog): Write.
-/
import Derived.Test.YtokdpldmoflnkaaMg10
namespace Go.Proofs.Ytokdpldmoflnkaa
open Go.ChangeShapes Go.WideShapes Go.ChangeAt Go.RowKit Go.Maps
set_option linter.unusedVariables false
section
variable {w w' w1 : World} {g gd N a sz : Nat} {gen : Int} {v v' : Value} {m m' : Nat} {L L' : List GB} {SS SS' : Option SG} {st nx : Int} {plat : List Int} {l : List (Nat × List Int)} {rd wt fl : Int} {k k' : Nat} {FD F T : List Nat} {G : PG} {S : Option PG}
section
variable (h : Lg w g gd N a sz gen G S st nx plat l k F)
include h
set_option maxRecDepth 100000 in
theorem lg_write_arg (n : Int) (A : Option Addr) (mm c : Nat) (hn : blkB N a sz n = false ∨ mm ≠ 512) : Calls Try.prog 13 #[.pointer (some ⟨g, 0, none⟩), .int .i64 n, .slice A mm c] w fun e w' => e = .returned (.int .i64 1) ∧ Only [] w w' := by
  have HC := hide (lg_closed h)
  have HH := hide (lg_has h n)
  clear h
  cases hb : blkB N a sz n with
  | false =>
    rw [hb] at HH
    clear hb hn
    go_enter Try.func13, Try.ntmps13
    go_wp2_with (first | (go_at_call 49; refine HC.out.mono ?_; rintro e w' ⟨rfl, rfl⟩) | (go_at_call 50; refine HH.out.mono ?_; rintro e w1 ⟨rfl, ho⟩; have HO := hide ho; clear ho))
    go_ret
    exact ⟨rfl, HO.out⟩
  | true =>
    have hm : mm ≠ 512 := by
      rcases hn with e | e
      · rw [hb] at e; cases e
      · exact e
    have hd : decide ((mm : Int) = 512) = false := decide_eq_false (by omega)
    have hd2 : ¬ (mm = 512) := hm
    rw [hb] at HH
    clear hb hn hm
    go_enter Try.func13, Try.ntmps13
    go_wp2_with (first | (go_at_call 49; refine HC.out.mono ?_; rintro e w' ⟨rfl, rfl⟩) | (go_at_call 50; refine HH.out.mono ?_; rintro e w1 ⟨rfl, ho⟩; have HO := hide ho; clear ho))
    go_ret
    exact ⟨rfl, HO.out⟩
set_option maxRecDepth 100000 in
theorem lg_write_busy (n : Int) (A : Option Addr) (c : Nat) (hn : blkB N a sz n = true) (hst : st ≠ 0) : Calls Try.prog 13 #[.pointer (some ⟨g, 0, none⟩), .int .i64 n, .slice A 512 c] w fun e w' => e = .returned (.int .i64 5) ∧ Only [] w w' := by
  have HC := hide (lg_closed h)
  have HH := hide (lg_has h n)
  have HR := hide (fun W (ho : Only [] w W) => lg_running (h.quiet ho))
  rw [hn] at HH
  have hd : (!decide (st = 0)) = true := by simp [hst]
  rw [hd] at HR
  clear h hn hst hd
  go_enter Try.func13, Try.ntmps13
  go_wp2_with (first | (go_at_call 49; refine HC.out.mono ?_; rintro e w' ⟨rfl, rfl⟩) | (go_at_call 50; refine HH.out.mono ?_; rintro e w1 ⟨rfl, ho⟩; have HO := hide ho; clear ho) | (go_at_call 34; refine (HR.out _ HO.out).mono ?_; rintro e w' ⟨rfl, rfl⟩))
  go_ret
  exact ⟨rfl, HO.out⟩
set_option maxRecDepth 100000 in
theorem lg_write_full (n : Int) (A : Option Addr) (c : Nat) (hn : blkB N a sz n = true) (hst : st = 0) (hm : n ∉ G.map (·.1)) (hf : G.length + 1 = sz) : Calls Try.prog 13 #[.pointer (some ⟨g, 0, none⟩), .int .i64 n, .slice A 512 c] w fun e w' => e = .returned (.int .i64 2) ∧ Only [] w w' := by
  have q22 : ∀ (w : World) (a : Option Addr) (n c n' c' : Nat), (binOp .eql 46 (.slice a n c) (.slice none n' c')).run Try.prog w = .ok (.bool a.isNone) w := fun w a n c n' c' => Lib.run_eql_slice_nil w _ _ a n c n' c' Try.underlying46
  have HC := hide (lg_closed h)
  have HH := hide (lg_has h n)
  have HR := hide (fun W (ho : Only [] w W) => lg_running (h.quiet ho))
  have HM := hide (fun W (ho : Only [] w W) => lg_room (h.quiet ho))
  rw [hn] at HH
  have hd : (!decide (st = 0)) = false := by simp [hst]
  rw [hd] at HR
  rw [show (sz : Int) - 1 - G.length = 0 from by omega] at HM
  have hrng := h.rng
  obtain ⟨v, m, L, SS, rd, wt, fl, FD, h1, rfl, _⟩ := h
  have hb := blkB_yes.1 hn
  have hw : iW n := WalkArith.wf_i64 (by omega)
  have HL := hide (fun W (ho : Only [] w W) => (show W.cell? ⟨g, 5, none⟩ = some (.map (some m)) ∧ (Instr.lookup 78 (.map (some m)) (.int .i64 n) false).run Try.prog W = .ok (.slice none 0 0) W from by
    have q := h1.quiet ho
    obtain ⟨D, k1, k2⟩ := q.gr.own
    exact ⟨q.c5, lookY_no k2 k1 hw (by rw [refG_keys, ← gvG_keys]; exact hm)⟩))
  clear h1 hn hst hd hm hf hrng hb hw
  go_enter Try.func13, Try.ntmps13
  go_wp2_with (first | (go_at_call 49; refine HC.out.mono ?_; rintro e w' ⟨rfl, rfl⟩) | (go_at_call 50; refine HH.out.mono ?_; rintro e w1 ⟨rfl, ho⟩; have HO := hide ho; obtain ⟨c5, hlk⟩ := HL.out _ ho; clear ho) | (go_at_call 34; refine (HR.out _ HO.out).mono ?_; rintro e w' ⟨rfl, rfl⟩) | (go_at_call 33; refine (HM.out _ HO.out).mono ?_; rintro e w2 ⟨rfl, ho⟩; have HO2 := hide ho; clear ho))
  go_ret
  exact ⟨rfl, HO.out.trans HO2.out⟩
set_option maxRecDepth 100000 in
set_option maxHeartbeats 1500000 in
theorem lg_write (n : Int) (d o c : Nat) (zs : List Int) (hn : blkB N a sz n = true) (hst : st = 0) (hf : n ∈ G.map (·.1) ∨ G.length + 1 < sz) (hz : zs.length = 512) (hu : U8 zs) (hc : ∀ i, i < 512 → w.cell? ⟨d, o + i, none⟩ = some (.int .u8 (gb zs i))) (hdl : d < w.heap.size) :
    Calls Try.prog 13 #[.pointer (some ⟨g, 0, none⟩), .int .i64 n, .slice (some ⟨d, o, none⟩) 512 c] w fun e w' => e = .returned (.int .i64 0) ∧ DidLg w w' g gd N a sz gen (putG G n zs) S st nx plat l k F := by
  have q22 : ∀ (w : World) (a : Option Addr) (n c n' c' : Nat), (binOp .eql 46 (.slice a n c) (.slice none n' c')).run Try.prog w = .ok (.bool a.isNone) w := fun w a n c n' c' => Lib.run_eql_slice_nil w _ _ a n c n' c' Try.underlying46
  have HC := hide (lg_closed h)
  have HH := hide (lg_has h n)
  have HR := hide (fun W (ho : Only [] w W) => lg_running (h.quiet ho))
  have HM := hide (fun W (ho : Only [] w W) => lg_room (h.quiet ho))
  rw [hn] at HH
  have hd : (!decide (st = 0)) = false := by simp [hst]
  rw [hd] at HR
  have hrng := h.rng
  have hokp := h.okp
  obtain ⟨v, m, L, SS, rd, wt, fl, FD, h1, rfl, rfl, h4, h5⟩ := h
  have hb := blkB_yes.1 hn
  have hw : iW n := WalkArith.wf_i64 (by omega)
  have HCL := hide (fun W (ho : Only [] w W) => (clone_ok ⟨d, o, none⟩ 512 c zs W hz (by omega) (fun i hi => by rw [add_at, ho.cell hdl (by simp), hc i hi])).mono (R' := fun e w' => ∃ b r, e = .returned (.slice (some ⟨b, 0, none⟩) 512 (512 + r.length)) ∧ (GB.ok w' ⟨n, b, zs, r⟩) ∧ w.heap.size ≤ b ∧ Only [] w w') (fun e w' ⟨v', e1, ⟨b, cc, r, e2, e3, e4, e5⟩, e6⟩ => ⟨b, r, by rw [e1, e2, ← e5, hz], ⟨e4, hz, hu⟩, Nat.le_trans ho.size e3, ho.trans e6⟩))
  have HGW := hide (fun W (ho : Only [] w W) (b : Nat) (r : List Value) (hx : GB.ok W ⟨n, b, zs, r⟩) (hnew : w.heap.size ≤ b) => (show Calls Try.prog 51 #[.pointer (some ⟨g, 4, none⟩), .int .i64 n, .slice (some ⟨b, 0, none⟩) 512 (512 + r.length)] W (fun e w' => e = .returned (.tuple #[]) ∧ DidLg w w' g gd N a sz gen (putG (gvG L) n zs) (SS.map (fun s => gvG s.L)) st nx plat l k F) from by
    have q := h1.quiet ho
    have hlen : L.length < 4096 := by have := h1.len; omega
    have key : ∀ e w', WroteG W w' e g m v (.pointer (some ⟨gd, 0, none⟩)) (bfV SS) a sz gen st nx L ⟨n, b, zs, r⟩ → (e = .returned (.tuple #[]) ∧ DidLg w w' g gd N a sz gen (putG (gvG L) n zs) (SS.map (fun s => gvG s.L)) st nx plat l k F) := by
      rintro e w' ⟨rfl, v', L', k1, k2, k3, k4, k5, k6⟩
      refine ⟨rfl, ?_⟩
      rw [← k3]
      have hgm := q.gr.blk_m q.blk
      have T : ∀ z, z ∈ g :: m :: v.ownBlock.toList → z = g ∨ z = m ∨ v.ownBlock = some z := fun z hz => by simpa [mem_own] using hz
      have TF : ∀ z, z ∈ g :: m :: v.ownBlock.toList → z ∈ footL g v m SS := fun z hz => by
        rcases T z hz with e | e | e
        · exact mem_footL.2 (.inl e)
        · exact mem_footL.2 (.inr (.inl e))
        · exact mem_footL.2 (.inr (.inr (.inl e)))
      have hsz := ho.size
      have hFD : ∀ z ∈ FD, z < w.heap.size := h1.dk.lt
      have hI : LgI w' g gd N a sz gen v' m L' SS st nx plat l rd wt fl k FD := by
        refine ⟨k1, k2, fun s hs => ?_, q.dk.only k6 (fun z hz hm => h1.dis z (.inl (TF z hm)) hz), fun z hz => ?_, h1.gen_, h1.rng, ⟨?_, fun x hx => ?_⟩, h1.oks⟩
        · obtain ⟨j1, j2, j3, j4⟩ := q.sv s hs
          have s1 : s.h ∉ g :: m :: v.ownBlock.toList := fun hm => by
            rcases T _ hm with e | e | e
            · exact j1.ne_ q.blk (by decide) e
            · exact q.gr.blk_m j1 e
            · exact q.gr.blk_v j1 (by decide) _ e rfl
          have s2 : ∀ z, s.v.ownBlock = some z → z ∉ g :: m :: v.ownBlock.toList := fun z hz hm => by
            rcases T _ hm with e | e | e
            · exact j2.blk_v q.blk (by decide) _ hz e
            · obtain ⟨cs, hbq⟩ := irow_blk j2.row hz
              exact q.gr.blk_m hbq e
            · exact j4 z hz e
          have s3 : s.m ∉ g :: m :: v.ownBlock.toList := fun hm => by
            rcases T _ hm with e | e | e
            · exact j2.blk_m q.blk e.symm
            · exact j3 e
            · obtain ⟨cs, hbq⟩ := irow_blk q.gr.row e
              exact j2.blk_m hbq rfl
          refine ⟨j1.only k6 s1, j2.only k6 s2 s3 (fun x hx => fun hm => ?_), j3, fun z hz e => ?_⟩
          · exact q.u8_far (j2.ok x hx).row (TF _ hm)
          · rcases k4 z e with e | e
            · exact j4 z hz e
            · have := j2.ltv hz; omega
        · rcases hz with hz | ⟨x, hx, rfl⟩
          · rcases mem_footL.1 hz with e | e | e | e
            · exact h1.dis z (.inl (mem_footL.2 (.inl e)))
            · exact h1.dis z (.inl (mem_footL.2 (.inr (.inl e))))
            · rcases k4 z e with e | e
              · exact h1.dis z (.inl (mem_footL.2 (.inr (.inr (.inl e)))))
              · intro hm; have := hFD z hm; omega
            · exact h1.dis z (.inl (mem_footL.2 (.inr (.inr (.inr e)))))
          · rcases mem_bytesL.1 hx with e | e
            · rcases k5 x e with e | e
              · exact h1.dis _ (.inr ⟨x, mem_bytesL.2 (.inl e), rfl⟩)
              · subst e; intro hm; have := hFD b hm; omega
            · exact h1.dis _ (.inr ⟨x, mem_bytesL.2 (.inr e), rfl⟩)
        · have hl := congrArg List.length k3
          have hok := h1.ok.len
          unfold putG at hl
          split at hl
          · simp [gvG] at hl; omega
          · rename_i hnm
            have : (gvG L).length + 1 < sz := by
              rcases hf with e | e
              · exact absurd e hnm
              · exact e
            simp [gvG] at hl this
            omega
        · rcases k5 x hx with e | e
          · exact h1.ok.num x e
          · subst e; exact hn
      refine Lg.mk2 hI ((ho.mono (by simp)).trans (k6.mono (fun z _ hz => h4 z (.inl (TF z hz))))) (fun z hz => ?_) (fun z hz => .inl (h4 z (.inr (.inr hz)))) (fun x hx => ?_)
      · rcases mem_footL.1 hz with e | e | e | e
        · exact .inl (h4 z (.inl (mem_footL.2 (.inl e))))
        · exact .inl (h4 z (.inl (mem_footL.2 (.inr (.inl e)))))
        · rcases k4 z e with e | e
          · exact .inl (h4 z (.inl (mem_footL.2 (.inr (.inr (.inl e))))))
          · exact .inr (Nat.le_trans hsz e)
        · exact .inl (h4 z (.inl (mem_footL.2 (.inr (.inr (.inr e))))))
      · rcases mem_bytesL.1 hx with e | e
        · rcases k5 x e with e | e
          · exact .inl (h4 _ (.inr (.inl ⟨x, mem_bytesL.2 (.inl e), rfl⟩)))
          · subst e; exact .inr hnew
        · exact .inl (h4 _ (.inr (.inl ⟨x, mem_bytesL.2 (.inr e), rfl⟩)))
    by_cases hm : n ∈ nsG L
    · exact (gwrite_old q.blk q.gr ⟨n, b, zs, r⟩ hx hm hlen).mono key
    · exact (gwrite_new q.blk q.gr ⟨n, b, zs, r⟩ hx hw hm hlen).mono key))
  by_cases hm : n ∈ nsG L
  · obtain ⟨x, hx, rfl⟩ := gr_find hm
    have HL := hide (fun W (ho : Only [] w W) => (show W.cell? ⟨g, 5, none⟩ = some (.map (some m)) ∧ (Instr.lookup 78 (.map (some m)) (.int .i64 x.n) false).run Try.prog W = .ok (.slice (some ⟨x.b, 0, none⟩) 512 (512 + x.r.length)) W from by
      have q := h1.quiet ho
      obtain ⟨D, k1, k2⟩ := q.gr.own
      exact ⟨q.c5, lookY k2 k1 (List.mem_map.2 ⟨x, hx, rfl⟩)⟩))
    clear h1 h4 h5 hn hst hd hf hrng hb hw hokp hm hx hz hu hc hdl
    go_enter Try.func13, Try.ntmps13
    go_wp2_with (first | (go_at_call 49; refine HC.out.mono ?_; rintro e w' ⟨rfl, rfl⟩) | (go_at_call 50; refine HH.out.mono ?_; rintro e w1 ⟨rfl, ho⟩; have HO := hide ho; obtain ⟨c5, hlk⟩ := HL.out _ ho; clear ho) | (go_at_call 34; refine (HR.out _ HO.out).mono ?_; rintro e w' ⟨rfl, rfl⟩))
    go_region_law (go_simp; first | (go_at_call 52; refine (HCL.out _ (HO.out.trans (by repeat (first | exact Only.refl _ _ | apply Only.drew | apply Only.drewN)))).mono ?_; rintro e w2 ⟨b, r, rfl, hx, hnew, ho⟩; have HG := hide (fun W hW => HGW.out W (ho.trans hW) b r (hx.only hW (by simp)) hnew); clear hx hnew ho) | (go_at_call 51; refine (HG.out _ (by repeat (first | exact Only.refl _ _ | apply Only.drew | apply Only.drewN))).mono ?_; rintro e w3 ⟨rfl, hd⟩; have HD := hide hd; clear hd))
    all_goals
      go_wp2
      go_ret
      exact ⟨rfl, HD.out⟩
  · have HL := hide (fun W (ho : Only [] w W) => (show W.cell? ⟨g, 5, none⟩ = some (.map (some m)) ∧ (Instr.lookup 78 (.map (some m)) (.int .i64 n) false).run Try.prog W = .ok (.slice none 0 0) W from by
      have q := h1.quiet ho
      obtain ⟨D, k1, k2⟩ := q.gr.own
      exact ⟨q.c5, lookY_no k2 k1 hw (by rw [refG_keys]; exact hm)⟩))
    have hlt : (gvG L).length + 1 < sz := by
      rcases hf with e | e
      · rw [gvG_keys] at e; exact absurd e hm
      · exact e
    have hne : 0 < (sz : Int) - 1 - (gvG L).length := by omega
    generalize (sz : Int) - 1 - (gvG L).length = rm at HM hne
    clear h1 h4 h5 hn hst hd hf hrng hb hw hokp hm hz hu hc hdl hlt
    go_enter Try.func13, Try.ntmps13
    go_wp2_with (first | (go_at_call 49; refine HC.out.mono ?_; rintro e w' ⟨rfl, rfl⟩) | (go_at_call 50; refine HH.out.mono ?_; rintro e w1 ⟨rfl, ho⟩; have HO := hide ho; obtain ⟨c5, hlk⟩ := HL.out _ ho; clear ho) | (go_at_call 34; refine (HR.out _ HO.out).mono ?_; rintro e w' ⟨rfl, rfl⟩) | (go_at_call 33; refine (HM.out _ HO.out).mono ?_; rintro e w2 ⟨rfl, ho⟩; have HO2 := hide (HO.out.trans ho); clear ho))
    go_region_law (go_simp; first | (go_at_call 52; refine (HCL.out _ (HO2.out.trans (by repeat (first | exact Only.refl _ _ | apply Only.drew | apply Only.drewN)))).mono ?_; rintro e w3 ⟨b, r, rfl, hx, hnew, ho⟩; have HG := hide (fun W hW => HGW.out W (ho.trans hW) b r (hx.only hW (by simp)) hnew); clear hx hnew ho) | (go_at_call 51; refine (HG.out _ (by repeat (first | exact Only.refl _ _ | apply Only.drew | apply Only.drewN))).mono ?_; rintro e w3 ⟨rfl, hd⟩; have HD := hide hd; clear hd))
    all_goals
      go_wp2
      go_ret
      exact ⟨rfl, HD.out⟩
end
end
end Go.Proofs.Ytokdpldmoflnkaa
/-
  A disk's write: how many calls were done, and how many writes are pending, apart.
-/
namespace Go.Proofs.Ytokdpldmoflnkaa
open Go.ChangeShapes Go.WideShapes Go.ChangeAt Go.RowKit
set_option linter.unusedVariables false
section
variable {w w' : World} {g N : Nat} {plat : List Int} {l : List (Nat × List Int)} {left rd wt fl : Int} {k k' : Nat} {F S : List Nat}
theorem dk_write_b (h : Dk w g N plat l left rd wt fl k F) (n : Nat) (d o c : Nat) (zs : List Int) (h1 : n < N) (hl : left ≠ 0) (hm : left ≤ 9223372036854775807) (hz : zs.length = 512) (hu : U8 zs) (hb : ∀ i, i < 512 → w.cell? ⟨d, o + i, none⟩ = some (.int .u8 (gb zs i))) (hdl : d < w.heap.size) (hdF : d ∉ F) (hk : k < 4611686018427387000) (hlen : l.length < 4398046511000) :
    Calls Try.prog 88 #[.pointer (some ⟨g, 0, none⟩), .int .i64 n, .slice (some ⟨d, o, none⟩) 512 c] w fun e w' => e = .returned (.int .i64 0) ∧ ∃ F', Turned w w' F F' ∧ Dk w' g N plat (l ++ [(n, zs)]) (lessv left) rd (wt + 1) fl (k + 1) F' := by
  obtain ⟨pb, pc, mb, pr, pv, D, ws, hd, e1, e0, e2, e3, e4, e5, e6, e7, e8⟩ := h
  rw [← e1, ofW_length] at hlen
  refine (dwrite_do hd n d o c zs h1 hl hm hz hu hb hdl (fun e => hdF (e ▸ e6 g (by simp [foot]))) (fun e => hdF (e ▸ e6 mb (by simp [foot]))) e2.1 (by omega) (by omega)).mono ?_
  rintro e w' ⟨he, pv', D', x, ho, hpv, hxb, hxs, hxd, hd'⟩
  have hxl : x.blk < w'.heap.size := (hd'.wok x (by simp)).row.lt
  refine ⟨he, x.blk :: (pv'.ownBlock.toList ++ F), ⟨ho.mono (fun q _ hq => e6 q hq), fun q hq => ?_⟩, pb, pc, mb, pr, pv', D', ws ++ [x], hd', ?_, ?_, ?_, ?_, ?_, ?_, ?_, ?_, ?_⟩
  · simp only [List.mem_cons, List.mem_append, Option.mem_toList] at hq
    rcases hq with rfl | hq | hq
    · exact .inr hxb
    · rcases hpv q hq with h | h
      · exact .inl (e6 q (by simp [foot, h]))
      · exact .inr h
    · exact .inl hq
  · rw [ofW_snoc, e1, hxs, hxd]
  · omega
  · omega
  · omega
  · simp; omega
  · intro y hy
    rcases List.mem_append.1 hy with h | h
    · exact e5 y h
    · rw [List.mem_singleton.1 h]
      have := hd.row.lt
      omega
  · intro q hq
    simp only [foot, List.mem_cons] at hq
    simp only [List.mem_cons, List.mem_append, Option.mem_toList]
    rcases hq with rfl | rfl | rfl | hq
    · exact .inr (.inr (e6 _ (by simp [foot])))
    · exact .inr (.inr (e6 _ (by simp [foot])))
    · exact .inr (.inr (e6 _ (by simp [foot])))
    · revert hq
      cases pv'.ownBlock with
      | none => simp
      | some z => intro hq; simp at hq; exact .inr (.inl (by simp [hq]))
  · intro y hy
    rcases List.mem_append.1 hy with h | h
    · simp [e7 y h]
    · rw [List.mem_singleton.1 h]; simp
  · intro q hq
    simp only [List.mem_cons, List.mem_append, Option.mem_toList] at hq
    rcases hq with rfl | hq | hq
    · exact hxl
    · exact (pv_ne hd' hq).2.2.2.1
    · exact Nat.lt_of_lt_of_le (e8 q hq) ho.size
end
end Go.Proofs.Ytokdpldmoflnkaa
/-
  The log (parapet/wlog): what a commit's steps do.
-/
namespace Go.Proofs.Ytokdpldmoflnkaa
open Go.ChangeShapes Go.WideShapes Go.ChangeAt Go.RowKit Go.Maps
set_option linter.unusedVariables false
/-- The table of steps. -/
def stepsC : Array Value := #[.nilFunc, .bool false, .func (.func 71) #[] #[], .bool true, .func (.func 72) #[] #[], .bool false, .func (.func 73) #[] #[], .bool false, .func (.func 72) #[] #[], .bool false, .func (.func 74) #[] #[], .bool true, .func (.func 72) #[] #[], .bool false, .func (.func 75) #[] #[], .bool false, .func (.func 72) #[] #[], .bool false]
set_option maxRecDepth 100000 in
theorem steps_is (w : World) : Calls Try.prog 57 #[] w fun e w' => ∃ d, e = .returned (.slice (some ⟨d, 0, none⟩) 9 9) ∧ w.heap.size ≤ d ∧ Blk w' d 96 stepsC ∧ Only [] w w' := by
  have HO := hide ((Only.refl [] w).alloc (.cells stepsC 96))
  have HB := hide (Blk.new w 96 stepsC)
  unfold stepsC at HO HB
  go_enter Try.func57, Try.ntmps57
  go_wp2
  go_ret
  exact ⟨_, rfl, Nat.le_refl _, HB.out, HO.out⟩
section
variable {w w' w1 : World} {g gd N a sz : Nat} {gen : Int} {v v' : Value} {m m' : Nat} {L L' : List GB} {SS SS' : Option SG} {st nx : Int} {plat plat' : List Int} {l l' : List (Nat × List Int)} {rd wt fl rd' wt' fl' : Int} {k k' : Nat} {FD FD' F T : List Nat} {G : PG} {S : Option PG}
/-- The disk turned. -/
theorem LgI.dkT (h : LgI w g gd N a sz gen v m L SS st nx plat l rd wt fl k FD) (hT : Turned w w' FD FD') (hD : Dk w' gd N plat' l' (-1) rd' wt' fl' k' FD') : LgI w' g gd N a sz gen v m L SS st nx plat' l' rd' wt' fl' k' FD' := by
  have dn : ∀ q ∈ footL g v m SS, q ∉ FD := fun q hq => h.dis q (.inl hq)
  have db : ∀ x ∈ bytesL L SS, x.b ∉ FD := fun x hx => h.dis _ (.inr ⟨x, hx, rfl⟩)
  refine ⟨h.blk.only hT.1 (dn _ (mem_footL.2 (.inl rfl))), h.gr.only hT.1 (fun z hz => dn z (mem_footL.2 (.inr (.inr (.inl hz))))) (dn _ (mem_footL.2 (.inr (.inl rfl)))) (fun x hx => db x (mem_bytesL.2 (.inl hx))), fun s hs => ?_, hD, fun q hq hm => ?_, h.gen_, h.rng, h.ok, h.oks⟩
  · obtain ⟨k1, k2, k3, k4⟩ := h.sv s hs
    exact ⟨k1.only hT.1 (dn _ (mem_footL.2 (.inr (.inr (.inr ⟨s, hs, .inl rfl⟩))))), k2.only hT.1 (fun z hz => dn z (mem_footL.2 (.inr (.inr (.inr ⟨s, hs, .inr (.inr hz)⟩))))) (dn _ (mem_footL.2 (.inr (.inr (.inr ⟨s, hs, .inr (.inl rfl)⟩))))) (fun x hx => db x (mem_bytesL.2 (.inr ⟨s, hs, hx⟩))), k3, k4⟩
  · rcases hT.2 q hm with e | e
    · exact h.dis q hq e
    · rcases hq with hq | ⟨x, hx, rfl⟩
      · have := h.foot_lt hq; omega
      · have := (h.byte_ok hx).row.lt; omega
theorem Lg.dk (h : LgI w g gd N a sz gen v m L SS st nx plat l rd wt fl k FD) (h4 : ∀ q, q ∈ footL g v m SS ∨ (∃ x ∈ bytesL L SS, x.b = q) ∨ q ∈ FD → q ∈ F) (hT : Turned w w' FD FD') (hD : Dk w' gd N plat' l' (-1) rd' wt' fl' k' FD') : DidLg w w' g gd N a sz gen (gvG L) (SS.map (fun s => gvG s.L)) st nx plat' l' k' F :=
  Lg.mk2 (h.dkT hT hD) (hT.1.mono (fun q _ hq => h4 q (.inr (.inr hq)))) (fun q hq => .inl (h4 q (.inl hq))) (fun q hq => (hT.2 q hq).imp_left (fun e => h4 q (.inr (.inr e)))) (fun x hx => .inl (h4 _ (.inr (.inl ⟨x, hx, rfl⟩))))
theorem DidLg.cells (h : DidLg w w' g gd N a sz gen G S st nx plat l k F) : w'.cell? ⟨g, 0, none⟩ = some (.pointer (some ⟨gd, 0, none⟩)) ∧ w'.cell? ⟨g, 1, none⟩ = some (.int .i64 a) ∧ w'.cell? ⟨g, 3, none⟩ = some (.int .u64 gen) ∧ w'.cell? ⟨g, 7, none⟩ = some (.int .i64 st) ∧ w'.cell? ⟨g, 8, none⟩ = some (.int .i64 nx) := by
  obtain ⟨F', _, v, m, L, SS, rd, wt, fl, FD, h1, _⟩ := h
  exact ⟨h1.c0, h1.c1, h1.c3, h1.c7, h1.c8⟩
theorem lay_is (h : LgI w g gd N a sz gen v m L SS st nx plat l rd wt fl k FD) (h4 : ∀ q, q ∈ footL g v m SS ∨ (∃ x ∈ bytesL L SS, x.b = q) ∨ q ∈ FD → q ∈ F) (n d c : Nat) (zs : List Int) (hn : n < N) (hz : zs.length = 512) (hu : U8 zs) (hc : ∀ i, i < 512 → w.cell? ⟨d, i, none⟩ = some (.int .u8 (gb zs i))) (hdl : d < w.heap.size) (hd : d ∉ FD) (hk : k < 4611686018427380000) (hlen : l.length < 4398046511000) :
    Calls Try.prog 81 #[.pointer (some ⟨g, 0, none⟩), .int .i64 n, .slice (some ⟨d, 0, none⟩) 512 c] w fun e w' => e = .returned (.tuple #[]) ∧ DidLg w w' g gd N a sz gen (gvG L) (SS.map (fun s => gvG s.L)) st nx plat (l ++ [(n, zs)]) (k + 1) F := by
  have HK := hide ((dk_write_b h.dk n d 0 c zs hn (by decide) (by decide) hz hu (fun i hi => by rw [Nat.zero_add]; exact hc i hi) hdl hd (by omega) hlen).mono (R' := fun e w' => e = .returned (.int .i64 0) ∧ DidLg w w' g gd N a sz gen (gvG L) (SS.map (fun s => gvG s.L)) st nx plat (l ++ [(n, zs)]) (k + 1) F) (fun e w' ⟨e1, F', hT, hD⟩ => ⟨e1, Lg.dk h h4 hT hD⟩))
  have c0 := h.c0
  clear h h4 hc
  go_enter Try.func81, Try.ntmps81
  go_wp2_with (go_at_call 88; refine HK.out.mono ?_; rintro e w1 ⟨rfl, hd⟩; have HD := hide hd; clear hd)
  go_end0
  exact ⟨rfl, HD.out⟩
theorem lay_i (h : LgI w g gd N a sz gen v m L SS st nx plat l rd wt fl k FD) (n d c : Nat) (zs : List Int) (hn : n < N) (hz : zs.length = 512) (hu : U8 zs) (hc : ∀ i, i < 512 → w.cell? ⟨d, i, none⟩ = some (.int .u8 (gb zs i))) (hdl : d < w.heap.size) (hd : d ∉ FD) (hk : k < 4611686018427380000) (hlen : l.length < 4398046511000) :
    Calls Try.prog 81 #[.pointer (some ⟨g, 0, none⟩), .int .i64 n, .slice (some ⟨d, 0, none⟩) 512 c] w fun e w' => e = .returned (.tuple #[]) ∧ ∃ FD', Turned w w' FD FD' ∧ LgI w' g gd N a sz gen v m L SS st nx plat (l ++ [(n, zs)]) rd (wt + 1) fl (k + 1) FD' := by
  have HK := hide ((dk_write_b h.dk n d 0 c zs hn (by decide) (by decide) hz hu (fun i hi => by rw [Nat.zero_add]; exact hc i hi) hdl hd (by omega) hlen).mono (R' := fun e w' => e = .returned (.int .i64 0) ∧ ∃ FD', Turned w w' FD FD' ∧ LgI w' g gd N a sz gen v m L SS st nx plat (l ++ [(n, zs)]) rd (wt + 1) fl (k + 1) FD') (fun e w' ⟨e1, F', hT, hD⟩ => ⟨e1, F', hT, h.dkT hT hD⟩))
  have c0 := h.c0
  clear h hc
  go_enter Try.func81, Try.ntmps81
  go_wp2_with (go_at_call 88; refine HK.out.mono ?_; rintro e w1 ⟨rfl, hd⟩; have HD := hide hd; clear hd)
  go_end0
  exact ⟨rfl, HD.out⟩
/-- The same log, its disk turned: packed. -/
theorem LgI.did (h4 : ∀ q, q ∈ footL g v m SS ∨ (∃ x ∈ bytesL L SS, x.b = q) ∨ q ∈ FD → q ∈ F) (hT : Turned w w' FD FD') (h : LgI w' g gd N a sz gen v m L SS st nx plat l rd wt fl k FD') : DidLg w w' g gd N a sz gen (gvG L) (SS.map (fun s => gvG s.L)) st nx plat l k F :=
  Lg.mk2 h (hT.1.mono (fun q _ hq => h4 q (.inr (.inr hq)))) (fun q hq => .inl (h4 q (.inl hq))) (fun q hq => (hT.2 q hq).imp_left (fun e => h4 q (.inr (.inr e)))) (fun x hx => .inl (h4 _ (.inr (.inl ⟨x, hx, rfl⟩))))
theorem flush_is (h : LgI w g gd N a sz gen v m L SS st nx plat l rd wt fl k FD) (h4 : ∀ q, q ∈ footL g v m SS ∨ (∃ x ∈ bytesL L SS, x.b = q) ∨ q ∈ FD → q ∈ F) (hk : k < 4611686018427380000) (hlen : l.length < 4398046511000) :
    Calls Try.prog 72 #[.pointer (some ⟨g, 0, none⟩)] w fun e w' => e = .returned (.tuple #[]) ∧ DidLg w w' g gd N a sz gen (gvG L) (SS.map (fun s => gvG s.L)) st nx (layAll plat l) [] (k + 1) F := by
  have HK := hide ((dk_flush h.dk (by decide) (by decide) (by omega)).mono (R' := fun e w' => e = .returned (.int .i64 l.length) ∧ DidLg w w' g gd N a sz gen (gvG L) (SS.map (fun s => gvG s.L)) st nx (layAll plat l) [] (k + 1) F) (fun e w' ⟨e1, hT, hD⟩ => ⟨e1, Lg.dk h h4 hT hD⟩))
  have c0 := h.c0
  clear h h4
  go_enter Try.func72, Try.ntmps72
  go_wp2_with (go_at_call 82; refine HK.out.mono ?_; rintro e w1 ⟨rfl, hd⟩; have HD := hide hd; clear hd)
  go_end0
  exact ⟨rfl, HD.out⟩
section
variable (h : Lg w g gd N a sz gen G S st nx plat l k F) (hk : k < 4611686018427380000) (hlen : l.length < 4398046511000)
include h hk hlen
theorem lg_flush : Calls Try.prog 72 #[.pointer (some ⟨g, 0, none⟩)] w fun e w' => e = .returned (.tuple #[]) ∧ DidLg w w' g gd N a sz gen G S st nx (layAll plat l) [] (k + 1) F := by
  obtain ⟨v, m, L, SS, rd, wt, fl, FD, h1, rfl, rfl, h4, h5⟩ := h
  exact flush_is h1 h4 hk hlen
set_option maxRecDepth 100000 in
set_option maxHeartbeats 1500000 in
theorem lg_emptyH : Calls Try.prog 75 #[.pointer (some ⟨g, 0, none⟩)] w fun e w' => e = .returned (.tuple #[]) ∧ DidLg w w' g gd N a sz gen G S st nx plat (l ++ [(a, hdrF gen [])]) (k + 1) F := by
  obtain ⟨v, m, L, SS, rd, wt, fl, FD, h1, rfl, rfl, h4, h5⟩ := h
  have hg := h1.gen_
  have hr := h1.rng
  have HX := hide (fun W (ho : Only [] w W) => (show W.cell? ⟨g, 1, none⟩ = some (.int .i64 a) ∧ W.cell? ⟨g, 3, none⟩ = some (.int .u64 gen) from ⟨(h1.quiet ho).c1, (h1.quiet ho).c3⟩))
  have HH := hide (fun W (ho : Only [] w W) => (header_is (w := W) (v := .slice none 0 0) (ns := []) (KRow.nil _ _ _ _) gen hg.1 hg.2 (by simp) (by simp)).mono (R' := fun e w' => ∃ d, e = .returned (.slice (some ⟨d, 0, none⟩) 512 512) ∧ (w.heap.size ≤ d ∧ Blk w' d 5 (u8l (hdrF gen []) ++ ([] : List Value)).toArray) ∧ Only [] w w') (fun e w' ⟨d, e1, e2, e3, e4⟩ => ⟨d, by rw [e1, hdrF_length _ _ (by simp)], ⟨Nat.le_trans ho.size e2, e3⟩, ho.trans e4⟩))
  have HL := hide (fun W (ho : Only [] w W) d (hd : w.heap.size ≤ d ∧ Blk W d 5 (u8l (hdrF gen []) ++ ([] : List Value)).toArray) => (lay_is (h1.quiet ho) h4 a d 512 (hdrF gen []) (by omega) (hdrF_length _ _ (by simp)) (u8_hdrF _ _) (fun i hi => by rw [hd.2.cell]; exact u8l_get _ _ i (by rw [hdrF_length _ _ (by simp)]; exact hi)) hd.2.lt (fun hm => by have := h1.dk.lt d hm; omega) hk hlen).mono (R' := fun e w' => e = .returned (.tuple #[]) ∧ DidLg w w' g gd N a sz gen (gvG L) (SS.map (fun s => gvG s.L)) st nx plat (l ++ [(a, hdrF gen [])]) (k + 1) F) (fun e w' ⟨e1, F', hT, hD⟩ => ⟨e1, F', ⟨(ho.mono (by simp)).trans hT.1, fun q hq => (hT.2 q hq).imp_right (fun e => Nat.le_trans ho.size e)⟩, hD⟩))
  clear h1 h4 h5 hg hr
  go_enter Try.func75, Try.ntmps75
  go_wp2
  have kk : Only [] w w.drew := (Only.refl _ _).drew
  have zz := HX.out _ kk
  go_region_held3 (fun w' => w'.cell? ⟨g, 1, none⟩ = some (.int .i64 a) ∧ w'.cell? ⟨g, 3, none⟩ = some (.int .u64 gen)) (first | go_keep | exact HX.out _ kk | exact z3) (first | (go_at_call 83; refine (HH.out _ (by repeat (first | exact Only.refl _ _ | apply Only.drew | apply Only.drewN))).mono ?_; rintro e w2 ⟨d, rfl, hd, o2⟩; have HL2 := hide (fun W (ho : Only [] w2 W) => HL.out W (o2.trans ho) d ⟨hd.1, hd.2.only ho (by simp)⟩); clear hd kk; have kk := o2; clear o2) | (go_at_call 81; refine (HL2.out _ (by repeat (first | exact Only.refl _ _ | apply Only.drew | apply Only.drewN))).mono ?_; rintro e w3 ⟨rfl, hd⟩; have HD := hide hd; have z3 := And.intro hd.cells.2.1 hd.cells.2.2.1; clear hd))
  all_goals
    go_wp2
    go_end0
    exact ⟨rfl, HD.out⟩
set_option maxRecDepth 100000 in
set_option maxHeartbeats 2000000 in
theorem lg_writeH : Calls Try.prog 73 #[.pointer (some ⟨g, 0, none⟩)] w fun e w' => e = .returned (.tuple #[]) ∧ DidLg w w' g gd N a sz ((gen + 1) % 18446744073709551616) G S st nx plat (l ++ [(a, hdrF ((gen + 1) % 18446744073709551616) (G.map (·.1)))]) (k + 1) F := by
  obtain ⟨v, m, L, SS, rd, wt, fl, FD, h1, rfl, rfl, h4, h5⟩ := h
  rw [gvG_keys]
  have hr := h1.rng
  have c3 := h1.c3
  have f3 := h1.fr 3
  have hg : 0 ≤ (gen + 1) % 18446744073709551616 ∧ (gen + 1) % 18446744073709551616 < 18446744073709551616 := by omega
  have o1 : Only [g] w (w.setCell ⟨g, 3, none⟩ (.int .u64 ((gen + 1) % 18446744073709551616))) := (Only.refl _ _).setCell _ (by simp)
  have h2 := h1.restr (SS' := SS) (gen' := (gen + 1) % 18446744073709551616) (st' := st) (nx' := nx) o1 (fun s hs => hs) hg (h1.blk.set_ 3 _)
  obtain ⟨A, c, rfl, _⟩ := h1.gr.row.form2
  have hgF := h4 g (.inl (mem_footL.2 (.inl rfl)))
  clear h1 hg
  have hw : IntKind.u64.wrap (gen + 1) = (gen + 1) % 18446744073709551616 := by
    unfold IntKind.wrap
    simp [IntKind.bits, IntKind.signed]
  have HO1 := hide o1
  rw [← hw] at h2 HO1 ⊢
  clear hw o1
  go_enter Try.func73, Try.ntmps73
  go_wp2
  generalize hgn : IntKind.u64.wrap (gen + 1) = gn at *
  have HGN := hide hgn
  clear hgn
  generalize w.setCell ⟨g, 3, none⟩ (.int .u64 gn) = W1 at *
  have hg := h2.gen_
  have hlenL := h2.len
  have HX := hide (fun W rd' wt' fl' k' l' FD' (q : LgI W g gd N a sz gn (.slice A (nsG L).length c) m L SS st nx plat l' rd' wt' fl' k' FD') => (show W.cell? ⟨g, 1, none⟩ = some (.int .i64 a) ∧ W.cell? ⟨g, 3, none⟩ = some (.int .u64 gn) ∧ W.cell? ⟨g, 4, none⟩ = some (.slice A (nsG L).length c) from ⟨q.c1, q.c3, q.c4⟩))
  have HXQ := hide (fun W (ho : Only [] W1 W) => HX.out W _ _ _ _ _ _ (h2.quiet ho))
  have HH := hide (fun W (ho : Only [] W1 W) => (header_is (h2.quiet ho).gr.row gn hg.1 hg.2 (by rw [nsG_length]; omega) (fun x hx => by have := h2.nums hx; have := h2.big; omega)).mono (R' := fun e w' => ∃ d, e = .returned (.slice (some ⟨d, 0, none⟩) 512 512) ∧ (W1.heap.size ≤ d ∧ Blk w' d 5 (u8l (hdrF gn (nsG L)) ++ ([] : List Value)).toArray) ∧ Only [] W1 w') (fun e w' ⟨d, e1, e2, e3, e4⟩ => ⟨d, by rw [e1, hdrF_length _ _ (by rw [nsG_length]; omega)], ⟨Nat.le_trans ho.size e2, e3⟩, ho.trans e4⟩))
  have HL := hide (fun W (ho : Only [] W1 W) d (hd : W1.heap.size ≤ d ∧ Blk W d 5 (u8l (hdrF gn (nsG L)) ++ ([] : List Value)).toArray) => (lay_i (h2.quiet ho) a d 512 (hdrF gn (nsG L)) (by omega) (hdrF_length _ _ (by rw [nsG_length]; omega)) (u8_hdrF _ _) (fun i hi => by rw [hd.2.cell]; exact u8l_get _ _ i (by rw [hdrF_length _ _ (by rw [nsG_length]; omega)]; exact hi)) hd.2.lt (fun hm => by have := h2.dk.lt d hm; omega) hk hlen).mono (R' := fun e w' => e = .returned (.tuple #[]) ∧ (w'.cell? ⟨g, 1, none⟩ = some (.int .i64 a) ∧ w'.cell? ⟨g, 3, none⟩ = some (.int .u64 gn) ∧ w'.cell? ⟨g, 4, none⟩ = some (.slice A (nsG L).length c)) ∧ DidLg w w' g gd N a sz gn (gvG L) (SS.map (fun s => gvG s.L)) st nx plat (l ++ [(a, hdrF gn (nsG L))]) (k + 1) F) (fun e w' ⟨e1, F', hT, hD⟩ => ⟨e1, HX.out _ _ _ _ _ _ _ hD, by
    obtain ⟨F2, hT2, hL2⟩ := LgI.did h4 hT hD
    exact ⟨F2, ⟨(HO1.out.mono (fun q _ hq => by simp at hq; subst hq; exact hgF)).trans ((ho.mono (by simp)).trans hT2.1), fun q hq => (hT2.2 q hq).imp_right (fun e => Nat.le_trans HO1.out.size (Nat.le_trans ho.size e))⟩, hL2⟩⟩))
  clear h4 h5 hr hg h2 hlenL c3 f3
  have kk : Only [] W1 W1.drew := (Only.refl _ _).drew
  have zz := HXQ.out _ kk
  go_region_held3 (fun w' => w'.cell? ⟨g, 1, none⟩ = some (.int .i64 a) ∧ w'.cell? ⟨g, 3, none⟩ = some (.int .u64 gn) ∧ w'.cell? ⟨g, 4, none⟩ = some (.slice A (nsG L).length c)) (first | go_keep | exact HXQ.out _ kk | exact z3) (first | (go_at_call 83; refine (HH.out _ (by repeat (first | exact Only.refl _ _ | apply Only.drew | apply Only.drewN))).mono ?_; rintro e w2 ⟨d, rfl, hd, o2⟩; have HL2 := hide (fun W (ho : Only [] w2 W) => HL.out W (o2.trans ho) d ⟨hd.1, hd.2.only ho (by simp)⟩); clear hd kk; have kk := o2; clear o2) | (go_at_call 81; refine (HL2.out _ (by repeat (first | exact Only.refl _ _ | apply Only.drew | apply Only.drewN))).mono ?_; rintro e w3 ⟨rfl, z3, hd⟩; have HD := hide hd; clear hd))
  all_goals
    go_wp2
    go_end0
    exact ⟨rfl, by rw [HGN.out]; exact HD.out⟩
end
end
end Go.Proofs.Ytokdpldmoflnkaa
