/-
  The log: its header sector is always a right header, whatever steps are done (plain).
-/
import Derived.Test.YtokdpldmoflnkaaMg24
namespace Go.Proofs.Ytokdpldmoflnkaa
open Go.ChangeShapes Go.WideShapes Go.ChangeAt Go.RowKit
set_option linter.unusedVariables false
set_option linter.unusedSimpArgs false
/-- The sector a reads as a right header. -/
def HdrOk (N a sz : Nat) (plat : List Int) (l : List (Nat × List Int)) : Prop := ∃ (g0 : Int) (ns0 : List Int), sect plat l a = hdrF g0 ns0 ∧ (0 ≤ g0 ∧ g0 < 18446744073709551616) ∧ ns0.length + 1 ≤ sz ∧ ns0.Nodup ∧ ∀ x ∈ ns0, blkB N a sz x = true
/-- Platter and writes have the right lengths. -/
def SecOk (N : Nat) (plat : List Int) (l : List (Nat × List Int)) : Prop := plat.length = 512 * N ∧ ∀ q ∈ l, q.1 < N ∧ q.2.length = 512
theorem HdrOk.far {N a sz : Nat} {plat : List Int} {l : List (Nat × List Int)} (h : HdrOk N a sz plat l) {n : Nat} (zs : List Int) (hn : n ≠ a) : HdrOk N a sz plat (l ++ [(n, zs)]) := by
  obtain ⟨g0, ns0, h1, h2⟩ := h
  exact ⟨g0, ns0, by rw [sect_write, if_neg hn]; exact h1, h2⟩
theorem HdrOk.new {N a sz : Nat} (plat : List Int) (l : List (Nat × List Int)) {g : Int} {ns : List Int} (h1 : 0 ≤ g ∧ g < 18446744073709551616) (h2 : ns.length + 1 ≤ sz) (h3 : ns.Nodup) (h4 : ∀ x ∈ ns, blkB N a sz x = true) : HdrOk N a sz plat (l ++ [(a, hdrF g ns)]) :=
  ⟨g, ns, by rw [sect_write, if_pos rfl], h1, h2, h3, h4⟩
theorem HdrOk.flush {N a sz : Nat} {plat : List Int} {l : List (Nat × List Int)} (h : HdrOk N a sz plat l) (hs : SecOk N plat l) : HdrOk N a sz (layAll plat l) [] := by
  obtain ⟨g0, ns0, h1, h2⟩ := h
  exact ⟨g0, ns0, by rw [sect_flush (N := N) a l plat hs.1 hs.2]; exact h1, h2⟩
theorem hdr_do {N a sz : Nat} {p : LP} (hh : HdrOk N a sz p.plat p.l) (hs : SecOk N p.plat p.l) (hok : OkP N a sz p.G) (hg : 0 ≤ p.gen ∧ p.gen < 18446744073709551616) (hsz : 1 ≤ sz) (hr : RunsP p) : HdrOk N a sz (doP a p).plat (doP a p).l := by
  obtain ⟨h1, h2, h3, h4, h5⟩ := hr
  have hst : p.st = 1 ∨ p.st = 2 ∨ p.st = 3 ∨ p.st = 4 ∨ p.st = 5 ∨ p.st = 6 ∨ p.st = 7 ∨ p.st = 8 := by omega
  rcases hst with e | e | e | e | e | e | e | e
  · rw [show doP a p = { p with l := p.l ++ [(a + 1 + p.nx, (p.G.getD p.nx (0, [])).2)] } from by unfold doP; rw [e]; rfl]
    exact hh.far _ (by omega)
  · rw [show doP a p = { p with plat := layAll p.plat p.l, l := [] } from by unfold doP; rw [e]; rfl]
    exact hh.flush hs
  · rw [show doP a p = { p with gen := (p.gen + 1) % 18446744073709551616, l := p.l ++ [(a, hdrF ((p.gen + 1) % 18446744073709551616) (p.G.map (·.1)))] } from by unfold doP; rw [e]; rfl]
    exact HdrOk.new _ _ (by omega) (by simpa using hok.1) hok.2.1 (fun x hx => by
      obtain ⟨y, hy, rfl⟩ := List.mem_map.1 hx
      exact (hok.2.2 y hy).1)
  · rw [show doP a p = { p with plat := layAll p.plat p.l, l := [] } from by unfold doP; rw [e]; rfl]
    exact hh.flush hs
  · rw [show doP a p = { p with l := p.l ++ [((p.G.getD p.nx (0, [])).1.toNat, (p.G.getD p.nx (0, [])).2)] } from by unfold doP; rw [e]; rfl]
    have hi := h3 (by simp [eachP, e])
    have hm : p.G.getD p.nx (0, []) ∈ p.G := by simp only [List.getD, List.getElem?_eq_getElem hi, Option.getD_some]; exact List.getElem_mem hi
    have hb := blkB_yes.1 (hok.2.2 _ hm).1
    exact hh.far _ (by omega)
  · rw [show doP a p = { p with plat := layAll p.plat p.l, l := [] } from by unfold doP; rw [e]; rfl]
    exact hh.flush hs
  · rw [show doP a p = { p with l := p.l ++ [(a, hdrF p.gen [])] } from by unfold doP; rw [e]; rfl]
    exact HdrOk.new _ _ hg (by simpa using hsz) (by simp) (by simp)
  · rw [show doP a p = { p with plat := layAll p.plat p.l, l := [] } from by unfold doP; rw [e]; rfl]
    exact hh.flush hs
theorem hdr_step {N a sz : Nat} {p : LP} (hh : HdrOk N a sz p.plat p.l) (hs : SecOk N p.plat p.l) (hok : OkP N a sz p.G) (hg : 0 ≤ p.gen ∧ p.gen < 18446744073709551616) (hsz : 1 ≤ sz) (hr : RunsP p) : HdrOk N a sz (stepP a p).plat (stepP a p).l := by
  have := hdr_do hh hs hok hg hsz hr
  unfold stepP
  rw [(nextP_same _).2.1, (nextP_same _).2.2]
  exact this
theorem LgP.sec {w : World} {g gd N a sz k : Nat} {S : Option PG} {p : LP} {F : List Nat} (h : LgP w g gd N a sz S p k F) : SecOk N p.plat p.l := by
  obtain ⟨rd, wt, fl, FD, hd⟩ := h.disk
  exact ⟨hd.platOk.2.1, fun q hq => ⟨(hd.writes q hq).1, (hd.writes q hq).2.1⟩⟩
/-- What Format leaves has a right header. -/
theorem hdr_fmt {N a sz : Nat} {plat : List Int} {l : List (Nat × List Int)} (hs : SecOk N plat l) (ha : a < N) (hsz : 1 ≤ sz) : HdrOk N a sz (fmtP a plat l).plat (fmtP a plat l).l := by
  refine HdrOk.flush (HdrOk.new plat l (by omega) (by simpa using hsz) (by simp) (by simp)) ⟨hs.1, fun q hq => ?_⟩
  rcases List.mem_append.1 hq with e | e
  · exact hs.2 q e
  · simp at e
    subst e
    exact ⟨ha, hdrF_length _ _ (by simp)⟩
end Go.Proofs.Ytokdpldmoflnkaa
/-
  The document's log beside LP: Begin, End, Read, Write, Dirty.
-/
namespace Go.Proofs.Ytokdpldmoflnkaa
open Go.ChangeShapes Go.WideShapes Go.ChangeAt Go.RowKit
set_option linter.unusedVariables false
set_option linter.unusedSimpArgs false
section
variable {w w' : World} {gx gr N a sz k : Nat} {F : List Nat} {S : Option PG} {p : LP}
theorem DidXl.lp {S' : Option PG} {G' : PG} {nx : Int} {k' : Nat} (h0 : p.st = 0) (h : DidXl w w' gx gr N a sz p.gen G' S' false nx p.plat p.l k' F) : DidXP w w' gx gr N a sz S' { p with G := G' } k' F := by
  obtain ⟨F', t, x⟩ := h
  refine ⟨F', t, nx, ?_, fun e => absurd h0 e⟩
  rw [show (!decide (({ p with G := G' } : LP).st = 0)) = false from by simp [h0]]
  exact x
theorem XlP.idle (h : XlP w gx gr N a sz S p k F) (h0 : p.st = 0) : ∃ nx, Xl w gx gr N a sz p.gen p.G S false nx p.plat p.l k F := by
  obtain ⟨nx, h1, _⟩ := h
  rw [show (!decide (p.st = 0)) = false from by simp [h0]] at h1
  exact ⟨nx, h1⟩
theorem XlP.same (h : XlP w gx gr N a sz S p k F) (ho : Only [] w w') : DidXP w w' gx gr N a sz S p k F := ⟨F, Turned.same (ho.mono (by simp)), h.quiet ho⟩
section
variable (h : XlP w gx gr N a sz S p k F)
include h
theorem xlp_begin_busy (hn : S ≠ none ∨ p.st ≠ 0) : Calls Try.prog 18 #[.pointer (some ⟨gx, 0, none⟩)] w fun e w' => e = .returned (.int .i64 5) ∧ Only [] w w' := by
  obtain ⟨nx, h1, _⟩ := h
  refine xl_begin_busy h1 ?_
  rcases hn with e | e
  · exact .inr e
  · left; simp [e]
theorem xlp_begin (hS : S = none) (h0 : p.st = 0) : Calls Try.prog 18 #[.pointer (some ⟨gx, 0, none⟩)] w fun e w' => e = .returned (.int .i64 0) ∧ DidXP w w' gx gr N a sz (some p.G) p k F := by
  obtain ⟨nx, h1⟩ := h.idle h0
  exact (xl_begin h1 rfl hS).mono fun e w' ⟨q1, q2⟩ => ⟨q1, q2.lp (p := p) h0⟩
theorem xlp_end_none (u : Bool) (hS : S = none) : Calls Try.prog 20 #[.pointer (some ⟨gx, 0, none⟩), .bool u] w fun e w' => e = .returned (.int .i64 4) ∧ Only [] w w' := by
  obtain ⟨nx, h1, _⟩ := h
  exact xl_end_none h1 u hS
theorem xlp_end {G' : PG} (u : Bool) (hS : S = some G') (h0 : p.st = 0) : Calls Try.prog 20 #[.pointer (some ⟨gx, 0, none⟩), .bool u] w fun e w' => e = .returned (.int .i64 0) ∧ DidXP w w' gx gr N a sz none { p with G := if u = true then G' else p.G } k F := by
  obtain ⟨nx, h1⟩ := h.idle h0
  exact (xl_end h1 u hS).mono fun e w' ⟨q1, q2⟩ => ⟨q1, q2.lp (p := p) h0⟩
theorem xlp_dirty : Calls Try.prog 32 #[.pointer (some ⟨gx, 0, none⟩)] w fun e w' => ∃ v', e = .returned v' ∧ IRow w' v' (p.G.map (·.1)) ∧ (∀ q, v'.ownBlock = some q → w.heap.size ≤ q) ∧ Only [] w w' := by
  obtain ⟨nx, h1, _⟩ := h
  exact xl_dirty h1
theorem xlp_read_bad (n : Int) (hn : blkB N a sz n = false) : Calls Try.prog 16 #[.pointer (some ⟨gx, 0, none⟩), .int .i64 n] w fun e w' => e = .returned (.tuple #[.slice none 0 0, .int .i64 1]) ∧ Only [] w w' := by
  obtain ⟨nx, h1, _⟩ := h
  exact xl_read_bad h1 n hn
theorem xlp_read (n : Int) (hn : blkB N a sz n = true) (hnd : (p.G.map (·.1)).Nodup) (hk : k < 4611686018427000000) : Calls Try.prog 16 #[.pointer (some ⟨gx, 0, none⟩), .int .i64 n] w fun e w' => ∃ vd, e = .returned (.tuple #[vd, .int .i64 0]) ∧ Fresh w' w.heap.size vd (readG p.G p.plat p.l n) ∧ Turned w w' F F ∧ XlP w' gx gr N a sz S p (k + 1) F := by
  obtain ⟨nx, h1, h2⟩ := h
  exact (xl_read h1 n hn hnd hk).mono fun e w' ⟨vd, q1, q2, q3, q4⟩ => ⟨vd, q1, q2, q3, nx, q4, h2⟩
/-- What Write answers. -/
theorem xlp_write (n : Int) (A : Option Addr) (m c : Nat) (zs : List Int) (hnd : (p.G.map (·.1)).Nodup) (hl : p.G.length + 1 ≤ sz) (hs : Sees w A m zs) (hu : U8 zs) : Calls Try.prog 14 #[.pointer (some ⟨gx, 0, none⟩), .int .i64 n, .slice A m c] w fun e w' =>
    (e = .returned (.int .i64 (if blkB N a sz n = false ∨ m ≠ 512 then 1 else if p.st ≠ 0 then 5 else if n ∉ p.G.map (·.1) ∧ p.G.length + 1 = sz then 2 else 0))) ∧ DidXP w w' gx gr N a sz S (if m = 512 ∧ p.st = 0 then writeP N a sz p n zs else p) k F := by
  by_cases h1 : blkB N a sz n = false ∨ m ≠ 512
  · rw [if_pos h1]
    obtain ⟨nx, hX, h2⟩ := id h
    refine (xl_write_arg hX n A m c h1).mono fun e w' ⟨q1, q2⟩ => ⟨q1, ?_⟩
    have : (if m = 512 ∧ p.st = 0 then writeP N a sz p n zs else p) = p := by
      split
      · rename_i hc
        unfold writeP
        rw [if_neg (fun hq => ?_)]
        rcases h1 with e | e
        · rw [hq.1] at e; cases e
        · exact e hc.1
      · rfl
    rw [this]
    exact h.same q2
  · rw [if_neg h1]
    have hb : blkB N a sz n = true := by cases e : blkB N a sz n with | true => rfl | false => exact absurd (.inl e) h1
    have hm : m = 512 := by by_cases e : m = 512; exact e; exact absurd (.inr e) h1
    subst hm
    by_cases h2 : p.st = 0
    · rw [show (if (512 : Nat) = 512 ∧ p.st = 0 then writeP N a sz p n zs else p) = writeP N a sz p n zs from if_pos ⟨rfl, h2⟩, show (if p.st ≠ 0 then (5 : Int) else if n ∉ p.G.map (·.1) ∧ p.G.length + 1 = sz then 2 else 0) = (if n ∉ p.G.map (·.1) ∧ p.G.length + 1 = sz then 2 else 0) from if_neg (by simpa using h2)]
      obtain ⟨nx, hX⟩ := h.idle h2
      by_cases h3 : n ∈ p.G.map (·.1)
      · rw [show (if n ∉ p.G.map (·.1) ∧ p.G.length + 1 = sz then (2 : Int) else 0) = 0 from if_neg (fun hq => hq.1 h3), show writeP N a sz p n zs = { p with G := putG p.G n zs } from if_pos ⟨hb, .inl h3⟩]
        exact (xl_write_old hX n A c zs hb rfl h3 hnd hs hu).mono fun e w' ⟨q1, q2⟩ => ⟨q1, q2.lp (p := p) h2⟩
      · by_cases h4 : p.G.length + 1 = sz
        · rw [show (if n ∉ p.G.map (·.1) ∧ p.G.length + 1 = sz then (2 : Int) else 0) = 2 from if_pos ⟨h3, h4⟩, show writeP N a sz p n zs = p from if_neg (fun hq => by
            rcases hq.2 with e | e
            · exact h3 e
            · omega)]
          exact (xl_write_full hX n A c hb rfl h3 h4).mono fun e w' ⟨q1, q2⟩ => ⟨q1, h.same q2⟩
        · rw [show (if n ∉ p.G.map (·.1) ∧ p.G.length + 1 = sz then (2 : Int) else 0) = 0 from if_neg (fun hq => h4 hq.2), show writeP N a sz p n zs = { p with G := putG p.G n zs } from if_pos ⟨hb, .inr (by omega)⟩]
          exact (xl_write_new hX n A c zs hb rfl h3 (by omega) hs hu).mono fun e w' ⟨q1, q2⟩ => ⟨q1, q2.lp (p := p) h2⟩
    · rw [show (if (512 : Nat) = 512 ∧ p.st = 0 then writeP N a sz p n zs else p) = p from if_neg (fun hq => h2 hq.2), show (if p.st ≠ 0 then (5 : Int) else if n ∉ p.G.map (·.1) ∧ p.G.length + 1 = sz then 2 else 0) = 5 from if_pos h2]
      obtain ⟨nx, hX, _⟩ := id h
      exact (xl_write_busy hX n A c hb (by simp [h2])).mono fun e w' ⟨q1, q2⟩ => ⟨q1, h.same q2⟩
end
end
end Go.Proofs.Ytokdpldmoflnkaa
/-
  LogDoes: both logs in one world, beside the law's struct; Begin of both.
-/
namespace Go.Proofs.Ytokdpldmoflnkaa
open Go.ChangeShapes Go.WideShapes Go.ChangeAt Go.RowKit Go.Maps
set_option linter.unusedVariables false
set_option linter.unusedSimpArgs false
/-- Both logs tell the plain state p; what was kept is S; behind w0. -/
structure Bl (w0 w : World) (gw gd g gr gx N a sz : Nat) (S : Option PG) (p : LP) (K : Nat) (F G : List Nat) : Prop where
  lg : LgP w g gd N a sz S p K F
  xl : XlP w gx gr N a sz S p K G
  wd : Blk w gw 45 #[.pointer (some ⟨gd, 0, none⟩), .pointer (some ⟨g, 0, none⟩), .pointer (some ⟨gr, 0, none⟩), .pointer (some ⟨gx, 0, none⟩)]
  newF : ∀ q ∈ F, w0.heap.size ≤ q
  newG : ∀ q ∈ G, w0.heap.size ≤ q
  neww : w0.heap.size ≤ gw
  apart : ∀ q ∈ F, q ∉ G
  gwF : gw ∉ F ∧ gw ∉ G
  only : Only [] w0 w
  run : IdleP p ∨ RunsP p
  sav : S ≠ none → p.st = 0
  hdr : HdrOk N a sz p.plat p.l
def DidBl (w0 w' : World) (gw gd N a sz : Nat) (S : Option PG) (p : LP) (K : Nat) : Prop := ∃ g gr gx F G, Bl w0 w' gw gd g gr gx N a sz S p K F G
section
variable {w0 w w' w1 w2 : World} {gw gd g gr gx N a sz K K' : Nat} {S S' : Option PG} {p p' : LP} {F G F' G' : List Nat}
theorem XlP.only {k : Nat} {F T : List Nat} (h : XlP w gx gr N a sz S p k F) (ho : Only T w w') (hs : ∀ q ∈ F, q ∉ T) : XlP w' gx gr N a sz S p k F := by
  obtain ⟨nx, h1, h2⟩ := h
  exact ⟨nx, h1.only ho hs, h2⟩
theorem XlP.lt {k : Nat} {F : List Nat} (h : XlP w gx gr N a sz S p k F) : ∀ q ∈ F, q < w.heap.size := by
  obtain ⟨nx, h1, h2⟩ := h
  exact h1.lt
theorem Bl.quiet (h : Bl w0 w gw gd g gr gx N a sz S p K F G) (ho : Only [] w w') : Bl w0 w' gw gd g gr gx N a sz S p K F G :=
  ⟨h.lg.quiet ho, h.xl.quiet ho, h.wd.only ho (by simp), h.newF, h.newG, h.neww, h.apart, h.gwF, h.only.trans ho, h.run, h.sav, h.hdr⟩
/-- The program's log has turned; the document's stands. -/
theorem Bl.xl1 (h : Bl w0 w gw gd g gr gx N a sz S p K F G) (hT : Turned w w1 F F') : XlP w1 gx gr N a sz S p K G :=
  h.xl.only hT.1 (fun q hq hm => h.apart q hm hq)
/-- Both have turned, one behind the other. -/
theorem Bl.both (h : Bl w0 w gw gd g gr gx N a sz S p K F G) (hT : Turned w w1 F F') (hL : LgP w1 g gd N a sz S' p' K' F') (hT2 : Turned w1 w2 G G') (hX : XlP w2 gx gr N a sz S' p' K' G')
    (run : IdleP p' ∨ RunsP p') (sav : S' ≠ none → p'.st = 0) (hdr : HdrOk N a sz p'.plat p'.l) : Bl w0 w2 gw gd g gr gx N a sz S' p' K' F' G' := by
  have hGlt := h.xl.lt
  have hwl := h.wd.lt
  have hfg : ∀ q ∈ F', q ∉ G := fun q hq hm => by
    rcases hT.2 q hq with e | e
    · exact h.apart q e hm
    · have := hGlt q hm; omega
  have hap : ∀ q ∈ F', q ∉ G' := fun q hq hm => by
    rcases hT2.2 q hm with e | e
    · exact hfg q hq e
    · have := hL.lt q hq; omega
  have hw1 : gw ∉ F' := fun hm => by
    rcases hT.2 gw hm with e | e
    · exact h.gwF.1 e
    · omega
  have hw2 : gw ∉ G' := fun hm => by
    rcases hT2.2 gw hm with e | e
    · exact h.gwF.2 e
    · have := hT.1.size; omega
  refine ⟨hL.only hT2.1 hfg, hX, (h.wd.only hT.1 h.gwF.1).only hT2.1 h.gwF.2, fun q hq => ?_, fun q hq => ?_, h.neww, hap, ⟨hw1, hw2⟩, ?_, run, sav, hdr⟩
  · rcases hT.2 q hq with e | e
    · exact h.newF q e
    · exact Nat.le_trans h.only.size e
  · rcases hT2.2 q hq with e | e
    · exact h.newG q e
    · exact Nat.le_trans h.only.size (Nat.le_trans hT.1.size e)
  · refine (h.only.trans' hT.1 (fun q hq hm => ?_)).trans' hT2.1 (fun q hq hm => ?_)
    · have := h.newF q hm; omega
    · have := h.newG q hm; omega
end
end Go.Proofs.Ytokdpldmoflnkaa
