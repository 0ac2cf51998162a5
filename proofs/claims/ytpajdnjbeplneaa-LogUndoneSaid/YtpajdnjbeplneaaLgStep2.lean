/-
  The log (parapet/wlog): logBlock, placeBlock.
-/
import Derived.Test.YtpajdnjbeplneaaLgStep
namespace Go.Proofs.Ytpajdnjbeplneaa
open Go.ChangeShapes Go.WideShapes Go.ChangeAt Go.RowKit Go.Maps
set_option linter.unusedVariables false
section
variable {w w' w1 : World} {g gd N a sz : Nat} {gen : Int} {v v' : Value} {m m' : Nat} {L L' : List GB} {SS SS' : Option SG} {st nx : Int} {plat plat' : List Int} {l l' : List (Nat × List Int)} {rd wt fl rd' wt' fl' : Int} {k k' : Nat} {FD FD' F T : List Nat} {G : PG} {S : Option PG}
theorem nsG_get {L : List GB} {i : Nat} (h : i < L.length) : gb (nsG L) i = L[i].n := by
  simp [gb, nsG, List.getD, h]
/-- What the steps that write blocks read. -/
def BlkS (w : World) (g a : Nat) (i : Nat) (A : Option Addr) (len c m bq : Nat) (x : GB) : Prop :=
  w.cell? ⟨g, 1, none⟩ = some (.int .i64 a) ∧ w.cell? ⟨g, 8, none⟩ = some (.int .i64 i) ∧ w.cell? ⟨g, 4, none⟩ = some (.slice A len c) ∧ w.cell? ⟨g, 5, none⟩ = some (.map (some m)) ∧ w.cell? ⟨bq, i, none⟩ = some (.int .i64 x.n) ∧ (Instr.lookup 79 (.map (some m)) (.int .i64 x.n) false).run Try.prog w = .ok (.slice (some ⟨x.b, 0, none⟩) 512 (512 + x.r.length)) w
theorem LgI.blkS (h : LgI w g gd N a sz gen v m L SS st nx plat l rd wt fl k FD) {i : Nat} (hi : i < L.length) (hnx : nx = i) {bq len c : Nat} (hv : v = .slice (some ⟨bq, 0, none⟩) len c) : BlkS w g a i (some ⟨bq, 0, none⟩) len c m bq L[i] := by
  obtain ⟨D, k1, k2⟩ := h.gr.own
  have c8 := h.c8
  have c4 := h.c4
  rw [hnx] at c8
  rw [hv] at c4
  refine ⟨h.c1, c8, c4, h.c5, ?_, lookY k2 k1 (List.mem_map.2 ⟨L[i], List.getElem_mem hi, rfl⟩)⟩
  obtain ⟨A2, c2, hv2, _, _, _, hcl⟩ := h.gr.row.form2
  rw [hv] at hv2
  injection hv2 with e1 _ _
  obtain ⟨b, e2, _, hcell⟩ := hcl _ e1.symm
  injection e2 with e2 _ _
  subst e2
  exact hcell i _ (by simp [i64l, nsG, hi])
theorem LgI.head (h : LgI w g gd N a sz gen v m L SS st nx plat l rd wt fl k FD) {i : Nat} (hi : i < L.length) : ∃ bq c, v = .slice (some ⟨bq, 0, none⟩) L.length c ∧ L.length ≤ c := by
  obtain ⟨A2, c2, hv2, hA, hlc, _, hcl⟩ := h.gr.row.form2
  rw [nsG_length] at hv2 hA hlc
  cases A2 with
  | none => have := (hA rfl).1; omega
  | some ad =>
    obtain ⟨b, rfl, _⟩ := hcl _ rfl
    exact ⟨b, c2, hv2, hlc⟩
theorem gv_get {i : Nat} (hi : i < L.length) : (gvG L)[i]? = some (L[i].n, L[i].d) := by simp [gvG, hi]
section
variable (h : Lg w g gd N a sz gen G S st nx plat l k F) (hk : k < 4398046511000) {i : Nat} (hnx : nx = i)
include h hk hnx
set_option maxRecDepth 100000 in
set_option maxHeartbeats 2000000 in
theorem lg_logB {p : Int × List Int} (hp : G[i]? = some p) : Calls Try.prog 71 #[.pointer (some ⟨g, 0, none⟩)] w fun e w' => e = .returned (.tuple #[]) ∧ DidLg w w' g gd N a sz gen G S st nx plat (l ++ [(a + 1 + i, p.2)]) (k + 1) F := by
  obtain ⟨v, m, L, SS, rd, wt, fl, FD, h1, rfl, rfl, h4, h5⟩ := h
  have hi : i < L.length := by
    have := (List.getElem?_eq_some_iff.1 hp).1
    simpa [gvG] using this
  rw [gv_get hi] at hp
  injection hp with hp
  subst hp
  obtain ⟨bq, c, hv, hlc⟩ := h1.head hi
  have hrng := h1.rng
  have hbig := h1.big
  have hok := h1.ok.len
  have hx := h1.gr.ok L[i] (List.getElem_mem hi)
  have HX := hide (fun W rd' wt' fl' k' l' FD' (q : LgI W g gd N a sz gen v m L SS st nx plat l' rd' wt' fl' k' FD') => q.blkS hi hnx hv)
  have HXQ := hide (fun W (ho : Only [] w W) => HX.out W _ _ _ _ _ _ (h1.quiet ho))
  have HL := hide (fun W (ho : Only [] w W) => (lay_i (h1.quiet ho) (a + 1 + i) L[i].b (512 + L[i].r.length) L[i].d (by omega) hx.len hx.u8 (fun j hj => by rw [(hx.only ho (by simp)).row.cell]; exact u8l_get _ _ j (by rw [hx.len]; exact hj)) (hx.only ho (by simp)).row.lt (h1.dis _ (.inr ⟨L[i], mem_bytesL.2 (.inl (List.getElem_mem hi)), rfl⟩)) hk).mono (R' := fun e w' => e = .returned (.tuple #[]) ∧ BlkS w' g a i (some ⟨bq, 0, none⟩) L.length c m bq L[i] ∧ DidLg w w' g gd N a sz gen (gvG L) (SS.map (fun s => gvG s.L)) st nx plat (l ++ [(a + 1 + i, L[i].d)]) (k + 1) F) (fun e w' ⟨e1, F', hT, hD⟩ => ⟨e1, HX.out _ _ _ _ _ _ _ hD, by
    obtain ⟨F2, hT2, hL2⟩ := LgI.did h4 hT hD
    exact ⟨F2, ⟨(ho.mono (by simp)).trans hT2.1, fun q hq => (hT2.2 q hq).imp_right (fun e => Nat.le_trans ho.size e)⟩, hL2⟩⟩))
  have hltI : (i : Int) < L.length := by omega
  have e1 : IntKind.i64.wrap ((a : Int) + 1) = (a : Int) + 1 := IntWalk.i64_in _ (by omega)
  have e2 : IntKind.i64.wrap ((a : Int) + 1 + i) = (a : Int) + 1 + i := IntWalk.i64_in _ (by omega)
  have HE := hide (show ((a + 1 + i : Nat) : Int) = (a : Int) + 1 + i by omega)
  rw [HE.out] at HL
  have hclear := hx
  clear h1 h4 h5 hrng hbig hok hx hclear hnx hv
  generalize L[i] = x at *
  generalize L.length = len at *
  have hlc2 : (len : Int) ≤ c := by omega
  unfold BlkS at *
  go_enter Try.func71, Try.ntmps71
  go_wp2
  have kk : Only [] w w.drew := (Only.refl _ _).drew
  have zz := HXQ.out _ kk
  go_region_held3 (fun w' => w'.cell? ⟨g, 1, none⟩ = some (.int .i64 a) ∧ w'.cell? ⟨g, 8, none⟩ = some (.int .i64 i) ∧ w'.cell? ⟨g, 4, none⟩ = some (.slice (some ⟨bq, 0, none⟩) len c) ∧ w'.cell? ⟨g, 5, none⟩ = some (.map (some m)) ∧ w'.cell? ⟨bq, i, none⟩ = some (.int .i64 x.n) ∧ (Instr.lookup 79 (.map (some m)) (.int .i64 x.n) false).run Try.prog w' = .ok (.slice (some ⟨x.b, 0, none⟩) 512 (512 + x.r.length)) w') (first | go_keep | exact HXQ.out _ kk | exact z3) (first | (go_at_call 83; refine (HL.out _ (by repeat (first | exact Only.refl _ _ | apply Only.drew | apply Only.drewN))).mono ?_; rintro e w3 ⟨rfl, z3, hd⟩; have HD := hide hd; clear hd))
  all_goals
    go_wp2
    go_end0
    exact ⟨rfl, HD.out⟩
set_option maxRecDepth 100000 in
set_option maxHeartbeats 2000000 in
theorem lg_placeB {p : Int × List Int} (hp : G[i]? = some p) : Calls Try.prog 74 #[.pointer (some ⟨g, 0, none⟩)] w fun e w' => e = .returned (.tuple #[]) ∧ DidLg w w' g gd N a sz gen G S st nx plat (l ++ [(p.1.toNat, p.2)]) (k + 1) F := by
  obtain ⟨v, m, L, SS, rd, wt, fl, FD, h1, rfl, rfl, h4, h5⟩ := h
  have hi : i < L.length := by
    have := (List.getElem?_eq_some_iff.1 hp).1
    simpa [gvG] using this
  rw [gv_get hi] at hp
  injection hp with hp
  subst hp
  obtain ⟨bq, c, hv, hlc⟩ := h1.head hi
  have hx := h1.gr.ok L[i] (List.getElem_mem hi)
  have hn := blkB_yes.1 (h1.ok.num L[i] (List.getElem_mem hi))
  have HXQ := hide (fun W (ho : Only [] w W) => (h1.quiet ho).blkS hi hnx hv)
  have HL := hide (fun W (ho : Only [] w W) => (lay_i (h1.quiet ho) L[i].n.toNat L[i].b (512 + L[i].r.length) L[i].d (by omega) hx.len hx.u8 (fun j hj => by rw [(hx.only ho (by simp)).row.cell]; exact u8l_get _ _ j (by rw [hx.len]; exact hj)) (hx.only ho (by simp)).row.lt (h1.dis _ (.inr ⟨L[i], mem_bytesL.2 (.inl (List.getElem_mem hi)), rfl⟩)) hk).mono (R' := fun e w' => e = .returned (.tuple #[]) ∧ DidLg w w' g gd N a sz gen (gvG L) (SS.map (fun s => gvG s.L)) st nx plat (l ++ [(L[i].n.toNat, L[i].d)]) (k + 1) F) (fun e w' ⟨e1, F', hT, hD⟩ => ⟨e1, by
    obtain ⟨F2, hT2, hL2⟩ := LgI.did h4 hT hD
    exact ⟨F2, ⟨(ho.mono (by simp)).trans hT2.1, fun q hq => (hT2.2 q hq).imp_right (fun e => Nat.le_trans ho.size e)⟩, hL2⟩⟩))
  have hltI : (i : Int) < L.length := by omega
  have HE := hide (show ((L[i].n.toNat : Nat) : Int) = L[i].n by omega)
  rw [HE.out] at HL
  clear h1 h4 h5 hx hnx hv hn
  generalize L[i] = x at *
  generalize L.length = len at *
  have hlc2 : (len : Int) ≤ c := by omega
  unfold BlkS at *
  go_enter Try.func74, Try.ntmps74
  go_wp2
  obtain ⟨c1, c8, c4, c5, ci, hlk⟩ := HXQ.out _ (Only.refl _ _)
  go_quiet (fail)
  obtain ⟨-, -, -, d5, -, dlk⟩ := HXQ.out _ ((Only.refl _ _).drewN nq)
  clear c1 c8 c4 c5 ci hlk
  go_wp2_with (go_at_call 83; refine (HL.out _ ((Only.refl _ _).drewN nq)).mono ?_; rintro e w3 ⟨rfl, hd⟩; have HD := hide hd; clear hd)
  go_end0
  exact ⟨rfl, HD.out⟩
end
end
end Go.Proofs.Ytpajdnjbeplneaa
