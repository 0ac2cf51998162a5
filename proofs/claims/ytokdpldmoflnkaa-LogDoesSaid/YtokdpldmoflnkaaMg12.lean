/-
  The log (parapet/wlog): logBlock, placeBlock.
-/
import Derived.Test.YtokdpldmoflnkaaMg11
import Derived.Deep.CutRange
namespace Go.Proofs.Ytokdpldmoflnkaa
open Go.ChangeShapes Go.WideShapes Go.ChangeAt Go.RowKit Go.Maps
set_option linter.unusedVariables false
section
variable {w w' w1 : World} {g gd N a sz : Nat} {gen : Int} {v v' : Value} {m m' : Nat} {L L' : List GB} {SS SS' : Option SG} {st nx : Int} {plat plat' : List Int} {l l' : List (Nat × List Int)} {rd wt fl rd' wt' fl' : Int} {k k' : Nat} {FD FD' F T : List Nat} {G : PG} {S : Option PG}
theorem nsG_get {L : List GB} {i : Nat} (h : i < L.length) : gb (nsG L) i = L[i].n := by
  simp [gb, nsG, List.getD, h]
/-- What the steps that write blocks read. -/
def BlkS (w : World) (g a : Nat) (i : Nat) (A : Option Addr) (len c m bq : Nat) (x : GB) : Prop :=
  w.cell? ⟨g, 1, none⟩ = some (.int .i64 a) ∧ w.cell? ⟨g, 8, none⟩ = some (.int .i64 i) ∧ w.cell? ⟨g, 4, none⟩ = some (.slice A len c) ∧ w.cell? ⟨g, 5, none⟩ = some (.map (some m)) ∧ w.cell? ⟨bq, i, none⟩ = some (.int .i64 x.n) ∧ (Instr.lookup 78 (.map (some m)) (.int .i64 x.n) false).run Try.prog w = .ok (.slice (some ⟨x.b, 0, none⟩) 512 (512 + x.r.length)) w
theorem LgI.blkS (h : LgI w g gd N a sz gen v m L SS st nx plat l rd wt fl k FD) {i : Nat} (hi : i < L.length) (hnx : nx = i) {bq len c : Nat} (hv : v = .slice (some ⟨bq, 0, none⟩) len c) : BlkS w g a i (some ⟨bq, 0, none⟩) len c m bq L[i] := by
  obtain ⟨D, k1, k2⟩ := h.gr.own
  have c8 := h.c8
  have c4 := h.c4
  rw [hnx] at c8
  rw [hv] at c4
  refine ⟨h.c1, c8, c4, h.c5, ?_, lookY k2 k1 (List.mem_map.2 ⟨L[i], List.getElem_mem hi, rfl⟩)⟩
  obtain ⟨A2, c2, hv2, _, _, _, hcl⟩ := h.gr.row.form2
  rw [hv] at hv2
  injection hv2 with e1 _ _
  obtain ⟨b, e2, _, hcell⟩ := hcl _ e1.symm
  injection e2 with e2 _ _
  subst e2
  exact hcell i _ (by simp [i64l, nsG, hi])
theorem LgI.head (h : LgI w g gd N a sz gen v m L SS st nx plat l rd wt fl k FD) {i : Nat} (hi : i < L.length) : ∃ bq c, v = .slice (some ⟨bq, 0, none⟩) L.length c ∧ L.length ≤ c := by
  obtain ⟨A2, c2, hv2, hA, hlc, _, hcl⟩ := h.gr.row.form2
  rw [nsG_length] at hv2 hA hlc
  cases A2 with
  | none => have := (hA rfl).1; omega
  | some ad =>
    obtain ⟨b, rfl, _⟩ := hcl _ rfl
    exact ⟨b, c2, hv2, hlc⟩
theorem gv_get {i : Nat} (hi : i < L.length) : (gvG L)[i]? = some (L[i].n, L[i].d) := by simp [gvG, hi]
section
variable (h : Lg w g gd N a sz gen G S st nx plat l k F) (hk : k < 4611686018427380000) (hlen : l.length < 4398046511000) {i : Nat} (hnx : nx = i)
include h hk hlen hnx
set_option maxRecDepth 100000 in
set_option maxHeartbeats 2000000 in
theorem lg_logB {p : Int × List Int} (hp : G[i]? = some p) : Calls Try.prog 71 #[.pointer (some ⟨g, 0, none⟩)] w fun e w' => e = .returned (.tuple #[]) ∧ DidLg w w' g gd N a sz gen G S st nx plat (l ++ [(a + 1 + i, p.2)]) (k + 1) F := by
  obtain ⟨v, m, L, SS, rd, wt, fl, FD, h1, rfl, rfl, h4, h5⟩ := h
  have hi : i < L.length := by
    have := (List.getElem?_eq_some_iff.1 hp).1
    simpa [gvG] using this
  rw [gv_get hi] at hp
  injection hp with hp
  subst hp
  obtain ⟨bq, c, hv, hlc⟩ := h1.head hi
  have hrng := h1.rng
  have hbig := h1.big
  have hok := h1.ok.len
  have hx := h1.gr.ok L[i] (List.getElem_mem hi)
  have HX := hide (fun W rd' wt' fl' k' l' FD' (q : LgI W g gd N a sz gen v m L SS st nx plat l' rd' wt' fl' k' FD') => q.blkS hi hnx hv)
  have HXQ := hide (fun W (ho : Only [] w W) => HX.out W _ _ _ _ _ _ (h1.quiet ho))
  have HL := hide (fun W (ho : Only [] w W) => (lay_i (h1.quiet ho) (a + 1 + i) L[i].b (512 + L[i].r.length) L[i].d (by omega) hx.len hx.u8 (fun j hj => by rw [(hx.only ho (by simp)).row.cell]; exact u8l_get _ _ j (by rw [hx.len]; exact hj)) (hx.only ho (by simp)).row.lt (h1.dis _ (.inr ⟨L[i], mem_bytesL.2 (.inl (List.getElem_mem hi)), rfl⟩)) hk hlen).mono (R' := fun e w' => e = .returned (.tuple #[]) ∧ BlkS w' g a i (some ⟨bq, 0, none⟩) L.length c m bq L[i] ∧ DidLg w w' g gd N a sz gen (gvG L) (SS.map (fun s => gvG s.L)) st nx plat (l ++ [(a + 1 + i, L[i].d)]) (k + 1) F) (fun e w' ⟨e1, F', hT, hD⟩ => ⟨e1, HX.out _ _ _ _ _ _ _ hD, by
    obtain ⟨F2, hT2, hL2⟩ := LgI.did h4 hT hD
    exact ⟨F2, ⟨(ho.mono (by simp)).trans hT2.1, fun q hq => (hT2.2 q hq).imp_right (fun e => Nat.le_trans ho.size e)⟩, hL2⟩⟩))
  have hltI : (i : Int) < L.length := by omega
  have e1 : IntKind.i64.wrap ((a : Int) + 1) = (a : Int) + 1 := IntWalk.i64_in _ (by omega)
  have e2 : IntKind.i64.wrap ((a : Int) + 1 + i) = (a : Int) + 1 + i := IntWalk.i64_in _ (by omega)
  have HE := hide (show ((a + 1 + i : Nat) : Int) = (a : Int) + 1 + i by omega)
  rw [HE.out] at HL
  have hclear := hx
  clear h1 h4 h5 hrng hbig hok hx hclear hnx hv
  generalize L[i] = x at *
  generalize L.length = len at *
  have hlc2 : (len : Int) ≤ c := by omega
  unfold BlkS at *
  go_enter Try.func71, Try.ntmps71
  go_wp2
  have kk : Only [] w w.drew := (Only.refl _ _).drew
  have zz := HXQ.out _ kk
  go_region_held3 (fun w' => w'.cell? ⟨g, 1, none⟩ = some (.int .i64 a) ∧ w'.cell? ⟨g, 8, none⟩ = some (.int .i64 i) ∧ w'.cell? ⟨g, 4, none⟩ = some (.slice (some ⟨bq, 0, none⟩) len c) ∧ w'.cell? ⟨g, 5, none⟩ = some (.map (some m)) ∧ w'.cell? ⟨bq, i, none⟩ = some (.int .i64 x.n) ∧ (Instr.lookup 78 (.map (some m)) (.int .i64 x.n) false).run Try.prog w' = .ok (.slice (some ⟨x.b, 0, none⟩) 512 (512 + x.r.length)) w') (first | go_keep | exact HXQ.out _ kk | exact z3) (first | (go_at_call 81; refine (HL.out _ (by repeat (first | exact Only.refl _ _ | apply Only.drew | apply Only.drewN))).mono ?_; rintro e w3 ⟨rfl, z3, hd⟩; have HD := hide hd; clear hd))
  all_goals
    go_wp2
    go_end0
    exact ⟨rfl, HD.out⟩
set_option maxRecDepth 100000 in
set_option maxHeartbeats 2000000 in
theorem lg_placeB {p : Int × List Int} (hp : G[i]? = some p) : Calls Try.prog 74 #[.pointer (some ⟨g, 0, none⟩)] w fun e w' => e = .returned (.tuple #[]) ∧ DidLg w w' g gd N a sz gen G S st nx plat (l ++ [(p.1.toNat, p.2)]) (k + 1) F := by
  obtain ⟨v, m, L, SS, rd, wt, fl, FD, h1, rfl, rfl, h4, h5⟩ := h
  have hi : i < L.length := by
    have := (List.getElem?_eq_some_iff.1 hp).1
    simpa [gvG] using this
  rw [gv_get hi] at hp
  injection hp with hp
  subst hp
  obtain ⟨bq, c, hv, hlc⟩ := h1.head hi
  have hx := h1.gr.ok L[i] (List.getElem_mem hi)
  have hn := blkB_yes.1 (h1.ok.num L[i] (List.getElem_mem hi))
  have HXQ := hide (fun W (ho : Only [] w W) => (h1.quiet ho).blkS hi hnx hv)
  have HL := hide (fun W (ho : Only [] w W) => (lay_i (h1.quiet ho) L[i].n.toNat L[i].b (512 + L[i].r.length) L[i].d (by omega) hx.len hx.u8 (fun j hj => by rw [(hx.only ho (by simp)).row.cell]; exact u8l_get _ _ j (by rw [hx.len]; exact hj)) (hx.only ho (by simp)).row.lt (h1.dis _ (.inr ⟨L[i], mem_bytesL.2 (.inl (List.getElem_mem hi)), rfl⟩)) hk hlen).mono (R' := fun e w' => e = .returned (.tuple #[]) ∧ DidLg w w' g gd N a sz gen (gvG L) (SS.map (fun s => gvG s.L)) st nx plat (l ++ [(L[i].n.toNat, L[i].d)]) (k + 1) F) (fun e w' ⟨e1, F', hT, hD⟩ => ⟨e1, by
    obtain ⟨F2, hT2, hL2⟩ := LgI.did h4 hT hD
    exact ⟨F2, ⟨(ho.mono (by simp)).trans hT2.1, fun q hq => (hT2.2 q hq).imp_right (fun e => Nat.le_trans ho.size e)⟩, hL2⟩⟩))
  have hltI : (i : Int) < L.length := by omega
  have HE := hide (show ((L[i].n.toNat : Nat) : Int) = L[i].n by omega)
  rw [HE.out] at HL
  clear h1 h4 h5 hx hnx hv hn
  generalize L[i] = x at *
  generalize L.length = len at *
  have hlc2 : (len : Int) ≤ c := by omega
  unfold BlkS at *
  go_enter Try.func74, Try.ntmps74
  go_wp2
  obtain ⟨c1, c8, c4, c5, ci, hlk⟩ := HXQ.out _ (Only.refl _ _)
  go_quiet (fail)
  obtain ⟨-, -, -, d5, -, dlk⟩ := HXQ.out _ ((Only.refl _ _).drewN nq)
  clear c1 c8 c4 c5 ci hlk
  go_wp2_with (go_at_call 81; refine (HL.out _ ((Only.refl _ _).drewN nq)).mono ?_; rintro e w3 ⟨rfl, hd⟩; have HD := hide hd; clear hd)
  go_end0
  exact ⟨rfl, HD.out⟩
end
end
end Go.Proofs.Ytokdpldmoflnkaa
/-
  The log (parapet/wlog): Step.
-/
namespace Go.Proofs.Ytokdpldmoflnkaa
open Go.ChangeShapes Go.WideShapes Go.ChangeAt Go.RowKit Go.Maps
set_option linter.unusedVariables false
/-- What a commit turns. -/
structure LP where
  gen : Int
  G : PG
  st : Nat
  nx : Nat
  plat : List Int
  l : List (Nat × List Int)
/-- One operation of the disk. -/
def doP (a : Nat) (p : LP) : LP := match p.st with
  | 1 => { p with l := p.l ++ [(a + 1 + p.nx, (p.G.getD p.nx (0, [])).2)] }
  | 3 => { p with gen := (p.gen + 1) % 18446744073709551616, l := p.l ++ [(a, hdrF ((p.gen + 1) % 18446744073709551616) (p.G.map (·.1)))] }
  | 5 => { p with l := p.l ++ [((p.G.getD p.nx (0, [])).1.toNat, (p.G.getD p.nx (0, [])).2)] }
  | 7 => { p with l := p.l ++ [(a, hdrF p.gen [])] }
  | _ => { p with plat := layAll p.plat p.l, l := [] }
def eachP (p : LP) : Bool := decide (p.st = 1 ∨ p.st = 5)
def nextP (p : LP) : LP :=
  if eachP p = true ∧ p.nx + 1 ≠ p.G.length then { p with nx := p.nx + 1 }
  else if p.st = 8 then { p with st := 0, nx := 0, G := [] }
  else { p with st := p.st + 1, nx := 0 }
def stepP (a : Nat) (p : LP) : LP := nextP (doP a p)
/-- A commit runs, and stands where it may stand. -/
def RunsP (p : LP) : Prop := 1 ≤ p.st ∧ p.st ≤ 8 ∧ (eachP p = true → p.nx < p.G.length) ∧ (eachP p = false → p.nx = 0) ∧ (p.st ≤ 5 → 0 < p.G.length)
/-- The step that was taken from the table. -/
def StepM (w : World) (fn : Nat) (each : Bool) (t : Value) (wx : World) : Prop := ∃ q, t = .pointer (some ⟨q, 0, none⟩) ∧ Blk wx q 96 #[.func (.func fn) #[] #[], .bool each] ∧ Only [] w wx ∧ w.heap.size ≤ q
theorem stepM_new {w w2 : World} {fn : Nat} {each : Bool} (ho : Only [] w w2) : StepM w fn each (.pointer (some ⟨w2.heap.size, 0, none⟩)) (w2.alloc (.cells #[.func (.func fn) #[] #[], .bool each] 96)) :=
  ⟨_, rfl, Blk.new _ _ _, ho.alloc _, ho.size⟩
theorem stepM_old {w w2 : World} {fn : Nat} {each : Bool} (ho : Only [] w w2) (hn : Blk w2 w.heap.size 96 #[.nilFunc, .bool false]) : StepM w fn each (.pointer (some ⟨w.heap.size, 0, none⟩)) ((w2.setCell ⟨w.heap.size, 0, none⟩ (.func (.func fn) #[] #[])).setCell ⟨w.heap.size, 1, none⟩ (.bool each)) :=
  ⟨_, rfl, (hn.set_ 0 _).set_ 1 _, (ho.setCell (p := ⟨w.heap.size, 0, none⟩) _ (fun h => absurd h (Nat.lt_irrefl _))).setCell (p := ⟨w.heap.size, 1, none⟩) _ (fun h => absurd h (Nat.lt_irrefl _)), Nat.le_refl _⟩
section
variable {w w' w1 : World} {g gd N a sz : Nat} {gen gen' : Int} {v v' : Value} {m m' : Nat} {L L' : List GB} {SS SS' : Option SG} {plat plat' : List Int} {l l' : List (Nat × List Int)} {rd wt fl rd' wt' fl' : Int} {k k' : Nat} {FD FD' F T : List Nat} {G : PG} {S : Option PG}
theorem empty_is (w : World) : Calls Try.prog 58 #[] w fun e w' => ∃ m, e = .returned (.agg #[.slice none 0 0, .map (some m)]) ∧ IsGr w' (.slice none 0 0) m [] ∧ w.heap.size ≤ m ∧ Only [] w w' := by
  have hmm := @run_makeMap Try.prog
  go_enter Try.func58, Try.ntmps58
  go_wp2
  have hb : Blk ((w.alloc (.cells #[.slice none 0 0, .map (some (w.heap.size + 1))] 80)).alloc (.map #[] 0)) w.heap.size 80 #[.slice none 0 0, .map (some (w.heap.size + 1))] := (Blk.new w _ _).alloc _
  have c0 := hb.cell 0
  have c1 := hb.cell 1
  have hm : ((w.alloc (.cells #[.slice none 0 0, .map (some (w.heap.size + 1))] 80)).alloc (.map #[] 0)).heap[w.heap.size + 1]? = some (.map #[] 0) := by
    have h := heap_alloc_new (w.alloc (.cells #[.slice none 0 0, .map (some (w.heap.size + 1))] 80)) (.map #[] 0)
    rw [show (w.alloc (.cells #[.slice none 0 0, .map (some (w.heap.size + 1))] 80)).heap.size = w.heap.size + 1 by simp] at h
    exact h
  have ho : Only [] w ((w.alloc (.cells #[.slice none 0 0, .map (some (w.heap.size + 1))] 80)).alloc (.map #[] 0)) := ((Only.refl [] w).alloc _).alloc _
  generalize (w.alloc (.cells #[.slice none 0 0, .map (some (w.heap.size + 1))] 80)).alloc (.map #[] 0) = W at *
  refine bodyPost_ret (v := .agg #[.slice none 0 0, .map (some (w.heap.size + 1))]) (by simp [results, Try.results58, go_sem, c0, c1]) rfl ⟨_, rfl, ⟨KRow.nil _ _ _ _, ⟨.map [], ?_, MHolds.empty⟩, by simp⟩, by omega, ho⟩
  obtain ⟨es, clock, h1, F, hs, hD⟩ := World.ownsMap_made w Try.prog 3 elemSl
  rw [heap_alloc_new w (.map #[] 0)] at h1
  injection h1 with h1
  injection h1 with e1 e2
  subst e1; subst e2
  exact ⟨#[], 0, hm, F, hs, hD⟩
/-- A group that is new and empty takes the old one's place. -/
theorem LgI.fresh {st nx st' : Int} (h : LgI w g gd N a sz gen v m L SS st nx plat l rd wt fl k FD) (hg : IsGr w (.slice none 0 0) m' []) (hm : m' ∉ FD) (hs : ∀ s, SS = some s → s.m ≠ m') (hmg : m' ≠ g) {w1 : World} (ho : Only [g] w w1) (hb : Blk w1 g 83 #[.pointer (some ⟨gd, 0, none⟩), .int .i64 a, .int .i64 sz, .int .u64 gen, .slice none 0 0, .map (some m'), bfV SS, .int .i64 st', .int .i64 nx]) : LgI w1 g gd N a sz gen (.slice none 0 0) m' [] SS st' nx plat l rd wt fl k FD := by
  obtain ⟨f1, f2, f3, f4⟩ := h.far_g
  have hgF : g ∉ FD := h.dis g (.inl (mem_footL.2 (.inl rfl)))
  refine ⟨hb, hg.only ho (fun q hq => by simp [Value.ownBlock] at hq) (by simpa using hmg) (by simp), fun s hs' => ?_, h.dk.only ho (fun q hq hm => hgF (by simp at hm; exact hm ▸ hq)), fun q hq => ?_, h.gen_, h.rng, ⟨by have := h.rng; simp; omega, by simp⟩, h.oks⟩
  · obtain ⟨k1, k2, k3, k4⟩ := h.sv s hs'
    obtain ⟨j1, j2, j3⟩ := f3 s hs'
    exact ⟨k1.only ho (by simpa using j1), k2.only ho (fun q hq => by simpa using j3 q hq) (by simpa using j2) (fun x hx => by simpa using f4 x (mem_bytesL.2 (.inr ⟨s, hs', hx⟩))), hs s hs', fun q hq e => by simp [Value.ownBlock] at e⟩
  · rcases hq with hq | ⟨x, hx, rfl⟩
    · rcases mem_footL.1 hq with e | e | e | e
      · exact h.dis q (.inl (mem_footL.2 (.inl e)))
      · rw [e]; exact hm
      · simp [Value.ownBlock] at e
      · exact h.dis q (.inl (mem_footL.2 (.inr (.inr (.inr e)))))
    · rcases mem_bytesL.1 hx with e | e
      · cases e
      · exact h.dis x.b (.inr ⟨x, mem_bytesL.2 (.inr e), rfl⟩)
end
end Go.Proofs.Ytokdpldmoflnkaa
/-
  The log (parapet/wlog): Step, as far as it is the same for each step.
-/
namespace Go.Proofs.Ytokdpldmoflnkaa
open Go.ChangeShapes Go.WideShapes Go.ChangeAt Go.RowKit Go.Maps
set_option linter.unusedVariables false
section
variable {w w' w1 : World} {g gd N a sz : Nat} {gen gen' : Int} {v v' : Value} {m m' : Nat} {L L' : List GB} {SS SS' : Option SG} {plat plat' : List Int} {l l' : List (Nat × List Int)} {rd wt fl rd' wt' fl' : Int} {k k' : Nat} {FD FD' F T : List Nat} {G : PG} {S : Option PG}
set_option maxRecDepth 100000 in
set_option maxHeartbeats 2000000 in
theorem step_core {st nx fn : Nat} {each : Bool} (h : Lg w g gd N a sz gen G S st nx plat l k F) (h1 : 1 ≤ st) (h2 : st ≤ 8) (hf : stepsC[st * 2]? = some (.func (.func fn) #[] #[])) (he : stepsC[st * 2 + 1]? = some (.bool each)) (hea : each = decide (st = 1 ∨ st = 5)) (hnx : nx ≤ 300) (hfn : fn = 71 ∨ fn = 72 ∨ fn = 73 ∨ fn = 74 ∨ fn = 75)
    (hd : ∀ W, Only [] w W → Calls Try.prog fn #[.pointer (some ⟨g, 0, none⟩)] W (fun e w' => e = .returned (.tuple #[]) ∧ DidLg W w' g gd N a sz gen' G S st nx plat' l' (k + 1) F)) :
    Calls Try.prog 24 #[.pointer (some ⟨g, 0, none⟩)] w fun e w' => e = .returned (.tuple #[.bool (!decide (((nextP ⟨gen', G, st, nx, plat', l'⟩).st : Int) = 0)), .int .i64 0]) ∧ DidLg w w' g gd N a sz gen' (nextP ⟨gen', G, st, nx, plat', l'⟩).G S (nextP ⟨gen', G, st, nx, plat', l'⟩).st (nextP ⟨gen', G, st, nx, plat', l'⟩).nx plat' l' (k + 1) F := by
  have HLT := hide h.lt
  have HGF := hide h.gF
  have HC := hide (lg_closed h)
  have HR := hide (lg_running h)
  have hs : (!decide ((st : Int) = 0)) = true := by simp; omega
  rw [hs] at HR
  have HX := hide (fun W (ho : Only [] w W) => (show W.cell? ⟨g, 7, none⟩ = some (.int .i64 st) from by
    obtain ⟨v, m, L, SS, rd, wt, fl, FD, k1, _⟩ := h.quiet ho
    exact k1.c7))
  have HS := hide (fun W (ho : Only [] w W) => (steps_is W).mono (R' := fun e w' => ∃ d, e = .returned (.slice (some ⟨d, 0, none⟩) 9 9) ∧ Blk w' d 96 stepsC ∧ Only [] W w' ∧ Only [] w w') (fun e w' ⟨d, e1, e2, e3, e4⟩ => ⟨d, e1, e3, e4, ho.trans e4⟩))
  have HF := hide hf
  have HEA := hide hea
  have HFN := hide hfn
  clear hea hfn
  have HE := hide he
  have HD := hide hd
  have hsI : (st : Int) < 9 := by omega
  have hst : ∀ (W : World) (ad : Addr), (store ad (.func (.func fn) #[] #[])).run Try.prog W = stored Try.prog W ad (.func (.func fn) #[] #[]) .plain := fun W ad => run_store _ W ad _ _ rfl
  clear h hd hf he
  go_enter Try.func24, Try.ntmps24
  go_wp2_with (first | (go_at_call 49; refine HC.out.mono ?_; rintro e w' ⟨rfl, rfl⟩) | (go_at_call 34; refine HR.out.mono ?_; rintro e w' ⟨rfl, rfl⟩))
  have c7 := HX.out _ (Only.refl _ _)
  have c7d := fun n => HX.out _ ((Only.refl _ _).drewN n)
  have c7a := fun o => HX.out _ ((Only.refl _ _).alloc o)
  go_cut [4] from 10 to 16 (fun t wx => StepM w fn each t wx)
  case first =>
    go_region_law (go_simp; go_at_call 57; refine (HS.out _ (by repeat (first | exact Only.refl _ _ | apply Only.drew | apply Only.drewN | apply Only.alloc))).mono ?_; rintro e w2 ⟨d, rfl, hb, ho0, ho⟩; (try (have hn : Blk w2 w.heap.size 96 #[.nilFunc, .bool false] := (Blk.new w.drew 96 #[.nilFunc, .bool false]).only ho0 (by simp); have n0 := hn.cell 0; have n1 := hn.cell 1; have n2 := hn.frozen 0; have n3 := hn.frozen 1; have HNB := hide hn; clear hn)); have HB := hide hb; have HO := hide ho; have e7 := HX.out _ ho; have b0 := (hb.cell (st * 2)).trans HF.out; have b1 := (hb.cell (st * 2 + 1)).trans HE.out; have a0 := fun o => ((hb.alloc o).cell (st * 2)).trans HF.out; have a1 := fun o => ((hb.alloc o).cell (st * 2 + 1)).trans HE.out; have a7 := fun o => HX.out (w2.alloc o) (ho.alloc o); clear hb ho ho0)
    all_goals
      go_wp2_with fail
      go_meet
      case rel => first | exact stepM_new HO.out | exact stepM_old HO.out HNB.out
  case rest =>
    obtain ⟨q, rfl, hb, ho, hq⟩ := hcut
    obtain ⟨w2, hw2⟩ : ∃ w2, w2 = wc := ⟨_, rfl⟩
    subst hw2
    have q0 := hb.cell 0
    have HB := hide hb
    have HO := hide ho
    have HQ := hide hq
    clear hb ho hq c7 c7d c7a hst
    go_upto_region 6 with (fail)
    go_cut [] from 17 to 20 (fun wx => DidLg w2 wx g gd N a sz gen' G S st nx plat' l' (k + 1) F)
    case first =>
      rcases HFN.out with rfl | rfl | rfl | rfl | rfl
      · go_wp2_with (go_at_call 71; refine (HD.out _ HO.out).mono ?_; rintro e w3 ⟨rfl, hw⟩; have HW := hide hw; clear hw)
        go_meet
        case rel => exact HW.out
      · go_wp2_with (go_at_call 72; refine (HD.out _ HO.out).mono ?_; rintro e w3 ⟨rfl, hw⟩; have HW := hide hw; clear hw)
        go_meet
        case rel => exact HW.out
      · go_wp2_with (go_at_call 73; refine (HD.out _ HO.out).mono ?_; rintro e w3 ⟨rfl, hw⟩; have HW := hide hw; clear hw)
        go_meet
        case rel => exact HW.out
      · go_wp2_with (go_at_call 74; refine (HD.out _ HO.out).mono ?_; rintro e w3 ⟨rfl, hw⟩; have HW := hide hw; clear hw)
        go_meet
        case rel => exact HW.out
      · go_wp2_with (go_at_call 75; refine (HD.out _ HO.out).mono ?_; rintro e w3 ⟨rfl, hw⟩; have HW := hide hw; clear hw)
        go_meet
        case rel => exact HW.out
    case rest =>
    obtain ⟨F3, hT3, hL3⟩ := hcut
    obtain ⟨w3, hw3⟩ : ∃ w3, w3 = wc := ⟨_, rfl⟩
    subst hw3
    have hqF : q ∉ F := fun hm => by have := HLT.out q hm; have := HQ.out; omega
    have HB3 := hide (HB.out.only hT3.1 hqF)
    have HT3 := hide hT3
    obtain ⟨v, m, L, SS, rd, wt, fl, FD, i1, rfl, rfl, i4, i5⟩ := hL3
    have c8 := i1.c8
    have f8 := i1.fr 8
    have hlen := i1.len
    have o8 : Only [g] w3 (w3.setCell ⟨g, 8, none⟩ (.int .i64 ((nx : Int) + 1))) := (Only.refl _ _).setCell _ (by simp)
    have i2 := i1.restr (SS' := SS) (st' := st) (nx' := (nx : Int) + 1) o8 (fun s hs => hs) i1.gen_ (i1.blk.set_ 8 _)
    have hb4 := HB3.out.only o8 (by simpa using HB3.out.ne_ i1.blk (by decide))
    clear hT3
    have I1 := hide i1
    have I2 := hide i2
    have I4 := hide i4
    have I5 := hide i5
    have O8 := hide o8
    have HB4 := hide hb4
    obtain ⟨A, c, hv, _⟩ := i1.gr.row.form2
    have HV := hide hv
    have HNL := hide (nsG_length L)
    have HNX := hide hnx
    have hnx2 : (nx : Int) < 9223372036854775807 := by omega
    clear i1 i2 i4 i5 o8 hb4 hv hnx
    go_wp2
    have HO3 := hide (show Only [] w w2 from HO.out)
    have c8' := I2.out.c8
    have c7' := I2.out.c7
    have c4' := I2.out.c4
    have f8' := I2.out.fr 8
    have f7' := I2.out.fr 7
    have f4' := I2.out.fr 4
    have f5' := I2.out.fr 5
    have q1 := HB4.out.cell 1
    rw [HV.out] at c4'
    clear c8 f8
    generalize w3.setCell ⟨g, 8, none⟩ (.int .i64 ((nx : Int) + 1)) = w4 at *
    go_cut [43] from 28 to 43 (fun t wx => t = .bool (!each || decide (nx + 1 = L.length)) ∧ Only [] w4 wx)
    case first =>
      cases each with
      | false =>
        go_quiet (fail)
        go_wp2_with fail
        go_meet
        case rel => exact ⟨rfl, (Only.refl _ _).drewN _⟩
      | true =>
        have hn := HNL.out
        by_cases hx : nx + 1 = L.length
        · have hd : decide ((nx : Int) + 1 = (nsG L).length) = true := decide_eq_true (by omega)
          clear hn
          go_quiet (fail)
          go_wp2_with fail
          go_meet
          case rel => exact ⟨by simp [hx]; have := HNL.out; omega, (Only.refl _ _).drewN _⟩
        · have hd : decide ((nx : Int) + 1 = (nsG L).length) = false := decide_eq_false (by omega)
          clear hn
          go_quiet (fail)
          go_wp2_with fail
          go_meet
          case rel => exact ⟨by simp [hx]; have := HNL.out; omega, (Only.refl _ _).drewN _⟩
    case rest =>
    obtain ⟨rfl, ho5⟩ := hcut
    obtain ⟨w5, hw5⟩ : ∃ w5, w5 = wc := ⟨_, rfl⟩
    subst hw5
    have HO5 := hide ho5
    clear ho5
    have hLG : (gvG L).length = L.length := by simp [gvG]
    have I3 := hide (I2.out.quiet HO5.out)
    have TT := hide (show Only F w w5 from (HO.out.mono (by simp)).trans <| (HT3.out.1.trans (O8.out.mono (fun z _ hz => by simp at hz; subst hz; exact HGF.out))).trans (HO5.out.mono (by simp)))
    have TF := hide (show ∀ q ∈ F3, q ∈ F ∨ w.heap.size ≤ q from fun q hq => (HT3.out.2 q hq).imp_right (fun e => Nat.le_trans HO.out.size e))
    have HS35 := hide (show w3.heap.size ≤ w5.heap.size from Nat.le_trans O8.out.size HO5.out.size)
    cases hdn : (!each || decide (nx + 1 = L.length)) with
    | false =>
      have HP := hide (show nextP ⟨gen', gvG L, st, nx, plat', l'⟩ = ⟨gen', gvG L, st, nx + 1, plat', l'⟩ from by
        have he1 : each = true := by cases each with | true => rfl | false => simp at hdn
        have he2 : nx + 1 ≠ L.length := fun e => by simp [e] at hdn
        unfold nextP eachP
        rw [if_pos ⟨by rw [← HEA.out]; exact he1, by simp [hLG]; exact he2⟩])
      have HR5 := hide (lgrunning_is I3.out)
      have hss : (!decide ((st : Int) = 0)) = true := hs
      rw [hss] at HR5
      have c7 := I3.out.c7
      have hst8 : decide ((8 : Int) < st) = false := decide_eq_false (by omega)
      have hst9 : decide (8 < st) = false := decide_eq_false (by omega)
      clear hdn c4' c7' c8' f8' f7' f4' f5' q1 hss hLG
      go_wp2_with (go_at_call 34; refine HR5.out.mono ?_; rintro e w' ⟨rfl, rfl⟩)
      go_ret2
      rw [HP.out]
      exact ⟨by rw [hs]; rfl, F3, ⟨TT.out, TF.out⟩, v, m, L, SS, rd, wt, fl, FD, I3.out, rfl, rfl, I4.out, fun z hz => Nat.lt_of_lt_of_le (I5.out z hz) HS35.out⟩
    | true =>
      have hno : ¬((eachP ⟨gen', gvG L, st, nx, plat', l'⟩ = true) ∧ nx + 1 ≠ (gvG L).length) := by
        rintro ⟨e1, e2⟩
        unfold eachP at e1
        rw [← HEA.out] at e1
        rw [e1] at hdn
        simp at hdn
        rw [hLG] at e2
        exact e2 hdn
      have c7 := I3.out.c7
      have c8 := I3.out.c8
      have f7 := I3.out.fr 7
      have f8 := I3.out.fr 8
      have o6 : Only [g] w5 ((w5.setCell ⟨g, 7, none⟩ (.int .i64 ((st : Int) + 1))).setCell ⟨g, 8, none⟩ (.int .i64 0)) := ((Only.refl [g] w5).setCell (p := ⟨g, 7, none⟩) _ (by simp)).setCell (p := ⟨g, 8, none⟩) _ (by simp)
      have i6 := I3.out.restr (SS' := SS) (gen' := gen') (st' := (st : Int) + 1) (nx' := 0) o6 (fun s hs => hs) I3.out.gen_ ((I3.out.blk.set_ 7 _).set_ 8 _)
      have I6 := hide i6
      have O6 := hide o6
      have HNO := hide hno
      clear hdn c4' c7' c8' f8' f7' f4' f5' q1 hLG i6 o6 hno
      go_upto_region 10 with (fail)
      generalize (w5.setCell ⟨g, 7, none⟩ (.int .i64 ((st : Int) + 1))).setCell ⟨g, 8, none⟩ (.int .i64 0) = w6 at *
      have T6 := hide (show Only F w w6 from TT.out.trans (O6.out.mono (fun z _ hz => by simp at hz; subst hz; exact HGF.out)))
      have S6 := hide (show w3.heap.size ≤ w6.heap.size from Nat.le_trans HS35.out O6.out.size)
      clear c7 c8 f7 f8
      have c7 := I6.out.c7
      by_cases h8 : st = 8
      · have HP := hide (show nextP ⟨gen', gvG L, st, nx, plat', l'⟩ = ⟨gen', [], 0, 0, plat', l'⟩ from by
          unfold nextP
          rw [if_neg HNO.out, if_pos h8])
        have hst8 : decide ((8 : Int) < (st : Int) + 1) = true := decide_eq_true (by omega)
        have hst9 : decide (8 < st + 1) = true := decide_eq_true (by omega)
        have H8 := hide h8
        clear h8
        go_wp2_with fail
        refine (empty_is w6).mono ?_
        rintro e w7 ⟨m2, rfl, hg7, hm7, ho7⟩
        have i7 := I6.out.quiet ho7
        have c7 := i7.c7
        have c4 := i7.c4
        have c5 := i7.c5
        rw [HV.out] at c4
        have f7 := i7.fr 7
        have f4 := i7.fr 4
        have f5 := i7.fr 5
        have hne : m2 ≠ g := fun e => by have := I6.out.blk.lt; omega
        have o8 : Only [g] w7 (((w7.setCell ⟨g, 7, none⟩ (.int .i64 0)).setCell ⟨g, 4, none⟩ (.slice none 0 0)).setCell ⟨g, 5, none⟩ (.map (some m2))) := (((Only.refl [g] w7).setCell (p := ⟨g, 7, none⟩) _ (by simp)).setCell (p := ⟨g, 4, none⟩) _ (by simp)).setCell (p := ⟨g, 5, none⟩) _ (by simp)
        have i8 := i7.fresh (st' := 0) hg7 (fun hm => by have := I6.out.dk.lt m2 hm; omega) (fun s hs e => by have := (I6.out.sv s hs).2.1.ltm; omega) hne o8 (((i7.blk.set_ 7 _).set_ 4 _).set_ 5 _)
        have I8 := hide i8
        have HR8 := hide (lgrunning_is i8)
        have HM7 := hide hm7
        have HO7 := hide ho7
        have O8' := hide o8
        clear i7 hg7 hm7 ho7 hne o8 i8
        go_wp2_with (go_at_call 34; refine HR8.out.mono ?_; rintro e w' ⟨rfl, rfl⟩)
        go_ret2
        rw [HP.out]
        have TW := T6.out.trans ((HO7.out.mono (by simp)).trans (O8'.out.mono (fun z _ hz => by simp at hz; subst hz; exact HGF.out)))
        refine ⟨rfl, ?_⟩
        have hmk := Lg.mk2 (w := w) (F := F) I8.out TW (fun z hz => ?_) (fun z hz => TF.out z (I4.out z (.inr (.inr hz)))) (fun x hx => ?_)
        · exact hmk
        · rcases mem_footL.1 hz with e | e | e | e
          · exact TF.out z (I4.out z (.inl (mem_footL.2 (.inl e))))
          · right
            have h1 := HM7.out
            have h2 := T6.out.size
            omega
          · simp [Value.ownBlock] at e
          · exact TF.out z (I4.out z (.inl (mem_footL.2 (.inr (.inr (.inr e))))))
        · rcases mem_bytesL.1 hx with e | e
          · cases e
          · exact TF.out _ (I4.out _ (.inr (.inl ⟨x, mem_bytesL.2 (.inr e), rfl⟩)))
      · have HP := hide (show nextP ⟨gen', gvG L, st, nx, plat', l'⟩ = ⟨gen', gvG L, st + 1, 0, plat', l'⟩ from by
          unfold nextP
          rw [if_neg HNO.out, if_neg h8])
        have HR5 := hide (lgrunning_is I6.out)
        have hss : (!decide ((st : Int) + 1 = 0)) = true := by simp; omega
        rw [hss] at HR5
        have HSS := hide hss
        have hst8 : decide ((8 : Int) < (st : Int) + 1) = false := decide_eq_false (by omega)
        have hst9 : decide (8 < st + 1) = false := decide_eq_false (by omega)
        clear hss
        go_wp2_with (go_at_call 34; refine HR5.out.mono ?_; rintro e w' ⟨rfl, rfl⟩)
        go_ret2
        rw [HP.out]
        exact ⟨by rw [show (((st + 1 : Nat) : Int)) = (st : Int) + 1 from rfl, HSS.out]; rfl, F3, ⟨T6.out, TF.out⟩, v, m, L, SS, rd, wt, fl, FD, I6.out, rfl, rfl, I4.out, fun z hz => Nat.lt_of_lt_of_le (I5.out z hz) S6.out⟩
end
end Go.Proofs.Ytokdpldmoflnkaa
