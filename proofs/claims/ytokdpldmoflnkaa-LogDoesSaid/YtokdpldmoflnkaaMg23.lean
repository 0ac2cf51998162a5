/-
  The document's log: Step, the last one.
-/
import Derived.Test.YtokdpldmoflnkaaMg22
import Derived.StillTailTactics
namespace Go.Proofs.Ytokdpldmoflnkaa
open Go.ChangeShapes Go.WideShapes Go.ChangeAt Go.RowKit
set_option linter.unusedVariables false
set_option linter.unusedSimpArgs false
section
variable {w w' w1 w2 : World} {gx gr N a sz : Nat} {gen : Int} {vG : Value} {ws : List WR} {vS : Value} {ss : List WR} {op runs : Bool} {nx : Int} {plat plat' : List Int} {l l' : List (Nat × List Int)} {k k' : Nat} {GD GD' F T : List Nat} {G : PG} {S : Option PG}
set_option maxRecDepth 100000 in
set_option maxHeartbeats 1000000 in
theorem xstep_last {nx : Int} (h : XlI w gx gr N a sz gen vG ws vS ss op true nx plat l k GD) (h4 : ∀ q, footX gx vG ws vS ss op GD q → q ∈ F) (hS : (if op = true then some (ss.map pairX) else none) = S) (hn : nx = 2 * (ws.length : Int) + 5) (hk : k < 4611686018427000000) :
    Calls Try.prog 25 #[.pointer (some ⟨gx, 0, none⟩)] w fun e w' => e = .returned (.tuple #[.bool false, .int .i64 0]) ∧ DidXl w w' gx gr N a sz gen [] S false (nx + 1) (layAll plat l) [] (k + 1) F := by
  have hrng := h.rng
  have hl := h.len
  have hbig := h.big
  obtain ⟨A, cap, rfl, -⟩ := h.grp.slice
  have c7 := h.c7
  have c8 := h.c8
  have c4 := h.c4
  have HH := hide h
  have H4 := hide h4
  have HS := hide hS
  have g0 : decide (nx < (ws.length : Int)) = false := by exact decide_eq_false (by omega)
  have g1 : (nx == (ws.length : Int)) = false := by simp only [beq_eq_false_iff_ne]; omega
  have g2 : (nx == (ws.length : Int) + 2) = false := by simp only [beq_eq_false_iff_ne]; omega
  have g3 : (nx == 2 * (ws.length : Int) + 3) = false := by simp only [beq_eq_false_iff_ne]; omega
  have g4 : (nx == (ws.length : Int) + 1) = false := by simp only [beq_eq_false_iff_ne]; omega
  have g5 : decide (nx < 2 * (ws.length : Int) + 3) = false := by exact decide_eq_false (by omega)
  have g6 : (nx == 2 * (ws.length : Int) + 4) = false := by simp only [beq_eq_false_iff_ne]; omega
  have hwn : IntKind.i64.wrap (nx + 1) = nx + 1 := by rw [IntKind.wrap_i64]; omega
  have hw2 : IntKind.i64.wrap ((ws.length : Int) + 2) = (ws.length : Int) + 2 := by rw [IntKind.wrap_i64]; omega
  have hw3 : IntKind.i64.wrap (2 * (ws.length : Int)) = 2 * (ws.length : Int) := by rw [IntKind.wrap_i64]; omega
  have hw4 : IntKind.i64.wrap (2 * (ws.length : Int) + 3) = 2 * (ws.length : Int) + 3 := by rw [IntKind.wrap_i64]; omega
  have hw5 : IntKind.i64.wrap ((ws.length : Int) + 1) = (ws.length : Int) + 1 := by rw [IntKind.wrap_i64]; omega
  have hw6 : IntKind.i64.wrap (2 * (ws.length : Int) + 4) = 2 * (ws.length : Int) + 4 := by rw [IntKind.wrap_i64]; omega
  clear h h4 hS hn
  go_enter Try.func25, Try.ntmps25
  go_wp2_with fail
  go_quiet (fail)
  have HO := hide (show Only [] w (w.drewN nq) from (Only.refl _ _).drewN nq)
  have HI := hide (HH.out.quiet HO.out)
  clear HH c7 c8 c4
  generalize w.drewN nq = w0 at *
  have h := HI.out
  have o2 : Only [gx] w0 (w0.setCell ⟨gx, 8, none⟩ (.int .i64 (nx + 1))) := (Only.refl _ _).setCell (p := ⟨gx, 8, none⟩) _ (by simp)
  have hb2 := h.blk.set_ 8 (.int .i64 (nx + 1))
  have hd2 := h.xd.only o2 (fun q hq hm => h.dx (by simp at hm; exact hm ▸ hq))
  have HFL := hide (fun W (hW : Only [] (w0.setCell ⟨gx, 8, none⟩ (.int .i64 (nx + 1))) W) => (show Calls Try.prog 48 #[.pointer (some ⟨gr, 0, none⟩)] W (fun e w' => (∃ x : Int, e = .returned (.int .i64 x)) ∧ ∃ G', Turned (w0.setCell ⟨gx, 8, none⟩ (.int .i64 (nx + 1))) w' GD G' ∧ XlI w' gx gr N a sz gen (.slice A ws.length cap) ws vS ss op true (nx + 1) (layAll plat l) [] (k + 1) G') from by
    refine (xd_flush (hd2.quiet hW) hk).mono ?_
    rintro e w' ⟨q1, G', q2, q3⟩
    have hI := (h.restr (op' := op) (runs' := true) (nx' := nx + 1) o2 (fun e => e) h.gen_ hb2).quiet hW
    exact ⟨q1, G', ⟨(hW.mono (by simp)).trans q2.1, fun q hq => (q2.2 q hq).imp_right (Nat.le_trans hW.size)⟩, hI.xdT q2 q3⟩))
  have HO2 := hide o2
  have c8 := h.c8
  have f8 := h.fr 8
  have d0 : (w0.setCell ⟨gx, 8, none⟩ (.int .i64 (nx + 1))).cell? ⟨gx, 0, none⟩ = some (.pointer (some ⟨gr, 0, none⟩)) := hb2.cell 0
  clear h hd2 hb2 o2
  go_wp2_with (go_at_call 48; refine (HFL.out _ (by repeat (first | exact Only.refl _ _ | apply Only.drew | apply Only.drewN))).mono ?_; rintro e w3 ⟨⟨x9, rfl⟩, G3, ht3, hi3⟩; have HT3 := hide ht3; have HI3 := hide hi3; have c7' := hi3.c7; have c4' := hi3.c4; have f7' := hi3.fr 7; have f4' := hi3.fr 4; clear ht3 hi3)
  go_ret2
  have hi3 := HI3.out
  have o3 : Only [gx] w3 ((w3.setCell ⟨gx, 7, none⟩ (.bool false)).setCell ⟨gx, 4, none⟩ (.slice none 0 0)) := ((Only.refl _ _).setCell (p := ⟨gx, 7, none⟩) _ (by simp)).setCell (p := ⟨gx, 4, none⟩) _ (by simp)
  have hI4 : XlI ((w3.setCell ⟨gx, 7, none⟩ (.bool false)).setCell ⟨gx, 4, none⟩ (.slice none 0 0)) gx gr N a sz gen (.slice none 0 0) [] vS ss op false (nx + 1) (layAll plat l) [] (k + 1) G3 := by
    refine ⟨(hi3.blk.set_ 7 _).set_ 4 _, XRw.nil _ _, fun e => (hi3.sv e).only o3 (fun q hq => by simpa using (hi3.sv e).apart hi3.blk (by decide) q hq) (fun x hx => by simpa using ((hi3.sv e).ok x hx).row.ne_ hi3.blk (by decide)), hi3.xd.only o3 (fun q hq hm => hi3.dx (by simp at hm; exact hm ▸ hq)), hi3.dx, fun q hq => ?_, hi3.dS, hi3.gen_, hi3.rng, by have := hi3.rng; simp; omega, hi3.lenS⟩
    rcases hq with e | ⟨x, hx, e⟩
    · simp [Value.ownBlock] at e
    · cases hx
  have hg : gx ∈ F := H4.out _ (.inl rfl)
  have hO : Only F w ((w3.setCell ⟨gx, 7, none⟩ (.bool false)).setCell ⟨gx, 4, none⟩ (.slice none 0 0)) := (((HO.out.mono (by simp)).trans (HO2.out.mono (fun q _ hq => by simp at hq; exact hq ▸ hg))).trans (HT3.out.1.mono (fun q _ hq => H4.out _ (.inr (.inr (.inr hq)))))).trans (o3.mono (fun q _ hq => by simp at hq; exact hq ▸ hg))
  have hD := hI4.pack (F := F) (w := w) hO (fun q hq => by
    rcases hq with e | (e | ⟨x, hx, e⟩) | e | e
    · exact .inl (e ▸ hg)
    · simp [Value.ownBlock] at e
    · cases hx
    · exact .inl (H4.out q (.inr (.inr (.inl e))))
    · rcases HT3.out.2 q e with e | e
      · exact .inl (H4.out q (.inr (.inr (.inr e))))
      · exact .inr (Nat.le_trans HO.out.size (Nat.le_trans HO2.out.size e)))
  rw [HS.out] at hD
  exact ⟨rfl, hD⟩
end
end Go.Proofs.Ytokdpldmoflnkaa
/-
  The document's log: Step, a block to its place.
-/
namespace Go.Proofs.Ytokdpldmoflnkaa
open Go.ChangeShapes Go.WideShapes Go.ChangeAt Go.RowKit
set_option linter.unusedVariables false
set_option linter.unusedSimpArgs false
section
variable {w w' w1 w2 : World} {gx gr N a sz : Nat} {gen : Int} {vG : Value} {ws : List WR} {vS : Value} {ss : List WR} {op runs : Bool} {nx : Int} {plat plat' : List Int} {l l' : List (Nat × List Int)} {k k' : Nat} {GD GD' F T : List Nat} {G : PG} {S : Option PG}
set_option maxRecDepth 100000 in
set_option maxHeartbeats 1000000 in
theorem xstep_place {nx : Int} {i : Nat} {x : WR} (h : XlI w gx gr N a sz gen vG ws vS ss op true nx plat l k GD) (h4 : ∀ q, footX gx vG ws vS ss op GD q → q ∈ F) (hS : (if op = true then some (ss.map pairX) else none) = S) (hx : ws[i]? = some x) (hn : nx = (ws.length : Int) + 3 + i) (hk : k < 4611686018427000000) (hlen : l.length < 4398046511000) :
    Calls Try.prog 25 #[.pointer (some ⟨gx, 0, none⟩)] w fun e w' => e = .returned (.tuple #[.bool true, .int .i64 0]) ∧ DidXl w w' gx gr N a sz gen (ws.map pairX) S true (nx + 1) plat (l ++ [(x.sec, x.data)]) (k + 1) F := by
  have hil := (List.getElem?_eq_some_iff.1 hx).1
  have hrng := h.rng
  have hl := h.len
  have hbig := h.big
  obtain ⟨q, cap, rfl, -⟩ := h.blockAt hx ((Only.refl [] w).mono (by simp))
  have c7 := h.c7
  have c8 := h.c8
  have c4 := h.c4
  have HH := hide h
  have H4 := hide h4
  have HS := hide hS
  have HX := hide hx
  have g0 : decide (nx < (ws.length : Int)) = false := by exact decide_eq_false (by omega)
  have g1 : (nx == (ws.length : Int)) = false := by simp only [beq_eq_false_iff_ne]; omega
  have g2 : (nx == (ws.length : Int) + 2) = false := by simp only [beq_eq_false_iff_ne]; omega
  have g3 : (nx == 2 * (ws.length : Int) + 3) = false := by simp only [beq_eq_false_iff_ne]; omega
  have g4 : (nx == (ws.length : Int) + 1) = false := by simp only [beq_eq_false_iff_ne]; omega
  have g5 : decide (nx < 2 * (ws.length : Int) + 3) = true := by exact decide_eq_true (by omega)
  have hwn : IntKind.i64.wrap (nx + 1) = nx + 1 := by rw [IntKind.wrap_i64]; omega
  have hw1 : IntKind.i64.wrap ((ws.length : Int) + 1) = (ws.length : Int) + 1 := by rw [IntKind.wrap_i64]; omega
  have hw2 : IntKind.i64.wrap ((ws.length : Int) + 2) = (ws.length : Int) + 2 := by rw [IntKind.wrap_i64]; omega
  have hw3 : IntKind.i64.wrap (2 * (ws.length : Int)) = 2 * (ws.length : Int) := by rw [IntKind.wrap_i64]; omega
  have hw4 : IntKind.i64.wrap (2 * (ws.length : Int) + 3) = 2 * (ws.length : Int) + 3 := by rw [IntKind.wrap_i64]; omega
  have hw5 : IntKind.i64.wrap (nx - (ws.length : Int)) = nx - (ws.length : Int) := by rw [IntKind.wrap_i64]; omega
  have hw6 : IntKind.i64.wrap (nx - (ws.length : Int) - 3) = i := by rw [IntKind.wrap_i64]; omega
  have hilI : (i : Int) < ws.length := by omega
  have HNX := hide hn
  clear h h4 hx hS hn
  go_enter Try.func25, Try.ntmps25
  go_wp2_with fail
  go_quiet (fail)
  have HO := hide (show Only [] w (w.drewN nq) from (Only.refl _ _).drewN nq)
  have HI := hide (HH.out.quiet HO.out)
  clear HH c7 c8 c4
  generalize w.drewN nq = w0 at *
  have h := HI.out
  have o2 : Only [gx] w0 (w0.setCell ⟨gx, 8, none⟩ (.int .i64 (nx + 1))) := (Only.refl _ _).setCell (p := ⟨gx, 8, none⟩) _ (by simp)
  obtain ⟨q', cap', e, e0, e1, hse, hxg, hu, hsN⟩ := h.blockAt HX.out o2
  obtain ⟨rfl, rfl⟩ : q = q' ∧ cap = cap' := by cases e; exact ⟨rfl, rfl⟩
  clear e
  have hb2 := h.blk.set_ 8 (.int .i64 (nx + 1))
  have hd2 := h.xd.only o2 (fun q hq hm => h.dx (by simp at hm; exact hm ▸ hq))
  have HWR := hide (fun W (hW : Only [] (w0.setCell ⟨gx, 8, none⟩ (.int .i64 (nx + 1))) W) => (show Calls Try.prog 47 #[.pointer (some ⟨gr, 0, none⟩), .int .i64 (x.sec : Int), .slice (some ⟨x.blk, 0, none⟩) 512 (512 + x.rest.length)] W (fun e w' => e = .returned (.int .i64 0) ∧ (DidXl w w' gx gr N a sz gen (ws.map pairX) S true (nx + 1) plat (l ++ [(x.sec, x.data)]) (k + 1) F) ∧ w'.cell? ⟨gx, 7, none⟩ = some (.bool true)) from by
    have hWR := xd_write (hd2.quiet hW) x.sec (some ⟨x.blk, 0, none⟩) (512 + x.rest.length) x.data hsN (hse.only hW (fun _ b hb _ => by simp)) hu (fun b hb => by cases hb; exact hxg) hk hlen
    refine hWR.mono ?_
    rintro e w' ⟨q1, G', q2, q3⟩
    have hbW := (show Blk _ gx 62 (xlC gr a sz gen _ vS op true (nx + 1)) from hb2).only hW (by simp)
    have hD := h.done H4.out h.gen_ (o2.trans (hW.mono (by simp))) hbW q2 q3
    rw [HS.out] at hD
    exact ⟨q1, hD.base HO.out, (hbW.only q2.1 h.dx).cell 7⟩))
  have c8 := h.c8
  have f8 := h.fr 8
  have d0 : (w0.setCell ⟨gx, 8, none⟩ (.int .i64 (nx + 1))).cell? ⟨gx, 0, none⟩ = some (.pointer (some ⟨gr, 0, none⟩)) := hb2.cell 0
  have d1 : (w0.setCell ⟨gx, 8, none⟩ (.int .i64 (nx + 1))).cell? ⟨gx, 1, none⟩ = some (.int .i64 a) := hb2.cell 1
  have d4 : (w0.setCell ⟨gx, 8, none⟩ (.int .i64 (nx + 1))).cell? ⟨gx, 4, none⟩ = some (.slice (some ⟨q, 0, none⟩) ws.length cap) := hb2.cell 4
  clear h hse hxg hd2 hb2 o2
  go_wp2_with fail
  clear HI c8 f8
  generalize w0.setCell ⟨gx, 8, none⟩ (.int .i64 (nx + 1)) = W1 at *
  go_still_tail 26, (by kernel_rfl)
  change wpList _ _ _ _ _ W1.drew
  go_wp2_with (go_at_call 47; refine (HWR.out _ (by repeat (first | exact Only.refl _ _ | apply Only.drew | apply Only.drewN))).mono ?_; rintro e w3 ⟨rfl, hd, c7'⟩; have HD := hide hd; clear hd)
  go_ret2
  exact ⟨rfl, HD.out⟩
end
end Go.Proofs.Ytokdpldmoflnkaa
/-
  The document's log: Step, the header.
-/
namespace Go.Proofs.Ytokdpldmoflnkaa
open Go.ChangeShapes Go.WideShapes Go.ChangeAt Go.RowKit
set_option linter.unusedVariables false
set_option linter.unusedSimpArgs false
section
variable {w w' w1 w2 : World} {gx gr N a sz : Nat} {gen : Int} {vG : Value} {ws : List WR} {vS : Value} {ss : List WR} {op runs : Bool} {nx : Int} {plat plat' : List Int} {l l' : List (Nat × List Int)} {k k' : Nat} {GD GD' F T : List Nat} {G : PG} {S : Option PG}
theorem xi_dirty (h : XlI w gx gr N a sz gen vG ws vS ss op runs nx plat l k GD) (h4 : ∀ q, footX gx vG ws vS ss op GD q → q ∈ F) : Calls Try.prog 32 #[.pointer (some ⟨gx, 0, none⟩)] w fun e w' => ∃ v', e = .returned v' ∧ IRow w' v' (secsF ws) ∧ (∀ q, v'.ownBlock = some q → w.heap.size ≤ q) ∧ Only [] w w' := by
  obtain ⟨F', _, hX⟩ := h.pack (F := F) (w := w) ((Only.refl [] w).mono (by simp)) (fun q hq => .inl (h4 q hq))
  have := xl_dirty hX
  rwa [secsF_pair] at this
set_option maxRecDepth 100000 in
set_option maxHeartbeats 1000000 in
theorem xstep_head {nx : Int} (h : XlI w gx gr N a sz gen vG ws vS ss op true nx plat l k GD) (h4 : ∀ q, footX gx vG ws vS ss op GD q → q ∈ F) (hS : (if op = true then some (ss.map pairX) else none) = S) (hn : nx = (ws.length : Int) + 1) (hk : k < 4611686018427000000) (hlen : l.length < 4398046511000) :
    Calls Try.prog 25 #[.pointer (some ⟨gx, 0, none⟩)] w fun e w' => e = .returned (.tuple #[.bool true, .int .i64 0]) ∧ DidXl w w' gx gr N a sz ((gen + 1) % 18446744073709551616) (ws.map pairX) S true (nx + 1) plat (l ++ [(a, hdrF ((gen + 1) % 18446744073709551616) (secsF ws))]) (k + 1) F := by
  have hrng := h.rng
  have hl := h.len
  have hbig := h.big
  have hgen := h.gen_
  have hsec : ∀ x ∈ secsF ws, 0 ≤ x ∧ x < 65536 := fun x hx => by
    obtain ⟨y, hy, rfl⟩ := List.mem_map.1 hx
    have := (h.grp.ok y hy).sec
    omega
  have hsl : (secsF ws).length ≤ 247 := by simp [secsF]; omega
  obtain ⟨A, cap, rfl, -⟩ := h.grp.slice
  have c7 := h.c7
  have c8 := h.c8
  have c4 := h.c4
  have HH := hide h
  have H4 := hide h4
  have HS := hide hS
  have g0 : decide (nx < (ws.length : Int)) = false := by exact decide_eq_false (by omega)
  have g1 : (nx == (ws.length : Int)) = false := by simp only [beq_eq_false_iff_ne]; omega
  have g2 : (nx == (ws.length : Int) + 2) = false := by simp only [beq_eq_false_iff_ne]; omega
  have g3 : (nx == 2 * (ws.length : Int) + 3) = false := by simp only [beq_eq_false_iff_ne]; omega
  have g4 : (nx == (ws.length : Int) + 1) = true := by subst hn; simp
  have hwn : IntKind.i64.wrap (nx + 1) = nx + 1 := by rw [IntKind.wrap_i64]; omega
  have hw1 : IntKind.i64.wrap ((ws.length : Int) + 1) = (ws.length : Int) + 1 := by rw [IntKind.wrap_i64]; omega
  have hw2 : IntKind.i64.wrap ((ws.length : Int) + 2) = (ws.length : Int) + 2 := by rw [IntKind.wrap_i64]; omega
  have hw3 : IntKind.i64.wrap (2 * (ws.length : Int)) = 2 * (ws.length : Int) := by rw [IntKind.wrap_i64]; omega
  have hw4 : IntKind.i64.wrap (2 * (ws.length : Int) + 3) = 2 * (ws.length : Int) + 3 := by rw [IntKind.wrap_i64]; omega
  have hwg : IntKind.u64.wrap (gen + 1) = ((gen + 1) % 18446744073709551616) := by rw [IntKind.wrap_u64]
  have hg0 : 0 ≤ ((gen + 1) % 18446744073709551616) ∧ ((gen + 1) % 18446744073709551616) < 18446744073709551616 := by omega
  generalize ((gen + 1) % 18446744073709551616) = gn at *
  clear h h4 hS hn
  go_enter Try.func25, Try.ntmps25
  go_wp2_with fail
  go_quiet (fail)
  have HO := hide (show Only [] w (w.drewN nq) from (Only.refl _ _).drewN nq)
  have HI := hide (HH.out.quiet HO.out)
  clear HH c7 c8 c4
  generalize w.drewN nq = w0 at *
  have h := HI.out
  have o2 : Only [gx] w0 ((w0.setCell ⟨gx, 8, none⟩ (.int .i64 (nx + 1))).setCell ⟨gx, 3, none⟩ (.int .u64 gn)) := ((Only.refl _ _).setCell (p := ⟨gx, 8, none⟩) _ (by simp)).setCell (p := ⟨gx, 3, none⟩) _ (by simp)
  have hb2 := (h.blk.set_ 8 (.int .i64 (nx + 1))).set_ 3 (.int .u64 gn)
  have hI2 := h.restr (op' := op) (runs' := true) (nx' := nx + 1) (gen' := gn) o2 (fun e => e) hg0 hb2
  have c8 := h.c8
  have f8 := h.fr 8
  have c3 := h.c3
  have f3 := h.fr 3
  have HO2 := hide o2
  have HI2 := hide hI2
  clear h hb2 o2 hI2
  go_wp2_with fail
  clear c8 f8 c3 f3
  generalize (w0.setCell ⟨gx, 8, none⟩ (.int .i64 (nx + 1))).setCell ⟨gx, 3, none⟩ (.int .u64 gn) = W1 at *
  have c3 := HI2.out.c3
  have HDI := hide (fun W (ho : Only [] W1 W) => xi_dirty (HI2.out.quiet ho) H4.out)
  have kk : Only [] W1 W1 := Only.refl _ _
  go_region_held3 (fun w' => w'.cell? ⟨gx, 3, none⟩ = some (.int .u64 gn)) (first | go_keep | exact (HI2.out.quiet kk).c3) (first | (go_at_call 32; refine (HDI.out _ (by repeat (first | exact kk | apply Only.drew | apply Only.drewN))).mono ?_; rintro e w5 ⟨v5, rfl, hr5, hn5, ho5⟩; obtain ⟨A5, c5, rfl, -⟩ := id hr5.form2; have HR5 := hide (fun W (hW : Only [] w5 W) => (show IRow W _ (secsF ws) from KRow.only hr5 hW (by simp))); have k5 : Only [] W1 w5 := Only.trans (by repeat (first | exact kk | apply Only.drew | apply Only.drewN)) ho5; clear kk hr5 hn5 ho5; have kk := k5; clear k5) | (go_at_call 46; refine (xheader_is (HR5.out _ (by repeat (first | exact Only.refl _ _ | apply Only.drew | apply Only.drewN))) gn hg0.1 hg0.2 hsl hsec).mono ?_; rintro e w6 ⟨d6, rfl, hd6, hb6, ho6⟩; have hz6 := kk.size; have HD6 := hide (show W1.heap.size ≤ d6 by first | omega | (simp at hd6; omega)); clear hz6; have HB6 := hide hb6; have k6 : Only [] W1 w6 := Only.trans (by repeat (first | exact kk | apply Only.drew | apply Only.drewN)) ho6; clear kk hd6 hb6 ho6; have kk := k6; clear k6))
  have hI6 := HI2.out.quiet kk
  have hdG : d6 ∉ GD := fun hm => by have := HI2.out.xd.lt d6 hm; have := HD6.out; omega
  have HWR := hide (fun W (hW : Only [] w6 W) => (show Calls Try.prog 47 #[.pointer (some ⟨gr, 0, none⟩), .int .i64 a, .slice (some ⟨d6, 0, none⟩) 512 512] W (fun e w' => e = .returned (.int .i64 0) ∧ (DidXl w w' gx gr N a sz gn (ws.map pairX) S true (nx + 1) plat (l ++ [(a, hdrF gn (secsF ws))]) (k + 1) F) ∧ w'.cell? ⟨gx, 7, none⟩ = some (.bool true)) from by
    have hWR := xd_write (hI6.xd.quiet hW) a (some ⟨d6, 0, none⟩) 512 (hdrF gn (secsF ws)) (by omega) (u8_512 (HB6.out.only hW (by simp)) (hdrF_length _ _ hsl)) (u8_hdrF _ _) (fun b hb => by cases hb; exact hdG) hk hlen
    refine hWR.mono ?_
    rintro e w' ⟨q1, G', q2, q3⟩
    have hbW := (hI6.quiet hW).blk
    have hD := HI.out.done H4.out hg0 (HO2.out.trans ((kk.trans hW).mono (by simp))) hbW q2 q3
    rw [HS.out] at hD
    exact ⟨q1, hD.base HO.out, (hbW.only q2.1 hI6.dx).cell 7⟩))
  have c0 := hI6.c0
  have c1 := hI6.c1
  clear hI6 hdG
  go_wp2_with fail
  go_still_tail 9, (by kernel_rfl)
  change wpList _ _ _ _ _ w6.drew
  go_wp2_with (go_at_call 47; refine (HWR.out _ (by repeat (first | exact Only.refl _ _ | apply Only.drew | apply Only.drewN))).mono ?_; rintro e w3 ⟨rfl, hd, c7'⟩; have HD := hide hd; clear hd)
  go_ret2
  exact ⟨rfl, HD.out⟩
end
end Go.Proofs.Ytokdpldmoflnkaa
