/-
  The document's log: Dirty.
-/
import Derived.Test.YtokdpldmoflnkaaMg21
import Derived.StillTailTactics
namespace Go.Proofs.Ytokdpldmoflnkaa
open Go.ChangeShapes Go.WideShapes Go.ChangeAt Go.RowKit
set_option linter.unusedVariables false
set_option linter.unusedSimpArgs false
section
variable {w w' : World} {gx gr N a sz : Nat} {gen : Int} {vG : Value} {ws : List WR} {vS : Value} {ss : List WR} {op runs : Bool} {nx : Int} {plat : List Int} {l : List (Nat × List Int)} {k k' : Nat} {GD F T : List Nat} {G : PG} {S : Option PG}
def secsF (ws : List WR) : List Int := ws.map fun x => (x.sec : Int)
theorem secsF_pair (ws : List WR) : (ws.map pairX).map (·.1) = secsF ws := by simp [secsF, pairX, Function.comp_def]
section
variable (h : Xl w gx gr N a sz gen G S runs nx plat l k F)
include h
set_option maxRecDepth 100000 in
set_option maxHeartbeats 1000000 in
theorem xl_dirty : Calls Try.prog 32 #[.pointer (some ⟨gx, 0, none⟩)] w fun e w' => ∃ v', e = .returned v' ∧ IRow w' v' (G.map (·.1)) ∧ (∀ q, v'.ownBlock = some q → w.heap.size ≤ q) ∧ Only [] w w' := by
  obtain ⟨vG, ws, vS, ss, op, GD, h1, rfl, h3, h4, h5⟩ := h
  rw [secsF_pair]
  have c4 := h1.c4
  have HG := hide (fun W (ho : Only [] w W) => (h1.quiet ho).grp)
  obtain ⟨A, cap, rfl, hA, -⟩ := xb_form h1.grp.own
  have hl : ws.length ≤ 247 := by have := h1.len; have := h1.rng; omega
  have HA := hide hA
  clear h1 h3 h4 h5 hA
  go_enter Try.func32, Try.ntmps32
  go_wp2
  go_loopw [3, 11] (fun ov iv wr => ∃ i : Nat, i ≤ ws.length ∧ iv = .int .i64 i ∧ IRow wr ov (secsF (ws.take i)) ∧ (∀ q, ov.ownBlock = some q → w.heap.size ≤ q) ∧ Only [] w wr) (fun _ iv _ => ws.length - (intOf iv).toNat)
  case atStart => exact ⟨0, Nat.zero_le _, rfl, KRow.nil _ _ _ _, by simp [Value.ownBlock], Only.refl _ _⟩
  case round =>
    obtain ⟨i, hi, rfl, hrow, hnew, ho⟩ := hrel
    have HO := hide ho
    have HR := hide hrow
    have HN := hide hnew
    by_cases hlt : i < ws.length
    · obtain ⟨x, hx⟩ : ∃ x, ws[i]? = some x := ⟨_, List.getElem?_eq_getElem hlt⟩
      have HA3 : ∃ q, A = some ⟨q, 0, none⟩ ∧ wr.cell? ⟨q, i * 2, none⟩ = some (.int .i64 x.sec) ∧ wr.cell? ⟨q, i * 2 + 1, none⟩ = some (.slice (some ⟨x.blk, 0, none⟩) 512 (512 + x.rest.length)) := by
        obtain ⟨A', cap', e, hA, hA2⟩ := xb_form (HG.out wr ho).own
        cases e
        rcases A with _ | b
        · exact absurd (hA rfl).1 (by omega)
        · obtain ⟨q, rfl, hq, _, _, hc⟩ := hA2 b rfl
          exact ⟨q, rfl, (hc i x hx).1, (hc i x hx).2⟩
      obtain ⟨q, rfl, e0, e1⟩ := HA3
      have HX := hide hx
      have HL := hide (show (secsF (ws.take i)).length = i by simp [secsF]; omega)
      have HSU := hide (show secsF (ws.take (i + 1)) = secsF (ws.take i) ++ [(x.sec : Int)] by rw [List.take_add_one, hx]; simp [secsF])
      obtain ⟨A0, c0, rfl, -⟩ := hrow.form2
      clear hx hrow hnew ho
      go_wp2_with (at_builtin; refine wpList_append_any rfl _ _ rfl (.slice A0 (secsF (ws.take i)).length c0) (secsF (ws.take i)) rfl (KRow.only HR.out (((Only.refl [] wr).alloc _).alloc _) (by simp)) (some ⟨wr.heap.size + 1, 0, none⟩) 1 1 rfl (fun e => by cases e) [(x.sec : Int)] rfl (one_newsI (by
          have hb := Blk.new (wr.alloc (.cells #[.int .i64 x.sec, .slice (some ⟨x.blk, 0, none⟩) 512 (512 + x.rest.length)] 91)) 3 #[.int .i64 x.sec]
          rw [show (wr.alloc (.cells #[.int .i64 x.sec, .slice (some ⟨x.blk, 0, none⟩) 512 (512 + x.rest.length)] 91)).heap.size = wr.heap.size + 1 by simp] at hb
          exact hb)) (by rw [HL.out]; omega) ?_)
      intro v2 w3 k1 k2 k3
      obtain ⟨A2, c2, rfl, -⟩ := k1.form2
      have HK1 := hide k1
      have HO3 := hide (show Only [] w w3 from ((HO.out.alloc _).alloc _).trans' k2 (fun q hq hm => by
        have := HN.out q (by simpa using hm)
        omega))
      have HN3 := hide (fun q hq => (show w.heap.size ≤ q from by
        rcases k3 q hq with e | e
        · exact HN.out q e
        · have := HO.out.size; omega))
      clear k1 k2 k3
      go_wp2
      go_roundw
      case rel => exact ⟨i + 1, hlt, by go_num, by rw [HSU.out]; exact HK1.out, HN3.out, HO3.out⟩
      case measure => simp [intOf]; omega
    · obtain rfl : i = ws.length := by omega
      rw [List.take_length] at HR
      obtain ⟨A2, c2, rfl, -⟩ := hrow.form2
      clear hrow hnew ho
      go_wp2
      go_ret
      exact ⟨_, rfl, HR.out, HN.out, HO.out⟩
end
end
end Go.Proofs.Ytokdpldmoflnkaa
/-
  The document's log: Step.
-/
namespace Go.Proofs.Ytokdpldmoflnkaa
open Go.ChangeShapes Go.WideShapes Go.ChangeAt Go.RowKit
set_option linter.unusedVariables false
set_option linter.unusedSimpArgs false
section
variable {w w' w1 w2 : World} {gx gr N a sz : Nat} {gen : Int} {vG : Value} {ws : List WR} {vS : Value} {ss : List WR} {op runs : Bool} {nx : Int} {plat plat' : List Int} {l l' : List (Nat × List Int)} {k k' : Nat} {GD GD' F T : List Nat} {G : PG} {S : Option PG}
/-- A step's end: the struct turned, then the disk. -/
theorem XlI.done (h : XlI w gx gr N a sz gen vG ws vS ss op runs nx plat l k GD) (h4 : ∀ q, footX gx vG ws vS ss op GD q → q ∈ F) {gen' : Int} {runs' : Bool} {nx' : Int} (hg : 0 ≤ gen' ∧ gen' < 18446744073709551616) (ho : Only [gx] w w1) (hb : Blk w1 gx 62 (xlC gr a sz gen' vG vS op runs' nx')) (hT : Turned w1 w2 GD GD') (hD : Xd w2 gr N plat' l' k' GD') : DidXl w w2 gx gr N a sz gen' (ws.map pairX) (if op = true then some (ss.map pairX) else none) runs' nx' plat' l' k' F := by
  refine ((h.restr (op' := op) ho (fun e => e) hg hb).xdT hT hD).pack (F := F) (w := w) ((ho.mono (fun q _ hq => by simp at hq; subst hq; exact h4 _ (.inl rfl))).trans (hT.1.mono (fun q _ hq => h4 _ (.inr (.inr (.inr hq)))))) (fun q hq => ?_)
  rcases hq with e | e | e | e
  · exact .inl (h4 q (.inl e))
  · exact .inl (h4 q (.inr (.inl e)))
  · exact .inl (h4 q (.inr (.inr (.inl e))))
  · rcases hT.2 q e with e | e
    · exact .inl (h4 q (.inr (.inr (.inr e))))
    · exact .inr (Nat.le_trans ho.size e)
/-- A block of the group, in any world where only the struct turned. -/
theorem XlI.blockAt (h : XlI w gx gr N a sz gen vG ws vS ss op runs nx plat l k GD) {i : Nat} {x : WR} (hx : ws[i]? = some x) (ho : Only [gx] w w1) : ∃ q cap, vG = .slice (some ⟨q, 0, none⟩) ws.length cap ∧ w1.cell? ⟨q, i * 2, none⟩ = some (.int .i64 x.sec) ∧ w1.cell? ⟨q, i * 2 + 1, none⟩ = some (.slice (some ⟨x.blk, 0, none⟩) 512 (512 + x.rest.length)) ∧ Sees w1 (some ⟨x.blk, 0, none⟩) 512 x.data ∧ x.blk ∉ GD ∧ U8 x.data ∧ x.sec < N := by
  have hil := (List.getElem?_eq_some_iff.1 hx).1
  have hm := List.mem_of_getElem? hx
  have g1 := h.grp.only ho (fun q hq => by simpa using h.grp.apart h.blk (by decide) q hq) (fun y hy => by simpa using (h.grp.ok y hy).row.ne_ h.blk (by decide))
  obtain ⟨A, cap, e, hA, hA2⟩ := xb_form g1.own
  rcases A with _ | b
  · exact absurd (hA rfl).1 (by omega)
  · obtain ⟨q, rfl, hq, _, _, hc⟩ := hA2 b rfl
    have hok := g1.ok x hm
    exact ⟨q, cap, e, (hc i x hx).1, (hc i x hx).2, ⟨hok.len, fun _ => ⟨x.blk, 0, rfl, hok.row.lt, fun j hj => by rw [Nat.zero_add, hok.row.cell]; exact u8l_get _ _ _ (by rw [hok.len]; exact hj)⟩⟩, h.dG _ (.inr ⟨x, hm, rfl⟩), hok.u8, hok.sec⟩
theorem DidXl.base (ho : Only [] w w1) (h : DidXl w1 w' gx gr N a sz gen G S runs nx plat l k F) : DidXl w w' gx gr N a sz gen G S runs nx plat l k F := by
  obtain ⟨F', t, x⟩ := h
  exact ⟨F', turned_trans (Turned.same (ho.mono (by simp))) t, x⟩
set_option maxRecDepth 100000 in
set_option maxHeartbeats 1000000 in
theorem xstep_log {i : Nat} {x : WR} (h : XlI w gx gr N a sz gen vG ws vS ss op true i plat l k GD) (h4 : ∀ q, footX gx vG ws vS ss op GD q → q ∈ F) (hS : (if op = true then some (ss.map pairX) else none) = S) (hx : ws[i]? = some x) (hk : k < 4611686018427000000) (hlen : l.length < 4398046511000) :
    Calls Try.prog 25 #[.pointer (some ⟨gx, 0, none⟩)] w fun e w' => e = .returned (.tuple #[.bool true, .int .i64 0]) ∧ DidXl w w' gx gr N a sz gen (ws.map pairX) S true ((i : Int) + 1) plat (l ++ [(a + 1 + i, x.data)]) (k + 1) F := by
  have hil := (List.getElem?_eq_some_iff.1 hx).1
  have hrng := h.rng
  have hl := h.len
  have hbig := h.big
  obtain ⟨q, cap, rfl, -⟩ := h.blockAt hx ((Only.refl [] w).mono (by simp))
  have c7 := h.c7
  have c8 := h.c8
  have c4 := h.c4
  have HH := hide h
  have H4 := hide h4
  have HS := hide hS
  have HX := hide hx
  have hlt : decide ((i : Int) < ws.length) = true := decide_eq_true (by omega)
  have hilI : (i : Int) < ws.length := by omega
  have hw1 : IntKind.i64.wrap ((a : Int) + 1) = (a : Int) + 1 := by rw [IntKind.wrap_i64]; omega
  have hw2 : IntKind.i64.wrap ((a : Int) + 1 + (i : Int)) = (a : Int) + 1 + (i : Int) := by rw [IntKind.wrap_i64]; omega
  have hw3 : IntKind.i64.wrap ((i : Int) + 1) = (i : Int) + 1 := by rw [IntKind.wrap_i64]; omega
  clear h h4 hx hS
  go_enter Try.func25, Try.ntmps25
  go_wp2_with fail
  go_quiet (fail)
  have HO := hide (show Only [] w (w.drewN nq) from (Only.refl _ _).drewN nq)
  have HI := hide (HH.out.quiet HO.out)
  clear HH c7 c8 c4
  generalize w.drewN nq = w0 at *
  have h := HI.out
  have o2 : Only [gx] w0 (w0.setCell ⟨gx, 8, none⟩ (.int .i64 ((i : Int) + 1))) := (Only.refl _ _).setCell (p := ⟨gx, 8, none⟩) _ (by simp)
  obtain ⟨q', cap', e, e0, e1, hse, hxg, hu, hsN⟩ := h.blockAt HX.out o2
  obtain ⟨rfl, rfl⟩ : q = q' ∧ cap = cap' := by cases e; exact ⟨rfl, rfl⟩
  clear e
  have hb2 := h.blk.set_ 8 (.int .i64 ((i : Int) + 1))
  have hd2 := h.xd.only o2 (fun q hq hm => h.dx (by simp at hm; exact hm ▸ hq))
  have HWR := hide (fun W (hW : Only [] (w0.setCell ⟨gx, 8, none⟩ (.int .i64 ((i : Int) + 1))) W) => (show Calls Try.prog 47 #[.pointer (some ⟨gr, 0, none⟩), .int .i64 ((a : Int) + 1 + (i : Int)), .slice (some ⟨x.blk, 0, none⟩) 512 (512 + x.rest.length)] W (fun e w' => e = .returned (.int .i64 0) ∧ (DidXl w w' gx gr N a sz gen (ws.map pairX) S true ((i : Int) + 1) plat (l ++ [(a + 1 + i, x.data)]) (k + 1) F) ∧ w'.cell? ⟨gx, 7, none⟩ = some (.bool true)) from by
    have hWR := xd_write (hd2.quiet hW) (a + 1 + i) (some ⟨x.blk, 0, none⟩) (512 + x.rest.length) x.data (by omega) (hse.only hW (fun _ b hb _ => by simp)) hu (fun b hb => by cases hb; exact hxg) hk hlen
    rw [show ((a + 1 + i : Nat) : Int) = (a : Int) + 1 + (i : Int) from by omega] at hWR
    refine hWR.mono ?_
    rintro e w' ⟨q1, G', q2, q3⟩
    have hbW := (show Blk _ gx 62 (xlC gr a sz gen _ vS op true ((i : Int) + 1)) from hb2).only hW (by simp)
    have hD := h.done H4.out h.gen_ (o2.trans (hW.mono (by simp))) hbW q2 q3
    rw [HS.out] at hD
    exact ⟨q1, hD.base HO.out, (hbW.only q2.1 h.dx).cell 7⟩))
  have c8 := h.c8
  have f8 := h.fr 8
  have d0 : (w0.setCell ⟨gx, 8, none⟩ (.int .i64 ((i : Int) + 1))).cell? ⟨gx, 0, none⟩ = some (.pointer (some ⟨gr, 0, none⟩)) := hb2.cell 0
  have d1 : (w0.setCell ⟨gx, 8, none⟩ (.int .i64 ((i : Int) + 1))).cell? ⟨gx, 1, none⟩ = some (.int .i64 a) := hb2.cell 1
  have d4 : (w0.setCell ⟨gx, 8, none⟩ (.int .i64 ((i : Int) + 1))).cell? ⟨gx, 4, none⟩ = some (.slice (some ⟨q, 0, none⟩) ws.length cap) := hb2.cell 4
  clear h hse hxg hd2 hb2 o2
  go_wp2_with fail
  clear HI c8 f8
  generalize w0.setCell ⟨gx, 8, none⟩ (.int .i64 ((i : Int) + 1)) = W1 at *
  go_still_tail 19, (by kernel_rfl)
  change wpList _ _ _ _ _ W1.drew
  go_wp2_with (go_at_call 47; refine (HWR.out _ (by repeat (first | exact Only.refl _ _ | apply Only.drew | apply Only.drewN))).mono ?_; rintro e w3 ⟨rfl, hd, c7'⟩; have HD := hide hd; clear hd)
  go_ret2
  exact ⟨rfl, HD.out⟩
end
end Go.Proofs.Ytokdpldmoflnkaa
/-
  The document's log: Step, the disk flushed.
-/
namespace Go.Proofs.Ytokdpldmoflnkaa
open Go.ChangeShapes Go.WideShapes Go.ChangeAt Go.RowKit
set_option linter.unusedVariables false
set_option linter.unusedSimpArgs false
section
variable {w w' w1 w2 : World} {gx gr N a sz : Nat} {gen : Int} {vG : Value} {ws : List WR} {vS : Value} {ss : List WR} {op runs : Bool} {nx : Int} {plat plat' : List Int} {l l' : List (Nat × List Int)} {k k' : Nat} {GD GD' F T : List Nat} {G : PG} {S : Option PG}
set_option maxRecDepth 100000 in
set_option maxHeartbeats 1000000 in
theorem xstep_flush1 {nx : Int} (h : XlI w gx gr N a sz gen vG ws vS ss op true nx plat l k GD) (h4 : ∀ q, footX gx vG ws vS ss op GD q → q ∈ F) (hS : (if op = true then some (ss.map pairX) else none) = S) (hn : nx = (ws.length : Int)) (hk : k < 4611686018427000000) :
    Calls Try.prog 25 #[.pointer (some ⟨gx, 0, none⟩)] w fun e w' => e = .returned (.tuple #[.bool true, .int .i64 0]) ∧ DidXl w w' gx gr N a sz gen (ws.map pairX) S true (nx + 1) (layAll plat l) [] (k + 1) F := by
  have hrng := h.rng
  have hl := h.len
  have hbig := h.big
  obtain ⟨A, cap, rfl, -⟩ := h.grp.slice
  have c7 := h.c7
  have c8 := h.c8
  have c4 := h.c4
  have HH := hide h
  have H4 := hide h4
  have HS := hide hS
  have g0 : decide (nx < (ws.length : Int)) = false := by exact decide_eq_false (by omega)
  have g1 : (nx == (ws.length : Int)) = true := by subst hn; simp
  have hwn : IntKind.i64.wrap (nx + 1) = nx + 1 := by rw [IntKind.wrap_i64]; omega
  have hw2 : IntKind.i64.wrap ((ws.length : Int) + 2) = (ws.length : Int) + 2 := by rw [IntKind.wrap_i64]; omega
  have hw3 : IntKind.i64.wrap (2 * (ws.length : Int)) = 2 * (ws.length : Int) := by rw [IntKind.wrap_i64]; omega
  have hw4 : IntKind.i64.wrap (2 * (ws.length : Int) + 3) = 2 * (ws.length : Int) + 3 := by rw [IntKind.wrap_i64]; omega
  clear h h4 hS hn
  go_enter Try.func25, Try.ntmps25
  go_wp2_with fail
  go_quiet (fail)
  have HO := hide (show Only [] w (w.drewN nq) from (Only.refl _ _).drewN nq)
  have HI := hide (HH.out.quiet HO.out)
  clear HH c7 c8 c4
  generalize w.drewN nq = w0 at *
  have h := HI.out
  have o2 : Only [gx] w0 (w0.setCell ⟨gx, 8, none⟩ (.int .i64 (nx + 1))) := (Only.refl _ _).setCell (p := ⟨gx, 8, none⟩) _ (by simp)
  have hb2 := h.blk.set_ 8 (.int .i64 (nx + 1))
  have hd2 := h.xd.only o2 (fun q hq hm => h.dx (by simp at hm; exact hm ▸ hq))
  have HFL := hide (fun W (hW : Only [] (w0.setCell ⟨gx, 8, none⟩ (.int .i64 (nx + 1))) W) => (show Calls Try.prog 48 #[.pointer (some ⟨gr, 0, none⟩)] W (fun e w' => (∃ x : Int, e = .returned (.int .i64 x)) ∧ (DidXl w w' gx gr N a sz gen (ws.map pairX) S true (nx + 1) (layAll plat l) [] (k + 1) F) ∧ w'.cell? ⟨gx, 7, none⟩ = some (.bool true)) from by
    refine (xd_flush (hd2.quiet hW) hk).mono ?_
    rintro e w' ⟨q1, G', q2, q3⟩
    have hbW := (show Blk _ gx 62 (xlC gr a sz gen _ vS op true (nx + 1)) from hb2).only hW (by simp)
    have hD := h.done H4.out h.gen_ (o2.trans (hW.mono (by simp))) hbW q2 q3
    rw [HS.out] at hD
    exact ⟨q1, hD.base HO.out, (hbW.only q2.1 h.dx).cell 7⟩))
  have c8 := h.c8
  have f8 := h.fr 8
  have d0 : (w0.setCell ⟨gx, 8, none⟩ (.int .i64 (nx + 1))).cell? ⟨gx, 0, none⟩ = some (.pointer (some ⟨gr, 0, none⟩)) := hb2.cell 0
  clear h hd2 hb2 o2
  go_wp2_with (go_at_call 48; refine (HFL.out _ (by repeat (first | exact Only.refl _ _ | apply Only.drew | apply Only.drewN))).mono ?_; rintro e w3 ⟨⟨x9, rfl⟩, hd, c7'⟩; have HD := hide hd; clear hd)
  go_ret2
  exact ⟨rfl, HD.out⟩
set_option maxRecDepth 100000 in
set_option maxHeartbeats 1000000 in
theorem xstep_flush2 {nx : Int} (h : XlI w gx gr N a sz gen vG ws vS ss op true nx plat l k GD) (h4 : ∀ q, footX gx vG ws vS ss op GD q → q ∈ F) (hS : (if op = true then some (ss.map pairX) else none) = S) (hn : nx = (ws.length : Int) + 2) (hk : k < 4611686018427000000) :
    Calls Try.prog 25 #[.pointer (some ⟨gx, 0, none⟩)] w fun e w' => e = .returned (.tuple #[.bool true, .int .i64 0]) ∧ DidXl w w' gx gr N a sz gen (ws.map pairX) S true (nx + 1) (layAll plat l) [] (k + 1) F := by
  have hrng := h.rng
  have hl := h.len
  have hbig := h.big
  obtain ⟨A, cap, rfl, -⟩ := h.grp.slice
  have c7 := h.c7
  have c8 := h.c8
  have c4 := h.c4
  have HH := hide h
  have H4 := hide h4
  have HS := hide hS
  have g0 : decide (nx < (ws.length : Int)) = false := by exact decide_eq_false (by omega)
  have g1 : (nx == (ws.length : Int)) = false := by simp only [beq_eq_false_iff_ne]; omega
  have g2 : (nx == (ws.length : Int) + 2) = true := by subst hn; simp
  have hwn : IntKind.i64.wrap (nx + 1) = nx + 1 := by rw [IntKind.wrap_i64]; omega
  have hw2 : IntKind.i64.wrap ((ws.length : Int) + 2) = (ws.length : Int) + 2 := by rw [IntKind.wrap_i64]; omega
  have hw3 : IntKind.i64.wrap (2 * (ws.length : Int)) = 2 * (ws.length : Int) := by rw [IntKind.wrap_i64]; omega
  have hw4 : IntKind.i64.wrap (2 * (ws.length : Int) + 3) = 2 * (ws.length : Int) + 3 := by rw [IntKind.wrap_i64]; omega
  clear h h4 hS hn
  go_enter Try.func25, Try.ntmps25
  go_wp2_with fail
  go_quiet (fail)
  have HO := hide (show Only [] w (w.drewN nq) from (Only.refl _ _).drewN nq)
  have HI := hide (HH.out.quiet HO.out)
  clear HH c7 c8 c4
  generalize w.drewN nq = w0 at *
  have h := HI.out
  have o2 : Only [gx] w0 (w0.setCell ⟨gx, 8, none⟩ (.int .i64 (nx + 1))) := (Only.refl _ _).setCell (p := ⟨gx, 8, none⟩) _ (by simp)
  have hb2 := h.blk.set_ 8 (.int .i64 (nx + 1))
  have hd2 := h.xd.only o2 (fun q hq hm => h.dx (by simp at hm; exact hm ▸ hq))
  have HFL := hide (fun W (hW : Only [] (w0.setCell ⟨gx, 8, none⟩ (.int .i64 (nx + 1))) W) => (show Calls Try.prog 48 #[.pointer (some ⟨gr, 0, none⟩)] W (fun e w' => (∃ x : Int, e = .returned (.int .i64 x)) ∧ (DidXl w w' gx gr N a sz gen (ws.map pairX) S true (nx + 1) (layAll plat l) [] (k + 1) F) ∧ w'.cell? ⟨gx, 7, none⟩ = some (.bool true)) from by
    refine (xd_flush (hd2.quiet hW) hk).mono ?_
    rintro e w' ⟨q1, G', q2, q3⟩
    have hbW := (show Blk _ gx 62 (xlC gr a sz gen _ vS op true (nx + 1)) from hb2).only hW (by simp)
    have hD := h.done H4.out h.gen_ (o2.trans (hW.mono (by simp))) hbW q2 q3
    rw [HS.out] at hD
    exact ⟨q1, hD.base HO.out, (hbW.only q2.1 h.dx).cell 7⟩))
  have c8 := h.c8
  have f8 := h.fr 8
  have d0 : (w0.setCell ⟨gx, 8, none⟩ (.int .i64 (nx + 1))).cell? ⟨gx, 0, none⟩ = some (.pointer (some ⟨gr, 0, none⟩)) := hb2.cell 0
  clear h hd2 hb2 o2
  go_wp2_with (go_at_call 48; refine (HFL.out _ (by repeat (first | exact Only.refl _ _ | apply Only.drew | apply Only.drewN))).mono ?_; rintro e w3 ⟨⟨x9, rfl⟩, hd, c7'⟩; have HD := hide hd; clear hd)
  go_ret2
  exact ⟨rfl, HD.out⟩
set_option maxRecDepth 100000 in
set_option maxHeartbeats 1000000 in
theorem xstep_flush3 {nx : Int} (h : XlI w gx gr N a sz gen vG ws vS ss op true nx plat l k GD) (h4 : ∀ q, footX gx vG ws vS ss op GD q → q ∈ F) (hS : (if op = true then some (ss.map pairX) else none) = S) (hn : nx = 2 * (ws.length : Int) + 3) (hk : k < 4611686018427000000) :
    Calls Try.prog 25 #[.pointer (some ⟨gx, 0, none⟩)] w fun e w' => e = .returned (.tuple #[.bool true, .int .i64 0]) ∧ DidXl w w' gx gr N a sz gen (ws.map pairX) S true (nx + 1) (layAll plat l) [] (k + 1) F := by
  have hrng := h.rng
  have hl := h.len
  have hbig := h.big
  obtain ⟨A, cap, rfl, -⟩ := h.grp.slice
  have c7 := h.c7
  have c8 := h.c8
  have c4 := h.c4
  have HH := hide h
  have H4 := hide h4
  have HS := hide hS
  have g0 : decide (nx < (ws.length : Int)) = false := by exact decide_eq_false (by omega)
  have g1 : (nx == (ws.length : Int)) = false := by simp only [beq_eq_false_iff_ne]; omega
  have g2 : (nx == (ws.length : Int) + 2) = false := by simp only [beq_eq_false_iff_ne]; omega
  have g3 : (nx == 2 * (ws.length : Int) + 3) = true := by subst hn; simp
  have hwn : IntKind.i64.wrap (nx + 1) = nx + 1 := by rw [IntKind.wrap_i64]; omega
  have hw2 : IntKind.i64.wrap ((ws.length : Int) + 2) = (ws.length : Int) + 2 := by rw [IntKind.wrap_i64]; omega
  have hw3 : IntKind.i64.wrap (2 * (ws.length : Int)) = 2 * (ws.length : Int) := by rw [IntKind.wrap_i64]; omega
  have hw4 : IntKind.i64.wrap (2 * (ws.length : Int) + 3) = 2 * (ws.length : Int) + 3 := by rw [IntKind.wrap_i64]; omega
  clear h h4 hS hn
  go_enter Try.func25, Try.ntmps25
  go_wp2_with fail
  go_quiet (fail)
  have HO := hide (show Only [] w (w.drewN nq) from (Only.refl _ _).drewN nq)
  have HI := hide (HH.out.quiet HO.out)
  clear HH c7 c8 c4
  generalize w.drewN nq = w0 at *
  have h := HI.out
  have o2 : Only [gx] w0 (w0.setCell ⟨gx, 8, none⟩ (.int .i64 (nx + 1))) := (Only.refl _ _).setCell (p := ⟨gx, 8, none⟩) _ (by simp)
  have hb2 := h.blk.set_ 8 (.int .i64 (nx + 1))
  have hd2 := h.xd.only o2 (fun q hq hm => h.dx (by simp at hm; exact hm ▸ hq))
  have HFL := hide (fun W (hW : Only [] (w0.setCell ⟨gx, 8, none⟩ (.int .i64 (nx + 1))) W) => (show Calls Try.prog 48 #[.pointer (some ⟨gr, 0, none⟩)] W (fun e w' => (∃ x : Int, e = .returned (.int .i64 x)) ∧ (DidXl w w' gx gr N a sz gen (ws.map pairX) S true (nx + 1) (layAll plat l) [] (k + 1) F) ∧ w'.cell? ⟨gx, 7, none⟩ = some (.bool true)) from by
    refine (xd_flush (hd2.quiet hW) hk).mono ?_
    rintro e w' ⟨q1, G', q2, q3⟩
    have hbW := (show Blk _ gx 62 (xlC gr a sz gen _ vS op true (nx + 1)) from hb2).only hW (by simp)
    have hD := h.done H4.out h.gen_ (o2.trans (hW.mono (by simp))) hbW q2 q3
    rw [HS.out] at hD
    exact ⟨q1, hD.base HO.out, (hbW.only q2.1 h.dx).cell 7⟩))
  have c8 := h.c8
  have f8 := h.fr 8
  have d0 : (w0.setCell ⟨gx, 8, none⟩ (.int .i64 (nx + 1))).cell? ⟨gx, 0, none⟩ = some (.pointer (some ⟨gr, 0, none⟩)) := hb2.cell 0
  clear h hd2 hb2 o2
  go_wp2_with (go_at_call 48; refine (HFL.out _ (by repeat (first | exact Only.refl _ _ | apply Only.drew | apply Only.drewN))).mono ?_; rintro e w3 ⟨⟨x9, rfl⟩, hd, c7'⟩; have HD := hide hd; clear hd)
  go_ret2
  exact ⟨rfl, HD.out⟩
end
end Go.Proofs.Ytokdpldmoflnkaa
