/-
  The document's log: Read.
-/
import Derived.Test.YtokdpldmoflnkaaMg20
namespace Go.Proofs.Ytokdpldmoflnkaa
open Go.ChangeShapes Go.WideShapes Go.ChangeAt Go.RowKit
set_option linter.unusedVariables false
set_option linter.unusedSimpArgs false
section
variable {w w' : World} {gx gr N a sz : Nat} {gen : Int} {vG : Value} {ws : List WR} {vS : Value} {ss : List WR} {op runs : Bool} {nx : Int} {plat : List Int} {l : List (Nat × List Int)} {k k' : Nat} {GD F T : List Nat} {G : PG} {S : Option PG}
theorem pair_mem {ws : List WR} {n : Int} : n ∈ (ws.map pairX).map (·.1) ↔ ∃ x ∈ ws, (x.sec : Int) = n := by
  simp [pairX]
/-- The disk turned, the rest stands. -/
theorem XlI.xdT {plat' : List Int} {l' : List (Nat × List Int)} {GD' : List Nat} (h : XlI w gx gr N a sz gen vG ws vS ss op runs nx plat l k GD) (hT : Turned w w' GD GD') (hD : Xd w' gr N plat' l' k' GD') : XlI w' gx gr N a sz gen vG ws vS ss op runs nx plat' l' k' GD' := by
  have far : ∀ q, q < w.heap.size → q ∉ GD → q ∉ GD' := fun q h1 h2 hm => by
    rcases hT.2 q hm with e | e
    · exact h2 e
    · omega
  refine ⟨h.blk.only hT.1 h.dx, h.grp.only hT.1 (fun q hq => h.dG q (.inl hq)) (fun x hx => h.dG _ (.inr ⟨x, hx, rfl⟩)), fun e => (h.sv e).only hT.1 (fun q hq => h.dS e q (.inl hq)) (fun x hx => h.dS e _ (.inr ⟨x, hx, rfl⟩)), hD, far _ h.blk.lt h.dx, fun q hq => far q (h.lt (.inr (.inl hq))) (h.dG q hq), fun e q hq => far q (h.lt (.inr (.inr (.inl ⟨e, hq⟩)))) (h.dS e q hq), h.gen_, h.rng, h.len, h.lenS⟩
theorem XlI.more (h : XlI w gx gr N a sz gen vG ws vS ss op runs nx plat l k GD) (hk : k ≤ k') : XlI w gx gr N a sz gen vG ws vS ss op runs nx plat l k' GD := ⟨h.blk, h.grp, h.sv, h.xd.more hk, h.dx, h.dG, h.dS, h.gen_, h.rng, h.len, h.lenS⟩
section
variable (h : Xl w gx gr N a sz gen G S runs nx plat l k F)
include h
theorem xl_is (n : Int) : Calls Try.prog 53 #[.pointer (some ⟨gx, 0, none⟩), .int .i64 n] w fun e w' => e = .returned (.bool (blkB N a sz n)) ∧ Only [] w w' := by
  obtain ⟨vG, ws, vS, ss, op, GD, h1, _⟩ := h
  exact xis_is h1 n
theorem xl_read_bad (n : Int) (hn : blkB N a sz n = false) : Calls Try.prog 16 #[.pointer (some ⟨gx, 0, none⟩), .int .i64 n] w fun e w' => e = .returned (.tuple #[.slice none 0 0, .int .i64 1]) ∧ Only [] w w' := by
  have HI := hide (xl_is h n)
  rw [hn] at HI
  clear h
  go_enter Try.func16, Try.ntmps16
  go_wp2_with (go_at_call 53; refine HI.out.mono ?_; rintro e w1 ⟨rfl, ho⟩; have HO := hide ho; clear ho)
  go_ret2
  exact ⟨rfl, HO.out⟩
set_option maxRecDepth 100000 in
set_option maxHeartbeats 1000000 in
theorem xl_read (n : Int) (hn : blkB N a sz n = true) (hnd : (G.map (·.1)).Nodup) (hk : k < 4611686018427000000) : Calls Try.prog 16 #[.pointer (some ⟨gx, 0, none⟩), .int .i64 n] w fun e w' => ∃ vd, e = .returned (.tuple #[vd, .int .i64 0]) ∧ Fresh w' w.heap.size vd (readG G plat l n) ∧ Turned w w' F F ∧ Xl w' gx gr N a sz gen G S runs nx plat l (k + 1) F := by
  have HI := hide (xl_is h n)
  rw [hn] at HI
  have HX := hide h
  obtain ⟨vG, ws, vS, ss, op, GD, h1, rfl, h3, h4, h5⟩ := h
  have hb := blkB_yes.1 hn
  have HFI := hide (fun W (ho : Only [] w W) => xfind_is (h1.quiet ho) n)
  have hbig := h1.big
  obtain ⟨A, cap, rfl, hA, -⟩ := xb_form h1.grp.own
  by_cases hm : ∃ x ∈ ws, (x.sec : Int) = n
  · have HFY := hide (fun W (ho : Only [] w W) => (HFI.out W ho).mono (R' := fun e w' => ∃ (i q : Nat) (x : WR), e = .returned (.int .i64 (i : Int)) ∧ A = some ⟨q, 0, none⟩ ∧ i < ws.length ∧ x ∈ ws ∧ (x.sec : Int) = n ∧ Only [] w w' ∧ (∀ W', Only [] w' W' → W'.cell? ⟨gx, 4, none⟩ = some (.slice A ws.length cap) ∧ W'.cell? ⟨q, i * 2 + 1, none⟩ = some (.slice (some ⟨x.blk, 0, none⟩) 512 (512 + x.rest.length)) ∧ Sees W' (some ⟨x.blk, 0, none⟩) 512 x.data)) (fun e w' ⟨r, e1, e2, e3⟩ => by
      rcases e2 with ⟨_, e2⟩ | ⟨i, x, rfl, hx, hs⟩
      · obtain ⟨x, hx, e⟩ := hm; exact absurd e (e2 x hx)
      · have hil := (List.getElem?_eq_some_iff.1 hx).1
        have q := h1.quiet (ho.trans e3)
        obtain ⟨A', cap', e, hA', hA2⟩ := xb_form q.grp.own
        cases e
        rcases A with _ | b
        · exact absurd (hA' rfl).1 (by omega)
        · obtain ⟨q', rfl, hq, _, _, hc⟩ := hA2 b rfl
          refine ⟨i, q', x, e1, rfl, hil, List.mem_of_getElem? hx, hs, ho.trans e3, fun W' hW => ?_⟩
          have q2 := q.quiet hW
          have hok := q2.grp.ok x (List.mem_of_getElem? hx)
          refine ⟨q2.c4, (hW.cell hq (by simp)).trans (hc i x hx).2, hok.len, fun _ => ⟨x.blk, 0, rfl, hok.row.lt, fun j hj => ?_⟩⟩
          rw [Nat.zero_add, hok.row.cell]
          exact u8l_get _ _ _ (by rw [hok.len]; exact hj)))
    have HRG := hide (fun (x : WR) (hx : x ∈ ws) (e : (x.sec : Int) = n) => (show readG (ws.map pairX) plat l n = x.data from readG_in hnd (List.mem_map.2 ⟨x, hx, by unfold pairX; rw [e]⟩)))
    clear h1 h3 h4 h5 hn hb hbig hm HFI hA hnd
    go_enter Try.func16, Try.ntmps16
    go_wp2_with (go_at_call 53; refine HI.out.mono ?_; rintro e w1 ⟨rfl, ho⟩; have HO := hide ho; clear ho)
    refine (HFY.out _ HO.out).mono ?_
    rintro e w2 ⟨i, q, x, rfl, rfl, hil, hx, hs, ho2, hc⟩
    have hd : decide (0 ≤ (i : Int)) = true := decide_eq_true (by omega)
    have hilI : (i : Int) < ws.length := by omega
    have HC := hide hc
    have HO2 := hide ho2
    have HR := hide (HRG.out x hx hs)
    have hca : ∀ o, (w2.alloc o).cell? ⟨gx, 4, none⟩ = some (.slice (some ⟨q, 0, none⟩) ws.length cap) := fun o => (hc _ ((Only.refl _ _).alloc o)).1
    have hcb : ∀ o, (w2.alloc o).cell? ⟨q, i * 2 + 1, none⟩ = some (.slice (some ⟨x.blk, 0, none⟩) 512 (512 + x.rest.length)) := fun o => (hc _ ((Only.refl _ _).alloc o)).2.1
    clear hc hx hs
    go_wp2_with (at_builtin; refine wpList_append_new rfl _ _ rfl _ w.heap.size w2.heap.size rfl ?qb (by repeat (first | exact Blk.new w2 5 #[] | apply Blk.drew)) (some ⟨x.blk, 0, none⟩) 512 (512 + x.rest.length) rfl (by simp) _ (HC.out _ (by repeat (first | exact Only.refl _ _ | apply Only.drew | apply Only.drewN | apply Only.alloc))).2.2 (by omega) ?_)
    case qb => exact HO2.out.size
    intro v' w3 hf3 ho3
    obtain ⟨d3, c3, r3, rfl, hd3, hb3, hl3⟩ := id hf3
    have HF3 := hide hf3
    have HO3 := hide (show Only [] w w3 from (HO2.out.trans (show Only [] w2 _ from by repeat (first | exact Only.refl _ _ | apply Only.drew | apply Only.drewN | apply Only.alloc))).trans' ho3 (fun q hq hm => by simp at hm; have := HO2.out.size; omega))
    clear hf3 ho3 hd3 hb3 hl3
    go_wp2
    go_ret2
    refine ⟨_, rfl, ?_, Turned.same (HO3.out.mono (by simp)), ?_⟩
    · rw [HR.out]; exact HF3.out
    · obtain ⟨vG2, ws2, vS2, ss2, op2, GD2, g1, g2, g3, g4, g5⟩ := HX.out.quiet HO3.out
      exact ⟨vG2, ws2, vS2, ss2, op2, GD2, g1.more (Nat.le_succ _), g2, g3, g4, g5⟩
  · have HRG := hide (show readG (ws.map pairX) plat l n = sect plat l n.toNat from readG_out (fun hq => hm (pair_mem.1 hq)))
    rw [HRG.out]
    obtain ⟨n', rfl⟩ := Int.eq_ofNat_of_zero_le hb.1
    rw [Int.toNat_natCast]
    have HFN := hide (fun W (ho : Only [] w W) => (HFI.out W ho).mono (R' := fun e w' => e = .returned (.int .i64 (-1)) ∧ Only [] w w') (fun e w' ⟨r, e1, e2, e3⟩ => by
      rcases e2 with ⟨rfl, _⟩ | ⟨i, x, rfl, hx, hs⟩
      · exact ⟨e1, ho.trans e3⟩
      · exact absurd ⟨x, List.mem_of_getElem? hx, hs⟩ hm))
    have HXD := hide (fun W (ho : Only [] w W) => (show W.cell? ⟨gx, 0, none⟩ = some (.pointer (some ⟨gr, 0, none⟩)) ∧ Calls Try.prog 55 #[.pointer (some ⟨gr, 0, none⟩), .int .i64 (n' : Int)] W (fun e w' => ∃ v, e = .returned (.tuple #[v, .int .i64 0]) ∧ Fresh w' w.heap.size v (sect plat l n') ∧ Turned w w' F F ∧ Xl w' gx gr N a sz gen (ws.map pairX) S runs nx plat l (k + 1) F) from by
      have q := h1.quiet ho
      refine ⟨q.c0, (xd_read q.xd n' (by omega) hk).mono fun e w' ⟨v, e1, e2, e3, e4⟩ => ⟨v, e1, e2.mono ho.size, Turned.same ((ho.mono (by simp)).trans (e3.1.mono (fun q _ hq => h4 q (.inr (.inr (.inr hq)))))), _, ws, vS, ss, op, GD, q.xdT e3 e4, rfl, h3, h4, fun z hz => Nat.lt_of_lt_of_le (h5 z hz) (Nat.le_trans ho.size e3.1.size)⟩⟩))
    clear h1 h3 h4 h5 hn hb hbig hm HFI hA hnd
    go_enter Try.func16, Try.ntmps16
    go_wp2_with (first | (go_at_call 53; refine HI.out.mono ?_; rintro e w1 ⟨rfl, ho⟩; have HO := hide ho; clear ho) | (go_at_call 54; refine (HFN.out _ HO.out).mono ?_; rintro e w2 ⟨rfl, ho⟩; have HO2 := hide ho; obtain ⟨c0, hr⟩ := HXD.out _ ho; have HRD := hide hr; clear ho hr) | (go_at_call 55; refine ((HXD.out _ (HO2.out.trans (by repeat (first | exact Only.refl _ _ | apply Only.drew | apply Only.drewN)))).2).mono ?_; rintro e w3 ⟨v3, rfl, hq⟩; have HQ := hide hq; clear hq))
    go_ret2
    exact ⟨_, rfl, HQ.out⟩
end
end
end Go.Proofs.Ytokdpldmoflnkaa
/-
  The document's log: Write.
-/
namespace Go.Proofs.Ytokdpldmoflnkaa
open Go.ChangeShapes Go.WideShapes Go.ChangeAt Go.RowKit
set_option linter.unusedVariables false
set_option linter.unusedSimpArgs false
section
variable {w w' : World} {gx gr N a sz : Nat} {gen : Int} {vG : Value} {ws : List WR} {vS : Value} {ss : List WR} {op runs : Bool} {nx : Int} {plat : List Int} {l : List (Nat × List Int)} {k k' : Nat} {GD F T : List Nat} {G : PG} {S : Option PG}
section
variable (h : Xl w gx gr N a sz gen G S runs nx plat l k F)
include h
theorem xl_write_arg (n : Int) (A : Option Addr) (m c : Nat) (hn : blkB N a sz n = false ∨ m ≠ 512) : Calls Try.prog 14 #[.pointer (some ⟨gx, 0, none⟩), .int .i64 n, .slice A m c] w fun e w' => e = .returned (.int .i64 1) ∧ Only [] w w' := by
  have HI := hide (xl_is h n)
  clear h
  cases hb : blkB N a sz n with
  | false =>
    rw [hb] at HI
    clear hb hn
    go_enter Try.func14, Try.ntmps14
    go_wp2_with (go_at_call 53; refine HI.out.mono ?_; rintro e w1 ⟨rfl, ho⟩; have HO := hide ho; clear ho)
    go_ret
    exact ⟨rfl, HO.out⟩
  | true =>
    rw [hb] at HI
    have hm : m ≠ 512 := by simpa [hb] using hn
    have h5 : ((m : Int) != 512) = true := by simp only [bne_iff_ne]; omega
    clear hb hn hm
    go_enter Try.func14, Try.ntmps14
    go_wp2_with (go_at_call 53; refine HI.out.mono ?_; rintro e w1 ⟨rfl, ho⟩; have HO := hide ho; clear ho)
    go_ret
    exact ⟨rfl, HO.out⟩
theorem xl_write_busy (n : Int) (A : Option Addr) (c : Nat) (hn : blkB N a sz n = true) (hr : runs = true) : Calls Try.prog 14 #[.pointer (some ⟨gx, 0, none⟩), .int .i64 n, .slice A 512 c] w fun e w' => e = .returned (.int .i64 5) ∧ Only [] w w' := by
  have HI := hide (xl_is h n)
  rw [hn] at HI
  subst hr
  have HC := hide (fun W (ho : Only [] w W) => (show W.cell? ⟨gx, 7, none⟩ = some (.bool true) from by
    obtain ⟨vG, ws, vS, ss, op, GD, h1, _⟩ := h.quiet ho
    exact h1.c7))
  clear h
  go_enter Try.func14, Try.ntmps14
  go_wp2_with (go_at_call 53; refine HI.out.mono ?_; rintro e w1 ⟨rfl, ho⟩; have HO := hide ho; have c7 := HC.out _ ho; clear ho)
  go_ret
  exact ⟨rfl, HO.out⟩
set_option maxRecDepth 100000 in
theorem xl_write_full (n : Int) (A : Option Addr) (c : Nat) (hn : blkB N a sz n = true) (hr : runs = false) (hm : n ∉ G.map (·.1)) (hf : G.length + 1 = sz) : Calls Try.prog 14 #[.pointer (some ⟨gx, 0, none⟩), .int .i64 n, .slice A 512 c] w fun e w' => e = .returned (.int .i64 2) ∧ Only [] w w' := by
  have HI := hide (xl_is h n)
  rw [hn] at HI
  subst hr
  obtain ⟨vG, ws, vS, ss, op, GD, h1, rfl, h3, h4, h5⟩ := h
  have HFN := hide (fun W (ho : Only [] w W) => (xfind_is (h1.quiet ho) n).mono (R' := fun e w' => e = .returned (.int .i64 (-1)) ∧ Only [] w w') (fun e w' ⟨r, e1, e2, e3⟩ => by
    rcases e2 with ⟨rfl, _⟩ | ⟨i, x, rfl, hx, hs⟩
    · exact ⟨e1, ho.trans e3⟩
    · exact absurd (pair_mem.2 ⟨x, List.mem_of_getElem? hx, hs⟩) hm))
  obtain ⟨A1, cap, rfl, hA, -⟩ := xb_form h1.grp.own
  have HC := hide (fun W (ho : Only [] w W) => (show W.cell? ⟨gx, 2, none⟩ = some (.int .i64 sz) ∧ W.cell? ⟨gx, 4, none⟩ = some (.slice A1 ws.length cap) ∧ W.cell? ⟨gx, 7, none⟩ = some (.bool false) from ⟨(h1.quiet ho).c2, (h1.quiet ho).c4, (h1.quiet ho).c7⟩))
  have hsz : sz = ws.length + 1 := by simpa using hf.symm
  have hb2 := h1.rng
  have hw : IntKind.i64.wrap (((ws.length + 1 : Nat) : Int) - 1) = (ws.length : Int) := by rw [IntKind.wrap_i64]; omega
  subst hsz
  clear h1 h3 h4 h5 hA hm hn hf
  go_enter Try.func14, Try.ntmps14
  go_wp2_with (first | (go_at_call 53; refine HI.out.mono ?_; rintro e w1 ⟨rfl, ho⟩; have HO := hide ho; obtain ⟨c2, c4, c7⟩ := HC.out _ ho; clear ho) | (go_at_call 54; refine (HFN.out _ HO.out).mono ?_; rintro e w2 ⟨rfl, ho⟩; have HO2 := hide ho; obtain ⟨d2, d4, d7⟩ := HC.out _ ho; clear ho))
  have hw2 : IntKind.i64.wrap ((ws.length : Int) + 1 - 1) = (ws.length : Int) := by rw [IntKind.wrap_i64]; omega
  go_quiet (fail)
  go_wp2
  go_ret
  exact ⟨rfl, by repeat (first | exact HO2.out | apply Only.drew | apply Only.drewN)⟩
set_option maxRecDepth 100000 in
set_option maxHeartbeats 1000000 in
theorem xl_write_new (n : Int) (A : Option Addr) (c : Nat) (zs : List Int) (hn : blkB N a sz n = true) (hr : runs = false) (hm : n ∉ G.map (·.1)) (hf : G.length + 1 < sz) (hs : Sees w A 512 zs) (hu : U8 zs) : Calls Try.prog 14 #[.pointer (some ⟨gx, 0, none⟩), .int .i64 n, .slice A 512 c] w fun e w' => e = .returned (.int .i64 0) ∧ DidXl w w' gx gr N a sz gen (putG G n zs) S false nx plat l k F := by
  obtain ⟨n', rfl⟩ := Int.eq_ofNat_of_zero_le (blkB_yes.1 hn).1
  have HI := hide (xl_is h n')
  rw [hn] at HI
  subst hr
  obtain ⟨vG, ws, vS, ss, op, GD, h1, rfl, h3, h4, h5⟩ := h
  have HFN := hide (fun W (ho : Only [] w W) => (xfind_is (h1.quiet ho) n').mono (R' := fun e w' => e = .returned (.int .i64 (-1)) ∧ Only [] w w') (fun e w' ⟨r, e1, e2, e3⟩ => by
    rcases e2 with ⟨rfl, _⟩ | ⟨i, x, rfl, hx, hs⟩
    · exact ⟨e1, ho.trans e3⟩
    · exact absurd (pair_mem.2 ⟨x, List.mem_of_getElem? hx, hs⟩) hm))
  obtain ⟨A1, cap, rfl, hA, -⟩ := xb_form h1.grp.own
  have HN := hide (show A = none → 512 = 0 ∧ c = 0 from fun e => by obtain ⟨b, o, e2, _⟩ := hs.2 (by omega); rw [e] at e2; cases e2)
  have HC := hide (fun W (ho : Only [] w W) => (show W.cell? ⟨gx, 2, none⟩ = some (.int .i64 sz) ∧ W.cell? ⟨gx, 4, none⟩ = some (.slice A1 ws.length cap) ∧ W.cell? ⟨gx, 7, none⟩ = some (.bool false) ∧ W.frozen? ⟨gx, 4, none⟩ = false from ⟨(h1.quiet ho).c2, (h1.quiet ho).c4, (h1.quiet ho).c7, (h1.quiet ho).fr 4⟩))
  have HA2 := hide hA
  have HA3 := hide (fun W (ho : Only [] w W) (ad : Addr) (e : A1 = some ad) (j : Nat) (u : Value) (hj : (ws.flatMap WR.cells)[j]? = some u) => show W.cell? (ad.add j) = some u from by
    obtain ⟨A', cap', e', _, hA3⟩ := xb_form (h1.quiet ho).grp.own
    cases e'
    obtain ⟨q, rfl, _, _, hc, _⟩ := hA3 ad e
    rw [add_at, Nat.zero_add]
    exact hc j u hj)
  have HSE := hide (fun W (ho : Only [] w W) => hs.only ho (fun _ b hb _ => by simp))
  have hlt : ws.length + 1 < sz := by simpa using hf
  have hb2 := h1.rng
  have hlen : (ws.flatMap WR.cells).length = ws.length * 2 := h1.grp.own.1
  have hw : IntKind.i64.wrap ((sz : Int) - 1) = (sz : Int) - 1 := by rw [IntKind.wrap_i64]; omega
  have hne : ((ws.length : Int) == (sz : Int) - 1) = false := by simp only [beq_eq_false_iff_ne]; omega
  have hne2 : decide ((ws.length : Int) = (sz : Int) - 1) = false := decide_eq_false (by omega)
  have H1 := hide h1
  have H3 := hide h3
  have H4 := hide h4
  have HL := hide hs.1
  have HM := hide hm
  have hl247 : ws.length ≤ 247 := by omega
  clear h1 h3 h4 h5 hA hm hf hs
  go_enter Try.func14, Try.ntmps14
  go_wp2_with (first | (go_at_call 53; refine HI.out.mono ?_; rintro e w1 ⟨rfl, ho⟩; have HO := hide ho; obtain ⟨c2, c4, c7, f4⟩ := HC.out _ ho; clear ho) | (go_at_call 54; refine (HFN.out _ HO.out).mono ?_; rintro e w2 ⟨rfl, ho⟩; have HO2 := hide ho; obtain ⟨d2, d4, d7, g4⟩ := HC.out _ ho; clear ho))
  go_quiet (fail)
  have HO3 := hide (show Only [] w (w2.drewN nq) from HO2.out.drewN _)
  generalize w2.drewN nq = w3 at *
  have hca : ∀ o, (w3.alloc o).cell? ⟨gx, 4, none⟩ = some (.slice A1 ws.length cap) := fun o => (HC.out _ (HO3.out.alloc o)).2.1
  have HB2 := hide (Blk.new w3 91 #[])
  clear hne hne2 hw
  go_wp2_with (at_builtin; refine wpList_append_xb rfl _ _ rfl _ 0 [] rfl (xb_empty HB2.out) A1 ws.length cap rfl HA2.out (ws.flatMap WR.cells) ?qa (cells_one ws) (HA3.out _ (HO3.out.alloc _)) ?qb ?_)
  case qa => exact hlen
  case qb => omega
  intro v4 w4 hown4 ho4 hat4
  have HOW4 := hide hown4
  have HO4 := hide (show Only [] w w4 from (HO3.out.alloc (.cells #[] 91)).trans' ho4 (fun q hq hm => by simp [Value.ownBlock] at hm; have := HO3.out.size; omega))
  have HV4 := hide (show ∀ k, v4.ownBlock = some k → w.heap.size ≤ k from fun k hk => by
    rcases hat4 k hk with e | e
    · simp [Value.ownBlock] at e; have := HO3.out.size; omega
    · have := HO3.out.size; have := (HO3.out.alloc (.cells #[] 91)).size; omega)
  obtain ⟨A4, cap4, rfl⟩ : ∃ A n, v4 = .slice A ws.length n := by
    rcases hown4.2 with ⟨e, e0⟩ | ⟨b, cp, cur, e, _⟩
    · exact ⟨_, _, by rw [e, show ws.length = 0 from by simpa using e0]⟩
    · exact ⟨_, _, e⟩
  clear hown4 ho4 hat4 hca c2 c4 c7 f4 d2 d4 d7 g4
  have HOW4b := hide (show w4.ownsRow 0 91 2 (.slice A4 ws.length cap4) ws.length (ws.flatMap WR.cells) from by simpa using HOW4.out)
  clear HOW4
  go_wp2_with (first | (at_builtin; refine wpList_append_new rfl _ _ rfl _ w4.heap.size w4.heap.size rfl (Nat.le_refl _) (Blk.new w4 5 #[]) A 512 c rfl HN.out zs (HSE.out _ (HO4.out.alloc _)) (by omega) ?_; intro v5 w5 hf5 ho5; obtain ⟨xb, xc, xr, rfl, hxB, hxk, hxl⟩ := hf5; rw [HL.out] at hxl ⊢; have HXB := hide hxB; have HXK := hide hxk; have HXL := hide hxl; have HO5 := hide (show Only [] w4 w5 from ((Only.refl [] w4).alloc (.cells #[] 5)).trans' ho5 (fun q hq hm => by simp at hm; omega)); clear hxB hxk hxl ho5) | (at_builtin; refine wpList_append_xb rfl _ _ rfl (.slice A4 ws.length cap4) ws.length (ws.flatMap WR.cells) rfl (ownsRow_only HOW4b.out ((HO5.out.alloc _).alloc _) (by simp)) (some ⟨w5.heap.size + 1, 0, none⟩) 1 1 rfl (by simp) [.int .i64 n', .slice (some ⟨xb, 0, none⟩) 512 xc] rfl ?qd ?qe ?qf ?_))
  case qd =>
    intro u hu
    simp at hu
    rcases hu with rfl | rfl <;> rfl
  case qe =>
    rintro ad ⟨⟩ j u hj
    rw [add_at, Nat.zero_add]
    have hb := Blk.new (w5.alloc (.cells #[.int .i64 n', .slice (some ⟨xb, 0, none⟩) 512 xc] 91)) 91 #[.int .i64 n', .slice (some ⟨xb, 0, none⟩) 512 xc]
    rw [show (w5.alloc (.cells #[.int .i64 n', .slice (some ⟨xb, 0, none⟩) 512 xc] 91)).heap.size = w5.heap.size + 1 by simp] at hb
    rw [hb.cell]
    simpa using hj
  case qf => omega
  intro v7 w7 hown7 ho7 hat7
  obtain ⟨A7, n7, c7, rfl⟩ : ∃ A n c, v7 = .slice A n c := by
    rcases hown7.2 with ⟨e, _⟩ | ⟨b, cp, cur, e, _⟩
    · exact ⟨_, _, _, e⟩
    · exact ⟨_, _, _, e⟩
  have HOW7 := hide hown7
  have HO7 := hide (show Only [] w w7 from (((HO4.out.trans HO5.out).alloc _).alloc _).trans' ho7 (fun q hq hm => by
    have hm' : (Value.slice A4 ws.length cap4).ownBlock = some q := by simpa using hm
    have := HV4.out q hm'
    omega))
  have HB7 := hide (show Blk w7 xb 5 (u8l zs ++ xr).toArray from ((HXK.out.alloc _).alloc _).only ho7 (fun hm => by
    have hm' : (Value.slice A4 ws.length cap4).ownBlock = some xb := by simpa using hm
    obtain ⟨A', cap', e, _, h2⟩ := xb_form HOW4b.out
    cases e
    rcases A4 with _ | ad
    · simp [Value.ownBlock] at hm'
    · obtain ⟨q', rfl, hl, hv, _⟩ := h2 ad rfl
      rw [hv] at hm'
      injection hm' with hm'
      have := HXB.out
      omega))
  have HV7 := hide (show ∀ k, (Value.slice A7 n7 c7).ownBlock = some k → w.heap.size ≤ k from fun k hk => by
    rcases hat7 k hk with e | e
    · exact HV4.out k e
    · have := ((HO4.out.trans HO5.out).alloc (.cells #[.int .i64 n', .slice (some ⟨xb, 0, none⟩) 512 xc] 91)).size; simp at e this; omega)
  have hc7 := (HC.out _ HO7.out).2.1
  have hf7 := (HC.out _ HO7.out).2.2.2
  have hnN := (blkB_yes.1 hn).2.1
  clear hown7 ho7 hat7
  go_wp2
  go_ret
  have h1 := H1.out.quiet HO7.out
  have hgl := H1.out.blk.lt
  have hGD := H1.out.xd.lt
  have hxb : w.heap.size ≤ xb := Nat.le_trans HO4.out.size HXB.out
  have oset : Only [gx] w7 (w7.setCell ⟨gx, 4, none⟩ (.slice A7 n7 c7)) := (Only.refl _ _).setCell _ (by simp)
  have hsx : ∀ q, footX gx (.slice A1 ws.length cap) ws vS ss op GD q → q ≠ gx → q ∉ [gx] := fun q _ hq => by simpa using hq
  have hI : XlI (w7.setCell ⟨gx, 4, none⟩ (.slice A7 n7 c7)) gx gr N a sz gen (.slice A7 n7 c7) (ws ++ [⟨n', xb, xr, zs⟩]) vS ss op false nx plat l k GD := by
    refine ⟨h1.blk.set_ 4 _, ⟨?_, fun y hy => ?_⟩, fun e => ?_, h1.xd.only oset (fun q hq hm => h1.dx (by simp at hm; exact hm ▸ hq)), h1.dx, fun q hq => ?_, h1.dS, h1.gen_, h1.rng, by simp; omega, h1.lenS⟩
    · rw [List.length_append, List.flatMap_append]
      refine ownsRow_only (by have := HOW7.out; have := HXL.out; subst this; simpa [WR.cells] using HOW7.out) oset (fun k hk => ?_)
      have := HV7.out k hk
      simp
      omega
    · rcases List.mem_append.1 hy with hy | hy
      · exact (h1.grp.ok y hy).only oset (by simpa using (h1.grp.ok y hy).row.ne_ h1.blk (by decide))
      · simp at hy
        subst hy
        exact ⟨HB7.out.only oset (by simp; omega), HL.out, by show n' < N; omega, hu⟩
    · exact (h1.sv e).only oset (fun q hq => by simpa using (h1.sv e).apart h1.blk (by decide) q hq) (fun x hx => by simpa using ((h1.sv e).ok x hx).row.ne_ h1.blk (by decide))
    · rcases hq with e | ⟨x, hx, e⟩
      · intro hm; have := hGD q hm; have := HV7.out q e; omega
      · rcases List.mem_append.1 hx with hx | hx
        · exact h1.dG q (.inr ⟨x, hx, e⟩)
        · simp at hx
          subst hx
          intro hm
          have := hGD q hm
          simp at e
          omega
  have hD := hI.pack (F := F) (w := w) ((HO7.out.mono (by simp)).trans (oset.mono (fun q _ hq => by simp at hq; subst hq; exact H4.out _ (.inl rfl)))) (fun q hq => by
    rcases hq with e | (e | ⟨x, hx, e⟩) | e | e
    · exact .inl (H4.out q (.inl e))
    · exact .inr (HV7.out q e)
    · rcases List.mem_append.1 hx with hx | hx
      · exact .inl (H4.out q (.inr (.inl (.inr ⟨x, hx, e⟩))))
      · simp at hx
        subst hx
        simp at e
        exact .inr (by omega)
    · exact .inl (H4.out q (.inr (.inr (.inl e))))
    · exact .inl (H4.out q (.inr (.inr (.inr e)))))
  rw [show (ws ++ [(⟨n', xb, xr, zs⟩ : WR)]).map pairX = putG (ws.map pairX) n' zs from by unfold putG; rw [if_neg HM.out]; simp [pairX], H3.out] at hD
  exact ⟨rfl, hD⟩
end
end
end Go.Proofs.Ytokdpldmoflnkaa
/-
  The document's log: Write of a block that the group has.
-/
namespace Go.Proofs.Ytokdpldmoflnkaa
open Go.ChangeShapes Go.WideShapes Go.ChangeAt Go.RowKit
set_option linter.unusedVariables false
set_option linter.unusedSimpArgs false
theorem flat_set : ∀ (ws : List WR) (i : Nat) (x : WR), i < ws.length → ((ws.flatMap WR.cells).set (i * 2) (.int .i64 x.sec)).set (i * 2 + 1) (.slice (some ⟨x.blk, 0, none⟩) 512 (512 + x.rest.length)) = (ws.set i x).flatMap WR.cells
  | [], i, x, h => by simp at h
  | y :: ys, 0, x, h => by simp [WR.cells]
  | y :: ys, i + 1, x, h => by
    have e : (i + 1) * 2 = i * 2 + 1 + 1 := by omega
    have := flat_set ys i x (by simpa using h)
    simp only [List.flatMap_cons, List.set_cons_succ, e]
    rw [← this]
    simp [WR.cells]
theorem put_set {ws : List WR} {i : Nat} {x y : WR} {n : Int} {zs : List Int} (hx : ws[i]? = some x) (hs : (x.sec : Int) = n) (hy : pairX y = (n, zs)) (hnd : ((ws.map pairX).map (·.1)).Nodup) : (ws.set i y).map pairX = putG (ws.map pairX) n zs := by
  have hil := (List.getElem?_eq_some_iff.1 hx).1
  have hxe := (List.getElem?_eq_some_iff.1 hx).2
  have hm : n ∈ (ws.map pairX).map (·.1) := pair_mem.2 ⟨x, List.mem_of_getElem? hx, hs⟩
  unfold putG
  rw [if_pos hm]
  refine List.ext_getElem (by simp) fun j h1 h2 => ?_
  have hj : j < ws.length := by simpa using h1
  simp only [List.getElem_map, List.getElem_set]
  by_cases he : i = j
  · subst he
    rw [if_pos rfl, hy, if_pos (by rw [hxe]; exact hs)]
  · rw [if_neg he, if_neg (fun hq => he ?_)]
    have e1 : ((ws.map pairX).map (·.1))[i]'(by simpa using hil) = ((ws.map pairX).map (·.1))[j]'(by simpa using hj) := by
      simp only [List.getElem_map]
      rw [hxe]
      exact hs.trans hq.symm
    exact (List.getElem_inj hnd).1 e1
section
variable {w w' : World} {gx gr N a sz : Nat} {gen : Int} {vG : Value} {ws : List WR} {vS : Value} {ss : List WR} {op runs : Bool} {nx : Int} {plat : List Int} {l : List (Nat × List Int)} {k k' : Nat} {GD F T : List Nat} {G : PG} {S : Option PG}
section
variable (h : Xl w gx gr N a sz gen G S runs nx plat l k F)
include h
set_option maxRecDepth 100000 in
set_option maxHeartbeats 1000000 in
theorem xl_write_old (n : Int) (A : Option Addr) (c : Nat) (zs : List Int) (hn : blkB N a sz n = true) (hr : runs = false) (hm : n ∈ G.map (·.1)) (hnd : (G.map (·.1)).Nodup) (hs : Sees w A 512 zs) (hu : U8 zs) : Calls Try.prog 14 #[.pointer (some ⟨gx, 0, none⟩), .int .i64 n, .slice A 512 c] w fun e w' => e = .returned (.int .i64 0) ∧ DidXl w w' gx gr N a sz gen (putG G n zs) S false nx plat l k F := by
  obtain ⟨n', rfl⟩ := Int.eq_ofNat_of_zero_le (blkB_yes.1 hn).1
  have HI := hide (xl_is h n')
  rw [hn] at HI
  subst hr
  obtain ⟨vG, ws, vS, ss, op, GD, h1, rfl, h3, h4, h5⟩ := h
  have HFN := hide (fun W (ho : Only [] w W) => (xfind_is (h1.quiet ho) n').mono (R' := fun e w' => ∃ (i : Nat) (x : WR), e = .returned (.int .i64 (i : Int)) ∧ ws[i]? = some x ∧ (x.sec : Int) = n' ∧ Only [] w w') (fun e w' ⟨r, e1, e2, e3⟩ => by
    rcases e2 with ⟨rfl, e2⟩ | ⟨i, x, rfl, hx, hs⟩
    · obtain ⟨x, hx, e⟩ := pair_mem.1 hm; exact absurd e (e2 x hx)
    · exact ⟨i, x, e1, hx, hs, ho.trans e3⟩))
  obtain ⟨A1, cap, rfl, hA, -⟩ := xb_form h1.grp.own
  have HN := hide (show A = none → 512 = 0 ∧ c = 0 from fun e => by obtain ⟨b, o, e2, _⟩ := hs.2 (by omega); rw [e] at e2; cases e2)
  have HC := hide (fun W (ho : Only [] w W) => (show W.cell? ⟨gx, 2, none⟩ = some (.int .i64 sz) ∧ W.cell? ⟨gx, 4, none⟩ = some (.slice A1 ws.length cap) ∧ W.cell? ⟨gx, 7, none⟩ = some (.bool false) ∧ W.frozen? ⟨gx, 4, none⟩ = false from ⟨(h1.quiet ho).c2, (h1.quiet ho).c4, (h1.quiet ho).c7, (h1.quiet ho).fr 4⟩))
  have HA2 := hide hA
  have HA3 := hide (fun W (ho : Only [] w W) (ad : Addr) (e : A1 = some ad) (j : Nat) (u : Value) (hj : (ws.flatMap WR.cells)[j]? = some u) => show W.cell? (ad.add j) = some u from by
    obtain ⟨A', cap', e', _, hA3⟩ := xb_form (h1.quiet ho).grp.own
    cases e'
    obtain ⟨q, rfl, _, _, hc, _⟩ := hA3 ad e
    rw [add_at, Nat.zero_add]
    exact hc j u hj)
  have HSE := hide (fun W (ho : Only [] w W) => hs.only ho (fun _ b hb _ => by simp))
  have hlt : ws.length + 1 ≤ sz := h1.len
  have HND := hide hnd
  have hb2 := h1.rng
  have hlen : (ws.flatMap WR.cells).length = ws.length * 2 := h1.grp.own.1
  have hw : IntKind.i64.wrap ((sz : Int) - 1) = (sz : Int) - 1 := by rw [IntKind.wrap_i64]; omega
  have H1 := hide h1
  have H3 := hide h3
  have H4 := hide h4
  have HL := hide hs.1
  have HM := hide hm
  have hl247 : ws.length ≤ 247 := by omega
  clear h1 h3 h4 h5 hA hm hnd hs
  go_enter Try.func14, Try.ntmps14
  go_wp2_with (first | (go_at_call 53; refine HI.out.mono ?_; rintro e w1 ⟨rfl, ho⟩; have HO := hide ho; obtain ⟨c2, c4, c7, f4⟩ := HC.out _ ho; clear ho) | (go_at_call 54; refine (HFN.out _ HO.out).mono ?_; rintro e w2 ⟨i, x, rfl, hx, hxs, ho⟩; have HO2 := hide ho; have HX := hide hx; have HXS := hide hxs; have hil := (List.getElem?_eq_some_iff.1 hx).1; have hneg : decide ((i : Int) < 0) = false := decide_eq_false (by omega); clear hx hxs; obtain ⟨d2, d4, d7, g4⟩ := HC.out _ ho; clear ho))
  have hilI : (i : Int) < ws.length := by omega
  go_quiet (fail)
  have HO3 := hide (show Only [] w (w2.drewN nq) from HO2.out.drewN _)
  generalize w2.drewN nq = w3 at *
  have hca : ∀ o, (w3.alloc o).cell? ⟨gx, 4, none⟩ = some (.slice A1 ws.length cap) := fun o => (HC.out _ (HO3.out.alloc o)).2.1
  have HB2 := hide (Blk.new w3 91 #[])
  clear hw
  go_wp2_with (at_builtin; refine wpList_append_xb rfl _ _ rfl _ 0 [] rfl (xb_empty HB2.out) A1 ws.length cap rfl HA2.out (ws.flatMap WR.cells) ?qa (cells_one ws) (HA3.out _ (HO3.out.alloc _)) ?qb ?_)
  case qa => exact hlen
  case qb => omega
  intro v4 w4 hown4 ho4 hat4
  have HOW4 := hide hown4
  have HO4 := hide (show Only [] w w4 from (HO3.out.alloc (.cells #[] 91)).trans' ho4 (fun q hq hm => by simp [Value.ownBlock] at hm; have := HO3.out.size; omega))
  have HV4 := hide (show ∀ k, v4.ownBlock = some k → w.heap.size ≤ k from fun k hk => by
    rcases hat4 k hk with e | e
    · simp [Value.ownBlock] at e; have := HO3.out.size; omega
    · have := HO3.out.size; have := (HO3.out.alloc (.cells #[] 91)).size; omega)
  obtain ⟨A4, cap4, rfl⟩ : ∃ A n, v4 = .slice A ws.length n := by
    rcases hown4.2 with ⟨e, e0⟩ | ⟨b, cp, cur, e, _⟩
    · exact ⟨_, _, by rw [e, show ws.length = 0 from by simpa using e0]⟩
    · exact ⟨_, _, e⟩
  clear hown4 ho4 hat4 hca c2 c4 c7 f4 d2 d4 d7 g4
  have HOW4b := hide (show w4.ownsRow 0 91 2 (.slice A4 ws.length cap4) ws.length (ws.flatMap WR.cells) from by simpa using HOW4.out)
  clear HOW4
  obtain ⟨q4, rfl, hb4, cur4, hcb4, hsz4, hcap4, hcm4, htk4⟩ : ∃ q4, A4 = some ⟨q4, 0, none⟩ ∧ w.heap.size ≤ q4 ∧ ∃ cur : Array Value, Blk w4 q4 91 cur ∧ cur.size = cap4 * 2 ∧ ws.length ≤ cap4 ∧ cap4 ≤ maxLen ∧ List.take (ws.length * 2) cur.toList = ws.flatMap WR.cells := by
    rcases HOW4b.out.2 with ⟨e, h0⟩ | ⟨b, cp, cur, e, hB, hg, hn', hm', hs', ht⟩
    · omega
    · cases e
      exact ⟨b, rfl, HV4.out b rfl, cur, hg, hs', hn', hm', ht⟩
  have HROW4 := hide (fun W (ho : Only [] w4 W) => (show W.cell? ⟨q4, i * 2, none⟩ = some (.int .i64 x.sec) ∧ W.cell? ⟨q4, i * 2 + 1, none⟩ = some (.slice (some ⟨x.blk, 0, none⟩) 512 (512 + x.rest.length)) ∧ W.frozen? ⟨q4, i * 2, none⟩ = false ∧ W.frozen? ⟨q4, i * 2 + 1, none⟩ = false from by
    have hb := hcb4.only ho (by simp)
    obtain ⟨f1, f2⟩ := flat_cell HX.out
    refine ⟨?_, ?_, hb.frozen _, hb.frozen _⟩
    · rw [hb.cell, ← Array.getElem?_toList, ← f1, ← htk4, List.getElem?_take, if_pos (by omega)]
    · rw [hb.cell, ← Array.getElem?_toList, ← f2, ← htk4, List.getElem?_take, if_pos (by omega)]))
  have HB4 := hide hcb4
  have hgq : gx < q4 := Nat.lt_of_lt_of_le H1.out.blk.lt hb4
  have HST := hide (fun o (v1 v2 : Value) W (ho : Only [] w4 W) => (show (((W.alloc o).setCell ⟨q4, i * 2, none⟩ v1).setCell ⟨q4, i * 2 + 1, none⟩ v2).cell? ⟨gx, 4, none⟩ = some (.slice A1 ws.length cap) ∧ (((W.alloc o).setCell ⟨q4, i * 2, none⟩ v1).setCell ⟨q4, i * 2 + 1, none⟩ v2).frozen? ⟨gx, 4, none⟩ = false from by
    have o2 : Only [q4] (W.alloc o) (((W.alloc o).setCell ⟨q4, i * 2, none⟩ v1).setCell ⟨q4, i * 2 + 1, none⟩ v2) := ((Only.refl _ _).setCell (p := ⟨q4, i * 2, none⟩) _ (by simp)).setCell (p := ⟨q4, i * 2 + 1, none⟩) _ (by simp)
    have h1 := (H1.out.quiet ((HO4.out.trans ho).alloc o)).blk.only o2 (by simp; omega)
    exact ⟨h1.cell 4, h1.frozen 4⟩))
  clear hcb4
  go_wp2_with (at_builtin; refine wpList_append_new rfl _ _ rfl _ w4.heap.size w4.heap.size rfl (Nat.le_refl _) (Blk.new w4 5 #[]) A 512 c rfl HN.out zs (HSE.out _ (HO4.out.alloc _)) (by omega) ?_; intro v5 w5 hf5 ho5; obtain ⟨xb, xc, xr, rfl, hxB, hxk, hxl⟩ := hf5; rw [HL.out] at hxl ⊢; have HXB := hide hxB; have HXK := hide hxk; have HXL := hide hxl; have HO5 := hide (show Only [] w4 w5 from ((Only.refl [] w4).alloc (.cells #[] 5)).trans' ho5 (fun q hq hm => by simp at hm; omega)); have hq1 : ∀ o, (w5.alloc o).cell? ⟨q4, i * 2, none⟩ = some (.int .i64 x.sec) := (fun o => (HROW4.out _ (HO5.out.alloc o)).1); have hq2 : ∀ o, (w5.alloc o).cell? ⟨q4, i * 2 + 1, none⟩ = some (.slice (some ⟨x.blk, 0, none⟩) 512 (512 + x.rest.length)) := (fun o => (HROW4.out _ (HO5.out.alloc o)).2.1); have hq3 : ∀ o, (w5.alloc o).frozen? ⟨q4, i * 2, none⟩ = false := (fun o => (HROW4.out _ (HO5.out.alloc o)).2.2.1); have hq4 : ∀ o, (w5.alloc o).frozen? ⟨q4, i * 2 + 1, none⟩ = false := (fun o => (HROW4.out _ (HO5.out.alloc o)).2.2.2); have hq5 : ∀ o, (w5.alloc o).cell? ⟨gx, 4, none⟩ = some (.slice A1 ws.length cap) := (fun o => (HC.out _ ((HO4.out.trans HO5.out).alloc o)).2.1); have hq6 : ∀ o, (w5.alloc o).frozen? ⟨gx, 4, none⟩ = false := (fun o => (HC.out _ ((HO4.out.trans HO5.out).alloc o)).2.2.2); have hs5 := (fun o v1 v2 => (HST.out o v1 v2 w5 HO5.out).1); have hs6 := (fun o v1 v2 => (HST.out o v1 v2 w5 HO5.out).2); clear hxB hxk hxl ho5)
  go_ret
  have hnN := (blkB_yes.1 hn).2.1
  have hxc : xc = 512 + xr.length := HXL.out.symm
  subst hxc
  have hxb : w.heap.size ≤ xb := Nat.le_trans HO4.out.size HXB.out
  have hgl := H1.out.blk.lt
  have hGD := H1.out.xd.lt
  have hq4l := HB4.out.lt
  have o6 : Only [] w4 (w5.alloc (.cells #[.int .i64 n', .slice (some ⟨xb, 0, none⟩) 512 (512 + xr.length)] 91)) := HO5.out.alloc _
  have hk6 := HXK.out.alloc (.cells #[.int .i64 n', .slice (some ⟨xb, 0, none⟩) 512 (512 + xr.length)] 91)
  generalize w5.alloc (.cells #[.int .i64 n', .slice (some ⟨xb, 0, none⟩) 512 (512 + xr.length)] 91) = W6 at *
  have o7 : Only [q4] W6 ((W6.setCell ⟨q4, i * 2, none⟩ (.int .i64 n')).setCell ⟨q4, i * 2 + 1, none⟩ (.slice (some ⟨xb, 0, none⟩) 512 (512 + xr.length))) := ((Only.refl _ _).setCell (p := ⟨q4, i * 2, none⟩) _ (by simp)).setCell (p := ⟨q4, i * 2 + 1, none⟩) _ (by simp)
  have hb7 := ((HB4.out.only o6 (by simp)).set_ (i * 2) (.int .i64 n')).set_ (i * 2 + 1) (.slice (some ⟨xb, 0, none⟩) 512 (512 + xr.length))
  have hx7 : Blk ((W6.setCell ⟨q4, i * 2, none⟩ (.int .i64 n')).setCell ⟨q4, i * 2 + 1, none⟩ (.slice (some ⟨xb, 0, none⟩) 512 (512 + xr.length))) xb 5 (u8l zs ++ xr).toArray := hk6.only o7 (by have := HXB.out; simp; omega)
  have o8 : Only [] w ((W6.setCell ⟨q4, i * 2, none⟩ (.int .i64 n')).setCell ⟨q4, i * 2 + 1, none⟩ (.slice (some ⟨xb, 0, none⟩) 512 (512 + xr.length))) := (HO4.out.trans o6).trans' o7 (fun q hq hm => by simp at hm; omega)
  generalize (W6.setCell ⟨q4, i * 2, none⟩ (.int .i64 n')).setCell ⟨q4, i * 2 + 1, none⟩ (.slice (some ⟨xb, 0, none⟩) 512 (512 + xr.length)) = w7 at *
  have hown7 : w7.ownsRow 0 91 2 (.slice (some ⟨q4, 0, none⟩) ws.length cap4) (ws.set i ⟨n', xb, xr, zs⟩).length ((ws.set i ⟨n', xb, xr, zs⟩).flatMap WR.cells) := by
    have hfs := flat_set ws i ⟨n', xb, xr, zs⟩ hil
    refine ⟨by rw [← hfs]; simp [hlen], .inr ⟨q4, cap4, _, by simp, Nat.zero_le _, hb7, by simpa using hcap4, hcm4, by simpa using hsz4, ?_⟩⟩
    rw [← hfs, Array.toList_setIfInBounds, Array.toList_setIfInBounds, List.length_set, List.take_set, List.take_set, htk4]
  have h1 := H1.out.quiet o8
  have oset : Only [gx] w7 (w7.setCell ⟨gx, 4, none⟩ (.slice (some ⟨q4, 0, none⟩) ws.length cap4)) := (Only.refl _ _).setCell _ (by simp)
  have hI : XlI (w7.setCell ⟨gx, 4, none⟩ (.slice (some ⟨q4, 0, none⟩) ws.length cap4)) gx gr N a sz gen (.slice (some ⟨q4, 0, none⟩) ws.length cap4) (ws.set i ⟨n', xb, xr, zs⟩) vS ss op false nx plat l k GD := by
    refine ⟨h1.blk.set_ 4 _, ⟨?_, fun y hy => ?_⟩, fun e => ?_, h1.xd.only oset (fun q hq hm => h1.dx (by simp at hm; exact hm ▸ hq)), h1.dx, fun q hq => ?_, h1.dS, h1.gen_, h1.rng, by simp; omega, h1.lenS⟩
    · refine ownsRow_only hown7 oset (fun k hk => ?_)
      simp [Value.ownBlock] at hk
      simp
      omega
    · rcases List.mem_or_eq_of_mem_set hy with hy | hy
      · exact (h1.grp.ok y hy).only oset (by simpa using (h1.grp.ok y hy).row.ne_ h1.blk (by decide))
      · subst hy
        exact ⟨hx7.only oset (by simp; omega), HL.out, by show n' < N; omega, hu⟩
    · exact (h1.sv e).only oset (fun q hq => by simpa using (h1.sv e).apart h1.blk (by decide) q hq) (fun x hx => by simpa using ((h1.sv e).ok x hx).row.ne_ h1.blk (by decide))
    · rcases hq with e | ⟨x, hx, e⟩
      · intro hm; have := hGD q hm; simp [Value.ownBlock] at e; omega
      · rcases List.mem_or_eq_of_mem_set hx with hx | hx
        · exact h1.dG q (.inr ⟨x, hx, e⟩)
        · subst hx
          intro hm
          have := hGD q hm
          simp at e
          omega
  have hD := hI.pack (F := F) (w := w) ((o8.mono (by simp)).trans (oset.mono (fun q _ hq => by simp at hq; subst hq; exact H4.out _ (.inl rfl)))) (fun q hq => by
    rcases hq with e | (e | ⟨x, hx, e⟩) | e | e
    · exact .inl (H4.out q (.inl e))
    · simp [Value.ownBlock] at e
      exact .inr (by omega)
    · rcases List.mem_or_eq_of_mem_set hx with hx | hx
      · exact .inl (H4.out q (.inr (.inl (.inr ⟨x, hx, e⟩))))
      · subst hx
        simp at e
        exact .inr (by omega)
    · exact .inl (H4.out q (.inr (.inr (.inl e))))
    · exact .inl (H4.out q (.inr (.inr (.inr e)))))
  rw [put_set (y := ⟨n', xb, xr, zs⟩) (n := n') (zs := zs) HX.out HXS.out rfl HND.out, H3.out] at hD
  exact ⟨rfl, hD⟩
end
end
end Go.Proofs.Ytokdpldmoflnkaa
