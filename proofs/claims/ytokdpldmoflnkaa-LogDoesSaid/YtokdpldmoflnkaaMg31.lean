/-
  LogDoes: a call of any kind.
-/
import Derived.Test.YtokdpldmoflnkaaMg30
namespace Go.Proofs.Ytokdpldmoflnkaa
open Go.ChangeShapes Go.WideShapes Go.ChangeAt Go.RowKit Go.Maps
set_option linter.unusedVariables false
set_option linter.unusedSimpArgs false
section
variable {w0 w w' w1 w2 : World} {gw gd g gr gx N a sz K K' : Nat} {S S' : Option PG} {p p' : LP} {F G F' G' T : List Nat}
set_option maxRecDepth 100000 in
set_option maxHeartbeats 1000000 in
theorem does_looks (h : Bl w0 w gw gd g gr gx N a sz S p K F G) (hlen : p.l.length ≤ 4398046511104) (kd n b m : Int) (hk : kd ≠ 0 ∧ kd ≠ 1 ∧ kd ≠ 2 ∧ kd ≠ 3 ∧ kd ≠ 4 ∧ kd ≠ 5 ∧ kd ≠ 6 ∧ kd ≠ 7 ∧ kd ≠ 9) : Calls Try.prog 5 #[.pointer (some ⟨gw, 0, none⟩), op16V kd n b m] w fun e w' => e = .returned (.bool true) ∧ DidBl w0 w' gw gd N a sz S p K := by
  have HB := hide (fun W (ho : Only [] w W) => (looks16 (h.quiet ho) hlen).mono (R' := fun e w' => e = .returned (.bool true) ∧ DidBl w0 w' gw gd N a sz S p K) (fun e w' ⟨q1, q2⟩ => ⟨q1, g, gr, gx, F, G, h.quiet (ho.trans q2)⟩))
  obtain ⟨k0, k1, k2, k3, k4, k5, k6, k7, k9⟩ := hk
  have e0 : (kd == 0) = false := by simpa using k0
  have e1 : (kd == 1) = false := by simpa using k1
  have e2 : (kd == 2) = false := by simpa using k2
  have e3 : (kd == 3) = false := by simpa using k3
  have e4 : (kd == 4) = false := by simpa using k4
  have e5 : (kd == 5) = false := by simpa using k5
  have e6 : (kd == 6) = false := by simpa using k6
  have e7 : (kd == 7) = false := by simpa using k7
  have e9 : (kd == 9) = false := by simpa using k9
  clear h k0 k1 k2 k3 k4 k5 k6 k7 k9
  unfold op16V
  have hoa : Only [] w (w.alloc (.cells #[.int .i64 kd, .int .i64 n, .int .u8 b, .int .i64 m] 27)) := (Only.refl _ _).alloc _
  go_enter Try.func5, Try.ntmps5
  go_wp2_with (go_at_call 6; refine (HB.out _ (Only.trans hoa (by repeat (first | exact Only.refl _ _ | apply Only.drew | apply Only.drewN)))).mono ?_; rintro e w2 ⟨rfl, hd⟩; have HD := hide hd; clear hd)
  go_ret
  exact ⟨rfl, HD.out⟩
/-- What is so behind i calls. -/
structure Inv16 (i : Nat) (S : Option PG) (p : LP) (K : Nat) : Prop where
  pend : Pend i p
  sav : ∀ G0, S = some G0 → G0.length ≤ p.G.length
  few : K ≤ 2 + 1000 * i
def Next16 (w0 w' : World) (gw gd N a sz i : Nat) : Prop := ∃ S p K, DidBl w0 w' gw gd N a sz S p K ∧ Inv16 i S p K
theorem does_any {i : Nat} (h : Bl w0 w gw gd g gr gx N a sz S p K F G) (hI : Inv16 i S p K) (hi : i ≤ 4398046511104) (kd n b m : Int) (hb : 0 ≤ b ∧ b ≤ 255) : Calls Try.prog 5 #[.pointer (some ⟨gw, 0, none⟩), op16V kd n b m] w fun e w' => e = .returned (.bool true) ∧ Next16 w0 w' gw gd N a sz (i + 1) := by
  have hle := hI.pend.len
  have hK := hI.few
  have hG := h.lg.okp.1
  have hrng := h.lg.rng
  have hsame : Inv16 (i + 1) S p K := ⟨hI.pend.mono (Nat.le_succ i), hI.sav, by omega⟩
  by_cases k0 : kd = 0
  · subst k0
    have hm1 := Int.tmod_lt_of_pos m (show (0 : Int) < 3 by decide)
    have hm2 : -3 < m.tmod 3 := by
      have := Int.tmod_lt_of_pos (-m) (show (0 : Int) < 3 by decide)
      rw [Int.neg_tmod] at this
      omega
    obtain ⟨mm, hmm⟩ := Int.eq_ofNat_of_zero_le (show 0 ≤ 512 + m.tmod 3 by omega)
    refine (does_write h n b m hb mm (by omega)).mono fun e w' ⟨q1, q2⟩ => ⟨q1, S, _, K, q2, ?_⟩
    obtain ⟨r1, r2⟩ := hI.pend.write (N := N) (a := a) (sz := sz) n mm (fill3 mm b)
    exact ⟨r1, fun G0 hS => Nat.le_trans (hI.sav G0 hS) r2, by omega⟩
  by_cases k1 : kd = 1
  · subst k1
    exact (does_read h (by omega) n b m).mono fun e w' ⟨q1, q2⟩ => ⟨q1, S, p, K + 1, q2, hsame.pend, hsame.sav, by omega⟩
  by_cases k2 : kd = 2
  · subst k2
    by_cases hn : S ≠ none ∨ p.st ≠ 0
    · exact (does_begin_busy h hn n b m).mono fun e w' ⟨q1, q2⟩ => ⟨q1, S, p, K, q2, hsame⟩
    · have hS : S = none := by cases S with | none => rfl | some s => exact absurd (.inl (by simp)) hn
      have h0 : p.st = 0 := by by_cases e : p.st = 0; exact e; exact absurd (.inr e) hn
      exact (does_begin_ok h hS h0 n b m).mono fun e w' ⟨q1, q2⟩ => ⟨q1, some p.G, p, K, q2, hsame.pend, (fun G0 e => by injection e with e; subst e; exact Nat.le_refl _), hsame.few⟩
  by_cases k3 : kd = 3
  · subst k3
    cases hS : S with
    | none => exact (does_end_none h hS n b m).mono fun e w' ⟨q1, q2⟩ => ⟨q1, S, p, K, q2, hsame⟩
    | some G0 => exact (does_end h hS n b m).mono fun e w' ⟨q1, q2⟩ => ⟨q1, none, p, K, q2, hsame.pend, (fun G0 e => by cases e), hsame.few⟩
  by_cases k4 : kd = 4
  · subst k4
    cases hS : S with
    | none => exact (does_abort_none h hS n b m).mono fun e w' ⟨q1, q2⟩ => ⟨q1, S, p, K, q2, hsame⟩
    | some G0 => exact (does_abort h hS n b m).mono fun e w' ⟨q1, q2⟩ => ⟨q1, none, _, K, q2, hsame.pend.abort (h.sav (by rw [hS]; simp)) (hI.sav G0 hS), (fun G0 e => by cases e), hsame.few⟩
  by_cases k5 : kd = 5
  · subst k5
    obtain ⟨s1, s2, s3, s4, s5, s6⟩ := startP_same S p
    exact (does_start h n b m).mono fun e w' ⟨q1, q2⟩ => ⟨q1, S, _, K, q2, hsame.pend.start, (fun G0 e => by rw [s2]; exact hI.sav G0 e), hsame.few⟩
  by_cases k6 : kd = 6
  · subst k6
    by_cases h0 : p.st = 0
    · exact (does_step_none h h0 n b m).mono fun e w' ⟨q1, q2⟩ => ⟨q1, S, p, K, q2, hsame⟩
    · have hr : RunsP p := by rcases h.run with e | e; exact absurd e.1 h0; exact e
      have hS : S = none := by cases hs : S with | none => rfl | some s => exact absurd (h.sav (by rw [hs]; simp)) h0
      exact (does_step h hr (by omega) (by omega) n b m).mono fun e w' ⟨q1, q2⟩ => ⟨q1, S, _, K + 1, q2, hI.pend.step hr (by omega), (fun G0 e => by rw [hS] at e; cases e), by omega⟩
  by_cases k7 : kd = 7
  · subst k7
    cases hS : S with
    | none =>
      have hl := left_le (start_runs (S := none) h.run)
      obtain ⟨s1, s2, s3, s4, s5, s6⟩ := startP_same none p
      rw [s2] at hl
      exact (does_commit h hS (by omega) (by omega) n b m).mono fun e w' ⟨q1, q2⟩ => ⟨q1, none, _, _, q2, hI.pend.commit h.run, (fun G0 e => by cases e), by omega⟩
    | some G0 => exact (does_commit_busy h hS n b m).mono fun e w' ⟨q1, q2⟩ => ⟨q1, S, p, K, q2, hsame⟩
  by_cases k9 : kd = 9
  · subst k9
    obtain ⟨gen, ns, hs, hg, hl, hnd, hok⟩ := h.hdr
    have hl2 := left_le (open_runs a gen ns p.plat p.l)
    rw [show (openP a gen ns p.plat p.l).G.length = ns.length from openG_length ..] at hl2
    exact (does_open h hs hg.1 hg.2 hl hnd hok (by omega) (by omega) n b m).mono fun e w' ⟨q1, q2⟩ => ⟨q1, none, _, _, q2, hI.pend.opened, (fun G0 e => by cases e), by omega⟩
  exact (does_looks h (by omega) kd n b m ⟨k0, k1, k2, k3, k4, k5, k6, k7, k9⟩).mono fun e w' ⟨q1, q2⟩ => ⟨q1, S, p, K, q2, hsame⟩
end
end Go.Proofs.Ytokdpldmoflnkaa
/-
  The log: what the arguments of its statements read as.
-/
namespace Go.Proofs.Ytokdpldmoflnkaa
open Go.ChangeShapes Go.WideShapes Go.ChangeAt Go.RowKit
set_option linter.unusedVariables false
theorem cells_op16 : Try.prog.cellsOf 27 = 4 := by kernel_rfl
theorem bytes_op16 : Try.prog.bytesOf 27 = 32 := by kernel_rfl
/-- Call i of the list. -/
def OpAt16 (w : World) (A : Option Addr) (i : Nat) : Prop :=
  ∃ (q o : Nat) (kd n b m : Int), A = some ⟨q, o, none⟩ ∧ q < w.heap.size ∧
    w.cell? ⟨q, o + i * 4, none⟩ = some (.int .i64 kd) ∧ w.cell? ⟨q, o + i * 4 + 1, none⟩ = some (.int .i64 n) ∧ w.cell? ⟨q, o + i * 4 + 2, none⟩ = some (.int .u8 b) ∧ w.cell? ⟨q, o + i * 4 + 3, none⟩ = some (.int .i64 m) ∧
    (0 ≤ b ∧ b ≤ 255) ∧ (-9223372036854775808 ≤ n ∧ n ≤ 9223372036854775807) ∧ (-9223372036854775808 ≤ m ∧ m ≤ 9223372036854775807)
theorem Rd.ops16 {H : Type} {enc : TypeId × Value → H} {w : World} {A : Option Addr} {n c : Nat} {d : DataW H} (h : Rd enc Try.prog w 22 [.slice A n c] d) : n ≤ 4398046511104 ∧ ∀ i, i < n → OpAt16 w A i := by
  obtain ⟨A', n', c', hv, hl, hm, hre, _, hf⟩ := h.structs Try.underlying22 Try.underlying27
  injection hv with hv _
  injection hv with e1 e2 e3
  subst e1 e2 e3
  rw [bytes_op16] at hre
  refine ⟨by unfold reachBytes at hre; omega, fun i hi => ?_⟩
  rw [cells_op16] at hf
  obtain ⟨q, o, v0, y0, hA, hq, c0, r0⟩ := hf i hi 0 _ rfl (by kernel_rfl) (by decide)
  obtain ⟨q1, o1, v1, y1, hA1, _, c1, r1⟩ := hf i hi 1 _ rfl (by kernel_rfl) (by decide)
  obtain ⟨q2, o2, v2, y2, hA2, _, c2, r2⟩ := hf i hi 2 _ rfl (by kernel_rfl) (by decide)
  obtain ⟨q3, o3, v3, y3, hA3, _, c3, r3⟩ := hf i hi 3 _ rfl (by kernel_rfl) (by decide)
  obtain ⟨x0, h0, _⟩ := r0.int (k := .i64) Try.underlying3
  obtain ⟨x1, h1, w1⟩ := r1.int (k := .i64) Try.underlying3
  obtain ⟨x2, h2, w2⟩ := r2.int (k := .u8) Try.underlying5
  obtain ⟨x3, h3, w3⟩ := r3.int (k := .i64) Try.underlying3
  injection h0 with h0 _
  injection h1 with h1 _
  injection h2 with h2 _
  injection h3 with h3 _
  subst h0 h1 h2 h3
  have a1 : q1 = q ∧ o1 = o := by rw [hA] at hA1; injection hA1 with h; injection h with h1 h2; exact ⟨h1.symm, h2.symm⟩
  have a2 : q2 = q ∧ o2 = o := by rw [hA] at hA2; injection hA2 with h; injection h with h1 h2; exact ⟨h1.symm, h2.symm⟩
  have a3 : q3 = q ∧ o3 = o := by rw [hA] at hA3; injection hA3 with h; injection h with h1 h2; exact ⟨h1.symm, h2.symm⟩
  obtain ⟨rfl, rfl⟩ := a1
  obtain ⟨rfl, rfl⟩ := a2
  obtain ⟨rfl, rfl⟩ := a3
  have b2 : 0 ≤ x2 ∧ x2 ≤ 255 := by simpa [Lit.wf, IntKind.min, IntKind.max, IntKind.signed, IntKind.bits] using w2
  have b1 : -9223372036854775808 ≤ x1 ∧ x1 ≤ 9223372036854775807 := by simpa [Lit.wf, IntKind.min, IntKind.max, IntKind.signed, IntKind.bits] using w1
  have b3 : -9223372036854775808 ≤ x3 ∧ x3 ≤ 9223372036854775807 := by simpa [Lit.wf, IntKind.min, IntKind.max, IntKind.signed, IntKind.bits] using w3
  exact ⟨_, _, x0, x1, x2, x3, hA, hq, c0, c1, c2, c3, b2, b1, b3⟩
end Go.Proofs.Ytokdpldmoflnkaa
/-
  LogDoes: the whole.
-/
namespace Go.Proofs.Ytokdpldmoflnkaa
open Go.ChangeShapes Go.WideShapes Go.ChangeAt Go.RowKit Go.Maps
set_option linter.unusedVariables false
set_option linter.unusedSimpArgs false
/-- Both that start made. -/
theorem Both0.bl {w w' : World} {gw gd g gr gx N a sz : Nat} {F G : List Nat} (h : Both0 w w' gw gd g gr gx N a sz F G) : DidBl w w' gw gd N a sz none ⟨0, [], 0, 0, fmtF N a, []⟩ 2 := by
  have hr := h.lg.rng
  have hI : XlI w' gx gr N a sz 0 (.slice none 0 0) [] (.slice none 0 0) [] false false 0 (fmtF N a) [] 2 G :=
    ⟨h.xl, XRw.nil _ _, (by simp), h.xd, h.gxF.2, (by intro q hq; rcases hq with e | ⟨x, hx, _⟩ <;> simp [Value.ownBlock] at *), (by simp), by omega, ⟨hr.1, hr.2.1, hr.2.2.1⟩, by simp; omega, by simp⟩
  have hP := hI.pack (w := w') (F := gx :: G) (Only.refl _ _) (fun q hq => by
    unfold footX at hq
    simp [Value.ownBlock] at hq
    left
    rcases hq with e | e
    · rw [e]; simp
    · simp [e])
  obtain ⟨G', t, x⟩ := DidXl.lp (p := ⟨0, [], 0, 0, fmtF N a, []⟩) rfl hP
  have hG : ∀ q ∈ G', q = gx ∨ q ∈ G := fun q hq => by
    rcases t.2 q hq with e | e
    · simpa using e
    · have := x.lt q hq; omega
  refine ⟨g, gr, gx, F, G', h.lg, x, h.wd, h.newF, fun q hq => ?_, h.neww, fun q hq hm => ?_, ⟨h.gwF.1, fun hm => ?_⟩, h.only, .inl ⟨rfl, rfl⟩, fun e => absurd rfl e, ?_⟩
  · rcases hG q hq with e | e
    · rw [e]; exact h.newx
    · exact h.newG q e
  · rcases hG q hm with e | e
    · rw [e] at hq; exact h.gxF.1 hq
    · exact h.apart q hq e
  · rcases hG gw hm with e | e
    · have h1 := h.wd
      rw [e] at h1
      have h2 := h1.cell 8
      rw [h.xl.cell] at h2
      simp [xlC] at h2
    · exact h.gwF.2 e
  · exact hdr_fmt (N := N) (a := a) (sz := sz) (plat := List.replicate (512 * N) 0) (l := []) ⟨by simp, by simp⟩ (by omega) (by omega)
set_option maxRecDepth 100000 in
set_option maxHeartbeats 3000000 in
theorem logDoes_walk (count a sz : Int) (A : Option Addr) (n c : Nat) (w : World) (hn : n ≤ 4398046511104) (hops : ∀ i, i < n → OpAt16 w A i) :
    Calls Try.prog 3 #[.int .i64 count, .int .i64 a, .int .i64 sz, .slice A n c] w fun e w' => e = .returned (.bool true) ∧ Below w.heap.size w w' := by
  have HOP := hide hops
  clear hops
  go_enter Try.func3, Try.ntmps3
  go_wp2_with fail
  refine (start_is count a sz w).mono ?_
  rintro e w1 hst
  unfold Started at hst
  by_cases hc : 1 ≤ count ∧ count ≤ 4096 ∧ mayL count.toNat a sz = true
  · rw [if_pos hc] at hst
    obtain ⟨gw, gd, g, gr, gx, F, G, rfl, hB⟩ := hst
    have HP0 := hide (show Next16 w w1 gw gd count.toNat a.toNat sz.toNat 0 from ⟨_, _, _, hB.bl, ⟨by simp [potP], fun e => by simp at e⟩, (fun G0 e => by cases e), Nat.le_refl _⟩)
    clear hB hc
    generalize count.toNat = N at *
    generalize a.toNat = a0 at *
    generalize sz.toNat = sz0 at *
    go_wp2_with fail
    have hnb : (n : Int) ≤ 4398046511104 := by omega
    go_loopw [29, 12] (fun iv _ wr => ∃ i : Nat, i ≤ n ∧ iv = .int .i64 i ∧ Next16 w wr gw gd N a0 sz0 i) (fun iv _ _ => n - (intOf iv).toNat)
    case atStart => exact ⟨0, Nat.zero_le _, rfl, HP0.out⟩
    case round =>
      clear HP0
      obtain ⟨i, hi, rfl, S, p, K, ⟨g, gr, gx, F, G, hU⟩, hI⟩ := hrel
      by_cases hlt : i < n
      · have hltI : (i : Int) < n := by omega
        obtain ⟨q, o, kd, x, b, mo, rfl, hq, k0, k1, k2, k3, hb, hx, hm⟩ := HOP.out i hlt
        have ho := hU.only
        have c0 := (ho.cell hq (by simp)).trans k0
        have c1 := (ho.cell hq (by simp)).trans k1
        have c2 := (ho.cell hq (by simp)).trans k2
        have c3 := (ho.cell hq (by simp)).trans k3
        have HDO := hide (fun (W : World) (ho : Only [] wr W) => does_any (hU.quiet ho) hI (by omega) kd x b mo hb)
        unfold op16V at HDO
        clear hU hI ho k0 k1 k2 k3 hq hb hx hm
        go_wp2_with (go_at_call 5; refine (HDO.out _ (by repeat (first | exact Only.refl _ _ | apply Only.drew | apply Only.drewN | apply Only.alloc))).mono ?_; rintro e w2 ⟨rfl, hd⟩; have HD := hide hd; clear hd)
        go_roundw
        case rel => exact ⟨i + 1, hlt, by go_num, HD.out⟩
        case measure => simp [intOf]; omega
      · obtain rfl : i = n := by omega
        have HLK := hide (looks16 hU (by have := hI.pend.len; omega))
        have HO := hide hU.only
        clear hU hI
        go_wp2_with (go_at_call 6; refine HLK.out.mono ?_; rintro e w2 ⟨rfl, ho⟩; have HO2 := hide ho; clear ho)
        go_ret
        exact ⟨rfl, (HO.out.trans HO2.out).below (Nat.le_refl _) (by simp)⟩
  · rw [if_neg hc] at hst
    obtain ⟨rfl, ho⟩ := hst
    have HO := hide ho
    clear ho hc
    go_wp2
    go_ret
    exact ⟨rfl, HO.out.below (Nat.le_refl _) (by simp)⟩
end Go.Proofs.Ytokdpldmoflnkaa
