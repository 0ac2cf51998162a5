/-
  The walk of 'WaitNobody'.
-/
import Derived.Test.YtokclkiidhcffaaWqLaw2
namespace Go.Proofs.Ytokclkiidhcffaa
open Go.ChangeShapes Go.WideShapes Go.ChangeAt Go.RowKit Go.Maps
set_option linter.unusedVariables false
theorem op12_box (w : World) (x : OP12) {W : World} (hW : Only [] (w.alloc (.cells x.cells.toArray 34)) W) : W.cell? ⟨w.heap.size, 1, none⟩ = some (.int .i64 x.tid) ∧ W.cell? ⟨w.heap.size, 2, none⟩ = some (.slice x.A x.l.length x.c) ∧
    W.cell? ⟨w.heap.size, 3, none⟩ = some (.int .i64 x.f.kind) ∧ W.cell? ⟨w.heap.size, 4, none⟩ = some (.int .i64 x.f.a) ∧ W.cell? ⟨w.heap.size, 5, none⟩ = some (.int .i64 x.f.b) ∧
    W.cell? ⟨w.heap.size, 6, none⟩ = some (.int .i64 x.g.kind) ∧ W.cell? ⟨w.heap.size, 7, none⟩ = some (.int .i64 x.g.a) ∧ W.cell? ⟨w.heap.size, 8, none⟩ = some (.int .i64 x.g.b) ∧ W.cell? ⟨w.heap.size, 9, none⟩ = some (.int .i64 x.n) := by
  have h := (Blk.new w 34 x.cells.toArray).only hW (by simp)
  exact ⟨h.cell 1, h.cell 2, h.cell 3, h.cell 4, h.cell 5, h.cell 6, h.cell 7, h.cell 8, h.cell 9⟩
/-- The two queues that New did not give, and the slice of them. -/
structure Nb12 (w1 wr : World) : Prop where
  base : Only [] w1 wr
  c : wr.cell? ⟨w1.heap.size, 0, none⟩ = some (.map none)
  lc : w1.heap.size < wr.heap.size
  p0 : wr.cell? ⟨w1.heap.size + 1, 0, none⟩ = some (.pointer none)
  p1 : wr.cell? ⟨w1.heap.size + 1, 1, none⟩ = some (.pointer (some ⟨w1.heap.size, 0, none⟩))
  lp : w1.heap.size + 1 < wr.heap.size
theorem Nb12.quiet {w1 w2 w3 : World} (h : Nb12 w1 w2) (ho : Only [] w2 w3) : Nb12 w1 w3 :=
  ⟨h.base.trans ho, (ho.cell h.lc (by simp)).trans h.c, Nat.lt_of_lt_of_le h.lc ho.size, (ho.cell h.lp (by simp)).trans h.p0, (ho.cell h.lp (by simp)).trans h.p1, Nat.lt_of_lt_of_le h.lp ho.size⟩
theorem Nb12.made (w1 : World) (t t' : TypeId) : Nb12 w1 ((w1.alloc (.cells #[.map none, .map none] t)).alloc (.cells #[.pointer none, .pointer (some ⟨w1.heap.size, 0, none⟩)] t')) := by
  have h1 := (Blk.new w1 t #[.map none, .map none]).alloc (.cells #[.pointer none, .pointer (some ⟨w1.heap.size, 0, none⟩)] t')
  have h2 := Blk.new (w1.alloc (.cells #[.map none, .map none] t)) t' #[.pointer none, .pointer (some ⟨w1.heap.size, 0, none⟩)]
  rw [show (w1.alloc (.cells #[.map none, .map none] t)).heap.size = w1.heap.size + 1 by simp] at h2
  exact ⟨((Only.refl [] w1).alloc _).alloc _, h1.cell 0, h1.lt, h2.cell 0, h2.cell 1, h2.lt⟩
set_option maxHeartbeats 2000000 in
set_option maxRecDepth 100000 in
theorem waitNobody_is (x : OP12) (w : World) : Calls Try.prog 6 #[.agg x.cells.toArray] w fun e w' => e = .returned (.bool true) ∧ Below w.heap.size w w' := by
  have HB0 := hide (fun (W : World) (hW : Only [] (w.alloc (.cells x.cells.toArray 34)) W) => op12_box w x hW)
  have HO0 := hide ((Only.refl [] w).alloc (.cells x.cells.toArray 34))
  unfold OP12.cells at *
  go_enter Try.func6, Try.ntmps6
  go_wp2_with (go_at_call 8; refine (awake12 _).mono ?_; rintro e w1 ⟨rfl, ho⟩; have HC := hide ho; clear ho)
  go_loopw [11] (fun iv wr => ∃ i : Nat, i ≤ 2 ∧ iv = .int .i64 i ∧ Nb12 w1 wr) (fun iv _ => 2 - (intOf iv).toNat)
  case atStart => exact ⟨0, Nat.zero_le _, rfl, Nb12.made _ _ _⟩
  case round =>
    obtain ⟨i, hi, rfl, hN⟩ := hrel
    by_cases hlt : i < 2
    · have hltI : (i : Int) < 2 := by omega
      obtain ⟨q, hq⟩ : ∃ q : Option Addr, (∀ W, Nb12 w1 W → W.cell? ⟨w1.heap.size + 1, i, none⟩ = some (.pointer q)) ∧ ∀ W, Nb12 w1 W → NoWq W q := by
        match i, hlt with
        | 0, _ => exact ⟨none, fun W h => h.p0, fun W h => .inl rfl⟩
        | 1, _ => exact ⟨some ⟨w1.heap.size, 0, none⟩, fun W h => h.p1, fun W h => .inr ⟨_, rfl, h.lc, h.c⟩⟩
      have HQ := hide hq.2
      have c0 := hq.1 wr hN
      obtain ⟨d1, d2, d3, d4, d5, d6, d7, d8, d9⟩ := HB0.out wr (HC.out.trans hN.base)
      have HN := hide hN
      clear hq hN
      go_wp2_with (first | (go_at_call 13; refine (wSleep_no (HQ.out _ HN.out) _ _).mono ?_; rintro e w2 ⟨rfl, ho⟩; have HN := hide (HN.out.quiet ho); obtain ⟨d1, d2, d3, d4, d5, d6, d7, d8, d9⟩ := HB0.out w2 (HC.out.trans HN.out.base); clear ho) | (go_at_call 10; refine (wWake_no (HQ.out _ HN.out) ⟨x.f.kind, x.f.a, x.f.b⟩ _).mono ?_; rintro e w3 ⟨cc, rfl, ho⟩; have HN := hide (HN.out.quiet ho); obtain ⟨d1, d2, d3, d4, d5, d6, d7, d8, d9⟩ := HB0.out w3 (HC.out.trans HN.out.base); clear ho) | (go_at_call 11; refine (wCancel_no (HQ.out _ HN.out) _).mono ?_; rintro e w4 ⟨rfl, ho⟩; have HN := hide (HN.out.quiet ho); obtain ⟨d1, d2, d3, d4, d5, d6, d7, d8, d9⟩ := HB0.out w4 (HC.out.trans HN.out.base); clear ho) | (go_at_call 15; refine (wMove_no (HQ.out _ HN.out) ⟨x.f.kind, x.f.a, x.f.b⟩ ⟨x.g.kind, x.g.a, x.g.b⟩ _).mono ?_; rintro e w5 ⟨rfl, ho⟩; have HN := hide (HN.out.quiet ho); obtain ⟨d1, d2, d3, d4, d5, d6, d7, d8, d9⟩ := HB0.out w5 (HC.out.trans HN.out.base); clear ho) | (go_at_call 19; refine (wOn_no (HQ.out _ HN.out) _).mono ?_; rintro e w6 ⟨rfl, rfl⟩) | (go_at_call 14; refine (wSleepers_no (HQ.out _ HN.out) ⟨x.f.kind, x.f.a, x.f.b⟩).mono ?_; rintro e w7 ⟨rfl, ho⟩; have HN := hide (HN.out.quiet ho); clear ho) | (go_at_call 17; refine (wAll_no (HQ.out _ HN.out)).mono ?_; rintro e w8 ⟨rfl, rfl⟩) | (go_at_call 16; refine (wLen_no (HQ.out _ HN.out)).mono ?_; rintro e w8 ⟨rfl, rfl⟩) | (go_at_call 9; refine (wFork_no (HQ.out _ HN.out)).mono ?_; rintro e w8 ⟨rfl, rfl⟩))
      rw [show (i : Int) + 1 = ((i + 1 : Nat) : Int) by omega]
      refine ⟨⟨i + 1, hlt, rfl, HN.out⟩, ?_⟩
      simp [intOf]
      omega
    · obtain rfl : i = 2 := by omega
      go_wp2
      go_ret
      exact ⟨rfl, ((HO0.out.trans HC.out).trans hN.base).below (Nat.le_refl _) (by simp)⟩
theorem waitNobody_walk {H : Type} {enc : TypeId × Value → H} {d : DataW H} {w : World} {v : Value} {base : Nat} (o : Value.okWide Try.prog w .any base 34 v) (h : Rd enc Try.prog w 34 v.cells.toList d) :
    Calls Try.prog 6 #[v] w fun e w' => e = .returned (.bool true) ∧ Below w.heap.size w w' := by
  obtain ⟨x, _, rfl⟩ := Rd.op12 o h
  exact waitNobody_is x w
end Go.Proofs.Ytokclkiidhcffaa
