/-
  The pair of both disks in one world, and the law's does: Stop, Flush, a look, another kind.
-/
import Derived.Test.YtpkoihbebhmicaaRPair
namespace Go.Proofs.Ytpkoihbebhmicaa
open Go.ChangeShapes Go.WideShapes Go.ChangeAt Go.RowKit
set_option linter.unusedVariables false

/-- What is left, as the program has it and as the document has it. -/
def LeftR (left left' : Int) (stops : Bool) : Prop :=
  (stops = true ∧ left' = left ∧ 0 ≤ left ∧ left ≤ 9223372036854775807) ∨ (stops = false ∧ left = -1 ∧ left' ≤ 9223372036854775807)
theorem LeftR.off {left left' : Int} {stops : Bool} (h : LeftR left left' stops) : (stops && decide (left' = 0)) = decide (left = 0) := by
  rcases h with ⟨rfl, rfl, _⟩ | ⟨rfl, rfl, _⟩ <;> simp
theorem LeftR.max {left left' : Int} {stops : Bool} (h : LeftR left left' stops) : left ≤ 9223372036854775807 ∧ left' ≤ 9223372036854775807 := by
  rcases h with ⟨rfl, rfl, _⟩ | ⟨rfl, rfl, _⟩ <;> constructor <;> omega
theorem LeftR.pos {left left' : Int} {stops : Bool} (h : LeftR left left' stops) (h0 : left ≠ 0) : (stops = true → 0 < left') ∧ LeftR (lessv left) (if stops then left' - 1 else left') stops := by
  rcases h with ⟨rfl, rfl, h1, h2⟩ | ⟨rfl, rfl, h2⟩
  · have e : lessv left' = left' - 1 := by unfold lessv; rw [if_pos (by omega)]
    exact ⟨fun _ => by omega, .inl ⟨rfl, by rw [e]; simp, by rw [e]; omega, by rw [e]; omega⟩⟩
  · exact ⟨by simp, .inr ⟨rfl, by simp [lessv], by simpa using h2⟩⟩
theorem LeftR.zero {left left' : Int} {stops : Bool} (h : LeftR left left' stops) (h0 : left = 0) : stops = true ∧ left' = 0 := by
  rcases h with ⟨rfl, rfl, h1, h2⟩ | ⟨rfl, rfl, h2⟩
  · exact ⟨rfl, h0⟩
  · omega
theorem LeftR.stop (n : Int) (h : n ≤ 9223372036854775807) : LeftR (stopv n) n (decide (0 ≤ n)) := by
  unfold stopv
  by_cases h0 : n < 0
  · exact .inr ⟨by simp; omega, by rw [if_pos h0], h⟩
  · exact .inl ⟨by simp; omega, by rw [if_neg h0], by rw [if_neg h0]; omega, by rw [if_neg h0]; exact h⟩

/-- Both disks in one world: they say the same; their blocks are apart, and younger than w0. -/
def Pr (w0 w : World) (g gr N k : Nat) : Prop :=
  ∃ plat l left left' stops rd wt fl F G, Dk w g N plat l left rd wt fl k F ∧ Rk w gr N plat l left' stops rd wt fl G ∧ LeftR left left' stops ∧ (∀ q ∈ F, q ∉ G) ∧ (∀ q ∈ F, w0.heap.size ≤ q) ∧ (∀ q ∈ G, w0.heap.size ≤ q) ∧ Only [] w0 w

theorem Pr.quiet {w0 w w' : World} {g gr N k : Nat} (h : Pr w0 w g gr N k) (ho : Only [] w w') : Pr w0 w' g gr N k := by
  obtain ⟨plat, l, left, left', stops, rd, wt, fl, F, G, hd, hr, hl, hFG, hF, hG, h0⟩ := h
  exact ⟨plat, l, left, left', stops, rd, wt, fl, F, G, hd.quiet ho, hr.quiet ho, hl, hFG, hF, hG, h0.trans ho⟩
theorem Pr.more {w0 w : World} {g gr N k k' : Nat} (h : Pr w0 w g gr N k) (hk : k ≤ k') : Pr w0 w g gr N k' := by
  obtain ⟨plat, l, left, left', stops, rd, wt, fl, F, G, hd, hr, hl, hFG, hF, hG, h0⟩ := h
  exact ⟨plat, l, left, left', stops, rd, wt, fl, F, G, hd.more hk, hr, hl, hFG, hF, hG, h0⟩

/-- What does is told. -/
abbrev opV (k m b x : Int) (K : Option Addr) (kn kc : Nat) : Value := .agg #[.int .i64 k, .int .i64 m, .int .u8 b, .int .i64 x, .slice K kn kc]
abbrev opC (k m b x : Int) (K : Option Addr) (kn kc : Nat) : Array Value := #[.int .i64 k, .int .i64 m, .int .u8 b, .int .i64 x, .slice K kn kc]

/-- A call of the program's disk and the same call of the document's, in a world where other blocks are younger. -/
theorem pr_turn {w0 w w1 w2 : World} {F F' G G' : List Nat} (t1 : Turned w w1 F F') (t2 : Turned w1 w2 G G') (hF : ∀ q ∈ F, q < w.heap.size) (hG : ∀ q ∈ G, q < w.heap.size) (hF' : ∀ q ∈ F', q < w1.heap.size) (hFG : ∀ q ∈ F, q ∉ G) (h0F : ∀ q ∈ F, w0.heap.size ≤ q) (h0G : ∀ q ∈ G, w0.heap.size ≤ q) (h0 : Only [] w0 w) :
    (∀ q ∈ G, q ∉ F) ∧ (∀ q ∈ F', q ∉ G) ∧ (∀ q ∈ F', q ∉ G') ∧ (∀ q ∈ F', w0.heap.size ≤ q) ∧ (∀ q ∈ G', w0.heap.size ≤ q) ∧ Only [] w0 w2 := by
  have hs := h0.size
  have hs1 := t1.1.size
  have a1 : ∀ q ∈ G, q ∉ F := fun q hq hf => hFG q hf hq
  have a2 : ∀ q ∈ F', q ∉ G := fun q hq hg => by
    rcases t1.2 q hq with h | h
    · exact hFG q h hg
    · have := hG q hg; omega
  refine ⟨a1, a2, fun q hq hg => ?_, fun q hq => ?_, fun q hq => ?_, ?_⟩
  · rcases t2.2 q hg with h | h
    · exact a2 q hq h
    · have := hF' q hq; omega
  · rcases t1.2 q hq with h | h
    · exact h0F q h
    · omega
  · rcases t2.2 q hq with h | h
    · exact h0G q h
    · omega
  · exact (h0.trans' t1.1 (fun q hq hf => by have := h0F q hf; omega)).trans' t2.1 (fun q hq hf => by have := h0G q hf; omega)

section
variable {w0 w : World} {g gr N k : Nat} (h : Pr w0 w g gr N k)
include h

set_option maxRecDepth 100000 in
theorem does_stop (m b x : Int) (K : Option Addr) (kn kc : Nat) (h1 : -9223372036854775808 ≤ m) (h2 : m ≤ 9223372036854775807) :
    Calls Try.prog 13 #[.pointer (some ⟨g, 0, none⟩), .pointer (some ⟨gr, 0, none⟩), opV 4 m b x K kn kc] w fun e w' => e = .returned (.bool true) ∧ Pr w0 w' g gr N (k + 1) := by
  obtain ⟨plat, l, left, left', stops, rd, wt, fl, F, G, hd, hr, hl, hFG, hF, hG, h0⟩ := h
  have HP := hide (And.intro hFG (And.intro hF (And.intro hG (h0.alloc (.cells (opC 4 m b x K kn kc) 33)))))
  have HD := hide (hd.quiet ((Only.refl [] w).alloc (.cells (opC 4 m b x K kn kc) 33)))
  have HR := hide (hr.quiet ((Only.refl [] w).alloc (.cells (opC 4 m b x K kn kc) 33)))
  have HBF := hide (And.intro (fun q hq => hd.lt q hq) (fun q hq => hr.lt q hq))
  have HB := hide (Blk.new w 33 (opC 4 m b x K kn kc))
  have HL := hide hl
  have HM := hide (And.intro h1 h2)
  clear hd hr hl hFG hF hG h0 h1 h2
  go_enter Try.func13, Try.ntmps13
  go_wp2_with (go_at_call 9; refine (dk_stop HD.out m HM.out.1).mono ?_; rintro e w1 ⟨rfl, t1, hd1⟩; have HD1 := hide hd1; have HT1 := hide t1; have hb1 := HB.out.only t1.1 (fun hm => by have := HBF.out.1 _ hm; omega); have c1 : w1.cell? ⟨w.heap.size, 1, none⟩ = some (.int .i64 m) := (hb1.cell 1).trans rfl; clear t1 hd1 hb1)
  refine (rk_stop (HR.out.only HT1.out.1 (fun q hq hf => HP.out.1 q hf hq)) m).mono ?_
  rintro e w2 ⟨rfl, t2, hr2⟩
  have HR2 := hide hr2
  have HT2 := hide t2
  clear t2 hr2
  go_wp2
  go_ret
  obtain ⟨a1, a2, a3, a4, a5, a6⟩ := pr_turn HT1.out HT2.out HD.out.lt HR.out.lt HD1.out.lt HP.out.1 HP.out.2.1 HP.out.2.2.1 HP.out.2.2.2
  exact ⟨rfl, plat, l, _, _, _, rd, wt, fl, F, G, (HD1.out.only HT2.out.1 a2).more (Nat.le_succ k), HR2.out, LeftR.stop m HM.out.2, a3, a4, a5, a6⟩

set_option maxRecDepth 100000 in
theorem does_flush (m b x : Int) (K : Option Addr) (kn kc : Nat) (hk : k < 4398046511000) :
    Calls Try.prog 13 #[.pointer (some ⟨g, 0, none⟩), .pointer (some ⟨gr, 0, none⟩), opV 2 m b x K kn kc] w fun e w' => e = .returned (.bool true) ∧ Pr w0 w' g gr N (k + 1) := by
  obtain ⟨plat, l, left, left', stops, rd, wt, fl, F, G, hd, hr, hl, hFG, hF, hG, h0⟩ := h
  have HP := hide (And.intro hFG (And.intro hF (And.intro hG (h0.alloc (.cells (opC 2 m b x K kn kc) 33)))))
  have HD := hide (hd.quiet ((Only.refl [] w).alloc (.cells (opC 2 m b x K kn kc) 33)))
  have HR := hide (hr.quiet ((Only.refl [] w).alloc (.cells (opC 2 m b x K kn kc) 33)))
  have HBF := hide (And.intro (fun q hq => hd.lt q hq) (fun q hq => hr.lt q hq))
  have HB := hide (Blk.new w 33 (opC 2 m b x K kn kc))
  have HL := hide hl
  have hc := hd.counts
  by_cases hl0 : left = 0
  · obtain ⟨hs0, hl1⟩ := hl.zero hl0
    have HZ := hide (And.intro hl0 (And.intro hs0 hl1))
    clear hd hr hl hFG hF hG h0 hl0 hs0 hl1
    go_enter Try.func13, Try.ntmps13
    go_wp2_with (first | (go_at_call 12; refine (dk_flush_off HD.out HZ.out.1).mono ?_; rintro e w1 ⟨rfl, rfl⟩) | (go_at_call 30; refine (rk_flush_off HR.out HZ.out.2.1 HZ.out.2.2).mono ?_; rintro e w2 ⟨rfl, o2⟩; have HO2 := hide o2; clear o2))
    go_ret
    exact ⟨rfl, plat, l, _, _, _, rd, wt, fl, F, G, (HD.out.quiet HO2.out).more (Nat.le_succ k), HR.out.quiet HO2.out, HL.out, HP.out.1, HP.out.2.1, HP.out.2.2.1, HP.out.2.2.2.trans HO2.out⟩
  · have HZ := hide (And.intro hl0 (And.intro hl.max (hl.pos hl0)))
    have HC := hide (And.intro (show k < 4611686018427387904 by omega) (And.intro hc.2.2.1 (show fl < 9223372036854775807 by omega)))
    clear hd hr hl hFG hF hG h0 hl0 hc
    go_enter Try.func13, Try.ntmps13
    go_wp2_with fail
    refine (dk_flush HD.out HZ.out.1 HZ.out.2.1.1 HC.out.1).mono ?_
    rintro e w1 ⟨rfl, t1, hd1⟩
    have HD1 := hide hd1
    have HT1 := hide t1
    clear t1 hd1
    go_wp2_with fail
    refine (rk_flush (HR.out.only HT1.out.1 (fun q hq hf => HP.out.1 q hf hq)) HZ.out.2.2.1 HZ.out.2.1.2 HC.out.2.1 HC.out.2.2).mono ?_
    rintro e w2 ⟨rfl, t2, hr2⟩
    have HR2 := hide hr2
    have HT2 := hide t2
    clear t2 hr2
    go_wp2
    go_ret
    obtain ⟨a1, a2, a3, a4, a5, a6⟩ := pr_turn HT1.out HT2.out HD.out.lt HR.out.lt HD1.out.lt HP.out.1 HP.out.2.1 HP.out.2.2.1 HP.out.2.2.2
    exact ⟨rfl, _, _, _, _, _, rd, wt, _, F, G, HD1.out.only HT2.out.1 a2, HR2.out, HZ.out.2.2.2, a3, a4, a5, a6⟩

set_option maxRecDepth 100000 in
theorem pr_looks : Calls Try.prog 14 #[.pointer (some ⟨g, 0, none⟩), .pointer (some ⟨gr, 0, none⟩)] w fun e w' => e = .returned (.bool true) ∧ Pr w0 w' g gr N k := by
  have h' := h
  obtain ⟨plat, l, left, left', stops, rd, wt, fl, F, G, ⟨pb, pc, mb, pr, pv, D, ws, hd, e1, _⟩, ⟨pb', pc', pr', pv', ws', hr, e1', _⟩, hl, _⟩ := h
  obtain ⟨A, cap, hr2⟩ := hr.ref2
  rw [e1', ← e1] at hr2
  exact (looks_ok hd hr2 hl.off).mono fun e w' ⟨he, ho⟩ => ⟨he, h'.quiet ho⟩

set_option maxRecDepth 100000 in
theorem does_look (m b x : Int) (K : Option Addr) (kn kc : Nat) :
    Calls Try.prog 13 #[.pointer (some ⟨g, 0, none⟩), .pointer (some ⟨gr, 0, none⟩), opV 6 m b x K kn kc] w fun e w' => e = .returned (.bool true) ∧ Pr w0 w' g gr N (k + 1) := by
  have HR := hide (h.quiet ((Only.refl [] w).alloc (.cells (opC 6 m b x K kn kc) 33)))
  clear h
  go_enter Try.func13, Try.ntmps13
  go_wp2_with (go_at_call 14; refine (pr_looks HR.out).mono ?_; rintro e w1 ⟨rfl, hp⟩; have HP := hide hp; clear hp)
  go_ret
  exact ⟨rfl, HP.out.more (Nat.le_succ k)⟩

set_option maxRecDepth 100000 in
theorem does_other (z m b x : Int) (K : Option Addr) (kn kc : Nat) (hz : z ≠ 0 ∧ z ≠ 1 ∧ z ≠ 2 ∧ z ≠ 3 ∧ z ≠ 4 ∧ z ≠ 6) :
    Calls Try.prog 13 #[.pointer (some ⟨g, 0, none⟩), .pointer (some ⟨gr, 0, none⟩), opV z m b x K kn kc] w fun e w' => e = .returned (.bool true) ∧ Pr w0 w' g gr N (k + 1) := by
  have HR := hide (h.quiet ((Only.refl [] w).alloc (.cells (opC z m b x K kn kc) 33)))
  obtain ⟨z0, z1, z2, z3, z4, z6⟩ := hz
  clear h
  go_enter Try.func13, Try.ntmps13
  go_wp2
  go_ret
  exact ⟨rfl, HR.out.more (Nat.le_succ k)⟩
end
end Go.Proofs.Ytpkoihbebhmicaa
