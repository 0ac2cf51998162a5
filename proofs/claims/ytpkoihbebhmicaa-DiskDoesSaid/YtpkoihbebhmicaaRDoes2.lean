/-
  The law's does over the pair of both disks: Crash.
-/
import Derived.Test.YtpkoihbebhmicaaRDoes
import Derived.Deep.RegionHeld3
namespace Go.Proofs.Ytpkoihbebhmicaa
open Go.ChangeShapes Go.WideShapes Go.ChangeAt Go.RowKit
set_option linter.unusedVariables false

section
variable {w0 w : World} {g gr N k : Nat} (h : Pr w0 w g gr N k)
include h

/-- Crash of both, one behind the other; X: a fact of a block that is neither's. -/
theorem pr_crash (A : Option Addr) (m c : Nat) (t : List (Int × Int)) (ht : Torns w0 A m t) (hm : m ≤ 9223372036854775807) (wa : World) (ha : Only [] w wa) (B : Nat) (tB : TypeId) (cs : Array Value) (hb : Blk wa B tB cs) (hB : w.heap.size ≤ B) :
    ∃ E : Int, ∀ w', Only [] wa w' → Calls Try.prog 15 #[.pointer (some ⟨g, 0, none⟩), .slice A m c] w' fun e w1 => e = .returned (.int .i64 E) ∧ Blk w1 B tB cs ∧ ∀ w1', Only [] w1 w1' → Calls Try.prog 31 #[.pointer (some ⟨gr, 0, none⟩), .slice A m c] w1' fun e w2 => e = .returned (.int .i64 E) ∧ Blk w2 B tB cs ∧ Pr w0 w2 g gr N (k + 1) := by
  obtain ⟨plat, l, left, left', stops, rd, wt, fl, F, G, hd, hr, hl, hFG, hF, hG, h0⟩ := h
  have b1 : B ∉ F := fun hm => by have := hd.lt B hm; omega
  have b2 : B ∉ G := fun hm => by have := hr.lt B hm; omega
  refine ⟨if keepB l.length 0 t then 0 else 1, fun w' qa => ?_⟩
  have q : Only [] w w' := ha.trans qa
  have hA : ∀ (S : List Nat), (∀ q ∈ S, w0.heap.size ≤ q) → 0 < m → ∀ b, A = some b → b.block ∉ S := by
    intro S hS hm b hb hmem
    obtain ⟨b', o, rfl, hlt, _⟩ := ht.2 hm
    cases hb
    have := hS _ hmem
    simp only at this
    omega
  refine (dk_crash (hd.quiet q) A m c t (ht.only (h0.trans q) (by simp)) hm (hA F hF)).mono ?_
  rintro e w1 ⟨he, t1, hd1⟩
  refine ⟨he, (hb.only qa (by simp)).only t1.1 b1, fun w1' q1 => ?_⟩
  have hrq : Rk w1' gr N plat l left' stops rd wt fl G := ((hr.quiet q).only t1.1 (fun x hx hf => hFG x hf hx)).quiet q1
  have h01 : Only [] w0 w1 := (h0.trans q).trans' t1.1 (fun q hq hf => by have := hF q hf; omega)
  refine (rk_crash hrq A m c t (ht.only (h01.trans q1) (by simp)) hm (hA G hG)).mono ?_
  rintro e w2 (⟨hk, he, ho⟩ | ⟨hk, he, t2, hr2⟩)
  · rw [hk] at hd1 ⊢
    simp only [Bool.false_eq_true, if_false] at hd1 ⊢
    exact ⟨he, ((((hb.only qa (by simp)).only t1.1 b1).only q1 (by simp)).only ho (by simp)), plat, l, _, _, _, rd, wt, fl, F, G, ((hd1.quiet q1).quiet ho).more (Nat.le_succ k), hrq.quiet ho, hl, hFG, hF, hG, (h01.trans q1).trans ho⟩
  · rw [hk] at hd1 ⊢
    simp only [if_true] at hd1 ⊢
    have t1q : Turned w' w1' F F := ⟨t1.1.trans (q1.mono (by simp)), t1.2⟩
    obtain ⟨a1, a2, a3, a4, a5, a6⟩ := pr_turn t1q t2 (hd.quiet q).lt (hr.quiet q).lt (hd1.quiet q1).lt hFG hF hG (h0.trans q)
    exact ⟨he, (((hb.only qa (by simp)).only t1.1 b1).only q1 (by simp)).only t2.1 b2, _, _, _, _, _, rd, wt, fl, F, G, ((hd1.quiet q1).only t2.1 a2).more (Nat.le_succ k), hr2, .inr ⟨rfl, rfl, by omega⟩, a3, a4, a5, a6⟩

set_option maxRecDepth 100000 in
theorem does_crash (m b x : Int) (K : Option Addr) (kn kc : Nat) (t : List (Int × Int)) (ht : Torns w0 K kn t) (hm : kn ≤ 9223372036854775807) :
    Calls Try.prog 13 #[.pointer (some ⟨g, 0, none⟩), .pointer (some ⟨gr, 0, none⟩), opV 3 m b x K kn kc] w fun e w' => e = .returned (.bool true) ∧ Pr w0 w' g gr N (k + 1) := by
  obtain ⟨E, hE⟩ := pr_crash h K kn kc t ht hm (w.alloc (.cells (opC 3 m b x K kn kc) 33)) ((Only.refl [] w).alloc _) w.heap.size 33 (opC 3 m b x K kn kc) (Blk.new _ _ _) (Nat.le_refl _)
  have HE := hide hE
  have HB := hide (Blk.new w 33 (opC 3 m b x K kn kc))
  clear h hE
  go_enter Try.func13, Try.ntmps13
  go_wp2_with fail
  revert HE HB
  generalize w.alloc (.cells (opC 3 m b x K kn kc) 33) = wa
  intro HE HB
  have h4 : wa.cell? ⟨w.heap.size, 4, none⟩ = some (.slice K kn kc) := (HB.out.cell 4).trans rfl
  go_region_held3 (fun W => W.cell? ⟨w.heap.size, 4, none⟩ = some (.slice K kn kc)) (first | go_keep | exact c2 | exact c1) (first | (go_at_call 15; refine (HE.out _ (by repeat (first | exact Only.refl _ _ | apply Only.drew))).mono ?_; rintro e w1 ⟨rfl, hb1, hn1⟩; have c1 : w1.cell? ⟨w.heap.size, 4, none⟩ = some (.slice K kn kc) := (hb1.cell 4).trans rfl) | (go_at_call 31; refine (hn1 _ (by repeat (first | exact Only.refl _ _ | apply Only.drew))).mono ?_; rintro e w2 ⟨rfl, hb2, hp2⟩; have c2 : w2.cell? ⟨w.heap.size, 4, none⟩ = some (.slice K kn kc) := (hb2.cell 4).trans rfl))
  have HPR := hide hp2
  clear HE HB h4 hb1 hn1 c1 hb2 c2 hp2
  go_wp2
  go_ret
  exact ⟨rfl, HPR.out⟩
end
end Go.Proofs.Ytpkoihbebhmicaa
