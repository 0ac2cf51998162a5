/-
  The law's fork: the copy goes on with the document's disk; the old one is turned.
-/
import Derived.Test.YtpkoihbebhmicaaRDoes4
namespace Go.Proofs.Ytpkoihbebhmicaa
open Go.ChangeShapes Go.WideShapes Go.ChangeAt Go.RowKit
set_option linter.unusedVariables false

section
variable {w0 w : World} {g gr N k : Nat} (h : Pr w0 w g gr N k)
include h

theorem pr_fork (hk : k < 4398046511000) (zs : List Int) (hz : zs.length = 512) (hu : U8 zs) :
    Calls Try.prog 8 #[.pointer (some ⟨g, 0, none⟩)] w fun e w1 => ∃ g', e = .returned (.pointer (some ⟨g', 0, none⟩)) ∧
      Calls Try.prog 9 #[.pointer (some ⟨g, 0, none⟩), .int .i64 (-1)] w1 fun e w2 => e = .returned (.tuple #[]) ∧
        ∀ (w3 : World) (d : Nat), Only [] w2 w3 → w2.heap.size ≤ d → Blk w3 d 5 (u8l zs).toArray →
          Calls Try.prog 10 #[.pointer (some ⟨g, 0, none⟩), .int .i64 0, .slice (some ⟨d, 0, none⟩) 512 512] w3 fun e w4 => e = .returned (.int .i64 0) ∧
            Calls Try.prog 12 #[.pointer (some ⟨g, 0, none⟩)] w4 fun e w5 => (∃ E : Int, e = .returned (.int .i64 E)) ∧ Pr w0 w5 g' gr N (k + 1) := by
  obtain ⟨plat, l, left, left', stops, rd, wt, fl, F, G, ⟨pb, pc, mb, pr, pv, D, ws, hd, e1, c1, c2, c3, c4, c5, c6, c7, c8⟩, hr, hl, hFG, hF, hG, h0⟩ := h
  have hpv := fun {k : Nat} (hk : pv.ownBlock = some k) => pv_ne hd hk
  obtain ⟨m1, m2, m3, m4⟩ := mb_ne hd
  have hgl := hd.str.lt
  have hpl := hd.row.lt
  have hgp := hd.str.ne_ hd.row (by decide)
  have hxg : ∀ x ∈ ws, x.blk ≠ g := fun x hx => ((hd.wok x hx).row.ne_ hd.str (by decide))
  -- the blocks that a call on the old disk may turn are none of the copy's
  have hft : ∀ q ∈ foot g pb mb pv, q < w.heap.size := fun q hq => c8 q (c6 q hq)
  have hfx : ∀ x ∈ ws, x.blk ∉ foot g pb mb pv := by
    intro x hx hm
    simp only [foot, List.mem_cons] at hm
    rcases hm with hm | hm | hm | hm
    · exact hxg x hx hm
    · exact c5 x hx hm
    · exact m4 x hx hm
    · cases hp : pv.ownBlock with
      | none => rw [hp] at hm; simp at hm
      | some z =>
        rw [hp] at hm
        simp at hm
        exact (hpv hp).2.2.2.2 x hx hm
  refine (dfork_is hd).mono ?_
  rintro e w1 ⟨g', pb', pc', mb', pr', pv', he, hn, o1, hd'⟩
  -- the copy, packed
  have hDk : Dk w1 g' N plat l left rd wt fl k (foot g' pb' mb' pv' ++ ws.map WR.blk) := by
    refine ⟨pb', pc', mb', pr', pv', D, ws, hd', e1, c1, c2, c3, c4, fun x hx => ?_, fun q hq => List.mem_append_left _ hq, fun x hx => List.mem_append_right _ (List.mem_map.2 ⟨x, hx, rfl⟩), fun q hq => ?_⟩
    · have := c8 _ (c7 x hx)
      have := hn pb' (by simp [foot])
      omega
    · rcases List.mem_append.1 hq with hq | hq
      · simp only [foot, List.mem_cons] at hq
        rcases hq with rfl | rfl | rfl | hq
        · exact hd'.str.lt
        · exact hd'.row.lt
        · exact (mb_ne hd').2.2.1
        · cases hp : pv'.ownBlock with
          | none => rw [hp] at hq; simp at hq
          | some z =>
            rw [hp] at hq
            simp at hq
            subst hq
            exact (pv_ne hd' hp).2.2.2.1
      · obtain ⟨x, hx, rfl⟩ := List.mem_map.1 hq
        exact (hd'.wok x hx).row.lt
  have hA : ∀ q ∈ foot g' pb' mb' pv' ++ ws.map WR.blk, q ∉ foot g pb mb pv ∧ q ∉ G ∧ w0.heap.size ≤ q := by
    intro q hq
    rcases List.mem_append.1 hq with hq | hq
    · have := hn q hq
      exact ⟨fun hm => by have := hft q hm; omega, fun hm => by have := hr.lt q hm; omega, by have := h0.size; omega⟩
    · obtain ⟨x, hx, rfl⟩ := List.mem_map.1 hq
      exact ⟨hfx x hx, hFG _ (c7 x hx), hF _ (c7 x hx)⟩
  have hR : ∀ q ∈ G, q ∉ foot g pb mb pv := fun q hq hm => hFG q (c6 q hm) hq
  have hY : ∀ q ∈ foot g pb mb pv, w0.heap.size ≤ q := fun q hq => hF q (c6 q hq)
  generalize foot g' pb' mb' pv' ++ ws.map WR.blk = F' at hDk hA
  refine ⟨g', he, ?_⟩
  have hd1 := hd.only o1 (by simp) (by simp)
  refine (dstop_is hd1 (-1) (by decide)).mono ?_
  rintro e w2 ⟨he2, o2, hd2⟩
  have gf : ∀ q, q ∈ [g] → q ∈ foot g pb mb pv := by intro q hq; simp at hq; subst hq; simp [foot]
  refine ⟨he2, fun w3 d o3 hd3 hb3 => ?_⟩
  have hd3' := hd2.only o3 (by simp) (by simp)
  have hs12 := o1.size
  have hs23 := o2.size
  have hs34 := o3.size
  have hee : stopv (-1) = -1 := by decide
  rw [hee] at hd3'
  have hsee := row_sees hb3
  obtain ⟨_, _, e4, _, hcell⟩ := hsee.2 (by omega)
  cases e4
  have hdw := dwrite_do hd3' 0 d 0 512 zs (by have := hd.pos; omega) (by decide) (by decide) hz hu (fun i hi => hcell i (by omega)) hb3.lt (by omega) (by omega) c2.1 (by omega) (by omega)
  refine Calls.mono hdw ?_
  rintro e w4 ⟨he4, pv4, D4, x4, o4, hpv4, hx4, _, _, hd4⟩
  refine ⟨he4, ?_⟩
  have hll : lessv (-1) = -1 := by decide
  have hl4 : (if 0 < (-1 : Int) then (-1 : Int) - 1 else -1) = -1 := by decide
  rw [hl4] at hd4
  refine (dflush_do hd4 (by decide) (by decide) c3.1 (by omega) (fun y hy => ?_)).mono ?_
  · rcases List.mem_append.1 hy with hy | hy
    · exact c5 y hy
    · rw [List.mem_singleton.1 hy]; omega
  rintro e w5 ⟨he5, o5, hd5⟩
  have pf : ∀ q, q ∈ [g, pb, mb] → q ∈ foot g pb mb pv := by
    intro q hq
    simp at hq
    rcases hq with rfl | rfl | rfl <;> simp [foot]
  have O : Only (foot g pb mb pv) w1 w5 := (((o2.mono (fun q _ hq => gf q hq)).trans (o3.mono (by simp))).trans o4).trans (o5.mono (fun q _ hq => pf q hq))
  exact ⟨⟨_, he5⟩, plat, l, left, left', stops, rd, wt, fl, F', G, (hDk.only O (fun q hq => (hA q hq).1)).more (Nat.le_succ k), (hr.quiet o1).only O hR, hl, fun q hq => (hA q hq).2.1, fun q hq => (hA q hq).2.2, hG, (h0.trans o1).trans' O (fun q hq hm => by have := hY q hm; omega)⟩
end
end Go.Proofs.Ytpkoihbebhmicaa
