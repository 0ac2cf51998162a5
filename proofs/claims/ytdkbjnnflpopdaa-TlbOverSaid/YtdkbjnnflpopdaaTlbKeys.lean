/-
  Translations (parapet/tlb): the keys of a hart's map, one after the other.
-/
import Derived.Test.YtdkbjnnflpopdaaTlbHandle
import Derived.Sort.MapsRangeIn
import Derived.RangeFuncNested
import Derived.RangeFuncBound
import Derived.RangeFuncCalls
import Derived.RangeFuncLeaves
import Derived.RangeFuncBox
import Derived.RangeFuncSeq
import Derived.Shelf.Abstract
import Derived.OwnWalkIn
import Derived.TacticsInMore
import Derived.LoopNIn
import Derived.LoopIn
namespace Go.Proofs.Ytdkbjnnflpopdaa
open Go.ChangeShapes Go.WideShapes Go.ChangeAt Go.RowKit Go.Maps Go.Shelf
set_option linter.unusedVariables false
attribute [local go_sem] Oper.semAt_some

abbrev encsK (k : K2) : Array Value := #[kV k]
section
variable {w : World} {b Bm : Nat} {D : DataW Unit} {l : List (K2 × K2)}
set_option maxRecDepth 100000 in
set_option maxHeartbeats 2000000 in
theorem keys1_is (n : Nat) (hn : 2 ≤ n) (hBm : Bm < w.heap.size) (hm : w.cell? ⟨Bm, 0, none⟩ = some (.map (some b))) (hown : w.ownsMap Try.prog 33 elemF b l.length D) (H : Holds D l) :
    SeqStopsK Fence.wide n Try.prog 48 #[.pointer (some ⟨Bm, 0, none⟩)] encsK KeepsWalks (fun ys => ys.Perm (l.map (·.1))) (fun _ => True) l.length w := fun lp J Jx W hW hJ hJx hY h0 => by
  have hcW := (hW.cell (p := ⟨Bm, 0, none⟩) hBm).trans hm
  have hownW := own_only hown (Only.of_below hW) (by simp)
  have HY := hide hY
  have HJ := hide hJ
  have HH := hide H
  clear hY hJ hJx hown H hW
  have h1 : 1 ≤ n := by omega
  have h2 : 1 ≤ n - 1 := by omega
  (refine callsIn_of_wp Try.func48 rfl trivial ?_ rfl; simp only [Try.ntmps48, List.size_toArray, List.length_cons, List.length_nil, Nat.reduceAdd, Nat.reduceSub, Array.replicate_succ, Array.replicate_zero, List.push_toArray, List.append_toArray, List.nil_append, List.cons_append])
  gi_wp2_with (first | (gi_at_range; refine wpListIn_range_own _ rfl _ 59 rfl 33 81 lawKey Try.underlying59 _ b _ _ rfl hownW ?_; intro w0 hrg0 hg0 hs0) | gi_in)
  go_frame
  have HA := hide (show ∃ (left : Lit → Bool) (cnt : Nat) (ks : List K2), w0.ranges Try.prog 33 elemF b W.heap.size l.length D left cnt ∧ ks.Perm ((l.filter fun p => !left (kL p.1)).map (·.1)) ∧ J ks w0 from by
    refine ⟨_, _, [], hrg0, ?_, HJ.out _ _ _ none h0 hg0 (by simp)⟩
    rw [List.filter_eq_nil_iff.2]
    · exact List.Perm.refl _
    · intro p hp
      rw [HH.out.some_ (k := p.1) (f := p.2) hp]
      simp)
  clear hrg0 hg0 hs0 hownW hcW h0
  gi_loopw [3] (fun _ wr => ∃ (left : Lit → Bool) (cnt : Nat) (ks : List K2), wr.ranges Try.prog 33 elemF b W.heap.size l.length D left cnt ∧ ks.Perm ((l.filter fun p => !left (kL p.1)).map (·.1)) ∧ J ks wr) (fun _ wr => wr.rangeLeft b W.heap.size)
  case atStart => exact HA.out
  case round =>
    clear HA
    obtain ⟨left, cnt, ks, hrg, hperm, hJs⟩ := hrel
    gi_wp2_with (first | (gi_at_next; refine wpListIn_next_ranges _ rfl _ rfl 33 lawKey elemF kV fV (fun key kl h => let ⟨k, e, _⟩ := keyOf_inv h; ⟨k, e⟩) (fun v y h => let ⟨f, e, _⟩ := elemF_inv h; ⟨f, e⟩) b W.heap.size _ D left cnt rfl hrg ?_ ?_) | gi_in)
    · intro _ hl0
      have e : (l.filter fun p => !left (kL p.1)) = l := by
        rw [List.filter_eq_self]
        intro p _
        rw [hl0]; rfl
      rw [e] at hperm
      clear hrg hl0
      gi_wp2
      go_end0
      exact ⟨⟨_, rfl⟩, .inl ⟨_, hperm, hJs⟩⟩
    · intro k1 k2 f1 f2 kl y1 y2 w1 cnt1 hkx hlx hRy hat hrg1 hlt hg1 hs1 hen
      obtain ⟨rfl, hkw, hkl⟩ := HH.out.come (k := (k1, k2)) (f := (f1, f2)) hkx hRy hat
      have hstep := filter_one (g := fun p : K2 × K2 => !left (kL p.1)) (g' := fun p => !(left (kL p.1) && !(kL p.1).sameKey (kL (k1, k2)))) (p := ((k1, k2), (f1, f2))) (by simp only; rw [hlx]; rfl) l ((List.pairwise_map.1 HH.out.nd).imp (fun h e => h (congrArg _ e))) hkl (fun q hq hne => by
        have : (kL q.1).sameKey (kL (k1, k2)) = false := Maps.sameKey_ne (fun e => hne (HH.out.uniq hq hkl (kL_inj (HH.out.wf q hq) hkw e)))
        try dsimp only
        rw [this]
        simp)
      have hgp : (!(left (kL (k1, k2)) && !(kL (k1, k2)).sameKey (kL (k1, k2)))) = true := by
        rw [WideAt.sameKey_self (kL_key _)]
        simp
      dsimp only at hstep
      rw [hgp] at hstep
      simp only [if_true] at hstep
      have hpm : (ks ++ [((k1, k2) : K2)]).Perm ((l.filter fun p => !(left (kL p.1) && !(kL p.1).sameKey (kL (k1, k2)))).map (·.1)) := by
        have := hstep.map (·.1)
        simp only [List.map_append, List.map_cons, List.map_nil] at this
        exact (hperm.append_right _).trans this.symm
      have hklen : ks.length < l.length := by
        have e1 := hperm.length_eq
        rw [List.length_map] at e1
        rw [e1]
        refine List.length_filter_lt_length_iff_exists.2 ⟨_, hkl, ?_⟩
        simp only
        rw [hlx]
        simp
      have hJ2 := HJ.out _ _ _ (some W.heap.size) hJs hg1 (fun r e => by cases e; exact ⟨Nat.le_refl _, hrg.iter_walk⟩)
      have hJ3 := HJ.out _ _ _ none hJ2 (World.grownBy_alloc w1 (.cells #[.int .i64 k1, .int .i64 k2] 33) none) (by simp)
      obtain ⟨fn, tmps, assign, body, hy, hR⟩ := HY.out ks (k1, k2) _ hJ3 hklen
      dsimp only [encsK] at hy
      have hrgA := hrg1.alloc (.cells #[.int .i64 k1, .int .i64 k2] 33)
      have HRG := hide hrgA
      have HLE := hide hrg.left_eq
      have HPM := hide hpm
      have HLT := hide hlt
      clear hkx hlx hRy hat hg1 hs1 hrg1 hrg hperm hstep hgp hpm hJs hJ2 hJ3 hkl hkw hrgA hlt hklen
      gi_wp2
      refine hR.mono ?_
      rintro e W3 (⟨rfl, hJ4, hk4⟩ | ⟨rfl, hJx4⟩)
      · have hrg3 := HRG.out.of_walks hk4
        have HE := hide (And.intro hrg3 (And.intro hJ4 (show W3.rangeLeft b W.heap.size < wr.rangeLeft b W.heap.size by rw [hrg3.left_eq, HLE.out]; exact HLT.out)))
        clear hJ4 hk4 hrg3 hR hy
        gi_wp2
        go_roundw
        case rel => exact ⟨_, cnt1, _, HE.out.1, HPM.out, HE.out.2.1⟩
        case measure => exact HE.out.2.2
      · clear hR hy
        gi_wp2
        refine bodyPost_ret (results_none rfl _ _ _) rfl ?_
        exact ⟨⟨_, rfl⟩, .inr ⟨_, trivial, hJx4⟩⟩
end

/-! ### slices.AppendSeq(nil, keys) -/
def kC (k : K2) : List Value := [.int .i64 k.1, .int .i64 k.2]
/-- A slice of keys of one's own. -/
abbrev GRow (w : World) (B : Nat) (v : Value) (ks : List K2) : Prop := w.ownsRow B 33 2 v ks.length (ks.flatMap kC)
theorem info_key : (Try.prog.info? 33).map (fun i => (i.zero, i.size, i.bytes)) = some (some (.agg #[.int .i64 0, .int .i64 0]), 2, 16) := by kernel_rfl
theorem flat_cell {ks : List K2} {i : Nat} {x : K2} (h : ks[i]? = some x) : (ks.flatMap kC)[i * 2]? = some (.int .i64 x.1) ∧ (ks.flatMap kC)[i * 2 + 1]? = some (.int .i64 x.2) := by
  induction ks generalizing i with
  | nil => simp at h
  | cons y r ih =>
    cases i with
    | zero =>
      simp only [List.getElem?_cons_zero, Option.some.injEq] at h
      subst h
      simp [kC]
    | succ i =>
      have := ih (i := i) (by simpa using h)
      simp only [List.flatMap_cons, kC]
      rw [show (i + 1) * 2 = i * 2 + 2 by omega]
      simpa using this
theorem GRow.form {w : World} {B : Nat} {v : Value} {ks : List K2} (h : GRow w B v ks) : ∃ A cap, v = .slice A ks.length cap ∧ (0 < ks.length → ∃ b, A = some ⟨b, 0, none⟩ ∧ B ≤ b ∧ b < w.heap.size ∧ ∀ (i : Nat) (x : K2), ks[i]? = some x →
    w.cell? ⟨b, i * 2, none⟩ = some (.int .i64 x.1) ∧ w.cell? ⟨b, i * 2 + 1, none⟩ = some (.int .i64 x.2)) := by
  rcases h.2 with ⟨e, h0⟩ | ⟨b, cap, cur, e, hB, hg, hn, hm, hs, ht⟩
  · exact ⟨none, 0, by rw [e, h0], fun hp => absurd hp (by omega)⟩
  · refine ⟨some ⟨b, 0, none⟩, cap, e, fun _ => ⟨b, rfl, hB, Blk.lt (t := 33) hg, fun i x hx => ?_⟩⟩
    obtain ⟨h1, h2⟩ := flat_cell hx
    have hil : i < ks.length := (List.getElem?_eq_some_iff.1 hx).1
    have hc : ∀ j, j < ks.length * 2 → w.cell? ⟨b, j, none⟩ = (ks.flatMap kC)[j]? := fun j hj => by
      rw [Blk.cell (t := 33) hg, ← ht, List.getElem?_take]
      simp [hj]
    exact ⟨(hc _ (by omega)).trans h1, (hc _ (by omega)).trans h2⟩
theorem GRow.only {w w' : World} {B : Nat} {v : Value} {ks : List K2} {S : List Nat} (h : GRow w B v ks) (ho : Only S w w') (hs : ∀ q, v.ownBlock = some q → q ∉ S) : GRow w' B v ks := ownsRow_only' h ho hs
theorem wpListIn_append_key {F : Fence} {m : Nat} {B : Nat} {v : Value} {ks : List K2} {ops : Array Oper} {rest : List Oper} {o : Oper} {a : Act} {Q : Exit → Act → World → Prop} (hgd : o.guard = none) (s x : Operand)
    (ho : o.op = .call { callee := .builtin .append, args := #[s, x], argTypes := #[46, 46] }) (w : World) (hs : a.eval s = v) (hrow : GRow w B v ks)
    (q : Nat) (k : K2) (hx : a.eval x = .slice (some ⟨q, 0, none⟩) 1 1) (hc0 : w.cell? ⟨q, 0, none⟩ = some (.int .i64 k.1)) (hc1 : w.cell? ⟨q, 1, none⟩ = some (.int .i64 k.2)) (hlen : ks.length < 4000000000000) (hB : B ≤ w.heap.size)
    (h : ∀ v' w1, GRow w1 B v' (ks ++ [k]) → w.grownBy w1 v.ownBlock → wpListIn F m Try.prog ops Q rest (a.put o.dst v') w1) : wpListIn F m Try.prog ops Q (o :: rest) a w := by
  obtain ⟨i0, hi, hz0, hz1, hz2⟩ := info_parts info_key
  refine wpListIn_append_own w hgd s x 46 ho B 33 i0 _ 2 16 Try.underlying46 hi hz0 hz1 hz2 rfl (by decide) v ks.length (ks.flatMap kC) hs hrow ⟨q, 0, none⟩ 1 1 (kC k) hx rfl ?_ ?_ (by unfold maxLen; omega) ?_ hB ?_
  · intro j u hj
    have h0 : j < 2 := by
      have := (List.getElem?_eq_some_iff.1 hj).1
      simpa [kC] using this
    have : j = 0 ∨ j = 1 := by omega
    rcases this with rfl | rfl
    · rw [add_at, hc0]; exact hj
    · rw [add_at, hc1]; exact hj
  · intro u hu
    simp only [kC, List.mem_cons, List.not_mem_nil, or_false] at hu
    rcases hu with rfl | rfl <;> rfl
  · omega
  · intro v' w1 hown hgrow _
    refine h v' w1 ?_ hgrow
    unfold GRow
    rw [List.length_append, List.flatMap_append]
    simpa using hown
end Go.Proofs.Ytdkbjnnflpopdaa
