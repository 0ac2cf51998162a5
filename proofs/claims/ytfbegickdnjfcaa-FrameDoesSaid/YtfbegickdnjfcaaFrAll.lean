/-
  Frames (parapet/frame): All, the iterator over the frames in use.
-/
import Derived.Test.YtfbegickdnjfcaaFrLook
import Derived.RangeFuncNested
import Derived.RangeFuncBound
import Derived.RangeFuncCalls
import Derived.RangeFuncLeaves
import Derived.RangeFuncBox
import Derived.Shelf.Abstract
import Derived.Shelf.RegionOpen
import Derived.OwnWalkIn
import Derived.TacticsInMore
import Derived.LoopNIn
import Derived.LoopIn
namespace Go.Proofs.Ytfbegickdnjfcaa
open Go.ChangeShapes Go.WideShapes Go.ChangeAt Go.RowKit Go.Shelf
set_option linter.unusedVariables false
attribute [local go_sem] Oper.semAt_some

/-- Blocks of cells stay, but for those of S. -/
def KeepsCells (S : List Nat) (A C : World) : Prop := A.heap.size ≤ C.heap.size ∧ ∀ k t cs, k ∉ S → Blk A k t cs → Blk C k t cs
theorem keepsCells_t {S : List Nat} {X Y Z : World} (h : KeepsCells S X Y) (k : KeepsCells S Y Z) : KeepsCells S X Z := ⟨Nat.le_trans h.1 k.1, fun q t cs hq hb => k.2 q t cs hq (h.2 q t cs hq hb)⟩
theorem keepsCells_b {S : List Nat} (W : World) (l : Nat) (o o' : Obj) (h : W.heap[l]? = some o) (hc : o.isCells = false) : KeepsCells S W (W.putObj l o') :=
  ⟨by simp, fun q t cs hq hb => by
    refine (grownBy_putObj' W l o').block q hb.lt (fun e => ?_) |>.trans hb
    injection e with e
    subst e
    unfold Blk at hb
    rw [h] at hb
    injection hb with hb
    subst hb
    cases hc⟩
theorem KeepsCells.of_only {S : List Nat} {A C : World} (h : Only S A C) : KeepsCells S A C := ⟨h.size, fun q t cs hq hb => hb.only h hq⟩
theorem grown_of_only {w w' : World} (h : Only [] w w') : w.grownBy w' none := ⟨h.os, h.tape, h.output, h.size, fun k hk _ => h.block k hk (by simp)⟩

/-- A frame in use. -/
abbrev UseI (ns : Nat → List Int) := { k : Nat // k < (ns 2).length ∧ 0 < gb (ns 2) k }
abbrev encsUse (first : Nat) (ns : Nat → List Int) (x : UseI ns) : Array Value := #[.int .i64 (first + x.1), .int .i64 (gb (ns 2) x.1)]
/-- Those among the first k. -/
def usedTo (ns : Nat → List Int) : Nat → List (UseI ns)
  | 0 => []
  | k + 1 => if h : k < (ns 2).length ∧ 0 < gb (ns 2) k then usedTo ns k ++ [⟨k, h⟩] else usedTo ns k
theorem usedTo_len (ns : Nat → List Int) : ∀ k, (usedTo ns k).length ≤ k
  | 0 => Nat.le_refl _
  | k + 1 => by
    have := usedTo_len ns k
    unfold usedTo
    split
    · simp; omega
    · omega
theorem usedTo_yes {ns : Nat → List Int} {k : Nat} (h : k < (ns 2).length ∧ 0 < gb (ns 2) k) : usedTo ns (k + 1) = usedTo ns k ++ [⟨k, h⟩] := by
  rw [usedTo, dif_pos h]
theorem usedTo_no {ns : Nat → List Int} {k : Nat} (h : ¬ 0 < gb (ns 2) k) : usedTo ns (k + 1) = usedTo ns k := by
  rw [usedTo, dif_neg (fun q => h q.2)]

theorem fall_new (w : World) (p : Option Addr) :
    Calls Try.prog 11 #[.pointer p] w fun e w' => e = .returned (.func (.func 32) #[] #[.pointer (some ⟨w.heap.size, 0, none⟩)]) ∧ w' = w.alloc (.cells #[.pointer p] 28) := by
  go_enter Try.func11, Try.ntmps11
  go_wp2
  go_ret
  exact ⟨rfl, rfl⟩

section
variable {w : World} {t g d cap : Nat} {xs : List Int} {r : List Value} {first harts : Nat} {v : Nat → Value} {ns : Nat → List Int}

theorem IsFr.below (F : IsFr w t g d cap xs r first harts v ns) {w' : World} (h : Below w.heap.size w w') : IsFr w' t g d cap xs r first harts v ns :=
  F.only (Only.of_below h) (by simp) (by simp) (by simp)

set_option maxRecDepth 100000 in
set_option maxHeartbeats 2000000 in
theorem all1_is (F : IsFr w t g d cap xs r first harts v ns) (n B : Nat) (hn : 2 ≤ n) (hB : Blk w B 28 #[.pointer (some ⟨t, 0, none⟩)]) (S : List Nat) (hS : ∀ k, k ∈ S → k < w.heap.size) (htS : t ∉ S) (hBS : B ∉ S) (hu : ∀ k, k < (ns 2).length → 0 ≤ gb (ns 2) k ∧ gb (ns 2) k ≤ 1048576) :
    SeqStopsK Fence.wide n Try.prog 32 #[.pointer (some ⟨B, 0, none⟩)] (encsUse first ns) (KeepsCells S) (fun ys => ys = usedTo ns (ns 2).length) (fun pre => ∃ k, k ≤ (ns 2).length ∧ pre = usedTo ns k) (ns 2).length w := fun l J Jx W hW hJ hJx hY h0 => by
  have hBW : Blk W B 28 #[.pointer (some ⟨t, 0, none⟩)] := (hW.block B hB.lt).trans hB
  have hcW := hBW.cell 0
  have hFW := F.below hW
  have hsm := F.small
  have HF0 := hide hFW
  have HY := hide hY
  have HJ := hide hJ
  have HU := hide hu
  have c2 := hFW.cell 2 (by decide)
  obtain ⟨A2, cp2, hv2, -⟩ := (hFW.rows.row 2 (.inl rfl)).form
  rw [hv2] at c2
  have HCL := hide (show Calls Try.prog 34 #[.slice A2 (ns 2).length cp2] W fun e w' => NewRow W w' e (ns 2) from by
    have := clone_row (hFW.rows.row 2 (.inl rfl)) (by omega)
    rwa [hv2] at this)
  have HSW := hide (show ∀ k, k ∈ S → k < W.heap.size from fun k hk => Nat.lt_of_lt_of_le (hS k hk) hW.size)
  have HBW := hide hBW
  clear hY hJ hJx hB hu hS F hFW hv2 hBW
  have h1 : 1 ≤ n := by omega
  have h2 : 1 ≤ n - 1 := by omega
  (refine callsIn_of_wp Try.func32 rfl trivial ?_ rfl; simp only [Try.ntmps32, List.size_toArray, List.length_cons, List.length_nil, Nat.reduceAdd, Nat.reduceSub, Array.replicate_succ, Array.replicate_zero, List.push_toArray, List.append_toArray, List.nil_append, List.cons_append])
  gi_wp2_with (first | (refine ⟨trivial, ?_⟩; gi_at_call 33; refine (callsIn_wide.2 (fclosed_is HF0.out)).mono ?_; rintro e w' ⟨rfl, rfl⟩) | (refine ⟨trivial, ?_⟩; gi_at_call 34; refine (callsIn_wide.2 HCL.out).mono ?_; rintro e w1 ⟨v1, rfl, hr1, ho1⟩; obtain ⟨A1, cp1, rfl, -⟩ := hr1.form; have HR1 := hide hr1; have HO1 := hide ho1; clear hr1 ho1))
  have HJ1 := hide (HJ.out _ _ _ none h0 (grown_of_only HO1.out) (by simp))
  have HT1 := hide (HF0.out.rows.blk.only HO1.out (by simp))
  have HB1 := hide (HBW.out.only HO1.out (by simp))
  have HC1 : Hid ((ns 2).length = 0 ∨ ∃ b1 cur1, A1 = some ⟨b1, 0, none⟩ ∧ b1 ∉ S ∧ Blk w1 b1 3 (i64l (ns 2) ++ cur1).toArray) := hide (by
    rcases HR1.out.2 with ⟨e, h0⟩ | ⟨b, cc, cur, e, hBb, hg, hnc, hm, hs, ht⟩
    · exact .inl (by simpa using h0)
    · right
      injection e with e1 e2 e3
      rw [Nat.mul_one] at ht
      refine ⟨b, cur.toList.drop (ns 2).length, e1, fun hbS => ?_, ?_⟩
      · have := HSW.out b hbS; omega
      · have : i64l (ns 2) ++ cur.toList.drop (ns 2).length = cur.toList := by
          rw [show i64l (ns 2) = cur.toList.take (ns 2).length from ht.symm, List.take_append_drop]
        rw [this]
        exact hg)
  clear h0 HCL hcW c2 HR1 HO1 HSW HBW
  gi_loopw [13] (fun i wr => ∃ k : Nat, k ≤ (ns 2).length ∧ i = .int .i64 k ∧ J (usedTo ns k) wr ∧ KeepsCells S w1 wr) (fun i _ => (ns 2).length - (intOf i).toNat)
  case atStart => exact ⟨0, Nat.zero_le _, rfl, HJ1.out, Nat.le_refl _, fun _ _ _ _ h => h⟩
  case round =>
    obtain ⟨k, hk, rfl, hJk, hkc⟩ := hrel
    have HJK := hide hJk
    have HKC := hide hkc
    have hBr := hkc.2 _ _ _ hBS HB1.out
    have hTr := hkc.2 _ _ _ htS HT1.out
    have cB := hBr.cell 0
    have cF := (hTr.cell 1).trans (cells13_get v 1 (by decide))
    rw [HF0.out.v1] at cF
    clear hJk
    by_cases hlt : k < (ns 2).length
    · have hcc : ∃ b1, A1 = some ⟨b1, 0, none⟩ ∧ wr.cell? ⟨b1, k, none⟩ = some (.int .i64 (gb (ns 2) k)) := by
        rcases HC1.out with h | ⟨b1, cur1, e, hb1S, hb1⟩
        · omega
        · exact ⟨b1, e, by rw [(hkc.2 _ _ _ hb1S hb1).cell]; exact i64l_get _ _ _ hlt⟩
      obtain ⟨b1, rfl, hck⟩ := hcc
      have hux := HU.out k hlt
      have hkk : (k : Int) < (ns 2).length := by omega
      clear hkc hBr hTr
      by_cases hv : 0 < gb (ns 2) k
      · have hcond : k < (ns 2).length ∧ 0 < gb (ns 2) k := ⟨hlt, hv⟩
        obtain ⟨fn, tmps, assign, body, hy, hR⟩ := HY.out (usedTo ns k) ⟨k, hcond⟩ wr HJK.out (by have := usedTo_len ns k; omega)
        dsimp only [encsUse] at hy
        have HYS := hide (usedTo_yes hcond)
        gi_wp2
        refine hR.mono ?_
        rintro e W3 (⟨rfl, hJ3, hk3⟩ | ⟨rfl, hJx3⟩)
        · have HN := hide (show J (usedTo ns (k + 1)) W3 ∧ KeepsCells S w1 W3 from ⟨by rw [HYS.out]; exact hJ3, keepsCells_t HKC.out hk3⟩)
          clear hJ3 hk3 hR hy hck
          gi_wp2
          go_roundw
          case rel => exact ⟨k + 1, by omega, by go_num, HN.out.1, HN.out.2⟩
          case measure => simp [intOf]; omega
        · clear hR hy hck
          gi_wp2
          refine bodyPost_ret (results_none rfl _ _ _) rfl ?_
          exact ⟨⟨_, rfl⟩, .inr ⟨_, ⟨k + 1, by omega, rfl⟩, by rw [HYS.out]; exact hJx3⟩⟩
      · have HN := hide (usedTo_no (k := k) hv)
        have hy0 : gb (ns 2) k = 0 := by omega
        rw [hy0] at hck
        clear hv hy0 hux
        gi_wp2
        refine ⟨fun _ h => (by cases h), ?_⟩
        gi_wp2
        go_roundw
        case rel => exact ⟨k + 1, by omega, by go_num, by rw [HN.out]; exact HJK.out, HKC.out⟩
        case measure => simp [intOf]; omega
    · obtain rfl : k = (ns 2).length := by omega
      clear hlt hk hkc hBr hTr
      gi_wp2
      go_end0
      exact ⟨⟨_, rfl⟩, .inl ⟨_, rfl, HJK.out⟩⟩
end
end Go.Proofs.Ytfbegickdnjfcaa
