/-
  All of a page table (parapet/ptab): the pages that have an entry, rising.
-/
import Derived.Test.YtmlaomkofcajgaaPtabEnts
namespace Go.Proofs.Ytmlaomkofcajgaa
open Go.ChangeShapes Go.WideShapes Go.ChangeAt Go.RowKit Go.Shelf
set_option linter.unusedVariables false
attribute [local go_sem] Oper.semAt_some

/-- A page that has an entry. -/
abbrev PageI (xs : List Int) (root : Int) := { q : Nat // q < 256 ∧ walkB xs root q ≠ 0 }
abbrev encsPg (xs : List Int) (root : Int) (x : PageI xs root) : Array Value := #[.int .i64 x.1, .int .u32 (walkB xs root x.1)]
instance (xs : List Int) (root : Int) (k : Nat) : Decidable (k < 256 ∧ walkB xs root k ≠ 0) := inferInstance
/-- Those among the first k. -/
def pagesTo (xs : List Int) (root : Int) : Nat → List (PageI xs root)
  | 0 => []
  | k + 1 => if h : k < 256 ∧ walkB xs root k ≠ 0 then pagesTo xs root k ++ [⟨k, h⟩] else pagesTo xs root k
theorem pagesTo_len (xs : List Int) (root : Int) : ∀ k, (pagesTo xs root k).length ≤ k
  | 0 => Nat.le_refl _
  | k + 1 => by
    have := pagesTo_len xs root k
    unfold pagesTo
    split
    · simp; omega
    · omega
theorem pagesTo_yes {xs : List Int} {root : Int} {k : Nat} (h : k < 256 ∧ walkB xs root k ≠ 0) : pagesTo xs root (k + 1) = pagesTo xs root k ++ [⟨k, h⟩] := by
  rw [pagesTo, dif_pos h]
theorem pagesTo_no {xs : List Int} {root : Int} {k : Nat} (h : walkB xs root k = 0) : pagesTo xs root (k + 1) = pagesTo xs root k := by
  rw [pagesTo, dif_neg (fun q => q.2 h)]

section
variable {w : World} {t g d cap : Nat} {xs : List Int} {r : List Value} {root : Int}

set_option maxRecDepth 100000 in
set_option maxHeartbeats 2000000 in
theorem all1_is (hT : IsTab w t g d cap xs r root) (n n₀ B : Nat) (hn : 2 ≤ n) (hB : B < w.heap.size) (hc : w.cell? ⟨B, 0, none⟩ = some (.pointer (some ⟨t, 0, none⟩))) :
    SeqStopsK Fence.wide n Try.prog 58 #[.pointer (some ⟨B, 0, none⟩)] (encsPg xs root) (Below n₀) (fun ys => ys = pagesTo xs root 256) (fun pre => ∃ k, k ≤ 256 ∧ pre = pagesTo xs root k) 256 w := fun l J Jx W hW hJ hJx hY h0 => by
  have hcW := (hW.cell (p := ⟨B, 0, none⟩) hB).trans hc
  have hlt := hT.lt
  have hTW : IsTab W t g d cap xs r root := hT.below hW hlt.1 hlt.2.1 hlt.2.2
  have HT0 := hide hTW
  have HY := hide hY
  have HJ := hide hJ
  have HG := hide (fun q (hq : q < 256) => entsA_get hTW.root q hq)
  have HLE := hide (show (entsA xs root).length = 256 from entsP_len _ _ _)
  have HEN := hide (entries_is hTW)
  clear hY hJ hJx hT hTW
  have h1 : 1 ≤ n := by omega
  have h2 : 1 ≤ n - 1 := by omega
  (refine callsIn_of_wp Try.func58 rfl trivial ?_ rfl; simp only [Try.ntmps58, List.size_toArray, List.length_cons, List.length_nil, Nat.reduceAdd, Nat.reduceSub, Array.replicate_succ, Array.replicate_zero, List.push_toArray, List.append_toArray, List.nil_append, List.cons_append])
  gi_wp2_with (refine ⟨trivial, ?_⟩; gi_at_call 59; refine (callsIn_wide.2 HEN.out).mono ?_; rintro e w1 ⟨rfl, hb1⟩)
  have HJ1 := hide (HJ.out _ _ _ none h0 (grown_of_below hb1) (by simp))
  clear hb1 h0 HEN hcW hc
  gi_loopw [7] (fun i wr => ∃ k : Nat, k ≤ 256 ∧ i = .int .i64 k ∧ J (pagesTo xs root k) wr) (fun i _ => 256 - (intOf i).toNat)
  case atStart => exact ⟨0, by decide, rfl, HJ1.out⟩
  case round =>
    obtain ⟨k, hk, rfl, hJk⟩ := hrel
    have HJK := hide hJk
    clear hJk
    by_cases hlt : k < 256
    · have ha := run_index_arr wr HLE.out hlt (HG.out k hlt)
      by_cases hv : walkB xs root (k : Int) = 0
      · rw [hv] at ha
        have HN := hide (pagesTo_no (k := k) hv)
        clear hv
        gi_wp2
        refine ⟨fun _ h => (by cases h), ?_⟩
        gi_wp2
        go_roundw
        case rel => exact ⟨k + 1, by omega, by go_num, by rw [HN.out]; exact HJK.out⟩
        case measure => simp [intOf]; omega
      · have hcond : k < 256 ∧ walkB xs root (k : Int) ≠ 0 := ⟨hlt, hv⟩
        obtain ⟨fn, tmps, assign, body, hy, hR⟩ := HY.out (pagesTo xs root k) ⟨k, hcond⟩ wr HJK.out (by have := pagesTo_len xs root k; omega)
        dsimp only [encsPg] at hy
        have hv' : (walkB xs root (k : Int) != 0) = true := by simpa using hv
        clear hv
        gi_wp2
        refine hR.mono ?_
        rintro e W3 (⟨rfl, hJ3, hk3⟩ | ⟨rfl, hJx3⟩)
        · have HN := hide (show J (pagesTo xs root (k + 1)) W3 by rw [pagesTo_yes hcond]; exact hJ3)
          clear hJ3 hk3 hR hy ha
          gi_wp2
          go_roundw
          case rel => exact ⟨k + 1, by omega, by go_num, HN.out⟩
          case measure => simp [intOf]; omega
        · clear hR hy ha
          gi_wp2
          refine bodyPost_ret (results_none rfl _ _ _) rfl ?_
          exact ⟨⟨_, rfl⟩, .inr ⟨_, ⟨k + 1, by omega, rfl⟩, by rw [pagesTo_yes hcond]; exact hJx3⟩⟩
    · obtain rfl : k = 256 := by omega
      rw [show ((256 : Nat) : Int) = 256 from rfl]
      clear hlt hk
      gi_wp2
      go_end0
      exact ⟨⟨_, rfl⟩, .inl ⟨_, rfl, HJK.out⟩⟩
end
end Go.Proofs.Ytmlaomkofcajgaa
