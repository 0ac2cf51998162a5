/-
  Calls (parapet/call): Most; the document's Get, Bound, Most.
-/
import Derived.Test.YtccobbfinmlgdaaDoorCaFind
namespace Go.Proofs.YtccobbfinmlgdaaDoor
open Go.ChangeShapes Go.WideShapes Go.ChangeAt Go.RowKit
set_option linter.unusedVariables false

/-- The greatest bound of the first calls. -/
def mostN : Nat → Int
  | 0 => 0
  | i + 1 => max (mostN i) (bytesF (entF ((i : Int) + 1)).ks)
theorem mostN_bd (i : Nat) : 0 ≤ mostN i ∧ mostN i ≤ 11000 := by
  induction i with
  | zero => simp [mostN]
  | succ i ih =>
    have h1 := bytesF_bd (entF ((i : Int) + 1)).ks
    have h2 := entF_len ((i : Int) + 1)
    simp only [mostN]
    omega
set_option maxRecDepth 100000 in
theorem cmost_is (w : World) (hT : TabS w) : Calls Tryd.prog 15 #[] w fun e w' => e = .returned (.int .i64 (mostN 30)) ∧ Only [] w w' := by
  have HT := hide hT
  have HB := hide (fun n w h => cbound_is n w h)
  clear hT
  go_enter Tryd.func15, Tryd.ntmps15
  go_wp2_with fail
  refine (ctable_is _).mono ?_
  rintro e w1 ⟨t, rfl, ht, ho⟩
  obtain ⟨tb, vs, rfl, -⟩ := ht
  have e0 : entL.length = 30 := rfl
  rw [e0]
  have HO := hide ho
  clear ho e0
  go_wp2_with fail
  go_loopw [5, 1] (fun iv sv wr => ∃ i : Nat, i ≤ 30 ∧ iv = .int .i64 i ∧ sv = .int .i64 (mostN i) ∧ Only [] w wr) (fun iv _ _ => 30 - (intOf iv).toNat)
  case atStart => exact ⟨0, Nat.zero_le _, rfl, rfl, HO.out⟩
  case round =>
    obtain ⟨i, hi, rfl, rfl, ho⟩ := hrel
    have HOr := hide ho
    by_cases hlt : i < 30
    · have hltI : (i : Int) < 30 := by omega
      have HS := hide (HB.out ((i : Int) + 1) wr (HT.out.only ho (by simp)))
      have HE := hide (show mostN (i + 1) = max (mostN i) (bytesF (entF ((i : Int) + 1)).ks) from rfl)
      generalize bytesF (entF ((i : Int) + 1)).ks = Z at *
      generalize mostN i = S at *
      clear ho
      go_wp2_with (go_at_call 13; refine HS.out.mono ?_; rintro e w2 ⟨rfl, h2⟩; have HO2 := hide (HOr.out.trans h2); clear h2)
      go_roundw
      case rel => exact ⟨i + 1, hlt, by go_num, by rw [HE.out], HO2.out⟩
      case measure => simp [intOf]; omega
    · obtain rfl : i = 30 := by omega
      clear ho
      go_wp2
      go_ret
      exact ⟨rfl, HOr.out⟩
/- The document's own. -/
set_option maxRecDepth 100000 in
theorem xsize_is (k : Int) (w : World) : Calls Tryd.prog 32 #[.int .i64 k] w fun e w' => e = .returned (.int .i64 (szF k)) ∧ Only [] w w' := by
  by_cases h : k < 1 ∨ 11 ≤ k
  · have HE := hide (show szF k = 0 by
      unfold szF
      split
      · rename_i hk
        have : k = 0 := by omega
        subst this; rfl
      · rfl)
    rw [HE.out]
    rcases h with h | h
    · go_enter Tryd.func32, Tryd.ntmps32
      go_wp2
      go_ret
      exact ⟨rfl, (Only.refl _ _).alloc _⟩
    · have h1 : ¬ k < 1 := by omega
      have h2 : decide (k < 1) = false := by simp; omega
      go_enter Tryd.func32, Tryd.ntmps32
      go_wp2
      go_ret
      exact ⟨rfl, (Only.refl _ _).alloc _⟩
  · have HE := hide (show szF k = szL.getD k.toNat 0 by unfold szF; rw [if_pos (by omega)])
    have h1 : 1 ≤ k := by omega
    have h2 : k < 11 := by omega
    have h3 : decide (k < 1) = false := by simp; omega
    have HC := hide (show (w.alloc (.cells #[.int .i64 0, .int .i64 256, .int .i64 128, .int .i64 64, .int .i64 32, .int .i64 64, .int .i64 576, .int .i64 64, .int .i64 576, .int .i64 32, .int .i64 128] 3)).cell? ⟨w.heap.size, k.toNat, none⟩ = some (.int .i64 (szL.getD k.toNat 0)) by
      rw [(Blk.new w 3 _).cell]
      have hx : ∀ n : Nat, n < 11 → (#[.int .i64 0, .int .i64 256, .int .i64 128, .int .i64 64, .int .i64 32, .int .i64 64, .int .i64 576, .int .i64 64, .int .i64 576, .int .i64 32, .int .i64 128] : Array Value)[n]? = some (.int .i64 (szL.getD n 0)) := by
        intro n hn
        rcases n with _ | _ | _ | _ | _ | _ | _ | _ | _ | _ | _ | n <;> first | rfl | omega
      exact hx _ (by omega))
    rw [HE.out]
    generalize szL.getD k.toNat 0 = z at *
    clear h
    have hc := HC.out
    go_enter Tryd.func32, Tryd.ntmps32
    go_wp2
    go_ret
    exact ⟨rfl, (Only.refl _ _).alloc _⟩
end Go.Proofs.YtccobbfinmlgdaaDoor
