/-
  The law's own helpers: filled and sameInts.
-/
import Derived.Test.YtpkoihbebhmicaaDiskMake
namespace Go.Proofs.Ytpkoihbebhmicaa
open Go.ChangeShapes Go.WideShapes Go.ChangeAt Go.RowKit
set_option linter.unusedVariables false

def fillL (n : Nat) (c : Int) : List Int := (List.range n).map fun (i : Nat) => (c + (i : Int) * 7) % 256
theorem fillL_length (n : Nat) (c : Int) : (fillL n c).length = n := by simp [fillL]
theorem gb_fillL (n i : Nat) (c : Int) (h : i < n) : gb (fillL n c) i = (c + (i : Int) * 7) % 256 := by
  simp [gb, fillL, List.getD, h]
theorem u8_fillL (n : Nat) (c : Int) : U8 (fillL n c) := by
  intro x hx
  obtain ⟨i, _, rfl⟩ := List.mem_map.1 hx
  omega

def FillRel (n : Nat) (c : Int) (w : World) (i : Value) (wr : World) : Prop :=
  ∃ k : Nat, k ≤ n ∧ i = .int .i64 k ∧ Only [] w wr ∧ ∃ ns : List Int, ns.length = n ∧ Blk wr w.heap.size 5 (u8l ns).toArray ∧ ∀ j, j < k → gb ns j = gb (fillL n c) j

def Filled (w w' : World) (e : Ending) (xs : List Int) : Prop :=
  ∃ d, e = .returned (.slice (some ⟨d, 0, none⟩) xs.length xs.length) ∧ w.heap.size ≤ d ∧ Blk w' d 5 (u8l xs).toArray ∧ Only [] w w'

set_option maxRecDepth 100000 in
theorem filled_ok (n : Nat) (c : Int) (w : World) (hn : n ≤ 100000) (h0 : 0 ≤ c) (h1 : c ≤ 255) : Calls Try.prog 11 #[.int .i64 n, .int .u8 c] w fun e w' => Filled w w' e (fillL n c) := by
  obtain ⟨i0, hi, hz0, hz1, hz2⟩ := info_parts info_u8
  have hmk : ∀ u : World, (Instr.makeSlice 37 (.int .i64 (n : Int)) (.int .i64 (n : Int))).run Try.prog u =
      .ok (.slice (some ⟨u.heap.size, 0, none⟩) n n) (u.alloc (.cells (madeCells #[.int .u8 0] n) 5)) := fun u => by
    have h := run_make (P := Try.prog) u 37 5 i0 (.int .u8 0) Try.underlying37 hi hz0 .i64 .i64 (n : Int) (n : Int) (by omega) (Int.le_refl _) (by rw [hz2]; omega) (by omega)
    simpa [hz1, Value.cells] using h
  have HM := hide (Blk.new w 5 (madeCells #[.int .u8 0] n))
  have HO0 := hide ((Only.refl [] w).alloc (.cells (madeCells #[.int .u8 0] n) 5))
  have HML := hide (show madeCells #[.int .u8 0] n = (u8l (List.replicate n 0)).toArray from by
    apply Array.ext'
    rw [toList_madeCells_one]
    simp [u8l])
  rw [HML.out] at HM HO0
  go_enter Try.func11, Try.ntmps11
  go_wp2
  clear hmk hi hz0 hz1 hz2
  go_loopw [12] (fun i wr => FillRel n c w i wr) (fun i _ => n - (intOf i).toNat)
  case atStart => exact ⟨0, Nat.zero_le _, rfl, by rw [HML.out]; exact HO0.out, List.replicate n 0, by simp, by rw [HML.out]; exact HM.out, fun j hj => absurd hj (by omega)⟩
  case round =>
    clear HM HO0
    obtain ⟨k, hk, rfl, ho, ns, hnl, hbk, hns⟩ := hrel
    have HO := hide ho
    have HB := hide hbk
    have HNL := hide hnl
    have HNS := hide hns
    by_cases hlt : k < n
    · have hfk := hbk.frozen k
      have hck : wr.cell? ⟨w.heap.size, k, none⟩ = some (.int .u8 (gb ns k)) := by
        rw [hbk.cell]
        simp [u8l, gb, List.getD, List.getElem?_eq_getElem (show k < ns.length by omega)]
      clear hbk hns hnl ho
      go_wp2
      go_roundw
      case rel =>
        have hv : (c + (k : Int) % 256 * 7) % 256 = (c + (k : Int) * 7) % 256 := by omega
        rw [hv]
        refine ⟨k + 1, hlt, by go_num, HO.out.setCell _ (by simp), ns.set k ((c + (k : Int) * 7) % 256), by rw [List.length_set]; exact HNL.out, ?_, fun j hj => ?_⟩
        · have := HB.out.set_ k (.int .u8 ((c + (k : Int) * 7) % 256))
          rw [u8l, List.setIfInBounds_toArray, ← List.map_set] at this
          exact this
        · rw [gb_set_ _ _ _ _ (by rw [HNL.out]; exact hlt)]
          by_cases hj2 : k = j
          · subst hj2
            rw [if_pos rfl, gb_fillL _ _ _ hlt]
          · rw [if_neg hj2]
            exact HNS.out j (by omega)
      case measure => simp [intOf]; omega
    · obtain rfl : k = n := by omega
      have HE := hide (show ns = fillL k c from by
        refine List.ext_getElem? fun j => ?_
        by_cases hj : j < k
        · have := hns j hj
          simp [gb, List.getD, List.getElem?_eq_getElem (show j < ns.length by omega), List.getElem?_eq_getElem (show j < (fillL k c).length by rw [fillL_length]; omega)] at this
          rw [List.getElem?_eq_getElem (show j < ns.length by omega), List.getElem?_eq_getElem (show j < (fillL k c).length by rw [fillL_length]; omega), this]
        · rw [List.getElem?_eq_none (by omega), List.getElem?_eq_none (by rw [fillL_length]; omega)])
      clear hbk hns hnl ho
      go_wp2
      go_ret
      refine ⟨w.heap.size, by rw [fillL_length]; rfl, Nat.le_refl _, ?_, HO.out⟩
      rw [← HE.out]
      exact HB.out

theorem sameInts_yes (w : World) (A A' : Option Addr) (n c c' : Nat) (zs : List Int) (h : 0 < n → ∃ b o, A = some ⟨b, o, none⟩ ∧ b < w.heap.size ∧ ∀ i, i < n → w.cell? ⟨b, o + i, none⟩ = some (.int .i64 (gb zs i))) (h' : 0 < n → ∃ b o, A' = some ⟨b, o, none⟩ ∧ b < w.heap.size ∧ ∀ i, i < n → w.cell? ⟨b, o + i, none⟩ = some (.int .i64 (gb zs i))) (hn : n ≤ 9223372036854775807) :
    Calls Try.prog 18 #[.slice A n c, .slice A' n c'] w fun e w' => e = .returned (.bool true) ∧ Only [] w w' := by
  have H := hide h
  have H' := hide h'
  clear h h'
  have hb : ((n : Int) != (n : Int)) = false := by simp
  go_enter Try.func18, Try.ntmps18
  go_wp2
  go_loopw [13] (fun i wr => ∃ k : Nat, k ≤ n ∧ i = .int .i64 k ∧ Only [] w wr) (fun i _ => n - (intOf i).toNat)
  case atStart => exact ⟨0, Nat.zero_le _, rfl, Only.refl _ _⟩
  case round =>
    obtain ⟨k, hk, rfl, ho⟩ := hrel
    have HO := hide ho
    by_cases hlt : k < n
    · obtain ⟨b, o, rfl, hbb, hc⟩ := H.out (by omega)
      obtain ⟨b2, o2, rfl, hbb2, hc2⟩ := H'.out (by omega)
      have c1 := (ho.cell hbb (by simp)).trans (hc k hlt)
      have c2 := (ho.cell hbb2 (by simp)).trans (hc2 k hlt)
      have hlt2 : (k : Int) < n := by omega
      clear ho hc hc2 hbb hbb2
      generalize gb zs k = v at c1 c2
      go_wp2
      go_quiet (fail)
      go_wp2
      go_roundw
      case rel => exact ⟨k + 1, hlt, by go_num, HO.out.drewN _⟩
      case measure => simp [intOf]; omega
    · clear ho
      go_wp2
      go_ret
      exact ⟨rfl, HO.out⟩
end Go.Proofs.Ytpkoihbebhmicaa
