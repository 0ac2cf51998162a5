/-
  Calls (parapet/call): the table of the slabs' sizes, which lies in a package variable; Size of the program and of the document.
-/
import Derived.Test.YtccobbfinmlgdaaDoorRows
import Derived.Test.YtccobbfinmlgdaaDoorLib
import Derived.LaidMore
import Derived.Lib.LaidTab
namespace Go.Proofs.YtccobbfinmlgdaaDoor
open Go.ChangeShapes Go.WideShapes Go.ChangeAt Go.RowKit
set_option linter.unusedVariables false

def szL : List Int := [0, 256, 128, 64, 32, 64, 576, 64, 576, 32, 128]
/-- The bytes of an object of a kind. -/
def szF (k : Int) : Int := if 0 ≤ k ∧ k < 11 then szL.getD k.toNat 0 else 0
structure TabS (w : World) : Prop where
  size : ∀ i, i < 11 → w.cell? ⟨0, i, none⟩ = some (.int .i64 (szL.getD i 0))
theorem TabS.lt {w : World} (h : TabS w) : 0 < w.heap.size := World.block_lt_of_cell? w ⟨0, 0, none⟩ (h.size 0 (by decide))
theorem TabS.only {w w' : World} {S : List Nat} (h : TabS w) (ho : Only S w w') (hS : ∀ k ∈ S, 1 ≤ k) : TabS w' := by
  have hl := h.lt
  exact ⟨fun i hi => (ho.cell (by omega) (fun hm => by have := hS 0 hm; omega)).trans (h.size i hi)⟩

theorem gSizes : Tryd.prog.globalNamed "parapet/slab.sizes" = some 0 := by kernel_rfl
def laidT {H : Type} : List (String × DataW H) := [("parapet/slab.sizes", Rows.laid_parapet_slab_sizes)]
set_option maxRecDepth 100000 in
theorem of_laid8 {W : World} (h : laidMetH Tryd.prog laidT W) : TabS W := by
  rw [MakeChecks.laidMetH_plain _ _ _ (by kernel_rfl)] at h
  have e2 : (Rows.laid_parapet_slab_sizes : DataW Unit) = Lib.tabData .i64 szL := by kernel_rfl
  unfold laidT at h
  rw [e2] at h
  have t2 := Lib.tabIs_of_head gSizes (t := 58) (by kernel_rfl) Tryd.underlying58 Tryd.underlying3 (by kernel_rfl) (by kernel_rfl) h
  exact ⟨fun i hi => t2.cell gSizes i (by simpa [szL] using hi)⟩

section
variable {w : World}
theorem hSize_is (h : TabS w) (k : Int) : Calls Tryd.prog 17 #[.int .i64 k] w fun e w' => e = .returned (.int .i64 (szF k)) ∧ w = w' := by
  by_cases h0 : k < 0
  · have HE := hide (show szF k = 0 by unfold szF; rw [if_neg (by omega)])
    go_enter Tryd.func17, Tryd.ntmps17
    go_wp2
    go_ret
    exact ⟨by rw [HE.out]; rfl, rfl⟩
  · by_cases h1 : 11 ≤ k
    · have HE := hide (show szF k = 0 by unfold szF; rw [if_neg (by omega)])
      go_enter Tryd.func17, Tryd.ntmps17
      go_wp2
      go_ret
      exact ⟨by rw [HE.out]; rfl, rfl⟩
    · have HE := hide (show szF k = szL.getD k.toNat 0 by unfold szF; rw [if_pos (by omega)])
      have hc := h.size k.toNat (by omega)
      have hk0 : 0 ≤ k := by omega
      have hk1 : k < 11 := by omega
      generalize szL.getD k.toNat 0 = z at hc HE
      go_enter Tryd.func17, Tryd.ntmps17
      go_wp2
      go_ret
      exact ⟨by rw [HE.out]; rfl, rfl⟩
theorem cisCall_yes (n : Int) (h1 : 1 ≤ n) (h2 : n ≤ 30) : Calls Tryd.prog 36 #[.int .i64 n] w fun e w' => e = .returned (.bool true) ∧ w = w' := by
  go_enter Tryd.func36, Tryd.ntmps36
  go_wp2
  go_ret
  exact ⟨rfl, rfl⟩
theorem cisCall_no (n : Int) (h : ¬ (1 ≤ n ∧ n ≤ 30)) : Calls Tryd.prog 36 #[.int .i64 n] w fun e w' => e = .returned (.bool false) ∧ w = w' := by
  by_cases h1 : n < 1
  · clear h
    go_enter Tryd.func36, Tryd.ntmps36
    go_wp2
    go_ret
    exact ⟨rfl, rfl⟩
  · have h2 : decide (n ≤ 30) = false := by simp; omega
    have h3 : 1 ≤ n := by omega
    clear h h1
    go_enter Tryd.func36, Tryd.ntmps36
    go_wp2
    go_ret
    exact ⟨rfl, rfl⟩
end
end Go.Proofs.YtccobbfinmlgdaaDoor
