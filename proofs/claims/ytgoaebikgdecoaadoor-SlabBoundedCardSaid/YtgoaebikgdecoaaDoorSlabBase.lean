/-
  Slabs (parapet/slab): the two tables that lie in package variables; Size, places; bits.TrailingZeros64.
-/
import Derived.Test.YtgoaebikgdecoaaDoorRows
import Derived.Test.YtgoaebikgdecoaaDoorLib
import Derived.LaidMore
import Derived.Lib.LaidTab
import Derived.Stop.LaidErr
import Derived.Laws.Bits64b
import Derived.Lib.TrailingZeros
import Derived.Shelf.Spec.TrailingZeros
namespace Go.Proofs.YtgoaebikgdecoaaDoor
open Go.ChangeShapes Go.WideShapes Go.ChangeAt Go.RowKit
set_option linter.unusedVariables false

def szL : List Int := [0, 256, 128, 64, 32, 64, 576, 64, 576, 32, 128]
/-- The bytes of an object of a kind. -/
def szF (k : Int) : Int := if 0 ≤ k ∧ k < 11 then szL.getD k.toNat 0 else 0
/-- How many of a kind a slab holds. -/
def plF (k : Int) : Int := if szF k = 0 then 0 else 2048 / szF k
structure TabS (w : World) : Prop where
  size : ∀ i, i < 11 → w.cell? ⟨0, i, none⟩ = some (.int .i64 (szL.getD i 0))
  bru : ∀ j, j < 64 → w.cell? ⟨1, j, none⟩ = some (.int .u8 (Lib.deBruijn64tab.getD j 0 : Nat))
theorem TabS.lt {w : World} (h : TabS w) : 1 < w.heap.size := World.block_lt_of_cell? w ⟨1, 0, none⟩ (h.bru 0 (by decide))
theorem TabS.only {w w' : World} {S : List Nat} (h : TabS w) (ho : Only S w w') (hS : ∀ k ∈ S, 2 ≤ k) : TabS w' := by
  have hl := h.lt
  exact ⟨fun i hi => (ho.cell (by omega) (fun hm => by have := hS 0 hm; omega)).trans (h.size i hi), fun j hj => (ho.cell hl (fun hm => by have := hS 1 hm; omega)).trans (h.bru j hj)⟩

theorem gSizes : Tryd.prog.globalNamed "parapet/slab.sizes" = some 0 := by kernel_rfl
theorem gBru : Tryd.prog.globalNamed "math/bits.deBruijn64tab" = some 1 := by kernel_rfl
def laidT {H : Type} : List (String × DataW H) := [("math/bits.deBruijn64tab", Rows.laid_math_bits_deBruijn64tab), ("parapet/slab.sizes", Rows.laid_parapet_slab_sizes)]
set_option maxRecDepth 100000 in
theorem of_laid8 {W : World} (h : laidMetH Tryd.prog laidT W) : TabS W := by
  rw [MakeChecks.laidMetH_plain _ _ _ (by kernel_rfl)] at h
  have e1 : (Rows.laid_math_bits_deBruijn64tab : DataW Unit) = Lib.tabData .u8 (Lib.deBruijn64tab.map fun (n : Nat) => (n : Int)) := by kernel_rfl
  have e2 : (Rows.laid_parapet_slab_sizes : DataW Unit) = Lib.tabData .i64 szL := by kernel_rfl
  unfold laidT at h
  rw [e1, e2] at h
  have t1 := Lib.tabIs_of_head gBru (t := 76) (by kernel_rfl) Tryd.underlying76 Tryd.underlying5 (by kernel_rfl) (by kernel_rfl) h
  have t2 := Lib.tabIs_of_head gSizes (t := 72) (by kernel_rfl) Tryd.underlying72 Tryd.underlying3 (by kernel_rfl) (by kernel_rfl) (laidMet.tail h)
  refine ⟨fun i hi => t2.cell gSizes i (by simpa [szL] using hi), fun j hj => ?_⟩
  have hl : (Lib.deBruijn64tab.map fun (n : Nat) => (n : Int)).length = 64 := by decide +kernel
  have := t1.cell gBru j (by rw [hl]; exact hj)
  rw [this]
  congr 2
  have h64 : Lib.deBruijn64tab.length = 64 := by decide +kernel
  have hl2 : j < Lib.deBruijn64tab.length := by omega
  simp [List.getD, hl2]

section
variable {w : World}
theorem hSize_is (h : TabS w) (k : Int) : Calls Tryd.prog 16 #[.int .i64 k] w fun e w' => e = .returned (.int .i64 (szF k)) ∧ w = w' := by
  by_cases h0 : k < 0
  · have HE := hide (show szF k = 0 by unfold szF; rw [if_neg (by omega)])
    go_enter Tryd.func16, Tryd.ntmps16
    go_wp2
    go_ret
    exact ⟨by rw [HE.out]; rfl, rfl⟩
  · by_cases h1 : 11 ≤ k
    · have HE := hide (show szF k = 0 by unfold szF; rw [if_neg (by omega)])
      go_enter Tryd.func16, Tryd.ntmps16
      go_wp2
      go_ret
      exact ⟨by rw [HE.out]; rfl, rfl⟩
    · have HE := hide (show szF k = szL.getD k.toNat 0 by unfold szF; rw [if_pos (by omega)])
      have hc := h.size k.toNat (by omega)
      have hk0 : 0 ≤ k := by omega
      have hk1 : k < 11 := by omega
      generalize szL.getD k.toNat 0 = z at hc HE
      go_enter Tryd.func16, Tryd.ntmps16
      go_wp2
      go_ret
      exact ⟨by rw [HE.out]; rfl, rfl⟩
theorem szF_vals (k : Int) (h : szF k ≠ 0) : szF k = 256 ∨ szF k = 128 ∨ szF k = 64 ∨ szF k = 32 ∨ szF k = 576 := by
  unfold szF at h ⊢
  split
  · rename_i hk
    rw [if_pos hk] at h
    have hx : ∀ n : Nat, n < 11 → szL.getD n 0 ≠ 0 → szL.getD n 0 = 256 ∨ szL.getD n 0 = 128 ∨ szL.getD n 0 = 64 ∨ szL.getD n 0 = 32 ∨ szL.getD n 0 = 576 := by decide +kernel
    exact hx k.toNat (by omega) h
  · rename_i hk
    rw [if_neg hk] at h
    exact absurd rfl h
theorem hplaces_is (h : TabS w) (k : Int) : Calls Tryd.prog 45 #[.int .i64 k] w fun e w' => e = .returned (.int .i64 (plF k)) ∧ w = w' := by
  have HS := hide (hSize_is h k)
  by_cases h0 : szF k = 0
  · have HE := hide (show plF k = 0 by unfold plF; rw [if_pos h0])
    rw [h0] at HS
    clear h
    go_enter Tryd.func45, Tryd.ntmps45
    go_wp2_with (go_at_call 16; refine HS.out.mono ?_; rintro e w' ⟨rfl, rfl⟩)
    go_ret
    exact ⟨by rw [HE.out]; rfl, rfl⟩
  · have hv := szF_vals k h0
    have HE := hide (show plF k = 2048 / szF k by unfold plF; rw [if_neg h0])
    clear h
    revert HS HE
    generalize szF k = z at *
    intro HS HE
    have hq : IntKind.i64.wrap ((2048 : Int).tdiv z) = 2048 / z := by
      rcases hv with rfl | rfl | rfl | rfl | rfl <;> decide
    have hb : (z == 0) = false := beq_eq_false_iff_ne.2 h0
    have hz0 : z ≠ 0 := h0
    clear hv
    go_enter Tryd.func45, Tryd.ntmps45
    go_wp2_with (go_at_call 16; refine HS.out.mono ?_; rintro e w' ⟨rfl, rfl⟩)
    go_ret
    exact ⟨by rw [HE.out]; rfl, rfl⟩
theorem plF_vals (k : Int) (h : plF k ≠ 0) : plF k = 8 ∨ plF k = 16 ∨ plF k = 32 ∨ plF k = 64 ∨ plF k = 3 := by
  unfold plF at h ⊢
  split
  · rename_i hk; rw [if_pos hk] at h; exact absurd rfl h
  · rename_i hk
    rcases szF_vals k hk with e | e | e | e | e <;> rw [e] <;> decide
theorem plF_le (k : Int) : 0 ≤ plF k ∧ plF k ≤ 64 := by
  by_cases h : plF k = 0
  · omega
  · have := plF_vals k h; omega

theorem tz64_core (x k idx : Nat) (hx0 : ((x : Int) == 0) = false)
    (key : IntKind.u64.wrap (bits BinOp.and IntKind.u64 (x : Int) (IntKind.u64.wrap (-(x : Int))) * 285870213051353865) / 288230376151711744 = (idx : Int))
    (hi : idx < 64) (hk : k < 64) (hcell : w.cell? ⟨1, idx, none⟩ = some (.int .u8 k)) :
    Calls Tryd.prog 33 #[.int .u64 x] w fun e w' => e = .returned (.int .i64 k) ∧ w = w' := by
  go_enter Tryd.func33, Tryd.ntmps33
  go_wp2_with (simp only [key])
  go_ret
  exact ⟨rfl, rfl⟩
theorem tz64_is (h : TabS w) (x : Nat) (hx : x < 18446744073709551616) (hx0 : x ≠ 0) : Calls Tryd.prog 33 #[.int .u64 x] w fun e w' => e = .returned (.int .i64 (Lib.ctz 64 x)) ∧ w = w' := by
  obtain ⟨hlow, hk⟩ := Lib.lowest_bit 64 x hx0 hx
  obtain ⟨hi, htab⟩ := Lib.deBruijn64_at _ hk
  have hcell := h.bru _ hi
  rw [htab] at hcell
  exact tz64_core x _ _ (by simp; omega) (tz64_key x _ hx hx0 hlow) hi hk hcell
end
end Go.Proofs.YtgoaebikgdecoaaDoor
