/-
  The law's own helper 'zero': are all bytes of a frame 0?
-/
import Derived.Test.YtfbegickdnjfcaaFrFree
namespace Go.Proofs.Ytfbegickdnjfcaa
open Go.ChangeShapes Go.WideShapes Go.ChangeAt Go.RowKit
set_option linter.unusedVariables false

set_option maxRecDepth 100000 in
theorem zero6_yes {w : World} {g d cap : Nat} {xs : List Int} {r : List Value} (hm : IsMem w g d cap xs r) (x : Int) (k : Nat) (hxk : x = k) (hk : 256 * k + 256 ≤ xs.length) (hz : ZeroAt xs k) :
    Calls Try.prog 22 #[.pointer (some ⟨g, 0, none⟩), .int .i64 x] w fun e w' => e = .returned (.bool true) ∧ Only [] w w' := by
  have HG := hide ((getframe_ok hm x (by omega) (by omega)).mono (R' := fun e w' => ∃ A c, e = .returned (.tuple #[.slice A 256 c, .int .i64 0]) ∧ (∃ b, A = some ⟨b, 0, none⟩ ∧ ∀ i, i < 256 → w'.cell? ⟨b, i, none⟩ = some (.int .u8 0)) ∧ Only [] w w') (by
    rintro e w' ⟨v', he, ⟨d2, c, r2, hv, _, hb, _⟩, ho⟩
    have hl : ((xs.drop (256 * x.toNat)).take 256).length = 256 := by rw [List.length_take, List.length_drop]; omega
    refine ⟨some ⟨d2, 0, none⟩, c, by rw [he, hv, hl], ⟨d2, rfl, fun i hi => ?_⟩, ho⟩
    rw [hb.cell, u8l_get _ _ _ (by rw [hl]; exact hi), gb_cut _ _ _ _ hi, show x.toNat = k by omega, hz i hi]))
  clear hm hz hxk hk
  go_enter Try.func22, Try.ntmps22
  go_wp2_with fail
  refine HG.out.mono ?_
  rintro e w1 ⟨A, c, rfl, ⟨b, rfl, hc⟩, ho⟩
  have HC := hide hc
  have HO := hide ho
  clear hc ho HG
  go_wp2
  go_loopw [17] (fun i wr => ∃ k : Nat, k ≤ 256 ∧ i = .int .i64 k ∧ wr = w1) (fun i _ => 256 - (intOf i).toNat)
  case atStart => exact ⟨0, Nat.zero_le _, rfl, rfl⟩
  case round =>
    obtain ⟨k, hk, rfl, rfl⟩ := hrel
    by_cases hlt : k < 256
    · have hck := HC.out k hlt
      go_wp2
      go_roundw
      case rel => exact ⟨k + 1, by omega, by go_num, trivial⟩
      case measure => simp [intOf]; omega
    · obtain rfl : k = 256 := by omega
      rw [show ((256 : Nat) : Int) = 256 from rfl]
      go_wp2
      go_ret
      exact ⟨rfl, HO.out⟩
end Go.Proofs.Ytfbegickdnjfcaa
