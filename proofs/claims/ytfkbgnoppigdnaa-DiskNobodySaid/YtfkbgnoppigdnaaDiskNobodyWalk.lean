/-
  The walk of 'DiskNobody': it answers true, and turns nothing that was there.
-/
import Derived.Test.YtfkbgnoppigdnaaDiskAwake
namespace Go.Proofs.Ytfkbgnoppigdnaa
open Go.ChangeShapes Go.WideShapes Go.ChangeAt Go.RowKit
set_option linter.unusedVariables false

set_option maxRecDepth 100000 in
set_option maxHeartbeats 2000000 in
theorem diskNobody_walk (n : Int) (A : Option Addr) (m c : Nat) (w : World) :
    Calls Try.prog 12 #[.int .i64 n, .slice A m c] w fun e w' => e = .returned (.bool true) ∧ Below w.heap.size w w' := by
  go_enter Try.func12, Try.ntmps12
  go_wp2_with fail
  refine (awake_ok _).mono ?_
  rintro e w1 ⟨rfl, ho⟩
  have HO := hide ho
  clear ho
  go_wp2_with (first | (go_at_call 43; refine (dread_nil _ _).mono ?_; rintro e w' ⟨rfl, rfl⟩) | (go_at_call 49; refine (dcounts_nil _).mono ?_; rintro e w2 ⟨rfl, ho2⟩; have HO2 := hide (HO.out.trans ho2); clear ho2) | (go_at_call 34; refine (dstop_nil _ _).mono ?_; rintro e w' ⟨rfl, rfl⟩) | (go_at_call 35; refine (dwrite_nil _ _ _ _ _).mono ?_; rintro e w' ⟨rfl, rfl⟩) | (go_at_call 37; refine (dflush_nil _).mono ?_; rintro e w' ⟨rfl, rfl⟩) | (go_at_call 44; refine (dpending_nil _).mono ?_; rintro e w' ⟨rfl, rfl⟩) | (go_at_call 45; refine (dimage_nil _).mono ?_; rintro e w' ⟨rfl, rfl⟩) | (go_at_call 50; refine (dcount_nil _).mono ?_; rintro e w' ⟨rfl, rfl⟩) | (go_at_call 47; refine (doff_nil _).mono ?_; rintro e w' ⟨rfl, rfl⟩) | (go_at_call 42; refine (dcrash_nil _ _ _ _).mono ?_; rintro e w' ⟨rfl, rfl⟩) | (go_at_call 33; refine (dfork_nil _).mono ?_; rintro e w' ⟨rfl, rfl⟩))
  go_ret
  exact ⟨rfl, HO2.out.below (Nat.le_refl _) (by simp)⟩
end Go.Proofs.Ytfkbgnoppigdnaa
