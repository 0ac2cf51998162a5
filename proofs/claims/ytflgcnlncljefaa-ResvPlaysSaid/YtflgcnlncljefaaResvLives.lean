/-
  The gate (parapet/resv): what must come of every program (the law's lives).
-/
import Derived.Test.YtflgcnlncljefaaResvNil
namespace Go.Proofs.Ytflgcnlncljefaa
open Go.ChangeShapes Go.WideShapes Go.ChangeAt Go.RowKit
set_option linter.unusedVariables false

theorem TurnedG.new {w w1 w2 : World} {F F' : List Nat} (h0 : Only [] w w1) (hF : ∀ q ∈ F, w.heap.size ≤ q) (ht : TurnedG w1 w2 F F') : Only [] w w2 ∧ ∀ q ∈ F', w.heap.size ≤ q :=
  ⟨h0.trans' ht.1 (fun k hk hm => by have := hF k hm; omega), fun q hq => by
    rcases ht.2 q hq with h | h
    · exact hF q h
    · have := h0.size; omega⟩
theorem lv1 : enterF 100 ⟨0, []⟩ 1 60 = (true, 0, ⟨0, [⟨1, 60, 0, false⟩]⟩) := rfl
theorem lv2 : enterF 100 ⟨0, [⟨1, 60, 0, false⟩]⟩ 2 50 = (false, 0, ⟨0, [⟨1, 60, 0, false⟩, ⟨2, 50, 0, true⟩]⟩) := rfl
theorem lv3 : enterF 100 ⟨0, [⟨1, 60, 0, false⟩, ⟨2, 50, 0, true⟩]⟩ 3 10 = (false, 0, ⟨0, [⟨1, 60, 0, false⟩, ⟨2, 50, 0, true⟩, ⟨3, 10, 0, true⟩]⟩) := rfl
theorem lv4 : takeF ⟨0, [⟨1, 60, 0, false⟩, ⟨2, 50, 0, true⟩, ⟨3, 10, 0, true⟩]⟩ 1 40 = (0, ⟨40, [⟨1, 20, 40, false⟩, ⟨2, 50, 0, true⟩, ⟨3, 10, 0, true⟩]⟩) := rfl
theorem lv5 : leaveF 100 ⟨40, [⟨1, 20, 40, false⟩, ⟨2, 50, 0, true⟩, ⟨3, 10, 0, true⟩]⟩ 1 = ([2, 3], 0, ⟨40, [⟨2, 50, 0, false⟩, ⟨3, 10, 0, false⟩]⟩) := rfl

set_option maxHeartbeats 1500000 in
set_option maxRecDepth 100000 in
theorem lives9 (w : World) : Calls Try.prog 11 #[] w fun e w' => e = .returned (.bool true) ∧ Only [] w w' := by
  go_enter Try.func11, Try.ntmps11
  go_wp2_with fail
  refine (gNew_ok 100 (by decide)).mono ?_
  rintro e w1 ⟨g, F, rfl, hg, hF, ho⟩
  go_wp2_with fail
  refine (gEnter_is hg 1 60).mono ?_
  rw [lv1]
  rintro e w2 ⟨rfl, F2, ht2, hg2⟩
  obtain ⟨ho2, hF2⟩ := ht2.new ho hF
  clear ht2 hg hF ho
  go_wp2_with fail
  refine (gEnter_is hg2 2 50).mono ?_
  rw [lv2]
  rintro e w3 ⟨rfl, F3, ht3, hg3⟩
  obtain ⟨ho3, hF3⟩ := ht3.new ho2 hF2
  clear ht3 hg2 hF2 ho2
  go_wp2_with fail
  refine (gEnter_is hg3 3 10).mono ?_
  rw [lv3]
  rintro e w4 ⟨rfl, F4, ht4, hg4⟩
  obtain ⟨ho4, hF4⟩ := ht4.new ho3 hF3
  clear ht4 hg3 hF3 ho3
  go_wp2_with fail
  refine (gTake_is hg4 1 40).mono ?_
  rw [lv4]
  rintro e w5 ⟨rfl, F5, ht5, hg5⟩
  obtain ⟨ho5, hF5⟩ := ht5.new ho4 hF4
  clear ht5 hg4 hF4 ho4
  go_wp2_with fail
  refine (gLeave_is hg5 1).mono ?_
  rw [lv5]
  rintro e w6 ⟨v6, rfl, hk6, F6, ht6, hg6⟩
  obtain ⟨ho6, hF6⟩ := ht6.new ho5 hF5
  clear ht6 hg5 hF5 ho5
  obtain ⟨A, c, rfl, hA⟩ := hk6.form
  obtain ⟨b, rfl, _, _, hc⟩ := hA (by decide)
  have c0 : w6.cell? ⟨b, 0, none⟩ = some (.int .i64 2) := hc 0 (by decide)
  have c1 : w6.cell? ⟨b, 1, none⟩ = some (.int .i64 3) := hc 1 (by decide)
  obtain ⟨v7, hi7, _, _⟩ := hg6
  have HH := hide (gHeap_is hi7)
  have HO := hide ho6
  clear hc hA hk6 hi7 hF6 ho6
  simp only [List.length_cons, List.length_nil, Nat.zero_add, Nat.reduceAdd]
  go_wp2_with (go_at_call 18; refine HH.out.mono ?_; rintro e w' ⟨rfl, ho7⟩; have HO7 := hide ho7; clear ho7)
  go_ret
  exact ⟨rfl, HO.out.trans HO7.out⟩
end Go.Proofs.Ytflgcnlncljefaa
