/-
  'FrameDoes': does, for a step that counts a frame once more.
-/
import Derived.Test.YtfbegickdnjfcaaRef06j
namespace Go.Proofs.Ytfbegickdnjfcaa
open Go.ChangeShapes Go.WideShapes Go.ChangeAt Go.RowKit
set_option linter.unusedVariables false
set_option linter.unusedSimpArgs false
section
variable {w w' w1 w2 : World} {n0 t g d cap : Nat} {xs xs' : List Int} {r : List Value} {first harts : Nat} {v : Nat → Value} {ns ns' : Nat → List Int} {a cC bL : Nat} {vs : Nat → Value} {Z : List Nat}

/-- does, kind 2: a frame that is counted 0 times. -/
theorem does_incr_no (B : B6 w n0 t g d cap xs r first harts v ns a cC bL vs Z ns) (P : P6 xs first ns) (h x : Int) (hx : x ≤ 9223372036854775807) (h0 : cntF first ns x = 0) :
    Calls Try.prog 9 #[.pointer (some ⟨g, 0, none⟩), .pointer (some ⟨t, 0, none⟩), .pointer (some ⟨a, 0, none⟩), .agg #[.int .i64 2, .int .i64 h, .int .i64 x]] w fun e w' => e = .returned (.bool true) ∧ Did6 w w' n0 t g d cap xs.length r first harts (ns 2).length a cC bL := by
  have HB := hide (fun W (ho : Only [] w W) => B.only ho)
  have ho : ∀ n, Only [] w ((w.alloc (.cells #[.int .i64 2, .int .i64 h, .int .i64 x] 37)).drewN n) := fun n => ((Only.refl [] w).alloc _).drewN _
  have H1 := hide (fun n => incr_no (HB.out _ (ho n)).1.fr x hx h0)
  have H2 := hide (fun n => rincr_no (HB.out _ (ho n)).1.rf x hx h0)
  have H3 := hide (fun n => fCount_is (HB.out _ (ho n)).1.fr x hx)
  have H4 := hide (fun n => rcount_is (HB.out _ (ho n)).1.rf x hx)
  rw [h0] at H3 H4
  have HO := hide ho
  have HP := hide P
  clear B P h0 ho
  go_enter Try.func9, Try.ntmps9
  go_wp2_with fail
  go_quiet (first | (go_at_call 24; exact Calls.quiet_of (H1.out _)) | (go_at_call 25; exact Calls.quiet_of (H2.out _)) | (go_at_call 26; exact Calls.quiet_of (H3.out _)) | (go_at_call 27; exact Calls.quiet_of (H4.out _)))
  go_wp2
  go_ret
  obtain ⟨B', hb⟩ := HB.out _ (HO.out _)
  exact ⟨rfl, ⟨_, _, _, _, _, B', HP.out, rfl, rfl⟩, hb⟩

/-- does, kind 2: a frame that is counted 1048576 times. -/
theorem does_incr_full (B : B6 w n0 t g d cap xs r first harts v ns a cC bL vs Z ns) (P : P6 xs first ns) (h x : Int) (hx : x ≤ 9223372036854775807) (h0 : cntF first ns x = 1048576) :
    Calls Try.prog 9 #[.pointer (some ⟨g, 0, none⟩), .pointer (some ⟨t, 0, none⟩), .pointer (some ⟨a, 0, none⟩), .agg #[.int .i64 2, .int .i64 h, .int .i64 x]] w fun e w' => e = .returned (.bool true) ∧ Did6 w w' n0 t g d cap xs.length r first harts (ns 2).length a cC bL := by
  have HB := hide (fun W (ho : Only [] w W) => B.only ho)
  have ho : ∀ n, Only [] w ((w.alloc (.cells #[.int .i64 2, .int .i64 h, .int .i64 x] 37)).drewN n) := fun n => ((Only.refl [] w).alloc _).drewN _
  have H1 := hide (fun n => incr_full (HB.out _ (ho n)).1.fr x hx h0)
  have H2 := hide (fun n => rincr_full (HB.out _ (ho n)).1.rf x hx h0)
  have H3 := hide (fun n => fCount_is (HB.out _ (ho n)).1.fr x hx)
  have H4 := hide (fun n => rcount_is (HB.out _ (ho n)).1.rf x hx)
  rw [h0] at H3 H4
  have HO := hide ho
  have HP := hide P
  clear B P h0 ho
  go_enter Try.func9, Try.ntmps9
  go_wp2_with fail
  go_quiet (first | (go_at_call 24; exact Calls.quiet_of (H1.out _)) | (go_at_call 25; exact Calls.quiet_of (H2.out _)) | (go_at_call 26; exact Calls.quiet_of (H3.out _)) | (go_at_call 27; exact Calls.quiet_of (H4.out _)))
  go_wp2
  go_ret
  obtain ⟨B', hb⟩ := HB.out _ (HO.out _)
  exact ⟨rfl, ⟨_, _, _, _, _, B', HP.out, rfl, rfl⟩, hb⟩
end
end Go.Proofs.Ytfbegickdnjfcaa
