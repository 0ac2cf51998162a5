/-
  'FrameDoes': does, every kind of a step.
-/
import Derived.Test.YtfbegickdnjfcaaRef06n
import Derived.Test.YtfbegickdnjfcaaRef06l
namespace Go.Proofs.Ytfbegickdnjfcaa
open Go.ChangeShapes Go.WideShapes Go.ChangeAt Go.RowKit
set_option linter.unusedVariables false
set_option linter.unusedSimpArgs false
section
variable {w : World} {n0 t g d cap : Nat} {xs : List Int} {r : List Value} {first harts : Nat} {v : Nat → Value} {ns : Nat → List Int} {a cC bL : Nat} {vs : Nat → Value} {Z : List Nat}
/-- does, kind 4: both are looked at. -/
theorem does_looks (B : B6 w n0 t g d cap xs r first harts v ns a cC bL vs Z ns) (P : P6 xs first ns) (hpos : 0 < (ns 2).length) (h x : Int) :
    Calls Try.prog 9 #[.pointer (some ⟨g, 0, none⟩), .pointer (some ⟨t, 0, none⟩), .pointer (some ⟨a, 0, none⟩), .agg #[.int .i64 4, .int .i64 h, .int .i64 x]] w fun e w' => e = .returned (.bool true) ∧ Did6 w w' n0 t g d cap xs.length r first harts (ns 2).length a cC bL := by
  have HB := hide (fun W (ho : Only [] w W) => B.only ho)
  have HL := hide (fun W (ho : Only [] w W) => looks_is (HB.out W ho).1 P hpos)
  have HP := hide P
  clear B P hpos
  go_enter Try.func9, Try.ntmps9
  go_wp2_with (go_at_call 10; refine (HL.out _ (by repeat (first | exact Only.refl _ _ | apply Only.drew | apply Only.alloc | apply Only.drewN))).mono ?_; rintro e w' ⟨rfl, hb⟩; have HBW := hide (Only.of_below hb); clear hb)
  go_ret
  have ho := ((Only.refl [] w).alloc (.cells #[.int .i64 4, .int .i64 h, .int .i64 x] 37)).trans HBW.out
  obtain ⟨B', hb⟩ := HB.out _ ho
  exact ⟨rfl, ⟨_, _, _, _, _, B', HP.out, rfl, rfl⟩, hb⟩

/-- does: every step. -/
theorem does_is (B : B6 w n0 t g d cap xs r first harts v ns a cC bL vs Z ns) (P : P6 xs first ns) (hpos : 0 < (ns 2).length) (k h x : Int) (hx : x ≤ 9223372036854775807) :
    Calls Try.prog 9 #[.pointer (some ⟨g, 0, none⟩), .pointer (some ⟨t, 0, none⟩), .pointer (some ⟨a, 0, none⟩), .agg #[.int .i64 k, .int .i64 h, .int .i64 x]] w fun e w' => e = .returned (.bool true) ∧ Did6 w w' n0 t g d cap xs.length r first harts (ns 2).length a cC bL := by
  by_cases e0 : k = 0
  · subst e0
    by_cases hh : 0 ≤ h ∧ h < harts
    · obtain ⟨j, rfl⟩ := Int.eq_ofNat_of_zero_le hh.1
      exact does_alloc B P j x (by omega)
    · exact does_alloc_arg B P h x hh
  by_cases e1 : k = 1
  · subst e1
    by_cases hh : 0 ≤ h ∧ h < harts
    · obtain ⟨j, rfl⟩ := Int.eq_ofNat_of_zero_le hh.1
      rcases P.count x with h0 | ⟨q, rfl, hq, h1, h2⟩
      · exact does_decr_no B P j x (by omega) hx h0
      · by_cases h3 : gb (ns 2) q = 1
        · exact does_decr_free B P j (by omega) q hq h3
        · exact does_decr_less B P j (by omega) q hq (by omega) h2
    · exact does_decr_arg B P h x hh
  by_cases e2 : k = 2
  · subst e2
    rcases P.count x with h0 | ⟨q, rfl, hq, h1, h2⟩
    · exact does_incr_no B P h x hx h0
    · by_cases h3 : gb (ns 2) q = 1048576
      · exact does_incr_full B P h _ hx (by rw [cntF_at rfl hq]; exact h3)
      · exact does_incr_ok B P h q hq h1 (by omega)
  by_cases e3 : k = 3
  · subst e3
    rcases P.count x with h0 | ⟨q, rfl, hq, h1, h2⟩
    · exact does_write_no B P h x hx h0
    · exact does_write B P h q hq h1
  by_cases e4 : k = 4
  · subst e4
    exact does_looks B P hpos h x
  exact does_else B P k h x e0 e1 e2 e3 e4
end
end Go.Proofs.Ytfbegickdnjfcaa
