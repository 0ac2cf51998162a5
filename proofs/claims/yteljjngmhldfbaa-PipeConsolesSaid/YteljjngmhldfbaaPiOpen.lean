/-
  The pipe (parapet/pipe): Open, Close; a nil pipe, a nil console.
-/
import Derived.Test.YteljjngmhldfbaaPiWrite
namespace Go.Proofs.Yteljjngmhldfbaa
open Go.ChangeShapes Go.WideShapes Go.ChangeAt Go.RowKit
set_option linter.unusedVariables false
set_option linter.unusedSimpArgs false
section
variable {w w' : World} {g f : Nat} {R B : List Int} {r q : Int} {S : List Nat}
theorem piend_is (g : Nat) (b : Bool) (w : World) : Calls Try.prog 44 #[.pointer (some ⟨g, 0, none⟩), .bool b] w fun e w' => e = .returned (.pointer (some ⟨g, if b then 516 else 515, none⟩)) ∧ w = w' := by
  cases b
  · go_enter Try.func44, Try.ntmps44
    go_wp2
    go_ret
    exact ⟨rfl, rfl⟩
  · go_enter Try.func44, Try.ntmps44
    go_wp2
    go_ret
    exact ⟨rfl, rfl⟩
/-- An end held once more: what is told, and how often both are held then. -/
def openP (r q : Int) (b : Bool) : Int × Int × Int := if b then (if q = 2147483647 then (2, r, q) else (0, r, q + 1)) else (if r = 2147483647 then (2, r, q) else (0, r + 1, q))
/-- An end held once less. -/
def closeP (r q : Int) (b : Bool) : Bool × Int × Int × Int :=
  if b then (if q = 0 then (false, 4, r, q) else (r == 0 && q - 1 == 0, 0, r, q - 1)) else (if r = 0 then (false, 4, r, q) else (r - 1 == 0 && q == 0, 0, r - 1, q))
theorem piOpen_is (h : Pi w g B r q) (b : Bool) : Calls Try.prog 25 #[.pointer (some ⟨g, 0, none⟩), .bool b] w fun e w' => e = .returned (.int .i64 (openP r q b).1) ∧ Only [g] w w' ∧ Pi w' g B (openP r q b).2.1 (openP r q b).2.2 := by
  have HP := hide h
  obtain ⟨R, f, h⟩ := h
  have c4 := h.c515
  have c5 := h.c516
  have f4 := h.blk.frozen 515
  have f5 := h.blk.frozen 516
  have hr := h.rd
  have hq := h.wr
  have H := hide h
  have HC := hide (piclosed_is h)
  have HE := hide (fun b W => piend_is g b W)
  clear h
  cases b
  · by_cases k1 : r = 2147483647
    · have k2 : (r == 2147483647) = true := by simp [k1]
      have HR := hide (show openP r q false = (2, r, q) by simp [openP, k1])
      clear k1
      go_enter Try.func25, Try.ntmps25
      go_wp2_with (first | (go_at_call 40; refine HC.out.mono ?_; rintro e w' ⟨rfl, rfl⟩) | (go_at_call 44; refine (HE.out false _).mono ?_; rintro e w' ⟨rfl, rfl⟩; simp only [if_true, if_false, Bool.false_eq_true]))
      go_ret
      rw [HR.out]
      exact ⟨rfl, Only.refl _ _, HP.out⟩
    · have k2 : (r == 2147483647) = false := by simp [k1]
      have HR := hide (show openP r q false = (0, r + 1, q) by simp [openP, k1])
      have HS := hide (H.out.setR (show 0 ≤ r + 1 ∧ r + 1 ≤ 2147483647 by omega))
      clear k1
      go_enter Try.func25, Try.ntmps25
      go_wp2_with (first | (go_at_call 40; refine HC.out.mono ?_; rintro e w' ⟨rfl, rfl⟩) | (go_at_call 44; refine (HE.out false _).mono ?_; rintro e w' ⟨rfl, rfl⟩; simp only [if_true, if_false, Bool.false_eq_true]))
      go_ret
      rw [HR.out]
      exact ⟨rfl, (Only.refl _ _).setCell _ (by simp), _, _, HS.out⟩
  · by_cases k1 : q = 2147483647
    · have k2 : (q == 2147483647) = true := by simp [k1]
      have HR := hide (show openP r q true = (2, r, q) by simp [openP, k1])
      clear k1
      go_enter Try.func25, Try.ntmps25
      go_wp2_with (first | (go_at_call 40; refine HC.out.mono ?_; rintro e w' ⟨rfl, rfl⟩) | (go_at_call 44; refine (HE.out true _).mono ?_; rintro e w' ⟨rfl, rfl⟩; simp only [if_true, if_false, Bool.false_eq_true]))
      go_ret
      rw [HR.out]
      exact ⟨rfl, Only.refl _ _, HP.out⟩
    · have k2 : (q == 2147483647) = false := by simp [k1]
      have HR := hide (show openP r q true = (0, r, q + 1) by simp [openP, k1])
      have HS := hide (H.out.setQ (show 0 ≤ q + 1 ∧ q + 1 ≤ 2147483647 by omega))
      clear k1
      go_enter Try.func25, Try.ntmps25
      go_wp2_with (first | (go_at_call 40; refine HC.out.mono ?_; rintro e w' ⟨rfl, rfl⟩) | (go_at_call 44; refine (HE.out true _).mono ?_; rintro e w' ⟨rfl, rfl⟩; simp only [if_true, if_false, Bool.false_eq_true]))
      go_ret
      rw [HR.out]
      exact ⟨rfl, (Only.refl _ _).setCell _ (by simp), _, _, HS.out⟩
set_option maxRecDepth 100000 in
theorem piClose_is (h : Pi w g B r q) (b : Bool) : Calls Try.prog 19 #[.pointer (some ⟨g, 0, none⟩), .bool b] w fun e w' => e = .returned (.tuple #[.bool (closeP r q b).1, .int .i64 (closeP r q b).2.1]) ∧ Only [g] w w' ∧ Pi w' g B (closeP r q b).2.2.1 (closeP r q b).2.2.2 := by
  have HP := hide h
  obtain ⟨R, f, h⟩ := h
  have c4 := h.c515
  have c5 := h.c516
  have f4 := h.blk.frozen 515
  have f5 := h.blk.frozen 516
  have hr := h.rd
  have hq := h.wr
  have H := hide h
  have HC := hide (piclosed_is h)
  have HE := hide (fun b W => piend_is g b W)
  clear h
  cases b
  · by_cases k1 : r = 0
    · have k2 : (r == 0) = true := by simp [k1]
      have HR := hide (show closeP r q false = (false, 4, r, q) by simp [closeP, k1])
      clear k1
      go_enter Try.func19, Try.ntmps19
      go_wp2_with (first | (go_at_call 40; refine HC.out.mono ?_; rintro e w' ⟨rfl, rfl⟩) | (go_at_call 44; refine (HE.out false _).mono ?_; rintro e w' ⟨rfl, rfl⟩; simp only [if_true, if_false, Bool.false_eq_true]))
      go_ret2
      rw [HR.out]
      exact ⟨rfl, Only.refl _ _, HP.out⟩
    · have k2 : (r == 0) = false := by simp [k1]
      have HR := hide (show closeP r q false = (r - 1 == 0 && q == 0, 0, r - 1, q) by simp [closeP, k1])
      have HS := hide (H.out.setR (show 0 ≤ r - 1 ∧ r - 1 ≤ 2147483647 by omega))
      have e4 := HS.out.c515
      have e5 := HS.out.c516
      clear k1
      cases hz : (r - 1 == 0)
      · go_enter Try.func19, Try.ntmps19
        go_wp2_with (first | (go_at_call 40; refine HC.out.mono ?_; rintro e w' ⟨rfl, rfl⟩) | (go_at_call 44; refine (HE.out false _).mono ?_; rintro e w' ⟨rfl, rfl⟩; simp only [if_true, if_false, Bool.false_eq_true]))
        go_ret2
        rw [HR.out, hz]
        exact ⟨rfl, (Only.refl _ _).setCell _ (by simp), _, _, HS.out⟩
      · go_enter Try.func19, Try.ntmps19
        go_wp2_with (first | (go_at_call 40; refine HC.out.mono ?_; rintro e w' ⟨rfl, rfl⟩) | (go_at_call 44; refine (HE.out false _).mono ?_; rintro e w' ⟨rfl, rfl⟩; simp only [if_true, if_false, Bool.false_eq_true]))
        go_ret2
        rw [HR.out, hz]
        exact ⟨rfl, (Only.refl _ _).setCell _ (by simp), _, _, HS.out⟩
  · by_cases k1 : q = 0
    · have k2 : (q == 0) = true := by simp [k1]
      have HR := hide (show closeP r q true = (false, 4, r, q) by simp [closeP, k1])
      clear k1
      go_enter Try.func19, Try.ntmps19
      go_wp2_with (first | (go_at_call 40; refine HC.out.mono ?_; rintro e w' ⟨rfl, rfl⟩) | (go_at_call 44; refine (HE.out true _).mono ?_; rintro e w' ⟨rfl, rfl⟩; simp only [if_true, if_false, Bool.false_eq_true]))
      go_ret2
      rw [HR.out]
      exact ⟨rfl, Only.refl _ _, HP.out⟩
    · have k2 : (q == 0) = false := by simp [k1]
      have HR := hide (show closeP r q true = (r == 0 && q - 1 == 0, 0, r, q - 1) by simp [closeP, k1])
      have HS := hide (H.out.setQ (show 0 ≤ q - 1 ∧ q - 1 ≤ 2147483647 by omega))
      have e4 := HS.out.c515
      have e5 := HS.out.c516
      clear k1
      cases hz : (r == 0)
      · go_enter Try.func19, Try.ntmps19
        go_wp2_with (first | (go_at_call 40; refine HC.out.mono ?_; rintro e w' ⟨rfl, rfl⟩) | (go_at_call 44; refine (HE.out true _).mono ?_; rintro e w' ⟨rfl, rfl⟩; simp only [if_true, if_false, Bool.false_eq_true]))
        go_ret2
        rw [HR.out, hz]
        exact ⟨rfl, (Only.refl _ _).setCell _ (by simp), _, _, HS.out⟩
      · go_enter Try.func19, Try.ntmps19
        go_wp2_with (first | (go_at_call 40; refine HC.out.mono ?_; rintro e w' ⟨rfl, rfl⟩) | (go_at_call 44; refine (HE.out true _).mono ?_; rintro e w' ⟨rfl, rfl⟩; simp only [if_true, if_false, Bool.false_eq_true]))
        go_ret2
        rw [HR.out, hz]
        exact ⟨rfl, (Only.refl _ _).setCell _ (by simp), _, _, HS.out⟩
end
section
theorem piclosed_nil (w : World) : Calls Try.prog 40 #[.pointer none] w fun e w' => e = .returned (.bool true) ∧ w = w' := by
  go_enter Try.func40, Try.ntmps40
  go_wp2
  go_ret
  exact ⟨rfl, rfl⟩
theorem coclosed_nil (w : World) : Calls Try.prog 45 #[.pointer none] w fun e w' => e = .returned (.bool true) ∧ w = w' := by
  go_enter Try.func45, Try.ntmps45
  go_wp2
  go_ret
  exact ⟨rfl, rfl⟩
theorem piRead_nil (n : Int) (w : World) : Calls Try.prog 15 #[.pointer none, .int .i64 n] w fun e w' => e = .returned (.tuple #[.slice none 0 0, .int .i64 6]) ∧ w = w' := by
  go_enter Try.func15, Try.ntmps15
  go_wp2_with (go_at_call 40; refine (piclosed_nil _).mono ?_; rintro e w' ⟨rfl, rfl⟩)
  go_ret2
  exact ⟨rfl, rfl⟩
theorem piWrite_nil (A : Option Addr) (m c : Nat) (w : World) : Calls Try.prog 16 #[.pointer none, .slice A m c] w fun e w' => e = .returned (.tuple #[.int .i64 0, .int .i64 6]) ∧ w = w' := by
  go_enter Try.func16, Try.ntmps16
  go_wp2_with (go_at_call 40; refine (piclosed_nil _).mono ?_; rintro e w' ⟨rfl, rfl⟩)
  go_ret2
  exact ⟨rfl, rfl⟩
theorem piClose_nil (b : Bool) (w : World) : Calls Try.prog 19 #[.pointer none, .bool b] w fun e w' => e = .returned (.tuple #[.bool false, .int .i64 6]) ∧ w = w' := by
  go_enter Try.func19, Try.ntmps19
  go_wp2_with (go_at_call 40; refine (piclosed_nil _).mono ?_; rintro e w' ⟨rfl, rfl⟩)
  go_ret2
  exact ⟨rfl, rfl⟩
theorem piOpen_nil (b : Bool) (w : World) : Calls Try.prog 25 #[.pointer none, .bool b] w fun e w' => e = .returned (.int .i64 6) ∧ w = w' := by
  go_enter Try.func25, Try.ntmps25
  go_wp2_with (go_at_call 40; refine (piclosed_nil _).mono ?_; rintro e w' ⟨rfl, rfl⟩)
  go_ret
  exact ⟨rfl, rfl⟩
theorem piReady_nil (b : Bool) (w : World) : Calls Try.prog 20 #[.pointer none, .bool b] w fun e w' => e = .returned (.bool false) ∧ w = w' := by
  go_enter Try.func20, Try.ntmps20
  go_wp2_with (go_at_call 40; refine (piclosed_nil _).mono ?_; rintro e w' ⟨rfl, rfl⟩)
  go_ret
  exact ⟨rfl, rfl⟩
theorem piLen_nil (w : World) : Calls Try.prog 17 #[.pointer none] w fun e w' => e = .returned (.int .i64 0) ∧ w = w' := by
  go_enter Try.func17, Try.ntmps17
  go_wp2_with (go_at_call 40; refine (piclosed_nil _).mono ?_; rintro e w' ⟨rfl, rfl⟩)
  go_ret
  exact ⟨rfl, rfl⟩
theorem piEnds_nil (w : World) : Calls Try.prog 23 #[.pointer none] w fun e w' => e = .returned (.tuple #[.int .i64 0, .int .i64 0]) ∧ w = w' := by
  go_enter Try.func23, Try.ntmps23
  go_wp2_with (go_at_call 40; refine (piclosed_nil _).mono ?_; rintro e w' ⟨rfl, rfl⟩)
  go_ret2
  exact ⟨rfl, rfl⟩
theorem coRead_nil (n : Int) (w : World) : Calls Try.prog 21 #[.pointer none, .int .i64 n] w fun e w' => e = .returned (.tuple #[.slice none 0 0, .int .i64 6]) ∧ w = w' := by
  go_enter Try.func21, Try.ntmps21
  go_wp2_with (go_at_call 45; refine (coclosed_nil _).mono ?_; rintro e w' ⟨rfl, rfl⟩)
  go_ret2
  exact ⟨rfl, rfl⟩
theorem coWrite_nil (A : Option Addr) (m c : Nat) (w : World) : Calls Try.prog 22 #[.pointer none, .slice A m c] w fun e w' => e = .returned (.tuple #[.int .i64 0, .int .i64 6]) ∧ w = w' := by
  go_enter Try.func22, Try.ntmps22
  go_wp2_with (go_at_call 45; refine (coclosed_nil _).mono ?_; rintro e w' ⟨rfl, rfl⟩)
  go_ret2
  exact ⟨rfl, rfl⟩
theorem coType_nil (A : Option Addr) (m c : Nat) (w : World) : Calls Try.prog 26 #[.pointer none, .slice A m c] w fun e w' => e = .returned (.int .i64 6) ∧ w = w' := by
  go_enter Try.func26, Try.ntmps26
  go_wp2_with (go_at_call 45; refine (coclosed_nil _).mono ?_; rintro e w' ⟨rfl, rfl⟩)
  go_ret
  exact ⟨rfl, rfl⟩
theorem coEnd_nil (w : World) : Calls Try.prog 24 #[.pointer none] w fun e w' => e = .returned (.tuple #[]) ∧ w = w' := by
  go_enter Try.func24, Try.ntmps24
  go_wp2_with (go_at_call 45; refine (coclosed_nil _).mono ?_; rintro e w' ⟨rfl, rfl⟩)
  first | go_end0 | refine bodyPost_ret (results_none rfl _ _ _) rfl ?_
  exact ⟨rfl, rfl⟩
theorem coReady_nil (b : Bool) (w : World) : Calls Try.prog 27 #[.pointer none, .bool b] w fun e w' => e = .returned (.bool false) ∧ w = w' := by
  go_enter Try.func27, Try.ntmps27
  go_wp2_with (go_at_call 45; refine (coclosed_nil _).mono ?_; rintro e w' ⟨rfl, rfl⟩)
  go_ret
  exact ⟨rfl, rfl⟩
theorem coOutput_nil (w : World) : Calls Try.prog 28 #[.pointer none] w fun e w' => e = .returned (.slice none 0 0) ∧ w = w' := by
  go_enter Try.func28, Try.ntmps28
  go_wp2_with (go_at_call 45; refine (coclosed_nil _).mono ?_; rintro e w' ⟨rfl, rfl⟩)
  go_ret
  exact ⟨rfl, rfl⟩
theorem coWaiting_nil (w : World) : Calls Try.prog 29 #[.pointer none] w fun e w' => e = .returned (.int .i64 0) ∧ w = w' := by
  go_enter Try.func29, Try.ntmps29
  go_wp2_with (go_at_call 45; refine (coclosed_nil _).mono ?_; rintro e w' ⟨rfl, rfl⟩)
  go_ret
  exact ⟨rfl, rfl⟩
end
end Go.Proofs.Yteljjngmhldfbaa
