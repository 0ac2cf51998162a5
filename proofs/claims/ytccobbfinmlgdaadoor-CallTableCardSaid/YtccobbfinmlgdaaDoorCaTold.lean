/-
  Calls: Result, Told of the program and of the document; the statement's examples; 'CallNames'.
-/
import Derived.Test.YtccobbfinmlgdaaDoorCaXGet
namespace Go.Proofs.YtccobbfinmlgdaaDoor
open Go.ChangeShapes Go.WideShapes Go.ChangeAt Go.RowKit
set_option linter.unusedVariables false

/-- What stands in a register. -/
def resF (v e : Int) : Int := if e = 0 then v % 4294967296 else wrap64 (-e) % 4294967296
theorem cresult_is (v e : Int) (w : World) : Calls Tryd.prog 22 #[.int .i64 v, .int .i64 e] w fun x w' => x = .returned (.int .u32 (resF v e)) ∧ w = w' := by
  by_cases h : e = 0
  · subst h
    have HE := hide (show resF v 0 = v % 4294967296 from if_pos rfl)
    go_enter Tryd.func22, Tryd.ntmps22
    go_wp2
    go_ret
    exact ⟨by rw [HE.out]; rfl, rfl⟩
  · have HE := hide (show resF v e = wrap64 (-e) % 4294967296 from if_neg h)
    go_enter Tryd.func22, Tryd.ntmps22
    go_wp2
    go_ret
    exact ⟨by rw [HE.out]; rfl, rfl⟩
theorem xresult_is (v e : Int) (w : World) : Calls Tryd.prog 23 #[.int .i64 v, .int .i64 e] w fun x w' => x = .returned (.int .u32 (resF v e)) ∧ w = w' := by
  by_cases h : e = 0
  · subst h
    have HE := hide (show resF v 0 = v % 4294967296 from if_pos rfl)
    go_enter Tryd.func23, Tryd.ntmps23
    go_wp2
    go_ret
    exact ⟨by rw [HE.out]; rfl, rfl⟩
  · have HE := hide (show resF v e = wrap64 (-e) % 4294967296 from if_neg h)
    go_enter Tryd.func23, Tryd.ntmps23
    go_wp2
    go_ret
    exact ⟨by rw [HE.out]; rfl, rfl⟩
/-- What a register tells. -/
def toldV (r : Int) : Int := if 4294967163 ≤ r then 0 else r
def toldE (r : Int) : Int := if 4294967163 ≤ r then 4294967296 - r else 0
theorem i32_low {r : Int} (h0 : 0 ≤ r) (h1 : r < 2147483648) : IntKind.i32.wrap r = r := by rw [IntKind.wrap_i32]; omega
theorem i32_high {r : Int} (h0 : 2147483648 ≤ r) (h1 : r < 4294967296) : IntKind.i32.wrap r = r - 4294967296 := by rw [IntKind.wrap_i32]; omega
theorem ctold_is (r : Int) (h0 : 0 ≤ r) (h1 : r < 4294967296) (w : World) : Calls Tryd.prog 24 #[.int .u32 r] w fun x w' => x = .returned (.tuple #[.int .i64 (toldV r), .int .i64 (toldE r)]) ∧ w = w' := by
  by_cases h2 : r < 2147483648
  · have e1 := i32_low h0 h2
    have HE := hide (show toldV r = r from if_neg (by omega))
    have HF := hide (show toldE r = 0 from if_neg (by omega))
    have e2 : -133 ≤ r := by omega
    have e3 : decide (r < 0) = false := by simp; omega
    go_enter Tryd.func24, Tryd.ntmps24
    go_wp2
    go_ret2
    exact ⟨by rw [HE.out, HF.out]; rfl, rfl⟩
  · have e1 := i32_high (r := r) (by omega) h1
    by_cases h3 : 4294967163 ≤ r
    · have HE := hide (show toldV r = 0 from if_pos h3)
      have HF := hide (show toldE r = 4294967296 - r from if_pos h3)
      have e2 : -133 ≤ r - 4294967296 := by omega
      have e3 : r - 4294967296 < 0 := by omega
      have e4 : IntKind.i32.wrap (-(r - 4294967296)) = 4294967296 - r := by rw [IntKind.wrap_i32]; omega
      have e5 : IntKind.i64.wrap (4294967296 - r) = 4294967296 - r := by rw [IntKind.wrap_i64]; omega
      go_enter Tryd.func24, Tryd.ntmps24
      go_wp2
      go_ret2
      exact ⟨by rw [HE.out, HF.out]; rfl, rfl⟩
    · have HE := hide (show toldV r = r from if_neg h3)
      have HF := hide (show toldE r = 0 from if_neg h3)
      have e2 : decide (-133 ≤ r - 4294967296) = false := by simp; omega
      go_enter Tryd.func24, Tryd.ntmps24
      go_wp2
      go_ret2
      exact ⟨by rw [HE.out, HF.out]; rfl, rfl⟩
theorem xtold_is (r : Int) (h0 : 0 ≤ r) (h1 : r < 4294967296) (w : World) : Calls Tryd.prog 25 #[.int .u32 r] w fun x w' => x = .returned (.tuple #[.int .i64 (toldV r), .int .i64 (toldE r)]) ∧ w = w' := by
  by_cases h2 : r < 2147483648
  · have e1 := i32_low h0 h2
    have HE := hide (show toldV r = r from if_neg (by omega))
    have HF := hide (show toldE r = 0 from if_neg (by omega))
    have e3 : decide (r < 0) = false := by simp; omega
    go_enter Tryd.func25, Tryd.ntmps25
    go_wp2
    go_ret2
    exact ⟨by rw [HE.out, HF.out]; rfl, rfl⟩
  · have e1 := i32_high (r := r) (by omega) h1
    have e6 : IntKind.i64.wrap (r - 4294967296) = r - 4294967296 := by rw [IntKind.wrap_i64]; omega
    have e3 : r - 4294967296 < 0 := by omega
    by_cases h3 : 4294967163 ≤ r
    · have HE := hide (show toldV r = 0 from if_pos h3)
      have HF := hide (show toldE r = 4294967296 - r from if_pos h3)
      have e2 : -133 ≤ r - 4294967296 := by omega
      have e4 : IntKind.i64.wrap (-(r - 4294967296)) = 4294967296 - r := by rw [IntKind.wrap_i64]; omega
      go_enter Tryd.func25, Tryd.ntmps25
      go_wp2
      go_ret2
      exact ⟨by rw [HE.out, HF.out]; rfl, rfl⟩
    · have HE := hide (show toldV r = r from if_neg h3)
      have HF := hide (show toldE r = 0 from if_neg h3)
      have e2 : decide (-133 ≤ r - 4294967296) = false := by simp; omega
      go_enter Tryd.func25, Tryd.ntmps25
      go_wp2
      go_ret2
      exact ⟨by rw [HE.out, HF.out]; rfl, rfl⟩
theorem ent2 : bytesF (entF 2).ks = 960 := by decide +kernel
theorem ent25 : bytesF (entF 25).ks = 704 := by decide +kernel
theorem most30 : mostN 30 = 2304 := by decide +kernel
theorem ent13 : (entF 13).nm = ⟨#[111, 112, 101, 110]⟩ := by rfl
set_option maxRecDepth 100000 in
theorem awake26 (w : World) (hT : TabS w) : Calls Tryd.prog 8 #[] w fun e w' => e = .returned (.bool true) ∧ Only [] w w' := by
  have HT := hide hT
  have h1 := cbound_is 2 w hT
  rw [ent2] at h1
  have H1 := hide h1
  have H2 := hide (fun W (h : Only [] w W) => show Calls Tryd.prog 13 #[.int .i64 25] W fun e w' => e = .returned (.int .i64 704) ∧ Only [] W w' by have := cbound_is 25 W (hT.only h (by simp)); rw [ent25] at this; exact this)
  have H3 := hide (fun W (h : Only [] w W) => show Calls Tryd.prog 15 #[] W fun e w' => e = .returned (.int .i64 2304) ∧ Only [] W w' by have := cmost_is W (hT.only h (by simp)); rw [most30] at this; exact this)
  have H4 := hide (fun W => show Calls Tryd.prog 11 #[.int .i64 13] W fun e w' => e = .returned (.string ⟨#[111, 112, 101, 110]⟩) ∧ Only [] W w' by have := cname_is 13 W; rw [ent13] at this; exact this)
  have H5 := hide (fun W => show Calls Tryd.prog 22 #[.int .i64 0, .int .i64 2] W fun e w' => e = .returned (.int .u32 4294967294) ∧ W = w' by have := cresult_is 0 2 W; rw [show resF 0 2 = 4294967294 by decide +kernel] at this; exact this)
  clear hT h1
  go_enter Tryd.func8, Tryd.ntmps8
  go_wp2_with fail
  refine H1.out.mono ?_
  rintro e w1 ⟨rfl, o1⟩
  go_wp2_with fail
  refine (H2.out w1 o1).mono ?_
  rintro e w2 ⟨rfl, o2⟩
  have o2 := o1.trans o2
  go_wp2_with fail
  refine (H3.out w2 o2).mono ?_
  rintro e w3 ⟨rfl, o3⟩
  have o3 := o2.trans o3
  go_wp2_with fail
  refine (H4.out w3).mono ?_
  rintro e w4 ⟨rfl, o4⟩
  have O4 := hide (o3.trans o4)
  clear o1 o2 o3 o4
  go_wp2_with fail
  refine (H5.out w4).mono ?_
  rintro e w5 ⟨rfl, rfl⟩
  go_wp2
  go_ret
  exact ⟨rfl, O4.out⟩
theorem callNames_walk {W : World} (hT : TabS W) : Calls Tryd.prog 3 #[] W fun e w' => e = .returned (.bool true) ∧ Below W.heap.size W w' := by
  have HA := hide (awake26 W hT)
  clear hT
  go_enter Tryd.func3, Tryd.ntmps3
  go_wp2_with (go_at_call 8; refine HA.out.mono ?_; rintro e w1 ⟨rfl, h⟩; have HO := hide h; clear h)
  go_ret
  exact ⟨rfl, HO.out.below (Nat.le_refl _) (by simp)⟩
end Go.Proofs.YtccobbfinmlgdaaDoor
