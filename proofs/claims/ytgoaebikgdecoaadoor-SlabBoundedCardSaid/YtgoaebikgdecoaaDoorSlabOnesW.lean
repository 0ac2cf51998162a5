/-
  bits.OnesCount64, walked.
-/
import Derived.Test.YtgoaebikgdecoaaDoorSlabOnes
namespace Go.Proofs.YtgoaebikgdecoaaDoor
open Go.ChangeShapes Go.WideShapes Go.ChangeAt Go.RowKit
set_option linter.unusedVariables false
theorem and64 (a b : Nat) (A B : Int) (hA : A = (a : Int)) (hB : B = (b : Int)) (ha : a < 18446744073709551616) (hb : b < 18446744073709551616) : bits BinOp.and IntKind.u64 A B = ((a &&& b : Nat) : Int) := by
  rw [hA, hB]
  exact bits_and_u64_nat a b ha hb
set_option maxHeartbeats 400000 in
theorem ones_core (w : World) (X y z t a b c p : Int)
    (e1 : IntKind.u64.wrap (bits BinOp.and IntKind.u64 (X / 2) 6148914691236517205 + bits BinOp.and IntKind.u64 X 6148914691236517205) = y)
    (e2 : IntKind.u64.wrap (bits BinOp.and IntKind.u64 (y / 4) 3689348814741910323 + bits BinOp.and IntKind.u64 y 3689348814741910323) = z)
    (e3 : bits BinOp.and IntKind.u64 (IntKind.u64.wrap (z / 16 + z)) 1085102592571150095 = t)
    (e4 : IntKind.u64.wrap (t + t / 256) = a) (e5 : IntKind.u64.wrap (a + a / 65536) = b) (e6 : IntKind.u64.wrap (b + b / 4294967296) = c)
    (e7 : bits BinOp.and IntKind.i64 (wrap64 c) 127 = p) :
    Calls Tryd.prog 51 #[.int .u64 X] w fun e w' => e = .returned (.int .i64 p) ∧ w = w' := by
  go_enter Tryd.func51, Tryd.ntmps51
  go_wp2
  go_ret
  exact ⟨rfl, rfl⟩
theorem and127 (c : Nat) (h : c < 2305843009213693952) : bits BinOp.and IntKind.i64 (wrap64 (c : Int)) 127 = ((c % 128 : Nat) : Int) := by
  have r0 : wrap64 (c : Int) = c := by unfold wrap64; omega
  have hx : c &&& 127 = c % 128 := Nat.and_two_pow_sub_one_eq_mod c 7
  have h1 : (BitVec.ofInt 64 (c : Int)).toNat = c := by
    rw [BitVec.ofInt_natCast, BitVec.toNat_ofNat]; exact Nat.mod_eq_of_lt (Nat.lt_trans h (by decide))
  have h2 : (BitVec.ofInt 64 ((127 : Nat) : Int)).toNat = 127 := by
    rw [BitVec.ofInt_natCast, BitVec.toNat_ofNat]
  rw [r0]
  show IntKind.i64.wrap ((BitVec.ofInt 64 (c : Int) &&& BitVec.ofInt 64 ((127 : Nat) : Int)).toNat : Int) = _
  rw [BitVec.toNat_and, h1, h2, hx, IntKind.wrap_i64]
  have hm : c % 128 < 128 := Nat.mod_lt _ (by decide)
  generalize c % 128 = m at *
  clear h1 h2 hx r0
  omega
theorem ones64_is (w : World) (x : Nat) (hx : x < 18446744073709551616) : Calls Tryd.prog 51 #[.int .u64 x] w fun e w' => e = .returned (.int .i64 (pop x : Nat)) ∧ w = w' := by
  obtain ⟨a, b, c, ha, hb, hc, l0, l1, l2, l3, hp⟩ := cnt_pop x
  have ht := cnt_is 8 x (by simpa using hx)
  have l4 := s1_lt x
  have l5 := s2_lt (s1 8 x)
  refine ones_core w x (s1 8 x : Nat) (s2 8 (s1 8 x) : Nat) (cnt 8 x : Nat) a b c (pop x : Nat) ?_ ?_ ?_ ?_ ?_ ?_ ?_
  · have r1 : bits BinOp.and IntKind.u64 ((x : Int) / 2) 6148914691236517205 = ((x / 2 &&& 6148914691236517205 : Nat) : Int) := and64 _ _ _ _ (by omega) rfl (by omega) (by decide)
    have r2 : bits BinOp.and IntKind.u64 (x : Int) 6148914691236517205 = ((x &&& 6148914691236517205 : Nat) : Int) := and64 _ _ _ _ rfl rfl hx (by decide)
    rw [r1, r2, IntKind.wrap_u64]
    unfold s1 at l4 ⊢
    rw [m0_is] at l4 ⊢
    clear ha hb hc ht hp l5
    omega
  · generalize s1 8 x = y at *
    have r1 : bits BinOp.and IntKind.u64 ((y : Int) / 4) 3689348814741910323 = ((y / 4 &&& 3689348814741910323 : Nat) : Int) := and64 _ _ _ _ (by omega) rfl (by omega) (by decide)
    have r2 : bits BinOp.and IntKind.u64 (y : Int) 3689348814741910323 = ((y &&& 3689348814741910323 : Nat) : Int) := and64 _ _ _ _ rfl rfl l4 (by decide)
    rw [r1, r2, IntKind.wrap_u64]
    unfold s2 at l5 ⊢
    rw [m1_is] at l5 ⊢
    clear ha hb hc ht hp
    omega
  · have hz : s2 8 (s1 8 x) / 16 + s2 8 (s1 8 x) < 18446744073709551616 := by
      have h1 : s2 8 (s1 8 x) ≤ 7378697629483820646 := by
        unfold s2
        have h1 : s1 8 x / 4 &&& mk 51 8 ≤ mk 51 8 := Nat.and_le_right
        have h2 : s1 8 x &&& mk 51 8 ≤ mk 51 8 := Nat.and_le_right
        rw [m1_is] at h1 h2 ⊢
        clear ha hb hc ht hp
        omega
      clear ha hb hc ht hp
      omega
    generalize s2 8 (s1 8 x) = z at *
    have r0 : IntKind.u64.wrap ((z : Int) / 16 + (z : Int)) = ((z / 16 + z : Nat) : Int) := by
      rw [IntKind.wrap_u64]; clear ha hb hc ht hp; omega
    have r1 : bits BinOp.and IntKind.u64 ((z / 16 + z : Nat) : Int) 1085102592571150095 = ((z / 16 + z &&& 1085102592571150095 : Nat) : Int) := and64 _ _ _ _ rfl rfl hz (by decide)
    rw [r0, r1, ← ht]
    unfold s3
    rw [m2_is]
  · rw [IntKind.wrap_u64]; clear ht hp hb hc; omega
  · rw [IntKind.wrap_u64]; clear ht hp ha hc; omega
  · rw [IntKind.wrap_u64]; clear ht hp ha hb; omega
  · have := and127 c l3
    rw [this, hp]
end Go.Proofs.YtgoaebikgdecoaaDoor
