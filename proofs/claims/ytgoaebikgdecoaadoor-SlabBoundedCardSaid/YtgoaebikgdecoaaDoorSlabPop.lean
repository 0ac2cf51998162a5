/-
  How many bits of a word are set: bits.OnesCount64 (its sums of pairs, of fours, of eights) tells just that. Plain arithmetic.
-/
import Derived.Test.YtgoaebikgdecoaaDoorSlabBase
namespace Go.Proofs.YtgoaebikgdecoaaDoor
open Go.ChangeShapes Go.WideShapes Go.ChangeAt Go.RowKit
set_option linter.unusedVariables false

/-- The bits that are set among the first f. -/
def popN : Nat → Nat → Nat
  | 0, _ => 0
  | f + 1, x => x % 2 + popN f (x / 2)
def pop (x : Nat) : Nat := popN 64 x
theorem popN_add : ∀ (m n x : Nat), popN (m + n) x = popN m x + popN n (x / 2 ^ m)
  | 0, n, x => by simp [popN]
  | m + 1, n, x => by
    rw [show m + 1 + n = (m + n) + 1 by omega, popN, popN, popN_add m n (x / 2), Nat.div_div_eq_div_mul, Nat.pow_succ, Nat.mul_comm 2 (2 ^ m)]
    omega
theorem popN_mod : ∀ (f x : Nat), popN f (x % 2 ^ f) = popN f x
  | 0, x => rfl
  | f + 1, x => by
    rw [popN, popN, ← popN_mod f (x / 2)]
    have e1 : x % 2 ^ (f + 1) % 2 = x % 2 := by rw [Nat.pow_succ]; exact Nat.mod_mod_of_dvd _ (Nat.dvd_mul_left 2 (2 ^ f))
    have e2 : x % 2 ^ (f + 1) / 2 = x / 2 % 2 ^ f := by
      rw [Nat.pow_succ, Nat.mul_comm, Nat.mod_mul_right_div_self]
    rw [e1, e2]
theorem popN_le : ∀ (f x : Nat), popN f x ≤ f
  | 0, _ => Nat.le_refl _
  | f + 1, x => by have := popN_le f (x / 2); rw [popN]; omega

theorem land_block (y M r c : Nat) (hr : r < 256) (hc : c < 256) : (256 * y + r) &&& (256 * M + c) = 256 * (y &&& M) + (r &&& c) := by
  have h1 : ((256 * y + r) &&& (256 * M + c)) % 2 ^ 8 = r &&& c := by
    rw [Nat.and_mod_two_pow, show (256 * y + r) % 2 ^ 8 = r by omega, show (256 * M + c) % 2 ^ 8 = c by omega]
  have h2 : ((256 * y + r) &&& (256 * M + c)) / 2 ^ 8 = y &&& M := by
    rw [← Nat.shiftRight_eq_div_pow, Nat.shiftRight_and_distrib, Nat.shiftRight_eq_div_pow, Nat.shiftRight_eq_div_pow, show (256 * y + r) / 2 ^ 8 = y by omega, show (256 * M + c) / 2 ^ 8 = M by omega]
  omega
def mk (c : Nat) : Nat → Nat
  | 0 => 0
  | n + 1 => 256 * mk c n + c
def s1 (n x : Nat) : Nat := (x / 2 &&& mk 85 n) + (x &&& mk 85 n)
def s2 (n x : Nat) : Nat := (x / 4 &&& mk 51 n) + (x &&& mk 51 n)
def s3 (n x : Nat) : Nat := (x / 16 + x) &&& mk 15 n
def b1 (r : Nat) : Nat := (r / 2 &&& 85) + (r &&& 85)
def b2 (r : Nat) : Nat := (r / 4 &&& 51) + (r &&& 51)
theorem low1 : ∀ p, p < 2 → ∀ r, r < 256 → (128 * p + r / 2) &&& 85 = r / 2 &&& 85 := by decide +kernel
theorem low2 : ∀ p, p < 4 → ∀ r, r < 256 → (64 * p + r / 4) &&& 51 = r / 4 &&& 51 := by decide +kernel
theorem low3 : ∀ p, p < 5 → ∀ q, q < 69 → (16 * p + (q / 16 + q)) &&& 15 = (q / 16 + q) &&& 15 := by decide +kernel
theorem b1_lt : ∀ r, r < 256 → b1 r < 256 := by decide +kernel
theorem b2_le : ∀ r, r < 256 → b2 (b1 r) < 69 ∧ b2 (b1 r) % 16 < 5 := by decide +kernel
theorem b_pop : ∀ r, r < 256 → (b2 (b1 r) / 16 + b2 (b1 r)) &&& 15 = popN 8 r := by decide +kernel
theorem s1_step (n y r : Nat) (hr : r < 256) : s1 (n + 1) (256 * y + r) = 256 * s1 n y + b1 r := by
  unfold s1 b1
  rw [mk, land_block y _ r 85 hr (by decide), show (256 * y + r) / 2 = 256 * (y / 2) + (128 * (y % 2) + r / 2) by omega, land_block (y / 2) _ _ 85 (by omega) (by decide), low1 _ (by omega) r hr]
  omega
theorem s2_step (n y r : Nat) (hr : r < 256) : s2 (n + 1) (256 * y + r) = 256 * s2 n y + b2 r := by
  unfold s2 b2
  rw [mk, land_block y _ r 51 hr (by decide), show (256 * y + r) / 4 = 256 * (y / 4) + (64 * (y % 4) + r / 4) by omega, land_block (y / 4) _ _ 51 (by omega) (by decide), low2 _ (by omega) r hr]
  omega
theorem s3_step (n z q : Nat) (hz : z % 16 < 5) (hq : q < 69) : s3 (n + 1) (256 * z + q) = 256 * s3 n z + ((q / 16 + q) &&& 15) := by
  unfold s3
  rw [mk, show (256 * z + q) / 16 + (256 * z + q) = 256 * (z / 16 + z) + (16 * (z % 16) + (q / 16 + q)) by omega, land_block _ _ _ 15 (by omega) (by decide), low3 _ hz q hq]
/-- The bytes' counts, each in a byte. -/
def cnt : Nat → Nat → Nat
  | 0, _ => 0
  | n + 1, x => 256 * cnt n (x / 256) + popN 8 (x % 256)
theorem s2_low : ∀ (n x : Nat), s2 n (s1 n x) % 16 < 5
  | 0, x => by simp [s2, s1, mk]
  | n + 1, x => by
    have hx : x = 256 * (x / 256) + x % 256 := by omega
    rw [hx, s1_step _ _ _ (by omega), s2_step _ _ _ (b1_lt _ (by omega))]
    have := (b2_le (x % 256) (by omega)).2
    omega
theorem cnt_is : ∀ (n x : Nat), x < 256 ^ n → s3 n (s2 n (s1 n x)) = cnt n x
  | 0, x, h => by simp [s3, mk, cnt]
  | n + 1, x, h => by
    have hx : x = 256 * (x / 256) + x % 256 := by omega
    have hr : x % 256 < 256 := by omega
    have hy : x / 256 < 256 ^ n := by rw [Nat.pow_succ] at h; omega
    have ih := cnt_is n (x / 256) hy
    rw [cnt, ← ih]
    conv => lhs; rw [hx]
    rw [s1_step _ _ _ hr, s2_step _ _ _ (b1_lt _ hr), s3_step _ _ _ (s2_low n (x / 256)) (b2_le _ hr).1, b_pop _ hr]
theorem m0_is : mk 85 8 = 6148914691236517205 := by decide
theorem m1_is : mk 51 8 = 3689348814741910323 := by decide
theorem m2_is : mk 15 8 = 1085102592571150095 := by decide
end Go.Proofs.YtgoaebikgdecoaaDoor
