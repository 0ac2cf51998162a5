/-
  The log (parapet/wlog): numbers laid down as bytes, the highest first: put, get.
-/
import Derived.Test.YtpajdnjbeplneaaClone
namespace Go.Proofs.Ytpajdnjbeplneaa
open Go.ChangeShapes Go.WideShapes Go.ChangeAt Go.RowKit
set_option linter.unusedVariables false

/-- The lowest n bytes of a number, the highest first. -/
def beB : Nat → Int → List Int
  | 0, _ => []
  | n + 1, x => (x / 256 ^ n % 256) :: beB n x
theorem beB_length : ∀ (n : Nat) (x : Int), (beB n x).length = n
  | 0, _ => rfl
  | n + 1, x => by simp [beB, beB_length n x]
theorem u8_beB : ∀ (n : Nat) (x : Int), U8 (beB n x)
  | 0, _ => by intro y hy; simp [beB] at hy
  | n + 1, x => by
    intro y hy
    simp only [beB, List.mem_cons] at hy
    rcases hy with rfl | hy
    · omega
    · exact u8_beB n x y hy
theorem splice_length (xs ys : List Int) (o : Nat) (h : o + ys.length ≤ xs.length) : (Go.splice xs o ys).length = xs.length := by
  unfold Go.splice
  simp
  omega
theorem splice_set (xs ys : List Int) (o : Nat) (v : Int) (h : o + 1 + ys.length ≤ xs.length) : (Go.splice xs (o + 1) ys).set o v = Go.splice xs o (v :: ys) := by
  unfold Go.splice
  rw [List.take_succ_eq_append_getElem (show o < xs.length by omega), List.append_assoc, List.set_append_right _ _ (by simp; omega)]
  have e : o - (xs.take o).length = 0 := by simp; omega
  rw [e]
  simp
  congr 1
  omega
theorem splice_nil (xs : List Int) (o : Nat) : Go.splice xs o [] = xs := by
  unfold Go.splice
  simp
theorem splice_app (A B ys : List Int) : Go.splice (A ++ B) A.length ys = A ++ ys ++ B.drop ys.length := by
  unfold Go.splice
  simp
theorem pow256 (n : Nat) (x : Int) : x / 256 ^ n / 256 = x / 256 ^ (n + 1) := by
  rw [Int.ediv_ediv_of_nonneg (Int.le_of_lt (Int.pow_pos (by decide)))]
  congr 1
theorem pow256_rng (n : Nat) {x : Int} (h0 : 0 ≤ x) (h1 : x < 18446744073709551616) : 0 ≤ x / 256 ^ n ∧ x / 256 ^ n < 18446744073709551616 := by
  have hp : (0 : Int) < 256 ^ n := Int.pow_pos (by decide)
  exact ⟨Int.ediv_nonneg h0 (Int.le_of_lt hp), Int.lt_of_le_of_lt (Int.ediv_le_self _ h0) h1⟩

set_option maxRecDepth 100000 in
set_option maxHeartbeats 1000000 in
theorem put_is (d o n c : Nat) (xs : List Int) (r : List Value) (x : Int) (w : World) (hb : Blk w d 5 (u8l xs ++ r).toArray) (hon : o + n ≤ xs.length) (hn : n ≤ 8) (hon2 : o ≤ 100000) (h0 : 0 ≤ x) (h1 : x < 18446744073709551616) :
    Calls Try.prog 94 #[.slice (some ⟨d, o, none⟩) n c, .int .u64 x] w fun e w' => e = .returned (.tuple #[]) ∧ Blk w' d 5 (u8l (Go.splice xs o (beB n x)) ++ r).toArray ∧ Only [d] w w' := by
  have HB := hide hb
  have HX := hide (fun j => pow256_rng j h0 h1)
  clear hb h0 h1
  go_enter Try.func94, Try.ntmps94
  go_wp2
  go_loopw [1, 4] (fun xv iv wr => ∃ k : Nat, k ≤ n ∧ iv = .int .i64 ((k : Int) - 1) ∧ xv = .int .u64 (x / 256 ^ (n - k)) ∧ Only [d] w wr ∧ Blk wr d 5 (u8l (Go.splice xs (o + k) (beB (n - k) x)) ++ r).toArray) (fun _ iv _ => (intOf iv + 1).toNat)
  case atStart => exact ⟨n, Nat.le_refl _, rfl, by simp, Only.refl _ _, by simp [beB, splice_nil]; simpa using HB.out⟩
  case round =>
    obtain ⟨k, hk, rfl, rfl, ho, hbk⟩ := hrel
    have HO := hide ho
    have HBK := hide hbk
    clear ho hbk
    cases k with
    | zero =>
      go_wp2
      go_end0
      have := HBK.out
      simp at this
      exact ⟨rfl, this, HO.out⟩
    | succ p =>
      have hpl : p < n := by omega
      have hfr := HBK.out.frozen (o + p)
      have hle : o + p < (Go.splice xs (o + (p + 1)) (beB (n - (p + 1)) x)).length := by rw [splice_length _ _ _ (by rw [beB_length]; omega)]; omega
      have hck := HBK.out.cell (o + p)
      rw [u8l_get _ _ _ hle] at hck
      obtain ⟨hy0, hy1⟩ := HX.out (n - (p + 1))
      have HY := hide (show x / 256 ^ (n - (p + 1)) / 256 = x / 256 ^ (n - p) by rw [pow256]; congr 2; omega)
      have HW := hide (show (Go.splice xs (o + (p + 1)) (beB (n - (p + 1)) x)).set (o + p) (x / 256 ^ (n - (p + 1)) % 256) = Go.splice xs (o + p) (beB (n - p) x) by
        rw [show o + (p + 1) = o + p + 1 from by omega, splice_set _ _ _ _ (by rw [beB_length]; omega)]
        congr 1
        rw [show n - p = n - (p + 1) + 1 from by omega]
        rfl)
      have HLE := hide hle
      have e1 : (((p + 1 : Nat) : Int) - 1) = p := by omega
      rw [e1]
      clear hle e1
      generalize x / 256 ^ (n - (p + 1)) = y at *
      go_wp2
      go_roundw
      case rel =>
        refine ⟨p, by omega, rfl, ?_, HO.out.setCell _ (by simp), ?_⟩
        · rw [← HY.out]
        · have h2 := HBK.out.set_ (o + p) (.int .u8 (y % 256))
          rw [u8l_set _ _ _ _ HLE.out, HW.out] at h2
          exact h2
      case measure => simp [intOf]
/-- The number that bytes say, the highest first. -/
def beN (l : List Int) : Int := l.foldl (fun x c => x * 256 + c) 0
theorem beN_snoc (l : List Int) (c : Int) : beN (l ++ [c]) = beN l * 256 + c := by simp [beN]
theorem beN_rng : ∀ (l : List Int), U8 l → ∀ n, l.length = n → 0 ≤ beN l ∧ beN l < 256 ^ n := by
  intro l h n
  induction n generalizing l with
  | zero => intro hn; rw [List.length_eq_zero_iff.1 hn]; simp [beN]
  | succ n ih =>
    intro hn
    have e : l = l.take n ++ [l[n]] := by
      rw [← List.take_succ_eq_append_getElem (show n < l.length by omega), List.take_of_length_le (by omega)]
    have h1 := ih (l.take n) (h.take n) (by rw [List.length_take]; omega)
    have h2 := h l[n] (List.getElem_mem _)
    rw [e, beN_snoc, Int.pow_succ]
    omega
theorem u64_or_nat (a b : Nat) (ha : a < 18446744073709551616) (hb : b < 18446744073709551616) : bits .or .u64 (a : Int) (b : Int) = ((a ||| b : Nat) : Int) := by
  have hx : a ||| b < 2 ^ 64 := Nat.or_lt_two_pow (by omega) (by omega)
  have e : ∀ m : Nat, m < 18446744073709551616 → (BitVec.ofInt 64 (m : Int)).toNat = m := fun m hm => by
    rw [BitVec.ofInt_natCast, BitVec.toNat_ofNat]; exact Nat.mod_eq_of_lt (by omega)
  show IntKind.u64.wrap ((BitVec.ofInt 64 (a : Int) ||| BitVec.ofInt 64 (b : Int)).toNat : Int) = _
  rw [BitVec.toNat_or, e a ha, e b hb]
  unfold IntKind.wrap
  simp only [IntKind.bits, IntKind.signed]
  simp
  omega
theorem beN_or {y c : Int} (y0 : 0 ≤ y) (y1 : y < 72057594037927936) (c0 : 0 ≤ c) (c1 : c ≤ 255) : bits .or .u64 (y * 256) c = y * 256 + c := by
  obtain ⟨a, rfl⟩ := Int.eq_ofNat_of_zero_le y0
  obtain ⟨b, rfl⟩ := Int.eq_ofNat_of_zero_le c0
  have h := u64_or_nat (a * 256) b (by omega) (by omega)
  have h2 : a * 256 ||| b = a * 256 + b := by
    rw [Nat.mul_comm]
    exact (Nat.two_pow_add_eq_or_of_lt (i := 8) (by omega) a).symm
  rw [h2] at h
  simpa using h
set_option maxRecDepth 100000 in
set_option maxHeartbeats 1000000 in
theorem get_is (A : Option Addr) (n c : Nat) (zs : List Int) (w : World) (hl : zs.length = n) (hn : n ≤ 8) (hu : U8 zs) (hc : ∀ i, i < n → ∃ d o, A = some ⟨d, o, none⟩ ∧ w.cell? ⟨d, o + i, none⟩ = some (.int .u8 (gb zs i))) :
    Calls Try.prog 86 #[.slice A n c] w fun e w' => e = .returned (.int .u64 (beN zs)) ∧ w = w' := by
  have HC := hide hc
  have HU := hide hu
  have HL := hide hl
  clear hc hl hu
  go_enter Try.func86, Try.ntmps86
  go_wp2
  go_loopw [3, 8] (fun xv iv wr => ∃ i : Nat, i ≤ n ∧ iv = .int .i64 i ∧ xv = .int .u64 (beN (zs.take i)) ∧ wr = w) (fun _ iv _ => n - (intOf iv).toNat)
  case atStart => exact ⟨0, Nat.zero_le _, rfl, rfl, rfl⟩
  case round =>
    obtain ⟨i, hi, rfl, rfl, rfl⟩ := hrel
    by_cases hlt : i < n
    · obtain ⟨d, o, rfl, hck⟩ := HC.out i hlt
      have hg := HU.out.get i
      have hr := beN_rng (zs.take i) (HU.out.take i) i (by rw [List.length_take, HL.out]; omega)
      have hp : (256 : Int) ^ i ≤ 256 ^ 7 := by
        have : (256 : Nat) ^ i ≤ 256 ^ 7 := Nat.pow_le_pow_right (by decide) (by omega)
        exact_mod_cast this
      have y0 := hr.1
      have y1 : beN (zs.take i) < 72057594037927936 := Int.lt_of_lt_of_le hr.2 (by simpa using hp)
      have HS := hide (show beN (zs.take (i + 1)) = beN (zs.take i) * 256 + gb zs i by
        rw [List.take_succ_eq_append_getElem (show i < zs.length by have := HL.out; omega), beN_snoc]
        congr 1
        simp [gb, List.getD, show i < zs.length by have := HL.out; omega])
      have HO := hide (beN_or y0 y1 hg.1 hg.2)
      have hw : beN (zs.take i) * 256 % 18446744073709551616 = beN (zs.take i) * 256 := by omega
      clear hr hp
      generalize beN (zs.take i) = y at *
      generalize gb zs i = v at *
      go_wp2
      go_roundw
      case rel => exact ⟨i + 1, hlt, by go_num, by rw [HS.out, ← HO.out], trivial⟩
      case measure => simp [intOf]; omega
    · obtain rfl : i = n := by omega
      go_wp2
      go_ret
      exact ⟨by rw [List.take_of_length_le (by have := HL.out; omega)]; rfl, rfl⟩
end Go.Proofs.Ytpajdnjbeplneaa
