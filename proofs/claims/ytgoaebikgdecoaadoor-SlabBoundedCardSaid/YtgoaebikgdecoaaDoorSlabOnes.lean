/-
  bits.OnesCount64: how many bits are set.
-/
import Derived.Test.YtgoaebikgdecoaaDoorSlabPop
namespace Go.Proofs.YtgoaebikgdecoaaDoor
open Go.ChangeShapes Go.WideShapes Go.ChangeAt Go.RowKit
set_option linter.unusedVariables false

/-- The last three sums. -/
theorem fold_is (c0 c1 c2 c3 c4 c5 c6 c7 : Nat) (h0 : c0 ≤ 8) (h1 : c1 ≤ 8) (h2 : c2 ≤ 8) (h3 : c3 ≤ 8) (h4 : c4 ≤ 8) (h5 : c5 ≤ 8) (h6 : c6 ≤ 8) (h7 : c7 ≤ 8) (t a b c : Nat)
    (ht : t = 256 * (256 * (256 * (256 * (256 * (256 * (256 * c7 + c6) + c5) + c4) + c3) + c2) + c1) + c0) (ha : a = t + t / 256) (hb : b = a + a / 65536) (hc : c = b + b / 4294967296) :
    t < 1152921504606846976 ∧ a < 2305843009213693952 ∧ b < 2305843009213693952 ∧ c < 2305843009213693952 ∧ c % 128 = c0 + c1 + c2 + c3 + c4 + c5 + c6 + c7 := by
  have e1 : t / 256 = 256 * (256 * (256 * (256 * (256 * (256 * c7 + c6) + c5) + c4) + c3) + c2) + c1 := by
    rw [ht, Nat.mul_add_div (by decide), Nat.div_eq_of_lt (by omega), Nat.add_zero]
  rw [e1, ht] at ha
  have ha2 : a = 65536 * (256 * (256 * (256 * (256 * (256 * c7 + (c6 + c7)) + (c5 + c6)) + (c4 + c5)) + (c3 + c4)) + (c2 + c3)) + (256 * (c1 + c2) + (c0 + c1)) := by rw [ha]; clear ha e1 ht hb hc; omega
  have e2 : a / 65536 = 256 * (256 * (256 * (256 * (256 * c7 + (c6 + c7)) + (c5 + c6)) + (c4 + c5)) + (c3 + c4)) + (c2 + c3) := by
    rw [ha2, Nat.mul_add_div (by decide), Nat.div_eq_of_lt (by clear ha ha2 ht e1 hb hc; omega), Nat.add_zero]
  rw [e2, ha2] at hb
  have hb2 : b = 4294967296 * (256 * (256 * (256 * c7 + (c6 + c7)) + (c5 + c6 + c7)) + (c4 + c5 + c6 + c7)) + (16777216 * (c3 + c4 + c5 + c6) + 65536 * (c2 + c3 + c4 + c5) + 256 * (c1 + c2 + c3 + c4) + (c0 + c1 + c2 + c3)) := by rw [hb]; clear ha ha2 e1 e2 ht hb hc; omega
  have e3 : b / 4294967296 = 256 * (256 * (256 * c7 + (c6 + c7)) + (c5 + c6 + c7)) + (c4 + c5 + c6 + c7) := by
    rw [hb2, Nat.mul_add_div (by decide), Nat.div_eq_of_lt (by clear ha ha2 ht e1 hb hc e2 hb2; omega), Nat.add_zero]
  rw [e3, hb2] at hc
  have hc2 : c = 128 * (2 * (16777216 * (256 * (256 * (256 * c7 + (c6 + c7)) + (c5 + c6 + c7)) + (c4 + c5 + c6 + c7)) + (65536 * (c3 + c4 + c5 + c6) + 256 * (c2 + c3 + c4 + c5) + (c1 + c2 + c3 + c4)) + (256 * (256 * c7 + (c6 + c7)) + (c5 + c6 + c7)))) + (c0 + c1 + c2 + c3 + c4 + c5 + c6 + c7) := by rw [hc]; clear ha ha2 e1 e2 e3 hb2 ht hb hc; omega
  have hm : c % 128 = c0 + c1 + c2 + c3 + c4 + c5 + c6 + c7 := by
    rw [hc2, Nat.mul_add_mod, Nat.mod_eq_of_lt (by clear ha ha2 ht e1 hb hc e2 hb2 e3 hc2; omega)]
  refine ⟨?_, ?_, ?_, ?_, hm⟩
  · rw [ht]; clear ha ha2 ht e1 hb hc e2 hb2 e3 hc2 hm; omega
  · rw [ha2]; clear ha ha2 ht e1 hb hc e2 hb2 e3 hc2 hm; omega
  · rw [hb2]; clear ha ha2 ht e1 hb hc e2 hb2 e3 hc2 hm; omega
  · rw [hc2]; clear ha ha2 ht e1 hb hc e2 hb2 e3 hc2 hm; omega
theorem p8 : (2 : Nat) ^ 8 = 256 := rfl
theorem pop_cut (n x : Nat) : popN (8 + n) x = popN 8 x + popN n (x / 256) := by rw [popN_add, p8]
theorem pm (y : Nat) : popN 8 (y % 256) = popN 8 y := by
  have h := popN_mod 8 y
  rw [p8] at h
  exact h
theorem pop_bytes (x y1 y2 y3 y4 y5 y6 y7 : Nat) (e1 : y1 = x / 256) (e2 : y2 = y1 / 256) (e3 : y3 = y2 / 256) (e4 : y4 = y3 / 256) (e5 : y5 = y4 / 256) (e6 : y6 = y5 / 256) (e7 : y7 = y6 / 256) :
    pop x = popN 8 x + (popN 8 y1 + (popN 8 y2 + (popN 8 y3 + (popN 8 y4 + (popN 8 y5 + (popN 8 y6 + popN 8 y7)))))) := by
  have a1 := pop_cut 56 x
  have a2 := pop_cut 48 y1
  have a3 := pop_cut 40 y2
  have a4 := pop_cut 32 y3
  have a5 := pop_cut 24 y4
  have a6 := pop_cut 16 y5
  have a7 := pop_cut 8 y6
  rw [← e1] at a1
  rw [← e2] at a2
  rw [← e3] at a3
  rw [← e4] at a4
  rw [← e5] at a5
  rw [← e6] at a6
  rw [← e7] at a7
  unfold pop
  exact a1.trans (congrArg _ (a2.trans (congrArg _ (a3.trans (congrArg _ (a4.trans (congrArg _ (a5.trans (congrArg _ (a6.trans (congrArg _ a7)))))))))))
theorem cnt_cut (n x : Nat) : cnt (n + 1) x = 256 * cnt n (x / 256) + popN 8 x := by rw [cnt, pm]
theorem cnt_bytes (x y1 y2 y3 y4 y5 y6 y7 : Nat) (e1 : y1 = x / 256) (e2 : y2 = y1 / 256) (e3 : y3 = y2 / 256) (e4 : y4 = y3 / 256) (e5 : y5 = y4 / 256) (e6 : y6 = y5 / 256) (e7 : y7 = y6 / 256) :
    cnt 8 x = 256 * (256 * (256 * (256 * (256 * (256 * (256 * popN 8 y7 + popN 8 y6) + popN 8 y5) + popN 8 y4) + popN 8 y3) + popN 8 y2) + popN 8 y1) + popN 8 x := by
  have a0 : cnt 1 y7 = popN 8 y7 := by rw [cnt_cut 0 y7, cnt, Nat.mul_zero, Nat.zero_add]
  have a1 := cnt_cut 7 x
  have a2 := cnt_cut 6 y1
  have a3 := cnt_cut 5 y2
  have a4 := cnt_cut 4 y3
  have a5 := cnt_cut 3 y4
  have a6 := cnt_cut 2 y5
  have a7 := cnt_cut 1 y6
  rw [← e1] at a1
  rw [← e2] at a2
  rw [← e3] at a3
  rw [← e4] at a4
  rw [← e5] at a5
  rw [← e6] at a6
  rw [← e7, a0] at a7
  rw [a7] at a6
  rw [a6] at a5
  rw [a5] at a4
  rw [a4] at a3
  rw [a3] at a2
  rw [a2] at a1
  exact a1
theorem fold_pop {c0 c1 c2 c3 c4 c5 c6 c7 p : Nat} (h0 : c0 ≤ 8) (h1 : c1 ≤ 8) (h2 : c2 ≤ 8) (h3 : c3 ≤ 8) (h4 : c4 ≤ 8) (h5 : c5 ≤ 8) (h6 : c6 ≤ 8) (h7 : c7 ≤ 8) {t : Nat}
    (ht : t = 256 * (256 * (256 * (256 * (256 * (256 * (256 * c7 + c6) + c5) + c4) + c3) + c2) + c1) + c0) (hp : p = c0 + (c1 + (c2 + (c3 + (c4 + (c5 + (c6 + c7))))))) :
    ∃ a b c : Nat, a = t + t / 256 ∧ b = a + a / 65536 ∧ c = b + b / 4294967296 ∧ t < 1152921504606846976 ∧ a < 2305843009213693952 ∧ b < 2305843009213693952 ∧ c < 2305843009213693952 ∧ c % 128 = p := by
  have hs : c0 + c1 + c2 + c3 + c4 + c5 + c6 + c7 = p := by rw [hp]; clear ht hp; omega
  obtain ⟨e1, e2, e3, e4, e5⟩ := fold_is c0 c1 c2 c3 c4 c5 c6 c7 h0 h1 h2 h3 h4 h5 h6 h7 t _ _ _ ht rfl rfl rfl
  exact ⟨_, _, _, rfl, rfl, rfl, e1, e2, e3, e4, e5.trans hs⟩
theorem cnt_pop (x : Nat) : ∃ a b c : Nat, a = cnt 8 x + cnt 8 x / 256 ∧ b = a + a / 65536 ∧ c = b + b / 4294967296 ∧ cnt 8 x < 1152921504606846976 ∧ a < 2305843009213693952 ∧ b < 2305843009213693952 ∧ c < 2305843009213693952 ∧ c % 128 = pop x := by
  obtain ⟨y1, e1⟩ : ∃ y, y = x / 256 := ⟨_, rfl⟩
  obtain ⟨y2, e2⟩ : ∃ y, y = y1 / 256 := ⟨_, rfl⟩
  obtain ⟨y3, e3⟩ : ∃ y, y = y2 / 256 := ⟨_, rfl⟩
  obtain ⟨y4, e4⟩ : ∃ y, y = y3 / 256 := ⟨_, rfl⟩
  obtain ⟨y5, e5⟩ : ∃ y, y = y4 / 256 := ⟨_, rfl⟩
  obtain ⟨y6, e6⟩ : ∃ y, y = y5 / 256 := ⟨_, rfl⟩
  obtain ⟨y7, e7⟩ : ∃ y, y = y6 / 256 := ⟨_, rfl⟩
  have hc := cnt_bytes x y1 y2 y3 y4 y5 y6 y7 e1 e2 e3 e4 e5 e6 e7
  have hp := pop_bytes x y1 y2 y3 y4 y5 y6 y7 e1 e2 e3 e4 e5 e6 e7
  exact fold_pop (popN_le 8 _) (popN_le 8 _) (popN_le 8 _) (popN_le 8 _) (popN_le 8 _) (popN_le 8 _) (popN_le 8 _) (popN_le 8 _) hc hp
theorem s1_lt (x : Nat) : s1 8 x < 18446744073709551616 := by
  unfold s1
  have h1 : x / 2 &&& mk 85 8 ≤ mk 85 8 := Nat.and_le_right
  have h2 : x &&& mk 85 8 ≤ mk 85 8 := Nat.and_le_right
  rw [m0_is] at h1 h2 ⊢
  omega
theorem s2_lt (x : Nat) : s2 8 x < 18446744073709551616 := by
  unfold s2
  have h1 : x / 4 &&& mk 51 8 ≤ mk 51 8 := Nat.and_le_right
  have h2 : x &&& mk 51 8 ≤ mk 51 8 := Nat.and_le_right
  rw [m1_is] at h1 h2 ⊢
  omega
end Go.Proofs.YtgoaebikgdecoaaDoor
