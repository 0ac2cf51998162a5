/-
  Needs, Translate of a page table (parapet/ptab); the words that a frame's bytes say behind Set; and the first look of layer 5's statements ('lives') comes out true.
-/
import Derived.Test.YtmlaomkofcajgaaPtabSet2
namespace Go.Proofs.Ytmlaomkofcajgaa
open Go.ChangeShapes Go.WideShapes Go.ChangeAt Go.RowKit
set_option linter.unusedVariables false

theorem gb_splice (L cs : List Int) (o j : Nat) (h : o + cs.length ≤ L.length) : gb (Go.splice L o cs) j = if o ≤ j ∧ j < o + cs.length then gb cs (j - o) else gb L j := by
  unfold gb Go.splice
  by_cases h1 : j < o
  · rw [if_neg (by omega)]
    simp only [List.getD]
    rw [List.getElem?_append_left (by simp; omega), List.getElem?_take_of_lt h1]
  · by_cases h2 : j < o + cs.length
    · rw [if_pos ⟨by omega, h2⟩]
      simp only [List.getD]
      rw [List.getElem?_append_right (by simp; omega), List.getElem?_append_left (by simp; omega)]
      congr 2
      simp
      omega
    · rw [if_neg (by omega)]
      simp only [List.getD]
      rw [List.getElem?_append_right (by simp; omega), List.getElem?_append_right (by simp; omega), List.getElem?_drop]
      congr 2
      simp
      omega
theorem gb_zeros (n j : Nat) : gb (List.replicate n 0) j = 0 := by
  unfold gb
  simp only [List.getD, List.getElem?_replicate]
  split <;> rfl

theorem wordB_setW {xs : List Int} {f i x f' i' : Int} (hf : hasB xs f = true) (hf' : hasB xs f' = true) (i0 : 0 ≤ i) (i1 : i ≤ 63) (j0 : 0 ≤ i') (j1 : i' ≤ 63) (h0 : 0 ≤ x) (h1 : x ≤ 4294967295) :
    wordB (setW xs f i x) f' i' = if f' = f ∧ i' = i then x else wordB xs f' i' := by
  simp only [hasB, decide_eq_true_eq] at hf hf'
  unfold wordB setW
  by_cases h : f' = f ∧ i' = i
  · rw [if_pos h, h.1, h.2, word_putw _ _ _ (by omega) h0 h1]
  · rw [if_neg h]
    unfold word
    have hl : (f * 256 + i * 4).toNat + 4 ≤ xs.length := by omega
    rw [gb_putw _ _ _ _ hl, gb_putw _ _ _ _ hl, gb_putw _ _ _ _ hl, gb_putw _ _ _ _ hl]
    rw [if_neg (by omega), if_neg (by omega), if_neg (by omega), if_neg (by omega), if_neg (by omega), if_neg (by omega), if_neg (by omega), if_neg (by omega),
      if_neg (by omega), if_neg (by omega), if_neg (by omega), if_neg (by omega), if_neg (by omega), if_neg (by omega), if_neg (by omega), if_neg (by omega)]

theorem wordB_clr {xs : List Int} {n f i : Int} (hn : hasB xs n = true) (hf : hasB xs f = true) (i0 : 0 ≤ i) (i1 : i ≤ 63) :
    wordB (clr xs n) f i = if f = n then 0 else wordB xs f i := by
  simp only [hasB, decide_eq_true_eq] at hn hf
  have hl : 256 * n.toNat + (List.replicate 256 (0 : Int)).length ≤ xs.length := by rw [List.length_replicate]; omega
  unfold wordB clr word
  rw [gb_splice _ _ _ _ hl, gb_splice _ _ _ _ hl, gb_splice _ _ _ _ hl, gb_splice _ _ _ _ hl, List.length_replicate, gb_zeros, gb_zeros, gb_zeros, gb_zeros]
  by_cases h : f = n
  · rw [if_pos h, if_pos (by omega), if_pos (by omega), if_pos (by omega), if_pos (by omega)]; rfl
  · rw [if_neg h, if_neg (by omega), if_neg (by omega), if_neg (by omega), if_neg (by omega)]

theorem and2 (x : Int) (h0 : 0 ≤ x) (h1 : x ≤ 4294967295) : bits .and .u32 x 2 = x / 2 % 2 * 2 := by
  obtain ⟨a, rfl⟩ := Int.eq_ofNat_of_zero_le h0
  have := u32_and_nat a 2 (by omega) (by omega)
  have e : a &&& 2 = a % 4 &&& 2 := by
    rw [show (4 : Nat) = 2 ^ 2 from rfl, ← Nat.and_two_pow_sub_one_eq_mod, Nat.and_assoc]
    rfl
  rw [show (2 : Int) = ((2 : Nat) : Int) from rfl, this, e]
  have h : a % 4 = 0 ∨ a % 4 = 1 ∨ a % 4 = 2 ∨ a % 4 = 3 := by omega
  rcases h with h | h | h | h <;> rw [h] <;> simp <;> omega

theorem walkB_range {xs : List Int} (hu : U8 xs) (root p : Int) : 0 ≤ walkB xs root p ∧ walkB xs root p ≤ 4294967295 := by
  unfold walkB
  split
  · split
    · exact word_range hu _
    · omega
  · omega

section
variable {w : World} {t g d cap : Nat} {xs : List Int} {r : List Value} {root : Int} (hT : IsTab w t g d cap xs r root)
include hT

theorem needs_is (p : Int) : Calls Try.prog 33 #[.pointer (some ⟨t, 0, none⟩), .int .i64 p] w fun e w' => e = .returned (.bool (decide (0 ≤ p ∧ p < 256) && !leafB xs root (p / 64))) ∧ ∃ n, w' = w.drewN n := by
  have HC := hide (tclosed_is hT)
  have HP := hide (tpage_is w p)
  have hc := hT.cell0
  have hc1 := hT.cell1
  by_cases h : 0 ≤ p ∧ p < 256
  · have HPd := hide (decide_eq_true h)
    rw [HPd.out] at HP
    have HL := hide fun n => leafAt_is (hT.mem.drewN n) hT.u8 root (p / 64) hT.root (by omega) (by omega)
    obtain ⟨p0, p1⟩ := h
    clear hT
    go_enter Try.func33, Try.ntmps33
    go_wp2_with (first | (go_at_call 43; refine HC.out.mono ?_; rintro e w' ⟨rfl, rfl⟩) | (go_at_call 44; refine HP.out.mono ?_; rintro e w' ⟨rfl, rfl⟩))
    go_quiet (first | (go_at_call 46; exact Calls.quiet_of (HL.out _)))
    go_wp2
    go_ret
    exact ⟨by rw [HPd.out]; rfl, _, rfl⟩
  · have HPd := hide (decide_eq_false h)
    rw [HPd.out] at HP
    clear hT h
    go_enter Try.func33, Try.ntmps33
    go_wp2_with (first | (go_at_call 43; refine HC.out.mono ?_; rintro e w' ⟨rfl, rfl⟩) | (go_at_call 44; refine HP.out.mono ?_; rintro e w' ⟨rfl, rfl⟩))
    go_ret
    exact ⟨by rw [HPd.out]; rfl, 0, rfl⟩

theorem trans_no (a : Int) (wr : Bool) (h0 : 0 ≤ a) (h1 : a ≤ 4294967295) (h : walkB xs root (a / 256) = 0 ∨ (wr = true ∧ walkB xs root (a / 256) / 2 % 2 = 0)) :
    Calls Try.prog 30 #[.pointer (some ⟨t, 0, none⟩), .int .u32 a, .bool wr] w fun e w' => e = .returned (.tuple #[.int .i64 0, .int .i64 51]) ∧ ∃ n, w' = w.drewN n := by
  have HC := hide (tclosed_is hT)
  have HW := hide fun n => walk_is (hT.mem.drewN n) hT.u8 root (a / 256)
  have hc := hT.cell0
  have hc1 := hT.cell1
  obtain ⟨e0, e1⟩ := walkB_range hT.u8 root (a / 256)
  have ha := and2 _ e0 e1
  clear hT
  generalize walkB xs root (a / 256) = x at *
  by_cases hz : x = 0
  · subst hz
    clear h ha
    go_enter Try.func30, Try.ntmps30
    go_wp2_with (first | (go_at_call 43; refine HC.out.mono ?_; rintro e w' ⟨rfl, rfl⟩))
    go_quiet (first | (go_at_call 27; exact Calls.quiet_of (HW.out _)))
    go_wp2
    go_ret2
    exact ⟨rfl, _, rfl⟩
  · have hz' : (x == 0) = false := beq_eq_false_iff_ne.2 hz
    obtain ⟨rfl, hb⟩ := h.resolve_left hz
    have ha' : (bits .and .u32 x 2 == 0) = true := by rw [ha, hb]; rfl
    clear ha hb h
    go_enter Try.func30, Try.ntmps30
    go_wp2_with (first | (go_at_call 43; refine HC.out.mono ?_; rintro e w' ⟨rfl, rfl⟩))
    go_quiet (first | (go_at_call 27; exact Calls.quiet_of (HW.out _)))
    go_wp2
    go_ret2
    exact ⟨rfl, _, rfl⟩

theorem trans_ok (a : Int) (wr : Bool) (h0 : 0 ≤ a) (h1 : a ≤ 4294967295) (hz : walkB xs root (a / 256) ≠ 0) (h : wr = true → walkB xs root (a / 256) / 2 % 2 = 1) :
    Calls Try.prog 30 #[.pointer (some ⟨t, 0, none⟩), .int .u32 a, .bool wr] w fun e w' => e = .returned (.tuple #[.int .i64 (walkB xs root (a / 256) / 256 * 256 + a % 256), .int .i64 0]) ∧ ∃ n, w' = w.drewN n := by
  have HC := hide (tclosed_is hT)
  have HW := hide fun n => walk_is (hT.mem.drewN n) hT.u8 root (a / 256)
  have hc := hT.cell0
  have hc1 := hT.cell1
  obtain ⟨e0, e1⟩ := walkB_range hT.u8 root (a / 256)
  have ha := and2 _ e0 e1
  clear hT
  generalize walkB xs root (a / 256) = x at *
  have HF := hide fun w1 => tframe_is w1 x e0 e1
  have hz' : (x == 0) = false := beq_eq_false_iff_ne.2 hz
  cases wr with
  | false =>
    clear ha h
    go_enter Try.func30, Try.ntmps30
    go_wp2_with (first | (go_at_call 43; refine HC.out.mono ?_; rintro e w' ⟨rfl, rfl⟩))
    go_quiet (first | (go_at_call 27; exact Calls.quiet_of (HW.out _)))
    go_wp2_with (first | (go_at_call 15; refine (HF.out _).mono ?_; rintro e w' ⟨rfl, rfl⟩))
    go_ret2
    exact ⟨rfl, _, rfl⟩
  | true =>
    have ha' : (bits .and .u32 x 2 == 0) = false := by rw [ha, h rfl]; rfl
    clear ha h
    go_enter Try.func30, Try.ntmps30
    go_wp2_with (first | (go_at_call 43; refine HC.out.mono ?_; rintro e w' ⟨rfl, rfl⟩))
    go_quiet (first | (go_at_call 27; exact Calls.quiet_of (HW.out _)))
    go_wp2_with (first | (go_at_call 15; refine (HF.out _).mono ?_; rintro e w' ⟨rfl, rfl⟩))
    go_ret2
    exact ⟨rfl, _, rfl⟩
end
end Go.Proofs.Ytmlaomkofcajgaa
