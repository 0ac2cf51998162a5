/-
  Page tables (parapet/ptab) that New gave: 'IsTab w t g d cap xs r root': the table lies in block t, its memory (IsMem) in g and d; the memory has a frame root. What each call comes to; and a nil table.
-/
import Derived.Test.YtmlaomkofcajgaaPtabWord
import Derived.Deep.RegionHeld3
namespace Go.Proofs.Ytmlaomkofcajgaa
open Go.ChangeShapes Go.WideShapes Go.ChangeAt Go.RowKit
set_option linter.unusedVariables false

structure IsTab (w : World) (t g d cap : Nat) (xs : List Int) (r : List Value) (root : Int) : Prop where
  tab : Blk w t 89 #[.pointer (some ⟨g, 0, none⟩), .int .i64 root]
  mem : IsMem w g d cap xs r
  u8 : U8 xs
  root : hasB xs root = true

section
variable {w w' : World} {t g d cap : Nat} {xs : List Int} {r : List Value} {root : Int} {S : List Nat}
theorem IsTab.cell0 (h : IsTab w t g d cap xs r root) : w.cell? ⟨t, 0, none⟩ = some (.pointer (some ⟨g, 0, none⟩)) := by rw [h.tab.cell]; rfl
theorem IsTab.cell1 (h : IsTab w t g d cap xs r root) : w.cell? ⟨t, 1, none⟩ = some (.int .i64 root) := by rw [h.tab.cell]; rfl
theorem IsTab.drewN (h : IsTab w t g d cap xs r root) (n : Nat) : IsTab (w.drewN n) t g d cap xs r root := ⟨h.tab.drewN n, h.mem.drewN n, h.u8, h.root⟩
theorem IsTab.only (h : IsTab w t g d cap xs r root) (ho : Only S w w') (ht : t ∉ S) (hg : g ∉ S) (hd : d ∉ S) : IsTab w' t g d cap xs r root :=
  ⟨h.tab.only ho ht, h.mem.only ho hg hd, h.u8, h.root⟩
theorem IsTab.alloc (h : IsTab w t g d cap xs r root) (o : Obj) : IsTab (w.alloc o) t g d cap xs r root := ⟨h.tab.alloc o, h.mem.alloc o, h.u8, h.root⟩
theorem IsTab.ne (h : IsTab w t g d cap xs r root) : t ≠ g ∧ t ≠ d ∧ g ≠ d := ⟨h.tab.ne_ h.mem.mem (by decide), h.tab.ne_ h.mem.row (by decide), h.mem.ne⟩
theorem IsTab.lt (h : IsTab w t g d cap xs r root) : t < w.heap.size ∧ g < w.heap.size ∧ d < w.heap.size := ⟨h.tab.lt, h.mem.lt.1, h.mem.lt.2⟩
/-- The memory's bytes were written to: the table is one of the new bytes. -/
theorem IsTab.wrote {ys : List Int} (h : IsTab w t g d cap xs r root) (ho : Only [d] w w') (hm : IsMem w' g d cap ys r) (hu : U8 ys) (hl : ys.length = xs.length) : IsTab w' t g d cap ys r root :=
  ⟨h.tab.only ho (by simpa using h.ne.2.1), hm, hu, by have := h.root; unfold hasB at this ⊢; rw [hl]; exact this⟩
end

/-- May an entry be? -/
def mayB (xs : List Int) (x : Int) : Bool := decide (x = 0) || (decide (x % 2 = 1) && decide (x % 256 / 8 = 0) && !decide (x % 8 / 2 = 3) && hasB xs (x / 256))

theorem flagbits : ∀ n : Fin 256, bits .and .i64 (n.val : Int) 1 = n.val % 2 ∧ bits .andNot .i64 (n.val : Int) 7 = n.val / 8 * 8 ∧ bits .and .i64 (n.val : Int) 6 = n.val % 8 / 2 * 2 := by
  decide +kernel
theorem flagbits' (x : Int) (h0 : 0 ≤ x) (h1 : x ≤ 255) : bits .and .i64 x 1 = x % 2 ∧ bits .andNot .i64 x 7 = x / 8 * 8 ∧ bits .and .i64 x 6 = x % 8 / 2 * 2 := by
  obtain ⟨a, rfl⟩ := Int.eq_ofNat_of_zero_le h0
  exact flagbits ⟨a, by omega⟩

section
variable {w : World} {t g d cap : Nat} {xs : List Int} {r : List Value} {root : Int} (hT : IsTab w t g d cap xs r root)
include hT

theorem tclosed_is : Calls Try.prog 43 #[.pointer (some ⟨t, 0, none⟩)] w fun e w' => e = .returned (.bool false) ∧ w = w' := by
  have hc := hT.cell0
  go_enter Try.func43, Try.ntmps43
  go_wp2
  go_ret
  exact ⟨rfl, rfl⟩

theorem mayBe_is (x : Int) (h0 : 0 ≤ x) (h1 : x ≤ 4294967295) :
    Calls Try.prog 45 #[.pointer (some ⟨t, 0, none⟩), .int .u32 x] w fun e w' => e = .returned (.bool (mayB xs x)) ∧ ∃ n, w' = w.drewN n := by
  have hc := hT.cell0
  by_cases hx : x = 0
  · subst hx
    go_enter Try.func45, Try.ntmps45
    go_wp2
    go_ret
    exact ⟨rfl, 0, rfl⟩
  · have hx' : (x == 0) = false := beq_eq_false_iff_ne.2 hx
    have HF := hide (tflags_is w x h0 h1)
    obtain ⟨b1, b2, b3⟩ := flagbits' (x % 256) (by omega) (by omega)
    have HFr := hide (fun n => tframe_is (w.drewN n) x h0 h1)
    have HH := hide (fun n => hasFrame_is (hT.mem.drewN n) (x / 256))
    by_cases c1 : x % 256 % 2 = 0
    · have HE := hide (show mayB xs x = false by unfold mayB; rw [decide_eq_false hx, decide_eq_false (p := x % 2 = 1) (by omega)]; rfl)
      have d1 : (x % 256 % 2 == 0) = true := beq_iff_eq.2 c1
      rw [c1] at b1
      clear hx HFr HH hT
      go_enter Try.func45, Try.ntmps45
      go_wp2_with (go_at_call 16; refine HF.out.mono ?_; rintro e w' ⟨rfl, rfl⟩)
      go_ret
      exact ⟨by rw [HE.out]; rfl, 0, rfl⟩
    · have c1' : x % 256 % 2 = 1 := by omega
      rw [c1'] at b1
      by_cases c2 : x % 256 / 8 = 0
      · rw [c2] at b2
        by_cases c3 : x % 256 % 8 / 2 = 3
        · have HE := hide (show mayB xs x = false by unfold mayB; rw [decide_eq_false hx, decide_eq_true (p := x % 8 / 2 = 3) (by omega)]; simp)
          rw [c3] at b3
          have hb6 : (bits .and .i64 (x % 256) 6 != 6) = false := by rw [b3]; rfl
          clear hx HFr HH hT c1 c1' c2 c3 b3
          go_enter Try.func45, Try.ntmps45
          go_wp2_with (go_at_call 16; refine HF.out.mono ?_; rintro e w' ⟨rfl, rfl⟩)
          go_quiet (fail)
          go_wp2
          go_ret
          exact ⟨by rw [HE.out]; rfl, _, rfl⟩
        · have HE := hide (show mayB xs x = hasB xs (x / 256) by
            unfold mayB; rw [decide_eq_false hx, decide_eq_false (p := x % 8 / 2 = 3) (by omega), decide_eq_true (p := x % 2 = 1) (by omega), decide_eq_true c2]; simp)
          have hb6 : (bits .and .i64 (x % 256) 6 != 6) = true := by rw [b3]; simp only [bne_iff_ne]; omega
          clear hx hT c1 c1' c2 c3 b3
          go_enter Try.func45, Try.ntmps45
          go_wp2_with (go_at_call 16; refine HF.out.mono ?_; rintro e w' ⟨rfl, rfl⟩)
          go_quiet (first | (go_at_call 15; exact Calls.quiet_of_same ((HFr.out _).mono fun _ _ h => ⟨h.1, h.2.symm⟩)) | (go_at_call 54; exact Calls.quiet_of_same ((HH.out _).mono fun _ _ h => ⟨h.1, h.2.symm⟩)))
          go_wp2
          go_ret
          exact ⟨by rw [HE.out]; rfl, _, rfl⟩
      · have HE := hide (show mayB xs x = false by unfold mayB; rw [decide_eq_false hx, decide_eq_false c2]; simp)
        have hb7 : (x % 256 / 8 * 8 != 0) = true := by simp only [bne_iff_ne]; omega
        clear hx HFr HH hT c1 c1'
        go_enter Try.func45, Try.ntmps45
        go_wp2_with (go_at_call 16; refine HF.out.mono ?_; rintro e w' ⟨rfl, rfl⟩)
        go_ret
        exact ⟨by rw [HE.out]; rfl, 0, rfl⟩

theorem get_ok (p : Int) (h : 0 ≤ p ∧ p < 256) :
    Calls Try.prog 29 #[.pointer (some ⟨t, 0, none⟩), .int .i64 p] w fun e w' => e = .returned (.tuple #[.int .u32 (walkB xs root p), .int .i64 0]) ∧ ∃ n, w' = w.drewN n := by
  have HC := hide (tclosed_is hT)
  have HP := hide (tpage_is w p)
  rw [decide_eq_true h] at HP
  have HW := hide fun n => walk_is (hT.mem.drewN n) hT.u8 root p
  have hc := hT.cell0
  have hc1 := hT.cell1
  clear hT h
  go_enter Try.func29, Try.ntmps29
  go_wp2_with (first | (go_at_call 43; refine HC.out.mono ?_; rintro e w' ⟨rfl, rfl⟩) | (go_at_call 44; refine HP.out.mono ?_; rintro e w' ⟨rfl, rfl⟩))
  go_quiet (first | (go_at_call 27; exact Calls.quiet_of (HW.out _)))
  go_wp2
  go_ret2
  exact ⟨rfl, _, rfl⟩

theorem get_bad (p : Int) (h : ¬ (0 ≤ p ∧ p < 256)) :
    Calls Try.prog 29 #[.pointer (some ⟨t, 0, none⟩), .int .i64 p] w fun e w' => e = .returned (.tuple #[.int .u32 0, .int .i64 1]) ∧ w = w' := by
  have HC := hide (tclosed_is hT)
  have HP := hide (tpage_is w p)
  rw [decide_eq_false h] at HP
  clear hT h
  go_enter Try.func29, Try.ntmps29
  go_wp2_with (first | (go_at_call 43; refine HC.out.mono ?_; rintro e w' ⟨rfl, rfl⟩) | (go_at_call 44; refine HP.out.mono ?_; rintro e w' ⟨rfl, rfl⟩))
  go_ret2
  exact ⟨rfl, rfl⟩

theorem root_is : Calls Try.prog 32 #[.pointer (some ⟨t, 0, none⟩)] w fun e w' => e = .returned (.int .i64 root) ∧ w = w' := by
  have HC := hide (tclosed_is hT)
  have hc1 := hT.cell1
  clear hT
  go_enter Try.func32, Try.ntmps32
  go_wp2_with (first | (go_at_call 43; refine HC.out.mono ?_; rintro e w' ⟨rfl, rfl⟩))
  go_ret
  exact ⟨rfl, rfl⟩
end
end Go.Proofs.Ytmlaomkofcajgaa
