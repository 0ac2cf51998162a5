/-
  Slabs (parapetlaw08): awake: the chapter's example.
-/
import Derived.Test.YtgoaebikgdecoaaDoorSlabOps
namespace Go.Proofs.YtgoaebikgdecoaaDoor
open Go.ChangeShapes Go.WideShapes Go.ChangeAt Go.RowKit Go.Maps
set_option linter.unusedVariables false

theorem hAll_is (w : World) (p : Option Addr) : Calls Tryd.prog 25 #[.pointer p] w fun e w' => e = .returned (.func (.func 46) #[] #[.pointer (some ⟨w.heap.size, 0, none⟩)]) ∧ w' = w.alloc (.cells #[.pointer p] 24) := by
  have hmf : ∀ (fn : Fn) (first cap : Array Value) (w : World), (Instr.makeFunc fn first cap).run Tryd.prog w = .ok (.func fn first cap) w := fun _ _ _ _ => rfl
  go_enter Tryd.func25, Tryd.ntmps25
  go_wp2
  go_ret
  exact ⟨rfl, rfl⟩
theorem seq8_nil (w : World) (q : Option Addr) : (binOp BinOp.eql 53 (.func (.func 46) #[] #[.pointer q]) .nilFunc).run Tryd.prog w = .ok (.bool false) w := by kernel_rfl
def awS : Nat → St8
  | 0 => ([], [])
  | 1 => ([⟨6, 6⟩], [(0, 1)])
  | 2 => ([⟨6, 4⟩], [(0, 1), (1, 1)])
  | _ => ([⟨6, 0⟩], [(0, 1), (1, 1), (2, 1)])
theorem awS_step {k : Nat} (h : k < 3) : allocF 4096 (awS k).1 (awS k).2 6 1 = (awS (k + 1), (k : Int), 0) := by
  match k, h with
  | 0, _ => rfl
  | 1, _ => rfl
  | 2, _ => rfl
theorem aw4 : allocF 4096 (awS 3).1 (awS 3).2 6 1 = (([⟨6, 0⟩, ⟨6, 6⟩], [(0, 1), (1, 1), (2, 1), (64, 1)]), 64, 0) := by rfl
theorem aw5 : allocF 4096 [⟨6, 0⟩, ⟨6, 6⟩] [(0, 1), (1, 1), (2, 1), (64, 1)] 1 1 = (([⟨6, 0⟩, ⟨6, 6⟩], [(0, 1), (1, 1), (2, 1), (64, 1)]), 0, 2) := by rfl
theorem aw6 : freeF [⟨6, 0⟩, ⟨6, 6⟩] [(0, 1), (1, 1), (2, 1), (64, 1)] 64 = (([⟨6, 0⟩, ⟨0, 0⟩], [(0, 1), (1, 1), (2, 1)]), 0) := by rfl
theorem aw7 : allocF 4096 [⟨6, 0⟩, ⟨0, 0⟩] [(0, 1), (1, 1), (2, 1)] 1 1 = (([⟨6, 0⟩, ⟨1, 254⟩], [(0, 1), (1, 1), (2, 1), (64, 1)]), 64, 0) := by rfl
theorem aw8 : usedL [⟨6, 0⟩, ⟨1, 254⟩] = 1984 := by rfl
theorem aw9 : (2048 * (cntK [⟨6, 0⟩, ⟨1, 254⟩] : Nat) : Int) = 4096 := by rfl
theorem iW1 : iW 1 := iW_of (by decide) (by decide)
set_option maxRecDepth 100000 in
set_option maxHeartbeats 1500000 in
theorem awake8_is (w : World) (hT : TabS w) : Calls Tryd.prog 7 #[] w fun e w' => e = .returned (.bool true) ∧ Only [] w w' := by
  have HT := hide hT
  have HN := hide (hp_new (w := w) 4096 (by decide))
  clear hT
  have qF := seq8_nil
  go_enter Tryd.func7, Tryd.ntmps7
  go_wp2_with (first | (go_at_call 8; refine HN.out.mono ?_; rintro e w1 ⟨g, m, rfl, h1⟩; have H1 := hide h1; clear h1) | (go_at_call 25; refine (hAll_is _ _).mono ?_; rintro e w2 ⟨rfl, rfl⟩))
  go_loopw [33] (fun iv wr => ∃ k : Nat, k ≤ 3 ∧ iv = .int .i64 k ∧ Hp8 w wr g m 4096 (awS k).1 (awS k).2) (fun iv _ => 3 - (intOf iv).toNat)
  case atStart => exact ⟨0, by decide, rfl, H1.out.only (((Only.refl [] w1).alloc _).alloc _)⟩
  case round =>
    obtain ⟨k, hk, rfl, hp⟩ := hrel
    by_cases hlt : k < 3
    · have HA := hide (hp_alloc HT.out hp 6 1 iW1)
      rw [awS_step hlt] at HA
      have hkI : (k : Int) < 3 := by omega
      clear hp
      go_wp2_with (go_at_call 11; refine HA.out.mono ?_; rintro e w2 ⟨rfl, h2⟩; have H2 := hide h2; clear h2; simp only [tupA])
      go_roundw
      case rel => exact ⟨k + 1, hlt, by go_num, H2.out⟩
      case measure => simp [intOf]; omega
    · obtain rfl : k = 3 := by omega
      have HA4 := hide (show Calls Tryd.prog 11 #[.pointer (some ⟨g, 0, none⟩), .int .i64 6, .int .i64 1] wr fun e w' => e = .returned (tupA 64 0) ∧ Hp8 w w' g m 4096 [⟨6, 0⟩, ⟨6, 6⟩] [(0, 1), (1, 1), (2, 1), (64, 1)] by
        have := hp_alloc HT.out hp 6 1 iW1
        rw [aw4] at this; exact this)
      have HA5 := hide (show ∀ w2, Hp8 w w2 g m 4096 [⟨6, 0⟩, ⟨6, 6⟩] [(0, 1), (1, 1), (2, 1), (64, 1)] → Calls Tryd.prog 11 #[.pointer (some ⟨g, 0, none⟩), .int .i64 1, .int .i64 1] w2 fun e w' => e = .returned (tupA 0 2) ∧ Hp8 w w' g m 4096 [⟨6, 0⟩, ⟨6, 6⟩] [(0, 1), (1, 1), (2, 1), (64, 1)] by
        intro w2 h2
        have := hp_alloc HT.out h2 1 1 iW1
        rw [aw5] at this; exact this)
      have HA6 := hide (show ∀ w2, Hp8 w w2 g m 4096 [⟨6, 0⟩, ⟨6, 6⟩] [(0, 1), (1, 1), (2, 1), (64, 1)] → Calls Tryd.prog 14 #[.pointer (some ⟨g, 0, none⟩), .int .i64 64] w2 fun e w' => e = .returned (.int .i64 0) ∧ Hp8 w w' g m 4096 [⟨6, 0⟩, ⟨0, 0⟩] [(0, 1), (1, 1), (2, 1)] by
        intro w2 h2
        have := hp_free HT.out h2 64 (iW_of (by decide) (by decide))
        rw [aw6] at this; exact this)
      have HA7 := hide (show ∀ w2, Hp8 w w2 g m 4096 [⟨6, 0⟩, ⟨0, 0⟩] [(0, 1), (1, 1), (2, 1)] → Calls Tryd.prog 11 #[.pointer (some ⟨g, 0, none⟩), .int .i64 1, .int .i64 1] w2 fun e w' => e = .returned (tupA 64 0) ∧ Hp8 w w' g m 4096 [⟨6, 0⟩, ⟨1, 254⟩] [(0, 1), (1, 1), (2, 1), (64, 1)] by
        intro w2 h2
        have := hp_alloc HT.out h2 1 1 iW1
        rw [aw7] at this; exact this)
      have HA8 := hide (show ∀ w2, Hp8 w w2 g m 4096 [⟨6, 0⟩, ⟨1, 254⟩] [(0, 1), (1, 1), (2, 1), (64, 1)] → Calls Tryd.prog 17 #[.pointer (some ⟨g, 0, none⟩)] w2 fun e w' => e = .returned (.int .i64 1984) ∧ Hp8 w w' g m 4096 [⟨6, 0⟩, ⟨1, 254⟩] [(0, 1), (1, 1), (2, 1), (64, 1)] by
        intro w2 h2
        have := hp_used HT.out h2
        rw [aw8] at this; exact this)
      have HA9 := hide (show ∀ w2, Hp8 w w2 g m 4096 [⟨6, 0⟩, ⟨1, 254⟩] [(0, 1), (1, 1), (2, 1), (64, 1)] → Calls Tryd.prog 18 #[.pointer (some ⟨g, 0, none⟩)] w2 fun e w' => e = .returned (.int .i64 4096) ∧ Only [] w w' by
        intro w2 h2
        have := hp_bytes h2
        rw [aw9] at this
        exact this.mono fun e w' h => ⟨h.1, by obtain ⟨_, _, _, _, _, _, h6⟩ := h.2; exact h6⟩)
      clear hp
      go_wp2_with (first | (have hg := H6; go_at_call 11; refine (HA7.out _ H6.out).mono ?_; rintro e w7 ⟨rfl, h⟩; have H7 := hide h; clear h; simp only [tupA]) | (have hg := H4; go_at_call 11; refine (HA5.out _ H4.out).mono ?_; rintro e w5 ⟨rfl, h⟩; have H5 := hide h; clear h; simp only [tupA]) | (go_at_call 11; refine HA4.out.mono ?_; rintro e w4 ⟨rfl, h⟩; have H4 := hide h; clear h; simp only [tupA]) | (go_at_call 14; refine (HA6.out _ H5.out).mono ?_; rintro e w6 ⟨rfl, h⟩; have H6 := hide h; clear h) | (go_at_call 17; refine (HA8.out _ H7.out).mono ?_; rintro e w8 ⟨rfl, h⟩; have H8 := hide h; clear h) | (go_at_call 18; refine (HA9.out _ H8.out).mono ?_; rintro e w9 ⟨rfl, h⟩; have H9 := hide h; clear h))
      go_ret
      exact ⟨rfl, H9.out⟩
end Go.Proofs.YtgoaebikgdecoaaDoor
