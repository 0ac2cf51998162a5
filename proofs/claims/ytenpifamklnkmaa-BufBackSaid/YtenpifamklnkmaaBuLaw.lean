/-
  Buffers: what the laws share: nil caches; 'full'; 'lives'.
-/
import Derived.Test.YtenpifamklnkmaaBuForg
namespace Go.Proofs.Ytenpifamklnkmaa
open Go.ChangeShapes Go.WideShapes Go.ChangeAt Go.RowKit Go.Maps
set_option linter.unusedVariables false

theorem buRead_nil (w : World) (n : Int) : Calls Try.prog 10 #[.pointer none, .int .i64 n] w fun e w' => e = .returned (.tuple #[.slice none 0 0, .int .i64 6]) ∧ w = w' := by
  go_enter Try.func10, Try.ntmps10
  go_wp2_with (go_at_call 25; refine (buclosed_nil _).mono ?_; rintro e w' ⟨rfl, rfl⟩)
  go_ret2
  exact ⟨rfl, rfl⟩

theorem buBack_nil (w : World) (n : Int) : Calls Try.prog 14 #[.pointer none, .int .i64 n] w fun e w' => e = .returned (.tuple #[.bool false, .int .i64 6]) ∧ w = w' := by
  go_enter Try.func14, Try.ntmps14
  go_wp2_with (go_at_call 25; refine (buclosed_nil _).mono ?_; rintro e w' ⟨rfl, rfl⟩)
  go_ret2
  exact ⟨rfl, rfl⟩

theorem buDirty_nil (w : World) : Calls Try.prog 16 #[.pointer none] w fun e w' => e = .returned (.slice none 0 0) ∧ w = w' := by
  go_enter Try.func16, Try.ntmps16
  go_wp2_with (go_at_call 25; refine (buclosed_nil _).mono ?_; rintro e w' ⟨rfl, rfl⟩)
  go_ret
  exact ⟨rfl, rfl⟩

theorem buKept_nil (w : World) : Calls Try.prog 20 #[.pointer none] w fun e w' => e = .returned (.slice none 0 0) ∧ w = w' := by
  go_enter Try.func20, Try.ntmps20
  go_wp2_with (go_at_call 25; refine (buclosed_nil _).mono ?_; rintro e w' ⟨rfl, rfl⟩)
  go_ret
  exact ⟨rfl, rfl⟩

theorem buForget_nil (w : World) : Calls Try.prog 15 #[.pointer none] w fun e w' => e = .returned (.int .i64 0) ∧ w = w' := by
  go_enter Try.func15, Try.ntmps15
  go_wp2_with (go_at_call 25; refine (buclosed_nil _).mono ?_; rintro e w' ⟨rfl, rfl⟩)
  go_ret
  exact ⟨rfl, rfl⟩

theorem buCounts_nil (w : World) : Calls Try.prog 21 #[.pointer none] w fun e w' => e = .returned (.agg #[.int .i64 0, .int .i64 0, .int .i64 0, .int .i64 0]) ∧ Only [] w w' := by
  have HO := hide (fun o => (Only.refl [] w).alloc o)
  have hb := Blk.new w 48 #[.int .i64 0, .int .i64 0, .int .i64 0, .int .i64 0]
  go_enter Try.func21, Try.ntmps21
  go_wp2_with (go_at_call 25; refine (buclosed_nil _).mono ?_; rintro e w' ⟨rfl, rfl⟩)
  have e0 := hb.cell 0
  have e1 := hb.cell 1
  have e2 := hb.cell 2
  have e3 := hb.cell 3
  refine bodyPost_ret (v := .agg #[.int .i64 0, .int .i64 0, .int .i64 0, .int .i64 0]) (by simp [results, Try.results21, go_sem, e0, e1, e2, e3]) rfl ⟨rfl, HO.out _⟩

theorem buNew_nil (w : World) (n : Int) : Calls Try.prog 9 #[.pointer none, .int .i64 n] w fun e w' => e = .returned (.tuple #[.pointer none, .int .i64 1]) ∧ w = w' := by
  have HC := hide (dcount_nil w)
  go_enter Try.func9, Try.ntmps9
  go_wp2_with (go_at_call 24; refine HC.out.mono ?_; rintro e w' ⟨rfl, rfl⟩)
  go_ret2
  exact ⟨rfl, rfl⟩

set_option maxRecDepth 100000 in
theorem full_is (w : World) (c : Int) (h0 : 0 ≤ c) (h1 : c ≤ 255) : Calls Try.prog 12 #[.int .u8 c, .int .i64 0] w fun e w' => ∃ v, e = .returned v ∧ Fresh w' w.heap.size v (List.replicate 512 c) ∧ Only [] w w' := by
  go_enter Try.func12, Try.ntmps12
  go_wp2
  go_loopw [5, 6] (fun v iv wr => ∃ i : Nat, i ≤ 512 ∧ iv = .int .i64 i ∧ KRow .u8 5 wr w.heap.size v (List.replicate i c) ∧ Only [] w wr) (fun _ iv _ => 512 - (intOf iv).toNat)
  case atStart => exact ⟨0, by omega, rfl, KRow.nil _ _ _ _, Only.refl _ _⟩
  case round =>
    obtain ⟨i, hi, rfl, hr, ho⟩ := hrel
    have HR := hide hr
    have HO := hide ho
    by_cases hlt : i < 512
    · obtain ⟨A, cap, hv, -⟩ := hr.form
      rw [List.length_replicate] at hv
      subst hv
      have HRA := hide (show KRow .u8 5 (wr.alloc (.cells #[.int .u8 c] 5)) w.heap.size (.slice A i cap) (List.replicate i c) from KRow.only hr ((Only.refl [] wr).alloc _) (by simp))
      have HC := hide ((Blk.new wr 5 #[.int .u8 c]).cell 0)
      have HB := hide (show w.heap.size ≤ (wr.alloc (.cells #[.int .u8 c] 5)).heap.size by have := ho.size; simp; omega)
      clear hr ho
      go_wp2_with (at_builtin; refine wpList_append_k (k := .u8) (e := 5) (T := 34) (bytes := 1) (v := .slice A i cap) Try.underlying34 info_u8 (by decide) rfl _ _ rfl _ rfl HRA.out wr.heap.size c rfl HC.out (by simp; omega) HB.out ?_; intro v' w1 h1 h2; obtain ⟨A', c', hv', -⟩ := h1.form; rw [List.length_append, List.length_replicate, List.length_singleton] at hv'; subst hv'; have H1 := hide h1; have H2 := hide h2; clear h1 h2)
      go_roundw
      case rel =>
        refine ⟨i + 1, hlt, by go_num, ?_, KRow.grew HRA.out H2.out (HO.out.alloc _) (Nat.le_refl _)⟩
        rw [List.replicate_succ']
        exact H1.out
      case measure => simp [intOf]; omega
    · obtain rfl : i = 512 := by omega
      obtain ⟨A, cap, hv, -⟩ := hr.form
      rw [List.length_replicate] at hv
      subst hv
      have hne : Value.slice A 512 cap ≠ .slice none 0 0 := by
        intro e
        injection e with _ e _
        simp at e
      clear hr ho
      go_wp2
      go_ret
      exact ⟨_, rfl, Fresh.of_own (n := 512) (by have := HR.out; unfold KRow at this; simpa [u8l] using this) hne, HO.out⟩
end Go.Proofs.Ytenpifamklnkmaa
