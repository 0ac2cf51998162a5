/-
  Translations (parapet/tlb): a hart's keys, sorted by when they were filled.
-/
import Derived.Test.YtdkbjnnflpopdaaTlbLives
import Derived.Deep.RegionHeld3
namespace Go.Proofs.Ytdkbjnnflpopdaa
open Go.ChangeShapes Go.WideShapes Go.ChangeAt Go.RowKit Go.Maps Go.Shelf
set_option linter.unusedVariables false

def cmp3 (x y : Int) : Int := if x < y then -1 else if y < x then 1 else 0
theorem compare_is (x y : Int) (w : World) : Calls Try.prog 40 #[.int .i64 x, .int .i64 y] w fun e w' => e = .returned (.int .i64 (cmp3 x y)) ∧ w = w' := by
  by_cases h1 : x < y
  · have d1 : decide (x < y) = true := by simpa using h1
    have e : cmp3 x y = -1 := if_pos h1
    rw [e]
    clear e h1
    go_enter Try.func40, Try.ntmps40
    go_wp2_with (go_at_call 49; refine (Try.cmp_isNaN_int2 _ _).mono ?_; rintro e w' ⟨rfl, rfl⟩)
    go_ret
    exact ⟨rfl, rfl⟩
  · have d1 : decide (x < y) = false := by simpa using h1
    by_cases h2 : y < x
    · have d2 : decide (y < x) = true := by simpa using h2
      have e : cmp3 x y = 1 := by unfold cmp3; rw [if_neg h1, if_pos h2]
      rw [e]
      clear e h1 h2
      go_enter Try.func40, Try.ntmps40
      go_wp2_with (go_at_call 49; refine (Try.cmp_isNaN_int2 _ _).mono ?_; rintro e w' ⟨rfl, rfl⟩)
      go_ret
      exact ⟨rfl, rfl⟩
    · have d2 : decide (y < x) = false := by simpa using h2
      have e : cmp3 x y = 0 := by unfold cmp3; rw [if_neg h1, if_neg h2]
      rw [e]
      clear e h1 h2
      go_enter Try.func40, Try.ntmps40
      go_wp2_with (go_at_call 49; refine (Try.cmp_isNaN_int2 _ _).mono ?_; rintro e w' ⟨rfl, rfl⟩)
      go_ret
      exact ⟨rfl, rfl⟩

section
variable {w : World} {b Bx : Nat} {D : DataW Unit} {l : List (K2 × K2)}
set_option maxRecDepth 100000 in
theorem Holds.look0 {W : World} {b n : Nat} {D : DataW Unit} {l : List (K2 × K2)} {k f : K2} (H : Holds D l) (hown : W.ownsMap Try.prog 33 elemF b n D) (hp : (k, f) ∈ l) : (Instr.lookup 59 (.map (some b)) (.agg #[.int .i64 k.1, .int .i64 k.2]) false).run Try.prog W = .ok (.agg #[.int .u32 f.1, .int .i64 f.2]) W := by
  obtain ⟨v, ps, hrun, hv⟩ := hown.lookup lawKey Try.underlying59 (zeroF W) (elemF_mk (0, 0)) (keyOf_kV (H.wf _ hp))
  rw [H.at_ _ hp] at hv
  obtain ⟨f', rfl, e⟩ := elemF_inv hv
  injection e with e _
  have e1 := fD_inj e
  subst e1
  exact hrun
theorem field_turn (e t : Int) (W : World) : (Instr.field 81 (.agg #[.int .u32 e, .int .i64 t]) 1).run Try.prog W = .ok (.int .i64 t) W := by kernel_rfl
set_option maxRecDepth 100000 in
theorem kept1_is {a c fa fc : K2} (hm : w.cell? ⟨Bx, 0, none⟩ = some (.map (some b))) (hown : w.ownsMap Try.prog 33 elemF b l.length D) (H : Holds D l) (ha : (a, fa) ∈ l) (hc : (c, fc) ∈ l) :
    Calls Try.prog 39 #[.agg #[.int .i64 a.1, .int .i64 a.2], .agg #[.int .i64 c.1, .int .i64 c.2], .pointer (some ⟨Bx, 0, none⟩)] w fun e w' => e = .returned (.int .i64 (cmp3 fa.2 fc.2)) ∧ Only [] w w' := by
  have h0 : ∀ o1 o2, ((w.alloc o1).alloc o2).cell? ⟨Bx, 0, none⟩ = some (.map (some b)) := fun o1 o2 => Lib.cell?_alloc_some _ (Lib.cell?_alloc_some _ hm)
  have h1 : ∀ o1 o2, (Instr.lookup 59 (.map (some b)) (.agg #[.int .i64 a.1, .int .i64 a.2]) false).run Try.prog ((w.alloc o1).alloc o2) = .ok (.agg #[.int .u32 fa.1, .int .i64 fa.2]) ((w.alloc o1).alloc o2) := fun o1 o2 => H.look0 ((hown.alloc o1).alloc o2) ha
  have h2 : ∀ o1 o2, (Instr.lookup 59 (.map (some b)) (.agg #[.int .i64 c.1, .int .i64 c.2]) false).run Try.prog ((w.alloc o1).alloc o2) = .ok (.agg #[.int .u32 fc.1, .int .i64 fc.2]) ((w.alloc o1).alloc o2) := fun o1 o2 => H.look0 ((hown.alloc o1).alloc o2) hc
  have h5 : ∀ o1 o2 n, (Instr.lookup 59 (.map (some b)) (.agg #[.int .i64 a.1, .int .i64 a.2]) false).run Try.prog (((w.alloc o1).alloc o2).drewN n) = .ok (.agg #[.int .u32 fa.1, .int .i64 fa.2]) (((w.alloc o1).alloc o2).drewN n) := fun o1 o2 n => H.look0 (W := ((w.alloc o1).alloc o2).drewN n) (show (((w.alloc o1).alloc o2).drewN n).ownsMap _ _ _ _ _ _ from (hown.alloc o1).alloc o2) ha
  have h6 : ∀ o1 o2 n, (Instr.lookup 59 (.map (some b)) (.agg #[.int .i64 c.1, .int .i64 c.2]) false).run Try.prog (((w.alloc o1).alloc o2).drewN n) = .ok (.agg #[.int .u32 fc.1, .int .i64 fc.2]) (((w.alloc o1).alloc o2).drewN n) := fun o1 o2 n => H.look0 (W := ((w.alloc o1).alloc o2).drewN n) (show (((w.alloc o1).alloc o2).drewN n).ownsMap _ _ _ _ _ _ from (hown.alloc o1).alloc o2) hc
  have h3 : ∀ o1 o2, (Instr.lookup 59 (.map (some b)) (.agg #[.int .i64 a.1, .int .i64 a.2]) false).run Try.prog ((w.alloc o1).alloc o2).drew = .ok (.agg #[.int .u32 fa.1, .int .i64 fa.2]) ((w.alloc o1).alloc o2).drew := fun o1 o2 => H.look0 ((hown.alloc o1).alloc o2).drew ha
  have h4 : ∀ o1 o2, (Instr.lookup 59 (.map (some b)) (.agg #[.int .i64 c.1, .int .i64 c.2]) false).run Try.prog ((w.alloc o1).alloc o2).drew = .ok (.agg #[.int .u32 fc.1, .int .i64 fc.2]) ((w.alloc o1).alloc o2).drew := fun o1 o2 => H.look0 ((hown.alloc o1).alloc o2).drew hc
  have HO := hide (fun (o1 o2 : Obj) (n : Nat) => (show Only [] w (((w.alloc o1).alloc o2).drewN n) from (((Only.refl [] w).alloc _).alloc _).drewN n))
  clear hm hown H ha hc
  go_enter Try.func39, Try.ntmps39
  go_wp2_with fail
  have hS0 : ∀ n, ((((w.alloc (.cells #[.int .i64 a.1, .int .i64 a.2] 33)).alloc (.cells #[.int .i64 c.1, .int .i64 c.2] 33)).drewN n)).cell? ⟨Bx, 0, none⟩ = some (.map (some b)) ∧ ((((w.alloc (.cells #[.int .i64 a.1, .int .i64 a.2] 33)).alloc (.cells #[.int .i64 c.1, .int .i64 c.2] 33)).drewN n)).cell? ⟨w.heap.size, 0, none⟩ = some (.int .i64 a.1) ∧ ((((w.alloc (.cells #[.int .i64 a.1, .int .i64 a.2] 33)).alloc (.cells #[.int .i64 c.1, .int .i64 c.2] 33)).drewN n)).cell? ⟨w.heap.size, 1, none⟩ = some (.int .i64 a.2) ∧ ((((w.alloc (.cells #[.int .i64 a.1, .int .i64 a.2] 33)).alloc (.cells #[.int .i64 c.1, .int .i64 c.2] 33)).drewN n)).cell? ⟨w.heap.size + 1, 0, none⟩ = some (.int .i64 c.1) ∧ ((((w.alloc (.cells #[.int .i64 a.1, .int .i64 a.2] 33)).alloc (.cells #[.int .i64 c.1, .int .i64 c.2] 33)).drewN n)).cell? ⟨w.heap.size + 1, 1, none⟩ = some (.int .i64 c.2) := fun n => by
    have k1 := (Blk.new w 33 #[.int .i64 a.1, .int .i64 a.2]).alloc (.cells #[.int .i64 c.1, .int .i64 c.2] 33)
    have k2 := Blk.new (w.alloc (.cells #[.int .i64 a.1, .int .i64 a.2] 33)) 33 #[.int .i64 c.1, .int .i64 c.2]
    rw [show (w.alloc (.cells #[.int .i64 a.1, .int .i64 a.2] 33)).heap.size = w.heap.size + 1 by simp] at k2
    exact ⟨h0 _ _, k1.cell 0, k1.cell 1, k2.cell 0, k2.cell 1⟩
  have HS := hide hS0
  have hfd := field_turn
  go_region_held3 (fun w' => w'.cell? ⟨Bx, 0, none⟩ = some (.map (some b)) ∧ w'.cell? ⟨w.heap.size, 0, none⟩ = some (.int .i64 a.1) ∧ w'.cell? ⟨w.heap.size, 1, none⟩ = some (.int .i64 a.2) ∧ w'.cell? ⟨w.heap.size + 1, 0, none⟩ = some (.int .i64 c.1) ∧ w'.cell? ⟨w.heap.size + 1, 1, none⟩ = some (.int .i64 c.2)) (first | assumption | exact HS.out 0 | exact HS.out 1 | go_keep) (first | (go_at_call 40; refine (compare_is _ _ _).mono ?_; rintro e w' ⟨rfl, rfl⟩))
  all_goals
    clear hS0 HS hfd h0 h1 h2 h3 h4 h5 h6
    go_wp2
    go_ret
    exact ⟨rfl, HO.out _ _ 1⟩
end
end Go.Proofs.Ytdkbjnnflpopdaa
