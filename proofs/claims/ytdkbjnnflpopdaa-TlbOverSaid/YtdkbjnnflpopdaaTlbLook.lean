/-
  Translations (parapet/tlb): Look; Fill of no hart.
-/
import Derived.Test.YtdkbjnnflpopdaaTlbKeep
namespace Go.Proofs.Ytdkbjnnflpopdaa
open Go.ChangeShapes Go.WideShapes Go.ChangeAt Go.RowKit Go.Maps Go.Shelf
set_option linter.unusedVariables false
section
variable {w w' : World} {t hb ob n size : Nat} {begun : Int} {bs : Nat → Nat} {ls : Nat → List (K2 × K2)} {nx : Nat → Int} {O : List (Int × Sh)} {S : List Nat}
set_option maxRecDepth 100000 in
theorem look_run (T : IsTlb w t hb ob n size begun bs ls nx O) (j : Nat) (hj : j < n) {k : K2} {fv : Value} {is : Bool} 
    (hlk : ∀ W, Only [] w W → (Instr.lookup 59 (.map (some (bs j))) (kV k) true).run Try.prog W = .ok (.tuple #[fv, .bool is]) W) {x y : Int} (hf : fv = .agg #[.int .u32 x, .int .i64 y]) :
    Calls Try.prog 20 #[.pointer (some ⟨t, 0, none⟩), .int .i64 j, .agg #[.int .i64 k.1, .int .i64 k.2]] w fun e w' => e = .returned (.tuple #[.int .u32 x, .bool is]) ∧ Only [] w w' := by
  subst hf
  have HH := hide (fun o1 => show Calls Try.prog 32 #[.pointer (some ⟨t, 0, none⟩), .int .i64 j] (w.alloc o1) fun e w' => e = .returned (.bool true) ∧ w.alloc o1 = w' from by
    have := bhas_is (T.new ((Only.refl [] w).alloc o1)) j
    rwa [decide_eq_true (by omega)] at this)
  have hlk1 : ∀ o1, (Instr.lookup 59 (.map (some (bs j))) (.agg #[.int .i64 k.1, .int .i64 k.2]) true).run Try.prog (w.alloc o1).drew = .ok (.tuple #[.agg #[.int .u32 x, .int .i64 y], .bool is]) (w.alloc o1).drew := fun o1 => hlk _ ((Only.refl [] w).alloc o1).drew
  have hlk2 : ∀ o1 m, (Instr.lookup 59 (.map (some (bs j))) (.agg #[.int .i64 k.1, .int .i64 k.2]) true).run Try.prog ((w.alloc o1).drewN m) = .ok (.tuple #[.agg #[.int .u32 x, .int .i64 y], .bool is]) ((w.alloc o1).drewN m) := fun o1 m => hlk _ (((Only.refl [] w).alloc o1).drewN m)
  have hlk4 : ∀ o1 o2, (Instr.lookup 59 (.map (some (bs j))) (.agg #[.int .i64 k.1, .int .i64 k.2]) true).run Try.prog ((w.alloc o1).alloc o2).drew = .ok (.tuple #[.agg #[.int .u32 x, .int .i64 y], .bool is]) ((w.alloc o1).alloc o2).drew := fun o1 o2 => hlk _ (((Only.refl [] w).alloc o1).alloc o2).drew
  have hc4 : ∀ o1 o2, ((w.alloc o1).alloc o2).cell? ⟨t, 0, none⟩ = some (.slice (some ⟨hb, 0, none⟩) n n) := fun o1 o2 => (T.new (((Only.refl [] w).alloc o1).alloc o2)).blk.cell 0
  have hc5 : ∀ o1 o2, ((w.alloc o1).alloc o2).cell? ⟨hb, j * 2, none⟩ = some (.map (some (bs j))) := fun o1 o2 => ((T.new (((Only.refl [] w).alloc o1).alloc o2)).row.cell _).trans (hRow_map hj)
  have hlk3 : ∀ o1, (Instr.lookup 59 (.map (some (bs j))) (.agg #[.int .i64 k.1, .int .i64 k.2]) true).run Try.prog (w.alloc o1) = .ok (.tuple #[.agg #[.int .u32 x, .int .i64 y], .bool is]) (w.alloc o1) := fun o1 => hlk _ ((Only.refl [] w).alloc o1)
  have hc0 : ∀ o1, (w.alloc o1).cell? ⟨t, 0, none⟩ = some (.slice (some ⟨hb, 0, none⟩) n n) := fun o1 => (T.new ((Only.refl [] w).alloc o1)).blk.cell 0
  have hcm : ∀ o1, (w.alloc o1).cell? ⟨hb, j * 2, none⟩ = some (.map (some (bs j))) := fun o1 => ((T.new ((Only.refl [] w).alloc o1)).row.cell _).trans (hRow_map hj)
  have hk0 : (w.alloc (.cells #[.int .i64 k.1, .int .i64 k.2] 33)).cell? ⟨w.heap.size, 0, none⟩ = some (.int .i64 k.1) := (Blk.new w 33 #[.int .i64 k.1, .int .i64 k.2]).cell 0
  have hk1 : (w.alloc (.cells #[.int .i64 k.1, .int .i64 k.2] 33)).cell? ⟨w.heap.size, 1, none⟩ = some (.int .i64 k.2) := (Blk.new w 33 #[.int .i64 k.1, .int .i64 k.2]).cell 1
  have hjn : (j : Int) < n := by omega
  clear T hlk hj
  go_enter Try.func20, Try.ntmps20
  go_wp2_with (first | (go_at_call 32; refine (HH.out _).mono ?_; rintro e w' ⟨rfl, rfl⟩))
  go_region
  go_wp2
  go_ret2
  exact ⟨rfl, by repeat (first | exact Only.refl _ _ | apply Only.drew | apply Only.drewN | apply Only.alloc)⟩

theorem bLook_is (T : IsTlb w t hb ob n size begun bs ls nx O) (j : Nat) (hj : j < n) {k f : K2} (hp : (k, f) ∈ ls j) :
    Calls Try.prog 20 #[.pointer (some ⟨t, 0, none⟩), .int .i64 j, .agg #[.int .i64 k.1, .int .i64 k.2]] w fun e w' => e = .returned (.tuple #[.int .u32 f.1, .bool true]) ∧ Only [] w w' := by
  obtain ⟨D, hown, H⟩ := (T.hart j hj).own
  exact look_run T j hj (fun W ho => H.look (own_only hown ho (by simp)) hp) rfl

theorem bLook_no (T : IsTlb w t hb ob n size begun bs ls nx O) (j : Nat) (hj : j < n) {k : K2} (hk : k.wf) (hn : k ∉ (ls j).map (·.1)) :
    Calls Try.prog 20 #[.pointer (some ⟨t, 0, none⟩), .int .i64 j, .agg #[.int .i64 k.1, .int .i64 k.2]] w fun e w' => e = .returned (.tuple #[.int .u32 0, .bool false]) ∧ Only [] w w' := by
  obtain ⟨D, hown, H⟩ := (T.hart j hj).own
  exact look_run T j hj (fun W ho => H.look_no (own_only hown ho (by simp)) hk hn) rfl

theorem bFill_bad (T : IsTlb w t hb ob n size begun bs ls nx O) (h : Int) (hh : ¬ (0 ≤ h ∧ h < n)) (k : K2) (e : Int) :
    Calls Try.prog 13 #[.pointer (some ⟨t, 0, none⟩), .int .i64 h, .agg #[.int .i64 k.1, .int .i64 k.2], .int .u32 e] w fun r w' => r = .returned (.int .i64 1) ∧ Only [] w w' := by
  have HC := hide (fun o1 => bclosed_is (T.new ((Only.refl [] w).alloc o1)))
  have HH := hide (fun o1 => show Calls Try.prog 32 #[.pointer (some ⟨t, 0, none⟩), .int .i64 h] (w.alloc o1) fun e w' => e = .returned (.bool false) ∧ w.alloc o1 = w' from by
    have := bhas_is (T.new ((Only.refl [] w).alloc o1)) h
    rwa [decide_eq_false hh] at this)
  clear T hh
  go_enter Try.func13, Try.ntmps13
  go_wp2_with (first | (go_at_call 31; refine (HC.out _).mono ?_; rintro e w' ⟨rfl, rfl⟩) | (go_at_call 32; refine (HH.out _).mono ?_; rintro e w' ⟨rfl, rfl⟩))
  go_ret
  exact ⟨rfl, (Only.refl [] w).alloc _⟩
end
end Go.Proofs.Ytdkbjnnflpopdaa
