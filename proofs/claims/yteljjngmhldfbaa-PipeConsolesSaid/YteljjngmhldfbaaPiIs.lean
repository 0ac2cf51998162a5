/-
  The pipe (parapet/pipe): New, and the calls that only look.
-/
import Derived.Test.YteljjngmhldfbaaPiPure
import Derived.Deep.RegionLaw
namespace Go.Proofs.Yteljjngmhldfbaa
open Go.ChangeShapes Go.WideShapes Go.ChangeAt Go.RowKit
set_option linter.unusedVariables false

@[irreducible] def pipe0 : Array Value := (pipeC (List.replicate 512 0) 0 0 1 1).toArray
unseal pipe0 in
theorem pipe0_is : pipe0 = (pipeC (List.replicate 512 0) 0 0 1 1).toArray := rfl
unseal pipe0 in
theorem build0 (u : World) : (Instr.build 60 #[(0, .bool true), (4, .int .i64 1), (5, .int .i64 1)]).run Try.prog u = .ok (.agg pipe0) u := by kernel_rfl
theorem wpList_build0 {ops : Array Oper} {rest : List Oper} {ds ty ps af} {a : Act} {w : World} {Q : Exit → Act → World → Prop}
    (h : wpList Try.prog ops Q rest (a.put ds (.agg pipe0)) w) : wpList Try.prog ops Q (⟨ds, .build 60 #[(0, .const (.bool true)), (4, .const (.int .i64 1)), (5, .const (.int .i64 1))], ty, ps, af, none⟩ :: rest) a w := by
  refine wpList_plain rfl fun K hK => ?_
  have hb := build0 w
  unfold Oper.wp
  simp [execOp, Act.eval, hb, Result.andThen]
  exact hK _ _ h

/-- A pipe in block g: its ring, what it holds, how often its ends are held. -/
structure IsPi (w : World) (g : Nat) (R : List Int) (f : Nat) (B : List Int) (r q : Int) : Prop where
  blk : Blk w g 60 (pipeC R f B.length r q).toArray
  ring : Ring R f B
  rd : 0 ≤ r ∧ r ≤ 2147483647
  wr : 0 ≤ q ∧ q ≤ 2147483647
def Pi (w : World) (g : Nat) (B : List Int) (r q : Int) : Prop := ∃ R f, IsPi w g R f B r q
section
variable {w w' : World} {g f : Nat} {R B : List Int} {r q : Int} {S : List Nat}
theorem IsPi.c0 (h : IsPi w g R f B r q) : w.cell? ⟨g, 0, none⟩ = some (.bool true) := by rw [h.blk.cell]; exact pipeC_0
theorem IsPi.c1 (h : IsPi w g R f B r q) {i : Nat} (hi : i < 512) : w.cell? ⟨g, 1 + i, none⟩ = some (.int .u8 (gb R i)) := by rw [h.blk.cell]; exact pipeC_byte (by rw [h.ring.len]; exact hi)
theorem IsPi.c513 (h : IsPi w g R f B r q) : w.cell? ⟨g, 513, none⟩ = some (.int .i64 f) := by rw [h.blk.cell]; exact pipeC_far h.ring.len 0
theorem IsPi.c514 (h : IsPi w g R f B r q) : w.cell? ⟨g, 514, none⟩ = some (.int .i64 (B.length : Nat)) := by rw [h.blk.cell]; exact pipeC_far h.ring.len 1
theorem IsPi.c515 (h : IsPi w g R f B r q) : w.cell? ⟨g, 515, none⟩ = some (.int .i64 r) := by rw [h.blk.cell]; exact pipeC_far h.ring.len 2
theorem IsPi.c516 (h : IsPi w g R f B r q) : w.cell? ⟨g, 516, none⟩ = some (.int .i64 q) := by rw [h.blk.cell]; exact pipeC_far h.ring.len 3
theorem IsPi.only (h : IsPi w g R f B r q) (ho : Only S w w') (hs : g ∉ S) : IsPi w' g R f B r q := ⟨h.blk.only ho hs, h.ring, h.rd, h.wr⟩
theorem Pi.only (h : Pi w g B r q) (ho : Only S w w') (hs : g ∉ S) : Pi w' g B r q := by obtain ⟨R, f, h⟩ := h; exact ⟨R, f, h.only ho hs⟩
theorem Pi.lt (h : Pi w g B r q) : g < w.heap.size := by obtain ⟨R, f, h⟩ := h; exact h.blk.lt
theorem Pi.few (h : Pi w g B r q) : B.length ≤ 512 := by obtain ⟨R, f, h⟩ := h; exact h.ring.few
theorem Pi.u8 (h : Pi w g B r q) : U8 B := by obtain ⟨R, f, h⟩ := h; exact h.ring.u8B
theorem Pi.ends (h : Pi w g B r q) : (0 ≤ r ∧ r ≤ 2147483647) ∧ 0 ≤ q ∧ q ≤ 2147483647 := by obtain ⟨R, f, h⟩ := h; exact ⟨h.rd, h.wr⟩
theorem IsPi.setR (h : IsPi w g R f B r q) {r' : Int} (hr : 0 ≤ r' ∧ r' ≤ 2147483647) : IsPi (w.setCell ⟨g, 515, none⟩ (.int .i64 r')) g R f B r' q := by
  refine ⟨?_, h.ring, hr, h.wr⟩
  have := h.blk.set_ 515 (.int .i64 r')
  rw [pipeC_set h.ring.len 2] at this
  exact this
theorem IsPi.setQ (h : IsPi w g R f B r q) {q' : Int} (hq : 0 ≤ q' ∧ q' ≤ 2147483647) : IsPi (w.setCell ⟨g, 516, none⟩ (.int .i64 q')) g R f B r q' := by
  refine ⟨?_, h.ring, h.rd, hq⟩
  have := h.blk.set_ 516 (.int .i64 q')
  rw [pipeC_set h.ring.len 3] at this
  exact this

theorem piNew_is (w : World) : Calls Try.prog 9 #[] w fun e w' => e = .returned (.pointer (some ⟨w.heap.size, 0, none⟩)) ∧ Only [] w w' ∧ Pi w' w.heap.size [] 1 1 := by
  have HF := hide (show Pi (w.alloc (.cells pipe0 60)) w.heap.size [] 1 1 from ⟨_, 0, (by have := Blk.new w 60 pipe0; rw [pipe0_is] at this ⊢; exact this), Ring.new, by decide, by decide⟩)
  have HO := hide ((Only.refl [] w).alloc (.cells pipe0 60))
  go_enter Try.func9, Try.ntmps9
  go_wp2_with (first | (with_reducible refine wp_region_lit (id := 1) ?_) | (with_reducible refine wpList_build0 ?_))
  go_ret
  exact ⟨rfl, HO.out, HF.out⟩
theorem piclosed_is (h : IsPi w g R f B r q) : Calls Try.prog 40 #[.pointer (some ⟨g, 0, none⟩)] w fun e w' => e = .returned (.bool false) ∧ w = w' := by
  have c0 := h.c0
  clear h
  go_enter Try.func40, Try.ntmps40
  go_wp2
  go_ret
  exact ⟨rfl, rfl⟩
theorem piLen_is (h : Pi w g B r q) : Calls Try.prog 17 #[.pointer (some ⟨g, 0, none⟩)] w fun e w' => e = .returned (.int .i64 (B.length : Nat)) ∧ w = w' := by
  obtain ⟨R, f, h⟩ := h
  have c3 := h.c514
  have HC := hide (piclosed_is h)
  clear h
  go_enter Try.func17, Try.ntmps17
  go_wp2_with (go_at_call 40; refine HC.out.mono ?_; rintro e w' ⟨rfl, rfl⟩)
  go_ret
  exact ⟨rfl, rfl⟩
theorem piEnds_is (h : Pi w g B r q) : Calls Try.prog 23 #[.pointer (some ⟨g, 0, none⟩)] w fun e w' => e = .returned (.tuple #[.int .i64 r, .int .i64 q]) ∧ Only [] w w' := by
  obtain ⟨R, f, h⟩ := h
  have c4 := h.c515
  have c5 := h.c516
  have HC := hide (piclosed_is h)
  clear h
  go_enter Try.func23, Try.ntmps23
  go_wp2_with (go_at_call 40; refine HC.out.mono ?_; rintro e w' ⟨rfl, rfl⟩)
  go_region
  go_wp2
  go_ret2
  exact ⟨rfl, by repeat (first | exact Only.refl _ _ | apply Only.drew | apply Only.drewN)⟩
/-- Would a byte not wait? -/
def readyP (B : List Int) (r q : Int) (wr : Bool) : Bool := if wr then decide (B.length < 512) || (r == 0) else decide (0 < B.length) || (q == 0)
theorem piReady_is (h : Pi w g B r q) (b : Bool) : Calls Try.prog 20 #[.pointer (some ⟨g, 0, none⟩), .bool b] w fun e w' => e = .returned (.bool (readyP B r q b)) ∧ w = w' := by
  obtain ⟨R, f, h⟩ := h
  have c3 := h.c514
  have c4 := h.c515
  have c5 := h.c516
  have HC := hide (piclosed_is h)
  clear h
  cases b
  · by_cases h1 : 0 < B.length
    · have k1 : decide (0 < B.length) = true := decide_eq_true h1
      have k2 : decide ((0 : Int) < B.length) = true := decide_eq_true (by omega)
      have HF := hide (show readyP B r q false = true by simp [readyP, h1])
      clear h1
      go_enter Try.func20, Try.ntmps20
      go_wp2_with (go_at_call 40; refine HC.out.mono ?_; rintro e w' ⟨rfl, rfl⟩)
      go_ret
      exact ⟨by rw [HF.out]; rfl, rfl⟩
    · have k1 : decide (0 < B.length) = false := decide_eq_false h1
      have k2 : decide ((0 : Int) < B.length) = false := decide_eq_false (by omega)
      have HF := hide (show readyP B r q false = (q == 0) by simp [readyP, h1])
      clear h1
      go_enter Try.func20, Try.ntmps20
      go_wp2_with (go_at_call 40; refine HC.out.mono ?_; rintro e w' ⟨rfl, rfl⟩)
      go_ret
      exact ⟨by rw [HF.out]; rfl, rfl⟩
  · by_cases h1 : B.length < 512
    · have k1 : decide (B.length < 512) = true := decide_eq_true h1
      have k2 : decide ((B.length : Int) < 512) = true := decide_eq_true (by omega)
      have HF := hide (show readyP B r q true = true by simp [readyP, h1])
      clear h1
      go_enter Try.func20, Try.ntmps20
      go_wp2_with (go_at_call 40; refine HC.out.mono ?_; rintro e w' ⟨rfl, rfl⟩)
      go_ret
      exact ⟨by rw [HF.out]; rfl, rfl⟩
    · have k1 : decide (B.length < 512) = false := decide_eq_false h1
      have k2 : decide ((B.length : Int) < 512) = false := decide_eq_false (by omega)
      have HF := hide (show readyP B r q true = (r == 0) by simp [readyP, h1])
      clear h1
      go_enter Try.func20, Try.ntmps20
      go_wp2_with (go_at_call 40; refine HC.out.mono ?_; rintro e w' ⟨rfl, rfl⟩)
      go_ret
      exact ⟨by rw [HF.out]; rfl, rfl⟩
end
end Go.Proofs.Yteljjngmhldfbaa
